/- Several rows of the call's own that grow beside each other; The law's marks on a list of numbers of the call's own; the look at these. -/
import Derived.Test.YtkibaimemomjpaaJQ18
namespace Go.Proofs.Ytkibaimemomjpaa.Ow
set_option maxRecDepth 8000
open Go.RowKit
open Recs
open Ls
set_option linter.unusedVariables false
structure Ent where
  ty : Nat
  sz : Nat
  v : Value
  n : Nat
  xs : List Value
  deriving Inhabited
theorem owns_keep {w w' : World} {B e s n : Nat} {v : Value} {xs : List Value} (h : w.ownsRow B e s v n xs) (hk : ∀ x, v.ownBlock = some x → w'.heap[x]? = w.heap[x]?) : w'.ownsRow B e s v n xs := by
  refine ⟨h.1, ?_⟩
  rcases h.2 with hn | ⟨g, cap, cur, rfl, hb, hg, rest⟩
  · exact .inl hn
  · exact .inr ⟨g, cap, cur, rfl, hb, by rw [hk g rfl]; exact hg, rest⟩
structure Rws (B : Nat) (w : World) (L : List Ent) : Prop where
  own : ∀ i, i < L.length → w.ownsRow B (L.getD i default).ty (L.getD i default).sz (L.getD i default).v (L.getD i default).n (L.getD i default).xs
  apart : ∀ i j, i < L.length → j < L.length → i ≠ j → ∀ x, (L.getD i default).v.ownBlock = some x → (L.getD j default).v.ownBlock ≠ some x
theorem Rws.blk {B : Nat} {w : World} {L : List Ent} (h : Rws B w L) (i : Nat) (hi : i < L.length) (x : Nat) (hx : (L.getD i default).v.ownBlock = some x) : B ≤ x ∧ x < w.heap.size := World.ownsRow.lt (h.own i hi) x hx
theorem Rws.keep {B : Nat} {w w' : World} {L : List Ent} (h : Rws B w L) (hk : ∀ x, B ≤ x → x < w.heap.size → w'.heap[x]? = w.heap[x]?) : Rws B w' L :=
  ⟨fun i hi => owns_keep (h.own i hi) (fun x hx => hk x (h.blk i hi x hx).1 (h.blk i hi x hx).2), h.apart⟩
theorem Rws.push {B : Nat} {wr w8 w9 : World} {L : List Ent} {i : Nat} {e : Ent} {g cap H : Nat} (h : Rws B wr L) (hi : i < L.length) (h8 : ∀ x, x < wr.heap.size → w8.heap[x]? = wr.heap[x]?) (s8 : wr.heap.size ≤ w8.heap.size) (gr : w8.grownBy w9 (L.getD i default).v.ownBlock)
    (hown : w9.ownsRow B e.ty e.sz e.v e.n e.xs) (hv : e.v = .slice (some ⟨g, 0, none⟩) e.n cap) (hat : (L.getD i default).v.ownBlock = some g ∨ g = H) (hH : wr.heap.size ≤ H) : Rws B w9 (L.set i e) := by
  have get : ∀ j, j ≠ i → (L.set i e).getD j default = L.getD j default := fun j hj => getD_set_other e hj
  have geti : (L.set i e).getD i default = e := getD_set_same e hi
  have hvb : e.v.ownBlock = some g := by rw [hv]; rfl
  have new : ∀ j, j < L.length → j ≠ i → (L.getD j default).v.ownBlock ≠ some g := fun j hj hji hx => by
    rcases hat with h1 | h1
    · exact h.apart i j hi hj (Ne.symm hji) g h1 hx
    · have := (h.blk j hj g hx).2
      omega
  refine ⟨fun j hj => ?_, fun j k hj hk hjk x hx hx' => ?_⟩
  · rw [List.length_set] at hj
    by_cases e1 : j = i
    · subst e1
      rw [geti]; exact hown
    · rw [get j e1]
      refine owns_keep (h.own j hj) (fun x hx => ?_)
      have hb := h.blk j hj x hx
      exact (gr.block x (by omega) (fun e2 => h.apart i j hi hj (Ne.symm e1) x e2.symm hx)).trans (h8 x hb.2)
  · rw [List.length_set] at hj hk
    by_cases e1 : j = i
    · subst e1
      rw [geti, hvb] at hx
      rw [get k (Ne.symm hjk)] at hx'
      rw [← hx] at hx'
      exact new k hk (Ne.symm hjk) hx'
    · rw [get j e1] at hx
      by_cases e2 : k = i
      · subst e2
        rw [geti, hvb] at hx'
        rw [← hx'] at hx
        exact new j hj e1 hx
      · rw [get k e2] at hx'
        exact h.apart j k hj hk hjk x hx hx'
/-- A row of numbers is a list of the call's own. -/
theorem ints_own {w : World} {B n : Nat} {v : Value} {ns : List Int} (h : w.ownsRow B 3 1 v n (ns.map (Value.int .i64))) (hl : ns.length ≤ 1048576) : IntsOwn w (fun y => v.ownBlock = some y) v ns := by
  have hn : ns.length = n := by have := h.1; simpa using this
  subst hn
  refine ⟨hl, ?_⟩
  rcases h.2 with ⟨rfl, h0⟩ | ⟨g, cap, cur, rfl, hb, hg, hnc, hcm, hcs, htake⟩
  · exact ⟨none, 0, by rw [h0], .inl h0⟩
  · have e : (List.range (ns.length * 1)).map (fun q => Value.int .i64 (ns.getD q default)) = ns.map (Value.int .i64) := List.ext_getElem (by simp) fun i h1 h2 => by
      have hi : i < ns.length := by simpa using h2
      simp [hi]
    refine ⟨_, cap, rfl, .inr ⟨g, fun q => .int .i64 (ns.getD q default), fun _ _ => False, rfl, rfl, fun _ _ _ h => h.elim, ⟨?_, rfl, fun i hi => ?_, fun _ _ _ h => h.elim, fun _ _ _ _ _ _ h => h.elim⟩⟩⟩
    · unfold MineC
      rw [e]
      exact ⟨h.1, .inr ⟨g, cap, cur, rfl, Nat.le_refl _, hg, hnc, hcm, hcs, htake⟩⟩
    · show Value.int .i64 _ = _
      simp
end Go.Proofs.Ytkibaimemomjpaa.Ow
namespace Go.Proofs.Ytkibaimemomjpaa.Ow
set_option maxRecDepth 8000
open Go.RowKit
open Recs
open Ls
set_option linter.unusedVariables false
theorem markIntS_none (A : Option Addr) (c : Nat) (k : Int) (w : World) : Calls Try.prog 14 #[.slice A 0 c, .int .i64 k] w fun e w' => e = .returned (.int .i64 k) ∧ w = w' := by
  go_enter Try.func14, Try.ntmps14
  go_wp2
  go_loop [1, 5] (fun x i => i = .int .i64 0 ∧ x = .int .i64 k) (fun _ _ => 0)
  case atStart => exact ⟨rfl, rfl⟩
  case round =>
    obtain ⟨rfl, rfl⟩ := hrel
    go_wp2
    go_ret
    exact ⟨rfl, rfl⟩
set_option maxHeartbeats 800000 in
theorem markIntS_core (g n c k : Nat) (S : Nat → Prop) (P : Nat → Nat → Prop) (F0 : Nat → Value) (ns : List Int) (w : World) (hn : n ≤ 1048576) (hk : 0 < k) (hk1 : k + tot nI ns ≤ 4000000000000000000) (hSg : S g) (ho : LOpen 3 1 EI w g n c F0 P ns) :
    Calls Try.prog 14 #[.slice (some ⟨g, 0, none⟩) n c, .int .i64 k] w fun e w' => ∃ F, e = .returned (.int .i64 ((k + tot nI ns : Nat) : Int)) ∧ LOpen 3 1 EI w' g n c F P (mL mI nI k ns) ∧ Foot w w' S := by
  have hc := ho.mine.le
  have hlen := Seg.hid ho.len
  have HM : Hid (LOpen 3 1 EI w g n c F0 P (mid mI nI k 0 ns) ∧ Foot w w S) := ⟨by rw [mid_zero]; exact ho, Foot.refl _ _⟩
  have HSG := Seg.hid hSg
  have hkn : k + n ≤ 4000000000000000000 := by rw [nI_tot, hlen.out] at hk1; exact hk1
  have KT : Hid (∀ j, j ≤ n → tot nI (ns.take j) = j) := fun j hj => by rw [nI_tot, List.length_take, hlen.out]; omega
  have KE : Hid (tot nI ns = n) := by show _ = _; rw [nI_tot, hlen.out]
  clear ho hSg hk1
  go_enter Try.func14, Try.ntmps14
  go_wp2
  go_loopw [1, 5] (fun x i wr => ∃ (j : Nat) (F : Nat → Value), j ≤ n ∧ i = .int .i64 j ∧ x = .int .i64 ((k : Int) + j) ∧ Hid (LOpen 3 1 EI wr g n c F P (mid mI nI k j ns) ∧ Foot w wr S)) (fun _ i _ => n - (intOf i).toNat)
  case atStart => exact ⟨0, F0, Nat.zero_le _, rfl, by simp, HM.out⟩
  case round =>
    clear HM
    obtain ⟨j, F, hj, rfl, rfl, HR⟩ := hrel
    by_cases hlt : j < n
    · have h0 : (0 : Int) ≤ (j : Int) := by omega
      have h1 : (j : Int) < (n : Int) := by omega
      have R0 : Hid (Rnd 3 1 g n c (P j) w wr wr S F j [F (j * 1 + 0)]) := Rnd.start HR.out.1.mine HR.out.2 rfl (fun q hq => by
        match q, hq with
        | 0, _ => rfl)
      have d0 : wr.cell? ⟨g, j, none⟩ = some (F j) := by have := HR.out.1.mine.cell j (by omega); exact this
      have f0 := HR.out.1.mine.frozen j
      have R1 : Hid (Rnd 3 1 g n c (P j) w wr (wr.setCell ⟨g, j, none⟩ (.int .i64 ((k : Int) + j))) S F j [.int .i64 ((k : Int) + j)]) := by
        have := R0.out.set HSG.out 0 (by omega) (.int .i64 ((k : Int) + j))
        simp only [Nat.mul_one, Nat.add_zero] at this
        exact this
      obtain ⟨F', L', F2⟩ := Rnd.done keepsOI (t := mI (k + tot nI (ns.take j)) (ns.getD j default)) HR.out.1 hlt R1.out (by show Value.int .i64 _ = .int .i64 _; rw [KT.out j hj, mI]; simp)
      rw [mid_step mI nI (by rw [hlen.out]; exact hlt)] at L'
      have L2 := Seg.hid L'
      have F3 := Seg.hid F2
      clear L' F2
      go_wp2
      go_roundw
      case rel => exact ⟨j + 1, F', by omega, by go_num, by go_num, L2.out, F3.out⟩
      case measure => simp [intOf]; omega
    · have : j = n := by omega
      subst this
      have E := HR.out
      rw [show mid mI nI k j ns = mL mI nI k ns by rw [← hlen.out]; exact mid_all _ _ _ _] at E
      have EH' := Seg.hid E
      clear E
      go_wp2
      go_ret
      exact ⟨F, Seg.ret_int (by have := KE.out; omega), EH'.out⟩
theorem markIntS_own (x : Int) (k : Nat) (hx : x = (k : Int)) (S : Nat → Prop) (ns : List Int) (w : World) {v : Value} (hk : 0 < k) (hk1 : k + tot nI ns ≤ 4000000000000000000) (hv : IntsOwn w S v ns) :
    Calls Try.prog 14 #[v, .int .i64 x] w fun e w' => e = .returned (.int .i64 ((k + tot nI ns : Nat) : Int)) ∧ IntsOwn w' S v (mL mI nI k ns) ∧ Foot w w' S := by
  subst hx
  obtain ⟨h0, A, c, rfl, h⟩ := hv
  by_cases hz : ns.length = 0
  · obtain rfl := List.length_eq_zero_iff.1 hz
    exact (markIntS_none A c k w).mono fun e w' ⟨h1, h2⟩ => by
      subst h2
      exact ⟨by rw [h1]; rfl, LOwn.nil _ _ _ _, Foot.refl _ _⟩
  obtain ⟨g, F, P, rfl, h3, h4, h5⟩ := h.resolve_left hz
  refine (markIntS_core g ns.length c k S P F ns w h0 hk hk1 h3 h5).mono fun e w' ⟨F', a1, a2, a3⟩ => ⟨a1, ⟨by rw [mL_len]; exact h0, _, c, by rw [mL_len], .inr ⟨g, F', P, rfl, h3, fun i hi => h4 i (by rw [mL_len] at hi; exact hi), ?_⟩⟩, a3⟩
  rw [mL_len]
  exact a2
end Go.Proofs.Ytkibaimemomjpaa.Ow
