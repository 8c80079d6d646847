/- The law's marks on a list of numbers of the call's own; the look at these; Lists of bytes: as they are read, and of the call's own; the law's comparing, marks and looks. -/
import Derived.Test.YtdhicmbfknagjaaJWT29
namespace Go.Proofs.Ytdhicmbfknagjaa.Ow
set_option maxRecDepth 8000
open Go.RowKit
open Recs
open Ls
set_option linter.unusedVariables false
theorem markIntS_none (A : Option Addr) (c : Nat) (k : Int) (w : World) : Calls Try.prog 19 #[.slice A 0 c, .int .i64 k] w fun e w' => e = .returned (.int .i64 k) ∧ w = w' := by
  go_enter Try.func19, Try.ntmps19
  go_wp2
  go_loop [1, 5] (fun x i => i = .int .i64 0 ∧ x = .int .i64 k) (fun _ _ => 0)
  case atStart => exact ⟨rfl, rfl⟩
  case round =>
    obtain ⟨rfl, rfl⟩ := hrel
    go_wp2
    go_ret
    exact ⟨rfl, rfl⟩
set_option maxHeartbeats 800000 in
theorem markIntS_core (g n c k : Nat) (S : Nat → Prop) (P : Nat → Nat → Prop) (F0 : Nat → Value) (ns : List Int) (w : World) (hn : n ≤ 1048576) (hk : 0 < k) (hk1 : k + tot nI ns ≤ 4000000000000000000) (hSg : S g) (ho : LOpen 3 1 EI w g n c F0 P ns) :
    Calls Try.prog 19 #[.slice (some ⟨g, 0, none⟩) n c, .int .i64 k] w fun e w' => ∃ F, e = .returned (.int .i64 ((k + tot nI ns : Nat) : Int)) ∧ LOpen 3 1 EI w' g n c F P (mL mI nI k ns) ∧ Foot w w' S := by
  have hc := ho.mine.le
  have hlen := Seg.hid ho.len
  have HM : Hid (LOpen 3 1 EI w g n c F0 P (mid mI nI k 0 ns) ∧ Foot w w S) := ⟨by rw [mid_zero]; exact ho, Foot.refl _ _⟩
  have HSG := Seg.hid hSg
  have hkn : k + n ≤ 4000000000000000000 := by rw [nI_tot, hlen.out] at hk1; exact hk1
  have KT : Hid (∀ j, j ≤ n → tot nI (ns.take j) = j) := fun j hj => by rw [nI_tot, List.length_take, hlen.out]; omega
  have KE : Hid (tot nI ns = n) := by show _ = _; rw [nI_tot, hlen.out]
  clear ho hSg hk1
  go_enter Try.func19, Try.ntmps19
  go_wp2
  go_loopw [1, 5] (fun x i wr => ∃ (j : Nat) (F : Nat → Value), j ≤ n ∧ i = .int .i64 j ∧ x = .int .i64 ((k : Int) + j) ∧ Hid (LOpen 3 1 EI wr g n c F P (mid mI nI k j ns) ∧ Foot w wr S)) (fun _ i _ => n - (intOf i).toNat)
  case atStart => exact ⟨0, F0, Nat.zero_le _, rfl, by simp, HM.out⟩
  case round =>
    clear HM
    obtain ⟨j, F, hj, rfl, rfl, HR⟩ := hrel
    by_cases hlt : j < n
    · have h0 : (0 : Int) ≤ (j : Int) := by omega
      have h1 : (j : Int) < (n : Int) := by omega
      have R0 : Hid (Rnd 3 1 g n c (P j) w wr wr S F j [F (j * 1 + 0)]) := Rnd.start HR.out.1.mine HR.out.2 rfl (fun q hq => by
        match q, hq with
        | 0, _ => rfl)
      have d0 : wr.cell? ⟨g, j, none⟩ = some (F j) := by have := HR.out.1.mine.cell j (by omega); exact this
      have f0 := HR.out.1.mine.frozen j
      have R1 : Hid (Rnd 3 1 g n c (P j) w wr (wr.setCell ⟨g, j, none⟩ (.int .i64 ((k : Int) + j))) S F j [.int .i64 ((k : Int) + j)]) := by
        have := R0.out.set HSG.out 0 (by omega) (.int .i64 ((k : Int) + j))
        simp only [Nat.mul_one, Nat.add_zero] at this
        exact this
      obtain ⟨F', L', F2⟩ := Rnd.done keepsOI (t := mI (k + tot nI (ns.take j)) (ns.getD j default)) HR.out.1 hlt R1.out (by show Value.int .i64 _ = .int .i64 _; rw [KT.out j hj, mI]; simp)
      rw [mid_step mI nI (by rw [hlen.out]; exact hlt)] at L'
      have L2 := Seg.hid L'
      have F3 := Seg.hid F2
      clear L' F2
      go_wp2
      go_roundw
      case rel => exact ⟨j + 1, F', by omega, by go_num, by go_num, L2.out, F3.out⟩
      case measure => simp [intOf]; omega
    · have : j = n := by omega
      subst this
      have E := HR.out
      rw [show mid mI nI k j ns = mL mI nI k ns by rw [← hlen.out]; exact mid_all _ _ _ _] at E
      have EH' := Seg.hid E
      clear E
      go_wp2
      go_ret
      exact ⟨F, Seg.ret_int (by have := KE.out; omega), EH'.out⟩
theorem markIntS_own (x : Int) (k : Nat) (hx : x = (k : Int)) (S : Nat → Prop) (ns : List Int) (w : World) {v : Value} (hk : 0 < k) (hk1 : k + tot nI ns ≤ 4000000000000000000) (hv : IntsOwn w S v ns) :
    Calls Try.prog 19 #[v, .int .i64 x] w fun e w' => e = .returned (.int .i64 ((k + tot nI ns : Nat) : Int)) ∧ IntsOwn w' S v (mL mI nI k ns) ∧ Foot w w' S := by
  subst hx
  obtain ⟨h0, A, c, rfl, h⟩ := hv
  by_cases hz : ns.length = 0
  · obtain rfl := List.length_eq_zero_iff.1 hz
    exact (markIntS_none A c k w).mono fun e w' ⟨h1, h2⟩ => by
      subst h2
      exact ⟨by rw [h1]; rfl, LOwn.nil _ _ _ _, Foot.refl _ _⟩
  obtain ⟨g, F, P, rfl, h3, h4, h5⟩ := h.resolve_left hz
  refine (markIntS_core g ns.length c k S P F ns w h0 hk hk1 h3 h5).mono fun e w' ⟨F', a1, a2, a3⟩ => ⟨a1, ⟨by rw [mL_len]; exact h0, _, c, by rw [mL_len], .inr ⟨g, F', P, rfl, h3, fun i hi => h4 i (by rw [mL_len] at hi; exact hi), ?_⟩⟩, a3⟩
  rw [mL_len]
  exact a2
end Go.Proofs.Ytdhicmbfknagjaa.Ow
namespace Go.Proofs.Ytdhicmbfknagjaa.Ls
set_option maxRecDepth 8000
open Go.RowKit
set_option linter.unusedVariables false
def EY : Elt Int := fun _ _ f n => f 0 = .int .u8 n
theorem keepsY : Keeps 1 EY := fun w w' S f f' t h hk hf => by show f' 0 = _; rw [hf 0 (by omega)]; exact h
theorem growsY : Grows EY := fun w S S' f t h hs => h
abbrev BytesAt := LAt 1 EY
theorem byte_cell {w : World} {S : Nat → Prop} {g o n : Nat} {ns : List Int} {F : Nat → Nat → Value} (h : ∀ i, i < n → ∀ j, j < 1 → w.cell? ⟨g, o + i * 1 + j, none⟩ = some (F i j)) (he : ∀ i, i < n → EY w S (F i) (ns.getD i default)) : ∀ i, i < n → w.cell? ⟨g, o + i, none⟩ = some (.int .u8 (ns.getD i default)) := fun i hi => by
  have := h i hi 0 (by omega)
  rw [show F i 0 = _ from he i hi] at this
  simpa using this
theorem eqByteS_any (v v' : Value) (ns : List Int) (w : World) (S S' : Nat → Prop) (hv : BytesAt w S v ns) (hv' : BytesAt w S' v' ns) (hS : ∀ g, S g → g < w.heap.size) (hS' : ∀ g, S' g → g < w.heap.size) (hl : ns.length ≤ 140737488355328) :
    Calls Try.prog 25 #[v, v'] w fun e w' => e = .returned (.bool true) ∧ Below w.heap.size w w' := by
  obtain ⟨hn, A, c, rfl, h⟩ := hv
  obtain ⟨hn', A', c', rfl, h'⟩ := hv'
  by_cases hz : ns.length = 0
  · rw [hz]
    exact (Same.eq_none A A' c c' w).mono fun e w' ⟨h1, d, h2⟩ => ⟨h1, by rw [h2]; exact ⟨rfl, rfl, rfl, Nat.le_refl _, fun _ _ => rfl⟩⟩
  obtain ⟨g, o, F, rfl, hg, hc, hcell, hel⟩ := h.resolve_left hz
  obtain ⟨g', o', F', rfl, hg', hc', hcell', hel'⟩ := h'.resolve_left hz
  refine (Same.eq_core g o g' o' ns.length c c' (fun i => ns.getD i default) (fun i => ns.getD i default) w hl hc hc' (byte_cell hcell hel) (byte_cell hcell' hel')).mono fun e w' ⟨⟨b, h1, h2⟩, d, h3⟩ => ?_
  have hb : b = true := by
    rcases h2 with ⟨h2, _⟩ | ⟨_, i, _, h2⟩
    · exact h2
    · exact absurd rfl h2
  subst hb
  exact ⟨h1, by rw [h3]; exact ⟨rfl, rfl, rfl, Nat.le_refl _, fun _ _ => rfl⟩⟩
end Go.Proofs.Ytdhicmbfknagjaa.Ls
namespace Go.Proofs.Ytdhicmbfknagjaa.Ow
open Go.RowKit
open Ls
open Seg (B marks)
set_option linter.unusedVariables false
def mY (k : Nat) (_ : Int) : Int := (k : Int) % 256
def nY (_ : Int) : Nat := 1
theorem nY_tot : ∀ ns : List Int, tot nY ns = ns.length
  | [] => rfl
  | _ :: r => by simp only [tot, nY_tot r, nY, List.length_cons]; omega
abbrev YsOwn := LOwn 5 1 EY
theorem keepsOY : KeepsO 1 EY := keepsO_of keepsY
theorem atOY (w : World) (S : Nat → Prop) (f : Nat → Value) (u : Int) (h : EY w S f u) : EY w S f u := h
/-- A row of bytes is a list of the call's own. -/
theorem bytes_own {w : World} {b g c n : Nat} {ns : List Int} {S : Nat → Prop} (h : w.ownsRow b 5 1 (.slice (some ⟨g, 0, none⟩) n c) n (B ns)) (hn : n = ns.length) (hl : ns.length ≤ 1048576) (hS : S g) : YsOwn w S (.slice (some ⟨g, 0, none⟩) ns.length c) ns := by
  subst hn
  refine ⟨hl, _, c, rfl, .inr ⟨g, fun q => .int .u8 (ns.getD q default), fun _ _ => False, rfl, hS, fun _ _ _ h => h.elim, ⟨?_, rfl, fun i hi => ?_, fun _ _ _ h => h.elim, fun _ _ _ _ _ _ h => h.elim⟩⟩⟩
  · have e : (List.range (ns.length * 1)).map (fun q => Value.int .u8 (ns.getD q default)) = B ns := List.ext_getElem (by simp [B]) fun i h1 h2 => by
      have hi : i < ns.length := by simpa [B] using h2
      simp [B, hi]
    unfold MineC
    rw [e]
    refine ⟨h.1, ?_⟩
    rcases h.2 with ⟨hn, _⟩ | ⟨g', cap, cur, h', hb, hg, hnc, hcm, hcs, htake⟩
    · simp at hn
    · have h'' := h'
      simp only [Value.slice.injEq, Option.some.injEq, Addr.mk.injEq, and_true, true_and] at h''
      obtain ⟨rfl, rfl⟩ := h''
      exact .inr ⟨_, _, cur, h', Nat.le_refl _, hg, hnc, hcm, hcs, htake⟩
  · show Value.int .u8 _ = _
    simp
theorem own_bytes {w : World} {g c : Nat} {F : Nat → Value} {P : Nat → Nat → Prop} {ns : List Int} (h : LOpen 5 1 EY w g ns.length c F P ns) : w.ownsRow g 5 1 (.slice (some ⟨g, 0, none⟩) ns.length c) ns.length (B ns) := by
  have e : (List.range (ns.length * 1)).map F = B ns := List.ext_getElem (by simp [B]) fun i h1 h2 => by
    have hi : i < ns.length := by simpa [B] using h2
    have := h.el i hi
    have h3 : F i = .int .u8 (ns.getD i default) := by simpa [EY] using this
    simp [B, h3, hi]
  have := h.mine
  unfold MineC at this
  rwa [e] at this
theorem marks_eq (k : Nat) (ns : List Int) : marks (k : Int) ns.length = mL mY nY k ns := List.ext_getElem (by rw [Seg.marks_len, mL_len]) fun i h1 h2 => by
  have hi : i < ns.length := by simpa [Seg.marks_len] using h1
  have a := Seg.marks_get (k : Int) ns.length i hi
  have b := mL_get mY nY (k := k) hi
  rw [nY_tot, List.length_take, Nat.min_eq_left (Nat.le_of_lt hi), mY] at b
  simp only [List.getD_eq_getElem?_getD, List.getElem?_eq_getElem h1, Option.getD_some] at a
  simp only [List.getD_eq_getElem?_getD, List.getElem?_eq_getElem h2, Option.getD_some] at b
  rw [a, b]
  push_cast
  rfl
set_option maxHeartbeats 400000 in
theorem markByteS_none (A : Option Addr) (c : Nat) (k : Int) (w : World) : Calls Try.prog 28 #[.slice A 0 c, .int .i64 k] w fun e w' => e = .returned (.int .i64 k) ∧ w = w' := by
  go_enter Try.func28, Try.ntmps28
  go_wp2
  go_loop [1, 5] (fun x i => i = .int .i64 0 ∧ x = .int .i64 k) (fun _ _ => 0)
  case atStart => exact ⟨rfl, rfl⟩
  case round =>
    obtain ⟨rfl, rfl⟩ := hrel
    go_wp2
    go_ret
    exact ⟨rfl, rfl⟩
theorem markByteS_own (x : Int) (k : Nat) (hx : x = (k : Int)) (S : Nat → Prop) (ns : List Int) (w : World) {v : Value} (hk : 0 < k ∧ k ≤ 1000) (hk1 : k + tot nY ns ≤ 4000000000000000000) (hv : YsOwn w S v ns) :
    Calls Try.prog 28 #[v, .int .i64 x] w fun e w' => e = .returned (.int .i64 ((k + tot nY ns : Nat) : Int)) ∧ YsOwn w' S v (mL mY nY k ns) ∧ Foot w w' S := by
  subst hx
  obtain ⟨h0, A, c, rfl, h⟩ := hv
  by_cases hz : ns.length = 0
  · obtain rfl := List.length_eq_zero_iff.1 hz
    exact (markByteS_none A c k w).mono fun e w' ⟨h1, h2⟩ => by
      subst h2
      exact ⟨by rw [h1]; rfl, LOwn.nil _ _ _ _, Foot.refl _ _⟩
  obtain ⟨g, F, P, rfl, h3, h4, h5⟩ := h.resolve_left hz
  refine (Same.mark_any g g ns.length c ns k w rfl (by omega) (by omega) (by omega) (own_bytes h5)).mono fun e w' ⟨a1, a2, a3⟩ => ⟨?_, ?_, a3.os, a3.tape, a3.output, a3.size, fun y hy hn => a3.block y hy (fun e => hn (by cases e; exact h3))⟩
  · rw [a1, nY_tot]
    push_cast
    rfl
  · rw [marks_eq] at a2
    have := bytes_own a2 (mL_len _ _ _ _).symm (by rw [mL_len]; exact h0) h3
    rwa [mL_len] at this
set_option maxHeartbeats 400000 in
theorem heldByteS_none (A : Option Addr) (c : Nat) (k : Int) (w : World) : Calls Try.prog 29 #[.slice A 0 c, .int .i64 k] w fun e w' => e = .returned (.int .i64 k) ∧ w = w' := by
  go_enter Try.func29, Try.ntmps29
  go_wp2
  go_loop [1, 5] (fun x i => i = .int .i64 0 ∧ x = .int .i64 k) (fun _ _ => 0)
  case atStart => exact ⟨rfl, rfl⟩
  case round =>
    obtain ⟨rfl, rfl⟩ := hrel
    go_wp2
    go_ret
    exact ⟨rfl, rfl⟩
set_option maxHeartbeats 400000 in
theorem heldByteS_core (g o n c k : Nat) (w : World) (hc : n ≤ c) (hn : n ≤ 140737488355328) (hk1 : k ≤ 1000) (ha : ∀ i, i < n → w.cell? ⟨g, o + i, none⟩ = some (.int .u8 (((k : Int) + i) % 256))) :
    Calls Try.prog 29 #[.slice (some ⟨g, o, none⟩) n c, .int .i64 (k : Int)] w fun e w' => e = .returned (.int .i64 ((k : Int) + n)) ∧ w = w' := by
  have HA := Seg.hid ha
  clear ha
  go_enter Try.func29, Try.ntmps29
  go_wp2
  go_loop [1, 5] (fun x i => ∃ j : Nat, j ≤ n ∧ i = .int .i64 j ∧ x = .int .i64 ((k : Int) + j)) (fun _ i => n - (intOf i).toNat)
  case atStart => exact ⟨0, Nat.zero_le _, rfl, by simp⟩
  case round =>
    obtain ⟨j, hj, rfl, rfl⟩ := hrel
    by_cases hlt : j < n
    · have hc := HA.out j hlt
      have h0 : (0 : Int) ≤ (j : Int) := by omega
      have h1 : (j : Int) < (n : Int) := by omega
      go_wp2
      go_round
      case rel => exact ⟨j + 1, by omega, by go_num, by go_num⟩
      case measure => simp [intOf]; omega
    · have : j = n := by omega
      subst this
      go_wp2
      go_ret
      exact ⟨rfl, rfl⟩
theorem heldByteS_at (x : Int) (k : Nat) (hx : x = (k : Int)) (S : Nat → Prop) (ns : List Int) (w : World) {v : Value} (hk : 0 < k ∧ k ≤ 1000) (hk1 : k + tot nY ns ≤ 1000000000000) (hS : ∀ y, S y → y < w.heap.size) (hv : BytesAt w S v (mL mY nY k ns)) :
    Calls Try.prog 29 #[v, .int .i64 x] w fun e w' => e = .returned (.int .i64 ((k + tot nY ns : Nat) : Int)) ∧ Below w.heap.size w w' := by
  subst hx
  obtain ⟨hn, A, c, rfl, h⟩ := hv
  rw [mL_len] at hn h ⊢
  rw [nY_tot] at hk1 ⊢
  by_cases hz : ns.length = 0
  · rw [hz]
    exact (heldByteS_none A c k w).mono fun e w' ⟨h1, h2⟩ => ⟨by rw [h1]; simp, h2 ▸ Below.refl _ _⟩
  obtain ⟨g, o, F, rfl, hg, hc, hcell, hel⟩ := h.resolve_left hz
  refine (heldByteS_core g o ns.length c k w hc (by omega) hk.2 (fun i hi => ?_)).mono fun e w' ⟨h1, h2⟩ => ⟨by rw [h1]; simp, h2 ▸ Below.refl _ _⟩
  have := byte_cell hcell hel i hi
  rw [this, mL_get mY nY hi, nY_tot, List.length_take, Nat.min_eq_left (Nat.le_of_lt hi), mY]
  simp
end Go.Proofs.Ytdhicmbfknagjaa.Ow
