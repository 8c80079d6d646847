/- Lists of Gone of the call's own; the law's marks on them; What stands between two rounds of settle. -/
import Derived.Test.YtidggillganafaaJS22
import Derived.Test.YtidggillganafaaJS17
import Derived.Test.YtidggillganafaaJS19
import Derived.Test.YtidggillganafaaJS21
namespace Go.Proofs.Ytidggillganafaa.Ow
set_option maxRecDepth 8000
open Go.RowKit
open Recs
open Ls
set_option linter.unusedVariables false
def EOGon : Elt Gon := EGon
theorem keepsOGon : KeepsO 3 EOGon := keepsO_of keepsGon
theorem atOGon (w : World) (S : Nat → Prop) (f : Nat → Value) (u : Gon) (h : EOGon w S f u) : EGon w S f u := h
abbrev GonsOwn := LOwn 46 3 EOGon
def mGon (k : Nat) (u : Gon) : Gon := ⟨(((k + 0) : Nat) : Int), (((k + 1) : Nat) : Int), (((k + 2) : Nat) : Int)⟩
def nGon (u : Gon) : Nat := 3
theorem markGoneS_none (A : Option Addr) (c : Nat) (k : Int) (w : World) : Calls Try.prog 14 #[.slice A 0 c, .int .i64 k] w fun e w' => e = .returned (.int .i64 k) ∧ w = w' := by
  go_enter Try.func14, Try.ntmps14
  go_wp2
  go_loop [1, 5] (fun x i => i = .int .i64 0 ∧ x = .int .i64 k) (fun _ _ => 0)
  case atStart => exact ⟨rfl, rfl⟩
  case round =>
    obtain ⟨rfl, rfl⟩ := hrel
    go_wp2
    go_ret
    exact ⟨rfl, rfl⟩
set_option maxHeartbeats 3200000 in
theorem markGoneS_core (g n c k : Nat) (S : Nat → Prop) (P : Nat → Nat → Prop) (F0 : Nat → Value) (us : List Gon) (w : World) (hn : n ≤ 1048576) (hk : 0 < k) (hk1 : k + tot nGon us ≤ 4000000000000000000) (hSg : S g) (hSP : ∀ i, i < n → ∀ y, P i y → S y) (ho : LOpen 46 3 EOGon w g n c F0 P us) :
    Calls Try.prog 14 #[.slice (some ⟨g, 0, none⟩) n c, .int .i64 k] w fun e w' => ∃ F, e = .returned (.int .i64 ((k + tot nGon us : Nat) : Int)) ∧ LOpen 46 3 EOGon w' g n c F P (mL mGon nGon k us) ∧ Foot w w' S := by
  have hc := ho.mine.le
  have hlen := Seg.hid ho.len
  have HM : Hid (LOpen 46 3 EOGon w g n c F0 P (mid mGon nGon k 0 us) ∧ Foot w w S) := ⟨by rw [mid_zero]; exact ho, Foot.refl _ _⟩
  have HSG := Seg.hid hSg; have HSP := Seg.hid hSP
  have KL : Hid (∀ j, j < n → k + tot nGon (us.take j) + nGon (us.getD j default) ≤ 4000000000000000000) := fun j hj => by
    have a1 := tot_take nGon (ts := us) (j := j) (by rw [hlen.out]; exact hj)
    have a2 := tot_le nGon us (j + 1)
    omega
  have KE : Hid (k + tot nGon (us.take n) = k + tot nGon us) := by show _ = _; rw [← hlen.out, List.take_length]
  clear ho hSg hSP hk1
  go_enter Try.func14, Try.ntmps14
  go_wp2
  go_loopw [1, 5] (fun x i wr => ∃ (j : Nat) (F : Nat → Value), j ≤ n ∧ i = .int .i64 j ∧ x = .int .i64 ((k + tot nGon (us.take j) : Nat) : Int) ∧ Hid (LOpen 46 3 EOGon wr g n c F P (mid mGon nGon k j us) ∧ Foot w wr S)) (fun _ i _ => n - (intOf i).toNat)
  case atStart => exact ⟨0, F0, Nat.zero_le _, rfl, rfl, HM.out⟩
  case round =>
    clear HM
    obtain ⟨j, F, hj, rfl, rfl, HR⟩ := hrel
    by_cases hlt : j < n
    · have h0 : (0 : Int) ≤ (j : Int) := by omega
      have h1 : (j : Int) < (n : Int) := by omega
      have EL := HR.out.1.el j hlt
      rw [mid_get mGon nGon (by rw [hlen.out]; exact hlt)] at EL
      have MS := mid_step mGon nGon (k := k) (ts := us) (j := j) (by rw [hlen.out]; exact hlt)
      have TK := Seg.hid (tot_take nGon (ts := us) (j := j) (by rw [hlen.out]; exact hlt))
      have hxb := KL.out j hlt
      have HAP := Seg.hid (HR.out.1.apart j hlt)
      obtain ⟨x, hx⟩ : ∃ x, k + tot nGon (us.take j) = x := ⟨_, rfl⟩
      have HX := Seg.hid hx
      rw [hx] at hxb MS ⊢
      have hx0 : 0 < x := by omega
      clear hx
      have MS' := Seg.hid MS
      clear MS
      generalize us.getD j default = u at *
      have HXB := Seg.hid hxb
      clear hxb
      obtain ⟨s0, s1, s2⟩ := EL
      have R0 : Hid (Rnd 46 3 g n c (P j) w wr wr S F j [.int .i64 u.producer, .int .i64 u.first, .int .i64 u.last]) := Rnd.start HR.out.1.mine HR.out.2 rfl (fun q hq => by
        match q, hq with
        | 0, _ => exact s0
        | 1, _ => exact s1
        | 2, _ => exact s2)
      clear s0 s1 s2
      have HB_x : Hid (x + 3 ≤ 4000000000000000000) := by show _ ≤ _; have := HXB.out; simp only [nGon] at this; omega
      have hc_x : x + 4 ≤ 4000000000000000000 + 4 := by have := HB_x.out; omega
      have hd_x : x + 3 ≤ 4000000000000000000 := by have := HB_x.out; omega
      have d0 : (wr).cell? ⟨g, j * 3, none⟩ = some (.int .i64 u.producer) := R0.out.cell hlt 0 (by omega)
      have f0 : (wr).frozen? ⟨g, j * 3, none⟩ = false := R0.out.frozen _
      have R1 : Hid (Rnd 46 3 g n c (P j) w wr (wr.setCell ⟨g, j * 3, none⟩ (.int .i64 ((x : Int)))) S F j [.int .i64 ((x : Int)), .int .i64 u.first, .int .i64 u.last]) := R0.out.set HSG.out 0 (by omega) (.int .i64 ((x : Int)))
      have d1 : ((wr.setCell ⟨g, j * 3, none⟩ (.int .i64 ((x : Int))))).cell? ⟨g, j * 3 + 1, none⟩ = some (.int .i64 u.first) := R1.out.cell hlt 1 (by omega)
      have f1 : ((wr.setCell ⟨g, j * 3, none⟩ (.int .i64 ((x : Int))))).frozen? ⟨g, j * 3 + 1, none⟩ = false := R1.out.frozen _
      have R2 : Hid (Rnd 46 3 g n c (P j) w wr ((wr.setCell ⟨g, j * 3, none⟩ (.int .i64 ((x : Int)))).setCell ⟨g, j * 3 + 1, none⟩ (.int .i64 ((x : Int) + 1))) S F j [.int .i64 ((x : Int)), .int .i64 ((x : Int) + 1), .int .i64 u.last]) := R1.out.set HSG.out 1 (by omega) (.int .i64 ((x : Int) + 1))
      have d2 : (((wr.setCell ⟨g, j * 3, none⟩ (.int .i64 ((x : Int)))).setCell ⟨g, j * 3 + 1, none⟩ (.int .i64 ((x : Int) + 1)))).cell? ⟨g, j * 3 + 2, none⟩ = some (.int .i64 u.last) := R2.out.cell hlt 2 (by omega)
      have f2 : (((wr.setCell ⟨g, j * 3, none⟩ (.int .i64 ((x : Int)))).setCell ⟨g, j * 3 + 1, none⟩ (.int .i64 ((x : Int) + 1)))).frozen? ⟨g, j * 3 + 2, none⟩ = false := R2.out.frozen _
      have R3 : Hid (Rnd 46 3 g n c (P j) w wr (((wr.setCell ⟨g, j * 3, none⟩ (.int .i64 ((x : Int)))).setCell ⟨g, j * 3 + 1, none⟩ (.int .i64 ((x : Int) + 1))).setCell ⟨g, j * 3 + 2, none⟩ (.int .i64 ((x : Int) + 1 + 1))) S F j [.int .i64 ((x : Int)), .int .i64 ((x : Int) + 1), .int .i64 ((x : Int) + 1 + 1)]) := R2.out.set HSG.out 2 (by omega) (.int .i64 ((x : Int) + 1 + 1))
      have EE : Hid (EOGon (((wr.setCell ⟨g, j * 3, none⟩ (.int .i64 ((x : Int)))).setCell ⟨g, j * 3 + 1, none⟩ (.int .i64 ((x : Int) + 1))).setCell ⟨g, j * 3 + 2, none⟩ (.int .i64 ((x : Int) + 1 + 1))) (P j) (fun q => [.int .i64 ((x : Int)), .int .i64 ((x : Int) + 1), .int .i64 ((x : Int) + 1 + 1)].getD q default) (mGon x u)) := by
        exact ⟨congrArg (Value.int .i64) (show (x : Int) = (((x + 0) : Nat) : Int) by omega), congrArg (Value.int .i64) (show (x : Int) + 1 = (((x + 1) : Nat) : Int) by omega), congrArg (Value.int .i64) (show (x : Int) + 1 + 1 = (((x + 2) : Nat) : Int) by omega)⟩
      obtain ⟨F', L', F2⟩ := Rnd.done keepsOGon (t := mGon x u) HR.out.1 hlt R3.out EE.out
      rw [MS'.out] at L'
      have L2 := Seg.hid L'
      have F3 := Seg.hid F2
      clear L' F2
      have HKK : Hid ((x : Int) + 1 + 1 + 1 = ((k + tot nGon (us.take (j + 1)) : Nat) : Int)) := by
        show _ = _
        have a1 := TK.out; have a2 := HX.out; simp only [nGon] at a1; omega
      go_wp2
      clear d0 f0 d1 f1 d2 f2
      go_roundw
      case rel => exact ⟨j + 1, F', by omega, by go_num, congrArg (Value.int .i64) HKK.out, L2.out, F3.out⟩
      case measure => simp [intOf]; omega
    · have : j = n := by omega
      subst this
      have E := HR.out
      rw [show mid mGon nGon k j us = mL mGon nGon k us by rw [← hlen.out]; exact mid_all _ _ _ _] at E
      have EH' := Seg.hid E
      clear E
      rw [KE.out]
      go_wp2
      go_ret
      exact ⟨F, rfl, EH'.out⟩
theorem markGoneS_own (x : Int) (k : Nat) (hx : x = (k : Int)) (S : Nat → Prop) (us : List Gon) (w : World) {v : Value} (hk : 0 < k) (hk1 : k + tot nGon us ≤ 4000000000000000000) (hv : GonsOwn w S v us) :
    Calls Try.prog 14 #[v, .int .i64 x] w fun e w' => e = .returned (.int .i64 ((k + tot nGon us : Nat) : Int)) ∧ GonsOwn w' S v (mL mGon nGon k us) ∧ Foot w w' S := by
  subst hx
  obtain ⟨h0, A, c, rfl, h⟩ := hv
  by_cases hz : us.length = 0
  · obtain rfl := List.length_eq_zero_iff.1 hz
    exact (markGoneS_none A c k w).mono fun e w' ⟨h1, h2⟩ => by
      subst h2
      exact ⟨by rw [h1]; rfl, LOwn.nil _ _ _ _, Foot.refl _ _⟩
  obtain ⟨g, F, P, rfl, h3, h4, h5⟩ := h.resolve_left hz
  refine (markGoneS_core g us.length c k S P F us w h0 hk hk1 h3 h4 h5).mono fun e w' ⟨F', a1, a2, a3⟩ => ⟨a1, ⟨by rw [mL_len]; exact h0, _, c, by rw [mL_len], .inr ⟨g, F', P, rfl, h3, fun i hi => h4 i (by rw [mL_len] at hi; exact hi), ?_⟩⟩, a3⟩
  rw [mL_len]
  exact a2
end Go.Proofs.Ytidggillganafaa.Ow
namespace Go.Proofs.Ytidggillganafaa.SdJ
set_option maxRecDepth 8000
open Go.RowKit Go.Shelf Go.Maps
open Ls Ow SdQ SdM SdL SdP
open Recs (hsz below1 below2 chain chainD Bat batVal)
open BfP BfI
set_option linter.unusedVariables false
def gcells (l : List Gon) : List Value := l.flatMap fun g => [.int .i64 g.producer, .int .i64 g.first, .int .i64 g.last]
theorem gcells_app (l : List Gon) (g : Gon) : gcells (l ++ [g]) = gcells l ++ [.int .i64 g.producer, .int .i64 g.first, .int .i64 g.last] := by simp [gcells]
theorem gcells_len : ∀ l : List Gon, (gcells l).length = l.length * 3
  | [] => rfl
  | g :: r => by
    have := gcells_len r
    simp only [gcells, List.flatMap_cons, List.length_append, List.length_cons, List.length_nil] at this ⊢
    omega
theorem gcells_one (l : List Gon) : ∀ v ∈ gcells l, v.oneCell' = true := fun v hv => by
  obtain ⟨g, _, h⟩ := List.mem_flatMap.1 hv
  simp only [List.mem_cons, List.not_mem_nil, or_false] at h
  rcases h with h | h | h <;> (subst h; rfl)
theorem gcells_get (l : List Gon) (i : Nat) (hi : i < l.length) : ∀ q, q < 3 → (gcells l).getD (i * 3 + q) default = [Value.int .i64 (l.getD i default).producer, .int .i64 (l.getD i default).first, .int .i64 (l.getD i default).last].getD q default := by
  induction l generalizing i with
  | nil => exact absurd hi (by simp)
  | cons g r ih =>
    intro q hq
    have e : gcells (g :: r) = [.int .i64 g.producer, .int .i64 g.first, .int .i64 g.last] ++ gcells r := by simp [gcells]
    cases i with
    | zero =>
      rw [e, Nat.zero_mul, Nat.zero_add]
      match q, hq with
      | 0, _ => rfl
      | 1, _ => rfl
      | 2, _ => rfl
    | succ j =>
      have h1 := ih j (by simpa using hi) q hq
      rw [e, List.getD_eq_getElem?_getD, List.getElem?_append_right (by simp; omega)]
      rw [List.getD_eq_getElem?_getD] at h1
      have h2 : (j + 1) * 3 + q - [Value.int .i64 g.producer, .int .i64 g.first, .int .i64 g.last].length = j * 3 + q := by simp; omega
      rw [h2, h1]
      simp
theorem run_app (s : List Gon × List Gon) (l : List Bat) (b : Bat) : runB s (l ++ [b]) = stp (runB s l) b := by simp [runB]
theorem step_fst (s : List Gon × List Gon) (b : Bat) : (stp s b).1 = opn2 s.1 b := by
  unfold stp opn2
  split
  · cases h : fnd b.producer s.1 with
    | none => exact (del_none h).symm
    | some f => rfl
  · split <;> rfl
theorem step_snd (s : List Gon × List Gon) (b : Bat) : (stp s b).2 = if ((psd s.1 b).2 && abort b) = true then s.2 ++ [(psd s.1 b).1] else s.2 := by
  unfold stp psd
  split
  · cases h : fnd b.producer s.1 with
    | none => simp
    | some f =>
      by_cases ha : abort b = true
      · simp [ha]
      · simp [ha]
  · split <;> simp
theorem uniq_run : ∀ (l : List Bat) (s : List Gon × List Gon), Uniq s.1 → Uniq (runB s l).1
  | [], s, h => h
  | b :: r, s, h => uniq_run r (stp s b) (by rw [step_fst]; exact uniq_opn h b)
/-- A row of what was aborted is a list of the call's own. -/
theorem own_gons {w : World} {base : Nat} {v : Value} {l : List Gon} (S : Nat → Prop) (h : w.ownsRow base 46 3 v l.length (gcells l)) (hn : l.length ≤ 1048576) (hS : ∀ g, v.ownBlock = some g → S g) : GonsOwn w S v l := by
  refine ⟨by omega, ?_⟩
  rcases h.2 with ⟨rfl, h0⟩ | ⟨g, cap, cur, rfl, hb, hg, hnc, hcm, hcs, htake⟩
  · exact ⟨none, 0, by rw [h0], .inl h0⟩
  · refine ⟨_, cap, rfl, .inr ⟨g, fun q => (gcells l).getD q default, fun _ _ => False, rfl, hS g rfl, fun _ _ _ h => h.elim, ?_⟩⟩
    refine ⟨⟨?_, .inr ⟨g, cap, cur, rfl, Nat.le_refl _, hg, hnc, hcm, hcs, ?_⟩⟩, rfl, fun i hi => ?_, fun _ _ _ h => h.elim, fun _ _ _ _ _ _ h => h.elim⟩
    · simp
    · rw [htake]
      apply List.ext_getElem
      · simp [gcells_len]
      · intro j h1 h2
        simp [List.getD_eq_getElem?_getD, h1]
    · have G := gcells_get l i hi
      exact ⟨G 0 (by omega), G 1 (by omega), G 2 (by omega)⟩
theorem five (w : World) (a b c d e : Obj) : (((((w.alloc a).alloc b).alloc c).alloc d).alloc e).heap[w.heap.size]? = some a ∧ (((((w.alloc a).alloc b).alloc c).alloc d).alloc e).heap[w.heap.size + 1]? = some b ∧ (((((w.alloc a).alloc b).alloc c).alloc d).alloc e).heap[w.heap.size + 1 + 1]? = some c ∧ (((((w.alloc a).alloc b).alloc c).alloc d).alloc e).heap[w.heap.size + 1 + 1 + 1]? = some d ∧ (((((w.alloc a).alloc b).alloc c).alloc d).alloc e).heap[w.heap.size + 1 + 1 + 1 + 1]? = some e ∧ (((((w.alloc a).alloc b).alloc c).alloc d).alloc e).heap.size = w.heap.size + 5 := by
  have h5 : (((((w.alloc a).alloc b).alloc c).alloc d).alloc e).heap.size = w.heap.size + 5 := by simp
  have h1 : ((((w.alloc a).alloc b).alloc c).alloc d).heap.size = w.heap.size + 1 + 1 + 1 + 1 := by simp
  have h2 : (((w.alloc a).alloc b).alloc c).heap.size = w.heap.size + 1 + 1 + 1 := by simp
  have h3 : ((w.alloc a).alloc b).heap.size = w.heap.size + 1 + 1 := by simp
  have h4 : (w.alloc a).heap.size = w.heap.size + 1 := by simp
  have k0 := heap_alloc_new w a
  have k1 := heap_alloc_new (w.alloc a) b
  have k2 := heap_alloc_new ((w.alloc a).alloc b) c
  have k3 := heap_alloc_new (((w.alloc a).alloc b).alloc c) d
  have k4 := heap_alloc_new ((((w.alloc a).alloc b).alloc c).alloc d) e
  rw [h4] at k1; rw [h3] at k2; rw [h2] at k3; rw [h1] at k4
  have o1 := (below1 (w.alloc a) b).block w.heap.size (by omega)
  have o2 := fun x (hx : x < w.heap.size + 1 + 1) => (below1 ((w.alloc a).alloc b) c).block x (by omega)
  have o3 := fun x (hx : x < w.heap.size + 1 + 1 + 1) => (below1 (((w.alloc a).alloc b).alloc c) d).block x (by omega)
  have o4 := fun x (hx : x < w.heap.size + 1 + 1 + 1 + 1) => (below1 ((((w.alloc a).alloc b).alloc c).alloc d) e).block x (by omega)
  exact ⟨(o4 _ (by omega)).trans ((o3 _ (by omega)).trans ((o2 _ (by omega)).trans (o1.trans k0))), (o4 _ (by omega)).trans ((o3 _ (by omega)).trans ((o2 _ (by omega)).trans k1)), (o4 _ (by omega)).trans ((o3 _ (by omega)).trans k2), (o4 _ (by omega)).trans k3, k4, h5⟩
/-- What stands: the map, its variable, what was aborted so far; all else as it was in w2. -/
structure JG (w w2 : World) (bm b4 b5 g0 : Nat) (n : Nat) (st gs : List Gon) (W : World) : Prop where
  map : MapAt W bm n st
  r4 : W.heap[b4]? = some (.cells #[.map (some bm)] 71 (0, 0))
  ex : ∃ gv, W.heap[b5]? = some (.cells #[gv] 33 (0, 0)) ∧ W.ownsRow w.heap.size 46 3 gv gs.length (gcells gs) ∧ (∀ x, gv.ownBlock = some x → x = g0 ∨ w2.heap.size ≤ x)
  keep : ∀ x, x < w2.heap.size → x ≠ bm → x ≠ b5 → x ≠ g0 → W.heap[x]? = w2.heap[x]?
  os : W.os = w2.os ∧ W.tape = w2.tape ∧ W.output = w2.output
  size : w2.heap.size ≤ W.heap.size
/-- The blocks' order. -/
structure Ord (w2 : World) (bm b4 b5 g0 : Nat) : Prop where
  l1 : bm < w2.heap.size
  l2 : b4 < w2.heap.size
  l3 : b5 < w2.heap.size
  l4 : g0 < w2.heap.size
  n1 : bm ≠ b4
  n2 : bm ≠ b5
  n3 : bm ≠ g0
  n4 : b4 ≠ b5
  n5 : b4 ≠ g0
  n6 : b5 ≠ g0
section
variable {w w2 W W' : World} {bm b4 b5 g0 n : Nat} {st gs : List Gon}
theorem map_kept {row : Option Nat} (h : MapAt W bm n st) (hg : W.grownBy W' row) (hne : some bm ≠ row) : MapAt W' bm n st := by
  obtain ⟨D, h1, h2⟩ := h
  exact ⟨D, h1.kept hg hne, h2⟩
theorem row_kept {base k : Nat} {v : Value} {xs : List Value} (h : W.ownsRow base 46 3 v k xs) (hs : ∀ x, v.ownBlock = some x → W'.heap[x]? = W.heap[x]?) : W'.ownsRow base 46 3 v k xs := by
  refine ⟨h.1, ?_⟩
  rcases h.2 with h' | ⟨g, cap, cur, rfl, hb, hg, r⟩
  · exact .inl h'
  · exact .inr ⟨g, cap, cur, rfl, hb, (hs g rfl).trans hg, r⟩
theorem row_cells {base k : Nat} {v : Value} {xs : List Value} (h : W.ownsRow base 46 3 v k xs) : ∀ x, v.ownBlock = some x → ∃ cs t, W.heap[x]? = some (.cells cs t (0, 0)) := fun x hx => by
  rcases h.2 with ⟨rfl, _⟩ | ⟨g, cap, cur, rfl, hb, hg, r⟩
  · cases hx
  · simp only [Value.ownBlock, Option.some.injEq] at hx
    subst hx
    exact ⟨_, _, hg⟩
/-- A block that the row leaves alone. -/
theorem JG.grown (o : Ord w2 bm b4 b5 g0) (h : JG w w2 bm b4 b5 g0 n st gs W) {row : Option Nat} (hg : W.grownBy W' row) (hr : ∀ r, row = some r → w2.heap.size ≤ r ∧ ∃ ob : Obj, W.heap[r]? = some ob ∧ ob.isCells = false) : JG w w2 bm b4 b5 g0 n st gs W' := by
  have hz := h.size
  have nr : ∀ x, x < w2.heap.size → some x ≠ row := fun x hx e => by have := (hr x e.symm).1; omega
  obtain ⟨gv, x1, x2, x3⟩ := h.ex
  refine ⟨map_kept h.map hg (nr bm o.l1), (hg.block b4 (Nat.lt_of_lt_of_le o.l2 hz) (nr b4 o.l2)).trans h.r4, ⟨gv, (hg.block b5 (Nat.lt_of_lt_of_le o.l3 hz) (nr b5 o.l3)).trans x1, row_kept x2 (fun x hx => ?_), x3⟩, fun x a1 a2 a3 a4 => (hg.block x (Nat.lt_of_lt_of_le a1 hz) (nr x a1)).trans (h.keep x a1 a2 a3 a4), ⟨hg.os.trans h.os.1, hg.tape.trans h.os.2.1, hg.output.trans h.os.2.2⟩, Nat.le_trans hz hg.size⟩
  obtain ⟨cs, t, hc⟩ := row_cells x2 x hx
  refine hg.block x (Array.getElem?_eq_some_iff.1 hc).1 (fun e => ?_)
  obtain ⟨_, ob, h1, h2⟩ := hr x e.symm
  rw [hc] at h1
  cases h1
  cases h2
theorem JG.later (o : Ord w2 bm b4 b5 g0) (h : JG w w2 bm b4 b5 g0 n st gs W) (b : Below W.heap.size W W') : JG w w2 bm b4 b5 g0 n st gs W' :=
  h.grown o (row := none) ⟨b.os, b.tape, b.output, b.size, fun k hk _ => b.block k hk⟩ (fun r e => by cases e)
/-- One batch has passed the map. -/
theorem JG.pass (o : Ord w2 bm b4 b5 g0) (h : JG w w2 bm b4 b5 g0 n st gs W) {n' : Nat} {st' : List Gon} (hg : W.grownBy W' (some bm)) (hm : MapAt W' bm n' st') : JG w w2 bm b4 b5 g0 n' st' gs W' := by
  have hz := h.size
  have nr : ∀ x, x ≠ bm → some x ≠ some bm := fun x hx e => hx (by cases e; rfl)
  obtain ⟨gv, x1, x2, x3⟩ := h.ex
  refine ⟨hm, (hg.block b4 (Nat.lt_of_lt_of_le o.l2 hz) (nr b4 (Ne.symm o.n1))).trans h.r4, ⟨gv, (hg.block b5 (Nat.lt_of_lt_of_le o.l3 hz) (nr b5 (Ne.symm o.n2))).trans x1, row_kept x2 (fun x hx => ?_), x3⟩, fun x a1 a2 a3 a4 => (hg.block x (Nat.lt_of_lt_of_le a1 hz) (nr x a2)).trans (h.keep x a1 a2 a3 a4), ⟨hg.os.trans h.os.1, hg.tape.trans h.os.2.1, hg.output.trans h.os.2.2⟩, Nat.le_trans hz hg.size⟩
  obtain ⟨cs, t, hc⟩ := row_cells x2 x hx
  refine hg.block x (Array.getElem?_eq_some_iff.1 hc).1 (nr x (fun e => ?_))
  have := x3 x hx
  have := o.l1
  have := o.n3
  omega
/-- One more was aborted. -/
theorem JG.push (o : Ord w2 bm b4 b5 g0) {w8 w9 : World} {gv v' : Value} {g : Gon} (h : JG w w2 bm b4 b5 g0 n st gs W) (x1 : W.heap[b5]? = some (.cells #[gv] 33 (0, 0))) (x2 : W.ownsRow w.heap.size 46 3 gv gs.length (gcells gs)) (x3 : ∀ x, gv.ownBlock = some x → x = g0 ∨ w2.heap.size ≤ x) (b8 : Below W.heap.size W w8)
    (hown : w9.ownsRow w.heap.size 46 3 v' (gs.length + 1) (gcells gs ++ [.int .i64 g.producer, .int .i64 g.first, .int .i64 g.last])) (gr : w8.grownBy w9 gv.ownBlock) (hat : v'.ownBlock = gv.ownBlock ∨ v'.ownBlock = some w8.heap.size) :
    (w9.cell? ⟨b5, 0, none⟩ = some gv ∧ w9.frozen? ⟨b5, 0, none⟩ = false) ∧ JG w w2 bm b4 b5 g0 n st (gs ++ [g]) (w9.setCell ⟨b5, 0, none⟩ v') := by
  have hz := h.size
  have s8 := b8.size
  have vb : ∀ x, gv.ownBlock = some x → x ≠ bm ∧ x ≠ b4 ∧ x ≠ b5 ∧ (x < w2.heap.size → x = g0) := fun x hx => by
    have := x3 x hx
    have := o.l1; have := o.l2; have := o.l3; have := o.n3; have := o.n5; have := o.n6
    omega
  have kp : ∀ x, x < W.heap.size → (∀ y, gv.ownBlock = some y → x ≠ y) → w9.heap[x]? = W.heap[x]? := fun x hx hn => (gr.block x (by omega) (fun e => hn x e.symm rfl)).trans (b8.block x hx)
  have e5 : w9.heap[b5]? = some (.cells #[gv] 33 (0, 0)) := (kp b5 (Nat.lt_of_lt_of_le o.l3 hz) (fun y hy e => (vb y hy).2.2.1 e.symm)).trans x1
  refine ⟨⟨cell_of_row w9 b5 0 _ _ (0, 0) e5, frozen_of_row w9 b5 0 _ _ e5⟩, ?_, ?_, ⟨v', heap_setCell_same w9 b5 0 _ _ _ e5, ?_, ?_⟩, fun x a1 a2 a3 a4 => ?_, ⟨gr.os.trans (b8.os.trans h.os.1), gr.tape.trans (b8.tape.trans h.os.2.1), gr.output.trans (b8.output.trans h.os.2.2)⟩, by have := gr.size; simp; omega⟩
  · obtain ⟨D, m1, m2⟩ := h.map
    have m3 := (m1.kept (row := none) (w' := w8) ⟨b8.os, b8.tape, b8.output, b8.size, fun k hk _ => b8.block k hk⟩ (by simp)).kept gr (fun e => (vb bm e.symm).1 rfl)
    exact ⟨D, m3.setCell (a := ⟨b5, 0, none⟩) o.n2 _, m2⟩
  · rw [heap_setCell_other _ _ _ _ (by show b4 ≠ b5; exact o.n4)]
    exact (kp b4 (Nat.lt_of_lt_of_le o.l2 hz) (fun y hy e => (vb y hy).2.1 e.symm)).trans h.r4
  · rw [gcells_app, List.length_append]
    refine row_kept hown (fun x hx => heap_setCell_other _ _ _ _ ?_)
    show x ≠ b5
    rcases hat with e | e
    · rw [e] at hx; exact (vb x hx).2.2.1
    · rw [e] at hx
      simp only [Option.some.injEq] at hx
      have := o.l3
      omega
  · intro x hx
    rcases hat with e | e
    · rw [e] at hx; exact x3 x hx
    · rw [e] at hx
      simp only [Option.some.injEq] at hx
      right; omega
  · rw [heap_setCell_other _ _ _ _ (by show x ≠ b5; exact a3)]
    exact (kp x (by omega) (fun y hy e => a4 (e.trans ((vb y hy).2.2.2 (by omega))))).trans (h.keep x a1 a2 a3 a4)
end
theorem form_row {w : World} {base n : Nat} {v : Value} {xs : List Value} (h : w.ownsRow base 46 3 v (n + 1) xs) : ∃ g cap, v = .slice (some ⟨g, 0, none⟩) (n + 1) cap := by
  rcases h.2 with ⟨_, h0⟩ | ⟨g, cap, cur, rfl, _⟩
  · omega
  · exact ⟨g, cap, rfl⟩
/-- What a round changes at most: the map, the variable of what was aborted, and its row. -/
structure Ch (W w' : World) (bm b5 : Nat) (gv : Value) : Prop where
  os : w'.os = W.os
  tape : w'.tape = W.tape
  output : w'.output = W.output
  size : W.heap.size ≤ w'.heap.size
  block : ∀ k, k < W.heap.size → k ≠ bm → k ≠ b5 → (∀ y, gv.ownBlock = some y → k ≠ y) → w'.heap[k]? = W.heap[k]?
section
variable {w w2 W W' w8 w9 : World} {bm b4 b5 g0 : Nat} {gv : Value}
theorem Ch.of_pass (hg : W.grownBy W' (some bm)) : Ch W W' bm b5 gv := ⟨hg.os, hg.tape, hg.output, hg.size, fun k hk h1 _ _ => hg.block k hk (fun e => h1 (by cases e; rfl))⟩
theorem Ch.later (h : Ch W w8 bm b5 gv) (b : Below w8.heap.size w8 w9) : Ch W w9 bm b5 gv := ⟨b.os.trans h.os, b.tape.trans h.tape, b.output.trans h.output, Nat.le_trans h.size b.size, fun k hk h1 h2 h3 => (b.block k (Nat.lt_of_lt_of_le hk h.size)).trans (h.block k hk h1 h2 h3)⟩
theorem Ch.grown (h : Ch W w8 bm b5 gv) (g : w8.grownBy w9 gv.ownBlock) : Ch W w9 bm b5 gv := ⟨g.os.trans h.os, g.tape.trans h.tape, g.output.trans h.output, Nat.le_trans h.size g.size, fun k hk h1 h2 h3 => (g.block k (Nat.lt_of_lt_of_le hk h.size) (fun e => h3 k e.symm rfl)).trans (h.block k hk h1 h2 h3)⟩
theorem Ch.set (h : Ch W w8 bm b5 gv) (v : Value) : Ch W (w8.setCell ⟨b5, 0, none⟩ v) bm b5 gv := ⟨h.os, h.tape, h.output, by simpa using h.size, fun k hk h1 h2 h3 => (heap_setCell_other _ _ _ _ (by show k ≠ b5; exact h2)).trans (h.block k hk h1 h2 h3)⟩
theorem Ch.keeps (o : Ord w2 bm b4 b5 g0) (h : Ch W W' bm b5 gv) {base k : Nat} {xs : List Value} (x2 : W.ownsRow base 46 3 gv k xs) : KeepsFrom w2.heap.size W W' := by
  refine ⟨h.size, fun q ob h1 h2 h3 => ?_⟩
  have l1 := o.l1; have l3 := o.l3
  refine (h.block q (Array.getElem?_eq_some_iff.1 h2).1 (by omega) (by omega) (fun y hy e => ?_)).trans h2
  obtain ⟨cs, t, hc⟩ := row_cells x2 y hy
  rw [← e, h2] at hc
  cases hc
  cases h3
theorem Ch.kp {V : Nat → Prop} (hV : ∀ k, V k ↔ (k = bm ∨ k = b5 ∨ k = g0)) (h : Ch W W' bm b5 gv) (x3 : ∀ x, gv.ownBlock = some x → x = g0 ∨ w2.heap.size ≤ x) : Kp V w2.heap.size W W' := by
  refine ⟨h.os, h.tape, h.output, h.size, fun k hk hn => ?_⟩
  have hv : ¬ (k = bm ∨ k = b5 ∨ k = g0) := fun e => hn (.inl ((hV k).2 e))
  have hl : ¬ w2.heap.size ≤ k := fun e => hn (.inr e)
  exact h.block k hk (by omega) (by omega) (fun y hy e => by have := x3 y hy; omega)
end
/-- Between two rounds. -/
def JS (w w2 : World) (bm b4 b5 g0 : Nat) {w0 : World} {lo b : Nat} (pre : List (It w0 lo b)) (W : World) : Prop := JG w w2 bm b4 b5 g0 pre.length (runB ([], []) (pre.map bt)).1 (runB ([], []) (pre.map bt)).2 W
theorem gs_le (l : List Bat) : ∀ s : List Gon × List Gon, (runB s l).2.length ≤ s.2.length + l.length := by
  induction l with
  | nil => intro s; simp [runB]
  | cons b r ih =>
    intro s
    have h1 := ih (stp s b)
    have h2 : (stp s b).2.length ≤ s.2.length + 1 := by
      rw [step_snd]
      split
      · simp
      · omega
    show (runB (stp s b) r).2.length ≤ _
    simp only [List.length_cons]
    omega
theorem ok_flags {b : Bat} (h : BOk.batOk b = true) : (0 ≤ b.flags ∧ b.flags ≤ 7) ∧ I64' b.producer ∧ I64' b.base := by
  unfold BOk.batOk at h
  simp only [Bool.and_eq_true] at h
  have h1 := h.1.1.1.1
  simp only [BOk.okB1, BOk.inR, Bool.and_eq_true, decide_eq_true_eq] at h1
  unfold I64'
  omega
end Go.Proofs.Ytidggillganafaa.SdJ
