/- One Part of the call's own; the law's marks on it; A copier's list of its own, filled one by one, by sets; Head: the law's copiers answer memory of their own. -/
import Derived.Test.YtggjinjadllapaaJSF43
import Derived.Test.YtggjinjadllapaaJSF24
import Derived.Test.YtggjinjadllapaaJSF41
import Derived.Test.YtggjinjadllapaaJSF19
namespace Go.Proofs.Ytggjinjadllapaa.Ow
set_option maxRecDepth 8000
open Go.RowKit
open Recs
open Ls
open SegW (Sg)
set_option linter.unusedVariables false
def EOPrt : Elt Prt := fun w S f u => (f 1 = .int .i64 u.leader ∧ f 2 = .int .i64 u.epoch ∧ f 5 = .int .i64 u.least) ∧ ∃ Q : Nat → Nat → Prop, (∀ i y, Q i y → S y) ∧ (∀ i j, i ≠ j → ∀ y, Q i y → ¬ Q j y) ∧ RplsOwn w (Q 0) (f 0) u.reps ∧ IntsOwn w (Q 3) (f 3) u.insync ∧ IntsOwn w (Q 4) (f 4) u.known
theorem keepsOPrt : KeepsO 6 EOPrt := fun w w' S f f' t h hs hk hf => by
  obtain ⟨⟨s1, s2, s5⟩, Q, q1, q2, l0, l3, l4⟩ := h
  exact ⟨⟨by rw [hf 1 (by omega)]; exact s1, by rw [hf 2 (by omega)]; exact s2, by rw [hf 5 (by omega)]; exact s5⟩, Q, q1, q2, by rw [hf 0 (by omega)]; exact l0.keep keepsORpl hs (fun g hg => hk g (q1 _ g hg)), by rw [hf 3 (by omega)]; exact l3.keep keepsOI hs (fun g hg => hk g (q1 _ g hg)), by rw [hf 4 (by omega)]; exact l4.keep keepsOI hs (fun g hg => hk g (q1 _ g hg))⟩
theorem atOPrt (w : World) (S : Nat → Prop) (f : Nat → Value) (u : Prt) (h : EOPrt w S f u) : EPrt w S f u := by
  obtain ⟨⟨s1, s2, s5⟩, Q, q1, q2, l0, l3, l4⟩ := h
  exact ⟨(LOwn.lat growsRpl atORpl l0).mono growsRpl (q1 0), s1, s2, (LOwn.lat growsI (fun _ _ _ _ h => h) l3).mono growsI (q1 3), (LOwn.lat growsI (fun _ _ _ _ h => h) l4).mono growsI (q1 4), s5⟩
def PrtOwn (w : World) (S : Nat → Prop) (v : Value) (u : Prt) : Prop := ∃ f, v = .agg (arrPrt f) ∧ EOPrt w S f u
theorem PrtOwn.at {w : World} {S : Nat → Prop} {v : Value} {u : Prt} (h : PrtOwn w S v u) : PrtAt w S v u := by
  obtain ⟨f, h1, h2⟩ := h
  exact ⟨f, h1, atOPrt _ _ _ _ h2⟩
theorem PrtOwn.keep {w w' : World} {S : Nat → Prop} {v : Value} {u : Prt} (h : PrtOwn w S v u) (hs : w.heap.size ≤ w'.heap.size) (hk : ∀ g, S g → w'.heap[g]? = w.heap[g]?) : PrtOwn w' S v u := by
  obtain ⟨f, h1, h2⟩ := h
  exact ⟨f, h1, keepsOPrt _ _ _ _ _ _ h2 hs hk (fun _ _ => rfl)⟩
def mPrt (k : Nat) (u : Prt) : Prt := ⟨mL mRpl nRpl (k) u.reps, u.leader, u.epoch, mL mI nI (k + tot nRpl u.reps) u.insync, mL mI nI (k + tot nRpl u.reps + tot nI u.insync) u.known, u.least⟩
def nPrt (u : Prt) : Nat := tot nRpl u.reps + tot nI u.insync + tot nI u.known
set_option maxHeartbeats 1600000 in
theorem markPart_own (x : Int) (k : Nat) (hx : x = (k : Int)) (S : Nat → Prop) (u : Prt) (w : World) {v : Value} (hk : 0 < k) (hk1 : k + nPrt u ≤ 4000000000000000000) (hS : ∀ y, S y → y < w.heap.size) (hv : PrtOwn w S v u) :
    Calls Try.prog 10 #[v, .int .i64 x] w fun e w' => e = .returned (.int .i64 ((k + nPrt u : Nat) : Int)) ∧ PrtOwn w' S v (mPrt k u) ∧ Foot w w' S := by
  subst hx
  obtain ⟨f, rfl, ⟨s1, s2, s5⟩, Q, q1, q2, l0, l3, l4⟩ := hv
  obtain ⟨A0, c0, g0⟩ := l0.form
  have O0_0 : Hid (RplsOwn w (Q 0) (.slice A0 u.reps.length c0) u.reps) := by rw [← g0]; exact l0
  obtain ⟨A3, c3, g3⟩ := l3.form
  have O0_3 : Hid (IntsOwn w (Q 3) (.slice A3 u.insync.length c3) u.insync) := by rw [← g3]; exact l3
  obtain ⟨A4, c4, g4⟩ := l4.form
  have O0_4 : Hid (IntsOwn w (Q 4) (.slice A4 u.known.length c4) u.known) := by rw [← g4]; exact l4
  have ER : arrPrt f = #[.slice A0 u.reps.length c0, .int .i64 u.leader, .int .i64 u.epoch, .slice A3 u.insync.length c3, .slice A4 u.known.length c4, .int .i64 u.least] := by unfold arrPrt; rw [g0, s1, s2, g3, g4, s5]
  have K1 := Seg.hid s1
  have K2 := Seg.hid s2
  have K5 := Seg.hid s5
  have G0 := Seg.hid g0
  have G3 := Seg.hid g3
  have G4 := Seg.hid g4
  have QP := Seg.hid q1
  have QD := Seg.hid q2
  have QL : Hid (∀ i y, Q i y → y < w.heap.size) := fun i y hy => hS y (QP.out i y hy)
  rw [ER]
  have ER' := Seg.hid ER
  clear ER q1 q2 s1 s2 s5 l0 g0 l3 g3 l4 g4
  have HB : Hid (k + nPrt u ≤ 4000000000000000000) := hk1
  unfold nPrt at hk1
  have hk2 : k ≤ 4000000000000000000 := by omega
  have HK := Seg.hid hk1
  clear hk1
  go_enter Try.func10, Try.ntmps10
  go_wp2_with fail
  refine (markReplicaS_own _ k (by omega) (Q 0) u.reps (w.alloc _) (by omega) (by have := HK.out; omega) (O0_0.out.belowO keepsORpl (below1 w _) (QL.out 0))).mono ?_
  rintro e w1 ⟨rfl, o1, t1⟩
  have O1_0 : Hid (RplsOwn w1 (Q 0) (.slice A0 u.reps.length c0) (mL mRpl nRpl (k) u.reps)) := o1
  have O1_3 : Hid (IntsOwn w1 (Q 3) (.slice A3 u.insync.length c3) (u.insync)) := LOwn.footO keepsOI (O0_3.out.belowO keepsOI (below1 w _) (QL.out 3)) t1 (fun y hy => by rw [hsz]; have := QL.out 3 y hy; omega) (QD.out 3 0 (by omega))
  have O1_4 : Hid (IntsOwn w1 (Q 4) (.slice A4 u.known.length c4) (u.known)) := LOwn.footO keepsOI (O0_4.out.belowO keepsOI (below1 w _) (QL.out 4)) t1 (fun y hy => by rw [hsz]; have := QL.out 4 y hy; omega) (QD.out 4 0 (by omega))
  have F1 := Seg.hid ((Foot.of_below (below1 w _) S).trans t1 (QP.out 0))
  have T1 : Hid (w1.heap[w.heap.size]? = some (.cells #[.slice A0 u.reps.length c0, .int .i64 u.leader, .int .i64 u.epoch, .slice A3 u.insync.length c3, .slice A4 u.known.length c4, .int .i64 u.least] 31 (0, 0))) := (t1.block w.heap.size (by rw [hsz]; omega) (fun h => by have := QL.out 0 _ h; omega)).trans (heap_alloc_new _ _)
  have p1 : w1.cell? ⟨w.heap.size, 3, none⟩ = some (.slice A3 u.insync.length c3) := cell_of_row w1 _ 3 _ _ (0, 0) T1.out
  clear o1 t1
  obtain ⟨y1, hy1⟩ : ∃ y1, k + tot nRpl u.reps = y1 := ⟨_, rfl⟩
  rw [hy1]
  have Hy1 := Seg.hid hy1
  have hp_y1 : 0 < y1 := by omega
  have hd_y1 : y1 ≤ 4000000000000000000 := by have z0 := Hy1.out; have := HK.out; omega
  clear hy1
  go_wp2_with fail
  refine (markIntS_own _ y1 (by omega) (Q 3) u.insync w1 (by omega) (by have z0 := Hy1.out; have := HK.out; omega) O1_3.out).mono ?_
  rintro e w2 ⟨rfl, o2, t2⟩
  have O2_0 : Hid (RplsOwn w2 (Q 0) (.slice A0 u.reps.length c0) (mL mRpl nRpl (k) u.reps)) := LOwn.footO keepsORpl O1_0.out t2 (fun y hy => Nat.lt_of_lt_of_le (QL.out 0 y hy) F1.out.size) (QD.out 0 3 (by omega))
  have O2_3 : Hid (IntsOwn w2 (Q 3) (.slice A3 u.insync.length c3) (mL mI nI (y1) u.insync)) := o2
  have O2_4 : Hid (IntsOwn w2 (Q 4) (.slice A4 u.known.length c4) (u.known)) := LOwn.footO keepsOI O1_4.out t2 (fun y hy => Nat.lt_of_lt_of_le (QL.out 4 y hy) F1.out.size) (QD.out 4 3 (by omega))
  have F2 := Seg.hid (F1.out.trans t2 (QP.out 3))
  have T2 : Hid (w2.heap[w.heap.size]? = some (.cells #[.slice A0 u.reps.length c0, .int .i64 u.leader, .int .i64 u.epoch, .slice A3 u.insync.length c3, .slice A4 u.known.length c4, .int .i64 u.least] 31 (0, 0))) := (t2.block w.heap.size (Array.getElem?_eq_some_iff.1 T1.out).1 (fun h => by have := QL.out 3 _ h; omega)).trans T1.out
  have p2 : w2.cell? ⟨w.heap.size, 4, none⟩ = some (.slice A4 u.known.length c4) := cell_of_row w2 _ 4 _ _ (0, 0) T2.out
  clear o2 t2
  obtain ⟨y2, hy2⟩ : ∃ y2, y1 + tot nI u.insync = y2 := ⟨_, rfl⟩
  rw [hy2]
  have Hy2 := Seg.hid hy2
  have hp_y2 : 0 < y2 := by omega
  have hd_y2 : y2 ≤ 4000000000000000000 := by have z0 := Hy1.out; have z1 := Hy2.out; have := HK.out; omega
  clear hy2
  go_wp2_with fail
  refine (markIntS_own _ y2 (by omega) (Q 4) u.known w2 (by omega) (by have z0 := Hy1.out; have z1 := Hy2.out; have := HK.out; omega) O2_4.out).mono ?_
  rintro e w3 ⟨rfl, o3, t3⟩
  have O3_0 : Hid (RplsOwn w3 (Q 0) (.slice A0 u.reps.length c0) (mL mRpl nRpl (k) u.reps)) := LOwn.footO keepsORpl O2_0.out t3 (fun y hy => Nat.lt_of_lt_of_le (QL.out 0 y hy) F2.out.size) (QD.out 0 4 (by omega))
  have O3_3 : Hid (IntsOwn w3 (Q 3) (.slice A3 u.insync.length c3) (mL mI nI (y1) u.insync)) := LOwn.footO keepsOI O2_3.out t3 (fun y hy => Nat.lt_of_lt_of_le (QL.out 3 y hy) F2.out.size) (QD.out 3 4 (by omega))
  have O3_4 : Hid (IntsOwn w3 (Q 4) (.slice A4 u.known.length c4) (mL mI nI (y2) u.known)) := o3
  have F3 := Seg.hid (F2.out.trans t3 (QP.out 4))
  clear o3 t3
  obtain ⟨y3, hy3⟩ : ∃ y3, y2 + tot nI u.known = y3 := ⟨_, rfl⟩
  rw [hy3]
  have Hy3 := Seg.hid hy3
  have hp_y3 : 0 < y3 := by omega
  have hd_y3 : y3 ≤ 4000000000000000000 := by have z0 := Hy1.out; have z1 := Hy2.out; have z2 := Hy3.out; have := HK.out; omega
  clear hy3
  go_wp2
  go_ret
  exact ⟨Seg.ret_int (by have z0 := Hy1.out; have z1 := Hy2.out; have z2 := Hy3.out; unfold nPrt; omega), ⟨f, by rw [ER'.out], ⟨K1.out, K2.out, K5.out⟩, Q, QP.out, QD.out, (by have ho := O3_0.out; rw [← G0.out] at ho; exact ho), (by have ho := O3_3.out; rw [← G3.out] at ho; rw [show y1 = k + tot nRpl u.reps by have z0 := Hy1.out; have z1 := Hy2.out; have z2 := Hy3.out; omega] at ho; exact ho), (by have ho := O3_4.out; rw [← G4.out] at ho; rw [show y2 = k + tot nRpl u.reps + tot nI u.insync by have z0 := Hy1.out; have z1 := Hy2.out; have z2 := Hy3.out; omega] at ho; exact ho)⟩, F3.out⟩
end Go.Proofs.Ytggjinjadllapaa.Ow
namespace Go.Proofs.Ytggjinjadllapaa.Ow
set_option maxRecDepth 8000
open Go.RowKit
open Recs
open Ls
set_option linter.unusedVariables false
/-- A row of one's own that is filled one by one: m elements stand. -/
structure LPart {T : Type} [Inhabited T] (ty nf : Nat) (EO : Elt T) (w wr : World) (us : List T) (n m : Nat) (F : Nat → Value) (P : Nat → Nat → Prop) : Prop where
  mine : Mine wr ty nf w.heap.size n F
  bel : Below w.heap.size w wr
  el : ∀ i, i < m → EO wr (P i) (fun q => F (i * nf + q)) (us.getD i default)
  apart : ∀ i, i < m → ∀ x, P i x → w.heap.size < x ∧ x < wr.heap.size
  disj : ∀ i j, i < m → j < m → i ≠ j → ∀ x, P i x → ¬ P j x
section
variable {T : Type} [Inhabited T] {ty nf : Nat} {EO : Elt T}
theorem LPart.step (hE : KeepsO nf EO) {w wr w1 : World} {n m : Nat} {F : Nat → Value} {P : Nat → Nat → Prop} {us : List T} (h : LPart ty nf EO w wr us n m F P) (vs : List Value) (hv : vs.length = nf) (b1 : Below wr.heap.size wr w1)
    (he : EO w1 (seg wr.heap.size w1.heap.size) (fun q => vs.getD q default) (us.getD m default)) :
    LPart ty nf EO w (w1.setCells w.heap.size (m * nf) vs) us n (m + 1) (Own.upd F (m * nf) vs) (fun i => if i = m then seg wr.heap.size w1.heap.size else P i) := by
  have hlt := h.mine.lt
  have keep : ∀ g, g ≠ w.heap.size → (w1.setCells w.heap.size (m * nf) vs).heap[g]? = w1.heap[g]? := fun g hg => Cells.heap_setCells_other _ _ hg
  have hsize := Cells.size_setCells (g := w.heap.size) vs (o := m * nf) w1
  have b1s := b1.size
  refine ⟨Own.mine_setCells _ _ _ _ (h.mine.below b1 hlt), Cells.below_setCells (Nat.le_refl _) _ _ _ _ (chain h.bel b1), fun i hi => ?_, fun i hi x hx => ?_, fun i j hi hj hij x hx hx' => ?_⟩
  · by_cases e : i = m
    · subst e
      rw [if_pos rfl]
      exact hE _ _ _ _ _ _ he (by rw [hsize]; exact Nat.le_refl _) (fun g hg => keep g (by have := hg.1; omega)) (fun q hq => Own.upd_in (by omega))
    · rw [if_neg e]
      refine hE _ _ _ _ _ _ (h.el i (by omega)) (by rw [hsize]; exact b1s) (fun g hg => ?_) (fun q hq => ?_)
      · have := h.apart i (by omega) g hg
        exact (keep g (by omega)).trans (b1.block g (by omega))
      · refine Own.upd_out (.inl ?_)
        have : (i + 1) * nf ≤ m * nf := Nat.mul_le_mul_right nf (by omega)
        rw [Nat.succ_mul] at this
        omega
  · rw [hsize]
    by_cases e : i = m
    · subst e
      rw [if_pos rfl] at hx
      have := hx.1; have := hx.2
      exact ⟨by omega, by omega⟩
    · rw [if_neg e] at hx
      have := h.apart i (by omega) x hx
      exact ⟨by omega, by omega⟩
  · by_cases e : i = m
    · subst e
      rw [if_pos rfl] at hx
      rw [if_neg (Ne.symm hij)] at hx'
      have a1 := hx.1
      have a2 := h.apart j (by omega) x hx'
      omega
    · rw [if_neg e] at hx
      by_cases e2 : j = m
      · subst e2
        rw [if_pos rfl] at hx'
        have a1 := hx'.1
        have a2 := h.apart i (by omega) x hx
        omega
      · rw [if_neg e2] at hx'
        exact h.disj i j (by omega) (by omega) hij x hx hx'
theorem LPart.own {w wr : World} {F : Nat → Value} {P : Nat → Nat → Prop} {us : List T} (h : LPart ty nf EO w wr us us.length us.length F P) (hn : us.length ≤ 1048576) : LOwn ty nf EO wr (seg w.heap.size wr.heap.size) (.slice (some ⟨w.heap.size, 0, none⟩) us.length us.length) us :=
  ⟨hn, _, _, rfl, .inr ⟨w.heap.size, F, P, rfl, ⟨Nat.le_refl _, h.mine.lt⟩, fun i hi x hx => ⟨by have := h.apart i hi x hx; omega, (h.apart i hi x hx).2⟩, h.mine, rfl, h.el, fun i hi x hx => ⟨by have := h.apart i hi x hx; omega, (h.apart i hi x hx).2⟩, h.disj⟩⟩
end
end Go.Proofs.Ytggjinjadllapaa.Ow
namespace Go.Proofs.Ytggjinjadllapaa.Ow
set_option maxRecDepth 8000
open Go.RowKit
open Recs
open Ls
set_option linter.unusedVariables false
def HdOwn (w : World) (S : Nat → Prop) (v : Value) (u : Hd) : Prop := ∃ f, v = .agg (arrHd f) ∧ EOHd w S f u
set_option maxHeartbeats 1600000 in
theorem toHead_own (v : Value) (u : Hd) (w : World) (S : Nat → Prop) (hv : HdAt w S v u) (hS : ∀ g, S g → g < w.heap.size) (hf : szHd u ≤ 1048576) :
    Calls Try.prog 103 #[v] w fun e w' => ∃ v', e = .returned v' ∧ HdOwn w' (seg w.heap.size w'.heap.size) v' u ∧ Below w.heap.size w w' := by
  exact (toHead_any v u w S hv hS hf).mono fun e w' ⟨v', h1, h2, h3⟩ => ⟨v', h1, h2, h3⟩
set_option maxHeartbeats 800000 in
theorem toHeadS_ocore (g o n c : Nat) (us : List Hd) (F0 : Nat → Nat → Value) (w : World) (S : Nat → Prop) (hn : n ≤ 1048576) (hc : n ≤ c) (hg : g < w.heap.size) (hS : ∀ g, S g → g < w.heap.size)
    (hf : ∀ i, i < n → szHd (us.getD i default) ≤ 1048576) (he : ∀ i, i < n → EHd w S (F0 i) (us.getD i default))
    (ha : ∀ i, i < n → ∀ j, j < 2 → w.cell? ⟨g, o + i * 2 + j, none⟩ = some (F0 i j)) :
    Calls Try.prog 101 #[.slice (some ⟨g, o, none⟩) n c] w fun e w' => ∃ F P, e = .returned (.slice (some ⟨w.heap.size, 0, none⟩) n n) ∧ LPart 100 2 EOHd w w' us n n F P := by
  obtain ⟨i0, hi, hz0, hz1, hz2⟩ := info_parts infoZHd
  have HA := Seg.hid ha; have HK := Seg.hid hf; have HH := Seg.hid he
  clear ha hf he
  go_enter Try.func101, Try.ntmps101
  go_wp2_with (at_make; refine wpList_make_full _ rfl _ _ 82 rfl w.heap.size 100 i0 _ 2 Try.underlying82 hi hz0 hz1 .i64 .i64 _ _ n rfl rfl rfl rfl (by rw [hz2]; omega) (by unfold maxLen; omega) (Nat.le_refl _) ?_; intro w1 hown hgr)
  have hb1 := (Below.refl w.heap.size w).grown hgr (Nat.le_refl _) (fun k hk => by cases hk)
  have HM := Seg.hid (Mine.of_made hown hown.1)
  have HB := Seg.hid hb1
  clear hown hgr hb1 hi hz0 hz1 hz2
  go_loopw [4] (fun i wr => ∃ (j : Nat) (F : Nat → Value) (P : Nat → Nat → Prop), j ≤ n ∧ i = .int .i64 j ∧ LPart 100 2 EOHd w wr us n j F P) (fun i _ => n - (intOf i).toNat)
  case atStart => exact ⟨0, _, fun _ _ => False, Nat.zero_le _, rfl, HM.out, HB.out, fun i hi => absurd hi (by omega), fun i hi => absurd hi (by omega), fun i k hi => absurd hi (by omega)⟩
  case round =>
    clear HM HB
    obtain ⟨j, F, P, hj, rfl, HR⟩ := hrel
    by_cases hlt : j < n
    · have CL := cells_later HA.out HR.bel hg
      have c0 : wr.cell? ⟨g, o + j * 2, none⟩ = some (F0 j 0) := CL j ‹j < n› 0 (by omega)
      have c1 : wr.cell? ⟨g, o + j * 2 + 1, none⟩ = some (F0 j 1) := CL j ‹j < n› 1 (by omega)
      clear CL
      have RA : Hid (HdAt wr S (.agg (arrHd (F0 j))) (us.getD j default)) := ⟨_, rfl, keepsHd _ _ _ _ _ _ (HH.out j hlt) (fun g hg => HR.bel.block g (hS g hg)) (fun _ _ => rfl)⟩
      have FW := Seg.hid (HK.out j hlt)
      have hbr : Hid (∀ g, S g → g < wr.heap.size) := fun g hg => Nat.lt_of_lt_of_le (hS g hg) HR.bel.size
      have ST := Seg.hid (fun w1 vs hv b1 he => LPart.step keepsOHd (w1 := w1) HR vs hv b1 he)
      have HM := Seg.hid HR.mine
      have h0 : (0 : Int) ≤ (j : Int) := by omega
      have h1 : (j : Int) < (n : Int) := by omega
      clear HR
      generalize us.getD j default = uj at *
      go_wp2_with fail
      refine (toHead_own _ uj wr S RA.out hbr.out FW.out).mono ?_
      rintro e w1 ⟨v1, rfl, ⟨f1, rfl, he1⟩, b1⟩
      have S1 := Seg.hid (ST.out w1 (arrHd f1).toList rfl b1 (keepsOHd _ _ _ _ _ _ he1 (Nat.le_refl _) (fun _ _ => rfl) (fun q hq => by
        match q, hq with
        | 0, _ => rfl
        | 1, _ => rfl
        )))
      have M1 : Hid (w1.there w.heap.size (j * 2) (arrHd f1).size) := Own.mine_there (o := j * 2) (m := 2) (HM.out.below b1 HM.out.lt) (by omega)
      have ON := Seg.hid (oneHd (atOHd _ _ _ _ he1))
      clear b1 he1
      go_wp2_with (refine wpList_store_mid rfl 100 _ _ rfl w.heap.size (j * 2) (arrHd f1) rfl rfl ?ht infoHd ON.out ?_; case ht => exact M1.out)
      go_roundw
      case rel => exact ⟨j + 1, _, _, by omega, by go_num, S1.out⟩
      case measure => simp [intOf]; omega
    · have : j = n := by omega
      subst this
      go_wp2
      go_ret
      exact ⟨F, P, rfl, HR⟩
theorem toHeadS_own (v : Value) (us : List Hd) (w : World) (S : Nat → Prop) (hv : LAt 2 EHd w S v us) (hS : ∀ g, S g → g < w.heap.size) (hf : szL szHd us ≤ 1048576) :
    Calls Try.prog 101 #[v] w fun e w' => ∃ v', e = .returned v' ∧ HdsOwn w' (seg w.heap.size w'.heap.size) v' us ∧ Below w.heap.size w w' := by
  obtain ⟨hn, A, c, rfl, h⟩ := hv
  by_cases hz : us.length = 0
  · obtain rfl := List.length_eq_zero_iff.1 hz
    refine (toHeadS_none A c w).mono fun e w' ⟨v', a1, ⟨A', c', a2⟩, a3⟩ => ⟨v', a1, ?_, a3⟩
    rw [a2]
    exact LOwn.nil _ _ _ _
  obtain ⟨g, o, F, rfl, hg, hc, hcell, hel⟩ := h.resolve_left hz
  exact (toHeadS_ocore g o us.length c us F w S (szL_len _ hf) hc (hS g hg) hS (fun i hi => szL_one _ hf hi) hel hcell).mono fun e w' ⟨F, P, a1, a2⟩ => ⟨_, a1, a2.own (szL_len _ hf), a2.bel⟩
end Go.Proofs.Ytggjinjadllapaa.Ow
