/- One Part of the call's own; the law's marks on it. -/
import Derived.Test.YtafgakddhoabjaaORpl
import Derived.Test.YtafgakddhoabjaaMkN
import Derived.Test.YtafgakddhoabjaaTPrt
namespace Go.Proofs.Ytafgakddhoabjaa.Ow
set_option maxRecDepth 8000
open Go.RowKit
open Recs
open Ls
open SegW (Sg)
set_option linter.unusedVariables false
def EOPrt : Elt Prt := fun w S f u => (f 1 = .int .i64 u.leader ∧ f 2 = .int .i64 u.epoch ∧ f 5 = .int .i64 u.least) ∧ ∃ Q : Nat → Nat → Prop, (∀ i y, Q i y → S y) ∧ (∀ i j, i ≠ j → ∀ y, Q i y → ¬ Q j y) ∧ RplsOwn w (Q 0) (f 0) u.reps ∧ IntsOwn w (Q 3) (f 3) u.insync ∧ IntsOwn w (Q 4) (f 4) u.known
theorem keepsOPrt : KeepsO 6 EOPrt := fun w w' S f f' t h hs hk hf => by
  obtain ⟨⟨s1, s2, s5⟩, Q, q1, q2, l0, l3, l4⟩ := h
  exact ⟨⟨by rw [hf 1 (by omega)]; exact s1, by rw [hf 2 (by omega)]; exact s2, by rw [hf 5 (by omega)]; exact s5⟩, Q, q1, q2, by rw [hf 0 (by omega)]; exact l0.keep keepsORpl hs (fun g hg => hk g (q1 _ g hg)), by rw [hf 3 (by omega)]; exact l3.keep keepsOI hs (fun g hg => hk g (q1 _ g hg)), by rw [hf 4 (by omega)]; exact l4.keep keepsOI hs (fun g hg => hk g (q1 _ g hg))⟩
theorem atOPrt (w : World) (S : Nat → Prop) (f : Nat → Value) (u : Prt) (h : EOPrt w S f u) : EPrt w S f u := by
  obtain ⟨⟨s1, s2, s5⟩, Q, q1, q2, l0, l3, l4⟩ := h
  exact ⟨(LOwn.lat growsRpl atORpl l0).mono growsRpl (q1 0), s1, s2, (LOwn.lat growsI (fun _ _ _ _ h => h) l3).mono growsI (q1 3), (LOwn.lat growsI (fun _ _ _ _ h => h) l4).mono growsI (q1 4), s5⟩
def PrtOwn (w : World) (S : Nat → Prop) (v : Value) (u : Prt) : Prop := ∃ f, v = .agg (arrPrt f) ∧ EOPrt w S f u
theorem PrtOwn.at {w : World} {S : Nat → Prop} {v : Value} {u : Prt} (h : PrtOwn w S v u) : PrtAt w S v u := by
  obtain ⟨f, h1, h2⟩ := h
  exact ⟨f, h1, atOPrt _ _ _ _ h2⟩
theorem PrtOwn.keep {w w' : World} {S : Nat → Prop} {v : Value} {u : Prt} (h : PrtOwn w S v u) (hs : w.heap.size ≤ w'.heap.size) (hk : ∀ g, S g → w'.heap[g]? = w.heap[g]?) : PrtOwn w' S v u := by
  obtain ⟨f, h1, h2⟩ := h
  exact ⟨f, h1, keepsOPrt _ _ _ _ _ _ h2 hs hk (fun _ _ => rfl)⟩
def mPrt (k : Nat) (u : Prt) : Prt := ⟨mL mRpl nRpl (k) u.reps, u.leader, u.epoch, mL mI nI (k + tot nRpl u.reps) u.insync, mL mI nI (k + tot nRpl u.reps + tot nI u.insync) u.known, u.least⟩
def nPrt (u : Prt) : Nat := tot nRpl u.reps + tot nI u.insync + tot nI u.known
set_option maxHeartbeats 1600000 in
theorem markPart_own (x : Int) (k : Nat) (hx : x = (k : Int)) (S : Nat → Prop) (u : Prt) (w : World) {v : Value} (hk : 0 < k) (hk1 : k + nPrt u ≤ 4000000000000000000) (hS : ∀ y, S y → y < w.heap.size) (hv : PrtOwn w S v u) :
    Calls Try.prog 7 #[v, .int .i64 x] w fun e w' => e = .returned (.int .i64 ((k + nPrt u : Nat) : Int)) ∧ PrtOwn w' S v (mPrt k u) ∧ Foot w w' S := by
  subst hx
  obtain ⟨f, rfl, ⟨s1, s2, s5⟩, Q, q1, q2, l0, l3, l4⟩ := hv
  obtain ⟨A0, c0, g0⟩ := l0.form
  have O0_0 : Hid (RplsOwn w (Q 0) (.slice A0 u.reps.length c0) u.reps) := by rw [← g0]; exact l0
  obtain ⟨A3, c3, g3⟩ := l3.form
  have O0_3 : Hid (IntsOwn w (Q 3) (.slice A3 u.insync.length c3) u.insync) := by rw [← g3]; exact l3
  obtain ⟨A4, c4, g4⟩ := l4.form
  have O0_4 : Hid (IntsOwn w (Q 4) (.slice A4 u.known.length c4) u.known) := by rw [← g4]; exact l4
  have ER : arrPrt f = #[.slice A0 u.reps.length c0, .int .i64 u.leader, .int .i64 u.epoch, .slice A3 u.insync.length c3, .slice A4 u.known.length c4, .int .i64 u.least] := by unfold arrPrt; rw [g0, s1, s2, g3, g4, s5]
  have K1 := Seg.hid s1
  have K2 := Seg.hid s2
  have K5 := Seg.hid s5
  have G0 := Seg.hid g0
  have G3 := Seg.hid g3
  have G4 := Seg.hid g4
  have QP := Seg.hid q1
  have QD := Seg.hid q2
  have QL : Hid (∀ i y, Q i y → y < w.heap.size) := fun i y hy => hS y (QP.out i y hy)
  rw [ER]
  have ER' := Seg.hid ER
  clear ER q1 q2 s1 s2 s5 l0 g0 l3 g3 l4 g4
  have HB : Hid (k + nPrt u ≤ 4000000000000000000) := hk1
  unfold nPrt at hk1
  have hk2 : k ≤ 4000000000000000000 := by omega
  have HK := Seg.hid hk1
  clear hk1
  go_enter Try.func7, Try.ntmps7
  go_wp2_with fail
  refine (markReplicaS_own _ k (by omega) (Q 0) u.reps (w.alloc _) (by omega) (by have := HK.out; omega) (O0_0.out.belowO keepsORpl (below1 w _) (QL.out 0))).mono ?_
  rintro e w1 ⟨rfl, o1, t1⟩
  have O1_0 : Hid (RplsOwn w1 (Q 0) (.slice A0 u.reps.length c0) (mL mRpl nRpl (k) u.reps)) := o1
  have O1_3 : Hid (IntsOwn w1 (Q 3) (.slice A3 u.insync.length c3) (u.insync)) := LOwn.footO keepsOI (O0_3.out.belowO keepsOI (below1 w _) (QL.out 3)) t1 (fun y hy => by rw [hsz]; have := QL.out 3 y hy; omega) (QD.out 3 0 (by omega))
  have O1_4 : Hid (IntsOwn w1 (Q 4) (.slice A4 u.known.length c4) (u.known)) := LOwn.footO keepsOI (O0_4.out.belowO keepsOI (below1 w _) (QL.out 4)) t1 (fun y hy => by rw [hsz]; have := QL.out 4 y hy; omega) (QD.out 4 0 (by omega))
  have F1 := Seg.hid ((Foot.of_below (below1 w _) S).trans t1 (QP.out 0))
  have T1 : Hid (w1.heap[w.heap.size]? = some (.cells #[.slice A0 u.reps.length c0, .int .i64 u.leader, .int .i64 u.epoch, .slice A3 u.insync.length c3, .slice A4 u.known.length c4, .int .i64 u.least] 25 (0, 0))) := (t1.block w.heap.size (by rw [hsz]; omega) (fun h => by have := QL.out 0 _ h; omega)).trans (heap_alloc_new _ _)
  have p1 : w1.cell? ⟨w.heap.size, 3, none⟩ = some (.slice A3 u.insync.length c3) := cell_of_row w1 _ 3 _ _ (0, 0) T1.out
  clear o1 t1
  obtain ⟨y1, hy1⟩ : ∃ y1, k + tot nRpl u.reps = y1 := ⟨_, rfl⟩
  rw [hy1]
  have Hy1 := Seg.hid hy1
  have hp_y1 : 0 < y1 := by omega
  have hd_y1 : y1 ≤ 4000000000000000000 := by have z0 := Hy1.out; have := HK.out; omega
  clear hy1
  go_wp2_with fail
  refine (markIntS_own _ y1 (by omega) (Q 3) u.insync w1 (by omega) (by have z0 := Hy1.out; have := HK.out; omega) O1_3.out).mono ?_
  rintro e w2 ⟨rfl, o2, t2⟩
  have O2_0 : Hid (RplsOwn w2 (Q 0) (.slice A0 u.reps.length c0) (mL mRpl nRpl (k) u.reps)) := LOwn.footO keepsORpl O1_0.out t2 (fun y hy => Nat.lt_of_lt_of_le (QL.out 0 y hy) F1.out.size) (QD.out 0 3 (by omega))
  have O2_3 : Hid (IntsOwn w2 (Q 3) (.slice A3 u.insync.length c3) (mL mI nI (y1) u.insync)) := o2
  have O2_4 : Hid (IntsOwn w2 (Q 4) (.slice A4 u.known.length c4) (u.known)) := LOwn.footO keepsOI O1_4.out t2 (fun y hy => Nat.lt_of_lt_of_le (QL.out 4 y hy) F1.out.size) (QD.out 4 3 (by omega))
  have F2 := Seg.hid (F1.out.trans t2 (QP.out 3))
  have T2 : Hid (w2.heap[w.heap.size]? = some (.cells #[.slice A0 u.reps.length c0, .int .i64 u.leader, .int .i64 u.epoch, .slice A3 u.insync.length c3, .slice A4 u.known.length c4, .int .i64 u.least] 25 (0, 0))) := (t2.block w.heap.size (Array.getElem?_eq_some_iff.1 T1.out).1 (fun h => by have := QL.out 3 _ h; omega)).trans T1.out
  have p2 : w2.cell? ⟨w.heap.size, 4, none⟩ = some (.slice A4 u.known.length c4) := cell_of_row w2 _ 4 _ _ (0, 0) T2.out
  clear o2 t2
  obtain ⟨y2, hy2⟩ : ∃ y2, y1 + tot nI u.insync = y2 := ⟨_, rfl⟩
  rw [hy2]
  have Hy2 := Seg.hid hy2
  have hp_y2 : 0 < y2 := by omega
  have hd_y2 : y2 ≤ 4000000000000000000 := by have z0 := Hy1.out; have z1 := Hy2.out; have := HK.out; omega
  clear hy2
  go_wp2_with fail
  refine (markIntS_own _ y2 (by omega) (Q 4) u.known w2 (by omega) (by have z0 := Hy1.out; have z1 := Hy2.out; have := HK.out; omega) O2_4.out).mono ?_
  rintro e w3 ⟨rfl, o3, t3⟩
  have O3_0 : Hid (RplsOwn w3 (Q 0) (.slice A0 u.reps.length c0) (mL mRpl nRpl (k) u.reps)) := LOwn.footO keepsORpl O2_0.out t3 (fun y hy => Nat.lt_of_lt_of_le (QL.out 0 y hy) F2.out.size) (QD.out 0 4 (by omega))
  have O3_3 : Hid (IntsOwn w3 (Q 3) (.slice A3 u.insync.length c3) (mL mI nI (y1) u.insync)) := LOwn.footO keepsOI O2_3.out t3 (fun y hy => Nat.lt_of_lt_of_le (QL.out 3 y hy) F2.out.size) (QD.out 3 4 (by omega))
  have O3_4 : Hid (IntsOwn w3 (Q 4) (.slice A4 u.known.length c4) (mL mI nI (y2) u.known)) := o3
  have F3 := Seg.hid (F2.out.trans t3 (QP.out 4))
  clear o3 t3
  obtain ⟨y3, hy3⟩ : ∃ y3, y2 + tot nI u.known = y3 := ⟨_, rfl⟩
  rw [hy3]
  have Hy3 := Seg.hid hy3
  have hp_y3 : 0 < y3 := by omega
  have hd_y3 : y3 ≤ 4000000000000000000 := by have z0 := Hy1.out; have z1 := Hy2.out; have z2 := Hy3.out; have := HK.out; omega
  clear hy3
  go_wp2
  go_ret
  exact ⟨Seg.ret_int (by have z0 := Hy1.out; have z1 := Hy2.out; have z2 := Hy3.out; unfold nPrt; omega), ⟨f, by rw [ER'.out], ⟨K1.out, K2.out, K5.out⟩, Q, QP.out, QD.out, (by have ho := O3_0.out; rw [← G0.out] at ho; exact ho), (by have ho := O3_3.out; rw [← G3.out] at ho; rw [show y1 = k + tot nRpl u.reps by have z0 := Hy1.out; have z1 := Hy2.out; have z2 := Hy3.out; omega] at ho; exact ho), (by have ho := O3_4.out; rw [← G4.out] at ho; rw [show y2 = k + tot nRpl u.reps + tot nI u.insync by have z0 := Hy1.out; have z1 := Hy2.out; have z2 := Hy3.out; omega] at ho; exact ho)⟩, F3.out⟩
end Go.Proofs.Ytafgakddhoabjaa.Ow
