/- One Group of the call's own; the law's marks on it. -/
import Derived.Test.YtokoollljobfgaaOTpc
import Derived.Test.YtokoollljobfgaaOMbr
import Derived.Test.YtokoollljobfgaaTGrp
namespace Go.Proofs.Ytokoollljobfgaa.Ow
set_option maxRecDepth 8000
open Go.RowKit
open Recs
open Ls
set_option linter.unusedVariables false
def EOGrp : Elt Grp := fun w S f u => (f 0 = .int .i64 u.kind ∧ f 1 = .int .i64 u.timeout ∧ f 2 = .int .i64 u.now ∧ f 3 = .int .i64 u.round) ∧ ∃ Q : Nat → Nat → Prop, (∀ i y, Q i y → S y) ∧ (∀ i j, i ≠ j → ∀ y, Q i y → ¬ Q j y) ∧ TpcsOwn w (Q 4) (f 4) u.topics ∧ MbrsOwn w (Q 5) (f 5) u.members
theorem keepsOGrp : KeepsO 6 EOGrp := fun w w' S f f' t h hs hk hf => by
  obtain ⟨⟨s0, s1, s2, s3⟩, Q, q1, q2, l4, l5⟩ := h
  exact ⟨⟨by rw [hf 0 (by omega)]; exact s0, by rw [hf 1 (by omega)]; exact s1, by rw [hf 2 (by omega)]; exact s2, by rw [hf 3 (by omega)]; exact s3⟩, Q, q1, q2, by rw [hf 4 (by omega)]; exact l4.keep keepsOTpc hs (fun g hg => hk g (q1 _ g hg)), by rw [hf 5 (by omega)]; exact l5.keep keepsOMbr hs (fun g hg => hk g (q1 _ g hg))⟩
theorem atOGrp (w : World) (S : Nat → Prop) (f : Nat → Value) (u : Grp) (h : EOGrp w S f u) : EGrp w S f u := by
  obtain ⟨⟨s0, s1, s2, s3⟩, Q, q1, q2, l4, l5⟩ := h
  exact ⟨s0, s1, s2, s3, (LOwn.lat growsTpc atOTpc l4).mono growsTpc (q1 4), (LOwn.lat growsMbr atOMbr l5).mono growsMbr (q1 5)⟩
def GrpOwn (w : World) (S : Nat → Prop) (v : Value) (u : Grp) : Prop := ∃ f, v = .agg (arrGrp f) ∧ EOGrp w S f u
theorem GrpOwn.at {w : World} {S : Nat → Prop} {v : Value} {u : Grp} (h : GrpOwn w S v u) : GrpAt w S v u := by
  obtain ⟨f, h1, h2⟩ := h
  exact ⟨f, h1, atOGrp _ _ _ _ h2⟩
theorem GrpOwn.keep {w w' : World} {S : Nat → Prop} {v : Value} {u : Grp} (h : GrpOwn w S v u) (hs : w.heap.size ≤ w'.heap.size) (hk : ∀ g, S g → w'.heap[g]? = w.heap[g]?) : GrpOwn w' S v u := by
  obtain ⟨f, h1, h2⟩ := h
  exact ⟨f, h1, keepsOGrp _ _ _ _ _ _ h2 hs hk (fun _ _ => rfl)⟩
def mGrp (k : Nat) (u : Grp) : Grp := ⟨u.kind, u.timeout, u.now, u.round, mL mTpc nTpc (k) u.topics, mL mMbr nMbr (k + tot nTpc u.topics) u.members⟩
def nGrp (u : Grp) : Nat := tot nTpc u.topics + tot nMbr u.members
set_option maxHeartbeats 1600000 in
theorem markGroup_own (x : Int) (k : Nat) (hx : x = (k : Int)) (S : Nat → Prop) (u : Grp) (w : World) {v : Value} (hk : 0 < k) (hk1 : k + nGrp u ≤ 4000000000000000000) (hS : ∀ y, S y → y < w.heap.size) (hv : GrpOwn w S v u) :
    Calls Try.prog 13 #[v, .int .i64 x] w fun e w' => e = .returned (.int .i64 ((k + nGrp u : Nat) : Int)) ∧ GrpOwn w' S v (mGrp k u) ∧ Foot w w' S := by
  subst hx
  obtain ⟨f, rfl, ⟨s0, s1, s2, s3⟩, Q, q1, q2, l4, l5⟩ := hv
  obtain ⟨A4, c4, g4⟩ := l4.form
  have O0_4 : Hid (TpcsOwn w (Q 4) (.slice A4 u.topics.length c4) u.topics) := by rw [← g4]; exact l4
  obtain ⟨A5, c5, g5⟩ := l5.form
  have O0_5 : Hid (MbrsOwn w (Q 5) (.slice A5 u.members.length c5) u.members) := by rw [← g5]; exact l5
  have ER : arrGrp f = #[.int .i64 u.kind, .int .i64 u.timeout, .int .i64 u.now, .int .i64 u.round, .slice A4 u.topics.length c4, .slice A5 u.members.length c5] := by unfold arrGrp; rw [s0, s1, s2, s3, g4, g5]
  have K0 := Seg.hid s0
  have K1 := Seg.hid s1
  have K2 := Seg.hid s2
  have K3 := Seg.hid s3
  have G4 := Seg.hid g4
  have G5 := Seg.hid g5
  have QP := Seg.hid q1
  have QD := Seg.hid q2
  have QL : Hid (∀ i y, Q i y → y < w.heap.size) := fun i y hy => hS y (QP.out i y hy)
  rw [ER]
  have ER' := Seg.hid ER
  clear ER q1 q2 s0 s1 s2 s3 l4 g4 l5 g5
  have HB : Hid (k + nGrp u ≤ 4000000000000000000) := hk1
  unfold nGrp at hk1
  have hk2 : k ≤ 4000000000000000000 := by omega
  have HK := Seg.hid hk1
  clear hk1
  go_enter Try.func13, Try.ntmps13
  go_wp2_with fail
  refine (markTopicS_own _ k (by omega) (Q 4) u.topics (w.alloc _) (by omega) (by have := HK.out; omega) (O0_4.out.belowO keepsOTpc (below1 w _) (QL.out 4))).mono ?_
  rintro e w1 ⟨rfl, o1, t1⟩
  have O1_4 : Hid (TpcsOwn w1 (Q 4) (.slice A4 u.topics.length c4) (mL mTpc nTpc (k) u.topics)) := o1
  have O1_5 : Hid (MbrsOwn w1 (Q 5) (.slice A5 u.members.length c5) (u.members)) := LOwn.footO keepsOMbr (O0_5.out.belowO keepsOMbr (below1 w _) (QL.out 5)) t1 (fun y hy => by rw [hsz]; have := QL.out 5 y hy; omega) (QD.out 5 4 (by omega))
  have F1 := Seg.hid ((Foot.of_below (below1 w _) S).trans t1 (QP.out 4))
  have T1 : Hid (w1.heap[w.heap.size]? = some (.cells #[.int .i64 u.kind, .int .i64 u.timeout, .int .i64 u.now, .int .i64 u.round, .slice A4 u.topics.length c4, .slice A5 u.members.length c5] 31 (0, 0))) := (t1.block w.heap.size (by rw [hsz]; omega) (fun h => by have := QL.out 4 _ h; omega)).trans (heap_alloc_new _ _)
  have p1 : w1.cell? ⟨w.heap.size, 5, none⟩ = some (.slice A5 u.members.length c5) := cell_of_row w1 _ 5 _ _ (0, 0) T1.out
  clear o1 t1
  obtain ⟨y1, hy1⟩ : ∃ y1, k + tot nTpc u.topics = y1 := ⟨_, rfl⟩
  rw [hy1]
  have Hy1 := Seg.hid hy1
  have hp_y1 : 0 < y1 := by omega
  have hd_y1 : y1 ≤ 4000000000000000000 := by have z0 := Hy1.out; have := HK.out; omega
  clear hy1
  go_wp2_with fail
  refine (markMemberS_own _ y1 (by omega) (Q 5) u.members w1 (by omega) (by have z0 := Hy1.out; have := HK.out; omega) O1_5.out).mono ?_
  rintro e w2 ⟨rfl, o2, t2⟩
  have O2_4 : Hid (TpcsOwn w2 (Q 4) (.slice A4 u.topics.length c4) (mL mTpc nTpc (k) u.topics)) := LOwn.footO keepsOTpc O1_4.out t2 (fun y hy => Nat.lt_of_lt_of_le (QL.out 4 y hy) F1.out.size) (QD.out 4 5 (by omega))
  have O2_5 : Hid (MbrsOwn w2 (Q 5) (.slice A5 u.members.length c5) (mL mMbr nMbr (y1) u.members)) := o2
  have F2 := Seg.hid (F1.out.trans t2 (QP.out 5))
  clear o2 t2
  obtain ⟨y2, hy2⟩ : ∃ y2, y1 + tot nMbr u.members = y2 := ⟨_, rfl⟩
  rw [hy2]
  have Hy2 := Seg.hid hy2
  have hp_y2 : 0 < y2 := by omega
  have hd_y2 : y2 ≤ 4000000000000000000 := by have z0 := Hy1.out; have z1 := Hy2.out; have := HK.out; omega
  clear hy2
  go_wp2
  go_ret
  exact ⟨Seg.ret_int (by have z0 := Hy1.out; have z1 := Hy2.out; unfold nGrp; omega), ⟨f, by rw [ER'.out], ⟨K0.out, K1.out, K2.out, K3.out⟩, Q, QP.out, QD.out, (by have ho := O2_4.out; rw [← G4.out] at ho; exact ho), (by have ho := O2_5.out; rw [← G5.out] at ho; rw [show y1 = k + tot nTpc u.topics by have z0 := Hy1.out; have z1 := Hy2.out; omega] at ho; exact ho)⟩, F2.out⟩
end Go.Proofs.Ytokoollljobfgaa.Ow
