/- One Store of the call's own; the law's marks on it. -/
import Derived.Test.YtmflkkianeflaaaOLg
import Derived.Test.YtmflkkianeflaaaOTxn
import Derived.Test.YtmflkkianeflaaaTSto
namespace Go.Proofs.Ytmflkkianeflaaa.Ow
set_option maxRecDepth 8000
open Go.RowKit
open Recs
open Ls
open LogW (Lg)
set_option linter.unusedVariables false
def EOSto : Elt Sto := fun w S f u => (f 2 = .int .i64 u.used) ∧ ∃ Q : Nat → Nat → Prop, (∀ i y, Q i y → S y) ∧ (∀ i j, i ≠ j → ∀ y, Q i y → ¬ Q j y) ∧ LgsOwn w (Q 0) (f 0) u.logs ∧ TxnsOwn w (Q 1) (f 1) u.txns
theorem keepsOSto : KeepsO 3 EOSto := fun w w' S f f' t h hs hk hf => by
  obtain ⟨s2, Q, q1, q2, l0, l1⟩ := h
  exact ⟨by rw [hf 2 (by omega)]; exact s2, Q, q1, q2, by rw [hf 0 (by omega)]; exact l0.keep keepsOLg hs (fun g hg => hk g (q1 _ g hg)), by rw [hf 1 (by omega)]; exact l1.keep keepsOTxn hs (fun g hg => hk g (q1 _ g hg))⟩
theorem atOSto (w : World) (S : Nat → Prop) (f : Nat → Value) (u : Sto) (h : EOSto w S f u) : ESto w S f u := by
  obtain ⟨s2, Q, q1, q2, l0, l1⟩ := h
  exact ⟨(LOwn.lat growsLg atOLg l0).mono growsLg (q1 0), (LOwn.lat growsTxn atOTxn l1).mono growsTxn (q1 1), s2⟩
def StoOwn (w : World) (S : Nat → Prop) (v : Value) (u : Sto) : Prop := ∃ f, v = .agg (arrSto f) ∧ EOSto w S f u
theorem StoOwn.at {w : World} {S : Nat → Prop} {v : Value} {u : Sto} (h : StoOwn w S v u) : StoAt w S v u := by
  obtain ⟨f, h1, h2⟩ := h
  exact ⟨f, h1, atOSto _ _ _ _ h2⟩
theorem StoOwn.keep {w w' : World} {S : Nat → Prop} {v : Value} {u : Sto} (h : StoOwn w S v u) (hs : w.heap.size ≤ w'.heap.size) (hk : ∀ g, S g → w'.heap[g]? = w.heap[g]?) : StoOwn w' S v u := by
  obtain ⟨f, h1, h2⟩ := h
  exact ⟨f, h1, keepsOSto _ _ _ _ _ _ h2 hs hk (fun _ _ => rfl)⟩
def mSto (k : Nat) (u : Sto) : Sto := ⟨mL mLg nLg (k) u.logs, mL mTxn nTxn (k + tot nLg u.logs) u.txns, u.used⟩
def nSto (u : Sto) : Nat := tot nLg u.logs + tot nTxn u.txns
set_option maxHeartbeats 1600000 in
theorem markStore_own (x : Int) (k : Nat) (hx : x = (k : Int)) (S : Nat → Prop) (u : Sto) (w : World) {v : Value} (hk : 0 < k) (hk1 : k + nSto u ≤ 4000000000000000000) (hS : ∀ y, S y → y < w.heap.size) (hv : StoOwn w S v u) :
    Calls Try.prog 12 #[v, .int .i64 x] w fun e w' => e = .returned (.int .i64 ((k + nSto u : Nat) : Int)) ∧ StoOwn w' S v (mSto k u) ∧ Foot w w' S := by
  subst hx
  obtain ⟨f, rfl, s2, Q, q1, q2, l0, l1⟩ := hv
  obtain ⟨A0, c0, g0⟩ := l0.form
  have O0_0 : Hid (LgsOwn w (Q 0) (.slice A0 u.logs.length c0) u.logs) := by rw [← g0]; exact l0
  obtain ⟨A1, c1, g1⟩ := l1.form
  have O0_1 : Hid (TxnsOwn w (Q 1) (.slice A1 u.txns.length c1) u.txns) := by rw [← g1]; exact l1
  have ER : arrSto f = #[.slice A0 u.logs.length c0, .slice A1 u.txns.length c1, .int .i64 u.used] := by unfold arrSto; rw [g0, g1, s2]
  have K2 := Seg.hid s2
  have G0 := Seg.hid g0
  have G1 := Seg.hid g1
  have QP := Seg.hid q1
  have QD := Seg.hid q2
  have QL : Hid (∀ i y, Q i y → y < w.heap.size) := fun i y hy => hS y (QP.out i y hy)
  rw [ER]
  have ER' := Seg.hid ER
  clear ER q1 q2 s2 l0 g0 l1 g1
  have HB : Hid (k + nSto u ≤ 4000000000000000000) := hk1
  unfold nSto at hk1
  have hk2 : k ≤ 4000000000000000000 := by omega
  have HK := Seg.hid hk1
  clear hk1
  go_enter Try.func12, Try.ntmps12
  go_wp2_with fail
  refine (markLogS_own _ k (by omega) (Q 0) u.logs (w.alloc _) (by omega) (by have := HK.out; omega) (O0_0.out.belowO keepsOLg (below1 w _) (QL.out 0))).mono ?_
  rintro e w1 ⟨rfl, o1, t1⟩
  have O1_0 : Hid (LgsOwn w1 (Q 0) (.slice A0 u.logs.length c0) (mL mLg nLg (k) u.logs)) := o1
  have O1_1 : Hid (TxnsOwn w1 (Q 1) (.slice A1 u.txns.length c1) (u.txns)) := LOwn.footO keepsOTxn (O0_1.out.belowO keepsOTxn (below1 w _) (QL.out 1)) t1 (fun y hy => by rw [hsz]; have := QL.out 1 y hy; omega) (QD.out 1 0 (by omega))
  have F1 := Seg.hid ((Foot.of_below (below1 w _) S).trans t1 (QP.out 0))
  have T1 : Hid (w1.heap[w.heap.size]? = some (.cells #[.slice A0 u.logs.length c0, .slice A1 u.txns.length c1, .int .i64 u.used] 31 (0, 0))) := (t1.block w.heap.size (by rw [hsz]; omega) (fun h => by have := QL.out 0 _ h; omega)).trans (heap_alloc_new _ _)
  have p1 : w1.cell? ⟨w.heap.size, 1, none⟩ = some (.slice A1 u.txns.length c1) := cell_of_row w1 _ 1 _ _ (0, 0) T1.out
  clear o1 t1
  obtain ⟨y1, hy1⟩ : ∃ y1, k + tot nLg u.logs = y1 := ⟨_, rfl⟩
  rw [hy1]
  have Hy1 := Seg.hid hy1
  have hp_y1 : 0 < y1 := by omega
  have hd_y1 : y1 ≤ 4000000000000000000 := by have z0 := Hy1.out; have := HK.out; omega
  clear hy1
  go_wp2_with fail
  refine (markTxnS_own _ y1 (by omega) (Q 1) u.txns w1 (by omega) (by have z0 := Hy1.out; have := HK.out; omega) O1_1.out).mono ?_
  rintro e w2 ⟨rfl, o2, t2⟩
  have O2_0 : Hid (LgsOwn w2 (Q 0) (.slice A0 u.logs.length c0) (mL mLg nLg (k) u.logs)) := LOwn.footO keepsOLg O1_0.out t2 (fun y hy => Nat.lt_of_lt_of_le (QL.out 0 y hy) F1.out.size) (QD.out 0 1 (by omega))
  have O2_1 : Hid (TxnsOwn w2 (Q 1) (.slice A1 u.txns.length c1) (mL mTxn nTxn (y1) u.txns)) := o2
  have F2 := Seg.hid (F1.out.trans t2 (QP.out 1))
  clear o2 t2
  obtain ⟨y2, hy2⟩ : ∃ y2, y1 + tot nTxn u.txns = y2 := ⟨_, rfl⟩
  rw [hy2]
  have Hy2 := Seg.hid hy2
  have hp_y2 : 0 < y2 := by omega
  have hd_y2 : y2 ≤ 4000000000000000000 := by have z0 := Hy1.out; have z1 := Hy2.out; have := HK.out; omega
  clear hy2
  go_wp2
  go_ret
  exact ⟨Seg.ret_int (by have z0 := Hy1.out; have z1 := Hy2.out; unfold nSto; omega), ⟨f, by rw [ER'.out], K2.out, Q, QP.out, QD.out, (by have ho := O2_0.out; rw [← G0.out] at ho; exact ho), (by have ho := O2_1.out; rw [← G1.out] at ho; rw [show y1 = k + tot nLg u.logs by have z0 := Hy1.out; have z1 := Hy2.out; omega] at ho; exact ho)⟩, F2.out⟩
end Go.Proofs.Ytmflkkianeflaaa.Ow
