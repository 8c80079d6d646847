/- One Quorum of the call's own; the law's marks on it, and its look at these. -/
import Derived.Test.YtdkfhjcockkleaaOVtr
import Derived.Test.YtdkfhjcockkleaaOMsg
import Derived.Test.YtdkfhjcockkleaaTQrm
namespace Go.Proofs.Ytdkfhjcockkleaa.Ow
set_option maxRecDepth 8000
open Go.RowKit
open Recs
open Ls
set_option linter.unusedVariables false
def EOQrm : Elt Qrm := fun w S f u => (True) ∧ ∃ Q : Nat → Nat → Prop, (∀ i y, Q i y → S y) ∧ (∀ i j, i ≠ j → ∀ y, Q i y → ¬ Q j y) ∧ VtrsOwn w (Q 0) (f 0) u.voters ∧ MsgsOwn w (Q 1) (f 1) u.net
theorem keepsOQrm : KeepsO 2 EOQrm := fun w w' S f f' t h hs hk hf => by
  obtain ⟨_, Q, q1, q2, l0, l1⟩ := h
  exact ⟨trivial, Q, q1, q2, by rw [hf 0 (by omega)]; exact l0.keep keepsOVtr hs (fun g hg => hk g (q1 _ g hg)), by rw [hf 1 (by omega)]; exact l1.keep keepsOMsg hs (fun g hg => hk g (q1 _ g hg))⟩
theorem atOQrm (w : World) (S : Nat → Prop) (f : Nat → Value) (u : Qrm) (h : EOQrm w S f u) : EQrm w S f u := by
  obtain ⟨_, Q, q1, q2, l0, l1⟩ := h
  exact ⟨(LOwn.lat growsVtr atOVtr l0).mono growsVtr (q1 0), (LOwn.lat growsMsg atOMsg l1).mono growsMsg (q1 1)⟩
def QrmOwn (w : World) (S : Nat → Prop) (v : Value) (u : Qrm) : Prop := ∃ f, v = .agg (arrQrm f) ∧ EOQrm w S f u
theorem QrmOwn.at {w : World} {S : Nat → Prop} {v : Value} {u : Qrm} (h : QrmOwn w S v u) : QrmAt w S v u := by
  obtain ⟨f, h1, h2⟩ := h
  exact ⟨f, h1, atOQrm _ _ _ _ h2⟩
theorem QrmOwn.keep {w w' : World} {S : Nat → Prop} {v : Value} {u : Qrm} (h : QrmOwn w S v u) (hs : w.heap.size ≤ w'.heap.size) (hk : ∀ g, S g → w'.heap[g]? = w.heap[g]?) : QrmOwn w' S v u := by
  obtain ⟨f, h1, h2⟩ := h
  exact ⟨f, h1, keepsOQrm _ _ _ _ _ _ h2 hs hk (fun _ _ => rfl)⟩
def mQrm (k : Nat) (u : Qrm) : Qrm := ⟨mL mVtr nVtr (k) u.voters, mL mMsg nMsg (k + tot nVtr u.voters) u.net⟩
def nQrm (u : Qrm) : Nat := tot nVtr u.voters + tot nMsg u.net
set_option maxHeartbeats 1600000 in
theorem markQuorum_own (x : Int) (k : Nat) (hx : x = (k : Int)) (S : Nat → Prop) (u : Qrm) (w : World) {v : Value} (hk : 0 < k) (hk1 : k + nQrm u ≤ 4000000000000000000) (hS : ∀ y, S y → y < w.heap.size) (hv : QrmOwn w S v u) :
    Calls Try.prog 13 #[v, .int .i64 x] w fun e w' => e = .returned (.int .i64 ((k + nQrm u : Nat) : Int)) ∧ QrmOwn w' S v (mQrm k u) ∧ Foot w w' S := by
  subst hx
  obtain ⟨f, rfl, _, Q, q1, q2, l0, l1⟩ := hv
  obtain ⟨A0, c0, g0⟩ := l0.form
  have O0_0 : Hid (VtrsOwn w (Q 0) (.slice A0 u.voters.length c0) u.voters) := by rw [← g0]; exact l0
  obtain ⟨A1, c1, g1⟩ := l1.form
  have O0_1 : Hid (MsgsOwn w (Q 1) (.slice A1 u.net.length c1) u.net) := by rw [← g1]; exact l1
  have ER : arrQrm f = #[.slice A0 u.voters.length c0, .slice A1 u.net.length c1] := by unfold arrQrm; rw [g0, g1]
  have G0 := Seg.hid g0
  have G1 := Seg.hid g1
  have QP := Seg.hid q1
  have QD := Seg.hid q2
  have QL : Hid (∀ i y, Q i y → y < w.heap.size) := fun i y hy => hS y (QP.out i y hy)
  rw [ER]
  have ER' := Seg.hid ER
  clear ER q1 q2  l0 g0 l1 g1
  have HB : Hid (k + nQrm u ≤ 4000000000000000000) := hk1
  unfold nQrm at hk1
  have hk2 : k ≤ 4000000000000000000 := by omega
  have HK := Seg.hid hk1
  clear hk1
  go_enter Try.func13, Try.ntmps13
  go_wp2_with fail
  refine (markVoterS_own _ k (by omega) (Q 0) u.voters (w.alloc _) (by omega) (by have := HK.out; omega) (O0_0.out.belowO keepsOVtr (below1 w _) (QL.out 0))).mono ?_
  rintro e w1 ⟨rfl, o1, t1⟩
  have O1_0 : Hid (VtrsOwn w1 (Q 0) (.slice A0 u.voters.length c0) (mL mVtr nVtr (k) u.voters)) := o1
  have O1_1 : Hid (MsgsOwn w1 (Q 1) (.slice A1 u.net.length c1) (u.net)) := LOwn.footO keepsOMsg (O0_1.out.belowO keepsOMsg (below1 w _) (QL.out 1)) t1 (fun y hy => by rw [hsz]; have := QL.out 1 y hy; omega) (QD.out 1 0 (by omega))
  have F1 := Seg.hid ((Foot.of_below (below1 w _) S).trans t1 (QP.out 0))
  have T1 : Hid (w1.heap[w.heap.size]? = some (.cells #[.slice A0 u.voters.length c0, .slice A1 u.net.length c1] 31 (0, 0))) := (t1.block w.heap.size (by rw [hsz]; omega) (fun h => by have := QL.out 0 _ h; omega)).trans (heap_alloc_new _ _)
  have p1 : w1.cell? ⟨w.heap.size, 1, none⟩ = some (.slice A1 u.net.length c1) := cell_of_row w1 _ 1 _ _ (0, 0) T1.out
  clear o1 t1
  obtain ⟨y1, hy1⟩ : ∃ y1, k + tot nVtr u.voters = y1 := ⟨_, rfl⟩
  rw [hy1]
  have Hy1 := Seg.hid hy1
  have hp_y1 : 0 < y1 := by omega
  have hd_y1 : y1 ≤ 4000000000000000000 := by have z0 := Hy1.out; have := HK.out; omega
  clear hy1
  go_wp2_with fail
  refine (markMessageS_own _ y1 (by omega) (Q 1) u.net w1 (by omega) (by have z0 := Hy1.out; have := HK.out; omega) O1_1.out).mono ?_
  rintro e w2 ⟨rfl, o2, t2⟩
  have O2_0 : Hid (VtrsOwn w2 (Q 0) (.slice A0 u.voters.length c0) (mL mVtr nVtr (k) u.voters)) := LOwn.footO keepsOVtr O1_0.out t2 (fun y hy => Nat.lt_of_lt_of_le (QL.out 0 y hy) F1.out.size) (QD.out 0 1 (by omega))
  have O2_1 : Hid (MsgsOwn w2 (Q 1) (.slice A1 u.net.length c1) (mL mMsg nMsg (y1) u.net)) := o2
  have F2 := Seg.hid (F1.out.trans t2 (QP.out 1))
  clear o2 t2
  obtain ⟨y2, hy2⟩ : ∃ y2, y1 + tot nMsg u.net = y2 := ⟨_, rfl⟩
  rw [hy2]
  have Hy2 := Seg.hid hy2
  have hp_y2 : 0 < y2 := by omega
  have hd_y2 : y2 ≤ 4000000000000000000 := by have z0 := Hy1.out; have z1 := Hy2.out; have := HK.out; omega
  clear hy2
  go_wp2
  go_ret
  exact ⟨Seg.ret_int (by have z0 := Hy1.out; have z1 := Hy2.out; unfold nQrm; omega), ⟨f, by rw [ER'.out], trivial, Q, QP.out, QD.out, (by have ho := O2_0.out; rw [← G0.out] at ho; exact ho), (by have ho := O2_1.out; rw [← G1.out] at ho; rw [show y1 = k + tot nVtr u.voters by have z0 := Hy1.out; have z1 := Hy2.out; omega] at ho; exact ho)⟩, F2.out⟩
set_option maxHeartbeats 1600000 in
theorem heldQuorum_at (x : Int) (k : Nat) (hx : x = (k : Int)) (S : Nat → Prop) (u : Qrm) (w : World) {v : Value} (hk : 0 < k) (hk1 : k + nQrm u ≤ 4000000000000000000) (hS : ∀ y, S y → y < w.heap.size) (hv : QrmAt w S v (mQrm k u)) :
    Calls Try.prog 14 #[v, .int .i64 x] w fun e w' => e = .returned (.int .i64 ((k + nQrm u : Nat) : Int)) ∧ Below w.heap.size w w' := by
  subst hx
  obtain ⟨f, rfl, s0, s1⟩ := hv
  obtain ⟨A0, c0, g0⟩ := s0.form
  rw [show (mQrm k u).voters.length = u.voters.length from mL_len _ _ _ _] at g0
  have M0 : Hid (LAt 8 EVtr w S (.slice A0 u.voters.length c0) (mL mVtr nVtr (k) u.voters)) := by rw [← g0]; exact s0
  obtain ⟨A1, c1, g1⟩ := s1.form
  rw [show (mQrm k u).net.length = u.net.length from mL_len _ _ _ _] at g1
  have M1 : Hid (LAt 9 EMsg w S (.slice A1 u.net.length c1) (mL mMsg nMsg (k + tot nVtr u.voters) u.net)) := by rw [← g1]; exact s1
  have ER : arrQrm f = #[.slice A0 u.voters.length c0, .slice A1 u.net.length c1] := by unfold arrQrm; rw [g0, g1]
  rw [ER]
  clear ER s0 s1 g0 g1
  unfold nQrm at hk1
  have hk2 : k ≤ 4000000000000000000 := by omega
  have HK := Seg.hid hk1
  clear hk1
  go_enter Try.func14, Try.ntmps14
  go_wp2_with fail
  refine (heldVoterS_at _ k (by omega) S u.voters (w.alloc _) (by omega) (by have := HK.out; omega) (fun g hg => by rw [hsz]; have := hS g hg; omega) (by have h := M0.out; exact h.below keepsVtr (below1 w _) hS)).mono ?_
  rintro e w1 ⟨rfl, b1⟩
  have B1 := Seg.hid (chain (below1 w _) b1)
  have T1 : Hid (w1.heap[w.heap.size]? = some (.cells #[.slice A0 u.voters.length c0, .slice A1 u.net.length c1] 31 (0, 0))) := (b1.block w.heap.size (by rw [hsz]; omega)).trans (heap_alloc_new _ _)
  have p1 : w1.cell? ⟨w.heap.size, 1, none⟩ = some (.slice A1 u.net.length c1) := cell_of_row w1 _ 1 _ _ (0, 0) T1.out
  clear b1
  obtain ⟨y1, hy1⟩ : ∃ y1, k + tot nVtr u.voters = y1 := ⟨_, rfl⟩
  rw [hy1]
  have Hy1 := Seg.hid hy1
  have hp_y1 : 0 < y1 := by omega
  have hq_y1 : ¬ (y1 : Int) < 0 := by omega
  have hd_y1 : y1 ≤ 4000000000000000000 := by have z0 := Hy1.out; have := HK.out; omega
  clear hy1
  go_wp2_with fail
  refine (heldMessageS_at _ y1 (by omega) S u.net w1 (by omega) (by have z0 := Hy1.out; have := HK.out; omega) (fun g hg => Nat.lt_of_lt_of_le (hS g hg) B1.out.size) (by have h := M1.out; rw [show k + tot nVtr u.voters = y1 by have z0 := Hy1.out; omega] at h; exact h.below keepsMsg B1.out hS)).mono ?_
  rintro e w2 ⟨rfl, b2⟩
  have B2 := Seg.hid (chain B1.out b2)
  clear b2
  obtain ⟨y2, hy2⟩ : ∃ y2, y1 + tot nMsg u.net = y2 := ⟨_, rfl⟩
  rw [hy2]
  have Hy2 := Seg.hid hy2
  have hp_y2 : 0 < y2 := by omega
  have hq_y2 : ¬ (y2 : Int) < 0 := by omega
  have hd_y2 : y2 ≤ 4000000000000000000 := by have z0 := Hy1.out; have z1 := Hy2.out; have := HK.out; omega
  clear hy2
  go_wp2
  go_ret
  exact ⟨Seg.ret_int (by have z0 := Hy1.out; have z1 := Hy2.out; unfold nQrm; omega), B2.out⟩
end Go.Proofs.Ytdkfhjcockkleaa.Ow
