/- One Schema of the call's own; the law's marks on it; Lists of Value: what the law's helpers answer. -/
import Derived.Test.YtikfffeiemlnoaaJMA27
import Derived.Test.YtikfffeiemlnoaaJMA10
import Derived.Test.YtikfffeiemlnoaaJMA04
namespace Go.Proofs.Ytikfffeiemlnoaa.Ow
set_option maxRecDepth 8000
open Go.RowKit
open Recs
open Ls
set_option linter.unusedVariables false
def EOSch : Elt Sch := fun w S f u => (f 0 = .string u.name) ∧ ∃ Q : Nat → Nat → Prop, (∀ i y, Q i y → S y) ∧ (∀ i j, i ≠ j → ∀ y, Q i y → ¬ Q j y) ∧ FldsOwn w (Q 1) (f 1) u.fields
theorem keepsOSch : KeepsO 2 EOSch := fun w w' S f f' t h hs hk hf => by
  obtain ⟨s0, Q, q1, q2, l1⟩ := h
  exact ⟨by rw [hf 0 (by omega)]; exact s0, Q, q1, q2, by rw [hf 1 (by omega)]; exact l1.keep keepsOFld hs (fun g hg => hk g (q1 _ g hg))⟩
theorem atOSch (w : World) (S : Nat → Prop) (f : Nat → Value) (u : Sch) (h : EOSch w S f u) : ESch w S f u := by
  obtain ⟨s0, Q, q1, q2, l1⟩ := h
  exact ⟨s0, (LOwn.lat growsFld atOFld l1).mono growsFld (q1 1)⟩
def SchOwn (w : World) (S : Nat → Prop) (v : Value) (u : Sch) : Prop := ∃ f, v = .agg (arrSch f) ∧ EOSch w S f u
theorem SchOwn.at {w : World} {S : Nat → Prop} {v : Value} {u : Sch} (h : SchOwn w S v u) : SchAt w S v u := by
  obtain ⟨f, h1, h2⟩ := h
  exact ⟨f, h1, atOSch _ _ _ _ h2⟩
theorem SchOwn.keep {w w' : World} {S : Nat → Prop} {v : Value} {u : Sch} (h : SchOwn w S v u) (hs : w.heap.size ≤ w'.heap.size) (hk : ∀ g, S g → w'.heap[g]? = w.heap[g]?) : SchOwn w' S v u := by
  obtain ⟨f, h1, h2⟩ := h
  exact ⟨f, h1, keepsOSch _ _ _ _ _ _ h2 hs hk (fun _ _ => rfl)⟩
def mSch (k : Nat) (u : Sch) : Sch := ⟨u.name, mL mFld nFld (k) u.fields⟩
def nSch (u : Sch) : Nat := tot nFld u.fields
set_option maxHeartbeats 1600000 in
theorem markSchema_own (x : Int) (k : Nat) (hx : x = (k : Int)) (S : Nat → Prop) (u : Sch) (w : World) {v : Value} (hk : 0 < k) (hk1 : k + nSch u ≤ 4000000000000000000) (hS : ∀ y, S y → y < w.heap.size) (hv : SchOwn w S v u) :
    Calls Try.prog 27 #[v, .int .i64 x] w fun e w' => e = .returned (.int .i64 ((k + nSch u : Nat) : Int)) ∧ SchOwn w' S v (mSch k u) ∧ Foot w w' S := by
  subst hx
  obtain ⟨f, rfl, s0, Q, q1, q2, l1⟩ := hv
  obtain ⟨A1, c1, g1⟩ := l1.form
  have O0_1 : Hid (FldsOwn w (Q 1) (.slice A1 u.fields.length c1) u.fields) := by rw [← g1]; exact l1
  have ER : arrSch f = #[.string u.name, .slice A1 u.fields.length c1] := by unfold arrSch; rw [s0, g1]
  have K0 := Seg.hid s0
  have G1 := Seg.hid g1
  have QP := Seg.hid q1
  have QD := Seg.hid q2
  have QL : Hid (∀ i y, Q i y → y < w.heap.size) := fun i y hy => hS y (QP.out i y hy)
  rw [ER]
  have ER' := Seg.hid ER
  clear ER q1 q2 s0 l1 g1
  have HB : Hid (k + nSch u ≤ 4000000000000000000) := hk1
  unfold nSch at hk1
  have hk2 : k ≤ 4000000000000000000 := by omega
  have HK := Seg.hid hk1
  clear hk1
  go_enter Try.func27, Try.ntmps27
  go_wp2_with fail
  refine (markFieldS_own _ k (by omega) (Q 1) u.fields (w.alloc _) (by omega) (by have := HK.out; omega) (O0_1.out.belowO keepsOFld (below1 w _) (QL.out 1))).mono ?_
  rintro e w1 ⟨rfl, o1, t1⟩
  have O1_1 : Hid (FldsOwn w1 (Q 1) (.slice A1 u.fields.length c1) (mL mFld nFld (k) u.fields)) := o1
  have F1 := Seg.hid ((Foot.of_below (below1 w _) S).trans t1 (QP.out 1))
  clear o1 t1
  obtain ⟨y1, hy1⟩ : ∃ y1, k + tot nFld u.fields = y1 := ⟨_, rfl⟩
  rw [hy1]
  have Hy1 := Seg.hid hy1
  have hp_y1 : 0 < y1 := by omega
  have hd_y1 : y1 ≤ 4000000000000000000 := by have z0 := Hy1.out; have := HK.out; omega
  clear hy1
  go_wp2
  go_ret
  exact ⟨Seg.ret_int (by have z0 := Hy1.out; unfold nSch; omega), ⟨f, by rw [ER'.out], K0.out, Q, QP.out, QD.out, (by have ho := O1_1.out; rw [← G1.out] at ho; exact ho)⟩, F1.out⟩
end Go.Proofs.Ytikfffeiemlnoaa.Ow
namespace Go.Proofs.Ytikfffeiemlnoaa.Ls
set_option maxRecDepth 8000
open Go.RowKit
open Recs
set_option linter.unusedVariables false
end Go.Proofs.Ytikfffeiemlnoaa.Ls
