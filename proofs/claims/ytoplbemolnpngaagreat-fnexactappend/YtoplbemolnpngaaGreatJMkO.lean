/- Marks of one Batch, and the copier of one, by the set of its blocks. -/
import Derived.Test.YtoplbemolnpngaaGreatJP45
import Derived.Test.YtoplbemolnpngaaGreatJP25
namespace Go.Proofs.YtoplbemolnpngaaGreat.Ft
set_option maxRecDepth 8000
open Go.RowKit
open Recs
set_option linter.unusedVariables false
theorem markBatch_own (t : Bat) (rv : Value) (k : Nat) (S : Nat → Prop) (w : World) (hk : 0 < k) (hk1 : k + nL nR1 t.recs ≤ 4000000000000000000) (hv : OwnR w S rv t.recs) (hS : ∀ x, S x → x < w.heap.size) :
    Calls Tryz.prog 13 #[batVal t rv, .int .i64 k] w fun e w' => e = .returned (.int .i64 ((k + nL nR1 t.recs : Nat) : Int)) ∧ Foot w w' S := by
  obtain ⟨A, c, rfl⟩ := LOwn.form hv
  have HV := Seg.hid hv
  clear hv
  unfold batVal
  go_enter Tryz.func13, Tryz.ntmps13
  go_wp2_with fail
  refine (markRecordS_own _ k S t.recs (w.alloc _) hk hk1 (LOwn.keep keepsR HV.out (by rw [hsz]; omega) (fun g hg => (below1 _ _).block g (hS g hg)))).mono ?_
  rintro e w1 ⟨rfl, ow1, f1⟩
  have F1 := Seg.hid f1
  clear ow1 f1
  have FW : Hid (Foot w w1 S) := ⟨F1.out.os, F1.out.tape, F1.out.output, by have := F1.out.size; rw [hsz] at this; omega, fun x hx hn => (F1.out.block x (by rw [hsz]; omega) hn).trans ((below1 _ _).block _ hx)⟩
  go_wp2_with fail
  go_ret
  exact ⟨rfl, FW.out⟩
theorem toBatch_recs (v : Value) (t : Bat) (w : World) (lo b : Nat) (hv : BatAt w lo b v t) (hb : b ≤ w.heap.size) (hf : FewB t) :
    Calls Tryz.prog 8 #[v] w fun e w' => ∃ rv, e = .returned (batVal t rv) ∧ OwnR w' (seg w.heap.size w'.heap.size) rv t.recs ∧ Below w.heap.size w w' :=
  (ToO.toBatch_own v t w lo b hv hb hf).mono fun e w' ⟨rv, x1, x2, x3, x4⟩ => ⟨rv, x1, own_recs x2 x3, x4⟩
end Go.Proofs.YtoplbemolnpngaaGreat.Ft
