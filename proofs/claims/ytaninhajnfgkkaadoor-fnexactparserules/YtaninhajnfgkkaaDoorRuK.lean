/- A rule asked, and the words of rules, of the program. -/
import Derived.Test.YtaninhajnfgkkaaDoorRuP
import Derived.Deep.RegionHeld3
import Derived.Deep.RegionLaw
import Derived.BigQuiet
namespace Go.Proofs.YtaninhajnfgkkaaDoor.RuI
set_option maxRecDepth 8000
open Go.RowKit
open Ls Lp RuP
open Recs (hsz below1 below2 chain)
set_option linter.unusedVariables false
set_option maxHeartbeats 6400000 in
theorem ok_any (r : Rul) (w : World) (h1 : r.who.size ≤ maxLen) (h2 : r.name.size ≤ maxLen) :
    Calls Tryd.prog 26 #[.agg (rrow r)] w fun e w' => e = .returned (.bool (okR r)) ∧ Below w.heap.size w w' := by
  have no : ∀ (w' : World), okR r = false → Below w.heap.size w w' → (Ending.returned (.bool false) = .returned (.bool (okR r)) ∧ Below w.heap.size w w') := fun w' h b => ⟨by rw [h], b⟩
  have NO := Seg.hid no
  clear no
  go_enter Tryd.func26, Tryd.ntmps26
  obtain ⟨bw, hbw⟩ : ∃ bw, (r.who.toList == [42]) = bw := ⟨_, rfl⟩
  obtain ⟨bn, hbn⟩ : ∃ bn, Nm.nameOk r.who = bn := ⟨_, rfl⟩
  have WO : Hid (whoOk r = (bw || bn)) := by show _ = _; unfold whoOk; rw [hbw, hbn]
  have KN := Seg.hid hbn
  clear hbn
  cases k1 : inR 1 r.may 4 with
  | false =>
    have Z : Hid (okR r = false) := by show _ = _; simp [okR, k1]
    have K1 := Seg.hid k1
    clear k1
    cases bw <;> cases bn
    all_goals
      go_wp2_with (first | (go_at_call 29; refine (Nm.impl_q _ _ KN.out _ h1).mono ?_; rintro e w2 ⟨rfl, rfl⟩) | (go_at_call_of 30 (Value.int IntKind.i64 r.may); refine (InB.within_b _ _ _ false K1.out _).mono ?_; rintro e w5 ⟨rfl, rfl⟩))
      go_ret
      exact NO.out _ Z.out (below1 _ _)
  | true =>
  have K1 := Seg.hid k1
  cases k2 : inR 1 r.on 2 with
  | false =>
    have Z : Hid (okR r = false) := by show _ = _; simp [okR, k2]
    have K2 := Seg.hid k2
    clear k1 k2
    cases bw <;> cases bn
    all_goals
      go_wp2_with (first | (go_at_call 29; refine (Nm.impl_q _ _ KN.out _ h1).mono ?_; rintro e w2 ⟨rfl, rfl⟩) | (go_at_call_of 30 (Value.int IntKind.i64 r.may); refine (InB.within_b _ _ _ true K1.out _).mono ?_; rintro e w5 ⟨rfl, rfl⟩) | (go_at_call_of 30 (Value.int IntKind.i64 r.on); refine (InB.within_b _ _ _ false K2.out _).mono ?_; rintro e w5 ⟨rfl, rfl⟩))
      go_ret
      exact NO.out _ Z.out (below1 _ _)
  | true =>
  have K2 := Seg.hid k2
  have OK : Hid (okR r = ((bw || bn) && nmOk r)) := by show _ = _; rw [okR, WO.out, k1, k2]; simp
  clear k1 k2
  obtain ⟨ba, hba⟩ : ∃ ba, Nm.nameOk r.name = ba := ⟨_, rfl⟩
  obtain ⟨bg, hbg⟩ : ∃ bg, r.begins = bg := ⟨_, rfl⟩
  obtain ⟨be, hbe⟩ : ∃ be, (r.name.toList == []) = be := ⟨_, rfl⟩
  have NM : Hid (nmOk r = (ba || (bg && be))) := by show _ = _; unfold nmOk; rw [hba, hbg, hbe]
  have KA := Seg.hid hba
  clear hba
  have FI : Hid (∀ b w', okR r = b → Below w.heap.size w w' → (Ending.returned (.bool b) = .returned (.bool (okR r)) ∧ Below w.heap.size w w')) := fun b w' h b' => ⟨by rw [h], b'⟩
  have EV : Hid (okR r = ((bw || bn) && (ba || (bg && be)))) := by show _ = _; rw [OK.out, NM.out]
  clear OK NM WO NO
  cases bw <;> cases bn <;> cases ba <;> cases bg <;> cases be
  all_goals
    go_wp2_with (first | (go_at_call_of 29 (Value.string r.who); refine (Nm.impl_q _ _ KN.out _ h1).mono ?_; rintro e w2 ⟨rfl, rfl⟩) | (go_at_call_of 29 (Value.string r.name); refine (Nm.impl_q _ _ KA.out _ h2).mono ?_; rintro e w2 ⟨rfl, rfl⟩) | (go_at_call_of 30 (Value.int IntKind.i64 r.may); refine (InB.within_b _ _ _ true K1.out _).mono ?_; rintro e w5 ⟨rfl, rfl⟩) | (go_at_call_of 30 (Value.int IntKind.i64 r.on); refine (InB.within_b _ _ _ true K2.out _).mono ?_; rintro e w5 ⟨rfl, rfl⟩))
    go_ret
    exact FI.out _ _ EV.out (below1 _ _)
set_option maxHeartbeats 1600000 in
theorem may_any (w : World) : Calls Tryd.prog 23 #[] w fun e w' => e = .returned (.slice (some ⟨w.heap.size, 0, none⟩) 5 5) ∧ (∀ j, j < 5 → w'.cell? ⟨w.heap.size, j, none⟩ = some (.string (mayL.getD j ⟨#[]⟩))) ∧ w.heap.size < w'.heap.size ∧ Below w.heap.size w w' := by
  go_enter Tryd.func23, Tryd.ntmps23
  go_wp2
  go_ret
  refine ⟨rfl, fun j hj => ?_, by rw [hsz]; omega, below1 _ _⟩
  rw [cell_of_row _ _ j _ _ (0, 0) (heap_alloc_new _ _)]
  match j, hj with
  | 0, _ => rfl
  | 1, _ => rfl
  | 2, _ => rfl
  | 3, _ => rfl
  | 4, _ => rfl
set_option maxHeartbeats 1600000 in
theorem on_any (w : World) : Calls Tryd.prog 24 #[] w fun e w' => e = .returned (.slice (some ⟨w.heap.size, 0, none⟩) 3 3) ∧ (∀ j, j < 3 → w'.cell? ⟨w.heap.size, j, none⟩ = some (.string (onL.getD j ⟨#[]⟩))) ∧ w.heap.size < w'.heap.size ∧ Below w.heap.size w w' := by
  go_enter Tryd.func24, Tryd.ntmps24
  go_wp2
  go_ret
  refine ⟨rfl, fun j hj => ?_, by rw [hsz]; omega, below1 _ _⟩
  rw [cell_of_row _ _ j _ _ (0, 0) (heap_alloc_new _ _)]
  match j, hj with
  | 0, _ => rfl
  | 1, _ => rfl
  | 2, _ => rfl
end Go.Proofs.YtaninhajnfgkkaaDoor.RuI
