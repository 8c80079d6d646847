/- The law of Commit: its helpers and its walk. -/
import Derived.Test.YtkdhelmnnbnphaaDoorCoS
import Derived.Test.YtkdhelmnnbnphaaDoorCoI
namespace Go.Proofs.YtkdhelmnnbnphaaDoor.ExCo
set_option maxRecDepth 8000
open Go.RowKit
open Lp (inR inR_true)
open ItS (dec)
open CoP
open Recs (hsz below1 below2 chain)
set_option linter.unusedVariables false
theorem six {w : World} {b : Nat} {a : Int} {k : Bool} {c d : ByteArray} (h : w.heap[b]? = some (.cells (row a k c d) 27 (0, 0))) : w.cell? ⟨b, 0, none⟩ = some (.int .i64 a) ∧ w.cell? ⟨b, 1, none⟩ = some (.bool k) ∧ w.cell? ⟨b, 2, none⟩ = some (.string c) ∧ w.cell? ⟨b, 3, none⟩ = some (.bool false) ∧ w.cell? ⟨b, 4, none⟩ = some (.string d) ∧ w.cell? ⟨b, 5, none⟩ = some (.slice none 0 0) :=
  ⟨cell_of_row w b 0 _ _ (0, 0) h, cell_of_row w b 1 _ _ (0, 0) h, cell_of_row w b 2 _ _ (0, 0) h, cell_of_row w b 3 _ _ (0, 0) h, cell_of_row w b 4 _ _ (0, 0) h, cell_of_row w b 5 _ _ (0, 0) h⟩
set_option maxHeartbeats 800000 in
theorem sz_any (tp : ByteArray) (pt : Int) (l : Int) (w : World) (h0 : 0 ≤ l) (h1 : l ≤ 1048576) (hp : tp.size ≤ maxLen) :
    Calls Tryd.prog 5 #[.agg #[.string tp, .int .i64 pt], .int .i64 l] w fun e w' => ∃ q, e = .returned (.int .i64 q) ∧ (0 ≤ q → (tp.size : Int) ≤ l) ∧ Below w.heap.size w w' := by
  have hp' : tp.size ≤ 9223372036854775807 := by unfold maxLen at hp; omega
  go_enter Tryd.func5, Tryd.ntmps5
  by_cases hl : l - (tp.size : Int) < 0
  · go_wp2
    go_ret
    exact ⟨_, rfl, fun h => absurd h (by omega), below1 _ _⟩
  · go_wp2
    go_ret
    exact ⟨_, rfl, fun h => by omega, below1 _ _⟩
set_option maxHeartbeats 1600000 in
theorem to_any (tp : ByteArray) (pt : Int) (w : World) :
    Calls Tryd.prog 7 #[.agg #[.string tp, .int .i64 pt]] w fun e w' => e = .returned (.agg #[.string tp, .int .i64 pt]) ∧ Below w.heap.size w w' := by
  go_enter Tryd.func7, Tryd.ntmps7
  go_wp2
  exact bodyPost_ret (v := .agg #[.string tp, .int .i64 pt]) (results_cell_row rfl _ _ (w.heap.size + 1) _ _ _ _ rfl (((below1 _ _).block _ (by rw [hsz, hsz]; omega)).trans (Ls.at2y w _ _)) Tryd.underlying30 rfl (by kernel_rfl)) rfl ⟨rfl, chain (below2 _ _ _) (below1 _ _)⟩
set_option maxHeartbeats 1600000 in
theorem eqH_any (w : World) : Calls Tryd.prog 26 #[.slice none 0 0, .slice none 0 0] w fun e w' => e = .returned (.bool true) ∧ Below w.heap.size w w' := by
  go_enter Tryd.func26, Tryd.ntmps26
  go_wp2_with fail
  go_loop [5] (fun i => i = .int .i64 0) (fun _ => 0)
  case atStart => rfl
  case round =>
    obtain rfl := hrel
    go_wp2
    go_ret
    exact ⟨rfl, Below.refl _ _⟩
set_option maxHeartbeats 1600000 in
theorem markH_any (k : Int) (w : World) : Calls Tryd.prog 27 #[.slice none 0 0, .int .i64 k] w fun e w' => e = .returned (.int .i64 k) ∧ Below w.heap.size w w' := by
  go_enter Tryd.func27, Tryd.ntmps27
  go_wp2_with fail
  go_loop [1, 5] (fun x i => x = .int .i64 k ∧ i = .int .i64 0) (fun _ _ => 0)
  case atStart => exact ⟨rfl, rfl⟩
  case round =>
    obtain ⟨rfl, rfl⟩ := hrel
    go_wp2
    go_ret
    exact ⟨rfl, Below.refl _ _⟩
set_option maxHeartbeats 1600000 in
theorem heldH_any (k : Int) (w : World) : Calls Tryd.prog 28 #[.slice none 0 0, .int .i64 k] w fun e w' => e = .returned (.int .i64 k) ∧ Below w.heap.size w w' := by
  go_enter Tryd.func28, Tryd.ntmps28
  go_wp2_with fail
  go_loop [1, 5] (fun x i => x = .int .i64 k ∧ i = .int .i64 0) (fun _ _ => 0)
  case atStart => exact ⟨rfl, rfl⟩
  case round =>
    obtain ⟨rfl, rfl⟩ := hrel
    go_wp2
    go_ret
    exact ⟨rfl, Below.refl _ _⟩
set_option maxHeartbeats 1600000 in
theorem eqR_any (a : Int) (k : Bool) (c d : ByteArray) (w : World) : Calls Tryd.prog 9 #[.agg (row a k c d), .agg (row a k c d)] w fun e w' => e = .returned (.bool true) ∧ Below w.heap.size w w' := by
  go_enter Tryd.func9, Tryd.ntmps9
  go_wp2_with (go_at_call 26; refine (eqH_any _).mono ?_; rintro e w2 ⟨rfl, b2⟩; have B2 := Seg.hid b2; clear b2)
  go_ret
  exact ⟨rfl, chain (below2 _ _ _) B2.out⟩
set_option maxHeartbeats 1600000 in
theorem markR_any (a : Int) (k : Bool) (c d : ByteArray) (m : Int) (w : World) : Calls Tryd.prog 10 #[.agg (row a k c d), .int .i64 m] w fun e w' => e = .returned (.int .i64 m) ∧ Below w.heap.size w w' := by
  go_enter Tryd.func10, Tryd.ntmps10
  go_wp2_with (go_at_call 27; refine (markH_any _ _).mono ?_; rintro e w2 ⟨rfl, b2⟩; have B2 := Seg.hid b2; clear b2)
  go_ret
  exact ⟨rfl, chain (below1 _ _) B2.out⟩
set_option maxHeartbeats 1600000 in
theorem heldR_any (a : Int) (k : Bool) (c d : ByteArray) (m : Int) (hm : 0 ≤ m) (w : World) : Calls Tryd.prog 11 #[.agg (row a k c d), .int .i64 m] w fun e w' => e = .returned (.int .i64 m) ∧ Below w.heap.size w w' := by
  have h1 : ¬ m < 0 := by omega
  go_enter Tryd.func11, Tryd.ntmps11
  go_wp2_with (go_at_call 28; refine (heldH_any _ _).mono ?_; rintro e w2 ⟨rfl, b2⟩; have B2 := Seg.hid b2; clear b2)
  go_ret
  exact ⟨rfl, chain (below1 _ _) B2.out⟩
theorem rec_form (g tp : ByteArray) (pt off tm : Int) : ∃ a k c d, recA g tp pt off tm = row a k c d := by
  unfold recA
  split
  · exact ⟨_, _, _, _, rfl⟩
  · exact ⟨_, _, _, _, rfl⟩
end Go.Proofs.YtkdhelmnnbnphaaDoor.ExCo
