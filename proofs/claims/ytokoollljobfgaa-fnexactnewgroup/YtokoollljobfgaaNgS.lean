/- NewGroup of the model. -/
import Derived.Test.YtokoollljobfgaaNgP
namespace Go.Proofs.Ytokoollljobfgaa.NgP
set_option maxRecDepth 8000
open Go.RowKit
open Ls Ow
open Recs (hsz below1 below2 chain)
open Lp (inR)
set_option linter.unusedVariables false
set_option maxHeartbeats 1600000 in
theorem spec_any (k t : Int) (w : World) : Calls Try.prog 11 #[.int .i64 k, .int .i64 t] w fun e w' => ∃ v, e = .returned v ∧ GrpOwn w' (seg w.heap.size w'.heap.size) v (newG k t) ∧ Below w.heap.size w w' := by
  have ON : Hid (∀ a b : Int, (#[.int .i64 a, .int .i64 b, .int .i64 0, .int .i64 0, .slice none 0 0, .slice none 0 0] : Array Value).all (·.oneCell') = true) := fun a b => by simp [Value.oneCell']
  go_enter Try.func11, Try.ntmps11
  have H5 := Seg.hid (Cells.there_of (heap_alloc_new w (.cells #[.int .i64 0, .int .i64 0, .int .i64 0, .int .i64 0, .slice none 0 0, .slice none 0 0] 31 (0, 0))))
  have H4 : Hid (∀ a b : Int, ((w.alloc (.cells #[.int .i64 0, .int .i64 0, .int .i64 0, .int .i64 0, .slice none 0 0, .slice none 0 0] 31 (0, 0))).setCells w.heap.size 0 (#[.int .i64 a, .int .i64 b, .int .i64 0, .int .i64 0, .slice none 0 0, .slice none 0 0] : Array Value).toList).heap[w.heap.size]? = some (.cells #[.int .i64 a, .int .i64 b, .int .i64 0, .int .i64 0, .slice none 0 0, .slice none 0 0] 31 (0, 0))) := fun a b => result w a b _ rfl
  have B9 : Hid (∀ a b : Int, Below w.heap.size w ((w.alloc (.cells #[.int .i64 0, .int .i64 0, .int .i64 0, .int .i64 0, .slice none 0 0, .slice none 0 0] 31 (0, 0))).setCells w.heap.size 0 (#[.int .i64 a, .int .i64 b, .int .i64 0, .int .i64 0, .slice none 0 0, .slice none 0 0] : Array Value).toList)) := fun a b => Cells.below_setCells (g := w.heap.size) (Nat.le_refl _) (#[.int .i64 a, .int .i64 b, .int .i64 0, .int .i64 0, .slice none 0 0, .slice none 0 0] : Array Value).toList 0 _ _ (below1 w _)
  go_wp2_with fail
  cases hk : inR 1 k 3 with
  | false =>
    have Z : Hid (newG k t = ⟨0, 0, 0, 0, [], []⟩) := by show _ = _; simp [newG, hk]
    refine (InB.l1In_b _ _ _ false hk _).mono ?_
    rintro e w1 ⟨rfl, rfl⟩
    clear hk
    go_wp2_with (refine wpList_store_mid rfl 31 _ _ rfl w.heap.size 0 #[.int .i64 0, .int .i64 0, .int .i64 0, .int .i64 0, .slice none 0 0, .slice none 0 0] rfl rfl H5.out infoG (ON.out 0 0) ?_)
    exact bodyPost_ret (v := .agg #[.int .i64 0, .int .i64 0, .int .i64 0, .int .i64 0, .slice none 0 0, .slice none 0 0]) (results_cell_row rfl _ _ w.heap.size _ _ _ _ rfl (H4.out 0 0) Try.underlying31 rfl infoG) rfl ⟨_, rfl, by rw [Z.out]; exact own_new _ _ 0 0, B9.out 0 0⟩
  | true =>
    refine (InB.l1In_b _ _ _ true hk _).mono ?_
    rintro e w1 ⟨rfl, rfl⟩
    go_wp2_with fail
    cases ht : inR 1 t 1000000000000 with
    | false =>
      have Z : Hid (newG k t = ⟨0, 0, 0, 0, [], []⟩) := by show _ = _; simp [newG, ht]
      refine (InB.l1In_b _ _ _ false ht _).mono ?_
      rintro e w1 ⟨rfl, rfl⟩
      clear hk ht
      go_wp2_with (refine wpList_store_mid rfl 31 _ _ rfl w.heap.size 0 #[.int .i64 0, .int .i64 0, .int .i64 0, .int .i64 0, .slice none 0 0, .slice none 0 0] rfl rfl H5.out infoG (ON.out 0 0) ?_)
      exact bodyPost_ret (v := .agg #[.int .i64 0, .int .i64 0, .int .i64 0, .int .i64 0, .slice none 0 0, .slice none 0 0]) (results_cell_row rfl _ _ w.heap.size _ _ _ _ rfl (H4.out 0 0) Try.underlying31 rfl infoG) rfl ⟨_, rfl, by rw [Z.out]; exact own_new _ _ 0 0, B9.out 0 0⟩
    | true =>
      have Z : Hid (newG k t = ⟨k, t, 0, 0, [], []⟩) := by show _ = _; simp [newG, hk, ht]
      refine (InB.l1In_b _ _ _ true ht _).mono ?_
      rintro e w1 ⟨rfl, rfl⟩
      clear hk ht
      go_wp2_with (refine wpList_store_mid rfl 31 _ _ rfl w.heap.size 0 #[.int .i64 k, .int .i64 t, .int .i64 0, .int .i64 0, .slice none 0 0, .slice none 0 0] rfl rfl H5.out infoG (ON.out k t) ?_)
      exact bodyPost_ret (v := .agg #[.int .i64 k, .int .i64 t, .int .i64 0, .int .i64 0, .slice none 0 0, .slice none 0 0]) (results_cell_row rfl _ _ w.heap.size _ _ _ _ rfl (H4.out k t) Try.underlying31 rfl infoG) rfl ⟨_, rfl, by rw [Z.out]; exact own_new _ _ k t, B9.out k t⟩
end Go.Proofs.Ytokoollljobfgaa.NgP
