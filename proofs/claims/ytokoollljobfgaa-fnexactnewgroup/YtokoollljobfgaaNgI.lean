/- NewGroup of the program. -/
import Derived.Test.YtokoollljobfgaaNgP
import Derived.Test.YtokoollljobfgaaGpI
namespace Go.Proofs.Ytokoollljobfgaa.NgP
set_option maxRecDepth 8000
open Go.RowKit
open Ls Ow
open Recs (hsz below1 below2 chain)
open Lp (inR)
set_option linter.unusedVariables false
abbrev g6 (a b : Int) : Array Value := #[.int .i64 a, .int .i64 b, .int .i64 0, .int .i64 0, .slice none 0 0, .slice none 0 0]
theorem new_ok (k t : Int) : GpP.groupOk ⟨k, t, 0, 0, [], []⟩ = (inR 1 k 3 && inR 1 t 1000000000000) := by
  rw [GmP.group_eq]
  have e1 : TpP.topics [] = true := rfl
  have e2 : GmP.memb ⟨k, t, 0, 0, [], []⟩ = true := rfl
  have e3 : inR 0 0 1000000000000 = true := rfl
  have e4 : inR 0 0 1000000000 = true := rfl
  show (inR 1 k 3 && (inR 1 t 1000000000000 && (inR 0 0 1000000000000 && (inR 0 0 1000000000 && (TpP.topics [] && GmP.memb ⟨k, t, 0, 0, [], []⟩))))) = _
  rw [e1, e2, e3, e4]
  simp
theorem grp_new (w : World) (S : Nat → Prop) (k t : Int) : GrpAt w S (.agg (g6 k t)) ⟨k, t, 0, 0, [], []⟩ :=
  ⟨fun q => match q with | 0 => .int .i64 k | 1 => .int .i64 t | 2 => .int .i64 0 | 3 => .int .i64 0 | _ => .slice none 0 0, rfl, rfl, rfl, rfl, rfl, LAt.nil _ _ _ _, LAt.nil _ _ _ _⟩
theorem result2 {w : World} {b : Nat} {cs vs : Array Value} (h : w.heap[b]? = some (.cells cs 31 (0, 0))) (hc : cs.size = vs.size) : (w.setCells b 0 vs.toList).heap[b]? = some (.cells vs 31 (0, 0)) := Cells.whole h hc
set_option maxHeartbeats 3200000 in
theorem impl_any (k t : Int) (w : World) : Calls Try.prog 12 #[.int .i64 k, .int .i64 t] w fun e w' => ∃ v, e = .returned v ∧ GrpOwn w' (seg w.heap.size w'.heap.size) v (newG k t) ∧ Below w.heap.size w w' := by
  have ON : Hid (∀ a b : Int, (g6 a b).all (·.oneCell') = true) := fun a b => by simp [g6, Value.oneCell']
  go_enter Try.func12, Try.ntmps12
  go_upto_region 2 with fail
  obtain ⟨w2, hw2⟩ : ∃ w2, (w.alloc (.cells (g6 0 0) 31 (0, 0))).alloc (.cells (g6 k t) 31 (0, 0)) = w2 := ⟨_, rfl⟩
  rw [hw2]
  have RA : Hid (w2.heap[w.heap.size]? = some (.cells (g6 0 0) 31 (0, 0))) := by show _ = _; rw [← hw2]; exact at2z _ _ _
  have RB : Hid (w2.heap[w.heap.size + 1]? = some (.cells (g6 k t) 31 (0, 0))) := by show _ = _; rw [← hw2]; exact at2y _ _ _
  have B2 : Hid (Below w.heap.size w w2) := by show Below _ _ _; rw [← hw2]; exact below2 w _ _
  have hl2 : w.heap.size + 1 < w2.heap.size := (Array.getElem?_eq_some_iff.1 RB.out).1
  have CG : Hid (Calls Try.prog 9 #[.agg (g6 k t)] w2 fun e w' => e = .returned (.bool (inR 1 k 3 && inR 1 t 1000000000000)) ∧ Below w2.heap.size w2 w') := by
    have := GpI.impl_any _ _ w2 (fun _ => False) (grp_new w2 _ k t) (fun g hg => hg.elim) (Nat.zero_le 1048576)
    rw [new_ok] at this
    exact this
  clear hw2
  have c0 := cell_of_row w2 _ 0 _ _ (0, 0) RB.out
  have c1 := cell_of_row w2 _ 1 _ _ (0, 0) RB.out
  have c2 := cell_of_row w2 _ 2 _ _ (0, 0) RB.out
  have c3 := cell_of_row w2 _ 3 _ _ (0, 0) RB.out
  have c4 := cell_of_row w2 _ 4 _ _ (0, 0) RB.out
  have c5 := cell_of_row w2 _ 5 _ _ (0, 0) RB.out
  have HI : Hid (∀ w3, Below w2.heap.size w2 w3 → w3.heap[w.heap.size]? = some (.cells (g6 0 0) 31 (0, 0)) ∧ w3.heap[w.heap.size + 1]? = some (.cells (g6 k t) 31 (0, 0))) := fun w3 b => ⟨by rw [b.block _ (by omega)]; exact RA.out, by rw [b.block _ hl2]; exact RB.out⟩
  cases hk : (inR 1 k 3 && inR 1 t 1000000000000) with
  | false =>
    have Z : Hid (newG k t = ⟨0, 0, 0, 0, [], []⟩) := by show _ = _; simp [newG, hk]
    rw [hk] at CG
    clear hk
    go_upto_region 3 with (go_at_call 9; refine CG.out.mono ?_; rintro e w3 ⟨rfl, b3⟩; have B3 := Seg.hid b3; clear b3)
    clear c0 c1 c2 c3 c4 c5
    have H5 := Seg.hid (Cells.there_of (HI.out _ B3.out).1)
    have RS : Hid ((w3.setCells w.heap.size 0 (g6 0 0).toList).heap[w.heap.size]? = some (.cells (g6 0 0) 31 (0, 0))) := result2 (HI.out _ B3.out).1 rfl
    have BS : Hid (Below w.heap.size w (w3.setCells w.heap.size 0 (g6 0 0).toList)) := Cells.below_setCells (g := w.heap.size) (Nat.le_refl _) _ 0 _ _ (chain B2.out B3.out)
    go_wp2_with (refine wpList_store_mid rfl 31 _ _ rfl w.heap.size 0 (g6 0 0) rfl rfl H5.out infoG (ON.out 0 0) ?_)
    exact bodyPost_ret (v := .agg (g6 0 0)) (results_cell_row rfl _ _ w.heap.size _ _ _ _ rfl RS.out Try.underlying31 rfl infoG) rfl ⟨_, rfl, by rw [Z.out]; exact own_new _ _ 0 0, BS.out⟩
  | true =>
    have Z : Hid (newG k t = ⟨k, t, 0, 0, [], []⟩) := by show _ = _; simp [newG, hk]
    rw [hk] at CG
    clear hk
    go_upto_region 4 with (go_at_call 9; refine CG.out.mono ?_; rintro e w3 ⟨rfl, b3⟩; have B3 := Seg.hid b3; clear b3)
    clear c0 c1 c2 c3 c4 c5
    have RC := (HI.out _ B3.out).2
    have d0 := cell_of_row w3 _ 0 _ _ (0, 0) RC
    have d1 := cell_of_row w3 _ 1 _ _ (0, 0) RC
    have d2 := cell_of_row w3 _ 2 _ _ (0, 0) RC
    have d3 := cell_of_row w3 _ 3 _ _ (0, 0) RC
    have d4 := cell_of_row w3 _ 4 _ _ (0, 0) RC
    have d5 := cell_of_row w3 _ 5 _ _ (0, 0) RC
    clear RC
    have H5 := Seg.hid (Cells.there_of (HI.out _ B3.out).1)
    have RS : Hid ((w3.setCells w.heap.size 0 (g6 k t).toList).heap[w.heap.size]? = some (.cells (g6 k t) 31 (0, 0))) := result2 (HI.out _ B3.out).1 rfl
    have BS : Hid (Below w.heap.size w (w3.setCells w.heap.size 0 (g6 k t).toList)) := Cells.below_setCells (g := w.heap.size) (Nat.le_refl _) _ 0 _ _ (chain B2.out B3.out)
    go_wp2_with (refine wpList_store_mid rfl 31 _ _ rfl w.heap.size 0 (g6 k t) rfl rfl H5.out infoG (ON.out k t) ?_)
    exact bodyPost_ret (v := .agg (g6 k t)) (results_cell_row rfl _ _ w.heap.size _ _ _ _ rfl RS.out Try.underlying31 rfl infoG) rfl ⟨_, rfl, by rw [Z.out]; exact own_new _ _ k t, BS.out⟩
end Go.Proofs.Ytokoollljobfgaa.NgP
