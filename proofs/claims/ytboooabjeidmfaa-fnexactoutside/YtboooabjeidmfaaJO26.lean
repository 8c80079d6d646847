/- The program's Query.cols. -/
import Derived.Test.YtboooabjeidmfaaJO18
import Derived.Test.YtboooabjeidmfaaJO21
import Derived.Test.YtboooabjeidmfaaJO20
import Derived.Test.YtboooabjeidmfaaJO22
namespace Go.Proofs.Ytboooabjeidmfaa.YzI
set_option maxRecDepth 8000
open Go.RowKit
open Ls Lp QyP QsP QtP QuP YcP YsP YtP QsI XqP YtI YvP YzP
open Recs (hsz below1 below2 below3 chain)
set_option linter.unusedVariables false
structure Gs (w wr : World) (b0 : Nat) (q : Qry) (k : Nat) (v : Value) : Prop where
  le : k ≤ q.gets.length
  row : Row wr b0 v ((colsL q.wh ++ q.gps) ++ gcL (q.gets.take k))
  bel : Below w.heap.size w wr
  siz : b0 ≤ wr.heap.size
theorem row_form {w : World} {B : Nat} {v : Value} {ns : List ByteArray} (h : Row w B v ns) : ∃ A c, v = .slice A ns.length c := by
  rcases h.2 with ⟨h1, h2⟩ | ⟨g, cap, cur, h1, -⟩
  · exact ⟨none, 0, by rw [h1, h2]⟩
  · exact ⟨_, cap, h1⟩
set_option maxHeartbeats 12800000 in
theorem cols_any (q : Qry) (A5 : Option Addr) (c5 : Nat) (A6 : Option Addr) (c6 : Nat) (A10 : Option Addr) (c10 : Nat) (w : World) (S : Nat → Prop) (h5 : LAt 3 EStp w S (.slice A5 q.wh.length c5) q.wh) (h6 : LAt 1 EStr w S (.slice A6 q.gps.length c6) q.gps) (h10 : LAt 3 EGqt w S (.slice A10 q.gets.length c10) q.gets) (hS : ∀ g, S g → g < w.heap.size) (hq : qOk q = true) :
    Calls Try.prog 66 #[.agg (qrow q A5 c5 A6 c6 A10 c10)] w fun e w' => ∃ v', e = .returned v' ∧ Row w' w.heap.size v' (colsQ q) ∧ Below w.heap.size w w' := by
  have H5 := Seg.hid h5
  have H6 := Seg.hid h6
  have H10 := Seg.hid h10
  clear h5 h6 h10
  obtain ⟨l5, l6, l10, lg⟩ := q_len hq
  have LG := Seg.hid lg
  clear lg hq
  obtain ⟨A9, c9, g, o, F, e9, OP, hn⟩ := opn H10.out hS
  cases e9
  have HO := Seg.hid OP
  clear OP
  obtain ⟨CL, hCL⟩ : ∃ L, colsQ q = L := ⟨_, rfl⟩
  rw [hCL]
  rw [cols_q] at hCL
  have HCL := Seg.hid hCL
  clear hCL
  obtain ⟨i0, hi, hz0, hz1, hz2⟩ := info_parts infoStr
  obtain ⟨W1, hW1⟩ : ∃ W1, w.alloc (.cells (qrow q A5 c5 A6 c6 A10 c10) 39 (0, 0)) = W1 := ⟨_, rfl⟩
  have N1 : Hid (Below w.heap.size w W1) := by show Below _ _ _; rw [← hW1]; exact below1 _ _
  have T1 : Hid (W1.heap[w.heap.size]? = some (.cells (qrow q A5 c5 A6 c6 A10 c10) 39 (0, 0))) := by show _ = _; rw [← hW1]; exact heap_alloc_new _ _
  have z1 : w.heap.size < W1.heap.size := (Array.getElem?_eq_some_iff.1 T1.out).1
  have CO : Hid (∀ wx, Below w.heap.size w wx → Calls Try.prog 59 #[.slice A5 q.wh.length c5] wx fun e w' => ∃ v', e = .returned v' ∧ Row w' wx.heap.size v' (colsL q.wh) ∧ Below wx.heap.size wx w') := fun wx b => YcI.cols_any _ q.wh wx S (LAt.below keepsStp H5.out b hS) (fun y hy => Nat.lt_of_lt_of_le (hS y hy) b.size) l5
  obtain ⟨-, -, -, -, -, p5, p6, -, -, -, p10⟩ := qcells T1.out
  have lw := colsL_len q.wh
  go_enter Try.func66, Try.ntmps66
  go_upto_region 1 with fail
  try rw [hW1]
  clear hW1
  go_region_held3 (fun w' => w'.cell? ⟨w.heap.size, 5, none⟩ = some (.slice A5 q.wh.length c5) ∧ w'.cell? ⟨w.heap.size, 6, none⟩ = some (.slice A6 q.gps.length c6)) (first | exact ⟨p5, p6⟩ | exact ⟨n5, n6⟩ | exact ⟨k5, k6⟩ | go_keep) (first | (go_at_call 59; refine (CO.out W1.drew N1.out.drew).mono ?_; rintro e w2 ⟨v2, rfl, r2, b2⟩; have R2 : Hid (Row w2 W1.heap.size v2 (colsL q.wh)) := r2; have B2 : Hid (Below W1.heap.size W1 w2) := ⟨b2.os, b2.tape, b2.output, b2.size, b2.block⟩; have n5 := cell_later p5 z1 B2.out; have n6 := cell_later p6 z1 B2.out; have n10 := cell_later p10 z1 B2.out; clear r2 b2) | (refine AppW.step_append_all _ (by rfl) _ _ 30 (by rfl) W1.heap.size 9 i0 _ 1 16 Try.underlying30 hi hz0 hz1 hz2 rfl (by decide) v2 (colsL q.wh).length ((colsL q.wh).map Value.string) (by rfl) R2.out A6 q.gps.length c6 (q.gps.map Value.string) (by rfl) (by simp) (news_of H6.out (fun y hy => (B2.out.block y (by have := hS y hy; omega)).trans (N1.out.block y (hS y hy)))) (by simp [Value.oneCell']) (by unfold maxLen; omega) (by omega) (by exact B2.out.size) ?_; intro v3 w3 own3 gr3 vb3; have R3 := Seg.hid (row_more own3); have B3 : Hid (Below w.heap.size w w3) := (chain N1.out B2.out).grown gr3 (by have := B2.out.size; omega) (fun y hy => by have := (World.ownsRow.lt R2.out y hy).1; omega); have E3 : Hid (w3.heap[w.heap.size]? = w2.heap[w.heap.size]?) := gr3.block w.heap.size (by have := B2.out.size; omega) (fun e => by have := (World.ownsRow.lt R2.out _ e.symm).1; omega); have k5 : w3.cell? ⟨w.heap.size, 5, none⟩ = some (.slice A5 q.wh.length c5) := (World.cell?_of_block (w := w2) (a := ⟨w.heap.size, 5, none⟩) E3.out).trans n5; have k6 : w3.cell? ⟨w.heap.size, 6, none⟩ = some (.slice A6 q.gps.length c6) := (World.cell?_of_block (w := w2) (a := ⟨w.heap.size, 6, none⟩) E3.out).trans n6; have k10 : w3.cell? ⟨w.heap.size, 10, none⟩ = some (.slice A10 q.gets.length c10) := (World.cell?_of_block (w := w2) (a := ⟨w.heap.size, 10, none⟩) E3.out).trans n10; have S3 : Hid (W1.heap.size ≤ w3.heap.size) := (by have := gr3.size; have := B2.out.size; show _ ≤ _; omega); clear own3 gr3 vb3))
  all_goals
    have hw1 : w.heap.size < W1.heap.size := z1
    have Z1 := Seg.hid z1
    clear p5 p6 p10 n5 n6 n10 k5 k6 z1
    go_wp2
    go_loopw [3, 15] (fun v i wr => ∃ k : Nat, i = .int .i64 k ∧ Gs w wr W1.heap.size q k v) (fun _ i _ => q.gets.length - (intOf i).toNat)
    case atStart => exact ⟨0, rfl, Nat.zero_le _, by have := R3.out; simpa [gcL] using this, B3.out, S3.out⟩
    case round =>
      clear R2 R3 B2 B3 E3 S3 k10
      obtain ⟨k, rfl, SS⟩ := hrel
      obtain ⟨v, hv3⟩ : ∃ v, v = u3 := ⟨_, rfl⟩
      rw [← hv3] at SS ⊢
      clear hv3
      have hk := SS.le
      have BW := Seg.hid SS.bel
      have RW := Seg.hid SS.row
      have hsw := SS.siz
      clear SS
      by_cases hlt : k < q.gets.length
      · obtain ⟨ea, hc, hgw⟩ := HO.out.addr.resolve_left (by omega)
        subst ea
        obtain ⟨A', c', hcl, d0, d1, d2⟩ := gqt_at HO.out hS BW.out hlt
        have h0 : (0 : Int) ≤ (k : Int) := by omega
        have h1 : (k : Int) < (q.gets.length : Int) := by omega
        have NN := Seg.hid (gc_next hlt)
        have NL := Seg.hid (gc_take LG.out l10 k)
        have GL : Hid ((q.gets.getD k default).steps.length ≤ 60) := LG.out _ (getD_mem hlt)
        have HC := Seg.hid hcl
        clear hcl
        generalize q.gets.getD k default = g1 at *
        have hSr : ∀ y, S y → y < wr.heap.size := fun y hy => Nat.lt_of_lt_of_le (hS y hy) BW.out.size
        have gl := GL.out
        have gl2 := colsL_len g1.steps
        have CG : Hid (∀ wx, Below wr.heap.size wr wx → Calls Try.prog 59 #[.slice A' g1.steps.length c'] wx fun e w' => ∃ v', e = .returned v' ∧ Row w' wx.heap.size v' (colsL g1.steps) ∧ Below wx.heap.size wx w') := fun wx b => YcI.cols_any _ g1.steps wx S (LAt.below keepsStp HC.out b hSr) (fun y hy => Nat.lt_of_lt_of_le (hSr y hy) b.size) gl
        obtain ⟨w5, hw5⟩ : ∃ w5, wr.alloc (.cells #[.int .i64 g1.kind, .slice A' g1.steps.length c', .string g1.nm] 74 (0, 0)) = w5 := ⟨_, rfl⟩
        have T5 : Hid (w5.heap[wr.heap.size]? = some (.cells #[.int .i64 g1.kind, .slice A' g1.steps.length c', .string g1.nm] 74 (0, 0))) := by show _ = _; rw [← hw5]; exact heap_alloc_new _ _
        have N5 : Hid (Below wr.heap.size wr w5) := by show Below _ _ _; rw [← hw5]; exact below1 _ _
        go_upto_region 5 with fail
        try rw [hw5]
        clear hw5 d0 d1 d2
        obtain ⟨q0, q1, q2⟩ := gcells T5.out
        go_wp2_with fail
        refine (CG.out _ N5.out).mono ?_
        rintro e w6 ⟨v6, rfl, r6, b6⟩
        obtain ⟨A8, c8, rfl⟩ := row_form r6
        have NW : Hid ((colsL g1.steps).length ≠ 0 → ∃ ad, A8 = some ad ∧ ∀ j u, ((colsL g1.steps).map Value.string)[j]? = some u → w6.cell? (ad.add j) = some u) := news_of (Row.lat r6 (by omega)) (fun _ _ => rfl)
        have B6 := Seg.hid (chain N5.out b6)
        have OW : Hid (w6.ownsRow W1.heap.size 9 1 v ((colsL q.wh ++ q.gps) ++ gcL (q.gets.take k)).length (((colsL q.wh ++ q.gps) ++ gcL (q.gets.take k)).map Value.string)) := Row.keep RW.out B6.out
        have ln : ((colsL q.wh ++ q.gps) ++ gcL (q.gets.take k)).length ≤ 600 := by have := NL.out; rw [List.length_append, List.length_append]; omega
        clear r6 b6 q0 q1 q2
        go_wp2_with (at_builtin; refine AppW.wpList_append_all _ rfl _ _ 30 rfl W1.heap.size 9 i0 _ 1 16 Try.underlying30 hi hz0 hz1 hz2 rfl (by decide) v ((colsL q.wh ++ q.gps) ++ gcL (q.gets.take k)).length (((colsL q.wh ++ q.gps) ++ gcL (q.gets.take k)).map Value.string) rfl OW.out A8 (colsL g1.steps).length c8 ((colsL g1.steps).map Value.string) rfl (by simp) NW.out (by simp [Value.oneCell']) (by unfold maxLen; omega) (by omega) (by have := B6.out.size; omega) ?_; intro v7 w7 hown hgr hvb; have R7 := Seg.hid (row_more hown); have B7 : Hid (Below w.heap.size w w7) := (chain BW.out B6.out).grown hgr (by have := B6.out.size; have := BW.out.size; omega) (fun y hy => by have := (World.ownsRow.lt RW.out y hy).1; have := Z1.out; omega); have S7 : Hid (W1.heap.size ≤ w7.heap.size) := (by have := hgr.size; have := B6.out.size; show _ ≤ _; omega); clear hown hgr hvb)
        go_roundw
        case rel => exact ⟨k + 1, by go_num, by omega, by rw [NN.out, ← List.append_assoc]; exact R7.out, B7.out, S7.out⟩
        case measure => simp [intOf]; omega
      · have hkl : k = q.gets.length := by omega
        have RL : Hid (Row wr W1.heap.size v ((colsL q.wh ++ q.gps) ++ gcL q.gets)) := by
          have := RW.out
          rw [hkl, List.take_length] at this
          exact this
        have hx1 : ¬ (k : Int) < (q.gets.length : Int) := by omega
        clear hkl RW
        go_wp2
        go_ret
        exact ⟨_, rfl, by rw [← HCL.out]; exact row_weak RL.out (Nat.le_of_lt Z1.out), BW.out⟩
end Go.Proofs.Ytboooabjeidmfaa.YzI
