/- The walk of the law on Charge out of the contracts. -/
import Derived.Test.YtencpfcjgfpciaaChS
import Derived.Test.YtencpfcjgfpciaaChI
import Derived.Test.YtencpfcjgfpciaaLsO
namespace Go.Proofs.Ytencpfcjgfpciaa.ExCh
set_option maxRecDepth 8000
open Go.RowKit
open Ls Lp ChP
open Recs (hsz below1 below2 chain)
set_option linter.unusedVariables false
theorem form {w : World} {S : Nat → Prop} {v : Value} {u : Bkt} (h : BktAt w S v u) : v = .agg #[.int .i64 u.rate, .int .i64 u.burst, .int .i64 u.level, .int .i64 u.time] := by
  obtain ⟨f, rfl, y0, y1, y2, y3⟩ := h
  simp only [arrBkt]
  rw [show f 0 = _ from y0, show f 1 = _ from y1, show f 2 = _ from y2, show f 3 = _ from y3]
theorem like {w : World} {S : Nat → Prop} (u : Bkt) : BktAt w S (.agg #[.int .i64 u.rate, .int .i64 u.burst, .int .i64 u.level, .int .i64 u.time]) u := ⟨fun | 0 => .int .i64 u.rate | 1 => .int .i64 u.burst | 2 => .int .i64 u.level | _ => .int .i64 u.time, rfl, rfl, rfl, rfl, rfl⟩
theorem to_any (u : Bkt) (w : World) : Calls Try.prog 6 #[.agg #[.int .i64 u.rate, .int .i64 u.burst, .int .i64 u.level, .int .i64 u.time]] w fun e w' => e = .returned (.agg #[.int .i64 u.rate, .int .i64 u.burst, .int .i64 u.level, .int .i64 u.time]) ∧ Below w.heap.size w w' :=
  (toBucket_any _ u w (fun g => g < w.heap.size) (like u) (fun g hg => hg) (by show 0 ≤ _; omega)).mono fun e w' ⟨v', h1, h2, h3⟩ => ⟨by rw [h1, form h2], h3⟩
theorem eq_any (u : Bkt) (w : World) : Calls Try.prog 8 #[.agg #[.int .i64 u.rate, .int .i64 u.burst, .int .i64 u.level, .int .i64 u.time], .agg #[.int .i64 u.rate, .int .i64 u.burst, .int .i64 u.level, .int .i64 u.time]] w fun e w' => e = .returned (.bool true) ∧ Below w.heap.size w w' :=
  eqBucket_any _ _ u w (fun g => g < w.heap.size) (fun g => g < w.heap.size) (like u) (like u) (fun g hg => hg) (fun g hg => hg)
set_option maxHeartbeats 6400000 in
theorem walk (v : Value) (u : Bkt) (now units : Int) (w : World) (hv : BktAt w (All w) v u) :
    Calls Try.prog 3 #[v, .int .i64 now, .int .i64 units] w fun e w' => e = .returned (.bool true) ∧ Below w.heap.size w w' := by
  rw [form hv]
  clear hv
  have CS : Hid (∀ wx, Calls Try.prog 5 #[.agg #[.int .i64 u.rate, .int .i64 u.burst, .int .i64 u.level, .int .i64 u.time], .int .i64 now, .int .i64 units] wx fun e w' => e = .returned (ans u now units) ∧ Below wx.heap.size wx w') := ChS.spec_any u now units
  have CI : Hid (∀ wx, Calls Try.prog 7 #[.agg #[.int .i64 u.rate, .int .i64 u.burst, .int .i64 u.level, .int .i64 u.time], .int .i64 now, .int .i64 units] wx fun e w' => e = .returned (ans u now units) ∧ Below wx.heap.size wx w') := ChI.impl_any u now units
  unfold ans at CS CI
  generalize chg u now units = r at *
  generalize wt u now units = q at *
  generalize fine u now units = fl at *
  go_enter Try.func3, Try.ntmps3
  have B0 : Hid (Below w.heap.size w (w.alloc (.cells #[.int .i64 u.rate, .int .i64 u.burst, .int .i64 u.level, .int .i64 u.time] 23 (0, 0)))) := below1 _ _
  have R0 : Hid ((w.alloc (.cells #[.int .i64 u.rate, .int .i64 u.burst, .int .i64 u.level, .int .i64 u.time] 23 (0, 0))).heap[w.heap.size]? = some (.cells #[.int .i64 u.rate, .int .i64 u.burst, .int .i64 u.level, .int .i64 u.time] 23 (0, 0))) := heap_alloc_new _ _
  go_upto_region 1 with fail
  generalize w.alloc (.cells #[.int .i64 u.rate, .int .i64 u.burst, .int .i64 u.level, .int .i64 u.time] 23 (0, 0)) = w1 at *
  have l1 : w.heap.size < w1.heap.size := (Array.getElem?_eq_some_iff.1 R0.out).1
  have c0 := cell_of_row w1 w.heap.size 0 _ _ (0, 0) R0.out
  have c1 := cell_of_row w1 w.heap.size 1 _ _ (0, 0) R0.out
  have c2 := cell_of_row w1 w.heap.size 2 _ _ (0, 0) R0.out
  have c3 := cell_of_row w1 w.heap.size 3 _ _ (0, 0) R0.out
  go_upto_region 2 with (first | (go_at_call 6; refine (to_any u _).mono ?_; rintro e w2 ⟨rfl, b2⟩; have B2 := Seg.hid b2; clear b2) | (go_at_call 5; refine (CS.out _).mono ?_; rintro e w3 ⟨rfl, b3⟩; have B3 := Seg.hid b3; clear b3))
  have B4 : Hid (Below w.heap.size w (w3.alloc (.cells #[.int .i64 r.rate, .int .i64 r.burst, .int .i64 r.level, .int .i64 r.time] 24 (0, 0)))) := chain (chain (chain B0.out B2.out) B3.out) (below1 _ _)
  have BA : Hid (Below w1.heap.size w1 (w3.alloc (.cells #[.int .i64 r.rate, .int .i64 r.burst, .int .i64 r.level, .int .i64 r.time] 24 (0, 0)))) := chain (chain B2.out B3.out) (below1 _ _)
  have R4 : Hid ((w3.alloc (.cells #[.int .i64 r.rate, .int .i64 r.burst, .int .i64 r.level, .int .i64 r.time] 24 (0, 0))).heap[w3.heap.size]? = some (.cells #[.int .i64 r.rate, .int .i64 r.burst, .int .i64 r.level, .int .i64 r.time] 24 (0, 0))) := heap_alloc_new _ _
  generalize w3.alloc (.cells #[.int .i64 r.rate, .int .i64 r.burst, .int .i64 r.level, .int .i64 r.time] 24 (0, 0)) = w4 at *
  have l4 : w3.heap.size < w4.heap.size := (Array.getElem?_eq_some_iff.1 R4.out).1
  have d0 := (BA.out.cell (p := ⟨w.heap.size, 0, none⟩) l1).trans c0
  have d1 := (BA.out.cell (p := ⟨w.heap.size, 1, none⟩) l1).trans c1
  have d2 := (BA.out.cell (p := ⟨w.heap.size, 2, none⟩) l1).trans c2
  have d3 := (BA.out.cell (p := ⟨w.heap.size, 3, none⟩) l1).trans c3
  clear c0 c1 c2 c3 CS B2 B3 BA
  go_upto_region 3 with (first | (go_at_call 6; refine (to_any u _).mono ?_; rintro e w5 ⟨rfl, b5⟩; have B5 := Seg.hid b5; clear b5) | (go_at_call 7; refine (CI.out _).mono ?_; rintro e w6 ⟨rfl, b6⟩; have B6 := Seg.hid b6; clear b6))
  have B7 : Hid (Below w.heap.size w (w6.alloc (.cells #[.int .i64 r.rate, .int .i64 r.burst, .int .i64 r.level, .int .i64 r.time] 24 (0, 0)))) := chain (chain (chain B4.out B5.out) B6.out) (below1 _ _)
  have BB : Hid (Below w4.heap.size w4 (w6.alloc (.cells #[.int .i64 r.rate, .int .i64 r.burst, .int .i64 r.level, .int .i64 r.time] 24 (0, 0)))) := chain (chain B5.out B6.out) (below1 _ _)
  have R7 : Hid ((w6.alloc (.cells #[.int .i64 r.rate, .int .i64 r.burst, .int .i64 r.level, .int .i64 r.time] 24 (0, 0))).heap[w6.heap.size]? = some (.cells #[.int .i64 r.rate, .int .i64 r.burst, .int .i64 r.level, .int .i64 r.time] 24 (0, 0))) := heap_alloc_new _ _
  generalize w6.alloc (.cells #[.int .i64 r.rate, .int .i64 r.burst, .int .i64 r.level, .int .i64 r.time] 24 (0, 0)) = w7 at *
  have l7 : w6.heap.size < w7.heap.size := (Array.getElem?_eq_some_iff.1 R7.out).1
  have e0 := cell_of_row w7 w6.heap.size 0 _ _ (0, 0) R7.out
  have e1 := cell_of_row w7 w6.heap.size 1 _ _ (0, 0) R7.out
  have e2 := cell_of_row w7 w6.heap.size 2 _ _ (0, 0) R7.out
  have e3 := cell_of_row w7 w6.heap.size 3 _ _ (0, 0) R7.out
  have f0 := (BB.out.cell (p := ⟨w3.heap.size, 0, none⟩) l4).trans (cell_of_row w4 w3.heap.size 0 _ _ (0, 0) R4.out)
  have f1 := (BB.out.cell (p := ⟨w3.heap.size, 1, none⟩) l4).trans (cell_of_row w4 w3.heap.size 1 _ _ (0, 0) R4.out)
  have f2 := (BB.out.cell (p := ⟨w3.heap.size, 2, none⟩) l4).trans (cell_of_row w4 w3.heap.size 2 _ _ (0, 0) R4.out)
  have f3 := (BB.out.cell (p := ⟨w3.heap.size, 3, none⟩) l4).trans (cell_of_row w4 w3.heap.size 3 _ _ (0, 0) R4.out)
  clear d0 d1 d2 d3 CI B5 B6 BB
  go_wp2_with (first | (go_at_call 8; refine (eq_any r _).mono ?_; rintro e w8 ⟨rfl, b8⟩; have B8 := Seg.hid b8; clear b8))
  go_ret
  exact ⟨rfl, chain B7.out B8.out⟩
end Go.Proofs.Ytencpfcjgfpciaa.ExCh
