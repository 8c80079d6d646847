/- The law of Commit: its walk. -/
import Derived.Test.YtkdhelmnnbnphaaDoorExCo
namespace Go.Proofs.YtkdhelmnnbnphaaDoor.CoW
set_option maxRecDepth 8000
open Go.RowKit
open CoP ExCo
open Recs (hsz below1 below2 chain)
set_option linter.unusedVariables false
set_option maxHeartbeats 6400000 in
theorem walk (g tp : ByteArray) (pt off tm : Int) (w : World) (hg : g.size ≤ maxLen) (hp : tp.size ≤ maxLen) (ht : Lib.TabIs Tryd.prog w "internal/strconv.uint64pow10" .u64 Lib.pow10Tab) :
    Calls Tryd.prog 3 #[.string g, .agg #[.string tp, .int .i64 pt], .int .i64 off, .int .i64 tm] w fun e w' => e = .returned (.bool true) ∧ Below w.heap.size w w' := by
  have HTB : Hid (∀ wx, Below w.heap.size w wx → Lib.TabIs Tryd.prog wx "internal/strconv.uint64pow10" .u64 Lib.pow10Tab) := fun wx b => Lib.tabBelow_of_tabIs ht wx b
  have hg' : g.size ≤ 9223372036854775807 := by unfold maxLen at hg; omega
  clear ht
  obtain ⟨a, k, c, d, hr⟩ := rec_form g tp pt off tm
  obtain ⟨bo, hbo⟩ : ∃ bo, okC g tp pt off tm = bo := ⟨_, rfl⟩
  have CS : Hid (∀ wx, Calls Tryd.prog 6 #[.string g, .agg #[.string tp, .int .i64 pt], .int .i64 off, .int .i64 tm] wx fun e w' => e = .returned (.tuple #[.agg (row a k c d), .bool bo]) ∧ Below wx.heap.size wx w') := fun wx => by
    have := CoS.spec_any g tp pt off tm wx hg hp
    rw [hr, hbo] at this
    exact this
  have CI : Hid (∀ wx, Below w.heap.size w wx → Calls Tryd.prog 8 #[.string g, .agg #[.string tp, .int .i64 pt], .int .i64 off, .int .i64 tm] wx fun e w' => e = .returned (.tuple #[.agg (row a k c d), .bool bo]) ∧ Below wx.heap.size wx w') := fun wx b => by
    have := CoI.impl_any g tp pt off tm wx hg hp (HTB.out wx b)
    rw [hr, hbo] at this
    exact this
  clear hr hbo HTB
  go_enter Tryd.func3, Tryd.ntmps3
  by_cases hl : (1048576 : Int) < (g.size : Int)
  · go_wp2
    go_ret
    exact ⟨rfl, below1 _ _⟩
  go_upto_region 4 with fail
  obtain ⟨w1, hw1⟩ : ∃ w1, w.alloc (.cells #[.string tp, .int .i64 pt] 23 (0, 0)) = w1 := ⟨_, rfl⟩
  rw [hw1]
  have R1 : Hid (w1.heap[w.heap.size]? = some (.cells #[.string tp, .int .i64 pt] 23 (0, 0))) := by show _ = _; rw [← hw1]; exact heap_alloc_new _ _
  have B1 : Hid (Below w.heap.size w w1) := by show Below _ _ _; rw [← hw1]; exact below1 w _
  have hl1 : w.heap.size < w1.heap.size := (Array.getElem?_eq_some_iff.1 R1.out).1
  clear hw1 hl
  have KA : Hid (∀ wx, Below w1.heap.size w1 wx → wx.cell? ⟨w.heap.size, 0, none⟩ = some (.string tp) ∧ wx.cell? ⟨w.heap.size, 1, none⟩ = some (.int .i64 pt)) := fun wx b => by
    have hR : wx.heap[w.heap.size]? = some (.cells #[.string tp, .int .i64 pt] 23 (0, 0)) := by rw [b.block _ hl1]; exact R1.out
    exact ⟨cell_of_row wx _ 0 _ _ (0, 0) hR, cell_of_row wx _ 1 _ _ (0, 0) hR⟩
  obtain ⟨c0, c1⟩ := KA.out w1 (Below.refl _ _)
  go_upto_region 5 with (go_at_call 5; refine (sz_any tp pt _ _ (by omega) (by omega) hp).mono ?_; rintro e w2 ⟨q, rfl, hq, b2⟩; have HQ := Seg.hid hq; have B2 := Seg.hid b2; clear hq b2)
  by_cases hq : q < 0
  · go_wp2
    go_ret
    exact ⟨rfl, chain B1.out B2.out⟩
  clear c0 c1
  obtain ⟨c0, c1⟩ := KA.out w2 B2.out
  go_upto_region 8 with (first | (go_at_call 7; refine (to_any tp pt _).mono ?_; rintro e w3 ⟨rfl, b3⟩; have B3 := Seg.hid (chain B2.out b3); clear b3) | (go_at_call 6; refine (CS.out _).mono ?_; rintro e w4 ⟨rfl, b4⟩; have B4 := Seg.hid (chain B3.out b4); clear b4))
  clear c0 c1 hq
  obtain ⟨w5, hw5⟩ : ∃ w5, w4.alloc (.cells (row a k c d) 27 (0, 0)) = w5 := ⟨_, rfl⟩
  rw [hw5]
  have R5 : Hid (w5.heap[w4.heap.size]? = some (.cells (row a k c d) 27 (0, 0))) := by show _ = _; rw [← hw5]; exact heap_alloc_new _ _
  have B5 : Hid (Below w1.heap.size w1 w5) := by show Below _ _ _; rw [← hw5]; exact chain B4.out (below1 w4 _)
  have hl5 : w4.heap.size < w5.heap.size := (Array.getElem?_eq_some_iff.1 R5.out).1
  clear hw5 B2 B3 B4
  obtain ⟨c0, c1⟩ := KA.out w5 B5.out
  go_upto_region 9 with (first | (go_at_call 7; refine (to_any tp pt _).mono ?_; rintro e w6 ⟨rfl, b6⟩; have B6 := Seg.hid b6; clear b6) | (go_at_call 8; refine (CI.out _ (chain B1.out (chain B5.out B6.out))).mono ?_; rintro e w7 ⟨rfl, b7⟩; have B7 := Seg.hid (chain B6.out b7); clear b7))
  clear c0 c1
  obtain ⟨w8, hw8⟩ : ∃ w8, w7.alloc (.cells (row a k c d) 27 (0, 0)) = w8 := ⟨_, rfl⟩
  rw [hw8]
  have R8 : Hid (w8.heap[w7.heap.size]? = some (.cells (row a k c d) 27 (0, 0))) := by show _ = _; rw [← hw8]; exact heap_alloc_new _ _
  have B8 : Hid (Below w5.heap.size w5 w8) := by show Below _ _ _; rw [← hw8]; exact chain B7.out (below1 w7 _)
  have hl8 : w7.heap.size < w8.heap.size := (Array.getElem?_eq_some_iff.1 R8.out).1
  have hl58 : w4.heap.size < w8.heap.size := Nat.lt_of_lt_of_le hl5 B8.out.size
  clear hw8 B6 B7
  have KR : Hid (∀ wx, Below w8.heap.size w8 wx → wx.heap[w4.heap.size]? = some (.cells (row a k c d) 27 (0, 0)) ∧ wx.heap[w7.heap.size]? = some (.cells (row a k c d) 27 (0, 0))) := fun wx b => ⟨by rw [b.block _ hl58, B8.out.block _ hl5]; exact R5.out, by rw [b.block _ hl8]; exact R8.out⟩
  obtain ⟨x0, x1, x2, x3, x4, x5⟩ := six (KR.out w8 (Below.refl _ _)).1
  obtain ⟨y0, y1, y2, y3, y4, y5⟩ := six (KR.out w8 (Below.refl _ _)).2
  go_upto_region 12 with (first | (go_at_call 9; refine (eqR_any a k c d _).mono ?_; rintro e w9 ⟨rfl, b9⟩; have B9 := Seg.hid b9; clear b9))
  clear x0 x1 x2 x3 x4 x5 y0 y1 y2 y3 y4 y5
  obtain ⟨y0, y1, y2, y3, y4, y5⟩ := six (KR.out w9 B9.out).2
  go_upto_region 14 with (first | (go_at_call 10; refine (markR_any a k c d _ _).mono ?_; rintro e w10 ⟨rfl, b10⟩; have B10 := Seg.hid (chain B9.out b10); clear b10))
  clear y0 y1 y2 y3 y4 y5
  obtain ⟨y0, y1, y2, y3, y4, y5⟩ := six (KR.out w10 B10.out).2
  go_upto_region 19 with (first | (go_at_call 11; refine (heldR_any a k c d _ (by omega) _).mono ?_; rintro e w11 ⟨rfl, b11⟩; have B11 := Seg.hid (chain B10.out b11); clear b11))
  clear y0 y1 y2 y3 y4 y5
  obtain ⟨c0, c1⟩ := KA.out w11 (chain B5.out (chain B8.out B11.out))
  go_upto_region 20 with (first | (go_at_call 7; refine (to_any tp pt _).mono ?_; rintro e w12 ⟨rfl, b12⟩; have B12 := Seg.hid (chain B11.out b12); clear b12) | (go_at_call 8; refine (CI.out _ (chain B1.out (chain B5.out (chain B8.out B12.out)))).mono ?_; rintro e w13 ⟨rfl, b13⟩; have B13 := Seg.hid (chain B12.out b13); clear b13))
  clear c0 c1
  obtain ⟨w14, hw14⟩ : ∃ w14, w13.alloc (.cells (row a k c d) 27 (0, 0)) = w14 := ⟨_, rfl⟩
  rw [hw14]
  have R14 : Hid (w14.heap[w13.heap.size]? = some (.cells (row a k c d) 27 (0, 0))) := by show _ = _; rw [← hw14]; exact heap_alloc_new _ _
  have B14 : Hid (Below w8.heap.size w8 w14) := by show Below _ _ _; rw [← hw14]; exact chain B13.out (below1 w13 _)
  clear hw14 B9 B10 B11 B12 B13
  obtain ⟨x0, x1, x2, x3, x4, x5⟩ := six (KR.out w14 B14.out).1
  obtain ⟨y0, y1, y2, y3, y4, y5⟩ := six R14.out
  go_upto_region 23 with (first | (go_at_call 9; refine (eqR_any a k c d _).mono ?_; rintro e w15 ⟨rfl, b15⟩; have B15 := Seg.hid (chain B14.out b15); clear b15))
  clear x0 x1 x2 x3 x4 x5 y0 y1 y2 y3 y4 y5
  obtain ⟨y0, y1, y2, y3, y4, y5⟩ := six (KR.out w15 B15.out).2
  go_wp2_with (first | (go_at_call 11; refine (heldR_any a k c d _ (by omega) _).mono ?_; rintro e w16 ⟨rfl, b16⟩; have B16 := Seg.hid (chain B15.out b16); clear b16))
  go_ret
  exact ⟨rfl, chain B1.out (chain B5.out (chain B8.out B16.out))⟩
end Go.Proofs.YtkdhelmnnbnphaaDoor.CoW
