/- The walk of the law on NewLog out of the contracts. -/
import Derived.Test.YtnbecgngghjfkaaNewL
namespace Go.Proofs.Ytnbecgngghjfkaa.ExNew
set_option maxRecDepth 8000
open Go.RowKit
open NewL (nl lv inR)
set_option linter.unusedVariables false
theorem eqS_nil (w : World) : Calls Try.prog 17 #[.slice none 0 0, .slice none 0 0] w fun e w' => e = .returned (.bool true) ∧ w = w' := by
  go_enter Try.func17, Try.ntmps17
  go_wp2
  go_loop [5] (fun i => i = .int .i64 0) (fun _ => 0)
  case atStart => rfl
  case round =>
    subst hrel
    go_wp2
    go_ret
    exact ⟨rfl, rfl⟩
theorem eq_any (a b c : Int) (w : World) : Calls Try.prog 7 #[lv a b c, lv a b c] w fun e w' => e = .returned (.bool true) ∧ Below w.heap.size w w' := by
  unfold lv
  go_enter Try.func7, Try.ntmps7
  go_wp2_with fail
  refine (eqS_nil _).mono ?_
  rintro _ _ ⟨rfl, rfl⟩
  go_wp2
  go_ret
  exact ⟨rfl, NewL.below_alloc2 _ _ _⟩
theorem markS_nil (k : Int) (w : World) : Calls Try.prog 18 #[.slice none 0 0, .int .i64 k] w fun e w' => e = .returned (.int .i64 k) ∧ w = w' := by
  go_enter Try.func18, Try.ntmps18
  go_wp2
  go_loop [1, 5] (fun c i => c = .int .i64 k ∧ i = .int .i64 0) (fun _ _ => 0)
  case atStart => exact ⟨rfl, rfl⟩
  case round =>
    obtain ⟨rfl, rfl⟩ := hrel
    go_wp2
    go_ret
    exact ⟨rfl, rfl⟩
theorem heldS_nil (k : Int) (w : World) : Calls Try.prog 19 #[.slice none 0 0, .int .i64 k] w fun e w' => e = .returned (.int .i64 k) ∧ w = w' := by
  go_enter Try.func19, Try.ntmps19
  go_wp2
  go_loop [1, 5] (fun c i => c = .int .i64 k ∧ i = .int .i64 0) (fun _ _ => 0)
  case atStart => exact ⟨rfl, rfl⟩
  case round =>
    obtain ⟨rfl, rfl⟩ := hrel
    go_wp2
    go_ret
    exact ⟨rfl, rfl⟩
theorem mark_any (a b c k : Int) (w : World) : Calls Try.prog 8 #[lv a b c, .int .i64 k] w fun e w' => e = .returned (.int .i64 k) ∧ Below w.heap.size w w' := by
  unfold lv
  go_enter Try.func8, Try.ntmps8
  go_wp2_with fail
  refine (markS_nil k _).mono ?_
  rintro _ _ ⟨rfl, rfl⟩
  go_wp2
  go_ret
  exact ⟨rfl, NewL.below_alloc _ _⟩
theorem held_any (a b c k : Int) (hk : 0 ≤ k) (w : World) : Calls Try.prog 9 #[lv a b c, .int .i64 k] w fun e w' => e = .returned (.int .i64 k) ∧ Below w.heap.size w w' := by
  unfold lv
  go_enter Try.func9, Try.ntmps9
  go_wp2_with fail
  refine (heldS_nil k _).mono ?_
  rintro _ _ ⟨rfl, rfl⟩
  go_wp2
  go_ret
  exact ⟨rfl, NewL.below_alloc _ _⟩
theorem nl_form (s r : Int) : ∃ a b c, nl s r = lv a b c := by
  unfold nl
  split
  · exact ⟨s, s, r, rfl⟩
  · exact ⟨0, 0, 0, rfl⟩
theorem hsz' (w : World) (o : Obj) : (w.alloc o).heap.size = w.heap.size + 1 := by simp
theorem keep {w w' : World} {B g : Nat} {o : Obj} (h : Below B w w') (e : w.heap[g]? = some o) (hg : g < B) : w'.heap[g]? = some o := (h.block g hg).trans e
set_option maxHeartbeats 800000 in
theorem walk (s r : Int) (w : World) : Calls Try.prog 3 #[.int .i64 s, .int .i64 r] w fun e w' => e = .returned (.bool true) ∧ Below w.heap.size w w' := by
  obtain ⟨a, b, c, hn⟩ := nl_form s r
  unfold lv at hn
  go_enter Try.func3, Try.ntmps3
  go_wp2_with fail
  refine (NewL.spec_any s r _).mono ?_
  rintro _ w1 ⟨rfl, b1⟩
  have B1 := Seg.hid b1
  clear b1
  rw [hn]
  go_wp2_with fail
  have hs1 := B1.out.size
  have E0 : Hid ((w1.alloc (.cells #[.int .i64 a, .int .i64 b, .int .i64 c, .slice none 0 0] 24)).heap[w1.heap.size]? = some (.cells #[.int .i64 a, .int .i64 b, .int .i64 c, .slice none 0 0] 24 (0, 0))) := heap_alloc_new _ _
  have C0 := Seg.hid (B1.out.alloc hs1 (.cells #[.int .i64 a, .int .i64 b, .int .i64 c, .slice none 0 0] 24))
  refine (NewL.impl_any s r _).mono ?_
  rintro _ w2 ⟨rfl, b2⟩
  have B2 := Seg.hid b2
  clear b2
  have hs2 := B2.out.size
  rw [hsz'] at hs2
  have E1 := Seg.hid (keep B2.out E0.out (by rw [hsz']; omega))
  have C1 := Seg.hid (C0.out.trans (B2.out.mono C0.out.size))
  clear E0 C0 B2
  rw [hn]
  have E2 := Seg.hid (keep (NewL.below_alloc w2 (.cells #[.int .i64 a, .int .i64 b, .int .i64 c, .slice none 0 0] 24)) E1.out (by omega))
  have F2 : Hid ((w2.alloc (.cells #[.int .i64 a, .int .i64 b, .int .i64 c, .slice none 0 0] 24)).heap[w2.heap.size]? = some (.cells #[.int .i64 a, .int .i64 b, .int .i64 c, .slice none 0 0] 24 (0, 0))) := heap_alloc_new _ _
  have C2 := Seg.hid (C1.out.alloc C1.out.size (.cells #[.int .i64 a, .int .i64 b, .int .i64 c, .slice none 0 0] 24))
  clear E1 C1
  go_wp2_with (first | (refine wpList_load_row rfl 24 _ rfl w1.heap.size rfl _ _ _ _ E2.out Try.underlying24 rfl NewL.infoL ?_) | (refine wpList_load_row rfl 24 _ rfl w2.heap.size rfl _ _ _ _ F2.out Try.underlying24 rfl NewL.infoL ?_))
  refine (eq_any a b c _).mono ?_
  rintro _ w3 ⟨rfl, b3⟩
  have E3 := Seg.hid (keep b3 E2.out (by rw [hsz']; omega))
  have F3 := Seg.hid (keep b3 F2.out (by rw [hsz']; omega))
  have C3 := Seg.hid (C2.out.trans (b3.mono C2.out.size))
  have s3 := b3.size
  rw [hsz'] at s3
  clear b3 E2 F2 C2
  go_wp2_with (first | (refine wpList_load_row rfl 24 _ rfl w1.heap.size rfl _ _ _ _ E3.out Try.underlying24 rfl NewL.infoL ?_) | (refine wpList_load_row rfl 24 _ rfl w2.heap.size rfl _ _ _ _ F3.out Try.underlying24 rfl NewL.infoL ?_))
  refine (mark_any a b c 1 _).mono ?_
  rintro _ w4 ⟨rfl, b4⟩
  have E4 := Seg.hid (keep b4 E3.out (by omega))
  have F4 := Seg.hid (keep b4 F3.out (by omega))
  have C4 := Seg.hid (C3.out.trans (b4.mono C3.out.size))
  have s4 := b4.size
  clear b4 E3 F3 C3
  go_wp2_with (first | (refine wpList_load_row rfl 24 _ rfl w1.heap.size rfl _ _ _ _ E4.out Try.underlying24 rfl NewL.infoL ?_) | (refine wpList_load_row rfl 24 _ rfl w2.heap.size rfl _ _ _ _ F4.out Try.underlying24 rfl NewL.infoL ?_))
  refine (held_any a b c 1 (by decide) _).mono ?_
  rintro _ w5 ⟨rfl, b5⟩
  have E5 := Seg.hid (keep b5 E4.out (by omega))
  have F5 := Seg.hid (keep b5 F4.out (by omega))
  have C5 := Seg.hid (C4.out.trans (b5.mono C4.out.size))
  have s5 := b5.size
  clear b5 E4 F4 C4
  go_wp2_with (first | (refine wpList_load_row rfl 24 _ rfl w1.heap.size rfl _ _ _ _ E5.out Try.underlying24 rfl NewL.infoL ?_) | (refine wpList_load_row rfl 24 _ rfl w2.heap.size rfl _ _ _ _ F5.out Try.underlying24 rfl NewL.infoL ?_))
  refine (NewL.impl_any s r _).mono ?_
  rintro _ w6 ⟨rfl, b6⟩
  have E6 := Seg.hid (keep b6 E5.out (by omega))
  have F6 := Seg.hid (keep b6 F5.out (by omega))
  have C6 := Seg.hid (C5.out.trans (b6.mono C5.out.size))
  have s6 := b6.size
  clear b6 E5 F5 C5
  rw [hn]
  have E7 := Seg.hid (keep (NewL.below_alloc w6 (.cells #[.int .i64 a, .int .i64 b, .int .i64 c, .slice none 0 0] 24)) E6.out (by omega))
  have F7 := Seg.hid (keep (NewL.below_alloc w6 (.cells #[.int .i64 a, .int .i64 b, .int .i64 c, .slice none 0 0] 24)) F6.out (by omega))
  have C7 := Seg.hid (C6.out.alloc C6.out.size (.cells #[.int .i64 a, .int .i64 b, .int .i64 c, .slice none 0 0] 24))
  have G7 : Hid ((w6.alloc (.cells #[.int .i64 a, .int .i64 b, .int .i64 c, .slice none 0 0] 24)).heap[w6.heap.size]? = some (.cells #[.int .i64 a, .int .i64 b, .int .i64 c, .slice none 0 0] 24 (0, 0))) := heap_alloc_new _ _
  clear E6 F6 C6
  go_wp2_with (first | (refine wpList_load_row rfl 24 _ rfl w1.heap.size rfl _ _ _ _ E7.out Try.underlying24 rfl NewL.infoL ?_) | (refine wpList_load_row rfl 24 _ rfl w2.heap.size rfl _ _ _ _ F7.out Try.underlying24 rfl NewL.infoL ?_) | (refine wpList_load_row rfl 24 _ rfl w6.heap.size rfl _ _ _ _ G7.out Try.underlying24 rfl NewL.infoL ?_))
  refine (eq_any a b c _).mono ?_
  rintro _ w8 ⟨rfl, b8⟩
  have F8 := Seg.hid (keep b8 F7.out (by rw [hsz']; omega))
  have C8 := Seg.hid (C7.out.trans (b8.mono C7.out.size))
  clear b8 E7 F7 C7 G7
  go_wp2_with (first | (refine wpList_load_row rfl 24 _ rfl w2.heap.size rfl _ _ _ _ F8.out Try.underlying24 rfl NewL.infoL ?_))
  refine (held_any a b c 1 (by decide) _).mono ?_
  rintro _ w9 ⟨rfl, b9⟩
  have C9 := Seg.hid (C8.out.trans (b9.mono C8.out.size))
  clear b9 F8 C8
  go_wp2
  go_ret
  exact ⟨rfl, C9.out⟩
end Go.Proofs.Ytnbecgngghjfkaa.ExNew
