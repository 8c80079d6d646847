/- The bytes that are drawn for a squeeze. -/
import Derived.Test.YtbilpicolfpoaaaDrawR
namespace Go.Proofs.Ytbilpicolfpoaaa.DrawS
open Go.RowKit
open Draw (Cur Lft Bytes)
open SqP (Out)
set_option linter.unusedVariables false
theorem made_Z (n : Nat) : (madeCells (Value.int .u8 0).cells (n * 1)).toList = Seg.B (List.replicate n 0) := by
  rw [Nat.mul_one]
  show (madeCells #[Value.int .u8 0] n).toList = _
  rw [toList_madeCells_one]
  simp [Seg.B]
/-- Some bytes in memory that is new. -/
structure Some_ (w w' : World) (g cap : Nat) (l : List Int) : Prop where
  len : l.length ≤ 100000
  byt : ∀ x ∈ l, 0 ≤ x ∧ x < 256
  own : ∃ base, w.heap.size ≤ base ∧ Out w' base g cap l
  bel : Below w.heap.size w w'
theorem zeros_byt (n : Nat) : ∀ x ∈ List.replicate n (0 : Int), 0 ≤ x ∧ x < 256 := fun x hx => by
  have := List.eq_of_mem_replicate hx
  omega
set_option maxRecDepth 4000 in
set_option maxHeartbeats 800000 in
theorem drawSqueeze_any (A : Option Addr) (n c : Nat) (w : World) (hn : n ≤ 1048576) (hb : Bytes w w.heap.size A n c) :
    Calls Try.prog 5 #[.slice A n c] w fun e w' => ∃ (g cap : Nat) (l : List Int), e = .returned (.slice (some ⟨g, 0, none⟩) l.length cap) ∧ Some_ w w' g cap l := by
  obtain ⟨i0, hi, hz0, hz1, hz2⟩ := info_parts DrawB.infoB
  have HB := Seg.hid hb
  clear hb
  go_enter Try.func5, Try.ntmps5
  go_wp2_with fail
  refine (Draw.new_any A n c _ hn HB.out).mono ?_
  rintro e w1 ⟨h, rfl, rfl⟩
  have C0 := Seg.hid (Draw.cur_new hn HB.out h 45)
  go_wp2_with fail
  refine (Draw.once_any w.heap.size A n c 40 _ C0.out (by decide) (by decide)).mono ?_
  rintro e w2 ⟨⟨t, rfl⟩, L2⟩
  have B2 : Hid (Below w.heap.size w w2) := ((Below.refl _ _).alloc (Nat.le_refl _) _).grown L2.grown (by simp) (fun k hk => by cases hk; exact Nat.le_refl _)
  have hs2 := B2.out.size
  have C2 := Seg.hid L2.cur
  clear L2 C0
  cases t
  · go_wp2_with fail
    refine (DrawB.size_any A n c 40 _ hn (by decide) (by decide)).mono ?_
    rintro e w3 ⟨⟨x, hx1, hx2, rfl⟩, rfl⟩
    go_wp2_with fail
    refine (Draw.below_any w.heap.size A n c (30 * x) _ C2.out (by omega) (by omega)).mono ?_
    rintro e w3 ⟨⟨y0, hy1, hy2, rfl⟩, L3⟩
    obtain ⟨y, rfl⟩ := Int.eq_ofNat_of_zero_le hy1
    have B3 : Hid (Below w.heap.size w w3) := B2.out.grown L3.grown hs2 (fun k hk => by cases hk; exact Nat.le_refl _)
    have C3 := Seg.hid L3.cur
    clear L3 C2
    go_wp2_with fail
    refine (DrawR.runs_any w.heap.size A n c y _ C3.out (by omega)).mono ?_
    rintro e w4 ⟨g, cap, xs, hl, rfl, R⟩
    have hs3 := B3.out.size
    have B4 : Hid (Below w.heap.size w w4) := B3.out.grown R.lft.grown hs3 (fun k hk => by cases hk; exact Nat.le_refl _)
    have HS : Hid (Some_ w w4 g cap xs) := ⟨by omega, R.byt, ⟨_, hs3, R.own⟩, B4.out⟩
    clear R B4
    go_wp2
    go_ret
    exact ⟨g, cap, xs, rfl, HS.out⟩
  · go_wp2_with (at_make; refine wpList_make_full _ rfl _ _ 22 rfl w.heap.size 5 i0 (.int .u8 0) 1 Try.underlying22 hi hz0 hz1 .i64 .i64 _ _ 60001 rfl rfl rfl rfl (by rw [hz2]; omega) (by unfold maxLen; omega) hs2 ?_; intro w3 hown hgr)
    rw [made_Z] at hown
    have B3 := B2.out.grown hgr hs2 (fun k hk => by cases hk)
    have HS : Hid (∃ l : List Int, l.length = 60001 ∧ Some_ w w3 w2.heap.size 60001 l) := ⟨List.replicate 60001 0, List.length_replicate, by rw [List.length_replicate]; omega, zeros_byt _, ⟨_, Nat.le_refl _, by unfold Out; rw [List.length_replicate]; exact hown⟩, B3⟩
    clear hown hgr B3
    go_wp2
    go_ret
    obtain ⟨l, h1, h2⟩ := HS.out
    exact ⟨w2.heap.size, 60001, l, by rw [h1]; rfl, h2⟩
end Go.Proofs.Ytbilpicolfpoaaa.DrawS
