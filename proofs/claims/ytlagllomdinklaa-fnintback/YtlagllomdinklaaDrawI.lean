/- A number that is drawn: some number of 64 bits. -/
import Derived.Test.YtlagllomdinklaaDraw
namespace Go.Proofs.Ytlagllomdinklaa.DrawI
open Go.RowKit
open Draw (Cur Lft Bytes)
set_option linter.unusedVariables false
structure I64 (x : Int) : Prop where
  lo : -9223372036854775808 ≤ x
  hi : x ≤ 9223372036854775807
theorem w64 (x : Int) : I64 (wrap64 x) := ⟨by unfold wrap64; omega, by unfold wrap64; omega⟩
def lits : List Int := [0, -1, 63, 64, -64, -65, 8191, 8192, 9223372036854775807, -9223372036854775808, 4611686018427387904, 1000000000000, 1000000000001, 1000000000, 1000000001, -1]
theorem lits_bd : ∀ i, i < 16 → -9223372036854775808 ≤ lits.getD i 0 ∧ lits.getD i 0 ≤ 9223372036854775807 := by decide
theorem cells_lit (w : World) (L : List Int) (t : TypeId) (i : Nat) (hi : i < L.length) : (w.alloc (.cells (L.map (Value.int .i64)).toArray t)).cell? ⟨w.heap.size, i, none⟩ = some (.int .i64 (L.getD i 0)) := by
  rw [cell_of_row _ w.heap.size i _ _ _ (heap_alloc_new w _)]
  simp [hi]

set_option maxRecDepth 20000 in
set_option maxHeartbeats 800000 in
theorem int_any (b : Nat) (A : Option Addr) (n c : Nat) (w : World) (hc : Cur w b A n c) :
    Calls Try.prog 17 #[.pointer (some ⟨b, 0, none⟩)] w fun e w' => (∃ x : Int, I64 x ∧ e = .returned (.int .i64 x)) ∧ Lft w w' b A n c := by
  have HC := Seg.hid hc
  clear hc
  go_enter Try.func17, Try.ntmps17
  go_wp2_with fail
  refine (Draw.below_any b A n c 6 _ HC.out (by decide) (by decide)).mono ?_
  rintro e w1 ⟨⟨x, hx1, hx2, rfl⟩, L1⟩
  by_cases e0 : x = 0
  · subst e0
    clear hx1 hx2
    go_wp2_with fail
    refine (Draw.below_any b A n c 300 _ L1.cur (by decide) (by decide)).mono ?_
    rintro e w2 ⟨⟨y, hy1, hy2, rfl⟩, L2⟩
    go_wp2_with fail
    go_ret
    exact ⟨⟨y - 150, ⟨by omega, by omega⟩, rfl⟩, L1.trans L2⟩
  by_cases e1 : x = 1
  · subst e1
    clear hx1 hx2 e0
    go_wp2_with fail
    have hlt := L1.cur.lt
    refine (Draw.pickInt_any b A n c w1.heap.size 16 (fun i => lits.getD i 0) _ (L1.cur.alloc _) (by decide) (by decide) (by simp) (by omega) (fun i hi => cells_lit w1 lits 3 i hi)).mono ?_
    rintro e w2 ⟨⟨k, hk, rfl⟩, L2⟩
    have HB := Seg.hid (lits_bd k hk)
    go_wp2_with fail
    go_ret
    exact ⟨⟨_, ⟨HB.out.1, HB.out.2⟩, rfl⟩, ⟨L2.cur, (L1.grown.trans (World.grownBy_alloc _ _ _)).trans L2.grown⟩⟩
  have b0 : (x == 0) = false := beq_eq_false_iff_ne.2 e0
  have b1 : (x == 1) = false := beq_eq_false_iff_ne.2 e1
  go_wp2_with fail
  go_loopw [3, 4] (fun u i wr => ∃ (k : Nat) (v : Int), k ≤ 9 ∧ i = .int .i64 k ∧ u = .int .i64 v ∧ I64 v ∧ Lft w wr b A n c) (fun _ i _ => 10 - (intOf i).toNat)
  case atStart => exact ⟨0, 0, by omega, rfl, rfl, ⟨by decide, by decide⟩, L1⟩
  case round =>
    clear L1
    obtain ⟨k, v, hk, rfl, rfl, HV, LR⟩ := hrel
    go_wp2_with fail
    refine (Draw.below_any b A n c 9 _ LR.cur (by decide) (by decide)).mono ?_
    rintro e w2 ⟨⟨y, hy1, hy2, rfl⟩, L2⟩
    by_cases hle : (k : Int) ≤ y
    · go_wp2_with fail
      refine (Draw.byte_left b A n c _ L2.cur).mono ?_
      rintro e w3 ⟨⟨z, hz, rfl⟩, L3⟩
      go_wp2_with fail
      go_roundw
      case rel => exact ⟨k + 1, _, by omega, by go_num, rfl, w64 _, (LR.trans L2).trans L3⟩
      case measure => simp [intOf]; omega
    · go_wp2_with fail
      refine (Draw.once_any b A n c 3 _ L2.cur (by decide) (by decide)).mono ?_
      rintro e w3 ⟨⟨z, rfl⟩, L3⟩
      cases z with
      | true =>
        go_wp2_with fail
        go_ret
        exact ⟨⟨_, w64 _, rfl⟩, (LR.trans L2).trans L3⟩
      | false =>
        go_wp2_with fail
        go_ret
        exact ⟨⟨v, HV, rfl⟩, (LR.trans L2).trans L3⟩

set_option maxHeartbeats 800000 in
theorem drawPut_any (A : Option Addr) (n c : Nat) (w : World) (hn : n ≤ 1048576) (hb : Bytes w w.heap.size A n c) :
    Calls Try.prog 7 #[.slice A n c] w fun e w' => (∃ x : Int, I64 x ∧ e = .returned (.int .i64 x)) ∧ Below w.heap.size w w' := by
  have HB := Seg.hid hb
  clear hb
  go_enter Try.func7, Try.ntmps7
  go_wp2_with fail
  refine (Draw.new_any A n c _ hn HB.out).mono ?_
  rintro e w1 ⟨h, rfl, rfl⟩
  go_wp2_with fail
  refine (int_any w.heap.size A n c _ (Draw.cur_new hn HB.out h _)).mono ?_
  rintro e w2 ⟨⟨x, hx, rfl⟩, L2⟩
  go_wp2_with fail
  go_ret
  exact ⟨⟨x, hx, rfl⟩, ((Below.refl _ _).alloc (Nat.le_refl _) _).grown L2.grown (by simp) (fun k hk => by cases hk; exact Nat.le_refl _)⟩
end Go.Proofs.Ytlagllomdinklaa.DrawI
