/- The walk of the law on PutInt out of the contracts. -/
import Derived.Test.YtlagllomdinklajPut
import Derived.Test.YtlagllomdinklajSame
import Derived.WalkSmall
namespace Go.Proofs.Ytlagllomdinklaj.ExPut
open Go.RowKit
open Seg (Own B marks)
set_option linter.unusedVariables false

theorem put_seg {w : World} {base g cap : Nat} {n : Int} (h0 : -9223372036854775808 ≤ n) (h1 : n ≤ 9223372036854775807) (h : w.ownsRow base 5 1 (.slice (some ⟨g, 0, none⟩) (Nums.put n).length cap) (Nums.put n).length (Put.B (Nums.put n))) :
    Seg.Seg w (.slice (some ⟨g, 0, none⟩) (Nums.put n).length cap) (Nums.put n) :=
  Own.seg ⟨by have := Nums.put_len h0 h1; omega, g, cap, rfl, h⟩

set_option maxHeartbeats 800000 in
theorem walk (n : Int) (w : World) (h0 : -9223372036854775808 ≤ n) (h1 : n ≤ 9223372036854775807) :
    Calls Try.prog 4 #[.int .i64 n] w fun e w' => e = .returned (.bool true) ∧ Below w.heap.size w w' := by
  have hlen := Nums.put_len h0 h1
  go_enter Try.func4, Try.ntmps4
  go_wp2_with fail
  refine (Put.spec_any n _ h0 h1).mono ?_
  rintro e w1 ⟨g0, c0, rfl, o0, b1⟩
  have S0 := Seg.hid o0; have B1 := Seg.hid b1
  clear o0 b1
  go_wp2_with fail
  refine (Put.impl_any n _ h0 h1).mono ?_
  rintro e w2 ⟨g1, c1, rfl, o1, b2⟩
  have S1 := Seg.hid o1; have B2 := Seg.hid b2
  clear o1 b2
  have T0 := Seg.hid (Seg.owns_below S0.out B2.out)
  go_wp2_with fail
  refine (Same.eq_any _ _ (Nums.put n) (Nums.put n) _ (put_seg h0 h1 S1.out) (put_seg h0 h1 T0.out)).mono ?_
  rintro e w3 ⟨rfl, d, rfl⟩
  simp only [decide_true]
  go_wp2_with fail
  refine (Same.mark_any _ g1 (Nums.put n).length c1 (Nums.put n) 1 (w2.drewN d) rfl (by omega) (by decide) (by decide) S1.out).mono ?_
  rintro e w4 ⟨rfl, o4, gr4⟩
  have S4 := Seg.hid o4; have G4 := Seg.hid gr4
  clear o4 gr4
  have lt0 := (Seg.owns_cap S0.out).2.2.2
  have lt1 := (Seg.owns_cap S1.out).2.2.1
  have T4 := Seg.hid (World.ownsRow.kept (w := w2.drewN d) T0.out G4.out (.inr (by simp [Value.ownBlock]; omega)))
  have B4 := Seg.hid ((below_drewN (B1.out.trans (B2.out.mono B1.out.size)) d).grown G4.out (Nat.le_trans B1.out.size B2.out.size) (fun k hk => by cases hk; exact Nat.le_trans B1.out.size lt1))
  clear lt0 lt1
  go_wp2_with fail
  refine (Same.held_any _ g1 (Nums.put n).length c1 1 _ (by omega) (by decide) (by decide) S4.out).mono ?_
  rintro e w5 ⟨rfl, rfl⟩
  go_wp2_with fail
  refine (Put.impl_any n _ h0 h1).mono ?_
  rintro e w6 ⟨g2, c2, rfl, o6, b6⟩
  have S6 := Seg.hid o6; have B6 := Seg.hid b6
  clear o6 b6
  have T6 := Seg.hid (Seg.owns_below T4.out B6.out)
  have U6 := Seg.hid (Seg.owns_below S4.out B6.out)
  have V6 := Seg.hid (B4.out.trans (B6.out.mono B4.out.size))
  go_wp2_with fail
  refine (Same.eq_any _ _ (Nums.put n) (Nums.put n) _ (put_seg h0 h1 S6.out) (put_seg h0 h1 T6.out)).mono ?_
  rintro e w7 ⟨rfl, d7, rfl⟩
  simp only [decide_true]
  go_wp2_with fail
  refine (Same.held_any _ g1 (Nums.put n).length c1 1 (w6.drewN d7) (by omega) (by decide) (by decide) U6.out).mono ?_
  rintro e w8 ⟨rfl, rfl⟩
  go_wp2_with fail
  go_ret
  exact ⟨rfl, below_drewN V6.out d7⟩
end Go.Proofs.Ytlagllomdinklaj.ExPut
