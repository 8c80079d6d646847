/- The walk of the law on Seek out of the contracts. -/
import Derived.Test.YtnbecgngghjfkaaSeekW
namespace Go.Proofs.Ytnbecgngghjfkaa.ExSeek
set_option maxRecDepth 8000
open Go.RowKit
open Ent
open SeekW (ans)
set_option linter.unusedVariables false
set_option maxHeartbeats 800000 in
theorem walk (v : Value) (es : List En) (x y : Int) (w : World) (hv : Ens w 0 w.heap.size v es) :
    Calls Try.prog 4 #[v, .int .i64 x, .int .i64 y] w fun e w' => e = .returned (.bool true) ∧ Below w.heap.size w w' := by
  have HV := Seg.hid hv
  obtain ⟨hn, A, c, rfl, _⟩ := hv
  go_enter Try.func4, Try.ntmps4
  go_wp2_with fail
  refine (szEntryS_any A es.length c _ hn).mono ?_
  rintro e w1 ⟨⟨r, rfl, hr⟩, rfl⟩
  by_cases hneg : r < 0
  · go_wp2
    go_ret
    exact ⟨rfl, Below.refl _ _⟩
  have hl : es.length ≤ 1048576 := by omega
  go_wp2_with fail
  refine (toEntryS_any _ es _ 0 _ HV.out (Nat.le_refl _) hl).mono ?_
  rintro e w1 ⟨v1, rfl, hv1, b1⟩
  have V1 := Seg.hid hv1
  have B1 := Seg.hid b1
  clear hv1 b1
  go_wp2_with fail
  refine (SeekW.spec_any v1 es x y _ _ _ V1.out (Nat.le_refl _) hl).mono ?_
  rintro e w2 ⟨rfl, rfl⟩
  unfold ans
  go_wp2_with fail
  refine (toEntryS_any _ es _ 0 w.heap.size (HV.out.below B1.out) B1.out.size hl).mono ?_
  rintro e w2 ⟨v2, rfl, hv2, b2⟩
  have V2 := Seg.hid hv2
  have B2 := Seg.hid (B1.out.trans (b2.mono B1.out.size))
  clear hv2 b2 V1 B1
  go_wp2_with fail
  refine (SeekW.impl_any v2 es x y _ _ _ V2.out (Nat.le_refl _) hl).mono ?_
  rintro e w3 ⟨rfl, b3⟩
  have V3 := Seg.hid (V2.out.below b3)
  have B3 := Seg.hid (B2.out.trans (b3.mono B2.out.size))
  have s3 := b3.size
  clear b3 V2 B2
  unfold ans
  go_wp2_with fail
  refine (toEntryS_any _ es _ 0 w.heap.size (HV.out.below B3.out) B3.out.size hl).mono ?_
  rintro e w4 ⟨v4, rfl, hv4, b4⟩
  have V4 := Seg.hid hv4
  have W4 := Seg.hid ((V3.out.below (b4.mono s3)).mono (Nat.le_refl _) (Nat.le_trans s3 b4.size))
  have B4 := Seg.hid (B3.out.trans (b4.mono B3.out.size))
  clear hv4 b4 V3 B3
  go_wp2_with fail
  refine (eqEntryS_any _ _ es _ _ _ _ W4.out V4.out (Nat.le_refl _)).mono ?_
  rintro e w5 ⟨rfl, b5⟩
  have B5 := Seg.hid (B4.out.trans (b5.mono B4.out.size))
  go_wp2
  go_ret
  exact ⟨rfl, B5.out⟩
end Go.Proofs.Ytnbecgngghjfkaa.ExSeek
