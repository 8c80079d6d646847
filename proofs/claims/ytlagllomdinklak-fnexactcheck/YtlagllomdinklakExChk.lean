/- The walk of the law on Check out of the contracts. -/
import Derived.Test.YtlagllomdinklakChkI
import Derived.Test.YtlagllomdinklakTo
import Derived.WalkSmall
namespace Go.Proofs.Ytlagllomdinklak.ExChk
open Go.RowKit
open Seg (Own B)
set_option linter.unusedVariables false

set_option maxHeartbeats 400000 in
theorem walk_big (A : Option Addr) (n c : Nat) (w : World) (h : 1048576 < n) :
    Calls Try.prog 4 #[.slice A n c] w fun e w' => e = .returned (.bool true) ∧ Below w.heap.size w w' := by
  go_enter Try.func4, Try.ntmps4
  go_wp2
  go_ret
  exact ⟨rfl, Below.refl _ _⟩

set_option maxHeartbeats 800000 in
theorem walk (A : Option Addr) (n c : Nat) (l : List Int) (w : World) (hn : n ≤ 1048576) (hl : l.length = n) (hs : Seg.Seg w (.slice A n c) l) (hby : Seg.Byt l)
    (hin : n = 0 ∨ ∀ g, (Value.slice A n c).ownBlock = some g → g < w.heap.size) :
    Calls Try.prog 4 #[.slice A n c] w fun e w' => e = .returned (.bool true) ∧ Below w.heap.size w w' := by
  subst hl
  have HS := Seg.hid hs; have HY := Seg.hid hby; have HI := Seg.hid hin
  clear hs hby hin
  go_enter Try.func4, Try.ntmps4
  go_wp2_with fail
  refine (To.to_any _ l _ HS.out hn HI.out).mono ?_
  rintro e w1 ⟨g1, c1, rfl, o1, b1⟩
  have O1 := Seg.hid o1; have B1 := Seg.hid b1
  clear o1 b1
  go_wp2_with fail
  have C1 := Seg.owns_cap O1.out
  refine (Chk.spec_core g1 0 l.length c1 l _ (by omega) C1.1 rfl (fun i hi => by rw [Nat.zero_add]; exact Seg.owns_cell O1.out i hi) HY.out).mono ?_
  rintro e w2 ⟨rfl, rfl⟩
  clear C1
  go_wp2_with fail
  have S1 : Hid (Seg.Seg w1 (.slice A l.length c) l) := by
    rcases HI.out with h | h
    · obtain rfl : l = [] := List.length_eq_zero_iff.1 h
      exact ⟨by simp, .inl ⟨A, c, rfl, rfl⟩⟩
    · exact HS.out.below B1.out h
  have I1 : Hid (l.length = 0 ∨ ∀ g, (Value.slice A l.length c).ownBlock = some g → g < w1.heap.size) := HI.out.imp id fun h g hg => Nat.lt_of_lt_of_le (h g hg) B1.out.size
  refine (To.to_any _ l _ S1.out hn I1.out).mono ?_
  rintro e w3 ⟨g3, c3, rfl, o3, b3⟩
  have O3 := Seg.hid o3; have B3 := Seg.hid b3
  clear o3 b3
  go_wp2_with fail
  refine (ChkI.impl_any _ g3 l.length c3 l _ (by omega) rfl HY.out O3.out).mono ?_
  rintro e w4 ⟨rfl, b4⟩
  have B4 := Seg.hid b4
  clear b4
  go_wp2_with fail
  have S3 : Hid (Seg.Seg w4 (.slice A l.length c) l) := by
    rcases I1.out with h | h
    · obtain rfl : l = [] := List.length_eq_zero_iff.1 h
      exact ⟨by simp, .inl ⟨A, c, rfl, rfl⟩⟩
    · exact S1.out.below (B3.out.trans (B4.out.mono B3.out.size)) h
  have I3 : Hid (l.length = 0 ∨ ∀ g, (Value.slice A l.length c).ownBlock = some g → g < w4.heap.size) := I1.out.imp id fun h g hg => Nat.lt_of_lt_of_le (h g hg) (Nat.le_trans B3.out.size B4.out.size)
  refine (To.to_any _ l _ S3.out hn I3.out).mono ?_
  rintro e w5 ⟨g5, c5, rfl, o5, b5⟩
  have O5 := Seg.hid o5; have B5 := Seg.hid b5
  clear o5 b5
  have P3 := Seg.hid (Seg.owns_below (Seg.owns_below O3.out B4.out) B5.out)
  have V4 := Seg.hid ((B1.out.trans (B3.out.mono B1.out.size)).trans (B4.out.mono (Nat.le_trans B1.out.size B3.out.size)))
  have V5 := Seg.hid (V4.out.trans (B5.out.mono V4.out.size))
  go_wp2_with fail
  refine (Same.eq_any _ _ l l _ (Own.seg ⟨by omega, g3, c3, rfl, P3.out⟩) (Own.seg ⟨by omega, g5, c5, rfl, O5.out⟩)).mono ?_
  rintro e w6 ⟨rfl, d, rfl⟩
  simp only [decide_true]
  go_wp2_with fail
  go_ret
  exact ⟨rfl, below_drewN V5.out d⟩

theorem walk_any (A : Option Addr) (len cap : Nat) (zs : List Int) (w : World)
    (h : (A = none ∧ len = 0 ∧ cap = 0 ∧ zs = []) ∨ ∃ x, A = some x ∧ len ≤ cap ∧ cap ≤ maxLen ∧ zs.length = cap ∧ (∀ i, i < zs.length → w.cell? (x.add i) = some (.int .u8 (zs.getD i 0))) ∧ ∀ n ∈ zs, (Lit.int .u8 n).wf = true) :
    Calls Try.prog 4 #[.slice A len cap] w fun e w' => e = .returned (.bool true) ∧ Below w.heap.size w w' := by
  by_cases hb : 1048576 < len
  · exact walk_big A len cap w hb
  · obtain ⟨l, h1, h2, h3, h4⟩ := Seg.row_seg w A len cap zs h (by omega)
    exact walk A len cap l w (by omega) h1 h2 h3 h4
end Go.Proofs.Ytlagllomdinklak.ExChk
