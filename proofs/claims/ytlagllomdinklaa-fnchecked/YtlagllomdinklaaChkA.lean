/- How far a check is, and its steps. -/
import Derived.Test.YtlagllomdinklaaRows
import Derived.Test.YtlagllomdinklaaSeg
import Derived.Test.YtlagllomdinklaaCrc
import Derived.Outline
namespace Go.Proofs.Ytlagllomdinklaa.Chk
open Go.RowKit
set_option linter.unusedVariables false

/-- How far the check is: j bytes are taken. -/
structure Upto (l : List Int) (j c : Nat) : Prop where
  lt : c < 4294967296
  eq : c = (l.take j).foldl Crc.upd 4294967295
theorem Upto.start (l : List Int) : Upto l 0 4294967295 := ⟨by decide, by simp⟩
theorem Upto.next {l : List Int} {j c : Nat} (h : Upto l j c) (hj : j < l.length) (x : Nat) (hx : l.getD j 0 = (x : Int)) (hx2 : x < 256) : Upto l (j + 1) (Crc.steps 8 (c ^^^ x)) := by
  have hg : l[j] = (x : Int) := by simpa [hj] using hx
  refine ⟨Crc.steps_lt (Crc.xor_lt h.lt (by omega)) 8, ?_⟩
  rw [List.take_succ_eq_append_getElem hj, List.foldl_append, ← h.eq, hg]
  simp [Crc.upd]
theorem Upto.done {l : List Int} {j c : Nat} (h : Upto l j c) (hj : l.length ≤ j) : c = Crc.crc l := by
  rw [h.eq, List.take_of_length_le hj]; rfl

theorem odd_step {z : Nat} (hz : z < 4294967296) (h : (((z : Int) % 2 == 1) = true)) : bits .xor .u32 ((z : Int) / 2) 3988292384 = ((Crc.step z : Nat) : Int) := by
  have := eq_of_beq h
  rw [Crc.step_odd (by omega), ← Crc.u32_xor _ _ (by omega) Crc.poly_lt, Int.natCast_ediv]
  rfl
theorem even_step {z : Nat} (h : (((z : Int) % 2 == 1) = false)) : (z : Int) / 2 = ((Crc.step z : Nat) : Int) := by
  have := ne_of_beq_false h
  rw [Crc.step_even (by omega)]; omega
/-- k steps of a number. -/
structure After (z0 k z : Nat) : Prop where
  lt : z < 4294967296
  eq : z = Crc.steps k z0
theorem After.start {z : Nat} (h : z < 4294967296) : After z 0 z := ⟨h, rfl⟩
theorem After.next {z0 k z : Nat} (h : After z0 k z) : After z0 (k + 1) (Crc.step z) := ⟨Crc.step_lt h.lt, by rw [h.eq]; rfl⟩

end Go.Proofs.Ytlagllomdinklaa.Chk
