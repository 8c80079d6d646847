/- Drawn bytes out of a text: the row that they lie in. -/
import Derived.Test.YtbilpicolfpoaaaDrawB
import Derived.WalkSmall
namespace Go.Proofs.Ytbilpicolfpoaaa.DrawC
open Go.RowKit
open Draw (Cur Lft Bytes)
set_option linter.unusedVariables false

/-- A row of bytes whose spare room may be written. -/
structure Row (w : World) (base g cap : Nat) (l : List Int) : Prop where
  le : l.length ≤ cap
  capm : cap ≤ maxLen
  gb : base ≤ g
  glt : g < w.heap.size
  cell : ∀ i, i < l.length → w.cell? ⟨g, i, none⟩ = some (.int .u8 (l.getD i 0))
  spare : ∀ j, j < cap → (w.cell? ⟨g, j, none⟩).isSome = true ∧ w.frozen? ⟨g, j, none⟩ = false
  byt : ∀ x ∈ l, 0 ≤ x ∧ x < 256

def nums (s : ByteArray) : List Int := s.data.toList.map fun b => (b.toNat : Int)
theorem nums_len (s : ByteArray) : (nums s).length = s.size := by rw [nums, List.length_map, Array.length_toList]; rfl
theorem conv_row (w : World) (e base : Nat) (s : ByteArray) (hb : base ≤ w.heap.size) (hs : s.size ≤ 1000000) : Row (Lib.bytesWorld w e s) base w.heap.size (grownCap w s.size 0 e) (nums s) := by
  have hsz : (Lib.bytesCells w e s).size = grownCap w s.size 0 e := by
    have := grownCap_ge w s.size 0 e
    simp [Lib.bytesCells]
    have h2 : s.data.size = s.size := rfl
    omega
  have hnew := Lib.bytesWorld_at_new w e s
  refine ⟨by rw [nums_len]; exact grownCap_ge w _ _ _, grownCap_le_maxLen w _ _ _ (by unfold maxLen; omega), hb, by rw [Lib.bytesWorld_size]; omega, fun i hi => ?_, fun j hj => ?_, fun x hx => ?_⟩
  · rw [nums_len] at hi
    rw [Lib.bytesWorld_cell w e s i hi]
    have : i < s.data.toList.length := by simpa using hi
    simp [nums, List.getD_eq_getElem?_getD, List.getElem?_eq_getElem this]
  · rw [cell_of_row _ _ j _ _ _ hnew]
    refine ⟨by simp [hsz, hj], ?_⟩
    simp [World.frozen?, hnew, hsz]
    omega
  · simp only [nums, List.mem_map] at hx
    obtain ⟨b, _, rfl⟩ := hx
    exact DrawB.u8_bd b
theorem conv_below (w : World) (e : Nat) (s : ByteArray) : Below w.heap.size w (Lib.bytesWorld w e s) :=
  ⟨rfl, rfl, rfl, by rw [Lib.bytesWorld_size]; omega, fun k hk => Lib.bytesWorld_at_old w e s k hk⟩
end Go.Proofs.Ytbilpicolfpoaaa.DrawC
