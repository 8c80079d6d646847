/- A right table of Seens, on plain data; its rows in memory. -/
import Derived.Test.YtjdhpampfnilaaaTSens
import Derived.Test.YtjdhpampfnilaaaLsP
namespace Go.Proofs.Ytjdhpampfnilaaa.TbP
set_option maxRecDepth 8000
open Go.RowKit
open Ls Lp
open Recs (hsz below1 below2 chain)
set_option linter.unusedVariables false
def okR (r : Rct) : Bool := inR 0 r.seq 1000000000 && (inR 1 r.many 40 && inR 0 r.offset 1000000000)
/-- The Seq of the first one, else z. -/
def nxt (z : Int) : List Rct → Int
  | [] => z
  | r :: _ => r.seq
def link (z : Int) : List Rct → Bool
  | [] => true
  | r :: t => (okR r && decide (r.seq + r.many = nxt z t)) && link z t
def front (s : Sen) : Bool := inR 0 s.turn 1000 && (inR 0 s.next 1000000001 && decide (s.recent.length ≤ 5))
def snOk (s : Sen) : Bool := front s && link s.next s.recent
def tabs : Int → List Sen → Bool
  | _, [] => true
  | least, s :: t => (inR least s.producer 1000000000 && snOk s) && tabs (s.producer + 1) t
def table (l : List Sen) : Bool := decide (l.length ≤ 100) && tabs 0 l
theorem nxt_drop {z : Int} {l : List Rct} {k : Nat} (h : k < l.length) : nxt z (l.drop k) = (l.getD k default).seq := by rw [drop_cons h]; rfl
theorem nxt_end {z : Int} {l : List Rct} {k : Nat} (h : l.length ≤ k) : nxt z (l.drop k) = z := by rw [List.drop_eq_nil_of_le h]; rfl
/-- A Recent in a list: its three cells. -/
theorem rct_cells {w : World} {S : Nat → Prop} {g o i : Nat} {r : Rct} {F : Nat → Value} (h : ∀ j, j < 3 → w.cell? ⟨g, o + i * 3 + j, none⟩ = some (F j)) (he : ERct w S F r) :
    w.cell? ⟨g, o + i * 3, none⟩ = some (.int .i64 r.seq) ∧ w.cell? ⟨g, o + i * 3 + 1, none⟩ = some (.int .i64 r.many) ∧ w.cell? ⟨g, o + i * 3 + 2, none⟩ = some (.int .i64 r.offset) := by
  obtain ⟨y0, y1, y2⟩ := he
  exact ⟨by rw [← y0]; exact h 0 (by omega), by rw [← y1]; exact h 1 (by omega), by rw [← y2]; exact h 2 (by omega)⟩
/-- A Seen in a list: its four cells. -/
theorem sen_cells {w : World} {S : Nat → Prop} {g o i : Nat} {s : Sen} {F : Nat → Value} (h : ∀ j, j < 4 → w.cell? ⟨g, o + i * 4 + j, none⟩ = some (F j)) (he : ESen w S F s) :
    ∃ A c, (w.cell? ⟨g, o + i * 4, none⟩ = some (.int .i64 s.producer) ∧ w.cell? ⟨g, o + i * 4 + 1, none⟩ = some (.int .i64 s.turn) ∧ w.cell? ⟨g, o + i * 4 + 2, none⟩ = some (.int .i64 s.next) ∧ w.cell? ⟨g, o + i * 4 + 3, none⟩ = some (.slice A s.recent.length c)) ∧
      LAt 3 ERct w S (.slice A s.recent.length c) s.recent := by
  obtain ⟨y0, y1, y2, y3⟩ := he
  obtain ⟨A, c, g3⟩ := y3.form
  refine ⟨A, c, ⟨?_, ?_, ?_, ?_⟩, g3 ▸ y3⟩
  · rw [← y0]; exact h 0 (by omega)
  · rw [← y1]; exact h 1 (by omega)
  · rw [← y2]; exact h 2 (by omega)
  · rw [← g3]; exact h 3 (by omega)
/-- What stands while a Seen is checked: its four cells in block g, and all that lay. -/
structure Ss (w wr : World) (s : Sen) (A : Option Addr) (c g : Nat) : Prop where
  bel : Below w.heap.size w wr
  row : wr.heap[g]? = some (.cells #[.int .i64 s.producer, .int .i64 s.turn, .int .i64 s.next, .slice A s.recent.length c] 35 (0, 0))
section
variable {w wr : World} {s : Sen} {A : Option Addr} {c g : Nat}
theorem Ss.cells (h : Ss w wr s A c g) : wr.cell? ⟨g, 0, none⟩ = some (.int .i64 s.producer) ∧ wr.cell? ⟨g, 1, none⟩ = some (.int .i64 s.turn) ∧ wr.cell? ⟨g, 2, none⟩ = some (.int .i64 s.next) ∧ wr.cell? ⟨g, 3, none⟩ = some (.slice A s.recent.length c) :=
  ⟨cell_of_row wr _ 0 _ _ (0, 0) h.row, cell_of_row wr _ 1 _ _ (0, 0) h.row, cell_of_row wr _ 2 _ _ (0, 0) h.row, cell_of_row wr _ 3 _ _ (0, 0) h.row⟩
theorem Ss.lt (h : Ss w wr s A c g) : g < wr.heap.size := (Array.getElem?_eq_some_iff.1 h.row).1
theorem Ss.alloc (h : Ss w wr s A c g) (o : Obj) : Ss w (wr.alloc o) s A c g := ⟨h.bel.alloc h.bel.size _, ((below1 wr o).block _ h.lt).trans h.row⟩
theorem Ss.next {w' : World} (h : Ss w wr s A c g) (b : Below wr.heap.size wr w') : Ss w w' s A c g := ⟨chain h.bel b, (b.block _ h.lt).trans h.row⟩
end
end Go.Proofs.Ytjdhpampfnilaaa.TbP
