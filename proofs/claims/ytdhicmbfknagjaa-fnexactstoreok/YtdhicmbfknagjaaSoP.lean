/- A right Store, on plain data; what stands while it is checked. -/
import Derived.Test.YtdhicmbfknagjaaOldL
import Derived.Test.YtdhicmbfknagjaaAscA
import Derived.Test.YtdhicmbfknagjaaLsP
import Derived.Test.YtdhicmbfknagjaaTSto
import Derived.Test.YtdhicmbfknagjaaLgP
import Derived.Test.YtdhicmbfknagjaaNm
namespace Go.Proofs.Ytdhicmbfknagjaa.SoP
set_option maxRecDepth 8000
open Go.RowKit
open Ls
open Recs (hsz below1 below2 chain)
open SegW (Sg)
open LogW (Lg LogAt)
open LgP (logOk)
open Asc (asc)
open Lp (inR)
set_option linter.unusedVariables false
def lgs : List Lg → Bool
  | [] => true
  | l :: r => logOk l && lgs r
def logs (l : List Lg) : Bool := inR 1 l.length 12 && lgs l
def clash (a b : Txn) : Bool := decide (a.name.toList = b.name.toList) || decide (a.producer = b.producer)
def front (used : Int) (t : Txn) : Bool := Nm.nameOk t.name && (inR 0 t.producer (used - 1) && inR 0 t.turn 1000)
def empt (t : Txn) : Bool := t.opn || decide (t.parts.length = 0)
def txOk (n : Nat) (used : Int) (t : Txn) : Bool := front used t && (asc ((n : Int) - 1) (-1) t.parts && empt t)
def tx (n : Nat) (used : Int) (l : List Txn) (k : Nat) : Bool := txOk n used (l.getD k default) && !((l.take k).any (clash (l.getD k default)))
def txs (n : Nat) (used : Int) (l : List Txn) (k : Nat) : Bool := ((List.range l.length).drop k).all (tx n used l)
def txns (n : Nat) (used : Int) (l : List Txn) : Bool := decide (l.length ≤ 20) && txs n used l 0
def storeOk (u : Sto) : Bool := logs u.logs && (inR 0 u.used 1000000000 && txns u.logs.length u.used u.txns)
theorem txs_step {n : Nat} {used : Int} {l : List Txn} {k : Nat} (h : k < l.length) : txs n used l k = (tx n used l k && txs n used l (k + 1)) := by
  unfold txs
  rw [List.drop_eq_getElem_cons (by simpa using h)]
  simp
theorem txs_end {n : Nat} {used : Int} {l : List Txn} {k : Nat} (h : l.length ≤ k) : txs n used l k = true := by
  unfold txs
  rw [List.drop_eq_nil_of_le (by simpa using h)]
  rfl
/-- A Store's value: two lists and a number. -/
theorem form {w : World} {S : Nat → Prop} {v : Value} {u : Sto} (h : StoAt w S v u) : ∃ A0 c0 A1 c1, v = .agg #[.slice A0 u.logs.length c0, .slice A1 u.txns.length c1, .int .i64 u.used] := by
  obtain ⟨f, rfl, y0, y1, y2⟩ := h
  obtain ⟨A0, c0, g0⟩ := y0.form
  obtain ⟨A1, c1, g1⟩ := y1.form
  exact ⟨A0, c0, A1, c1, by rw [← g0, ← g1, ← y2]; rfl⟩
theorem parts {w : World} {S : Nat → Prop} {u : Sto} {a b c : Value} (h : StoAt w S (.agg #[a, b, c]) u) : LAt 4 ELg w S a u.logs ∧ LAt 5 ETxn w S b u.txns := by
  obtain ⟨f, hf, y0, y1, y2⟩ := h
  simp only [arrSto, Value.agg.injEq, Array.mk.injEq, List.cons.injEq, and_true] at hf
  exact ⟨hf.1 ▸ y0, hf.2.1 ▸ y1⟩
theorem sto_at {w : World} {S : Nat → Prop} {u : Sto} {a b : Value} (h0 : LAt 4 ELg w S a u.logs) (h1 : LAt 5 ETxn w S b u.txns) : StoAt w S (.agg #[a, b, .int .i64 u.used]) u :=
  ⟨fun q => if q = 0 then a else if q = 1 then b else .int .i64 u.used, rfl, h0, h1, rfl⟩
/-- A log of a list: its four cells. -/
theorem lg_cells {w : World} {lo b : Nat} {g o i : Nat} {r : Lg} {F : Nat → Value} (h : ∀ j, j < 4 → w.cell? ⟨g, o + i * 4 + j, none⟩ = some (F j)) (he : ELg w (seg lo b) F r) :
    ∃ A3 c3, (w.cell? ⟨g, o + i * 4, none⟩ = some (.int .i64 r.start) ∧ w.cell? ⟨g, o + i * 4 + 1, none⟩ = some (.int .i64 r.next) ∧ w.cell? ⟨g, o + i * 4 + 2, none⟩ = some (.int .i64 r.roll) ∧ w.cell? ⟨g, o + i * 4 + 3, none⟩ = some (.slice A3 r.segs.length c3)) ∧
      LogAt w lo b (.agg #[.int .i64 r.start, .int .i64 r.next, .int .i64 r.roll, .slice A3 r.segs.length c3]) r := by
  obtain ⟨y0, y1, y2, y3⟩ := he
  obtain ⟨A3, c3, g3⟩ := y3.form
  refine ⟨A3, c3, ⟨?_, ?_, ?_, ?_⟩, .slice A3 r.segs.length c3, rfl, ?_⟩
  · rw [← y0]; exact h 0 (by omega)
  · rw [← y1]; exact h 1 (by omega)
  · rw [← y2]; exact h 2 (by omega)
  · rw [← g3]; exact h 3 (by omega)
  · rw [← g3]; exact OldL.segs y3
/-- A Txn of a list: its five cells. -/
theorem txn_cells {w : World} {S : Nat → Prop} {g o i : Nat} {t : Txn} {F : Nat → Value} (h : ∀ j, j < 5 → w.cell? ⟨g, o + i * 5 + j, none⟩ = some (F j)) (he : ETxn w S F t) :
    ∃ A4 c4, (w.cell? ⟨g, o + i * 5, none⟩ = some (.string t.name) ∧ w.cell? ⟨g, o + i * 5 + 1, none⟩ = some (.int .i64 t.producer) ∧ w.cell? ⟨g, o + i * 5 + 2, none⟩ = some (.int .i64 t.turn) ∧ w.cell? ⟨g, o + i * 5 + 3, none⟩ = some (.bool t.opn) ∧ w.cell? ⟨g, o + i * 5 + 4, none⟩ = some (.slice A4 t.parts.length c4)) ∧
      IntsAt w S (.slice A4 t.parts.length c4) t.parts := by
  obtain ⟨y0, y1, y2, y3, y4⟩ := he
  obtain ⟨A4, c4, g4⟩ := y4.form
  refine ⟨A4, c4, ⟨?_, ?_, ?_, ?_, ?_⟩, ?_⟩
  · rw [← y0]; exact h 0 (by omega)
  · rw [← y1]; exact h 1 (by omega)
  · rw [← y2]; exact h 2 (by omega)
  · rw [← y3]; exact h 3 (by omega)
  · rw [← g4]; exact h 4 (by omega)
  · rw [← g4]; exact y4
theorem txn_form {w : World} {S : Nat → Prop} {v : Value} {t : Txn} (h : TxnAt w S v t) : ∃ A4 c4, v = .agg #[.string t.name, .int .i64 t.producer, .int .i64 t.turn, .bool t.opn, .slice A4 t.parts.length c4] ∧ IntsAt w S (.slice A4 t.parts.length c4) t.parts := by
  obtain ⟨f, rfl, y0, y1, y2, y3, y4⟩ := h
  obtain ⟨A4, c4, g4⟩ := y4.form
  exact ⟨A4, c4, by rw [← y0, ← y1, ← y2, ← y3, ← g4]; rfl, by rw [← g4]; exact y4⟩
/-- What stands: the Store in block pp, a Txn's copy in block pr. -/
structure Tr (w wx : World) (pp pr : Nat) (t : Txn) (u : Sto) (A0 A1 A4 : Option Addr) (c0 c1 c4 : Nat) : Prop where
  rr : wx.heap[pr]? = some (.cells #[.string t.name, .int .i64 t.producer, .int .i64 t.turn, .bool t.opn, .slice A4 t.parts.length c4] 72 (0, 0))
  rp : wx.heap[pp]? = some (.cells #[.slice A0 u.logs.length c0, .slice A1 u.txns.length c1, .int .i64 u.used] 31 (0, 0))
  bel : Below w.heap.size w wx
section
variable {w wx : World} {pp pr : Nat} {t : Txn} {u : Sto} {A0 A1 A4 : Option Addr} {c0 c1 c4 : Nat}
theorem Tr.next {w' : World} (h : Tr w wx pp pr t u A0 A1 A4 c0 c1 c4) (b : Below wx.heap.size wx w') : Tr w w' pp pr t u A0 A1 A4 c0 c1 c4 :=
  ⟨(b.block pr (Array.getElem?_eq_some_iff.1 h.rr).1).trans h.rr, (b.block pp (Array.getElem?_eq_some_iff.1 h.rp).1).trans h.rp, chain h.bel b⟩
theorem Tr.cells (h : Tr w wx pp pr t u A0 A1 A4 c0 c1 c4) : wx.cell? ⟨pr, 0, none⟩ = some (.string t.name) ∧ wx.cell? ⟨pr, 1, none⟩ = some (.int .i64 t.producer) ∧ wx.cell? ⟨pr, 2, none⟩ = some (.int .i64 t.turn) ∧ wx.cell? ⟨pr, 3, none⟩ = some (.bool t.opn) ∧ wx.cell? ⟨pr, 4, none⟩ = some (.slice A4 t.parts.length c4) :=
  ⟨cell_of_row wx _ 0 _ _ (0, 0) h.rr, cell_of_row wx _ 1 _ _ (0, 0) h.rr, cell_of_row wx _ 2 _ _ (0, 0) h.rr, cell_of_row wx _ 3 _ _ (0, 0) h.rr, cell_of_row wx _ 4 _ _ (0, 0) h.rr⟩
theorem Tr.cellp (h : Tr w wx pp pr t u A0 A1 A4 c0 c1 c4) : wx.cell? ⟨pp, 0, none⟩ = some (.slice A0 u.logs.length c0) ∧ wx.cell? ⟨pp, 1, none⟩ = some (.slice A1 u.txns.length c1) ∧ wx.cell? ⟨pp, 2, none⟩ = some (.int .i64 u.used) :=
  ⟨cell_of_row wx _ 0 _ _ (0, 0) h.rp, cell_of_row wx _ 1 _ _ (0, 0) h.rp, cell_of_row wx _ 2 _ _ (0, 0) h.rp⟩
end
/-- The Store's row alone. -/
structure Sr (w wr : World) (u : Sto) (A0 A1 : Option Addr) (c0 c1 : Nat) : Prop where
  rp : wr.heap[w.heap.size]? = some (.cells #[.slice A0 u.logs.length c0, .slice A1 u.txns.length c1, .int .i64 u.used] 31 (0, 0))
  bel : Below w.heap.size w wr
theorem Sr.next {w wr w' : World} {u : Sto} {A0 A1 : Option Addr} {c0 c1 : Nat} (h : Sr w wr u A0 A1 c0 c1) (b : Below wr.heap.size wr w') : Sr w w' u A0 A1 c0 c1 :=
  ⟨(b.block _ (Array.getElem?_eq_some_iff.1 h.rp).1).trans h.rp, chain h.bel b⟩
theorem Sr.cells {w wr : World} {u : Sto} {A0 A1 : Option Addr} {c0 c1 : Nat} (h : Sr w wr u A0 A1 c0 c1) : wr.cell? ⟨w.heap.size, 0, none⟩ = some (.slice A0 u.logs.length c0) ∧ wr.cell? ⟨w.heap.size, 1, none⟩ = some (.slice A1 u.txns.length c1) ∧ wr.cell? ⟨w.heap.size, 2, none⟩ = some (.int .i64 u.used) :=
  ⟨cell_of_row wr _ 0 _ _ (0, 0) h.rp, cell_of_row wr _ 1 _ _ (0, 0) h.rp, cell_of_row wr _ 2 _ _ (0, 0) h.rp⟩
end Go.Proofs.Ytdhicmbfknagjaa.SoP
