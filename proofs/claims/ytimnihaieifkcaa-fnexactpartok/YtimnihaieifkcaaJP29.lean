/- A right Part, on plain data; what stands while the program checks a replica. -/
import Derived.Test.YtimnihaieifkcaaJP13
import Derived.Test.YtimnihaieifkcaaJP14
import Derived.Test.YtimnihaieifkcaaJP15
import Derived.Test.YtimnihaieifkcaaJP23
import Derived.Test.YtimnihaieifkcaaJP28
namespace Go.Proofs.Ytimnihaieifkcaa.PoP
set_option maxRecDepth 8000
open Go.RowKit
open Ls Asc
open Recs (hsz below1 below2 chain chainD Bat)
open SegW (Sg)
open LogW (Lg LogAt)
open LgP (logOk)
open BfP (flatB)
open EoP (lastE)
set_option linter.unusedVariables false
def lg (r : Rpl) : Lg := ⟨r.start, r.next, r.roll, r.segs⟩
def repOk (e : Int) (r : Rpl) : Bool := logOk (lg r) && (inR r.start r.mark r.next && decide (lastE 0 (flatB r.segs) ≤ e))
def reps (e : Int) : List Rpl → Bool
  | [] => true
  | r :: t => repOk e r && reps e t
def lead (p : Prt) : Bool := if p.leader = -1 then true else inR 0 p.leader ((p.reps.length : Int) - 1) && ((p.reps.getD p.leader.toNat default).up && has p.leader p.insync)
def insy (p : Prt) : Bool := decide (0 < p.insync.length) && asc ((p.reps.length : Int) - 1) (-1) p.insync
def known (p : Prt) : Bool := nums p.known p.reps.length 1000000000
def front (p : Prt) : Bool := inR 1 p.reps.length 5 && (inR 1 p.least 5 && inR 0 p.epoch 1000000)
def part (p : Prt) : Bool := front p && (reps p.epoch p.reps && (insy p && (lead p && known p)))
/-- A Part's value: three lists and three numbers. -/
theorem form {w : World} {S : Nat → Prop} {v : Value} {p : Prt} (h : PrtAt w S v p) : ∃ A0 c0 A3 c3 A4 c4, v = .agg #[.slice A0 p.reps.length c0, .int .i64 p.leader, .int .i64 p.epoch, .slice A3 p.insync.length c3, .slice A4 p.known.length c4, .int .i64 p.least] := by
  obtain ⟨f, rfl, y0, y1, y2, y3, y4, y5⟩ := h
  obtain ⟨A0, c0, g0⟩ := y0.form
  obtain ⟨A3, c3, g3⟩ := y3.form
  obtain ⟨A4, c4, g4⟩ := y4.form
  exact ⟨A0, c0, A3, c3, A4, c4, by rw [← g0, ← y1, ← y2, ← g3, ← g4, ← y5]; rfl⟩
theorem parts {w : World} {S : Nat → Prop} {p : Prt} {a b c d e f : Value} (h : PrtAt w S (.agg #[a, b, c, d, e, f]) p) : LAt 6 ERpl w S a p.reps ∧ IntsAt w S d p.insync ∧ IntsAt w S e p.known := by
  obtain ⟨f, hf, y0, y1, y2, y3, y4, y5⟩ := h
  simp only [arrPrt, Value.agg.injEq, Array.mk.injEq, List.cons.injEq, and_true] at hf
  exact ⟨hf.1 ▸ y0, hf.2.2.2.1 ▸ y3, hf.2.2.2.2.1 ▸ y4⟩
/-- A replica of a list: its six cells. -/
theorem rpl_cells {w : World} {lo b : Nat} {g o i : Nat} {r : Rpl} {F : Nat → Value} (h : ∀ j, j < 6 → w.cell? ⟨g, o + i * 6 + j, none⟩ = some (F j)) (he : ERpl w (seg lo b) F r) :
    ∃ A3 c3, (w.cell? ⟨g, o + i * 6, none⟩ = some (.int .i64 r.start) ∧ w.cell? ⟨g, o + i * 6 + 1, none⟩ = some (.int .i64 r.next) ∧ w.cell? ⟨g, o + i * 6 + 2, none⟩ = some (.int .i64 r.roll) ∧ w.cell? ⟨g, o + i * 6 + 3, none⟩ = some (.slice A3 r.segs.length c3) ∧
      w.cell? ⟨g, o + i * 6 + 4, none⟩ = some (.int .i64 r.mark) ∧ w.cell? ⟨g, o + i * 6 + 5, none⟩ = some (.bool r.up)) ∧ LogAt w lo b (.agg #[.int .i64 r.start, .int .i64 r.next, .int .i64 r.roll, .slice A3 r.segs.length c3]) (lg r) := by
  obtain ⟨y0, y1, y2, y3, y4, y5⟩ := he
  obtain ⟨A3, c3, g3⟩ := y3.form
  refine ⟨A3, c3, ⟨?_, ?_, ?_, ?_, ?_, ?_⟩, .slice A3 r.segs.length c3, rfl, ?_⟩
  · rw [← y0]; exact h 0 (by omega)
  · rw [← y1]; exact h 1 (by omega)
  · rw [← y2]; exact h 2 (by omega)
  · rw [← g3]; exact h 3 (by omega)
  · rw [← y4]; exact h 4 (by omega)
  · rw [← y5]; exact h 5 (by omega)
  · rw [← g3]; exact OldL.segs y3
/-- What stands: the replica's copy in block pr, the Part in block pp. -/
structure Rr (w wx : World) (pp pr : Nat) (r : Rpl) (p : Prt) (A0 A3 A4 AS : Option Addr) (c0 c3 c4 cS : Nat) : Prop where
  rr : wx.heap[pr]? = some (.cells #[.int .i64 r.start, .int .i64 r.next, .int .i64 r.roll, .slice AS r.segs.length cS, .int .i64 r.mark, .bool r.up] 43 (0, 0))
  rp : wx.heap[pp]? = some (.cells #[.slice A0 p.reps.length c0, .int .i64 p.leader, .int .i64 p.epoch, .slice A3 p.insync.length c3, .slice A4 p.known.length c4, .int .i64 p.least] 30 (0, 0))
  bel : Below w.heap.size w wx
section
variable {w wx : World} {pp pr : Nat} {r : Rpl} {p : Prt} {A0 A3 A4 AS : Option Addr} {c0 c3 c4 cS : Nat}
theorem Rr.next {w' : World} (h : Rr w wx pp pr r p A0 A3 A4 AS c0 c3 c4 cS) (b : Below wx.heap.size wx w') : Rr w w' pp pr r p A0 A3 A4 AS c0 c3 c4 cS :=
  ⟨(b.block pr (Array.getElem?_eq_some_iff.1 h.rr).1).trans h.rr, (b.block pp (Array.getElem?_eq_some_iff.1 h.rp).1).trans h.rp, chain h.bel b⟩
theorem Rr.drew (h : Rr w wx pp pr r p A0 A3 A4 AS c0 c3 c4 cS) : Rr w wx.drew pp pr r p A0 A3 A4 AS c0 c3 c4 cS := ⟨h.rr, h.rp, h.bel.drew⟩
theorem Rr.cells (h : Rr w wx pp pr r p A0 A3 A4 AS c0 c3 c4 cS) : wx.cell? ⟨pr, 0, none⟩ = some (.int .i64 r.start) ∧ wx.cell? ⟨pr, 1, none⟩ = some (.int .i64 r.next) ∧ wx.cell? ⟨pr, 2, none⟩ = some (.int .i64 r.roll) ∧ wx.cell? ⟨pr, 3, none⟩ = some (.slice AS r.segs.length cS) ∧ wx.cell? ⟨pr, 4, none⟩ = some (.int .i64 r.mark) ∧ wx.cell? ⟨pr, 5, none⟩ = some (.bool r.up) :=
  ⟨cell_of_row wx _ 0 _ _ (0, 0) h.rr, cell_of_row wx _ 1 _ _ (0, 0) h.rr, cell_of_row wx _ 2 _ _ (0, 0) h.rr, cell_of_row wx _ 3 _ _ (0, 0) h.rr, cell_of_row wx _ 4 _ _ (0, 0) h.rr, cell_of_row wx _ 5 _ _ (0, 0) h.rr⟩
theorem Rr.cellp (h : Rr w wx pp pr r p A0 A3 A4 AS c0 c3 c4 cS) : wx.cell? ⟨pp, 0, none⟩ = some (.slice A0 p.reps.length c0) ∧ wx.cell? ⟨pp, 2, none⟩ = some (.int .i64 p.epoch) ∧ wx.cell? ⟨pp, 4, none⟩ = some (.slice A4 p.known.length c4) :=
  ⟨cell_of_row wx _ 0 _ _ (0, 0) h.rp, cell_of_row wx _ 2 _ _ (0, 0) h.rp, cell_of_row wx _ 4 _ _ (0, 0) h.rp⟩
end
end Go.Proofs.Ytimnihaieifkcaa.PoP
