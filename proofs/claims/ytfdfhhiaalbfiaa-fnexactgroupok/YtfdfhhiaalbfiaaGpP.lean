/- A right group, on plain data. -/
import Derived.Test.YtfdfhhiaalbfiaaWnA
import Derived.Test.YtfdfhhiaalbfiaaTpP
import Derived.Test.YtfdfhhiaalbfiaaTGrp
namespace Go.Proofs.Ytfdfhhiaalbfiaa.GpP
set_option maxRecDepth 8000
open Go.RowKit
open Ls Lp WnP
open TpP (sl aheadO)
open Recs (hsz below1 below2 chain)
set_option linter.unusedVariables false
def stO (s : ByteArray) : Bool := s.toList == [] || Nm.nameOk s
def okM (g : Grp) (p : Option Mbr) (m : Mbr) : Bool := (Nm.nameOk m.name && aheadO (p.map (·.name)) m.name) && (stO m.sttc && (names m.wants && (inR 0 m.beat g.now && (inR 0 m.round g.round && (slots m.owns && slots m.target)))))
def sts (o m : Mbr) : Bool := !(m.sttc.toList == []) && (m.sttc.toList == o.sttc.toList)
def clash (m o : Mbr) : Bool := sts o m || (m.owns.any (isIn o.owns) || m.target.any (isIn o.target))
def mem (g : Grp) (k : Nat) : Bool := okM g (pvs g.members k) (g.members.getD k default) && !((g.members.take k).any (clash (g.members.getD k default)))
def mems (g : Grp) (k : Nat) : Bool := ((List.range g.members.length).drop k).all (mem g)
def outer (g : Grp) : Bool := inR 1 g.kind 3 && (inR 1 g.timeout 1000000000000 && (inR 0 g.now 1000000000000 && (inR 0 g.round 1000000000 && (TpP.topics g.topics && decide (g.members.length ≤ 30)))))
def groupOk (g : Grp) : Bool := outer g && mems g 0
theorem mems_step {g : Grp} {k : Nat} (h : k < g.members.length) : mems g k = (mem g k && mems g (k + 1)) := by
  unfold mems
  rw [List.drop_eq_getElem_cons (by simpa using h)]
  simp
theorem mems_end {g : Grp} {k : Nat} (h : g.members.length ≤ k) : mems g k = true := by
  unfold mems
  rw [List.drop_eq_nil_of_le (by simpa using h)]
  rfl
theorem take_any {l : List Mbr} {j k : Nat} {p : Mbr → Bool} (h : j < k) (hk : k ≤ l.length) (hp : p (l.getD j default) = true) : (l.take k).any p = true := by
  simp only [List.any_eq_true]
  refine ⟨l.getD j default, ?_, hp⟩
  have e : l.getD j default = (l.take k)[j]'(by rw [List.length_take]; omega) := by simp [show j < l.length by omega]
  rw [e]
  exact List.getElem_mem _
theorem take_next {l : List Mbr} {j : Nat} {p : Mbr → Bool} (h : j < l.length) (h1 : (l.take j).any p = false) (hp : p (l.getD j default) = false) : (l.take (j + 1)).any p = false := by
  have e : l.take (j + 1) = l.take j ++ [l.getD j default] := by
    rw [List.take_add_one, List.getElem?_eq_getElem h]
    simp [h]
  rw [e, List.any_append, h1]
  generalize l.getD j default = x at *
  simp [hp]
abbrev mrow (m : Mbr) (B2 : Option Addr) (d2 : Nat) (B5 : Option Addr) (d5 : Nat) (B6 : Option Addr) (d6 : Nat) : Array Value := #[.string m.name, .string m.sttc, .slice B2 m.wants.length d2, .int .i64 m.beat, .int .i64 m.round, .slice B5 m.owns.length d5, .slice B6 m.target.length d6]
theorem mbr_cells {w : World} {S : Nat → Prop} {g o i : Nat} {t : Mbr} {F : Nat → Value} (h : ∀ j, j < 7 → w.cell? ⟨g, o + i * 7 + j, none⟩ = some (F j)) (he : EMbr w S F t) :
    ∃ B2 d2 B5 d5 B6 d6, (w.cell? ⟨g, o + i * 7, none⟩ = some (.string t.name) ∧ w.cell? ⟨g, o + i * 7 + 1, none⟩ = some (.string t.sttc) ∧ w.cell? ⟨g, o + i * 7 + 2, none⟩ = some (.slice B2 t.wants.length d2) ∧ w.cell? ⟨g, o + i * 7 + 3, none⟩ = some (.int .i64 t.beat) ∧ w.cell? ⟨g, o + i * 7 + 4, none⟩ = some (.int .i64 t.round) ∧ w.cell? ⟨g, o + i * 7 + 5, none⟩ = some (.slice B5 t.owns.length d5) ∧ w.cell? ⟨g, o + i * 7 + 6, none⟩ = some (.slice B6 t.target.length d6)) ∧ StrsAt w S (.slice B2 t.wants.length d2) t.wants ∧ LAt 2 ESlt w S (.slice B5 t.owns.length d5) t.owns ∧ LAt 2 ESlt w S (.slice B6 t.target.length d6) t.target := by
  obtain ⟨y0, y1, y2, y3, y4, y5, y6⟩ := he
  obtain ⟨B2, d2, g2⟩ := y2.form
  obtain ⟨B5, d5, g5⟩ := y5.form
  obtain ⟨B6, d6, g6⟩ := y6.form
  refine ⟨B2, d2, B5, d5, B6, d6, ⟨?_, ?_, ?_, ?_, ?_, ?_, ?_⟩, by rw [← g2]; exact y2, by rw [← g5]; exact y5, by rw [← g6]; exact y6⟩
  · rw [← y0]; exact h 0 (by omega)
  · rw [← y1]; exact h 1 (by omega)
  · rw [← g2]; exact h 2 (by omega)
  · rw [← y3]; exact h 3 (by omega)
  · rw [← y4]; exact h 4 (by omega)
  · rw [← g5]; exact h 5 (by omega)
  · rw [← g6]; exact h 6 (by omega)
theorem grp_form {w : World} {S : Nat → Prop} {v : Value} {t : Grp} (h : GrpAt w S v t) : ∃ A4 c4 A5 c5, v = .agg #[.int .i64 t.kind, .int .i64 t.timeout, .int .i64 t.now, .int .i64 t.round, .slice A4 t.topics.length c4, .slice A5 t.members.length c5] ∧ LAt 2 ETpc w S (.slice A4 t.topics.length c4) t.topics ∧ LAt 7 EMbr w S (.slice A5 t.members.length c5) t.members := by
  obtain ⟨f, rfl, y0, y1, y2, y3, y4, y5⟩ := h
  obtain ⟨A4, c4, g4⟩ := y4.form
  obtain ⟨A5, c5, g5⟩ := y5.form
  refine ⟨A4, c4, A5, c5, ?_, by rw [← g4]; exact y4, by rw [← g5]; exact y5⟩
  rw [← g4, ← g5]
  show Value.agg #[f 0, f 1, f 2, f 3, f 4, f 5] = _
  rw [y0, y1, y2, y3]
end Go.Proofs.Ytfdfhhiaalbfiaa.GpP
