/- A Value's and a Field's cells. -/
import Derived.Test.YtfdfhhiaalbfiaaVkP
import Derived.Test.YtfdfhhiaalbfiaaTFld
namespace Go.Proofs.Ytfdfhhiaalbfiaa.VkR
set_option maxRecDepth 8000
open Go.RowKit
open Ls Lp VkP
open Recs (hsz below1 below2 below3 chain chainD)
set_option linter.unusedVariables false
abbrev vrow (u : Vlu) (A : Option Addr) (c : Nat) : Array Value := #[.int .i64 u.kind, .int .i64 u.num, .string u.text, .bool u.lst, .slice A u.items.length c]
theorem five {w w1 : World} {u : Vlu} {A : Option Addr} {c : Nat} (b1 : Below (w.alloc (.cells (vrow u A c) 100 (0, 0))).heap.size (w.alloc (.cells (vrow u A c) 100 (0, 0))) w1) : w1.cell? ⟨w.heap.size, 0, none⟩ = some (.int .i64 u.kind) ∧ w1.cell? ⟨w.heap.size, 1, none⟩ = some (.int .i64 u.num) ∧ w1.cell? ⟨w.heap.size, 2, none⟩ = some (.string u.text) ∧ w1.cell? ⟨w.heap.size, 3, none⟩ = some (.bool u.lst) ∧ w1.cell? ⟨w.heap.size, 4, none⟩ = some (.slice A u.items.length c) := by
  have h := (b1.block w.heap.size (by rw [hsz]; omega)).trans (heap_alloc_new w _)
  exact ⟨cell_of_row w1 _ 0 _ _ (0, 0) h, cell_of_row w1 _ 1 _ _ (0, 0) h, cell_of_row w1 _ 2 _ _ (0, 0) h, cell_of_row w1 _ 3 _ _ (0, 0) h, cell_of_row w1 _ 4 _ _ (0, 0) h⟩
theorem itm_at {w w' : World} {S : Nat → Prop} {A : Option Addr} {c : Nat} {us : List Itm} {g o : Nat} {F : Nat → Nat → Value} (h : Opn 2 EItm w S A c us g o F) (hS : ∀ g, S g → g < w.heap.size) (hb : Below w.heap.size w w') {k : Nat} (hk : k < us.length) : w'.cell? ⟨g, o + k * 2, none⟩ = some (.int .i64 (us.getD k default).num) ∧ w'.cell? ⟨g, o + k * 2 + 1, none⟩ = some (.string (us.getD k default).text) := by
  have OL := h.later keepsItm hS hb
  have e := OL.el k hk
  exact ⟨by have := OL.cells k hk 0 (by omega); rw [e.1] at this; simpa using this, by have := OL.cells k hk 1 (by omega); rw [e.2] at this; exact this⟩
theorem all_next {T : Type} [Inhabited T] (p : T → Bool) (us : List T) (k : Nat) (hk : k < us.length) (h : (us.take k).all p = true) (hp : p (us.getD k default) = true) : (us.take (k + 1)).all p = true := by
  rw [List.take_succ_eq_append_getElem hk, List.all_append, h]
  simp [hk] at hp
  simp [hp]
theorem all_bad {T : Type} [Inhabited T] (p : T → Bool) (us : List T) (k : Nat) (hk : k < us.length) (hp : p (us.getD k default) = false) : us.all p = false := by
  simp [hk] at hp
  exact List.all_eq_false.2 ⟨us[k], List.getElem_mem hk, by simp [hp]⟩
theorem one_text {us : List Itm} (h : szL szItm us ≤ 1048576) {k : Nat} (hk : k < us.length) : (us.getD k default).text.size ≤ 1048576 := by
  have := szL_one szItm h hk
  simpa [szItm] using this
abbrev frow (f : Fld) (A : Option Addr) (c : Nat) (B : Option Addr) (d : Nat) : Array Value := #[.string f.name, .int .i64 f.kind, .bool f.lst, .bool f.may, .slice A f.was.length c, .bool f.fixd, .int .i64 f.vk, .int .i64 f.vn, .string f.vt, .bool f.vl, .slice B f.vi.length d]
/-- The Value that lies in a Field. -/
def vluOf (f : Fld) : Vlu := ⟨f.vk, f.vn, f.vt, f.vl, f.vi⟩
theorem form {w : World} {S : Nat → Prop} {v : Value} {f : Fld} (h : FldAt w S v f) : ∃ A c B d, v = .agg (frow f A c B d) ∧ StrsAt w S (.slice A f.was.length c) f.was ∧ LAt 2 EItm w S (.slice B f.vi.length d) f.vi := by
  obtain ⟨q, rfl, y0, y1, y2, y3, y4, y5, y6, y7, y8, y9, y10⟩ := h
  obtain ⟨A, c, h4⟩ := y4.form
  obtain ⟨B, d, h10⟩ := y10.form
  refine ⟨A, c, B, d, ?_, by rw [← h4]; exact y4, by rw [← h10]; exact y10⟩
  simp only [arrFld, frow]
  rw [y0, y1, y2, y3, h4, y5, y6, y7, y8, y9, h10]
theorem formV {w : World} {S : Nat → Prop} {v : Value} {u : Vlu} (h : VluAt w S v u) : ∃ A c, v = .agg (vrow u A c) ∧ LAt 2 EItm w S (.slice A u.items.length c) u.items := by
  obtain ⟨q, rfl, y0, y1, y2, y3, y4⟩ := h
  obtain ⟨A, c, h4⟩ := y4.form
  refine ⟨A, c, ?_, by rw [← h4]; exact y4⟩
  simp only [arrVlu, vrow]
  rw [y0, y1, y2, y3, h4]
theorem inner {w : World} {S : Nat → Prop} {f : Fld} {B : Option Addr} {d : Nat} (h : LAt 2 EItm w S (.slice B f.vi.length d) f.vi) : VluAt w S (.agg (vrow (vluOf f) B d)) (vluOf f) :=
  ⟨fun q => if q = 0 then .int .i64 f.vk else if q = 1 then .int .i64 f.vn else if q = 2 then .string f.vt else if q = 3 then .bool f.vl else .slice B f.vi.length d, rfl, rfl, rfl, rfl, rfl, h⟩
theorem sz_inner (f : Fld) (h : szFld f ≤ 1048576) : szVlu (vluOf f) ≤ 1048576 := by
  unfold szFld at h
  unfold vluOf
  omega
namespace FVlu
theorem form {w : World} {S : Nat → Prop} {v : Value} {t : Vlu} (h : VluAt w S v t) : ∃ A4 aq4, v = .agg #[.int .i64 t.kind, .int .i64 t.num, .string t.text, .bool t.lst, .slice A4 t.items.length aq4] := by
  obtain ⟨A, c, h1, -⟩ := formV h
  exact ⟨A, c, h1⟩
end FVlu
namespace FFld
theorem form {w : World} {S : Nat → Prop} {v : Value} {t : Fld} (h : FldAt w S v t) : ∃ A4 aq4 A10 aq10, v = .agg #[.string t.name, .int .i64 t.kind, .bool t.lst, .bool t.may, .slice A4 t.was.length aq4, .bool t.fixd, .int .i64 t.vk, .int .i64 t.vn, .string t.vt, .bool t.vl, .slice A10 t.vi.length aq10] := by
  obtain ⟨A, c, B, d, h1, -, -⟩ := VkR.form h
  exact ⟨A, c, B, d, h1⟩
end FFld
end Go.Proofs.Ytfdfhhiaalbfiaa.VkR
