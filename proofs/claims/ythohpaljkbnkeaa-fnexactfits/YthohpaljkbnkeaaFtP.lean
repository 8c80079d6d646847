/- Which schema may follow, on plain data. -/
import Derived.Test.YthohpaljkbnkeaaCrI
import Derived.Test.YthohpaljkbnkeaaTSchs
namespace Go.Proofs.Ythohpaljkbnkeaa.FtP
set_option maxRecDepth 8000
open Go.RowKit
open Ls Lp VkP VkR ScP ScM ScN ScI ScS MaP MaI CrP
open Recs (hsz below1 below2 below3 chain chainD)
set_option linter.unusedVariables false
def mOk (m : Int) : Bool := decide (m = 0 ∨ m = 1 ∨ m = 2 ∨ m = 4 ∨ m = 8 ∨ m = 9 ∨ m = 10 ∨ m = 12)
def bck (m : Int) : Bool := decide (m = 1 ∨ m = 4 ∨ m = 9 ∨ m = 12)
def fth (m : Int) : Bool := decide (m = 2 ∨ m = 4 ∨ m = 10 ∨ m = 12)
def fit1 (m : Int) (s o : Sch) : Bool := (!bck m || crd s o) && (!fth m || crd o s)
/-- Those that are asked: the last one, or all. -/
def asked (m : Int) (old : List Sch) : List Sch := if m < 8 then old.drop (old.length - 1) else old
def fitL (m : Int) (old : List Sch) (s : Sch) : Bool := (asked m old).all (fit1 m s)
def fitP (m : Int) (old : List Sch) (s : Sch) : Bool := mOk m && decide (old.length ≤ 20) && old.all sok && sok s && fitL m old s
theorem mOk_cases {m : Int} (h : mOk m = true) : m = 0 ∨ m = 1 ∨ m = 2 ∨ m = 4 ∨ m = 8 ∨ m = 9 ∨ m = 10 ∨ m = 12 := by simpa [mOk] using h
theorem bits8 {m : Int} (h : mOk m = true) : (bits .and .i64 m 8 == 0) = decide (m < 8) := by rcases mOk_cases h with rfl | rfl | rfl | rfl | rfl | rfl | rfl | rfl <;> rfl
theorem bits5 {m : Int} (h : mOk m = true) : (bits .and .i64 m 5 != 0) = bck m := by rcases mOk_cases h with rfl | rfl | rfl | rfl | rfl | rfl | rfl | rfl <;> rfl
theorem bits6 {m : Int} (h : mOk m = true) : (bits .and .i64 m 6 != 0) = fth m := by rcases mOk_cases h with rfl | rfl | rfl | rfl | rfl | rfl | rfl | rfl <;> rfl
theorem rem1 {m : Int} (h : mOk m = true) : (m.tmod 8 == 1) = (bck m && !fth m) := by rcases mOk_cases h with rfl | rfl | rfl | rfl | rfl | rfl | rfl | rfl <;> rfl
theorem rem2 {m : Int} (h : mOk m = true) : (m.tmod 8 == 2) = (fth m && !bck m) := by rcases mOk_cases h with rfl | rfl | rfl | rfl | rfl | rfl | rfl | rfl <;> rfl
theorem rem4 {m : Int} (h : mOk m = true) : (m.tmod 8 == 4) = (bck m && fth m) := by rcases mOk_cases h with rfl | rfl | rfl | rfl | rfl | rfl | rfl | rfl <;> rfl
/-- The cells of one schema of a list. -/
theorem sch_at {w w' : World} {S : Nat → Prop} {A : Option Addr} {c : Nat} {us : List Sch} {g o : Nat} {F : Nat → Nat → Value} (h : Opn 2 ESch w S A c us g o F) (hS : ∀ g, S g → g < w.heap.size) (hb : Below w.heap.size w w') {k : Nat} (hk : k < us.length) : ∃ A' c', SchAt w' S (.agg (srow (us.getD k default) A' c')) (us.getD k default) ∧ w'.cell? ⟨g, o + k * 2, none⟩ = some (.string (us.getD k default).name) ∧ w'.cell? ⟨g, o + k * 2 + 1, none⟩ = some (.slice A' (us.getD k default).fields.length c') := by
  have OL := h.later keepsSch hS hb
  have e := OL.el k hk
  have cc := OL.cells k hk
  obtain ⟨A', c', hv, -⟩ := formS (v := .agg (arrSch (F k))) ⟨F k, rfl, e⟩
  have hv' : arrSch (F k) = srow (us.getD k default) A' c' := by injection hv
  simp only [arrSch, srow, Array.mk.injEq, List.cons.injEq, and_true] at hv'
  obtain ⟨e0, e1⟩ := hv'
  exact ⟨A', c', by rw [← hv]; exact ⟨F k, rfl, e⟩, by rw [← e0]; exact cc 0 (by omega), by rw [← e1]; exact cc 1 (by omega)⟩
theorem all_at {p : Sch → Bool} {us : List Sch} (h : us.all p = true) {k : Nat} (hk : k < us.length) : p (us.getD k default) = true := by
  rw [List.getD_eq_getElem?_getD, List.getElem?_eq_getElem hk, Option.getD_some]
  exact List.all_eq_true.1 h _ (List.getElem_mem hk)
theorem last_one {old : List Sch} (h : 1 ≤ old.length) : old.drop (old.length - 1) = [old.getD (old.length - 1) default] := by
  rw [drop_cons (by omega), List.drop_eq_nil_of_le (by omega)]
end Go.Proofs.Ythohpaljkbnkeaa.FtP
