/- Rules and their text, on plain data. -/
import Derived.Test.YtaninhajnfgkkaaDoorTRuls
import Derived.Test.YtaninhajnfgkkaaDoorInQ
import Derived.Test.YtaninhajnfgkkaaDoorNmQ
namespace Go.Proofs.YtaninhajnfgkkaaDoor.RuP
set_option maxRecDepth 8000
open Go.RowKit
open Ls Lp
open Recs (hsz below1 below2 chain)
set_option linter.unusedVariables false
def whoOk (r : Rul) : Bool := (r.who.toList == [42]) || Nm.nameOk r.who
def nmOk (r : Rul) : Bool := Nm.nameOk r.name || (r.begins && (r.name.toList == []))
def okR (r : Rul) : Bool := whoOk r && (inR 1 r.may 4 && (inR 1 r.on 2 && nmOk r))
def mayL : List ByteArray := [⟨#[]⟩, ⟨#[114, 101, 97, 100]⟩, ⟨#[119, 114, 105, 116, 101]⟩, ⟨#[109, 97, 107, 101]⟩, ⟨#[97, 108, 108]⟩]
def onL : List ByteArray := [⟨#[]⟩, ⟨#[116, 111, 112, 105, 99]⟩, ⟨#[103, 114, 111, 117, 112]⟩]
def mayT (n : Int) : ByteArray := mayL.getD n.toNat ⟨#[]⟩
def onT (n : Int) : ByteArray := onL.getD n.toNat ⟨#[]⟩
def headT (d : Bool) : ByteArray := if d = true then ⟨#[100, 101, 110, 121, 32]⟩ else ⟨#[97, 108, 108, 111, 119, 32]⟩
def bodyT (r : Rul) : ByteArray := headT r.deny ++ r.who ++ ⟨#[32]⟩ ++ mayT r.may ++ ⟨#[32]⟩ ++ onT r.on ++ ⟨#[32]⟩ ++ r.name
def line (r : Rul) : ByteArray := if r.begins = true then bodyT r ++ ⟨#[42]⟩ ++ ⟨#[10]⟩ else bodyT r ++ ⟨#[10]⟩
def lines : List Rul → ByteArray → ByteArray
  | [], s => s
  | r :: l, s => lines l (s ++ line r)
def texts (l : List Rul) : ByteArray := lines l ⟨#[]⟩
def shows (l : List Rul) : Bool := decide (l.length ≤ 100) && (l.all okR && decide ((texts l).size ≤ 4000))
def text (l : List Rul) : ByteArray := if shows l = true then texts l else ⟨#[]⟩
theorem text_no {l : List Rul} (h : shows l = false) : text l = ⟨#[]⟩ := if_neg (by rw [h]; exact Bool.false_ne_true)
theorem text_yes {l : List Rul} (h : shows l = true) : text l = texts l := if_pos h
theorem lines_step {l : List Rul} {k : Nat} (h : k < l.length) (s : ByteArray) : lines (l.drop k) s = lines (l.drop (k + 1)) (s ++ line (l.getD k default)) := by
  rw [drop_cons h]; rfl
theorem lines_end {l : List Rul} {k : Nat} (h : l.length ≤ k) (s : ByteArray) : lines (l.drop k) s = s := by
  rw [List.drop_eq_nil_of_le h]; rfl
theorem name_small {s : ByteArray} (h : Nm.nameOk s = true) : s.size ≤ 20 := by
  simp only [Nm.nameOk, Bool.and_eq_true, decide_eq_true_eq] at h
  exact h.1.2
theorem list_size (s : ByteArray) : s.toList.length = s.size := by
  rw [ByteArray.toList_eq]
  rfl
theorem who_small {r : Rul} (h : whoOk r = true) : r.who.size ≤ 20 := by
  simp only [whoOk, Bool.or_eq_true, beq_iff_eq] at h
  rcases h with h | h
  · have := list_size r.who
    rw [h] at this
    simp at this
    omega
  · exact name_small h
theorem nm_small {r : Rul} (h : nmOk r = true) : r.name.size ≤ 20 := by
  simp only [nmOk, Bool.or_eq_true, Bool.and_eq_true, beq_iff_eq] at h
  rcases h with h | h
  · exact name_small h
  · have := list_size r.name
    rw [h.2] at this
    simp at this
    omega
theorem may_small (n : Int) : (mayT n).size ≤ 5 := by
  unfold mayT mayL
  match n.toNat with
  | 0 => decide
  | 1 => decide
  | 2 => decide
  | 3 => decide
  | 4 => decide
  | k + 5 => exact Nat.zero_le _
theorem on_small (n : Int) : (onT n).size ≤ 5 := by
  unfold onT onL
  match n.toNat with
  | 0 => decide
  | 1 => decide
  | 2 => decide
  | k + 3 => exact Nat.zero_le _
theorem head_small (b : Bool) : (headT b).size ≤ 6 := by cases b <;> decide
theorem s32 : (⟨#[32]⟩ : ByteArray).size = 1 := rfl
theorem s42 : (⟨#[42]⟩ : ByteArray).size = 1 := rfl
theorem s10 : (⟨#[10]⟩ : ByteArray).size = 1 := rfl
theorem line_small {r : Rul} (h : okR r = true) : (line r).size ≤ 100 := by
  simp only [okR, Bool.and_eq_true] at h
  have a := who_small h.1
  have b := nm_small h.2.2.2
  have c := may_small r.may
  have d := on_small r.on
  have e := head_small r.deny
  have f : (bodyT r).size ≤ 60 := by unfold bodyT; simp only [ByteArray.size_append, s32]; omega
  unfold line
  split <;> simp only [ByteArray.size_append, s42, s10] <;> omega
abbrev rrow (r : Rul) : Array Value := #[.bool r.deny, .string r.who, .int .i64 r.may, .int .i64 r.on, .string r.name, .bool r.begins]
theorem rul_cells {w : World} {S : Nat → Prop} {g o i : Nat} {t : Rul} {F : Nat → Value} (h : ∀ j, j < 6 → w.cell? ⟨g, o + i * 6 + j, none⟩ = some (F j)) (he : ERul w S F t) :
    w.cell? ⟨g, o + i * 6, none⟩ = some (.bool t.deny) ∧ w.cell? ⟨g, o + i * 6 + 1, none⟩ = some (.string t.who) ∧ w.cell? ⟨g, o + i * 6 + 2, none⟩ = some (.int .i64 t.may) ∧ w.cell? ⟨g, o + i * 6 + 3, none⟩ = some (.int .i64 t.on) ∧ w.cell? ⟨g, o + i * 6 + 4, none⟩ = some (.string t.name) ∧ w.cell? ⟨g, o + i * 6 + 5, none⟩ = some (.bool t.begins) := by
  obtain ⟨y0, y1, y2, y3, y4, y5⟩ := he
  refine ⟨?_, ?_, ?_, ?_, ?_, ?_⟩
  · rw [← y0]; exact h 0 (by omega)
  · rw [← y1]; exact h 1 (by omega)
  · rw [← y2]; exact h 2 (by omega)
  · rw [← y3]; exact h 3 (by omega)
  · rw [← y4]; exact h 4 (by omega)
  · rw [← y5]; exact h 5 (by omega)
end Go.Proofs.YtaninhajnfgkkaaDoor.RuP
