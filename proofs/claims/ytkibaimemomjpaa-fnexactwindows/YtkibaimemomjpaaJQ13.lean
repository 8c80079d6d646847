/- Columns that an expression sees, the place of a source: plain; Right inputs, plain. -/
import Derived.Test.YtkibaimemomjpaaJQ12
import Derived.Test.YtkibaimemomjpaaJQ10
import Derived.Test.YtkibaimemomjpaaJQ06
import Derived.Test.YtkibaimemomjpaaJQ11
namespace Go.Proofs.Ytkibaimemomjpaa.QuP
set_option maxRecDepth 8000
open Go.RowKit
open Ls Lp QyP QsP QtP
set_option linter.unusedVariables false
def see (cols : List ByteArray) (s : Stp) : Bool := !decide (s.op = 2) || hasT cols s.name
def sees (l : List Stp) (cols : List ByteArray) : Bool := l.all (see cols)
/-- The first source of that name, -1: none. -/
def srcAt (l : List Src) (n : ByteArray) : Int := match l.findIdx? fun s => s.name.toList == n.toList with
  | none => -1
  | some i => i
theorem src_hit {l : List Src} {n : ByteArray} {k : Nat} (hk : k < l.length) (h : ∀ j, j < k → ((l.getD j default).name.toList == n.toList) = false) (hb : ((l.getD k default).name.toList == n.toList) = true) : srcAt l n = k := by
  unfold srcAt
  have : l.findIdx? (fun s => s.name.toList == n.toList) = some k := by
    rw [List.findIdx?_eq_some_iff_getElem]
    refine ⟨hk, by simpa [hk] using hb, fun j hj => ?_⟩
    have h1 := h j hj
    have hj' : j < l.length := by omega
    simp [hj'] at h1
    simpa using h1
  rw [this]
theorem src_miss {l : List Src} {n : ByteArray} (h : ∀ j, j < l.length → ((l.getD j default).name.toList == n.toList) = false) : srcAt l n = -1 := by
  unfold srcAt
  have : l.findIdx? (fun s => s.name.toList == n.toList) = none := by
    rw [List.findIdx?_eq_none_iff]
    intro s hs
    obtain ⟨j, hj, rfl⟩ := List.mem_iff_getElem.1 hs
    have h1 := h j hj
    simpa [hj] using h1
  rw [this]
end Go.Proofs.Ytkibaimemomjpaa.QuP
namespace Go.Proofs.Ytkibaimemomjpaa.IoP
set_option maxRecDepth 8000
open Go.RowKit
open Ls Lp QyP QsP QtP QuP TbP
open Recs (hsz below1 below2 chain)
set_option linter.unusedVariables false
abbrev Arr2 := List Arr
abbrev FineArr2 := FineL FineArr
abbrev szArr2 := szL szArr
def inN (n : Int) : Bool := inR (-1000000000000000) n 1000000000000000
def arrOk (s : Src) (a : Arr) : Bool := (inR 0 a.time 1000000000000 && (!a.gone || s.tab)) && (decide (a.row.length = s.cols.length) && a.row.all inN)
def cnt (us : List (List Arr)) : Nat := (us.map List.length).sum
def rowsK (l : List Src) (us : List (List Arr)) (k : Nat) : Bool := (List.range k).all fun i => (us.getD i default).all (arrOk (l.getD i default))
def inpOk (l : List Src) (us : List (List Arr)) : Bool := srcsOk l && (decide (us.length = l.length) && (decide (cnt us ≤ 300) && rowsK l us us.length))
theorem cnt_next {us : List (List Arr)} {k : Nat} (h : k < us.length) : cnt (us.take (k + 1)) = cnt (us.take k) + (us.getD k default).length := by
  unfold cnt
  rw [List.take_succ_eq_append_getElem h, List.map_append, List.sum_append]
  simp [h]
theorem cnt_split (us : List (List Arr)) (k : Nat) : cnt us = cnt (us.take k) + cnt (us.drop k) := by
  have := congrArg cnt (List.take_append_drop k us).symm
  rw [this]
  unfold cnt
  rw [List.map_append, List.sum_append]
theorem cnt_le (us : List (List Arr)) (k : Nat) : cnt (us.take k) ≤ cnt us := by have := cnt_split us k; omega
theorem cnt_sz : ∀ us : List (List Arr), cnt us ≤ tot szArr2 us
  | [] => by simp [cnt]
  | t :: r => by
    have := cnt_sz r
    have h2 : t.length ≤ szArr2 t := szL_len (f := szArr) (Nat.le_refl _)
    simp only [cnt, tot, List.map_cons, List.sum_cons] at *
    omega
theorem cnt_max {us : List (List Arr)} (h : szL szArr2 us ≤ 1048576) : cnt us ≤ 1048576 := by
  have := cnt_sz us
  unfold szL at h
  omega
theorem rows_next {l : List Src} {us : List (List Arr)} {k : Nat} (h : rowsK l us k = true) (h2 : (us.getD k default).all (arrOk (l.getD k default)) = true) : rowsK l us (k + 1) = true := by
  unfold rowsK at *
  rw [List.range_succ, List.all_append, h, List.all_cons, h2]
  rfl
theorem rows_bad {l : List Src} {us : List (List Arr)} {k n : Nat} (hk : k < n) (h2 : (us.getD k default).all (arrOk (l.getD k default)) = false) : rowsK l us n = false :=
  List.all_eq_false.2 ⟨k, List.mem_range.2 hk, by rw [h2]; simp⟩
/-- One list of arrivals, as an element of the inputs. -/
theorem arrs_at {w w' : World} {S : Nat → Prop} {A : Option Addr} {c : Nat} {us : List (List Arr)} {g o : Nat} {F : Nat → Nat → Value} (h : Opn 1 EArr2 w S A c us g o F) (hS : ∀ g, S g → g < w.heap.size) (hb : Below w.heap.size w w') {k : Nat} (hk : k < us.length) : ∃ A' c', LAt 3 EArr w' S (.slice A' (us.getD k default).length c') (us.getD k default) ∧ w'.cell? ⟨g, o + k, none⟩ = some (.slice A' (us.getD k default).length c') := by
  have OL := h.later keepsArr2 hS hb
  have e0 : LAt 3 EArr w' S (F k 0) (us.getD k default) := OL.el k hk
  have cc := OL.cells k hk 0 (by omega)
  obtain ⟨A', c', e3⟩ := e0.form
  refine ⟨A', c', by rw [← e3]; exact e0, ?_⟩
  rw [← e3]
  simpa using cc
end Go.Proofs.Ytkibaimemomjpaa.IoP
