/- Lists of Source: what the law's helpers answer; Right sources, plain. -/
import Derived.Test.YtkohhcjpjloaaaaJW12
import Derived.Test.YtkohhcjpjloaaaaJW05
import Derived.Test.YtkohhcjpjloaaaaJW07
namespace Go.Proofs.Ytkohhcjpjloaaaa.Ls
set_option maxRecDepth 8000
open Go.RowKit
open Recs
set_option linter.unusedVariables false
end Go.Proofs.Ytkohhcjpjloaaaa.Ls
namespace Go.Proofs.Ytkohhcjpjloaaaa.QsP
set_option maxRecDepth 8000
open Go.RowKit
open Ls Lp QyP
set_option linter.unusedVariables false
def srcOk (s : Src) : Bool := Nm.nameOk s.name && (inR 1 s.cols.length 12 && (diff s.cols && s.cols.all Nm.nameOk))
def nmsS (l : List Src) : List ByteArray := l.map Src.name
def srcsOk (l : List Src) : Bool := decide (l.length ≤ 10) && (l.all srcOk && diff (nmsS l))
theorem nmsS_next {l : List Src} {k : Nat} (h : k < l.length) : nmsS (l.take (k + 1)) = nmsS (l.take k) ++ [(l.getD k default).name] := by
  unfold nmsS
  rw [List.take_succ_eq_append_getElem h, List.map_append]
  simp [h]
theorem nmsS_len (l : List Src) : (nmsS l).length = l.length := by simp [nmsS]
theorem all_next {T : Type} [Inhabited T] (p : T → Bool) (us : List T) (k : Nat) (hk : k < us.length) (h : (us.take k).all p = true) (hp : p (us.getD k default) = true) : (us.take (k + 1)).all p = true := by
  rw [List.take_succ_eq_append_getElem hk, List.all_append, h]
  simp [hk] at hp
  simp [hp]
theorem all_bad {T : Type} [Inhabited T] (p : T → Bool) (us : List T) (k : Nat) (hk : k < us.length) (hp : p (us.getD k default) = false) : us.all p = false := by
  simp [hk] at hp
  exact List.all_eq_false.2 ⟨us[k], List.getElem_mem hk, by simp [hp]⟩
theorem sz_col {s : Src} (h : szSrc s ≤ 1048576) {j : Nat} (hj : j < s.cols.length) : (s.cols.getD j default).size ≤ 1048576 := by
  unfold szSrc at h
  exact szL_one ByteArray.size (by omega) hj
/-- The cells of one source of a list. -/
theorem src_at {w w' : World} {S : Nat → Prop} {A : Option Addr} {c : Nat} {us : List Src} {g o : Nat} {F : Nat → Nat → Value} (h : Opn 3 ESrc w S A c us g o F) (hS : ∀ g, S g → g < w.heap.size) (hb : Below w.heap.size w w') {k : Nat} (hk : k < us.length) : ∃ A' c', StrsAt w' S (.slice A' (us.getD k default).cols.length c') (us.getD k default).cols ∧ w'.cell? ⟨g, o + k * 3, none⟩ = some (.string (us.getD k default).name) ∧ w'.cell? ⟨g, o + k * 3 + 1, none⟩ = some (.bool (us.getD k default).tab) ∧ w'.cell? ⟨g, o + k * 3 + 2, none⟩ = some (.slice A' (us.getD k default).cols.length c') := by
  have OL := h.later keepsSrc hS hb
  obtain ⟨e0, e1, e2⟩ := OL.el k hk
  have cc := OL.cells k hk
  obtain ⟨A', c', e3⟩ := e2.form
  refine ⟨A', c', by rw [← e3]; exact e2, ?_, ?_, ?_⟩
  · rw [← e0]; exact cc 0 (by omega)
  · rw [← e1]; exact cc 1 (by omega)
  · rw [← e3]; exact cc 2 (by omega)
abbrev Row (w : World) (B : Nat) (v : Value) (ns : List ByteArray) : Prop := w.ownsRow B 9 1 v ns.length (ns.map Value.string)
theorem Row.keep {w w' : World} {B : Nat} {v : Value} {ns : List ByteArray} (h : Row w B v ns) (hb : Below w.heap.size w w') : Row w' B v ns := by
  refine ⟨h.1, ?_⟩
  rcases h.2 with ⟨h1, h2⟩ | ⟨g, cap, cur, h1, hb', hg, r⟩
  · exact .inl ⟨h1, h2⟩
  · exact .inr ⟨g, cap, cur, h1, hb', (hb.block g (Array.getElem?_eq_some_iff.1 hg).1).trans hg, r⟩
theorem Row.lat {w : World} {B : Nat} {v : Value} {ns : List ByteArray} (h : Row w B v ns) (hl : ns.length ≤ 1048576) : LAt 1 EStr w (seg B w.heap.size) v ns := by
  refine ⟨by omega, ?_⟩
  rcases h.2 with ⟨rfl, h0⟩ | ⟨g, cap, cur, rfl, hb, hg, hnc, hcm, hcs, htake⟩
  · exact ⟨none, 0, by rw [h0], .inl h0⟩
  · refine ⟨_, cap, rfl, .inr ⟨g, 0, fun i _ => .string (ns.getD i default), rfl, ⟨hb, (Array.getElem?_eq_some_iff.1 hg).1⟩, hnc, fun i hi j hj => ?_, fun i hi => rfl⟩⟩
    obtain rfl : j = 0 := by omega
    have := World.ownsRow.cellAt h i (by simpa using hi)
    simp only [Nat.zero_add, Nat.mul_one, Nat.add_zero]
    rw [this]
    simp [hi]
theorem row_put {w : World} {B g cap : Nat} {ns : List ByteArray} {n : ByteArray} (h : w.ownsRow B 9 1 (.slice (some ⟨g, 0, none⟩) (ns.length + 1) cap) (ns.length + 1) (ns.map Value.string ++ [Value.string n])) : Row w B (.slice (some ⟨g, 0, none⟩) (ns.length + 1) cap) (ns ++ [n]) := by
  unfold Row
  rw [List.length_append, List.length_singleton, List.map_append]
  exact h
end Go.Proofs.Ytkohhcjpjloaaaa.QsP
