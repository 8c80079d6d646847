/- Lists of Arrival: what the law's helpers answer; Plain facts of tables: which arrival of a key counts at a time. -/
import Derived.Test.YtkohhcjpjloaaaaJW27
import Derived.Test.YtkohhcjpjloaaaaJW05
import Derived.Test.YtkohhcjpjloaaaaJW03
namespace Go.Proofs.Ytkohhcjpjloaaaa.Ls
set_option maxRecDepth 8000
open Go.RowKit
open Recs
set_option linter.unusedVariables false
end Go.Proofs.Ytkohhcjpjloaaaa.Ls
namespace Go.Proofs.Ytkohhcjpjloaaaa.TbP
set_option maxRecDepth 8000
open Go.RowKit
open Ls Lp
open Recs (hsz below1 below2 chain)
set_option linter.unusedVariables false
def tells (a : Arr) (key time : Int) : Bool := (decide (0 < a.row.length) && decide (a.row.getD 0 0 = key)) && decide (a.time ≤ time)
def ari (us : List Arr) (p : Int) : Arr := us.getD p.toNat default
def plc (us : List Arr) (key time : Int) : Nat → Int
  | 0 => -1
  | k + 1 => if tells (us.getD k default) key time && (decide (plc us key time k < 0) || decide ((ari us (plc us key time k)).time ≤ (us.getD k default).time)) then (k : Int) else plc us key time k
theorem plc_le (us : List Arr) (key time : Int) (k : Nat) : -1 ≤ plc us key time k ∧ plc us key time k < k := by
  induction k with
  | zero => simp [plc]
  | succ k ih =>
    unfold plc
    split <;> omega
def latP (us : List Arr) (key time : Int) : Int := plc us key time us.length
def latOk (us : List Arr) (key time : Int) : Bool := decide (0 ≤ latP us key time) && !(ari us (latP us key time)).gone
def latest (us : List Arr) (key time : Int) : List Int := if latOk us key time then (ari us (latP us key time)).row else []
/-- The cells of one arrival of a list. -/
theorem arr_at {w w' : World} {S : Nat → Prop} {A : Option Addr} {c : Nat} {us : List Arr} {g o : Nat} {F : Nat → Nat → Value} (h : Opn 3 EArr w S A c us g o F) (hS : ∀ g, S g → g < w.heap.size) (hb : Below w.heap.size w w') {k : Nat} (hk : k < us.length) : ∃ A' c', IntsAt w' S (.slice A' (us.getD k default).row.length c') (us.getD k default).row ∧ w'.cell? ⟨g, o + k * 3, none⟩ = some (.int .i64 (us.getD k default).time) ∧ w'.cell? ⟨g, o + k * 3 + 1, none⟩ = some (.slice A' (us.getD k default).row.length c') ∧ w'.cell? ⟨g, o + k * 3 + 2, none⟩ = some (.bool (us.getD k default).gone) := by
  have OL := h.later keepsArr hS hb
  obtain ⟨e0, e1, e2⟩ := OL.el k hk
  have cc := OL.cells k hk
  obtain ⟨A', c', e3⟩ := e1.form
  refine ⟨A', c', by rw [← e3]; exact e1, ?_, ?_, ?_⟩
  · rw [← e0]; exact cc 0 (by omega)
  · rw [← e3]; exact cc 1 (by omega)
  · rw [← e2]; exact cc 2 (by omega)
abbrev avl (a : Arr) (A : Option Addr) (c : Nat) : Array Value := #[.int .i64 a.time, .slice A a.row.length c, .bool a.gone]
theorem arrB {w : World} {g ty : Nat} {a b c : Value} (h : w.heap[g]? = some (.cells #[a, b, c] ty (0, 0))) : w.cell? ⟨g, 0, none⟩ = some a ∧ w.cell? ⟨g, 1, none⟩ = some b ∧ w.cell? ⟨g, 2, none⟩ = some c :=
  ⟨cell_of_row w g 0 _ _ (0, 0) h, cell_of_row w g 1 _ _ (0, 0) h, cell_of_row w g 2 _ _ (0, 0) h⟩
theorem ints_cell {w : World} {S : Nat → Prop} {A : Option Addr} {c : Nat} {us : List Int} {g o : Nat} {F : Nat → Nat → Value} (h : Opn 1 EI w S A c us g o F) {k : Nat} (hk : k < us.length) : w.cell? ⟨g, o + k, none⟩ = some (.int .i64 (us.getD k default)) := by
  have cc := h.cells k hk 0 (by omega)
  have e : F k 0 = .int .i64 (us.getD k default) := h.el k hk
  rw [e] at cc
  simpa using cc
theorem sz_rows {us : List Arr} (h : szL szArr us ≤ 1048576) : us.length ≤ 1048576 := szL_len _ h
theorem sz_row {us : List Arr} (h : szL szArr us ≤ 1048576) {k : Nat} (hk : k < us.length) : (us.getD k default).row.length ≤ 1048576 := szL_one szArr h hk
theorem tells_no {us : List Arr} {key time : Int} {k : Nat} (h : tells (us.getD k default) key time = false) : plc us key time (k + 1) = plc us key time k := by
  rw [plc, h, if_neg (by simp)]
theorem tells_new {us : List Arr} {key time : Int} {k : Nat} (h : tells (us.getD k default) key time = true) (h' : plc us key time k < 0 ∨ (ari us (plc us key time k)).time ≤ (us.getD k default).time) : plc us key time (k + 1) = k := by
  rw [plc, h, if_pos (by simpa using h')]
theorem tells_old {us : List Arr} {key time : Int} {k : Nat} (h' : ¬ plc us key time k < 0) (h'' : ¬ (ari us (plc us key time k)).time ≤ (us.getD k default).time) : plc us key time (k + 1) = plc us key time k := by
  rw [plc, decide_eq_false h', decide_eq_false h'', if_neg (by simp)]
end Go.Proofs.Ytkohhcjpjloaaaa.TbP
