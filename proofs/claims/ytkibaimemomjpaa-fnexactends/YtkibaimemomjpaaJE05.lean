/- Plain helpers for lists in memory: a number between two, a list opened where it has elements, a world that has only drawn; Plain facts of tables: which arrival of a key counts at a time. -/
import Derived.Test.YtkibaimemomjpaaJE03
import Derived.Test.YtkibaimemomjpaaJE04
import Derived.Test.YtkibaimemomjpaaJE02
namespace Go.Proofs.Ytkibaimemomjpaa.Lp
set_option maxRecDepth 8000
open Go.RowKit
open Ls
open Recs (hsz below1 below2 chain)
set_option linter.unusedVariables false
def inR (lo x hi : Int) : Bool := decide (lo ≤ x) && decide (x ≤ hi)
theorem inR_true {lo x hi : Int} (h : inR lo x hi = true) : lo ≤ x ∧ x ≤ hi := by simpa [inR] using h
theorem drop_cons {T : Type} [Inhabited T] {l : List T} {k : Nat} (h : k < l.length) : l.drop k = l.getD k default :: l.drop (k + 1) := by
  rw [List.drop_eq_getElem_cons h]; simp [h]
/-- A list in memory, opened where it has elements. -/
structure Opn {T : Type} [Inhabited T] (nf : Nat) (E : Elt T) (w : World) (S : Nat → Prop) (A : Option Addr) (c : Nat) (us : List T) (g o : Nat) (F : Nat → Nat → Value) : Prop where
  addr : us.length = 0 ∨ (A = some ⟨g, o, none⟩ ∧ us.length ≤ c ∧ g < w.heap.size)
  cells : ∀ i, i < us.length → ∀ j, j < nf → w.cell? ⟨g, o + i * nf + j, none⟩ = some (F i j)
  el : ∀ i, i < us.length → E w S (F i) (us.getD i default)
theorem opn {T : Type} [Inhabited T] {nf : Nat} {E : Elt T} {w : World} {S : Nat → Prop} {v : Value} {us : List T} (h : LAt nf E w S v us) (hS : ∀ g, S g → g < w.heap.size) : ∃ A c g o F, v = .slice A us.length c ∧ Opn nf E w S A c us g o F ∧ us.length ≤ 9223372036854775807 := by
  obtain ⟨hn, A, c, rfl, h⟩ := h
  by_cases hz : us.length = 0
  · exact ⟨A, c, 0, 0, fun _ _ => default, rfl, ⟨.inl hz, fun i hi => absurd hi (by omega), fun i hi => absurd hi (by omega)⟩, hn⟩
  obtain ⟨g, o, F, rfl, hg, hc, hcell, hel⟩ := h.resolve_left hz
  exact ⟨_, c, g, o, F, rfl, ⟨.inr ⟨rfl, hc, hS g hg⟩, hcell, hel⟩, hn⟩
theorem Opn.later {T : Type} [Inhabited T] {nf : Nat} {E : Elt T} (hK : Keeps nf E) {w w' : World} {S : Nat → Prop} {A : Option Addr} {c : Nat} {us : List T} {g o : Nat} {F : Nat → Nat → Value} (h : Opn nf E w S A c us g o F) (hS : ∀ g, S g → g < w.heap.size) (hb : Below w.heap.size w w') : Opn nf E w' S A c us g o F := by
  refine ⟨h.addr.imp id (fun ⟨a, b, c⟩ => ⟨a, b, Nat.lt_of_lt_of_le c hb.size⟩), fun i hi j hj => ?_, fun i hi => hK _ _ _ _ _ _ (h.el i hi) (fun g hg => hb.block g (hS g hg)) (fun _ _ => rfl)⟩
  have hg : g < w.heap.size := by
    rcases h.addr with h0 | h0
    · omega
    · exact h0.2.2
  rw [hb.cell (p := ⟨g, o + i * nf + j, none⟩) hg]
  exact h.cells i hi j hj
/-- A world that has only drawn since. -/
structure Qt (a b : World) : Prop where
  heap : b.heap = a.heap
  os : b.os = a.os
  tape : b.tape = a.tape
  output : b.output = a.output
theorem Qt.refl (a : World) : Qt a a := ⟨rfl, rfl, rfl, rfl⟩
theorem Qt.drewN {a b : World} (h : Qt a b) (n : Nat) : Qt a (b.drewN n) := ⟨h.heap, h.os, h.tape, h.output⟩
theorem Qt.drew {a b : World} (h : Qt a b) : Qt a b.drew := ⟨h.heap, h.os, h.tape, h.output⟩
theorem Qt.cell {a b : World} (h : Qt a b) (p : Addr) : b.cell? p = a.cell? p := World.cell?_of_block (w := a) (a := p) (by rw [h.heap])
theorem Qt.bel {a b : World} (h : Qt a b) (B : Nat) : Below B a b := ⟨h.os, h.tape, h.output, by rw [h.heap]; exact Nat.le_refl _, fun k _ => by rw [h.heap]⟩
end Go.Proofs.Ytkibaimemomjpaa.Lp
namespace Go.Proofs.Ytkibaimemomjpaa.TbP
set_option maxRecDepth 8000
open Go.RowKit
open Ls Lp
open Recs (hsz below1 below2 chain)
set_option linter.unusedVariables false
def tells (a : Arr) (key time : Int) : Bool := (decide (0 < a.row.length) && decide (a.row.getD 0 0 = key)) && decide (a.time ≤ time)
def ari (us : List Arr) (p : Int) : Arr := us.getD p.toNat default
def plc (us : List Arr) (key time : Int) : Nat → Int
  | 0 => -1
  | k + 1 => if tells (us.getD k default) key time && (decide (plc us key time k < 0) || decide ((ari us (plc us key time k)).time ≤ (us.getD k default).time)) then (k : Int) else plc us key time k
theorem plc_le (us : List Arr) (key time : Int) (k : Nat) : -1 ≤ plc us key time k ∧ plc us key time k < k := by
  induction k with
  | zero => simp [plc]
  | succ k ih =>
    unfold plc
    split <;> omega
def latP (us : List Arr) (key time : Int) : Int := plc us key time us.length
def latOk (us : List Arr) (key time : Int) : Bool := decide (0 ≤ latP us key time) && !(ari us (latP us key time)).gone
def latest (us : List Arr) (key time : Int) : List Int := if latOk us key time then (ari us (latP us key time)).row else []
/-- The cells of one arrival of a list. -/
theorem arr_at {w w' : World} {S : Nat → Prop} {A : Option Addr} {c : Nat} {us : List Arr} {g o : Nat} {F : Nat → Nat → Value} (h : Opn 3 EArr w S A c us g o F) (hS : ∀ g, S g → g < w.heap.size) (hb : Below w.heap.size w w') {k : Nat} (hk : k < us.length) : ∃ A' c', IntsAt w' S (.slice A' (us.getD k default).row.length c') (us.getD k default).row ∧ w'.cell? ⟨g, o + k * 3, none⟩ = some (.int .i64 (us.getD k default).time) ∧ w'.cell? ⟨g, o + k * 3 + 1, none⟩ = some (.slice A' (us.getD k default).row.length c') ∧ w'.cell? ⟨g, o + k * 3 + 2, none⟩ = some (.bool (us.getD k default).gone) := by
  have OL := h.later keepsArr hS hb
  obtain ⟨e0, e1, e2⟩ := OL.el k hk
  have cc := OL.cells k hk
  obtain ⟨A', c', e3⟩ := e1.form
  refine ⟨A', c', by rw [← e3]; exact e1, ?_, ?_, ?_⟩
  · rw [← e0]; exact cc 0 (by omega)
  · rw [← e3]; exact cc 1 (by omega)
  · rw [← e2]; exact cc 2 (by omega)
abbrev avl (a : Arr) (A : Option Addr) (c : Nat) : Array Value := #[.int .i64 a.time, .slice A a.row.length c, .bool a.gone]
theorem arrB {w : World} {g ty : Nat} {a b c : Value} (h : w.heap[g]? = some (.cells #[a, b, c] ty (0, 0))) : w.cell? ⟨g, 0, none⟩ = some a ∧ w.cell? ⟨g, 1, none⟩ = some b ∧ w.cell? ⟨g, 2, none⟩ = some c :=
  ⟨cell_of_row w g 0 _ _ (0, 0) h, cell_of_row w g 1 _ _ (0, 0) h, cell_of_row w g 2 _ _ (0, 0) h⟩
theorem ints_cell {w : World} {S : Nat → Prop} {A : Option Addr} {c : Nat} {us : List Int} {g o : Nat} {F : Nat → Nat → Value} (h : Opn 1 EI w S A c us g o F) {k : Nat} (hk : k < us.length) : w.cell? ⟨g, o + k, none⟩ = some (.int .i64 (us.getD k default)) := by
  have cc := h.cells k hk 0 (by omega)
  have e : F k 0 = .int .i64 (us.getD k default) := h.el k hk
  rw [e] at cc
  simpa using cc
theorem sz_rows {us : List Arr} (h : szL szArr us ≤ 1048576) : us.length ≤ 1048576 := szL_len _ h
theorem sz_row {us : List Arr} (h : szL szArr us ≤ 1048576) {k : Nat} (hk : k < us.length) : (us.getD k default).row.length ≤ 1048576 := szL_one szArr h hk
theorem tells_no {us : List Arr} {key time : Int} {k : Nat} (h : tells (us.getD k default) key time = false) : plc us key time (k + 1) = plc us key time k := by
  rw [plc, h, if_neg (by simp)]
theorem tells_new {us : List Arr} {key time : Int} {k : Nat} (h : tells (us.getD k default) key time = true) (h' : plc us key time k < 0 ∨ (ari us (plc us key time k)).time ≤ (us.getD k default).time) : plc us key time (k + 1) = k := by
  rw [plc, h, if_pos (by simpa using h')]
theorem tells_old {us : List Arr} {key time : Int} {k : Nat} (h' : ¬ plc us key time k < 0) (h'' : ¬ (ari us (plc us key time k)).time ≤ (us.getD k default).time) : plc us key time (k + 1) = plc us key time k := by
  rw [plc, decide_eq_false h', decide_eq_false h'', if_neg (by simp)]
end Go.Proofs.Ytkibaimemomjpaa.TbP
