/- NewPart: on plain data; a Part's three lists that grow in one variable. -/
import Derived.Test.YtafgakddhoabjaaOPrt
import Derived.Test.YtafgakddhoabjaaRw
import Derived.Test.YtafgakddhoabjaaNewL
import Derived.Deep.AppendLies
namespace Go.Proofs.Ytafgakddhoabjaa.NpP
set_option maxRecDepth 8000
open Go.RowKit
open Ls Ow
open Recs (hsz below1 below2 chain)
set_option linter.unusedVariables false
def inR (lo x hi : Int) : Bool := decide (lo ≤ x) && decide (x ≤ hi)
def nr (roll : Int) : Rpl := ⟨0, 0, roll, [], 0, true⟩
def numL (k : Nat) : List Int := (List.range k).map fun (i : Nat) => (i : Int)
def zerL (k : Nat) : List Int := List.replicate k 0
def good (r l roll : Int) : Bool := inR 1 r 5 && (inR 1 l r && inR 1 roll 20000)
def newP (r l roll : Int) : Prt := if good r l roll = true then ⟨List.replicate r.toNat (nr roll), 0, 1, numL r.toNat, zerL r.toNat, l⟩ else ⟨[], 0, 0, [], [], 0⟩
def pr (roll : Int) : Array Value := #[.int .i64 0, .int .i64 0, .int .i64 roll, .slice none 0 0, .int .i64 0, .bool true]
def pf (roll : Int) (q : Nat) : Value := (pr roll).toList.getD (q % 6) default
def repR (roll : Int) (k : Nat) : List Value := (List.range (k * 6)).map (pf roll)
theorem repR_len (roll : Int) (k : Nat) : (repR roll k).length = k * 6 := by simp [repR]
theorem pf_at (roll : Int) (i q : Nat) (hq : q < 6) : pf roll (i * 6 + q) = (pr roll).toList.getD q default := by
  unfold pf
  rw [show (i * 6 + q) % 6 = q by omega]
theorem repR_succ (roll : Int) (k : Nat) : repR roll (k + 1) = repR roll k ++ (pr roll).toList := by
  apply List.ext_getElem?
  intro j
  by_cases h1 : j < k * 6
  · rw [List.getElem?_append_left (by rw [repR_len]; exact h1)]
    simp [repR, h1, show j < (k + 1) * 6 by omega]
  · rw [List.getElem?_append_right (by rw [repR_len]; omega), repR_len]
    by_cases h2 : j < (k + 1) * 6
    · obtain ⟨q, rfl⟩ : ∃ q, j = k * 6 + q := ⟨j - k * 6, by omega⟩
      have hq : q < 6 := by omega
      rw [Nat.add_sub_cancel_left]
      have : (repR roll (k + 1))[k * 6 + q]? = some (pf roll (k * 6 + q)) := by simp [repR, h2]
      rw [this, pf_at roll k q hq]
      have hl : q < (pr roll).toList.length := hq
      rw [List.getD_eq_getElem?_getD, List.getElem?_eq_getElem hl]; rfl
    · rw [List.getElem?_eq_none (by rw [repR_len]; omega), List.getElem?_eq_none (by show 6 ≤ _; omega)]
theorem numL_succ (k : Nat) : (numL (k + 1)).map (Value.int .i64) = (numL k).map (Value.int .i64) ++ [Value.int .i64 (k : Int)] := by simp [numL, List.range_succ]
theorem zerL_succ (k : Nat) : (zerL (k + 1)).map (Value.int .i64) = (zerL k).map (Value.int .i64) ++ [Value.int .i64 0] := by simp [zerL, List.replicate_succ']
theorem numL_len (k : Nat) : (numL k).length = k := by simp [numL]
theorem zerL_len (k : Nat) : (zerL k).length = k := by simp [zerL]
theorem eo (w : World) (S : Nat → Prop) (roll : Int) (i : Nat) : EORpl w S (fun q => pf roll (i * 6 + q)) (nr roll) := by
  refine ⟨⟨?_, ?_, ?_, ?_, ?_⟩, fun _ _ => False, fun _ _ h => h.elim, fun _ _ _ _ h => h.elim, ?_⟩
  · exact pf_at roll i 0 (by omega)
  · exact pf_at roll i 1 (by omega)
  · exact pf_at roll i 2 (by omega)
  · exact pf_at roll i 4 (by omega)
  · exact pf_at roll i 5 (by omega)
  · show SgsOwn _ _ (pf roll (i * 6 + 3)) _; rw [pf_at roll i 3 (by omega)]; exact LOwn.nil _ _ _ _
theorem reps_own {w : World} {B k : Nat} {v : Value} {roll : Int} (h : w.ownsRow B 35 6 v k (repR roll k)) (hk : k ≤ 5) : RplsOwn w (fun y => v.ownBlock = some y) v (List.replicate k (nr roll)) := by
  refine ⟨by simp; omega, ?_⟩
  rcases h.2 with ⟨rfl, rfl⟩ | ⟨g, cap, cur, rfl, hb, hg, hnc, hcm, hcs, htake⟩
  · exact ⟨none, 0, rfl, .inl rfl⟩
  · refine ⟨_, cap, by simp, .inr ⟨g, pf roll, fun _ _ => False, rfl, rfl, fun _ _ _ h => h.elim, ?_⟩⟩
    rw [List.length_replicate]
    refine ⟨⟨h.1, .inr ⟨g, cap, cur, rfl, Nat.le_refl _, hg, hnc, hcm, hcs, htake⟩⟩, by simp, fun i hi => ?_, fun _ _ _ h => h.elim, fun _ _ _ _ _ _ h => h.elim⟩
    have : (List.replicate k (nr roll)).getD i default = nr roll := by simp [hi]
    rw [this]
    exact eo w _ roll i
/-- The entries of the three rows. -/
def ents (roll : Int) (kR kI kK : Nat) (vR vI vK : Value) : List Ent := [⟨35, 6, vR, kR, repR roll kR⟩, ⟨3, 1, vI, kI, (numL kI).map (Value.int .i64)⟩, ⟨3, 1, vK, kK, (zerL kK).map (Value.int .i64)⟩]
/-- What the loop keeps. -/
structure Sp (w wr : World) (B pq : Nat) (least roll : Int) (fr : Nat → Option Obj) (kR kI kK : Nat) (vR vI vK : Value) : Prop where
  rows : Rws B wr (ents roll kR kI kK vR vI vK)
  row : wr.heap[pq]? = some (.cells #[vR, .int .i64 0, .int .i64 1, vI, vK, .int .i64 least] 25 (0, 0))
  front : ∀ x, x < B → x ≠ pq → wr.heap[x]? = fr x
  bel : Below w.heap.size w wr
  size : B ≤ wr.heap.size
  pq1 : w.heap.size ≤ pq
  pq2 : pq < B
section
variable {w wr : World} {B pq kR kI kK : Nat} {least roll : Int} {fr : Nat → Option Obj} {vR vI vK : Value}
theorem Sp.cells (h : Sp w wr B pq least roll fr kR kI kK vR vI vK) : wr.cell? ⟨pq, 0, none⟩ = some vR ∧ wr.cell? ⟨pq, 3, none⟩ = some vI ∧ wr.cell? ⟨pq, 4, none⟩ = some vK :=
  ⟨cell_of_row wr _ 0 _ _ (0, 0) h.row, cell_of_row wr _ 3 _ _ (0, 0) h.row, cell_of_row wr _ 4 _ _ (0, 0) h.row⟩
theorem Sp.next {w' : World} (h : Sp w wr B pq least roll fr kR kI kK vR vI vK) (b : Below wr.heap.size wr w') : Sp w w' B pq least roll fr kR kI kK vR vI vK :=
  ⟨h.rows.keep (fun x _ hx => b.block x hx), (b.block pq (Array.getElem?_eq_some_iff.1 h.row).1).trans h.row, fun x hx hn => (b.block x (Nat.lt_of_lt_of_le hx h.size)).trans (h.front x hx hn), chain h.bel b, Nat.le_trans h.size b.size, h.pq1, h.pq2⟩
theorem Sp.own0 (h : Sp w wr B pq least roll fr kR kI kK vR vI vK) : wr.ownsRow B 35 6 vR kR (repR roll kR) := h.rows.own 0 (by simp [ents])
theorem Sp.own1 (h : Sp w wr B pq least roll fr kR kI kK vR vI vK) : wr.ownsRow B 3 1 vI kI ((numL kI).map (Value.int .i64)) := h.rows.own 1 (by simp [ents])
theorem Sp.own2 (h : Sp w wr B pq least roll fr kR kI kK vR vI vK) : wr.ownsRow B 3 1 vK kK ((zerL kK).map (Value.int .i64)) := h.rows.own 2 (by simp [ents])
theorem Sp.push0 {w8 w9 : World} {g cap H : Nat} (h : Sp w wr B pq least roll fr kR kI kK vR vI vK) (b8 : Below wr.heap.size wr w8) (hown : w9.ownsRow B 35 6 (.slice (some ⟨g, 0, none⟩) (kR + 1) cap) (kR + 1) (repR roll kR ++ (pr roll).toList)) (gr : w8.grownBy w9 vR.ownBlock) (hat : vR.ownBlock = some g ∨ g = H) (hH : wr.heap.size ≤ H) :
    (w9.cell? ⟨pq, 0, none⟩ = some vR ∧ w9.frozen? ⟨pq, 0, none⟩ = false) ∧ Sp w (w9.setCell ⟨pq, 0, none⟩ (.slice (some ⟨g, 0, none⟩) (kR + 1) cap)) B pq least roll fr (kR + 1) kI kK (.slice (some ⟨g, 0, none⟩) (kR + 1) cap) vI vK := by
  have hvb : ∀ x, vR.ownBlock = some x → B ≤ x ∧ x < wr.heap.size := fun x hx => World.ownsRow.lt h.own0 x hx
  have s8 := b8.size
  have s9 := gr.size
  have hz := h.size
  have hp := h.pq2
  have keep : ∀ x, x < B → w9.heap[x]? = wr.heap[x]? := fun x hx => (gr.block x (by omega) (fun e => by have := hvb x e.symm; omega)).trans (b8.block x (by omega))
  have k1 := (keep pq hp).trans h.row
  have R := Rws.push (i := 0) (e := ⟨35, 6, (.slice (some ⟨g, 0, none⟩) (kR + 1) cap), kR + 1, repR roll kR ++ (pr roll).toList⟩) h.rows (by simp [ents]) (fun x hx => b8.block x hx) s8 gr hown rfl hat hH
  have hgb := World.ownsRow.lt hown g rfl
  refine ⟨⟨cell_of_row w9 _ 0 _ _ (0, 0) k1, frozen_of_row w9 _ 0 _ _ k1⟩, ?_, heap_setCell_same w9 pq 0 _ _ _ k1, fun x hx hn => (heap_setCell_other _ _ _ _ hn).trans ((keep x hx).trans (h.front x hx hn)), ?_, by simp; omega, h.pq1, hp⟩
  · have R2 : Rws B w9 (ents roll (kR + 1) kI kK (.slice (some ⟨g, 0, none⟩) (kR + 1) cap) vI vK) := by
      unfold ents at R ⊢
      rw [repR_succ]
      exact R
    exact R2.keep (fun x hx _ => heap_setCell_other _ _ _ _ (by show x ≠ pq; omega))
  · refine Below.setCell (p := ⟨pq, 0, none⟩) ?_ h.pq1 _
    have := h.bel.size
    have := h.pq1
    exact ⟨gr.os.trans (b8.os.trans h.bel.os), gr.tape.trans (b8.tape.trans h.bel.tape), gr.output.trans (b8.output.trans h.bel.output), by omega, fun x hx => (keep x (by omega)).trans (h.bel.block x hx)⟩
theorem Sp.push1 {w8 w9 : World} {g cap H : Nat} (h : Sp w wr B pq least roll fr kR kI kK vR vI vK) (b8 : Below wr.heap.size wr w8) (hown : w9.ownsRow B 3 1 (.slice (some ⟨g, 0, none⟩) (kI + 1) cap) (kI + 1) ((numL kI).map (Value.int .i64) ++ [Value.int .i64 (kI : Int)])) (gr : w8.grownBy w9 vI.ownBlock) (hat : vI.ownBlock = some g ∨ g = H) (hH : wr.heap.size ≤ H) :
    (w9.cell? ⟨pq, 3, none⟩ = some vI ∧ w9.frozen? ⟨pq, 3, none⟩ = false) ∧ Sp w (w9.setCell ⟨pq, 3, none⟩ (.slice (some ⟨g, 0, none⟩) (kI + 1) cap)) B pq least roll fr kR (kI + 1) kK vR (.slice (some ⟨g, 0, none⟩) (kI + 1) cap) vK := by
  have hvb : ∀ x, vI.ownBlock = some x → B ≤ x ∧ x < wr.heap.size := fun x hx => World.ownsRow.lt h.own1 x hx
  have s8 := b8.size
  have s9 := gr.size
  have hz := h.size
  have hp := h.pq2
  have keep : ∀ x, x < B → w9.heap[x]? = wr.heap[x]? := fun x hx => (gr.block x (by omega) (fun e => by have := hvb x e.symm; omega)).trans (b8.block x (by omega))
  have k1 := (keep pq hp).trans h.row
  have R := Rws.push (i := 1) (e := ⟨3, 1, (.slice (some ⟨g, 0, none⟩) (kI + 1) cap), kI + 1, (numL kI).map (Value.int .i64) ++ [Value.int .i64 (kI : Int)]⟩) h.rows (by simp [ents]) (fun x hx => b8.block x hx) s8 gr hown rfl hat hH
  have hgb := World.ownsRow.lt hown g rfl
  refine ⟨⟨cell_of_row w9 _ 3 _ _ (0, 0) k1, frozen_of_row w9 _ 3 _ _ k1⟩, ?_, heap_setCell_same w9 pq 3 _ _ _ k1, fun x hx hn => (heap_setCell_other _ _ _ _ hn).trans ((keep x hx).trans (h.front x hx hn)), ?_, by simp; omega, h.pq1, hp⟩
  · have R2 : Rws B w9 (ents roll kR (kI + 1) kK vR (.slice (some ⟨g, 0, none⟩) (kI + 1) cap) vK) := by
      unfold ents at R ⊢
      rw [numL_succ]
      exact R
    exact R2.keep (fun x hx _ => heap_setCell_other _ _ _ _ (by show x ≠ pq; omega))
  · refine Below.setCell (p := ⟨pq, 3, none⟩) ?_ h.pq1 _
    have := h.bel.size
    have := h.pq1
    exact ⟨gr.os.trans (b8.os.trans h.bel.os), gr.tape.trans (b8.tape.trans h.bel.tape), gr.output.trans (b8.output.trans h.bel.output), by omega, fun x hx => (keep x (by omega)).trans (h.bel.block x hx)⟩
theorem Sp.push2 {w8 w9 : World} {g cap H : Nat} (h : Sp w wr B pq least roll fr kR kI kK vR vI vK) (b8 : Below wr.heap.size wr w8) (hown : w9.ownsRow B 3 1 (.slice (some ⟨g, 0, none⟩) (kK + 1) cap) (kK + 1) ((zerL kK).map (Value.int .i64) ++ [Value.int .i64 0])) (gr : w8.grownBy w9 vK.ownBlock) (hat : vK.ownBlock = some g ∨ g = H) (hH : wr.heap.size ≤ H) :
    (w9.cell? ⟨pq, 4, none⟩ = some vK ∧ w9.frozen? ⟨pq, 4, none⟩ = false) ∧ Sp w (w9.setCell ⟨pq, 4, none⟩ (.slice (some ⟨g, 0, none⟩) (kK + 1) cap)) B pq least roll fr kR kI (kK + 1) vR vI (.slice (some ⟨g, 0, none⟩) (kK + 1) cap) := by
  have hvb : ∀ x, vK.ownBlock = some x → B ≤ x ∧ x < wr.heap.size := fun x hx => World.ownsRow.lt h.own2 x hx
  have s8 := b8.size
  have s9 := gr.size
  have hz := h.size
  have hp := h.pq2
  have keep : ∀ x, x < B → w9.heap[x]? = wr.heap[x]? := fun x hx => (gr.block x (by omega) (fun e => by have := hvb x e.symm; omega)).trans (b8.block x (by omega))
  have k1 := (keep pq hp).trans h.row
  have R := Rws.push (i := 2) (e := ⟨3, 1, (.slice (some ⟨g, 0, none⟩) (kK + 1) cap), kK + 1, (zerL kK).map (Value.int .i64) ++ [Value.int .i64 0]⟩) h.rows (by simp [ents]) (fun x hx => b8.block x hx) s8 gr hown rfl hat hH
  have hgb := World.ownsRow.lt hown g rfl
  refine ⟨⟨cell_of_row w9 _ 4 _ _ (0, 0) k1, frozen_of_row w9 _ 4 _ _ k1⟩, ?_, heap_setCell_same w9 pq 4 _ _ _ k1, fun x hx hn => (heap_setCell_other _ _ _ _ hn).trans ((keep x hx).trans (h.front x hx hn)), ?_, by simp; omega, h.pq1, hp⟩
  · have R2 : Rws B w9 (ents roll kR kI (kK + 1) vR vI (.slice (some ⟨g, 0, none⟩) (kK + 1) cap)) := by
      unfold ents at R ⊢
      rw [zerL_succ]
      exact R
    exact R2.keep (fun x hx _ => heap_setCell_other _ _ _ _ (by show x ≠ pq; omega))
  · refine Below.setCell (p := ⟨pq, 4, none⟩) ?_ h.pq1 _
    have := h.bel.size
    have := h.pq1
    exact ⟨gr.os.trans (b8.os.trans h.bel.os), gr.tape.trans (b8.tape.trans h.bel.tape), gr.output.trans (b8.output.trans h.bel.output), by omega, fun x hx => (keep x (by omega)).trans (h.bel.block x hx)⟩
end
/-- What a Part's value is made of. -/
theorem prt_own {w wr : World} {B pq k : Nat} {least roll : Int} {fr : Nat → Option Obj} {vR vI vK : Value} (S : Nat → Prop) (h : Sp w wr B pq least roll fr k k k vR vI vK) (hk : k ≤ 5) (hS : ∀ y, B ≤ y → y < wr.heap.size → S y) :
    PrtOwn wr S (.agg #[vR, .int .i64 0, .int .i64 1, vI, vK, .int .i64 least]) ⟨List.replicate k (nr roll), 0, 1, numL k, zerL k, least⟩ := by
  refine ⟨fun q => if q = 0 then vR else if q = 1 then .int .i64 0 else if q = 2 then .int .i64 1 else if q = 3 then vI else if q = 4 then vK else .int .i64 least, rfl, ⟨rfl, rfl, rfl⟩, fun i y => (i = 0 ∧ vR.ownBlock = some y) ∨ (i = 3 ∧ vI.ownBlock = some y) ∨ (i = 4 ∧ vK.ownBlock = some y), fun i y hy => ?_, fun i j hij y hi hj => ?_, ?_, ?_, ?_⟩
  · rcases hy with ⟨_, hy⟩ | ⟨_, hy⟩ | ⟨_, hy⟩
    · exact hS y (World.ownsRow.lt h.own0 y hy).1 (World.ownsRow.lt h.own0 y hy).2
    · exact hS y (World.ownsRow.lt h.own1 y hy).1 (World.ownsRow.lt h.own1 y hy).2
    · exact hS y (World.ownsRow.lt h.own2 y hy).1 (World.ownsRow.lt h.own2 y hy).2
  · have a01 := h.rows.apart 0 1 (by simp [ents]) (by simp [ents]) (by omega) y
    have a02 := h.rows.apart 0 2 (by simp [ents]) (by simp [ents]) (by omega) y
    have a12 := h.rows.apart 1 2 (by simp [ents]) (by simp [ents]) (by omega) y
    rcases hi with ⟨i1, hy⟩ | ⟨i1, hy⟩ | ⟨i1, hy⟩ <;> rcases hj with ⟨j1, hz⟩ | ⟨j1, hz⟩ | ⟨j1, hz⟩
    · omega
    · exact a01 hy hz
    · exact a02 hy hz
    · exact a01 hz hy
    · omega
    · exact a12 hy hz
    · exact a02 hz hy
    · exact a12 hz hy
    · omega
  · exact (reps_own h.own0 hk).mono (fun y hy => .inl ⟨rfl, hy⟩)
  · exact (ints_own h.own1 (by rw [numL_len]; omega)).mono (fun y hy => .inr (.inl ⟨rfl, hy⟩))
  · exact (ints_own h.own2 (by rw [zerL_len]; omega)).mono (fun y hy => .inr (.inr ⟨rfl, hy⟩))
theorem prt_nil (w : World) (S : Nat → Prop) : PrtOwn w S (.agg #[.slice none 0 0, .int .i64 0, .int .i64 0, .slice none 0 0, .slice none 0 0, .int .i64 0]) ⟨[], 0, 0, [], [], 0⟩ :=
  ⟨fun q => if q = 0 then .slice none 0 0 else if q = 1 then .int .i64 0 else if q = 2 then .int .i64 0 else if q = 3 then .slice none 0 0 else if q = 4 then .slice none 0 0 else .int .i64 0, rfl, ⟨rfl, rfl, rfl⟩, fun _ _ => False, fun _ _ h => h.elim, fun _ _ _ _ h => h.elim, LOwn.nil _ _ _ _, LOwn.nil _ _ _ _, LOwn.nil _ _ _ _⟩
theorem newP_no {r l roll : Int} (h : good r l roll = false) : newP r l roll = ⟨[], 0, 0, [], [], 0⟩ := by simp [newP, h]
theorem newP_yes {r l roll : Int} (h : good r l roll = true) : newP r l roll = ⟨List.replicate r.toNat (nr roll), 0, 1, numL r.toNat, zerL r.toNat, l⟩ := by simp [newP, h]
end Go.Proofs.Ytafgakddhoabjaa.NpP
