/- The beginning of a list of the call's own; A variable of struct type with a list in it that grows by append, and what lies beside it. -/
import Derived.Test.YtlpckaflogikpaaJT14
import Derived.Test.YtlpckaflogikpaaJT15
namespace Go.Proofs.Ytlpckaflogikpaa.Ft
set_option maxRecDepth 8000
open Go.RowKit
open Recs
open ToO (MineC)
set_option linter.unusedVariables false
theorem mine_take {w : World} {ty nf g n c k : Nat} {F : Nat → Value} (h : MineC w ty nf g n c F) (hk : k ≤ n) : MineC w ty nf g k c F := by
  refine ⟨by simp, ?_⟩
  rcases h.2 with ⟨h', _⟩ | ⟨g', cap', cur, h', hb, hg, hnc, hcm, hcs, htake⟩
  · simp at h'
  · simp only [Value.slice.injEq, Option.some.injEq, Addr.mk.injEq, and_true, true_and] at h'
    obtain ⟨rfl, rfl⟩ := h'
    have hkn : k * nf ≤ n * nf := Nat.mul_le_mul_right nf hk
    refine .inr ⟨g, c, cur, rfl, hb, hg, by omega, hcm, hcs, ?_⟩
    have : cur.toList.take (k * nf) = (cur.toList.take (n * nf)).take (k * nf) := by rw [List.take_take, Nat.min_eq_left hkn]
    rw [this, htake, ← List.map_take, List.take_range, Nat.min_eq_left hkn]
theorem LOwn.take {T : Type} [Inhabited T] {ty nf : Nat} {EO : World → (Nat → Prop) → (Nat → Value) → T → Prop} {w : World} {S : Nat → Prop} {A : Option Addr} {c k : Nat} {us : List T} (h : LOwn ty nf EO w S (.slice A us.length c) us) (hk : k ≤ us.length) : LOwn ty nf EO w S (.slice A k c) (us.take k) := by
  obtain ⟨h0, A', c', h1, h2⟩ := h
  simp only [Value.slice.injEq] at h1
  obtain ⟨rfl, _, rfl⟩ := h1
  have hl : (us.take k).length = k := by rw [List.length_take]; omega
  refine ⟨by rw [hl]; omega, A, c, by rw [hl], ?_⟩
  rw [hl]
  by_cases hz : k = 0
  · exact .inl hz
  obtain ⟨g, F, P, h3, h4, h5, h6⟩ := h2.resolve_left (by omega)
  refine .inr ⟨g, F, P, h3, h4, fun i hi => h5 i (by omega), mine_take h6.mine hk, hl, fun i hi => ?_, fun i hi => h6.apart i (by omega), fun i j hi hj => h6.disj i j (by omega) (by omega)⟩
  rw [List.getD_eq_getElem?_getD, List.getElem?_take_of_lt hi, ← List.getD_eq_getElem?_getD]
  exact h6.el i (by omega)
end Go.Proofs.Ytlpckaflogikpaa.Ft
namespace Go.Proofs.Ytlpckaflogikpaa.Ft
set_option maxRecDepth 8000
open Go.RowKit
open Recs
set_option linter.unusedVariables false
section
variable {T : Type} [Inhabited T] {ty nf : Nat} {EO : World → (Nat → Prop) → (Nat → Value) → T → Prop}
/-- Blocks w.heap.size .. are the call's variables, m of them; q: the one with the list, in its cell p; 'fr': what the others hold. -/
structure GV (ty nf : Nat) (EO : World → (Nat → Prop) → (Nat → Value) → T → Prop) (w wr : World) (m q tyO : Nat) (row : Value → Array Value) (fr : Nat → Option Obj) (v : Value) (us : List T) : Prop where
  grow : LGrow ty nf EO wr (w.heap.size + m) v us
  out : wr.heap[q]? = some (.cells (row v) tyO (0, 0))
  front : ∀ x, w.heap.size ≤ x → x < w.heap.size + m → x ≠ q → wr.heap[x]? = fr x
  bel : Below w.heap.size w wr
  size : w.heap.size + m ≤ wr.heap.size
/-- Later, where no variable was written. -/
theorem GV.later (hE : Keeps nf EO) {w wr w' : World} {m q tyO : Nat} {row : Value → Array Value} {fr : Nat → Option Obj} {v : Value} {us : List T} (h : GV ty nf EO w wr m q tyO row fr v us) (hq : q < w.heap.size + m) (b : Below wr.heap.size wr w') : GV ty nf EO w w' m q tyO row fr v us := by
  have hs := h.size
  exact ⟨h.grow.below hE b, (b.block q (by omega)).trans h.out, fun x h1 h2 h3 => (b.block x (by omega)).trans (h.front x h1 h2 h3), chain h.bel b, Nat.le_trans hs b.size⟩
/-- One element more: w8: ahead of the element's own block o; w9: behind append. -/
theorem GV.push (hE : Keeps nf EO) {w wr w8 w9 : World} {m q p tyO : Nat} {row : Value → Array Value} {fr : Nat → Option Obj} {v : Value} {us : List T} {F : Nat → Value} {P : Nat → Nat → Prop} {t : T} {Q : Nat → Prop} {news : List Value} {o : Obj} {g cap : Nat} (h : GV ty nf EO w wr m q tyO row fr v us) (hq1 : w.heap.size ≤ q) (hq2 : q < w.heap.size + m)
    (hcell : (row v)[p]? = some v) (hrow : ∀ v', (row v).setIfInBounds p v' = row v') (hG : LGr ty nf EO wr (w.heap.size + m) v us F P) (b8 : Below wr.heap.size wr w8) (he : EO (w8.alloc o) Q (fun q => news.getD q default) t) (hQ : ∀ x, Q x → wr.heap.size ≤ x ∧ x < w8.heap.size) (hl : news.length = nf)
    (hown : w9.ownsRow (w.heap.size + m) ty nf (.slice (some ⟨g, 0, none⟩) (us.length + 1) cap) (us.length + 1) ((List.range (us.length * nf)).map F ++ news)) (gr : (w8.alloc o).grownBy w9 v.ownBlock) (hg : v.ownBlock = some g ∨ g = w8.heap.size + 1) :
    GV ty nf EO w (w9.setCell ⟨q, p, none⟩ (.slice (some ⟨g, 0, none⟩) (us.length + 1) cap)) m q tyO row fr (.slice (some ⟨g, 0, none⟩) (us.length + 1) cap) (us ++ [t]) ∧ w9.cell? ⟨q, p, none⟩ = some v ∧ w9.frozen? ⟨q, p, none⟩ = false := by
  have s8 := b8.size
  have hz := h.size
  have gs := gr.size
  rw [hsz] at gs
  have hvb : ∀ x, v.ownBlock = some x → w.heap.size + m ≤ x ∧ x < wr.heap.size := fun x hx => World.ownsRow.lt hG.own x hx
  have k9 : ∀ x, x < w.heap.size + m → w9.heap[x]? = wr.heap[x]? := fun x hx => by
    rw [gr.block x (by rw [hsz]; omega) (fun e => by have := hvb x e.symm; omega), heap_alloc_old _ _ (by omega), b8.block x (by omega)]
  have O9 := (k9 q hq2).trans h.out
  have D9 := LGr.push hE (w2 := w8.alloc o) (w3 := w9) (g := g) (cap := cap) (Q := Q) (t := t) (news := news) hG h.size (by rw [hsz]; omega) (fun x _ hx => by rw [heap_alloc_old _ _ (by omega), b8.block x hx]) he (fun x hx => by rw [hsz]; obtain ⟨x1, x2⟩ := hQ x hx; exact ⟨x1, by omega⟩) hl hown gr (by rw [hsz]; exact hg)
  have B9 : Below w.heap.size w w9 := ⟨gr.os.trans (b8.os.trans h.bel.os), gr.tape.trans (b8.tape.trans h.bel.tape), gr.output.trans (b8.output.trans h.bel.output), by omega, fun x hx => (k9 x (by omega)).trans (h.bel.block x hx)⟩
  refine ⟨⟨D9.keep hE (by simp) (fun x hx _ => heap_setCell_other _ _ _ _ (by show x ≠ q; omega)), ?_, fun x h1 h2 h3 => (heap_setCell_other _ _ _ _ (by show x ≠ q; exact h3)).trans ((k9 x h2).trans (h.front x h1 h2 h3)), B9.setCell (p := ⟨q, p, none⟩) hq1 _, by simp; omega⟩, ?_, ?_⟩
  · rw [← hrow]
    exact heap_setCell_same w9 q p _ _ _ O9
  · rw [cell_of_row w9 q p _ _ (0, 0) O9]
    exact hcell
  · exact frozen_of_row w9 q p _ _ O9
end
end Go.Proofs.Ytlpckaflogikpaa.Ft
