/- A Log in a variable of its own, made out of a list that was copied. -/
import Derived.Test.YticihnoekffelaaJS29
import Derived.Test.YticihnoekffelaaJS17
namespace Go.Proofs.Yticihnoekffelaa.Ft
set_option maxRecDepth 8000
open Go.RowKit
open Recs
open Bats SegW Segs LogW
set_option linter.unusedVariables false
theorem LGr.own_set {T : Type} [Inhabited T] {ty nf : Nat} {EO : World → (Nat → Prop) → (Nat → Value) → T → Prop} {w : World} {base : Nat} {v : Value} {us : List T} {F : Nat → Value} {P : Nat → Nat → Prop} (h : LGr ty nf EO w base v us F P) (hn : us.length ≤ 1048576) : LOwn ty nf EO w (fun x => v.ownBlock = some x ∨ ∃ i, i < us.length ∧ P i x) v us := by
  refine ⟨hn, ?_⟩
  rcases h.own.2 with ⟨h1, h2⟩ | ⟨g, cap, cur, h1, h2, h3, h4⟩
  · exact ⟨none, 0, by rw [h1, h2], .inl h2⟩
  · refine ⟨_, cap, h1, .inr ⟨g, F, P, rfl, .inl (by rw [h1]; rfl), fun i hi x hx => .inr ⟨i, hi, hx⟩, ⟨h.own.1, .inr ⟨g, cap, cur, rfl, Nat.le_refl _, h3, h4⟩⟩, rfl, h.el, fun i hi x hx => ⟨fun e => (h.apart i hi x hx).2.2 ?_, (h.apart i hi x hx).2.1⟩, h.disj⟩⟩
    rw [h1, e]
    rfl
theorem setc4 {wc : World} {q y : Nat} {z0 z1 z2 z3 : Value} {r : Option Obj} (h : y < q) (e : wc.heap[y]? = r) : ((((wc.setCell ⟨q, 0, none⟩ z0).setCell ⟨q, 1, none⟩ z1).setCell ⟨q, 2, none⟩ z2).setCell ⟨q, 3, none⟩ z3).heap[y]? = r := by
  rw [heap_setCell_other _ _ _ _ (by show y ≠ q; omega), heap_setCell_other _ _ _ _ (by show y ≠ q; omega), heap_setCell_other _ _ _ _ (by show y ≠ q; omega), heap_setCell_other _ _ _ _ (by show y ≠ q; omega)]
  exact e
/-- The variable 'out' behind the copy: its block OB is none of its list's. -/
structure CL (w2 wx : World) (OB : Nat) (l : Lg) (v : Value) (us : List Sg) : Prop where
  grow : ∃ F P base, LGr 55 2 ES wx base v us F P ∧ w2.heap.size ≤ base ∧ base ≤ wx.heap.size ∧ v.ownBlock ≠ some OB ∧ ∀ i, i < us.length → ¬ P i OB
  out : wx.heap[OB]? = some (.cells (logArr l v) 28 (0, 0))
  lo : w2.heap.size ≤ OB
  hi : OB < wx.heap.size
  bel : Below w2.heap.size w2 wx
theorem CL.after {w2 wc : World} {l : Lg} {v : Value} {us : List Sg} (h : LGrow 55 2 ES wc w2.heap.size v us) (b : Below w2.heap.size w2 wc) : CL w2 (wc.alloc (.cells (logArr l v) 28 (0, 0))) wc.heap.size l v us := by
  obtain ⟨F, P, hG⟩ := h
  have hs := b.size
  have hv : ∀ x, v.ownBlock = some x → x < wc.heap.size := fun x hx => (World.ownsRow.lt hG.own x hx).2
  exact ⟨⟨F, P, _, hG.keep keepsS (by rw [hsz]; omega) (fun g _ hg => heap_alloc_old _ _ hg), Nat.le_refl _, by rw [hsz]; omega, fun e => by have := hv _ e; omega, fun i hi hp => by have := hG.apart i hi _ hp; omega⟩, heap_alloc_new _ _, by omega, by rw [hsz]; omega, chain b (below1 wc _)⟩
theorem CL.ahead {w2 wc : World} {l : Lg} {v : Value} {us : List Sg} (o : Obj) (h : LGrow 55 2 ES wc (w2.heap.size + 1) v us) (b : Below (w2.heap.size + 1) (w2.alloc o) wc) (hs : w2.heap.size + 1 ≤ wc.heap.size) (hr : (wc.setCells w2.heap.size 0 (logArr l v).toList).heap[w2.heap.size]? = some (.cells (logArr l v) 28 (0, 0))) : CL w2 (wc.setCells w2.heap.size 0 (logArr l v).toList) w2.heap.size l v us := by
  obtain ⟨F, P, hG⟩ := h
  have hv : ∀ x, v.ownBlock = some x → w2.heap.size + 1 ≤ x := fun x hx => (World.ownsRow.lt hG.own x hx).1
  have hz := Cells.size_setCells (g := w2.heap.size) (logArr l v).toList (o := 0) wc
  have b0 : Below w2.heap.size w2 wc := (below1 w2 o).trans (b.mono (by omega))
  exact ⟨⟨F, P, _, hG.keep keepsS (by rw [hz]; exact Nat.le_refl _) (fun g hg _ => Cells.heap_setCells_other _ _ (by omega)), by omega, by rw [hz]; omega, fun e => by have := hv _ e; omega, fun i hi hp => by have := hG.apart i hi _ hp; omega⟩, hr, Nat.le_refl _, by rw [hz]; omega, Cells.below_setCells (Nat.le_refl _) _ _ _ _ b0⟩
end Go.Proofs.Yticihnoekffelaa.Ft
