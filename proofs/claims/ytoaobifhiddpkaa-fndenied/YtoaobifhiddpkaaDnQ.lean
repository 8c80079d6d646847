/- Rules one behind the other, in memory. -/
import Derived.Test.YtoaobifhiddpkaaAppW
import Derived.Test.YtoaobifhiddpkaaDrAw
import Derived.Test.YtoaobifhiddpkaaDnP
namespace Go.Proofs.Ytoaobifhiddpkaa.DnQ
set_option maxRecDepth 8000
open Go.RowKit
open Ls Lp RuP PrP DrRu DrRs
open Recs (hsz below1 below2 chain)
set_option linter.unusedVariables false
theorem lat_next {w w' : World} {v : Value} {l : List Rul} (h : LAt 6 ERul w (fun g => g < w.heap.size) v l) (b : Below w.heap.size w w') : LAt 6 ERul w' (fun g => g < w'.heap.size) v l :=
  LAt.mono growsRul (LAt.below keepsRul h b (fun g hg => hg)) (fun g hg => Nat.lt_of_lt_of_le hg b.size)
theorem rcells_split {l : List Rul} {j : Nat} {u : Value} (h : (rcells l)[j]? = some u) : j / 6 < l.length ∧ u = (rrow (l.getD (j / 6) default)).toList.getD (j % 6) default := by
  have hj : j < (rcells l).length := (List.getElem?_eq_some_iff.1 h).1
  rw [rcells_len] at hj
  have h1 : j / 6 < l.length := by omega
  have h2 := rcells_get (l := l) h1 (show j % 6 < 6 by omega)
  rw [show j / 6 * 6 + j % 6 = j by omega, h] at h2
  exact ⟨h1, Option.some.inj h2⟩
theorem news_lat {w : World} {A : Option Addr} {c : Nat} {l : List Rul} (h : LAt 6 ERul w (fun g => g < w.heap.size) (.slice A l.length c) l) : l.length ≠ 0 → ∃ ad, A = some ad ∧ ∀ j u, (rcells l)[j]? = some u → w.cell? (ad.add j) = some u := fun hn => by
  obtain ⟨A', c', g, o, F, he, OA, _⟩ := opn h (fun g hg => hg)
  cases he
  obtain ⟨ea, _, _⟩ := OA.addr.resolve_left hn
  refine ⟨⟨g, o, none⟩, ea, fun j u hu => ?_⟩
  obtain ⟨h1, h2⟩ := rcells_split hu
  have h3 := OA.cells (j / 6) h1 (j % 6) (by omega)
  obtain ⟨e0, e1, e2, e3, e4, e5⟩ := OA.el (j / 6) h1
  rw [show o + j / 6 * 6 + j % 6 = o + j by omega] at h3
  rw [show (⟨g, o, none⟩ : Addr).add j = ⟨g, o + j, none⟩ by simp [Addr.add]]
  rw [h3, h2]
  have : j % 6 = 0 ∨ j % 6 = 1 ∨ j % 6 = 2 ∨ j % 6 = 3 ∨ j % 6 = 4 ∨ j % 6 = 5 := by omega
  rcases this with e | e | e | e | e | e <;> rw [e]
  · rw [e0]; rfl
  · rw [e1]; rfl
  · rw [e2]; rfl
  · rw [e3]; rfl
  · rw [e4]; rfl
  · rw [e5]; rfl
theorem one_cells (l : List Rul) : ∀ u ∈ rcells l, u.oneCell' = true := fun u hu => by
  obtain ⟨j, hj, rfl⟩ := List.mem_iff_getElem.1 hu
  obtain ⟨_, h2⟩ := rcells_split (List.getElem?_eq_getElem hj)
  rw [h2]
  have : j % 6 = 0 ∨ j % 6 = 1 ∨ j % 6 = 2 ∨ j % 6 = 3 ∨ j % 6 = 4 ∨ j % 6 = 5 := by omega
  rcases this with e | e | e | e | e | e <;> rw [e] <;> rfl
theorem rcells_one (r : Rul) : rcells [r] = (rrow r).toList := by simp [rcells]
theorem rcells_cons (r : Rul) (l : List Rul) : (rrow r).toList ++ rcells l = rcells (r :: l) := rfl
/-- One rule in a row of its own. -/
theorem one_lat (w : World) (g : Nat) (r : Rul) (h : w.heap[g]? = some (.cells (rrow r) 30 (0, 0))) : LAt 6 ERul w (fun g => g < w.heap.size) (.slice (some ⟨g, 0, none⟩) 1 1) [r] := by
  refine ro_lat (base := 0) (acc := [r]) (by simp) ⟨rfl, .inr ⟨g, 1, rrow r, rfl, Nat.zero_le _, h, Nat.le_refl _, by decide, rfl, rfl⟩⟩
/-- The first rule of a list. -/
theorem take_lat {w : World} {A : Option Addr} {c : Nat} {r : Rul} {l : List Rul} (h : LAt 6 ERul w (fun g => g < w.heap.size) (.slice A (r :: l).length c) (r :: l)) : LAt 6 ERul w (fun g => g < w.heap.size) (.slice A 1 c) [r] := by
  obtain ⟨hn, A', c', he, h2⟩ := h
  cases he
  refine ⟨by simp, A, c, rfl, .inr ?_⟩
  obtain ⟨g, o, F, h3, h4, h5, h6, h7⟩ := h2.resolve_left (by simp)
  exact ⟨g, o, F, h3, h4, by simp at h5 ⊢; omega, fun i hi j hj => h6 i (by simp at hi ⊢; omega) j hj, fun i hi => by
    have : i = 0 := by simp at hi; omega
    subst this
    exact h7 0 (by simp)⟩
end Go.Proofs.Ytoaobifhiddpkaa.DnQ
