/- The copy at a place, found among the places where its first four bytes stand. -/
import Derived.Test.YtbilpicolfpoaaaSqM
namespace Go.Proofs.Ytbilpicolfpoaaa.SqM
set_option linter.unusedVariables false
/-- The same four bytes stand at both places. -/
def alike (l : List Int) (i j : Nat) : Bool := decide (l.getD i 0 = l.getD j 0) && decide (l.getD (i + 1) 0 = l.getD (j + 1) 0) && decide (l.getD (i + 2) 0 = l.getD (j + 2) 0) && decide (l.getD (i + 3) 0 = l.getD (j + 3) 0)
theorem alike_iff {l : List Int} {at_ e : Nat} (he : e ≤ at_) (hl : at_ + 4 ≤ l.length) : 4 ≤ rn l at_ e ↔ alike l at_ (at_ - e) = true := by
  have key : ∀ j, at_ + j - e = at_ - e + j := fun j => by omega
  constructor
  · intro h
    simp only [alike, Bool.and_eq_true, decide_eq_true_eq]
    have g : ∀ j, j < 4 → l.getD (at_ + j) 0 = l.getD (at_ - e + j) 0 := fun j hj => by rw [← key j]; exact rn_in (by omega)
    exact ⟨⟨⟨g 0 (by omega), g 1 (by omega)⟩, g 2 (by omega)⟩, g 3 (by omega)⟩
  · intro h
    simp only [alike, Bool.and_eq_true, decide_eq_true_eq] at h
    refine rn_ge (by omega) hl (fun j hj => ?_)
    rw [key j]
    match j, hj with
    | 0, _ => exact h.1.1.1
    | 1, _ => exact h.1.1.2
    | 2, _ => exact h.1.2
    | 3, _ => exact h.2
/-- The best of those distances from 1 to D at which four bytes are alike. -/
structure Best4 (l : List Int) (at_ D L d : Nat) : Prop where
  le : d ≤ D
  no : d = 0 → L = 0
  is : 0 < d → L = rn l at_ d ∧ 4 ≤ L
  far : ∀ e, 0 < e → e ≤ D → 4 ≤ rn l at_ e → rn l at_ e ≤ L
  near : ∀ e, 0 < e → e < d → rn l at_ e < L
theorem Best4.start (l : List Int) (at_ : Nat) : Best4 l at_ 0 0 0 := ⟨Nat.le_refl _, fun _ => rfl, fun h => absurd h (by omega), fun e h h' => by omega, fun e h h' => by omega⟩
/-- No four bytes are alike at the distances between. -/
theorem Best4.skip {l : List Int} {at_ D D' L d : Nat} (h : Best4 l at_ D L d) (hD : D ≤ D') (hn : ∀ e, D < e → e ≤ D' → rn l at_ e < 4) : Best4 l at_ D' L d :=
  ⟨by have := h.le; omega, h.no, h.is, fun e h1 h2 h3 => by
    by_cases he : e ≤ D
    · exact h.far e h1 he h3
    · have := hn e (by omega) h2; omega, h.near⟩
theorem Best4.worse {l : List Int} {at_ D L d : Nat} (h : Best4 l at_ D L d) (hr : rn l at_ (D + 1) ≤ L) : Best4 l at_ (D + 1) L d :=
  ⟨by have := h.le; omega, h.no, h.is, fun e h1 h2 h3 => by
    by_cases he : e = D + 1
    · subst he; exact hr
    · exact h.far e h1 (by omega) h3, h.near⟩
theorem Best4.better {l : List Int} {at_ D L d : Nat} (h : Best4 l at_ D L d) (h4 : 4 ≤ rn l at_ (D + 1)) (hr : L < rn l at_ (D + 1)) : Best4 l at_ (D + 1) (rn l at_ (D + 1)) (D + 1) :=
  ⟨Nat.le_refl _, fun h => by omega, fun _ => ⟨rfl, h4⟩, fun e h1 h2 h3 => by
    by_cases he : e = D + 1
    · subst he; exact Nat.le_refl _
    · have := h.far e h1 (by omega) h3; omega, fun e h1 h2 => by
    by_cases h3 : 4 ≤ rn l at_ e
    · have := h.far e h1 (by omega) h3; omega
    · omega⟩
/-- It is as long as can be: no other is longer. -/
theorem Best4.full {l : List Int} {at_ D D' L d : Nat} (h : Best4 l at_ D L d) (hD : d ≤ D') (hf : ∀ e, rn l at_ e ≤ L) : Best4 l at_ D' L d := ⟨hD, h.no, h.is, fun e _ _ _ => hf e, h.near⟩
theorem Best4.cut {l : List Int} {at_ D D' L d : Nat} (h : Best4 l at_ D L d) (hD : D' ≤ D) (hd : d ≤ D') : Best4 l at_ D' L d := ⟨hd, h.no, h.is, fun e h1 h2 h3 => h.far e h1 (by omega) h3, h.near⟩
theorem cp_of_best4 {l : List Int} {at_ L d : Nat} (h : Best4 l at_ (min 4096 at_) L d) : cp l at_ = (L, d) := by
  have hb := bestF_best l at_ (min 4096 at_)
  by_cases hd : d = 0
  · have hL := h.no hd
    have hlt : (bestF l at_ (min 4096 at_)).1 < 4 := by
      rcases Nat.lt_or_ge (bestF l at_ (min 4096 at_)).1 4 with h1 | h1
      · exact h1
      · have hp : 0 < (bestF l at_ (min 4096 at_)).2 := by
          rcases Nat.eq_zero_or_pos (bestF l at_ (min 4096 at_)).2 with h0 | h0
          · have := hb.no h0; omega
          · exact h0
        have hi := hb.is hp
        have := h.far _ hp hb.le (by omega)
        omega
    rw [cp, if_pos hlt, hL, hd]
  · have hi := h.is (by omega)
    have B : Best l at_ (min 4096 at_) L d := ⟨h.le, h.no, fun _ => ⟨hi.1, by omega⟩, fun e h1 h2 => by
      by_cases h3 : 4 ≤ rn l at_ e
      · exact h.far e h1 h2 h3
      · omega, h.near⟩
    rw [cp_of_best B, if_neg (by omega)]

/-- The places below m where the same four bytes stand. -/
def pos (l : List Int) (m at_ : Nat) : List Nat := (List.range m).filter (fun j => alike l at_ j)
end Go.Proofs.Ytbilpicolfpoaaa.SqM
