/- The finder's way through the places, from the nearest on. -/
import Derived.Test.YtbilpicolfpoaaaSqB
namespace Go.Proofs.Ytbilpicolfpoaaa.SqM
set_option linter.unusedVariables false
theorem pos_sorted (l : List Int) (m at_ : Nat) : (pos l m at_).Pairwise (· < ·) := List.Pairwise.filter _ List.pairwise_lt_range
theorem mem_pos {l : List Int} {m at_ j : Nat} : j ∈ pos l m at_ ↔ j < m ∧ alike l at_ j = true := by simp [pos]
/-- Of the places the last k are still to be asked. -/
structure Inv (l : List Int) (at_ k L d : Nat) : Prop where
  no : d = 0 → L = 0
  is : 0 < d → L = rn l at_ d ∧ 4 ≤ L ∧ d ≤ 4096 ∧ d ≤ at_
  far : ∀ j, j < at_ → alike l at_ j = true → j ∉ (pos l at_ at_).take k → rn l at_ (at_ - j) ≤ L
  near : ∀ e, 0 < e → e < d → rn l at_ e < L
theorem Inv.start (l : List Int) (at_ : Nat) : Inv l at_ (pos l at_ at_).length 0 0 :=
  ⟨fun _ => rfl, fun h => absurd h (by omega), fun j hj ha hn => absurd (by rw [List.take_length]; exact mem_pos.2 ⟨hj, ha⟩) hn, fun e h h' => by omega⟩
theorem take_le {l : List Int} {at_ k p j : Nat} (hk : k < (pos l at_ at_).length) (hp : (pos l at_ at_)[k]? = some p) (hj : j ∈ (pos l at_ at_).take (k + 1)) : j ≤ p := by
  obtain ⟨i, hi, rfl⟩ := List.getElem_of_mem hj
  have hi' : i < k + 1 ∧ i < (pos l at_ at_).length := by rw [List.length_take] at hi; omega
  rw [List.getElem_take]
  obtain ⟨hk', rfl⟩ := List.getElem?_eq_some_iff.1 hp
  rcases Nat.lt_or_ge i k with h | h
  · exact Nat.le_of_lt (List.pairwise_iff_getElem.1 (pos_sorted l at_ at_) i k hi'.2 hk' h)
  · have : i = k := by omega
    subst this
    exact Nat.le_refl _
theorem take_succ_mem {α : Type} {xs : List α} {k : Nat} {p x : α} (hp : xs[k]? = some p) : x ∈ xs.take (k + 1) ↔ x ∈ xs.take k ∨ x = p := by
  rw [List.take_add_one, hp]
  simp
theorem Inv.worse {l : List Int} {at_ k L d p : Nat} (h : Inv l at_ (k + 1) L d) (hp : (pos l at_ at_)[k]? = some p) (hr : rn l at_ (at_ - p) ≤ L) : Inv l at_ k L d :=
  ⟨h.no, h.is, fun j hj ha hn => by
    by_cases he : j = p
    · subst he; exact hr
    · exact h.far j hj ha (fun hm => ((take_succ_mem hp).1 hm).elim hn he), h.near⟩
theorem Inv.better {l : List Int} {at_ k L d p : Nat} (h : Inv l at_ (k + 1) L d) (hl : at_ + 4 ≤ l.length) (hp : (pos l at_ at_)[k]? = some p) (hd : at_ - p ≤ 4096) (hr : L < rn l at_ (at_ - p)) : Inv l at_ k (rn l at_ (at_ - p)) (at_ - p) := by
  have hm := mem_pos.1 (List.mem_of_getElem? hp)
  have h4 : 4 ≤ rn l at_ (at_ - p) := (alike_iff (by omega) hl).2 (by rw [show at_ - (at_ - p) = p by omega]; exact hm.2)
  refine ⟨fun h => by omega, fun _ => ⟨rfl, h4, hd, by omega⟩, fun j hj ha hn => ?_, fun e he1 he2 => ?_⟩
  · by_cases he : j = p
    · subst he; exact Nat.le_refl _
    · have := h.far j hj ha (fun hm => ((take_succ_mem hp).1 hm).elim hn he)
      omega
  · by_cases hr4 : 4 ≤ rn l at_ e
    · have ha := (alike_iff (by omega) hl).1 hr4
      have := h.far (at_ - e) (by omega) ha (fun hm' => by
        have := take_le (List.getElem?_eq_some_iff.1 hp).1 hp hm'
        omega)
      rw [show at_ - (at_ - e) = e by omega] at this
      omega
    · omega
theorem Inv.best {l : List Int} {at_ k L d : Nat} (h : Inv l at_ k L d) (hl : at_ + 4 ≤ l.length) (hf : ∀ j, j < at_ → alike l at_ j = true → at_ - j ≤ 4096 → rn l at_ (at_ - j) ≤ L) : cp l at_ = (L, d) := by
  refine cp_of_best4 ⟨?_, h.no, fun hd => ⟨(h.is hd).1, (h.is hd).2.1⟩, fun e h1 h2 h3 => ?_, h.near⟩
  · rcases Nat.eq_zero_or_pos d with h0 | h0
    · omega
    · have := h.is h0; omega
  · have ha := (alike_iff (by omega) hl).1 h3
    have := hf (at_ - e) (by omega) ha (by omega)
    rwa [show at_ - (at_ - e) = e by omega] at this
theorem Inv.ends {l : List Int} {at_ L d : Nat} (h : Inv l at_ 0 L d) (hl : at_ + 4 ≤ l.length) : cp l at_ = (L, d) := h.best hl (fun j hj ha _ => h.far j hj ha (by simp))
theorem Inv.full {l : List Int} {at_ k L d : Nat} (h : Inv l at_ k L d) (hl : at_ + 4 ≤ l.length) (hL : L = min (l.length - at_) 67) : cp l at_ = (L, d) := h.best hl (fun j hj ha _ => by have := rn_le l at_ (at_ - j); omega)
theorem Inv.breaks {l : List Int} {at_ k L d p : Nat} (h : Inv l at_ (k + 1) L d) (hl : at_ + 4 ≤ l.length) (hp : (pos l at_ at_)[k]? = some p) (hd : 4096 < at_ - p) : cp l at_ = (L, d) := h.best hl (fun j hj ha hj2 => h.far j hj ha (fun hm => by
  have := take_le (List.getElem?_eq_some_iff.1 hp).1 hp hm
  omega))
theorem Inv.lt {l : List Int} {at_ k L d : Nat} (h : Inv l at_ k L d) : L ≤ min (l.length - at_) 67 := by
  rcases Nat.eq_zero_or_pos d with h0 | h0
  · rw [h.no h0]; omega
  · rw [(h.is h0).1]; have := rn_le l at_ d; omega
end Go.Proofs.Ytbilpicolfpoaaa.SqM
