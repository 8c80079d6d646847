/- The bytes that pieces are of, as plain lists. -/
import Derived.Test.YtbilpicolfpoaaaExpc
namespace Go.Proofs.Ytbilpicolfpoaaa.ExpM
open Expc (cpy cpy_len)
set_option linter.unusedVariables false
/-- One piece: the place behind it, and what is out then; none: it is no piece, or too much. -/
def piece (l : List Int) (most i : Nat) (out : List Int) : Option (Nat × List Int) :=
  let x := (l.getD i 0).toNat
  if x < 128 then
    if l.length - i < 1 + (x + 1) then none
    else if most < out.length + (x + 1) then none
    else some (i + (1 + (x + 1)), out ++ (List.range (x + 1)).map fun j => l.getD (i + (1 + j)) 0)
  else if 191 < x then none
  else if l.length - i < 3 then none
  else if most < out.length + (x - 124) then none
  else
    let d := (l.getD (i + 1) 0).toNat * 256 + (l.getD (i + 2) 0).toNat + 1
    if out.length < d then none else some (i + 3, cpy d (x - 124) out)
theorem piece_next {l : List Int} {most i : Nat} {out : List Int} {i' : Nat} {out' : List Int} (h : piece l most i out = some (i', out')) : i < i' ∧ i' ≤ l.length ∧ out'.length ≤ most := by
  unfold piece at h
  simp only at h
  generalize (l.getD i 0).toNat = x at h
  split at h
  · split at h
    · cases h
    · split at h
      · cases h
      · cases h
        simp only [List.length_append, List.length_map, List.length_range]
        omega
  · split at h
    · cases h
    · split at h
      · cases h
      · split at h
        · cases h
        · split at h
          · cases h
          · cases h
            rw [cpy_len]
            omega
/-- All pieces from a place on, f of them at most. -/
def expandF (l : List Int) (most : Nat) : Nat → Nat → List Int → Option (List Int)
  | 0, _, out => some out
  | f + 1, i, out => if i < l.length then (piece l most i out).bind fun p => expandF l most f p.1 p.2 else some out
theorem expandF_same (l : List Int) (most : Nat) : ∀ (f g i : Nat) (out : List Int), l.length - i ≤ f → l.length - i ≤ g → expandF l most f i out = expandF l most g i out
  | 0, 0, i, out, _, _ => rfl
  | 0, g + 1, i, out, h, _ => by rw [expandF, expandF, if_neg (by omega)]
  | f + 1, 0, i, out, _, h => by rw [expandF, expandF, if_neg (by omega)]
  | f + 1, g + 1, i, out, h1, h2 => by
    rw [expandF, expandF]
    by_cases h : i < l.length
    · rw [if_pos h, if_pos h]
      rcases hp : piece l most i out with _ | ⟨i', out'⟩
      · rfl
      · have := piece_next hp
        exact expandF_same l most f g i' out' (by omega) (by omega)
    · rw [if_neg h, if_neg h]
/-- All pieces from a place on. -/
def expand (l : List Int) (most i : Nat) (out : List Int) : Option (List Int) := expandF l most (l.length - i) i out
theorem expand_end {l : List Int} {most i : Nat} {out : List Int} (h : ¬ i < l.length) : expand l most i out = some out := by
  rw [expand, show l.length - i = 0 by omega]; rfl
theorem expand_none {l : List Int} {most i : Nat} {out : List Int} (h : i < l.length) (hp : piece l most i out = none) : expand l most i out = none := by
  obtain ⟨f, hf⟩ : ∃ f, l.length - i = f + 1 := ⟨l.length - i - 1, by omega⟩
  rw [expand, hf, expandF, if_pos h, hp]; rfl
theorem expand_some {l : List Int} {most i : Nat} {out : List Int} {i' : Nat} {out' : List Int} (h : i < l.length) (hp : piece l most i out = some (i', out')) : expand l most i out = expand l most i' out' := by
  have hn := piece_next hp
  obtain ⟨f, hf⟩ : ∃ f, l.length - i = f + 1 := ⟨l.length - i - 1, by omega⟩
  rw [expand, hf, expandF, if_pos h, hp]
  exact expandF_same l most f (l.length - i') i' out' (by omega) (Nat.le_refl _)
/-- How far the expanding is. -/
structure Far (l : List Int) (most i : Nat) (out : List Int) : Prop where
  le : i ≤ l.length
  ol : out.length ≤ most
  eq : expand l most 0 [] = expand l most i out
theorem Far.start (l : List Int) (most : Nat) : Far l most 0 [] := ⟨Nat.zero_le _, Nat.zero_le _, rfl⟩
theorem Far.next {l : List Int} {most i : Nat} {out : List Int} {i' : Nat} {out' : List Int} (h : Far l most i out) (hi : i < l.length) (hp : piece l most i out = some (i', out')) : Far l most i' out' :=
  have := piece_next hp
  ⟨this.2.1, this.2.2, h.eq.trans (expand_some hi hp)⟩
theorem Far.bad {l : List Int} {most i : Nat} {out : List Int} (h : Far l most i out) (hi : i < l.length) (hp : piece l most i out = none) : expand l most 0 [] = none := h.eq.trans (expand_none hi hp)
theorem Far.done {l : List Int} {most i : Nat} {out : List Int} (h : Far l most i out) (hi : ¬ i < l.length) : expand l most 0 [] = some out := h.eq.trans (expand_end hi)
theorem p_short {l : List Int} {most i x : Nat} {out : List Int} (hx : (l.getD i 0).toNat = x) (h1 : x < 128) (h2 : l.length - i < 1 + (x + 1)) : piece l most i out = none := by simp only [piece, hx, if_pos h1, if_pos h2]
theorem p_full {l : List Int} {most i x : Nat} {out : List Int} (hx : (l.getD i 0).toNat = x) (h1 : x < 128) (h2 : ¬ l.length - i < 1 + (x + 1)) (h3 : most < out.length + (x + 1)) : piece l most i out = none := by simp only [piece, hx, if_pos h1, if_neg h2, if_pos h3]
theorem p_plain {l : List Int} {most i x : Nat} {out : List Int} (hx : (l.getD i 0).toNat = x) (h1 : x < 128) (h2 : ¬ l.length - i < 1 + (x + 1)) (h3 : ¬ most < out.length + (x + 1)) : piece l most i out = some (i + (1 + (x + 1)), out ++ (List.range (x + 1)).map fun j => l.getD (i + (1 + j)) 0) := by simp only [piece, hx, if_pos h1, if_neg h2, if_neg h3]
theorem p_high {l : List Int} {most i x : Nat} {out : List Int} (hx : (l.getD i 0).toNat = x) (h1 : ¬ x < 128) (h2 : 191 < x) : piece l most i out = none := by simp only [piece, hx, if_neg h1, if_pos h2]
theorem p_cut {l : List Int} {most i x : Nat} {out : List Int} (hx : (l.getD i 0).toNat = x) (h1 : ¬ x < 128) (h2 : ¬ 191 < x) (h3 : l.length - i < 3) : piece l most i out = none := by simp only [piece, hx, if_neg h1, if_neg h2, if_pos h3]
theorem p_much {l : List Int} {most i x : Nat} {out : List Int} (hx : (l.getD i 0).toNat = x) (h1 : ¬ x < 128) (h2 : ¬ 191 < x) (h3 : ¬ l.length - i < 3) (h4 : most < out.length + (x - 124)) : piece l most i out = none := by simp only [piece, hx, if_neg h1, if_neg h2, if_neg h3, if_pos h4]
theorem p_back {l : List Int} {most i x : Nat} {out : List Int} (hx : (l.getD i 0).toNat = x) {a b : Nat} (h1 : ¬ x < 128) (h2 : ¬ 191 < x) (h3 : ¬ l.length - i < 3) (h4 : ¬ most < out.length + (x - 124)) (ha : (l.getD (i + 1) 0).toNat = a) (hb : (l.getD (i + 2) 0).toNat = b) (h5 : out.length < a * 256 + b + 1) : piece l most i out = none := by
  simp only [piece, hx, if_neg h1, if_neg h2, if_neg h3, if_neg h4, ha, hb, if_pos h5]
theorem p_copy {l : List Int} {most i x : Nat} {out : List Int} (hx : (l.getD i 0).toNat = x) {a b : Nat} (h1 : ¬ x < 128) (h2 : ¬ 191 < x) (h3 : ¬ l.length - i < 3) (h4 : ¬ most < out.length + (x - 124)) (ha : (l.getD (i + 1) 0).toNat = a) (hb : (l.getD (i + 2) 0).toNat = b) (h5 : ¬ out.length < a * 256 + b + 1) : piece l most i out = some (i + 3, cpy (a * 256 + b + 1) (x - 124) out) := by
  simp only [piece, hx, if_neg h1, if_neg h2, if_neg h3, if_neg h4, ha, hb, if_neg h5]
end Go.Proofs.Ytbilpicolfpoaaa.ExpM
