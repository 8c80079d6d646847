/- Expand of Squeeze is the list, on plain lists. -/
import Derived.Test.YtbilpicolfpoaaaSqF
import Derived.Test.YtbilpicolfpoaaaExpM
namespace Go.Proofs.Ytbilpicolfpoaaa.SqBk
open SqM (cp cp_le rn rn_le rn_in bestF bestF_best)
open SqP (plain plain_cons plain_nil)
open SqF (sq sq_end sq_plain sq_copy mark3)
open ExpM (piece expand expand_some expand_end p_plain p_copy)
open Expc (cpy cpy_len)
set_option linter.unusedVariables false

/-- The copy's bytes are like. -/
theorem cp_in {l : List Int} {at_ j : Nat} (h : j < (cp l at_).1) : l.getD (at_ + j) 0 = l.getD (at_ + j - (cp l at_).2) 0 := by
  have hb := bestF_best l at_ (min 4096 at_)
  unfold cp at h ⊢
  split at h
  · simp at h
  · rename_i h4
    rw [if_neg h4]
    have hd : 0 < (bestF l at_ (min 4096 at_)).2 := by
      rcases Nat.eq_zero_or_pos (bestF l at_ (min 4096 at_)).2 with h0 | h0
      · have := hb.no h0; omega
      · exact h0
    have hi := (hb.is hd).1
    exact rn_in (by rw [← hi]; exact h)

theorem take_next {l : List Int} {n : Nat} (h : n < l.length) : l.take n ++ [l.getD n 0] = l.take (n + 1) := by
  rw [List.take_add_one]
  simp [h]
theorem getD_take {l : List Int} {n i : Nat} (h : i < n) : (l.take n).getD i 0 = l.getD i 0 := by
  simp [List.getD_eq_getElem?_getD, h]

/-- Copying what is like goes on with the list. -/
theorem cpy_take {l : List Int} {at_ d : Nat} (hd : 1 ≤ d) (hda : d ≤ at_) : ∀ L, at_ + L ≤ l.length → (∀ j, j < L → l.getD (at_ + j) 0 = l.getD (at_ + j - d) 0) → cpy d L (l.take at_) = l.take (at_ + L)
  | 0, _, _ => rfl
  | L + 1, hl, h => by
    have ih := cpy_take hd hda L (by omega) (fun j hj => h j (by omega))
    show cpy d L (l.take at_) ++ [(cpy d L (l.take at_)).getD ((cpy d L (l.take at_)).length - d) 0] = _
    rw [ih]
    have hlen : (l.take (at_ + L)).length = at_ + L := by simp; omega
    rw [hlen, getD_take (by omega), ← h L (by omega)]
    exact take_next (by omega)

theorem range_take (z xs pre : List Int) (rest : List Int) (k : Nat) (hk : k ≤ xs.length) (hz : z = pre ++ xs.take k ++ rest) : ((List.range k).map fun j => z.getD (pre.length + j) 0) = xs.take k := by
  subst hz
  apply List.ext_getElem
  · simp; omega
  · intro j h1 h2
    have h3 : j < k := by simpa using h1
    have h4 : j < (xs.take k).length := h2
    simp only [List.getElem_map, List.getElem_range, List.append_assoc]
    rw [List.getD_eq_getElem?_getD, List.getElem?_append_right (by omega), show pre.length + j - pre.length = j by omega, List.getElem?_append_left h4, List.getElem?_eq_getElem h4]
    rfl

theorem plain_exp (most : Nat) : ∀ (n : Nat) (xs pre rest out : List Int), xs.length ≤ n → out.length + xs.length ≤ most → expand (pre ++ plain xs ++ rest) most pre.length out = expand (pre ++ plain xs ++ rest) most (pre ++ plain xs).length (out ++ xs)
  | n, xs, pre, rest, out, hn, hm => by
    by_cases h0 : xs.length = 0
    · obtain rfl : xs = [] := List.length_eq_zero_iff.1 h0
      rw [plain_nil rfl, List.append_nil, List.append_nil]
    · match n with
      | 0 => omega
      | n + 1 =>
        obtain ⟨k, hk⟩ : ∃ k, k = min xs.length 128 := ⟨_, rfl⟩
        have hk1 : 1 ≤ k := by omega
        have hc := plain_cons k hk h0
        obtain ⟨z, hz⟩ : ∃ z, z = pre ++ plain xs ++ rest := ⟨_, rfl⟩
        rw [← hz]
        have hz1 : z = (pre ++ [((k - 1 : Nat) : Int)]) ++ xs.take k ++ (plain (xs.drop k) ++ rest) := by rw [hz, hc]; simp
        have hz2 : z = (pre ++ [((k - 1 : Nat) : Int)] ++ xs.take k) ++ plain (xs.drop k) ++ rest := by rw [hz1]; simp
        have hlt : (xs.take k).length = k := by simp; omega
        have hzl : z.length = pre.length + 1 + k + (plain (xs.drop k) ++ rest).length := by rw [hz1]; simp only [List.length_append, List.length_cons, List.length_nil, hlt]
        have hx : (z.getD pre.length 0).toNat = k - 1 := by
          have : z.getD pre.length 0 = ((k - 1 : Nat) : Int) := by
            rw [hz1, List.append_assoc, List.append_assoc, List.getD_eq_getElem?_getD, List.getElem?_append_right (Nat.le_refl _), Nat.sub_self]
            rfl
          rw [this, Int.toNat_natCast]
        have hp := p_plain (l := z) (most := most) (i := pre.length) (out := out) hx (by omega) (by omega) (by omega)
        have hr := range_take z xs (pre ++ [((k - 1 : Nat) : Int)]) _ k (by omega) hz1
        have hr2 : ((List.range (k - 1 + 1)).map fun j => z.getD (pre.length + (1 + j)) 0) = xs.take k := by
          rw [← hr, show k - 1 + 1 = k by omega]
          simp only [List.length_append, List.length_cons, List.length_nil, Nat.zero_add, Nat.add_assoc]
        rw [hr2] at hp
        rw [expand_some (by omega) hp]
        have ih := plain_exp most n (xs.drop k) (pre ++ [((k - 1 : Nat) : Int)] ++ xs.take k) rest (out ++ xs.take k) (by simp; omega) (by simp; omega)
        rw [← hz2] at ih
        have e1 : (pre ++ [((k - 1 : Nat) : Int)] ++ xs.take k).length = pre.length + (1 + (k - 1 + 1)) := by simp only [List.length_append, List.length_cons, List.length_nil, hlt]; omega
        have e2 : (pre ++ [((k - 1 : Nat) : Int)] ++ xs.take k ++ plain (xs.drop k)).length = (pre ++ plain xs).length := by rw [hc]; simp only [List.length_append, List.length_cons, List.length_nil]; omega
        rw [e1, e2, List.append_assoc, List.take_append_drop] at ih
        exact ih

theorem copy_exp {most L d : Nat} {pre rest out : List Int} (h1 : 4 ≤ L) (h2 : L ≤ 67) (h3 : 1 ≤ d) (h4 : d ≤ 4096) (h5 : d ≤ out.length) (h6 : out.length + L ≤ most) :
    expand (pre ++ mark3 L d ++ rest) most pre.length out = expand (pre ++ mark3 L d ++ rest) most (pre ++ mark3 L d).length (cpy d L out) := by
  obtain ⟨z, hz⟩ : ∃ z, z = pre ++ mark3 L d ++ rest := ⟨_, rfl⟩
  rw [← hz]
  have hzl : z.length = pre.length + 3 + rest.length := by rw [hz]; simp [mark3]; omega
  have g : ∀ j, j < 3 → z.getD (pre.length + j) 0 = (mark3 L d).getD j 0 := fun j hj => by
    rw [hz, List.append_assoc, List.getD_eq_getElem?_getD, List.getElem?_append_right (by omega), show pre.length + j - pre.length = j by omega, List.getElem?_append_left (by simpa [mark3] using hj), ← List.getD_eq_getElem?_getD]
  have hx : (z.getD pre.length 0).toNat = 124 + L := by
    have := g 0 (by omega)
    rw [Nat.add_zero] at this
    rw [this]; show (124 + (L : Int)).toNat = _; omega
  have ha : (z.getD (pre.length + 1) 0).toNat = (d - 1) / 256 := by rw [g 1 (by omega)]; show ((((d - 1) / 256 : Nat) : Int)).toNat = _; rw [Int.toNat_natCast]
  have hb : (z.getD (pre.length + 2) 0).toNat = (d - 1) % 256 := by rw [g 2 (by omega)]; show ((((d - 1) % 256 : Nat) : Int)).toNat = _; rw [Int.toNat_natCast]
  have hd : (d - 1) / 256 * 256 + (d - 1) % 256 + 1 = d := by omega
  have hp := p_copy (l := z) (most := most) (i := pre.length) (out := out) hx (by omega) (by omega) (by omega) (by omega) ha hb (by omega)
  rw [hd, show 124 + L - 124 = L by omega] at hp
  rw [expand_some (by omega) hp]
  congr 1
  simp [mark3]

theorem sq_pre (l : List Int) : ∀ (n at_ p : Nat) (out : List Int), l.length - at_ ≤ n → ∃ rest, sq l at_ p out = out ++ rest
  | n, at_, p, out, hn => by
    by_cases hlt : at_ < l.length
    · match n with
      | 0 => omega
      | n + 1 =>
        by_cases hz : (cp l at_).1 = 0
        · rw [sq_plain hlt hz]
          exact sq_pre l n (at_ + 1) p out (by omega)
        · rw [sq_copy hlt hz]
          obtain ⟨r, hr⟩ := sq_pre l n (at_ + (cp l at_).1) (at_ + (cp l at_).1) (out ++ plain ((l.drop p).take (at_ - p)) ++ mark3 (cp l at_).1 (cp l at_).2) (by omega)
          exact ⟨plain ((l.drop p).take (at_ - p)) ++ mark3 (cp l at_).1 (cp l at_).2 ++ r, by rw [hr]; simp⟩
    · exact ⟨_, sq_end hlt⟩

theorem take_mid {l : List Int} {at_ p : Nat} (h : p ≤ at_) : l.take p ++ (l.drop p).take (at_ - p) = l.take at_ := by
  have : at_ = p + (at_ - p) := by omega
  rw [this, List.take_add]
  simp

/-- What is squeezed from a place on comes back. -/
theorem back_from (l : List Int) (most : Nat) (hm : l.length ≤ most) : ∀ (n at_ p : Nat) (out : List Int), l.length - at_ ≤ n → p ≤ at_ → at_ ≤ l.length → expand (sq l at_ p out) most out.length (l.take p) = some l
  | n, at_, p, out, hn, hp, ha => by
    by_cases hlt : at_ < l.length
    · match n with
      | 0 => omega
      | n + 1 =>
        by_cases hz : (cp l at_).1 = 0
        · rw [sq_plain hlt hz]
          exact back_from l most hm n (at_ + 1) p out (by omega) (by omega) (by omega)
        · have hc := cp_le l at_
          have hin := fun j => @cp_in l at_ j
          rw [sq_copy hlt hz]
          generalize (cp l at_).1 = L at *
          generalize (cp l at_).2 = d at *
          have ih := back_from l most hm n (at_ + L) (at_ + L) (out ++ plain ((l.drop p).take (at_ - p)) ++ mark3 L d) (by omega) (Nat.le_refl _) (by omega)
          obtain ⟨r, hr⟩ := sq_pre l _ (at_ + L) (at_ + L) (out ++ plain ((l.drop p).take (at_ - p)) ++ mark3 L d) (Nat.le_refl _)
          rw [hr] at ih ⊢
          have hml : ((l.drop p).take (at_ - p)).length = at_ - p := by simp; omega
          have htl : (l.take p).length = p := by simp; omega
          have e1 := plain_exp most _ ((l.drop p).take (at_ - p)) out (mark3 L d ++ r) (l.take p) (Nat.le_refl _) (by omega)
          rw [take_mid hp, ← List.append_assoc] at e1
          rw [e1]
          have hal : (l.take at_).length = at_ := by simp; omega
          rw [copy_exp (by omega) (by omega) (by omega) (by omega) (by omega) (by omega), cpy_take (by omega) (by omega) L (by omega) hin]
          exact ih
    · rw [sq_end hlt]
      have e1 := plain_exp most _ (l.drop p) out [] (l.take p) (Nat.le_refl _) (by simp; omega)
      rw [List.append_nil, List.take_append_drop] at e1
      rw [e1]
      exact expand_end (by omega)

theorem back (l : List Int) (most : Nat) (hm : l.length ≤ most) : expand (sq l 0 0 []) most 0 [] = some l := by
  have := back_from l most hm _ 0 0 [] (Nat.le_refl _) (Nat.le_refl _) (Nat.zero_le _)
  simpa using this
end Go.Proofs.Ytbilpicolfpoaaa.SqBk
