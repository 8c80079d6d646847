/- The squeezed bytes, as plain lists: how far the squeezing is. -/
import Derived.Test.YtbilpicolfpoaaaSqM
import Derived.Test.YtbilpicolfpoaaaSqP
namespace Go.Proofs.Ytbilpicolfpoaaa.SqF
open SqM (cp cp_le)
open SqP (plain plain_len)
set_option linter.unusedVariables false
def mark3 (L d : Nat) : List Int := [124 + (L : Int), (((d - 1) / 256 : Nat) : Int), (((d - 1) % 256 : Nat) : Int)]
/-- f steps at most. -/
def sqF (l : List Int) : Nat → Nat → Nat → List Int → List Int
  | 0, at_, p, out => out ++ plain (l.drop p)
  | f + 1, at_, p, out => if at_ < l.length then
      (if (cp l at_).1 = 0 then sqF l f (at_ + 1) p out
       else sqF l f (at_ + (cp l at_).1) (at_ + (cp l at_).1) (out ++ plain ((l.drop p).take (at_ - p)) ++ mark3 (cp l at_).1 (cp l at_).2))
    else out ++ plain (l.drop p)
theorem sqF_same (l : List Int) : ∀ (f g at_ p : Nat) (out : List Int), l.length - at_ ≤ f → l.length - at_ ≤ g → sqF l f at_ p out = sqF l g at_ p out
  | 0, 0, _, _, _, _, _ => rfl
  | 0, g + 1, at_, p, out, h, _ => by rw [sqF, sqF, if_neg (by omega)]
  | f + 1, 0, at_, p, out, _, h => by rw [sqF, sqF, if_neg (by omega)]
  | f + 1, g + 1, at_, p, out, h1, h2 => by
    rw [sqF, sqF]
    by_cases h : at_ < l.length
    · rw [if_pos h, if_pos h]
      by_cases hz : (cp l at_).1 = 0
      · rw [if_pos hz, if_pos hz]
        exact sqF_same l f g _ _ _ (by omega) (by omega)
      · rw [if_neg hz, if_neg hz]
        exact sqF_same l f g _ _ _ (by omega) (by omega)
    · rw [if_neg h, if_neg h]
def sq (l : List Int) (at_ p : Nat) (out : List Int) : List Int := sqF l (l.length - at_) at_ p out
theorem sq_end {l : List Int} {at_ p : Nat} {out : List Int} (h : ¬ at_ < l.length) : sq l at_ p out = out ++ plain (l.drop p) := by
  rw [sq, show l.length - at_ = 0 by omega]; rfl
theorem sq_plain {l : List Int} {at_ p : Nat} {out : List Int} (h : at_ < l.length) (hz : (cp l at_).1 = 0) : sq l at_ p out = sq l (at_ + 1) p out := by
  obtain ⟨f, hf⟩ : ∃ f, l.length - at_ = f + 1 := ⟨l.length - at_ - 1, by omega⟩
  rw [sq, hf, sqF, if_pos h, if_pos hz]
  exact sqF_same l _ _ _ _ _ (by omega) (by omega)
theorem sq_copy {l : List Int} {at_ p : Nat} {out : List Int} (h : at_ < l.length) (hz : ¬ (cp l at_).1 = 0) :
    sq l at_ p out = sq l (at_ + (cp l at_).1) (at_ + (cp l at_).1) (out ++ plain ((l.drop p).take (at_ - p)) ++ mark3 (cp l at_).1 (cp l at_).2) := by
  obtain ⟨f, hf⟩ : ∃ f, l.length - at_ = f + 1 := ⟨l.length - at_ - 1, by omega⟩
  rw [sq, hf, sqF, if_pos h, if_neg hz]
  exact sqF_same l _ _ _ _ _ (by omega) (by omega)
/-- How far the squeezing is: the bytes up to p are out, those from p to the place are plain. -/
structure Sq (l : List Int) (at_ p : Nat) (out : List Int) : Prop where
  pa : p ≤ at_
  al : at_ ≤ l.length
  ol : out.length ≤ 2 * p
  eq : sq l 0 0 [] = sq l at_ p out
theorem Sq.start (l : List Int) : Sq l 0 0 [] := ⟨Nat.le_refl _, Nat.zero_le _, by simp, rfl⟩
theorem Sq.plain {l : List Int} {at_ p : Nat} {out : List Int} (h : Sq l at_ p out) (hlt : at_ < l.length) (hz : (cp l at_).1 = 0) : Sq l (at_ + 1) p out :=
  ⟨by have := h.pa; omega, by omega, h.ol, h.eq.trans (sq_plain hlt hz)⟩
theorem Sq.copy {l : List Int} {at_ p : Nat} {out : List Int} (h : Sq l at_ p out) (hlt : at_ < l.length) (hz : ¬ (cp l at_).1 = 0) :
    Sq l (at_ + (cp l at_).1) (at_ + (cp l at_).1) (out ++ SqP.plain ((l.drop p).take (at_ - p)) ++ mark3 (cp l at_).1 (cp l at_).2) := by
  have hc := cp_le l at_
  have hp := h.pa
  refine ⟨Nat.le_refl _, by omega, ?_, h.eq.trans (sq_copy hlt hz)⟩
  have h1 := h.ol
  have h2 := plain_len ((l.drop p).take (at_ - p))
  simp only [List.length_append, List.length_take, List.length_drop, mark3, List.length_cons, List.length_nil] at h2 ⊢
  omega
theorem Sq.ends {l : List Int} {at_ p : Nat} {out : List Int} (h : Sq l at_ p out) (hlt : ¬ at_ < l.length) : sq l 0 0 [] = out ++ SqP.plain (l.drop p) := h.eq.trans (sq_end hlt)
/-- The squeezed bytes. -/
def squeeze (l : List Int) : List Int := if 60000 < l.length then [] else sq l 0 0 []
end Go.Proofs.Ytbilpicolfpoaaa.SqF
