/- A right log, on plain data; Where an offset is in a right log, on plain data. -/
import Derived.Test.YticihnoekffelaaJC12
import Derived.Test.YticihnoekffelaaJC20
namespace Go.Proofs.Yticihnoekffelaa.LgP
set_option maxRecDepth 8000
open Recs SegW LogW
set_option linter.unusedVariables false
def inR (x lo hi : Int) : Bool := decide (lo ≤ x) && decide (x ≤ hi)
/-- Batches behind 'free' with no Epoch below 'ep': what is free behind them, and the last one's Epoch. -/
def bats (free ep : Int) : List Bat → Option (Int × Int)
  | [] => some (free, ep)
  | b :: t => if BOk.batOk b = true ∧ free ≤ b.base ∧ ep ≤ b.epoch then bats (b.base + b.recs.length) b.epoch t else none
def segs (free ep : Int) : List Sg → Option Int
  | [] => some free
  | s :: t => if free ≤ s.base ∧ (s.bats.length = 0 → t.length = 0) then
      match bats s.base ep s.bats with
      | none => none
      | some (f, e) => segs f e t
    else none
def many : List Sg → Nat
  | [] => 0
  | s :: t => s.bats.length + many t
def bounds (l : Lg) : Bool := inR l.next 0 1000000000 && (inR l.start 0 l.next && inR l.roll 1 20000)
def counts (l : List Sg) : Bool := decide (l.length ≤ 60) && decide (many l ≤ 400)
def stands (next : Int) : Option Int → Bool
  | none => false
  | some f => decide (f ≤ next)
def logOk (l : Lg) : Bool := bounds l && (counts l.segs && stands l.next (segs 0 0 l.segs))
theorem okLen {b : Bat} (h : BOk.batOk b = true) : 0 ≤ b.base ∧ b.base ≤ 1000000000 ∧ 1 ≤ (b.recs.length : Int) ∧ (b.recs.length : Int) ≤ 40 := by
  simp only [BOk.batOk, BOk.okB1, BOk.okB3, BOk.inR, Bool.and_eq_true, decide_eq_true_eq] at h
  omega
theorem drop_at {α : Type} [Inhabited α] {l : List α} {k : Nat} (h : k < l.length) : l.drop k = l.getD k default :: l.drop (k + 1) := by
  rw [List.drop_eq_getElem_cons h]
  simp [h]
theorem bats_le : ∀ (l : List Bat) (f e f' e' : Int), bats f e l = some (f', e') → f ≤ f'
  | [], f, e, f', e', h => by simp [bats] at h; omega
  | b :: t, f, e, f', e', h => by
    unfold bats at h
    split at h
    · rename_i hc
      have := okLen hc.1
      have := bats_le t _ _ _ _ h
      omega
    · cases h
theorem many_drop : ∀ (l : List Sg) (k : Nat), k < l.length → many (l.take (k + 1)) = many (l.take k) + (l.getD k default).bats.length
  | [], k, h => by simp at h
  | s :: t, 0, h => by simp [many]
  | s :: t, k + 1, h => by
    have := many_drop t k (by simpa using h)
    simp only [List.take_succ_cons, many, List.getD_cons_succ]
    omega
end Go.Proofs.Yticihnoekffelaa.LgP
namespace Go.Proofs.Yticihnoekffelaa.SrP
set_option maxRecDepth 8000
open Recs SegW LogW
open LgP (bats segs)
set_option linter.unusedVariables false
def bEnd (b : Bat) : Int := b.base + b.recs.length
def sEnd (s : Sg) : Int := bEnd (s.bats.getD (s.bats.length - 1) default)
/-- The Segment has an offset of at least x, or none at all. -/
def pS (x : Int) (s : Sg) : Bool := decide (s.bats.length = 0) || decide (x < sEnd s)
def pB (x : Int) (b : Bat) : Bool := decide (x < bEnd b)
theorem bats_ok : ∀ (l : List Bat) (f e f' e' : Int), bats f e l = some (f', e') → ∀ i, i < l.length → BOk.batOk (l.getD i default) = true
  | [], _, _, _, _, _, i, hi => by simp at hi
  | b :: t, f, e, f', e', h, i, hi => by
    unfold bats at h
    split at h
    · rename_i hc
      match i with
      | 0 => exact hc.1
      | i + 1 =>
        rw [List.getD_cons_succ]
        exact bats_ok t _ _ _ _ h i (by simpa using hi)
    · cases h
theorem bats_ge : ∀ (l : List Bat) (f e f' e' : Int), bats f e l = some (f', e') → ∀ i, i < l.length → f ≤ (l.getD i default).base
  | [], _, _, _, _, _, i, hi => by simp at hi
  | b :: t, f, e, f', e', h, i, hi => by
    unfold bats at h
    split at h
    · rename_i hc
      match i with
      | 0 => exact hc.2.1
      | i + 1 =>
        rw [List.getD_cons_succ]
        have := bats_ge t _ _ _ _ h i (by simpa using hi)
        have := LgP.okLen hc.1
        omega
    · cases h
theorem bats_end : ∀ (l : List Bat) (f e f' e' : Int), bats f e l = some (f', e') → l.length ≠ 0 → bEnd (l.getD (l.length - 1) default) = f'
  | [], _, _, _, _, _, hi => by simp at hi
  | [b], f, e, f', e', h, hi => by
    unfold bats at h
    split at h
    · simp [bats] at h
      simpa [bEnd] using h.1
    · cases h
  | b :: b2 :: t, f, e, f', e', h, hi => by
    unfold bats at h
    split at h
    · have := bats_end (b2 :: t) _ _ _ _ h (by simp)
      simpa using this
    · cases h
theorem bats_mono : ∀ (l : List Bat) (f e f' e' : Int), bats f e l = some (f', e') → ∀ i j, i ≤ j → j < l.length → bEnd (l.getD i default) ≤ bEnd (l.getD j default)
  | [], _, _, _, _, _, i, j, _, hj => by simp at hj
  | b :: t, f, e, f', e', h, i, j, hij, hj => by
    unfold bats at h
    split at h
    · rename_i hc
      match i, j with
      | 0, 0 => exact Int.le_refl _
      | 0, j + 1 =>
        rw [List.getD_cons_succ, List.getD_cons_zero]
        have a1 := bats_ge t _ _ _ _ h j (by simpa using hj)
        have a2 := LgP.okLen (bats_ok t _ _ _ _ h j (by simpa using hj))
        unfold bEnd
        omega
      | i + 1, 0 => omega
      | i + 1, j + 1 =>
        rw [List.getD_cons_succ, List.getD_cons_succ]
        exact bats_mono t _ _ _ _ h i j (by omega) (by simpa using hj)
    · cases h
theorem segs_head {f e f' : Int} {s : Sg} {t : List Sg} (h : segs f e (s :: t) = some f') : f ≤ s.base ∧ (s.bats.length = 0 → t.length = 0) ∧ ∃ f1 e1, bats s.base e s.bats = some (f1, e1) ∧ segs f1 e1 t = some f' := by
  unfold segs at h
  split at h
  · rename_i hc
    cases hb : bats s.base e s.bats with
    | none => rw [hb] at h; cases h
    | some p =>
      rw [hb] at h
      exact ⟨hc.1, hc.2, p.1, p.2, rfl, h⟩
  · cases h
theorem segs_ok : ∀ (ss : List Sg) (f e f' : Int), segs f e ss = some f' → ∀ i, i < ss.length → ∀ k, k < (ss.getD i default).bats.length → BOk.batOk ((ss.getD i default).bats.getD k default) = true
  | [], _, _, _, _, i, hi, _, _ => by simp at hi
  | s :: t, f, e, f', h, i, hi, k, hk => by
    obtain ⟨h1, h2, f1, e1, h3, h4⟩ := segs_head h
    match i with
    | 0 => exact bats_ok _ _ _ _ _ h3 k (by simpa using hk)
    | i + 1 =>
      rw [List.getD_cons_succ] at hk ⊢
      exact segs_ok t _ _ _ h4 i (by simpa using hi) k hk
theorem segs_some : ∀ (ss : List Sg) (f e f' : Int), segs f e ss = some f' → ∀ i, i + 1 < ss.length → (ss.getD i default).bats.length ≠ 0
  | [], _, _, _, _, i, hi => by simp at hi
  | s :: t, f, e, f', h, i, hi => by
    obtain ⟨h1, h2, f1, e1, h3, h4⟩ := segs_head h
    match i with
    | 0 =>
      intro h0
      have := h2 (by simpa using h0)
      simp at hi
      omega
    | i + 1 =>
      rw [List.getD_cons_succ]
      exact segs_some t _ _ _ h4 i (by simpa using hi)
theorem segs_bats : ∀ (ss : List Sg) (f e f' : Int), segs f e ss = some f' → ∀ i, i < ss.length → ∃ a b c d, bats a b (ss.getD i default).bats = some (c, d) ∧ f ≤ a ∧ a = (ss.getD i default).base
  | [], _, _, _, _, i, hi => by simp at hi
  | s :: t, f, e, f', h, i, hi => by
    obtain ⟨h1, h2, f1, e1, h3, h4⟩ := segs_head h
    match i with
    | 0 => exact ⟨_, _, _, _, h3, h1, rfl⟩
    | i + 1 =>
      rw [List.getD_cons_succ]
      obtain ⟨a, b, c, d, q1, q2, q3⟩ := segs_bats t _ _ _ h4 i (by simpa using hi)
      have := LgP.bats_le _ _ _ _ _ h3
      exact ⟨a, b, c, d, q1, by omega, q3⟩
theorem segs_ge {ss : List Sg} {f e f' : Int} (h : segs f e ss = some f') (i : Nat) (hi : i < ss.length) (h0 : (ss.getD i default).bats.length ≠ 0) : f ≤ sEnd (ss.getD i default) := by
  obtain ⟨a, b, c, d, q1, q2, q3⟩ := segs_bats ss f e f' h i hi
  have a1 := bats_ge _ _ _ _ _ q1 ((ss.getD i default).bats.length - 1) (by omega)
  have a2 := LgP.okLen (bats_ok _ _ _ _ _ q1 ((ss.getD i default).bats.length - 1) (by omega))
  unfold sEnd bEnd
  omega
theorem segs_mono : ∀ (ss : List Sg) (f e f' : Int), segs f e ss = some f' → ∀ i j, i ≤ j → j < ss.length → ∀ x, pS x (ss.getD i default) = true → pS x (ss.getD j default) = true
  | [], _, _, _, _, i, j, _, hj => by simp at hj
  | s :: t, f, e, f', h, i, j, hij, hj => fun x hp => by
    obtain ⟨h1, h2, f1, e1, h3, h4⟩ := segs_head h
    match i, j with
    | 0, 0 => exact hp
    | i + 1, 0 => omega
    | i + 1, j + 1 =>
      rw [List.getD_cons_succ] at hp ⊢
      exact segs_mono t _ _ _ h4 i j (by omega) (by simpa using hj) x hp
    | 0, j + 1 =>
      rw [List.getD_cons_succ]
      rw [List.getD_cons_zero] at hp
      simp at hj
      have hs : s.bats.length ≠ 0 := fun h0 => by have := h2 h0; omega
      have he := bats_end _ _ _ _ _ h3 hs
      unfold pS at hp ⊢
      simp only [Bool.or_eq_true, decide_eq_true_eq] at hp ⊢
      by_cases h0 : (t.getD j default).bats.length = 0
      · exact .inl h0
      · have := segs_ge h4 j hj h0
        rcases hp with hp | hp
        · exact absurd hp hs
        · right
          unfold sEnd at hp
          omega
/-- What a search by halves finds. -/
structure Fnd (p : Nat → Bool) (n r : Nat) : Prop where
  le : r ≤ n
  no : ∀ i, i < r → p i = false
  yes : r < n → p r = true
/-- How many Segments go: the last one stays. -/
def kf (p : Sg → Bool) : List Sg → Nat
  | [] => 0
  | [s] => 0
  | s :: t :: r => if p s = true then 0 else 1 + kf p (t :: r)
theorem kf_le (p : Sg → Bool) : ∀ ss : List Sg, kf p ss ≤ ss.length
  | [] => by simp [kf]
  | [s] => by simp [kf]
  | s :: t :: r => by
    have := kf_le p (t :: r)
    unfold kf
    split
    · omega
    · simp only [List.length_cons] at this ⊢; omega
theorem kf_found (p : Sg → Bool) : ∀ (ss : List Sg) (r : Nat), Fnd (fun i => p (ss.getD i default)) ss.length r → kf p ss = if r = ss.length ∧ 0 < r then r - 1 else r
  | [], r, h => by
    have := h.le
    simp at this
    simp [kf, this]
  | [s], r, h => by
    have := h.le
    simp only [List.length_cons, List.length_nil] at this ⊢
    unfold kf
    split <;> omega
  | s :: t :: u, r, h => by
    unfold kf
    by_cases hp : p s = true
    · rw [if_pos hp]
      have : r = 0 := by
        rcases Nat.eq_zero_or_pos r with h0 | h0
        · exact h0
        · have := h.no 0 h0
          simp [hp] at this
      subst this
      simp
    · rw [if_neg hp]
      have hr : 0 < r := by
        rcases Nat.eq_zero_or_pos r with h0 | h0
        · subst h0
          have := h.yes (by simp)
          exact absurd (by simpa using this) hp
        · exact h0
      have ih := kf_found p (t :: u) (r - 1) ⟨by have := h.le; simp at this ⊢; omega, fun i hi => by have := h.no (i + 1) (by omega); simpa using this, fun hi => by
        have := h.yes (by simp at hi ⊢; omega)
        rw [show r = (r - 1) + 1 by omega] at this
        simpa using this⟩
      rw [ih]
      have := h.le
      simp only [List.length_cons] at this ⊢
      split <;> split <;> omega
end Go.Proofs.Yticihnoekffelaa.SrP
