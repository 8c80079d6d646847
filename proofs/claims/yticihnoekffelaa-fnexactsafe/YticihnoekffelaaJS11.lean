/- Where an offset is in a right log, on plain data; The batches of a log from an offset on, on plain data; A number that lies between two: the model's asker and the program's. -/
import Derived.WalkLawsBesides
import Derived.WalkSmall
import Derived.RegionTactic
import Derived.Maps.AppendAt
import Derived.Laws.Rows
import Derived.Deep.RegionWith
import Derived.Outline
import Derived.Test.YticihnoekffelaaRows
import Derived.Test.YticihnoekffelaaJS10
import Derived.Test.YticihnoekffelaaJS05
import Derived.Test.YticihnoekffelaaJS01
namespace Go.Proofs.Yticihnoekffelaa.SrP
set_option maxRecDepth 8000
open Recs SegW LogW
open LgP (bats segs)
set_option linter.unusedVariables false
def bEnd (b : Bat) : Int := b.base + b.recs.length
def sEnd (s : Sg) : Int := bEnd (s.bats.getD (s.bats.length - 1) default)
/-- The Segment has an offset of at least x, or none at all. -/
def pS (x : Int) (s : Sg) : Bool := decide (s.bats.length = 0) || decide (x < sEnd s)
def pB (x : Int) (b : Bat) : Bool := decide (x < bEnd b)
theorem bats_ok : ∀ (l : List Bat) (f e f' e' : Int), bats f e l = some (f', e') → ∀ i, i < l.length → BOk.batOk (l.getD i default) = true
  | [], _, _, _, _, _, i, hi => by simp at hi
  | b :: t, f, e, f', e', h, i, hi => by
    unfold bats at h
    split at h
    · rename_i hc
      match i with
      | 0 => exact hc.1
      | i + 1 =>
        rw [List.getD_cons_succ]
        exact bats_ok t _ _ _ _ h i (by simpa using hi)
    · cases h
theorem bats_ge : ∀ (l : List Bat) (f e f' e' : Int), bats f e l = some (f', e') → ∀ i, i < l.length → f ≤ (l.getD i default).base
  | [], _, _, _, _, _, i, hi => by simp at hi
  | b :: t, f, e, f', e', h, i, hi => by
    unfold bats at h
    split at h
    · rename_i hc
      match i with
      | 0 => exact hc.2.1
      | i + 1 =>
        rw [List.getD_cons_succ]
        have := bats_ge t _ _ _ _ h i (by simpa using hi)
        have := LgP.okLen hc.1
        omega
    · cases h
theorem bats_end : ∀ (l : List Bat) (f e f' e' : Int), bats f e l = some (f', e') → l.length ≠ 0 → bEnd (l.getD (l.length - 1) default) = f'
  | [], _, _, _, _, _, hi => by simp at hi
  | [b], f, e, f', e', h, hi => by
    unfold bats at h
    split at h
    · simp [bats] at h
      simpa [bEnd] using h.1
    · cases h
  | b :: b2 :: t, f, e, f', e', h, hi => by
    unfold bats at h
    split at h
    · have := bats_end (b2 :: t) _ _ _ _ h (by simp)
      simpa using this
    · cases h
theorem bats_mono : ∀ (l : List Bat) (f e f' e' : Int), bats f e l = some (f', e') → ∀ i j, i ≤ j → j < l.length → bEnd (l.getD i default) ≤ bEnd (l.getD j default)
  | [], _, _, _, _, _, i, j, _, hj => by simp at hj
  | b :: t, f, e, f', e', h, i, j, hij, hj => by
    unfold bats at h
    split at h
    · rename_i hc
      match i, j with
      | 0, 0 => exact Int.le_refl _
      | 0, j + 1 =>
        rw [List.getD_cons_succ, List.getD_cons_zero]
        have a1 := bats_ge t _ _ _ _ h j (by simpa using hj)
        have a2 := LgP.okLen (bats_ok t _ _ _ _ h j (by simpa using hj))
        unfold bEnd
        omega
      | i + 1, 0 => omega
      | i + 1, j + 1 =>
        rw [List.getD_cons_succ, List.getD_cons_succ]
        exact bats_mono t _ _ _ _ h i j (by omega) (by simpa using hj)
    · cases h
theorem segs_head {f e f' : Int} {s : Sg} {t : List Sg} (h : segs f e (s :: t) = some f') : f ≤ s.base ∧ (s.bats.length = 0 → t.length = 0) ∧ ∃ f1 e1, bats s.base e s.bats = some (f1, e1) ∧ segs f1 e1 t = some f' := by
  unfold segs at h
  split at h
  · rename_i hc
    cases hb : bats s.base e s.bats with
    | none => rw [hb] at h; cases h
    | some p =>
      rw [hb] at h
      exact ⟨hc.1, hc.2, p.1, p.2, rfl, h⟩
  · cases h
theorem segs_ok : ∀ (ss : List Sg) (f e f' : Int), segs f e ss = some f' → ∀ i, i < ss.length → ∀ k, k < (ss.getD i default).bats.length → BOk.batOk ((ss.getD i default).bats.getD k default) = true
  | [], _, _, _, _, i, hi, _, _ => by simp at hi
  | s :: t, f, e, f', h, i, hi, k, hk => by
    obtain ⟨h1, h2, f1, e1, h3, h4⟩ := segs_head h
    match i with
    | 0 => exact bats_ok _ _ _ _ _ h3 k (by simpa using hk)
    | i + 1 =>
      rw [List.getD_cons_succ] at hk ⊢
      exact segs_ok t _ _ _ h4 i (by simpa using hi) k hk
theorem segs_some : ∀ (ss : List Sg) (f e f' : Int), segs f e ss = some f' → ∀ i, i + 1 < ss.length → (ss.getD i default).bats.length ≠ 0
  | [], _, _, _, _, i, hi => by simp at hi
  | s :: t, f, e, f', h, i, hi => by
    obtain ⟨h1, h2, f1, e1, h3, h4⟩ := segs_head h
    match i with
    | 0 =>
      intro h0
      have := h2 (by simpa using h0)
      simp at hi
      omega
    | i + 1 =>
      rw [List.getD_cons_succ]
      exact segs_some t _ _ _ h4 i (by simpa using hi)
theorem segs_bats : ∀ (ss : List Sg) (f e f' : Int), segs f e ss = some f' → ∀ i, i < ss.length → ∃ a b c d, bats a b (ss.getD i default).bats = some (c, d) ∧ f ≤ a ∧ a = (ss.getD i default).base
  | [], _, _, _, _, i, hi => by simp at hi
  | s :: t, f, e, f', h, i, hi => by
    obtain ⟨h1, h2, f1, e1, h3, h4⟩ := segs_head h
    match i with
    | 0 => exact ⟨_, _, _, _, h3, h1, rfl⟩
    | i + 1 =>
      rw [List.getD_cons_succ]
      obtain ⟨a, b, c, d, q1, q2, q3⟩ := segs_bats t _ _ _ h4 i (by simpa using hi)
      have := LgP.bats_le _ _ _ _ _ h3
      exact ⟨a, b, c, d, q1, by omega, q3⟩
theorem segs_ge {ss : List Sg} {f e f' : Int} (h : segs f e ss = some f') (i : Nat) (hi : i < ss.length) (h0 : (ss.getD i default).bats.length ≠ 0) : f ≤ sEnd (ss.getD i default) := by
  obtain ⟨a, b, c, d, q1, q2, q3⟩ := segs_bats ss f e f' h i hi
  have a1 := bats_ge _ _ _ _ _ q1 ((ss.getD i default).bats.length - 1) (by omega)
  have a2 := LgP.okLen (bats_ok _ _ _ _ _ q1 ((ss.getD i default).bats.length - 1) (by omega))
  unfold sEnd bEnd
  omega
theorem segs_mono : ∀ (ss : List Sg) (f e f' : Int), segs f e ss = some f' → ∀ i j, i ≤ j → j < ss.length → ∀ x, pS x (ss.getD i default) = true → pS x (ss.getD j default) = true
  | [], _, _, _, _, i, j, _, hj => by simp at hj
  | s :: t, f, e, f', h, i, j, hij, hj => fun x hp => by
    obtain ⟨h1, h2, f1, e1, h3, h4⟩ := segs_head h
    match i, j with
    | 0, 0 => exact hp
    | i + 1, 0 => omega
    | i + 1, j + 1 =>
      rw [List.getD_cons_succ] at hp ⊢
      exact segs_mono t _ _ _ h4 i j (by omega) (by simpa using hj) x hp
    | 0, j + 1 =>
      rw [List.getD_cons_succ]
      rw [List.getD_cons_zero] at hp
      simp at hj
      have hs : s.bats.length ≠ 0 := fun h0 => by have := h2 h0; omega
      have he := bats_end _ _ _ _ _ h3 hs
      unfold pS at hp ⊢
      simp only [Bool.or_eq_true, decide_eq_true_eq] at hp ⊢
      by_cases h0 : (t.getD j default).bats.length = 0
      · exact .inl h0
      · have := segs_ge h4 j hj h0
        rcases hp with hp | hp
        · exact absurd hp hs
        · right
          unfold sEnd at hp
          omega
/-- What a search by halves finds. -/
structure Fnd (p : Nat → Bool) (n r : Nat) : Prop where
  le : r ≤ n
  no : ∀ i, i < r → p i = false
  yes : r < n → p r = true
/-- How many Segments go: the last one stays. -/
def kf (p : Sg → Bool) : List Sg → Nat
  | [] => 0
  | [s] => 0
  | s :: t :: r => if p s = true then 0 else 1 + kf p (t :: r)
theorem kf_le (p : Sg → Bool) : ∀ ss : List Sg, kf p ss ≤ ss.length
  | [] => by simp [kf]
  | [s] => by simp [kf]
  | s :: t :: r => by
    have := kf_le p (t :: r)
    unfold kf
    split
    · omega
    · simp only [List.length_cons] at this ⊢; omega
theorem kf_found (p : Sg → Bool) : ∀ (ss : List Sg) (r : Nat), Fnd (fun i => p (ss.getD i default)) ss.length r → kf p ss = if r = ss.length ∧ 0 < r then r - 1 else r
  | [], r, h => by
    have := h.le
    simp at this
    simp [kf, this]
  | [s], r, h => by
    have := h.le
    simp only [List.length_cons, List.length_nil] at this ⊢
    unfold kf
    split <;> omega
  | s :: t :: u, r, h => by
    unfold kf
    by_cases hp : p s = true
    · rw [if_pos hp]
      have : r = 0 := by
        rcases Nat.eq_zero_or_pos r with h0 | h0
        · exact h0
        · have := h.no 0 h0
          simp [hp] at this
      subst this
      simp
    · rw [if_neg hp]
      have hr : 0 < r := by
        rcases Nat.eq_zero_or_pos r with h0 | h0
        · subst h0
          have := h.yes (by simp)
          exact absurd (by simpa using this) hp
        · exact h0
      have ih := kf_found p (t :: u) (r - 1) ⟨by have := h.le; simp at this ⊢; omega, fun i hi => by have := h.no (i + 1) (by omega); simpa using this, fun hi => by
        have := h.yes (by simp at hi ⊢; omega)
        rw [show r = (r - 1) + 1 by omega] at this
        simpa using this⟩
      rw [ih]
      have := h.le
      simp only [List.length_cons] at this ⊢
      split <;> split <;> omega
end Go.Proofs.Yticihnoekffelaa.SrP
namespace Go.Proofs.Yticihnoekffelaa.BfP
set_option maxRecDepth 8000
open Recs SegW LogW SrP
open LgP (bats segs)
set_option linter.unusedVariables false
def flatB : List Sg → List Bat
  | [] => []
  | s :: t => s.bats ++ flatB t
def fromB (x : Int) (bs : List Bat) : List Bat := bs.filter (pB x)
theorem flatB_app : ∀ (a b : List Sg), flatB (a ++ b) = flatB a ++ flatB b
  | [], b => rfl
  | s :: t, b => by simp only [List.cons_append, flatB, flatB_app t b, List.append_assoc]
theorem takeOne {T : Type} [Inhabited T] {ts : List T} {j : Nat} (h : j < ts.length) : ts.take (j + 1) = ts.take j ++ [ts.getD j default] := by
  rw [List.take_add_one, List.getElem?_eq_getElem h]; simp [h]
theorem flatB_take {ss : List Sg} {i : Nat} (h : i < ss.length) : flatB (ss.take (i + 1)) = flatB (ss.take i) ++ (ss.getD i default).bats := by
  rw [takeOne h, flatB_app]
  simp [flatB]
theorem fromB_app (x : Int) (a b : List Bat) : fromB x (a ++ b) = fromB x a ++ fromB x b := by simp [fromB]
theorem fromB_none {x : Int} : ∀ {bs : List Bat}, (∀ i, i < bs.length → pB x (bs.getD i default) = false) → fromB x bs = []
  | [], _ => rfl
  | b :: t, h => by
    have h0 := h 0 (by simp)
    rw [List.getD_cons_zero] at h0
    have ih := fromB_none (x := x) (bs := t) (fun i hi => by have := h (i + 1) (by simpa using hi); rwa [List.getD_cons_succ] at this)
    unfold fromB at ih ⊢
    rw [List.filter_cons_of_neg (by rw [h0]; simp), ih]
theorem fromB_all {x : Int} : ∀ {bs : List Bat}, (∀ i, i < bs.length → pB x (bs.getD i default) = true) → fromB x bs = bs
  | [], _ => rfl
  | b :: t, h => by
    have h0 := h 0 (by simp)
    rw [List.getD_cons_zero] at h0
    have ih := fromB_all (x := x) (bs := t) (fun i hi => by have := h (i + 1) (by simpa using hi); rwa [List.getD_cons_succ] at this)
    unfold fromB at ih ⊢
    rw [List.filter_cons_of_pos h0, ih]
theorem getDT {T : Type} [Inhabited T] (l : List T) (k i : Nat) (h : i < k) : (l.take k).getD i default = l.getD i default := by
  rw [List.getD_eq_getElem?_getD, List.getElem?_take_of_lt h, ← List.getD_eq_getElem?_getD]
theorem getDD {T : Type} [Inhabited T] (l : List T) (k i : Nat) : (l.drop k).getD i default = l.getD (k + i) default := by
  rw [List.getD_eq_getElem?_getD, List.getElem?_drop, ← List.getD_eq_getElem?_getD]
theorem found_from {x : Int} {bs : List Bat} {r : Nat} (h : Fnd (fun i => pB x (bs.getD i default)) bs.length r) (hm : ∀ i j, i ≤ j → j < bs.length → pB x (bs.getD i default) = true → pB x (bs.getD j default) = true) : fromB x bs = bs.drop r := by
  conv => lhs; rw [← List.take_append_drop r bs]
  have hr := h.le
  rw [fromB_app, fromB_none (fun i hi => by
      rw [List.length_take] at hi
      rw [getDT _ _ _ (by omega)]
      exact h.no i (by omega)), List.nil_append]
  refine fromB_all (fun i hi => ?_)
  rw [List.length_drop] at hi
  rw [getDD]
  exact hm r (r + i) (by omega) (by omega) (h.yes (by omega))
theorem batB_mono {bs : List Bat} {f e f' e' : Int} (h : bats f e bs = some (f', e')) (x : Int) : ∀ i j, i ≤ j → j < bs.length → pB x (bs.getD i default) = true → pB x (bs.getD j default) = true := fun i j h1 h2 h3 => by
  have := bats_mono _ _ _ _ _ h i j h1 h2
  unfold pB at h3 ⊢
  simp only [decide_eq_true_eq] at h3 ⊢
  omega
theorem from_seg {s : Sg} {f e f' e' x : Int} (h : bats f e s.bats = some (f', e')) (hp : pS x s = false) : fromB x s.bats = [] := by
  unfold pS at hp
  simp only [Bool.or_eq_false_iff, decide_eq_false_iff_not] at hp
  refine fromB_none (fun i hi => ?_)
  have := bats_mono _ _ _ _ _ h i (s.bats.length - 1) (by omega) (by omega)
  have h2 := hp.2
  unfold sEnd at h2
  unfold pB
  exact decide_eq_false (by omega)
theorem from_ahead {x : Int} {ss : List Sg} (hb : ∀ i, i < ss.length → ∃ a b c d, bats a b (ss.getD i default).bats = some (c, d)) : ∀ r, r ≤ ss.length → (∀ i, i < r → pS x (ss.getD i default) = false) → fromB x (flatB (ss.take r)) = []
  | 0, _, _ => rfl
  | r + 1, hr, h => by
    obtain ⟨a, b, c, d, h1⟩ := hb r (by omega)
    rw [flatB_take (by omega), fromB_app, from_ahead hb r (by omega) (fun i hi => h i (by omega)), from_seg h1 (h r (by omega))]
    rfl
end Go.Proofs.Yticihnoekffelaa.BfP
namespace Go.Proofs.Yticihnoekffelaa.InB
set_option maxRecDepth 8000
open Go.RowKit
set_option linter.unusedVariables false
theorem l1In_any (x lo hi : Int) (w : World) : Calls Try.prog 23 #[.int .i64 x, .int .i64 lo, .int .i64 hi] w fun e w' => e = .returned (.bool (decide (lo ≤ x) && decide (x ≤ hi))) ∧ w = w' := by
  go_enter Try.func23, Try.ntmps23
  go_wp2
  all_goals
    go_ret
    exact ⟨Seg.ret_bool (by rw [Bool.eq_iff_iff]; simp; try omega), rfl⟩
theorem within_any (x lo hi : Int) (w : World) : Calls Try.prog 27 #[.int .i64 x, .int .i64 lo, .int .i64 hi] w fun e w' => e = .returned (.bool (decide (lo ≤ x) && decide (x ≤ hi))) ∧ w = w' := by
  go_enter Try.func27, Try.ntmps27
  go_wp2
  all_goals
    go_ret
    exact ⟨Seg.ret_bool (by rw [Bool.eq_iff_iff]; simp; try omega), rfl⟩
theorem l1In_b (x lo hi : Int) (b : Bool) (hb : (decide (lo ≤ x) && decide (x ≤ hi)) = b) (w : World) : Calls Try.prog 23 #[.int .i64 x, .int .i64 lo, .int .i64 hi] w fun e w' => e = .returned (.bool b) ∧ w = w' := by
  subst hb; exact l1In_any x lo hi w
theorem within_b (x lo hi : Int) (b : Bool) (hb : (decide (lo ≤ x) && decide (x ≤ hi)) = b) (w : World) : Calls Try.prog 27 #[.int .i64 x, .int .i64 lo, .int .i64 hi] w fun e w' => e = .returned (.bool b) ∧ w = w' := by
  subst hb; exact within_any x lo hi w
end Go.Proofs.Yticihnoekffelaa.InB
