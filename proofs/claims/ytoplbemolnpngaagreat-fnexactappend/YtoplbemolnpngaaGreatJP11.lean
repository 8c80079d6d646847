/- Where an offset is in a right log, on plain data; The batches of a log from an offset on, on plain data; The groups of a number, as plain lists of numbers. -/
import Derived.Laws.BitsLemmas
import Derived.Laws.Bits64
import Derived.Laws.Bits64b
import Derived.Laws.Entries
import Derived.Test.YtoplbemolnpngaaGreatJP10
import Derived.Test.YtoplbemolnpngaaGreatJP05
namespace Go.Proofs.YtoplbemolnpngaaGreat.SrP
set_option maxRecDepth 8000
open Recs SegW LogW
open LgP (bats segs)
set_option linter.unusedVariables false
def bEnd (b : Bat) : Int := b.base + b.recs.length
def sEnd (s : Sg) : Int := bEnd (s.bats.getD (s.bats.length - 1) default)
/-- The Segment has an offset of at least x, or none at all. -/
def pS (x : Int) (s : Sg) : Bool := decide (s.bats.length = 0) || decide (x < sEnd s)
def pB (x : Int) (b : Bat) : Bool := decide (x < bEnd b)
theorem bats_ok : ∀ (l : List Bat) (f e f' e' : Int), bats f e l = some (f', e') → ∀ i, i < l.length → BOk.batOk (l.getD i default) = true
  | [], _, _, _, _, _, i, hi => by simp at hi
  | b :: t, f, e, f', e', h, i, hi => by
    unfold bats at h
    split at h
    · rename_i hc
      match i with
      | 0 => exact hc.1
      | i + 1 =>
        rw [List.getD_cons_succ]
        exact bats_ok t _ _ _ _ h i (by simpa using hi)
    · cases h
theorem bats_ge : ∀ (l : List Bat) (f e f' e' : Int), bats f e l = some (f', e') → ∀ i, i < l.length → f ≤ (l.getD i default).base
  | [], _, _, _, _, _, i, hi => by simp at hi
  | b :: t, f, e, f', e', h, i, hi => by
    unfold bats at h
    split at h
    · rename_i hc
      match i with
      | 0 => exact hc.2.1
      | i + 1 =>
        rw [List.getD_cons_succ]
        have := bats_ge t _ _ _ _ h i (by simpa using hi)
        have := LgP.okLen hc.1
        omega
    · cases h
theorem bats_end : ∀ (l : List Bat) (f e f' e' : Int), bats f e l = some (f', e') → l.length ≠ 0 → bEnd (l.getD (l.length - 1) default) = f'
  | [], _, _, _, _, _, hi => by simp at hi
  | [b], f, e, f', e', h, hi => by
    unfold bats at h
    split at h
    · simp [bats] at h
      simpa [bEnd] using h.1
    · cases h
  | b :: b2 :: t, f, e, f', e', h, hi => by
    unfold bats at h
    split at h
    · have := bats_end (b2 :: t) _ _ _ _ h (by simp)
      simpa using this
    · cases h
theorem bats_mono : ∀ (l : List Bat) (f e f' e' : Int), bats f e l = some (f', e') → ∀ i j, i ≤ j → j < l.length → bEnd (l.getD i default) ≤ bEnd (l.getD j default)
  | [], _, _, _, _, _, i, j, _, hj => by simp at hj
  | b :: t, f, e, f', e', h, i, j, hij, hj => by
    unfold bats at h
    split at h
    · rename_i hc
      match i, j with
      | 0, 0 => exact Int.le_refl _
      | 0, j + 1 =>
        rw [List.getD_cons_succ, List.getD_cons_zero]
        have a1 := bats_ge t _ _ _ _ h j (by simpa using hj)
        have a2 := LgP.okLen (bats_ok t _ _ _ _ h j (by simpa using hj))
        unfold bEnd
        omega
      | i + 1, 0 => omega
      | i + 1, j + 1 =>
        rw [List.getD_cons_succ, List.getD_cons_succ]
        exact bats_mono t _ _ _ _ h i j (by omega) (by simpa using hj)
    · cases h
theorem segs_head {f e f' : Int} {s : Sg} {t : List Sg} (h : segs f e (s :: t) = some f') : f ≤ s.base ∧ (s.bats.length = 0 → t.length = 0) ∧ ∃ f1 e1, bats s.base e s.bats = some (f1, e1) ∧ segs f1 e1 t = some f' := by
  unfold segs at h
  split at h
  · rename_i hc
    cases hb : bats s.base e s.bats with
    | none => rw [hb] at h; cases h
    | some p =>
      rw [hb] at h
      exact ⟨hc.1, hc.2, p.1, p.2, rfl, h⟩
  · cases h
theorem segs_ok : ∀ (ss : List Sg) (f e f' : Int), segs f e ss = some f' → ∀ i, i < ss.length → ∀ k, k < (ss.getD i default).bats.length → BOk.batOk ((ss.getD i default).bats.getD k default) = true
  | [], _, _, _, _, i, hi, _, _ => by simp at hi
  | s :: t, f, e, f', h, i, hi, k, hk => by
    obtain ⟨h1, h2, f1, e1, h3, h4⟩ := segs_head h
    match i with
    | 0 => exact bats_ok _ _ _ _ _ h3 k (by simpa using hk)
    | i + 1 =>
      rw [List.getD_cons_succ] at hk ⊢
      exact segs_ok t _ _ _ h4 i (by simpa using hi) k hk
theorem segs_some : ∀ (ss : List Sg) (f e f' : Int), segs f e ss = some f' → ∀ i, i + 1 < ss.length → (ss.getD i default).bats.length ≠ 0
  | [], _, _, _, _, i, hi => by simp at hi
  | s :: t, f, e, f', h, i, hi => by
    obtain ⟨h1, h2, f1, e1, h3, h4⟩ := segs_head h
    match i with
    | 0 =>
      intro h0
      have := h2 (by simpa using h0)
      simp at hi
      omega
    | i + 1 =>
      rw [List.getD_cons_succ]
      exact segs_some t _ _ _ h4 i (by simpa using hi)
theorem segs_bats : ∀ (ss : List Sg) (f e f' : Int), segs f e ss = some f' → ∀ i, i < ss.length → ∃ a b c d, bats a b (ss.getD i default).bats = some (c, d) ∧ f ≤ a ∧ a = (ss.getD i default).base
  | [], _, _, _, _, i, hi => by simp at hi
  | s :: t, f, e, f', h, i, hi => by
    obtain ⟨h1, h2, f1, e1, h3, h4⟩ := segs_head h
    match i with
    | 0 => exact ⟨_, _, _, _, h3, h1, rfl⟩
    | i + 1 =>
      rw [List.getD_cons_succ]
      obtain ⟨a, b, c, d, q1, q2, q3⟩ := segs_bats t _ _ _ h4 i (by simpa using hi)
      have := LgP.bats_le _ _ _ _ _ h3
      exact ⟨a, b, c, d, q1, by omega, q3⟩
theorem segs_ge {ss : List Sg} {f e f' : Int} (h : segs f e ss = some f') (i : Nat) (hi : i < ss.length) (h0 : (ss.getD i default).bats.length ≠ 0) : f ≤ sEnd (ss.getD i default) := by
  obtain ⟨a, b, c, d, q1, q2, q3⟩ := segs_bats ss f e f' h i hi
  have a1 := bats_ge _ _ _ _ _ q1 ((ss.getD i default).bats.length - 1) (by omega)
  have a2 := LgP.okLen (bats_ok _ _ _ _ _ q1 ((ss.getD i default).bats.length - 1) (by omega))
  unfold sEnd bEnd
  omega
theorem segs_mono : ∀ (ss : List Sg) (f e f' : Int), segs f e ss = some f' → ∀ i j, i ≤ j → j < ss.length → ∀ x, pS x (ss.getD i default) = true → pS x (ss.getD j default) = true
  | [], _, _, _, _, i, j, _, hj => by simp at hj
  | s :: t, f, e, f', h, i, j, hij, hj => fun x hp => by
    obtain ⟨h1, h2, f1, e1, h3, h4⟩ := segs_head h
    match i, j with
    | 0, 0 => exact hp
    | i + 1, 0 => omega
    | i + 1, j + 1 =>
      rw [List.getD_cons_succ] at hp ⊢
      exact segs_mono t _ _ _ h4 i j (by omega) (by simpa using hj) x hp
    | 0, j + 1 =>
      rw [List.getD_cons_succ]
      rw [List.getD_cons_zero] at hp
      simp at hj
      have hs : s.bats.length ≠ 0 := fun h0 => by have := h2 h0; omega
      have he := bats_end _ _ _ _ _ h3 hs
      unfold pS at hp ⊢
      simp only [Bool.or_eq_true, decide_eq_true_eq] at hp ⊢
      by_cases h0 : (t.getD j default).bats.length = 0
      · exact .inl h0
      · have := segs_ge h4 j hj h0
        rcases hp with hp | hp
        · exact absurd hp hs
        · right
          unfold sEnd at hp
          omega
/-- What a search by halves finds. -/
structure Fnd (p : Nat → Bool) (n r : Nat) : Prop where
  le : r ≤ n
  no : ∀ i, i < r → p i = false
  yes : r < n → p r = true
/-- How many Segments go: the last one stays. -/
def kf (p : Sg → Bool) : List Sg → Nat
  | [] => 0
  | [s] => 0
  | s :: t :: r => if p s = true then 0 else 1 + kf p (t :: r)
theorem kf_le (p : Sg → Bool) : ∀ ss : List Sg, kf p ss ≤ ss.length
  | [] => by simp [kf]
  | [s] => by simp [kf]
  | s :: t :: r => by
    have := kf_le p (t :: r)
    unfold kf
    split
    · omega
    · simp only [List.length_cons] at this ⊢; omega
theorem kf_found (p : Sg → Bool) : ∀ (ss : List Sg) (r : Nat), Fnd (fun i => p (ss.getD i default)) ss.length r → kf p ss = if r = ss.length ∧ 0 < r then r - 1 else r
  | [], r, h => by
    have := h.le
    simp at this
    simp [kf, this]
  | [s], r, h => by
    have := h.le
    simp only [List.length_cons, List.length_nil] at this ⊢
    unfold kf
    split <;> omega
  | s :: t :: u, r, h => by
    unfold kf
    by_cases hp : p s = true
    · rw [if_pos hp]
      have : r = 0 := by
        rcases Nat.eq_zero_or_pos r with h0 | h0
        · exact h0
        · have := h.no 0 h0
          simp [hp] at this
      subst this
      simp
    · rw [if_neg hp]
      have hr : 0 < r := by
        rcases Nat.eq_zero_or_pos r with h0 | h0
        · subst h0
          have := h.yes (by simp)
          exact absurd (by simpa using this) hp
        · exact h0
      have ih := kf_found p (t :: u) (r - 1) ⟨by have := h.le; simp at this ⊢; omega, fun i hi => by have := h.no (i + 1) (by omega); simpa using this, fun hi => by
        have := h.yes (by simp at hi ⊢; omega)
        rw [show r = (r - 1) + 1 by omega] at this
        simpa using this⟩
      rw [ih]
      have := h.le
      simp only [List.length_cons] at this ⊢
      split <;> split <;> omega
end Go.Proofs.YtoplbemolnpngaaGreat.SrP
namespace Go.Proofs.YtoplbemolnpngaaGreat.BfP
set_option maxRecDepth 8000
open Recs SegW LogW SrP
open LgP (bats segs)
set_option linter.unusedVariables false
def flatB : List Sg → List Bat
  | [] => []
  | s :: t => s.bats ++ flatB t
def fromB (x : Int) (bs : List Bat) : List Bat := bs.filter (pB x)
theorem flatB_app : ∀ (a b : List Sg), flatB (a ++ b) = flatB a ++ flatB b
  | [], b => rfl
  | s :: t, b => by simp only [List.cons_append, flatB, flatB_app t b, List.append_assoc]
theorem takeOne {T : Type} [Inhabited T] {ts : List T} {j : Nat} (h : j < ts.length) : ts.take (j + 1) = ts.take j ++ [ts.getD j default] := by
  rw [List.take_add_one, List.getElem?_eq_getElem h]; simp [h]
theorem flatB_take {ss : List Sg} {i : Nat} (h : i < ss.length) : flatB (ss.take (i + 1)) = flatB (ss.take i) ++ (ss.getD i default).bats := by
  rw [takeOne h, flatB_app]
  simp [flatB]
theorem fromB_app (x : Int) (a b : List Bat) : fromB x (a ++ b) = fromB x a ++ fromB x b := by simp [fromB]
theorem fromB_none {x : Int} : ∀ {bs : List Bat}, (∀ i, i < bs.length → pB x (bs.getD i default) = false) → fromB x bs = []
  | [], _ => rfl
  | b :: t, h => by
    have h0 := h 0 (by simp)
    rw [List.getD_cons_zero] at h0
    have ih := fromB_none (x := x) (bs := t) (fun i hi => by have := h (i + 1) (by simpa using hi); rwa [List.getD_cons_succ] at this)
    unfold fromB at ih ⊢
    rw [List.filter_cons_of_neg (by rw [h0]; simp), ih]
theorem fromB_all {x : Int} : ∀ {bs : List Bat}, (∀ i, i < bs.length → pB x (bs.getD i default) = true) → fromB x bs = bs
  | [], _ => rfl
  | b :: t, h => by
    have h0 := h 0 (by simp)
    rw [List.getD_cons_zero] at h0
    have ih := fromB_all (x := x) (bs := t) (fun i hi => by have := h (i + 1) (by simpa using hi); rwa [List.getD_cons_succ] at this)
    unfold fromB at ih ⊢
    rw [List.filter_cons_of_pos h0, ih]
theorem getDT {T : Type} [Inhabited T] (l : List T) (k i : Nat) (h : i < k) : (l.take k).getD i default = l.getD i default := by
  rw [List.getD_eq_getElem?_getD, List.getElem?_take_of_lt h, ← List.getD_eq_getElem?_getD]
theorem getDD {T : Type} [Inhabited T] (l : List T) (k i : Nat) : (l.drop k).getD i default = l.getD (k + i) default := by
  rw [List.getD_eq_getElem?_getD, List.getElem?_drop, ← List.getD_eq_getElem?_getD]
theorem found_from {x : Int} {bs : List Bat} {r : Nat} (h : Fnd (fun i => pB x (bs.getD i default)) bs.length r) (hm : ∀ i j, i ≤ j → j < bs.length → pB x (bs.getD i default) = true → pB x (bs.getD j default) = true) : fromB x bs = bs.drop r := by
  conv => lhs; rw [← List.take_append_drop r bs]
  have hr := h.le
  rw [fromB_app, fromB_none (fun i hi => by
      rw [List.length_take] at hi
      rw [getDT _ _ _ (by omega)]
      exact h.no i (by omega)), List.nil_append]
  refine fromB_all (fun i hi => ?_)
  rw [List.length_drop] at hi
  rw [getDD]
  exact hm r (r + i) (by omega) (by omega) (h.yes (by omega))
theorem batB_mono {bs : List Bat} {f e f' e' : Int} (h : bats f e bs = some (f', e')) (x : Int) : ∀ i j, i ≤ j → j < bs.length → pB x (bs.getD i default) = true → pB x (bs.getD j default) = true := fun i j h1 h2 h3 => by
  have := bats_mono _ _ _ _ _ h i j h1 h2
  unfold pB at h3 ⊢
  simp only [decide_eq_true_eq] at h3 ⊢
  omega
theorem from_seg {s : Sg} {f e f' e' x : Int} (h : bats f e s.bats = some (f', e')) (hp : pS x s = false) : fromB x s.bats = [] := by
  unfold pS at hp
  simp only [Bool.or_eq_false_iff, decide_eq_false_iff_not] at hp
  refine fromB_none (fun i hi => ?_)
  have := bats_mono _ _ _ _ _ h i (s.bats.length - 1) (by omega) (by omega)
  have h2 := hp.2
  unfold sEnd at h2
  unfold pB
  exact decide_eq_false (by omega)
theorem from_ahead {x : Int} {ss : List Sg} (hb : ∀ i, i < ss.length → ∃ a b c d, bats a b (ss.getD i default).bats = some (c, d)) : ∀ r, r ≤ ss.length → (∀ i, i < r → pS x (ss.getD i default) = false) → fromB x (flatB (ss.take r)) = []
  | 0, _, _ => rfl
  | r + 1, hr, h => by
    obtain ⟨a, b, c, d, h1⟩ := hb r (by omega)
    rw [flatB_take (by omega), fromB_app, from_ahead hb r (by omega) (fun i hi => h i (by omega)), from_seg h1 (h r (by omega))]
    rfl
end Go.Proofs.YtoplbemolnpngaaGreat.BfP
namespace Go.Proofs.YtoplbemolnpngaaGreat.Nums
set_option maxRecDepth 8000

/-- The groups of u, the lowest first, f of them at most. -/
def digsF : Nat → Nat → List Int
  | 0, u => [(u : Int)]
  | f + 1, u => if u < 128 then [(u : Int)] else ((u % 128 + 128 : Nat) : Int) :: digsF f (u / 128)
theorem digsF_same : ∀ (f g u : Nat), u ≤ f → u ≤ g → digsF f u = digsF g u
  | 0, 0, u, _, _ => rfl
  | 0, g + 1, u, h, _ => by rw [digsF, digsF, if_pos (by omega)]
  | f + 1, 0, u, _, h => by rw [digsF, digsF, if_pos (by omega)]
  | f + 1, g + 1, u, h1, h2 => by
    rw [digsF, digsF]
    by_cases h : u < 128
    · rw [if_pos h, if_pos h]
    · rw [if_neg h, if_neg h, digsF_same f g (u / 128) (by omega) (by omega)]
/-- The groups of u, the lowest first. -/
def digs (u : Nat) : List Int := digsF u u

theorem digs_lt {u : Nat} (h : u < 128) : digs u = [(u : Int)] := by
  cases u with
  | zero => rfl
  | succ n => rw [digs, digsF, if_pos h]
theorem digs_ge {u : Nat} (h : ¬ u < 128) : digs u = ((u % 128 + 128 : Nat) : Int) :: digs (u / 128) := by
  cases u with
  | zero => omega
  | succ n => rw [digs, digsF, if_neg h, digs, digsF_same n ((n + 1) / 128) ((n + 1) / 128) (by omega) (Nat.le_refl _)]
theorem digs_len : ∀ (k u : Nat), u < 128 ^ k → 0 < k → (digs u).length ≤ k := by
  intro k
  induction k with
  | zero => intro u _ h; omega
  | succ k ih =>
    intro u hu _
    by_cases h : u < 128
    · rw [digs_lt h]; simp
    · rw [digs_ge h]
      have hk : 0 < k := by
        rcases Nat.eq_zero_or_pos k with rfl | h'
        · simp at hu; omega
        · exact h'
      have : u / 128 < 128 ^ k := by rw [Nat.div_lt_iff_lt_mul (by decide)]; rw [Nat.pow_succ] at hu; exact hu
      have := ih (u / 128) this hk
      simp; omega
theorem digs_len10 {u : Nat} (h : u < 18446744073709551616) : (digs u).length ≤ 10 := digs_len 10 u (by omega) (by decide)
theorem digs_pos (u : Nat) : 0 < (digs u).length := by
  by_cases h : u < 128
  · rw [digs_lt h]; simp
  · rw [digs_ge h]; simp

/-- The sign folded into the lowest bit. -/
def fold (n : Int) : Nat := if n < 0 then (-2 * n - 1).toNat else (2 * n).toNat
theorem fold_neg {n : Int} (h : n < 0) : fold n = (-2 * n - 1).toNat := by rw [fold, if_pos h]
theorem fold_pos {n : Int} (h : ¬ n < 0) : fold n = (2 * n).toNat := by rw [fold, if_neg h]
theorem fold_lt {n : Int} (h0 : -9223372036854775808 ≤ n) (h1 : n ≤ 9223372036854775807) : fold n < 18446744073709551616 := by
  unfold fold; split <;> omega
def put (n : Int) : List Int := digs (fold n)
theorem put_len {n : Int} (h0 : -9223372036854775808 ≤ n) (h1 : n ≤ 9223372036854775807) : (put n).length ≤ 10 := digs_len10 (fold_lt h0 h1)
theorem put_pos (n : Int) : 0 < (put n).length := digs_pos _

theorem u64_and127 (x : Int) (h0 : 0 ≤ x) (h1 : x < 18446744073709551616) : bits .and .u64 x 127 = x % 128 :=
  bits_mask .u64 64 (by decide) (fun n a b => by rw [IntKind.wrap_u64]; omega) 7 (by decide) x h0 h1
theorem u8_orr128 (y : Int) (h0 : 0 ≤ y) (h1 : y < 128) : bits .or .u8 y 128 = y + 128 := by
  obtain ⟨n, rfl⟩ := Int.eq_ofNat_of_zero_le h0
  have hn : n < 128 := by omega
  clear h0 h1
  revert n
  decide +kernel
theorem u64_not (x : Int) (h0 : 0 ≤ x) (h1 : x < 18446744073709551616) : bits .xor .u64 IntKind.u64.max x = 18446744073709551615 - x := by
  obtain ⟨a, rfl⟩ := Int.eq_ofNat_of_zero_le h0
  have ha : a < 18446744073709551616 := by omega
  have hm : IntKind.u64.max = ((18446744073709551615 : Nat) : Int) := by decide
  rw [hm, bits_xor_u64_nat _ _ (by decide) ha]
  have hb : (18446744073709551615 : Nat) ^^^ a = 18446744073709551615 - a := by
    have h := congrArg BitVec.toNat (show BitVec.allOnes 64 ^^^ BitVec.ofNat 64 a = ~~~ (BitVec.ofNat 64 a) from BitVec.allOnes_xor)
    rw [BitVec.toNat_xor, BitVec.toNat_not, BitVec.toNat_allOnes, BitVec.toNat_ofNat, Nat.mod_eq_of_lt (by omega)] at h
    exact h
  rw [hb]
  omega
theorem neg_fold (n : Int) (h0 : -9223372036854775808 ≤ n) (h : n < 0) :
    bits .xor .u64 IntKind.u64.max (IntKind.u64.wrap (IntKind.u64.wrap n * 2)) = ((fold n : Nat) : Int) := by
  rw [fold_neg h, IntKind.wrap_u64, IntKind.wrap_u64, u64_not _ (by omega) (by omega)]
  omega
theorem pos_fold (n : Int) (h : 0 ≤ n) : n * 2 = ((fold n : Nat) : Int) := by
  rw [fold_pos (by omega)]; omega

/-- The reading of groups from a place on, f of them at most: the k-th group next, u so far. -/
def scanF (l : List Int) (a : Nat) : Nat → Nat → Nat → Option (Nat × Nat)
  | 0, _, _ => none
  | f + 1, k, u =>
    if a + k < l.length then
      if k = 9 ∧ 1 < (l.getD (a + k) 0).toNat then none
      else if (l.getD (a + k) 0).toNat < 128 then
        if (l.getD (a + k) 0).toNat = 0 ∧ 0 < k then none else some (u + (l.getD (a + k) 0).toNat % 128 * 2 ^ (7 * k), a + k + 1)
      else scanF l a f (k + 1) (u + (l.getD (a + k) 0).toNat % 128 * 2 ^ (7 * k))
    else none
/-- The reading of groups from a place on: the k-th group next, u so far, ten of them at most. -/
def scan (l : List Int) (a k u : Nat) : Option (Nat × Nat) := scanF l a (10 - k) k u
theorem scan_eq (l : List Int) (a k u : Nat) : scan l a k u =
    if k < 10 then
      if a + k < l.length then
        if k = 9 ∧ 1 < (l.getD (a + k) 0).toNat then none
        else if (l.getD (a + k) 0).toNat < 128 then
          if (l.getD (a + k) 0).toNat = 0 ∧ 0 < k then none else some (u + (l.getD (a + k) 0).toNat % 128 * 2 ^ (7 * k), a + k + 1)
        else scan l a (k + 1) (u + (l.getD (a + k) 0).toNat % 128 * 2 ^ (7 * k))
      else none
    else none := by
  by_cases h : k < 10
  · rw [if_pos h]
    obtain ⟨f, hf⟩ : ∃ f, 10 - k = f + 1 := ⟨9 - k, by omega⟩
    have hf2 : 10 - (k + 1) = f := by omega
    unfold scan
    rw [hf, hf2]
    rfl
  · rw [if_neg h, scan, show 10 - k = 0 by omega]
    rfl

def unf (u : Nat) : Int := if u % 2 = 1 then -((u / 2 : Nat) : Int) - 1 else ((u / 2 : Nat) : Int)

/-- What GetInt answers, as three values. -/
def got : Option (Nat × Nat) → Array Value
  | none => #[.int .i64 0, .int .i64 0, .bool false]
  | some (u, nx) => #[.int .i64 (unf u), .int .i64 nx, .bool true]

theorem scan_short {l : List Int} {a k u : Nat} (h : ¬ a + k < l.length) : scan l a k u = none := by
  by_cases hk : k < 10
  · rw [scan_eq, if_pos hk, if_neg h]
  · rw [scan_eq, if_neg hk]
theorem scan_ten {l : List Int} {a u x : Nat} (h : a + 9 < l.length) (hx : (l.getD (a + 9) 0).toNat = x) (h1 : 1 < x) : scan l a 9 u = none := by
  rw [scan_eq, if_pos (by decide), if_pos h, hx, if_pos ⟨rfl, h1⟩]
theorem scan_more {l : List Int} {a k u x : Nat} (hk : k < 9) (h : a + k < l.length) (hx : (l.getD (a + k) 0).toNat = x) (h1 : ¬ x < 128) : scan l a k u = scan l a (k + 1) (u + x % 128 * 2 ^ (7 * k)) := by
  rw [scan_eq, if_pos (by omega), if_pos h, hx, if_neg (by omega), if_neg h1]
theorem scan_void {l : List Int} {a k u x : Nat} (hk : k < 10) (h0 : 0 < k) (h : a + k < l.length) (hx : (l.getD (a + k) 0).toNat = x) (h1 : x = 0) : scan l a k u = none := by
  rw [scan_eq, if_pos hk, if_pos h, hx, if_neg (by omega), if_pos (by omega), if_pos ⟨h1, h0⟩]
theorem scan_last {l : List Int} {a k u x : Nat} (hk : k < 10) (h : a + k < l.length) (hx : (l.getD (a + k) 0).toNat = x) (h9 : ¬ (k = 9 ∧ 1 < x)) (h1 : x < 128) (h2 : ¬ (x = 0 ∧ 0 < k)) : scan l a k u = some (u + x % 128 * 2 ^ (7 * k), a + k + 1) := by
  rw [scan_eq, if_pos hk, if_pos h, hx, if_neg h9, if_pos h1, if_neg h2]
theorem sum_lt {u x k : Nat} (hu : u < 2 ^ (7 * k)) : u + x % 128 * 2 ^ (7 * k) < 2 ^ (7 * (k + 1)) := by
  have e : 2 ^ (7 * (k + 1)) = 2 ^ (7 * k) * 128 := by rw [Nat.mul_succ, Nat.pow_add]
  have : x % 128 * 2 ^ (7 * k) ≤ 127 * 2 ^ (7 * k) := Nat.mul_le_mul_right _ (by omega)
  omega
theorem sum_64 {u x k : Nat} (hk : k < 10) (hu : u < 2 ^ (7 * k)) (h9 : ¬ (k = 9 ∧ 1 < x)) : u + x % 128 * 2 ^ (7 * k) < 18446744073709551616 := by
  by_cases h : k = 9
  · subst h
    have hx : x % 128 ≤ 1 := by omega
    have : x % 128 * 2 ^ (7 * 9) ≤ 1 * 2 ^ (7 * 9) := Nat.mul_le_mul_right _ hx
    have e : (2 : Nat) ^ (7 * 9) = 9223372036854775808 := by decide
    omega
  · have := sum_lt (x := x) hu
    have e : (2 : Nat) ^ (7 * (k + 1)) ≤ 2 ^ 63 := Nat.pow_le_pow_right (by decide) (by omega)
    have e2 : (2 : Nat) ^ 63 = 9223372036854775808 := by decide
    omega
theorem prod_64 {x k : Nat} (hk : k < 10) (h9 : ¬ (k = 9 ∧ 1 < x)) : x % 128 * 2 ^ (7 * k) < 18446744073709551616 := by
  have := sum_64 (u := 0) (x := x) hk (Nat.two_pow_pos _) h9
  omega
theorem or_add {u x k : Nat} (hk : k < 10) (hu : u < 2 ^ (7 * k)) (h9 : ¬ (k = 9 ∧ 1 < x)) :
    bits .or .u64 (u : Int) ((x % 128 * 2 ^ (7 * k) : Nat) : Int) = ((u + x % 128 * 2 ^ (7 * k) : Nat) : Int) := by
  have h1 := sum_64 (x := x) hk hu h9
  rw [bits_or_u64_nat _ _ (by omega) (by omega)]
  congr 1
  rw [Nat.mul_comm, Nat.add_comm, Nat.or_comm, Nat.two_pow_add_eq_or_of_lt hu]
theorem shl_x {x k : Nat} (hk : k < 10) (h9 : ¬ (k = 9 ∧ 1 < x)) (m : Int) (hm : m = ((x % 128 : Nat) : Int)) : IntKind.u64.wrap (m * 2 ^ (7 * k)) = ((x % 128 * 2 ^ (7 * k) : Nat) : Int) := by
  have h1 := prod_64 hk h9
  rw [hm, IntKind.wrap_u64]
  have : (((x % 128 : Nat) : Int) * 2 ^ (7 * k)) = ((x % 128 * 2 ^ (7 * k) : Nat) : Int) := by simp
  rw [this]
  omega
theorem u8_and127 (x : Int) (h0 : 0 ≤ x) (h1 : x < 256) : bits .and .u8 x 127 = x % 128 := bits_mask .u8 8 (by decide) wraps_u8 7 (by decide) x h0 h1
theorem u64_and1 (x : Int) (h0 : 0 ≤ x) (h1 : x < 18446744073709551616) : bits .and .u64 x 1 = x % 2 :=
  bits_mask .u64 64 (by decide) (fun n a b => by rw [IntKind.wrap_u64]; omega) 1 (by decide) x h0 h1
theorem shl_p {x k p : Nat} (hk : k < 10) (h9 : ¬ (k = 9 ∧ 1 < x)) (hp : p = x % 128 * 2 ^ (7 * k)) : IntKind.u64.wrap ((x : Int) % 128 * 2 ^ (7 * k)) = (p : Int) := by
  rw [shl_x hk h9 _ (by omega), hp]
theorem or_p {x k p m : Nat} (hk : k < 10) (hu : m < 2 ^ (7 * k)) (h9 : ¬ (k = 9 ∧ 1 < x)) (hp : p = x % 128 * 2 ^ (7 * k)) : bits .or .u64 (m : Int) (p : Int) = (m : Int) + (p : Int) := by
  have := or_add hk hu h9
  rw [← hp] at this
  rw [this]; simp
/-- Where a reading stands: k groups are read, they come to m. -/
structure At (l : List Int) (a k m : Nat) : Prop where
  lt : m < 2 ^ (7 * k)
  eq : scan l a 0 0 = scan l a k m
theorem At.start (l : List Int) (a : Nat) : At l a 0 0 := ⟨by decide, rfl⟩
theorem At.short {l : List Int} {a k m : Nat} (h : At l a k m) (hl : ¬ a + k < l.length) : scan l a 0 0 = none := h.eq.trans (scan_short hl)
theorem At.next {l : List Int} {a k m x p : Nat} (h : At l a k m) (hk : k < 9) (hl : a + k < l.length) (hx : (l.getD (a + k) 0).toNat = x) (h1 : ¬ x < 128) (hp : p = x % 128 * 2 ^ (7 * k)) : At l a (k + 1) (m + p) :=
  ⟨by rw [hp]; exact sum_lt h.lt, by rw [hp]; exact h.eq.trans (scan_more hk hl hx h1)⟩
theorem zk {x k : Nat} (h : ¬ (x = 0 ∧ 0 < k)) : (((x : Int) == 0) && decide (0 < (k : Int))) = false := by
  rw [Bool.and_eq_false_iff]
  by_cases hx : x = 0
  · exact .inr (by simp; omega)
  · exact .inl (beq_eq_false_iff_ne.2 (by omega))
theorem unf_odd {m p : Nat} (h : (((m : Int) + (p : Int)) % 2 == 1) = true) : -(((m : Int) + (p : Int)) / 2) - 1 = unf (m + p) := by
  have := eq_of_beq h
  rw [unf, if_pos (by omega)]; omega
theorem unf_even {m p : Nat} (h : (((m : Int) + (p : Int)) % 2 == 1) = false) : ((m : Int) + (p : Int)) / 2 = unf (m + p) := by
  have := ne_of_beq_false h
  rw [unf, if_neg (by omega)]; omega
end Go.Proofs.YtoplbemolnpngaaGreat.Nums
