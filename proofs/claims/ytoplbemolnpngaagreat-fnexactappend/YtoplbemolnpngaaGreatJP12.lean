/- A number comes back from its groups: the plain scan of them; The check of bytes, bit by bit and four bits at a time: the same; The copy at a place and the squeezed bytes, as plain lists. -/
import Derived.Laws.BitsLemmas
import Derived.Test.YtoplbemolnpngaaGreatJP11
import Derived.Test.YtoplbemolnpngaaGreatJP01
namespace Go.Proofs.YtoplbemolnpngaaGreat.Back
set_option maxRecDepth 8000
open Nums (digs scan fold unf put)

theorem scan_digs (l : List Int) (a : Nat) : ∀ (u k m : Nat), (∀ i, i < (digs u).length → l.getD (a + k + i) 0 = (digs u).getD i 0) → a + k + (digs u).length ≤ l.length → k + (digs u).length ≤ 10 →
    m + u * 2 ^ (7 * k) < 18446744073709551616 → (u ≠ 0 ∨ k = 0) → scan l a k m = some (m + u * 2 ^ (7 * k), a + k + (digs u).length) := by
  intro u
  induction u using Nat.strongRecOn with
  | _ u ih =>
    intro k m hl hlen h10 hm hz
    have hpos := Nums.digs_pos u
    by_cases hu : u < 128
    · rw [Nums.digs_lt hu] at hl hlen h10 ⊢
      have h0 := hl 0 (by simp)
      simp only [List.length_cons, List.length_nil, Nat.zero_add] at hlen h10 ⊢
      have hx : (l.getD (a + k) 0).toNat = u := by
        rw [Nat.add_zero] at h0
        rw [h0]; simp
      have h9 : ¬ (k = 9 ∧ 1 < u) := by
        rintro ⟨rfl, h1⟩
        have e : (2 : Nat) ^ (7 * 9) = 9223372036854775808 := by decide
        rw [e] at hm
        omega
      rw [Nums.scan_last (by omega) (by omega) hx h9 hu (by omega), Nat.mod_eq_of_lt hu]
    · rw [Nums.digs_ge hu] at hl hlen h10 ⊢
      have h0 := hl 0 (by simp)
      simp only [List.length_cons] at hlen h10 ⊢
      have hp2 := Nums.digs_pos (u / 128)
      have hx : (l.getD (a + k) 0).toNat = u % 128 + 128 := by
        rw [Nat.add_zero] at h0
        rw [h0]; simp
        omega
      rw [Nums.scan_more (by omega) (by omega) hx (by omega)]
      have e1 : (u % 128 + 128) % 128 = u % 128 := by omega
      have e2 : 2 ^ (7 * (k + 1)) = 128 * 2 ^ (7 * k) := by rw [Nat.mul_succ, Nat.pow_add, Nat.mul_comm]
      have e3 : u % 128 * 2 ^ (7 * k) + u / 128 * (128 * 2 ^ (7 * k)) = u * 2 ^ (7 * k) := by
        rw [← Nat.mul_assoc, ← Nat.add_mul]; congr 1; omega
      have e4 : m + (u % 128 + 128) % 128 * 2 ^ (7 * k) + u / 128 * 2 ^ (7 * (k + 1)) = m + u * 2 ^ (7 * k) := by rw [e1, e2, Nat.add_assoc, e3]
      rw [ih (u / 128) (by omega) (k + 1) (m + (u % 128 + 128) % 128 * 2 ^ (7 * k)) ?_ (by omega) (by omega) (by rw [e4]; exact hm) (.inl (by omega)), e4]
      · congr 2; omega
      · intro i hi
        have := hl (i + 1) (by simp; omega)
        rw [show a + (k + 1) + i = a + k + (i + 1) by omega, this]
        simp
theorem unf_fold (n : Int) : unf (fold n) = n := by
  by_cases h : n < 0
  · rw [Nums.fold_neg h, unf]
    split <;> omega
  · rw [Nums.fold_pos h, unf]
    split <;> omega
/-- The scan behind two bytes, ahead of one more. -/
theorem scan_put (n : Int) (h0 : -9223372036854775808 ≤ n) (h1 : n ≤ 9223372036854775807) (p q r : Int) : scan ([p, q] ++ put n ++ [r]) 2 0 0 = some (fold n, 2 + (put n).length) := by
  have hf := Nums.fold_lt h0 h1
  have hl := Nums.put_len h0 h1
  have := scan_digs ([p, q] ++ put n ++ [r]) 2 (fold n) 0 0 (fun i hi => by
    show ([p, q] ++ put n ++ [r]).getD (2 + 0 + i) 0 = (put n).getD i 0
    have hi2 : i < (put n).length := hi
    rw [List.getD_eq_getElem?_getD, List.getD_eq_getElem?_getD, List.getElem?_append_left (by simp; omega), List.getElem?_append_right (by simp)]
    simp) (by simp [put]; omega) (by show 0 + (put n).length ≤ 10; omega) (by simpa using hf) (.inr rfl)
  simpa [put] using this
theorem digs_byte : ∀ (u : Nat), ∀ x ∈ digs u, 0 ≤ x ∧ x < 256 := by
  intro u
  induction u using Nat.strongRecOn with
  | _ u ih =>
    intro x hx
    by_cases hu : u < 128
    · rw [Nums.digs_lt hu] at hx
      simp at hx; omega
    · rw [Nums.digs_ge hu] at hx
      rcases List.mem_cons.1 hx with rfl | hx
      · omega
      · exact ih (u / 128) (by omega) x hx
end Go.Proofs.YtoplbemolnpngaaGreat.Back
namespace Go.Proofs.YtoplbemolnpngaaGreat.Crc
set_option maxRecDepth 8000

def poly : Nat := 3988292384
def step (c : Nat) : Nat := if c % 2 = 1 then c / 2 ^^^ poly else c / 2
def steps : Nat → Nat → Nat
  | 0, c => c
  | k + 1, c => step (steps k c)
theorem step_odd {c : Nat} (h : c % 2 = 1) : step c = c / 2 ^^^ poly := by rw [step, if_pos h]
theorem step_even {c : Nat} (h : ¬ c % 2 = 1) : step c = c / 2 := by rw [step, if_neg h]
theorem poly_lt : poly < 4294967296 := by decide
theorem xor_lt {a b : Nat} (ha : a < 4294967296) (hb : b < 4294967296) : a ^^^ b < 4294967296 := Nat.xor_lt_two_pow (n := 32) ha hb
theorem step_lt {c : Nat} (h : c < 4294967296) : step c < 4294967296 := by
  unfold step
  split
  · exact xor_lt (by omega) poly_lt
  · omega
theorem steps_lt {c : Nat} (h : c < 4294967296) : ∀ k, steps k c < 4294967296
  | 0 => h
  | k + 1 => step_lt (steps_lt h k)
theorem step_xor (a b : Nat) : step (a ^^^ b) = step a ^^^ step b := by
  have hm : (a ^^^ b) % 2 = a % 2 ^^^ b % 2 := Nat.xor_mod_two_pow (n := 1)
  unfold step
  rw [Nat.xor_div_two, hm]
  have ha := Nat.mod_two_eq_zero_or_one a
  have hb := Nat.mod_two_eq_zero_or_one b
  rcases ha with ha | ha <;> rcases hb with hb | hb <;> simp [ha, hb]
  · rw [Nat.xor_assoc]
  · rw [Nat.xor_assoc, Nat.xor_assoc, Nat.xor_comm poly]
  · rw [Nat.xor_assoc, Nat.xor_comm poly, Nat.xor_assoc, Nat.xor_self, Nat.xor_zero]
theorem steps_xor (a b : Nat) : ∀ k, steps k (a ^^^ b) = steps k a ^^^ steps k b
  | 0 => rfl
  | k + 1 => by rw [steps, steps_xor a b k, step_xor]; rfl
theorem step_two (y : Nat) : step (2 * y) = y := by rw [step_even (by omega)]; omega
theorem steps_16 (y : Nat) : steps 4 (16 * y) = y := by
  show step (step (step (step (16 * y)))) = y
  rw [show 16 * y = 2 * (2 * (2 * (2 * y))) by omega, step_two, step_two, step_two, step_two]
theorem parts (z : Nat) : z = 16 * (z / 16) ^^^ z % 16 := by
  apply Nat.eq_of_testBit_eq
  intro i
  rw [Nat.testBit_xor, show 16 * (z / 16) = z / 2 ^ 4 * 2 ^ 4 by omega, Nat.testBit_mul_two_pow, show z % 16 = z % 2 ^ 4 by rfl, Nat.testBit_mod_two_pow, Nat.testBit_div_two_pow]
  by_cases h : i < 4
  · simp [h, Nat.not_le.2 h]
  · simp [h, Nat.le_of_not_lt h]
/-- Four steps at once, by the table's place. -/
theorem nib (z : Nat) : steps 4 z = z / 16 ^^^ steps 4 (z % 16) := by
  have := steps_xor (16 * (z / 16)) (z % 16) 4
  rw [← parts z, steps_16] at this
  exact this
theorem steps_add (j : Nat) : ∀ k c, steps (k + j) c = steps k (steps j c)
  | 0, c => by simp [steps]
  | k + 1, c => by rw [show k + 1 + j = (k + j) + 1 by omega, steps, steps_add j k c]; rfl

def upd (c : Nat) (x : Int) : Nat := steps 8 (c ^^^ x.toNat)
def crc (l : List Int) : Nat := l.foldl upd 4294967295
def check (l : List Int) : Int := ((crc l ^^^ 4294967295 : Nat) : Int)
theorem upd_two (c : Nat) (x : Int) : upd c x = (((c ^^^ x.toNat) / 16 ^^^ steps 4 ((c ^^^ x.toNat) % 16)) / 16 ^^^ steps 4 (((c ^^^ x.toNat) / 16 ^^^ steps 4 ((c ^^^ x.toNat) % 16)) % 16)) := by
  rw [upd, show (8 : Nat) = 4 + 4 by rfl, steps_add, nib (steps 4 _), nib (c ^^^ x.toNat)]
theorem upd_lt {c : Nat} {x : Int} (h : c < 4294967296) (hx : x < 256) : upd c x < 4294967296 := steps_lt (xor_lt h (by omega)) 8
theorem foldl_lt : ∀ (l : List Int) (c : Nat), c < 4294967296 → (∀ x ∈ l, x < 256) → l.foldl upd c < 4294967296
  | [], c, h, _ => h
  | x :: r, c, h, hx => foldl_lt r _ (upd_lt h (hx x (by simp))) (fun y hy => hx y (by simp [hy]))
theorem u32_xor (a b : Nat) (ha : a < 4294967296) (hb : b < 4294967296) : bits .xor .u32 (a : Int) (b : Int) = ((a ^^^ b : Nat) : Int) := by
  have h := xor_lt ha hb
  simp only [bits]
  rw [show IntKind.u32.bits = 32 by rfl, BitVec.toNat_xor, BitVec.toNat_ofInt, BitVec.toNat_ofInt, IntKind.wrap_u32]
  have e1 : ((a : Int) % ((2 ^ 32 : Nat) : Int)).toNat = a := by omega
  have e2 : ((b : Int) % ((2 ^ 32 : Nat) : Int)).toNat = b := by omega
  rw [e1, e2]
  omega
end Go.Proofs.YtoplbemolnpngaaGreat.Crc
namespace Go.Proofs.YtoplbemolnpngaaGreat.SqM
set_option maxRecDepth 8000
set_option linter.unusedVariables false

/-- How many from the first on are true, m at most. -/
def pre (p : Nat → Bool) : Nat → Nat
  | 0 => 0
  | m + 1 => if pre p m = m ∧ p m = true then m + 1 else pre p m
theorem pre_le (p : Nat → Bool) : ∀ m, pre p m ≤ m
  | 0 => Nat.le_refl _
  | m + 1 => by
    have := pre_le p m
    rw [pre]
    split <;> omega
theorem pre_in (p : Nat → Bool) : ∀ m j, j < pre p m → p j = true
  | 0, j, h => by simp [pre] at h
  | m + 1, j, h => by
    rw [pre] at h
    split at h
    · rename_i hc
      by_cases hj : j = m
      · subst hj; exact hc.2
      · exact pre_in p m j (by omega)
    · exact pre_in p m j h
theorem pre_out (p : Nat → Bool) : ∀ m, pre p m < m → p (pre p m) = false
  | 0, h => by omega
  | m + 1, h => by
    rw [pre] at h ⊢
    split at h
    · omega
    · rename_i hc
      rw [if_neg hc]
      by_cases hm : pre p m = m
      · rw [hm]
        cases hp : p m with
        | false => rfl
        | true => exact absurd ⟨hm, hp⟩ hc
      · have := pre_le p m
        exact pre_out p m (by omega)
theorem pre_is {p : Nat → Bool} {m k : Nat} (h1 : k ≤ m) (h2 : ∀ j, j < k → p j = true) (h3 : k < m → p k = false) : k = pre p m := by
  have a := pre_le p m
  rcases Nat.lt_trichotomy k (pre p m) with h | h | h
  · have := pre_in p m k h
    rw [h3 (by omega)] at this
    cases this
  · exact h
  · have := pre_out p m (by omega)
    rw [h2 _ h] at this
    cases this

/-- How long the run d ahead is. -/
def rn (l : List Int) (at_ d : Nat) : Nat := pre (fun j => decide (l.getD (at_ + j) 0 = l.getD (at_ + j - d) 0)) (min 67 (l.length - at_))
theorem rn_le (l : List Int) (at_ d : Nat) : rn l at_ d ≤ 67 ∧ rn l at_ d ≤ l.length - at_ := by
  have := pre_le (fun j => decide (l.getD (at_ + j) 0 = l.getD (at_ + j - d) 0)) (min 67 (l.length - at_))
  unfold rn; omega
theorem rn_is {l : List Int} {at_ d k : Nat} (h1 : k ≤ 67) (h1' : at_ + k ≤ l.length) (h2 : ∀ j, j < k → l.getD (at_ + j) 0 = l.getD (at_ + j - d) 0) (h3 : k < 67 → at_ + k < l.length → ¬ l.getD (at_ + k) 0 = l.getD (at_ + k - d) 0) : k = rn l at_ d :=
  pre_is (by omega) (fun j hj => by simpa using h2 j hj) (fun hk => by simpa using h3 (by omega) (by omega))
theorem rn_in {l : List Int} {at_ d j : Nat} (h : j < rn l at_ d) : l.getD (at_ + j) 0 = l.getD (at_ + j - d) 0 := by
  have := pre_in _ _ _ h
  simpa using this
/-- Where a byte is unlike, the run is no longer. -/
theorem rn_stop {l : List Int} {at_ d j : Nat} (h : ¬ l.getD (at_ + j) 0 = l.getD (at_ + j - d) 0) : rn l at_ d ≤ j := by
  rcases Nat.lt_or_ge j (rn l at_ d) with hj | hj
  · exact absurd (rn_in hj) h
  · exact hj
theorem rn_ge {l : List Int} {at_ d k : Nat} (h1 : k ≤ 67) (h1' : at_ + k ≤ l.length) (h2 : ∀ j, j < k → l.getD (at_ + j) 0 = l.getD (at_ + j - d) 0) : k ≤ rn l at_ d := by
  rcases Nat.lt_or_ge (rn l at_ d) k with h | h
  · have hl := rn_le l at_ d
    have := pre_out (fun j => decide (l.getD (at_ + j) 0 = l.getD (at_ + j - d) 0)) (min 67 (l.length - at_)) (by show rn l at_ d < _; omega)
    have h4 := h2 _ h
    exact absurd h4 (by simpa [rn] using this)
  · exact h

/-- The best of the distances from 1 to D. -/
structure Best (l : List Int) (at_ D L d : Nat) : Prop where
  le : d ≤ D
  no : d = 0 → L = 0
  is : 0 < d → L = rn l at_ d ∧ 0 < L
  far : ∀ e, 0 < e → e ≤ D → rn l at_ e ≤ L
  near : ∀ e, 0 < e → e < d → rn l at_ e < L
theorem Best.start (l : List Int) (at_ : Nat) : Best l at_ 0 0 0 := ⟨Nat.le_refl _, fun _ => rfl, fun h => absurd h (by omega), fun e h h' => by omega, fun e h h' => by omega⟩
theorem Best.worse {l : List Int} {at_ D L d : Nat} (h : Best l at_ D L d) (hr : rn l at_ (D + 1) ≤ L) : Best l at_ (D + 1) L d :=
  ⟨by have := h.le; omega, h.no, h.is, fun e h1 h2 => by
    by_cases he : e = D + 1
    · subst he; exact hr
    · exact h.far e h1 (by omega), h.near⟩
theorem Best.better {l : List Int} {at_ D L d : Nat} (h : Best l at_ D L d) (hr : L < rn l at_ (D + 1)) : Best l at_ (D + 1) (rn l at_ (D + 1)) (D + 1) :=
  ⟨Nat.le_refl _, fun h => by omega, fun _ => ⟨rfl, by omega⟩, fun e h1 h2 => by
    by_cases he : e = D + 1
    · subst he; exact Nat.le_refl _
    · have := h.far e h1 (by omega); omega, fun e h1 h2 => by have := h.far e h1 (by omega); omega⟩
theorem Best.unique {l : List Int} {at_ D L d L' d' : Nat} (h : Best l at_ D L d) (h' : Best l at_ D L' d') : L = L' ∧ d = d' := by
  by_cases hd : d = 0
  · have hL := h.no hd
    by_cases hd' : d' = 0
    · exact ⟨by rw [hL, h'.no hd'], by omega⟩
    · have := h'.is (by omega); have := h.far d' (by omega) h'.le; omega
  · have a := h.is (by omega)
    by_cases hd' : d' = 0
    · have := h'.no hd'; have := h'.far d (by omega) h.le; omega
    · have b := h'.is (by omega)
      have e1 := h.far d' (by omega) h'.le
      have e2 := h'.far d (by omega) h.le
      have hL : L = L' := by omega
      refine ⟨hL, ?_⟩
      rcases Nat.lt_trichotomy d d' with hlt | heq | hgt
      · have := h'.near d (by omega) hlt; omega
      · exact heq
      · have := h.near d' (by omega) hgt; omega

def bestF (l : List Int) (at_ : Nat) : Nat → Nat × Nat
  | 0 => (0, 0)
  | D + 1 => if (bestF l at_ D).1 < rn l at_ (D + 1) then (rn l at_ (D + 1), D + 1) else bestF l at_ D
theorem bestF_best (l : List Int) (at_ : Nat) : ∀ D, Best l at_ D (bestF l at_ D).1 (bestF l at_ D).2
  | 0 => Best.start l at_
  | D + 1 => by
    rw [bestF]
    split
    · rename_i h; exact (bestF_best l at_ D).better h
    · rename_i h; exact (bestF_best l at_ D).worse (by omega)

/-- The copy at a place: its length and distance. -/
def cp (l : List Int) (at_ : Nat) : Nat × Nat := if (bestF l at_ (min 4096 at_)).1 < 4 then (0, 0) else bestF l at_ (min 4096 at_)
theorem cp_of_best {l : List Int} {at_ L d : Nat} (h : Best l at_ (min 4096 at_) L d) : cp l at_ = if L < 4 then (0, 0) else (L, d) := by
  obtain ⟨h1, h2⟩ := h.unique (bestF_best l at_ _)
  rw [cp, ← h1]
  split
  · rfl
  · rw [h1, h2]
theorem cp_le (l : List Int) (at_ : Nat) : (cp l at_).1 ≤ 67 ∧ at_ + (cp l at_).1 ≤ max at_ l.length ∧ ((cp l at_).1 = 0 ∨ 4 ≤ (cp l at_).1 ∧ 1 ≤ (cp l at_).2 ∧ (cp l at_).2 ≤ 4096 ∧ (cp l at_).2 ≤ at_) := by
  have hb := bestF_best l at_ (min 4096 at_)
  rw [cp]
  split
  · simp; omega
  · rename_i h
    have hd : 0 < (bestF l at_ (min 4096 at_)).2 := by
      rcases Nat.eq_zero_or_pos (bestF l at_ (min 4096 at_)).2 with h0 | h0
      · have := hb.no h0; omega
      · exact h0
    have hi := hb.is hd
    have hl := rn_le l at_ (bestF l at_ (min 4096 at_)).2
    have := hb.le
    omega
end Go.Proofs.YtoplbemolnpngaaGreat.SqM
