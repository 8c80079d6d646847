/- The groups of a number, as plain lists of numbers; A number comes back from its groups: the plain scan of them. -/
import Derived.Laws.BitsLemmas
import Derived.Laws.Bits64
import Derived.Laws.Bits64b
import Derived.Laws.Entries
namespace Go.Proofs.Ytdhicmbfknagjaa.Nums
set_option maxRecDepth 8000

/-- The groups of u, the lowest first, f of them at most. -/
def digsF : Nat → Nat → List Int
  | 0, u => [(u : Int)]
  | f + 1, u => if u < 128 then [(u : Int)] else ((u % 128 + 128 : Nat) : Int) :: digsF f (u / 128)
theorem digsF_same : ∀ (f g u : Nat), u ≤ f → u ≤ g → digsF f u = digsF g u
  | 0, 0, u, _, _ => rfl
  | 0, g + 1, u, h, _ => by rw [digsF, digsF, if_pos (by omega)]
  | f + 1, 0, u, _, h => by rw [digsF, digsF, if_pos (by omega)]
  | f + 1, g + 1, u, h1, h2 => by
    rw [digsF, digsF]
    by_cases h : u < 128
    · rw [if_pos h, if_pos h]
    · rw [if_neg h, if_neg h, digsF_same f g (u / 128) (by omega) (by omega)]
/-- The groups of u, the lowest first. -/
def digs (u : Nat) : List Int := digsF u u

theorem digs_lt {u : Nat} (h : u < 128) : digs u = [(u : Int)] := by
  cases u with
  | zero => rfl
  | succ n => rw [digs, digsF, if_pos h]
theorem digs_ge {u : Nat} (h : ¬ u < 128) : digs u = ((u % 128 + 128 : Nat) : Int) :: digs (u / 128) := by
  cases u with
  | zero => omega
  | succ n => rw [digs, digsF, if_neg h, digs, digsF_same n ((n + 1) / 128) ((n + 1) / 128) (by omega) (Nat.le_refl _)]
theorem digs_len : ∀ (k u : Nat), u < 128 ^ k → 0 < k → (digs u).length ≤ k := by
  intro k
  induction k with
  | zero => intro u _ h; omega
  | succ k ih =>
    intro u hu _
    by_cases h : u < 128
    · rw [digs_lt h]; simp
    · rw [digs_ge h]
      have hk : 0 < k := by
        rcases Nat.eq_zero_or_pos k with rfl | h'
        · simp at hu; omega
        · exact h'
      have : u / 128 < 128 ^ k := by rw [Nat.div_lt_iff_lt_mul (by decide)]; rw [Nat.pow_succ] at hu; exact hu
      have := ih (u / 128) this hk
      simp; omega
theorem digs_len10 {u : Nat} (h : u < 18446744073709551616) : (digs u).length ≤ 10 := digs_len 10 u (by omega) (by decide)
theorem digs_pos (u : Nat) : 0 < (digs u).length := by
  by_cases h : u < 128
  · rw [digs_lt h]; simp
  · rw [digs_ge h]; simp

/-- The sign folded into the lowest bit. -/
def fold (n : Int) : Nat := if n < 0 then (-2 * n - 1).toNat else (2 * n).toNat
theorem fold_neg {n : Int} (h : n < 0) : fold n = (-2 * n - 1).toNat := by rw [fold, if_pos h]
theorem fold_pos {n : Int} (h : ¬ n < 0) : fold n = (2 * n).toNat := by rw [fold, if_neg h]
theorem fold_lt {n : Int} (h0 : -9223372036854775808 ≤ n) (h1 : n ≤ 9223372036854775807) : fold n < 18446744073709551616 := by
  unfold fold; split <;> omega
def put (n : Int) : List Int := digs (fold n)
theorem put_len {n : Int} (h0 : -9223372036854775808 ≤ n) (h1 : n ≤ 9223372036854775807) : (put n).length ≤ 10 := digs_len10 (fold_lt h0 h1)
theorem put_pos (n : Int) : 0 < (put n).length := digs_pos _

theorem u64_and127 (x : Int) (h0 : 0 ≤ x) (h1 : x < 18446744073709551616) : bits .and .u64 x 127 = x % 128 :=
  bits_mask .u64 64 (by decide) (fun n a b => by rw [IntKind.wrap_u64]; omega) 7 (by decide) x h0 h1
theorem u8_orr128 (y : Int) (h0 : 0 ≤ y) (h1 : y < 128) : bits .or .u8 y 128 = y + 128 := by
  obtain ⟨n, rfl⟩ := Int.eq_ofNat_of_zero_le h0
  have hn : n < 128 := by omega
  clear h0 h1
  revert n
  decide +kernel
theorem u64_not (x : Int) (h0 : 0 ≤ x) (h1 : x < 18446744073709551616) : bits .xor .u64 IntKind.u64.max x = 18446744073709551615 - x := by
  obtain ⟨a, rfl⟩ := Int.eq_ofNat_of_zero_le h0
  have ha : a < 18446744073709551616 := by omega
  have hm : IntKind.u64.max = ((18446744073709551615 : Nat) : Int) := by decide
  rw [hm, bits_xor_u64_nat _ _ (by decide) ha]
  have hb : (18446744073709551615 : Nat) ^^^ a = 18446744073709551615 - a := by
    have h := congrArg BitVec.toNat (show BitVec.allOnes 64 ^^^ BitVec.ofNat 64 a = ~~~ (BitVec.ofNat 64 a) from BitVec.allOnes_xor)
    rw [BitVec.toNat_xor, BitVec.toNat_not, BitVec.toNat_allOnes, BitVec.toNat_ofNat, Nat.mod_eq_of_lt (by omega)] at h
    exact h
  rw [hb]
  omega
theorem neg_fold (n : Int) (h0 : -9223372036854775808 ≤ n) (h : n < 0) :
    bits .xor .u64 IntKind.u64.max (IntKind.u64.wrap (IntKind.u64.wrap n * 2)) = ((fold n : Nat) : Int) := by
  rw [fold_neg h, IntKind.wrap_u64, IntKind.wrap_u64, u64_not _ (by omega) (by omega)]
  omega
theorem pos_fold (n : Int) (h : 0 ≤ n) : n * 2 = ((fold n : Nat) : Int) := by
  rw [fold_pos (by omega)]; omega

/-- The reading of groups from a place on, f of them at most: the k-th group next, u so far. -/
def scanF (l : List Int) (a : Nat) : Nat → Nat → Nat → Option (Nat × Nat)
  | 0, _, _ => none
  | f + 1, k, u =>
    if a + k < l.length then
      if k = 9 ∧ 1 < (l.getD (a + k) 0).toNat then none
      else if (l.getD (a + k) 0).toNat < 128 then
        if (l.getD (a + k) 0).toNat = 0 ∧ 0 < k then none else some (u + (l.getD (a + k) 0).toNat % 128 * 2 ^ (7 * k), a + k + 1)
      else scanF l a f (k + 1) (u + (l.getD (a + k) 0).toNat % 128 * 2 ^ (7 * k))
    else none
/-- The reading of groups from a place on: the k-th group next, u so far, ten of them at most. -/
def scan (l : List Int) (a k u : Nat) : Option (Nat × Nat) := scanF l a (10 - k) k u
theorem scan_eq (l : List Int) (a k u : Nat) : scan l a k u =
    if k < 10 then
      if a + k < l.length then
        if k = 9 ∧ 1 < (l.getD (a + k) 0).toNat then none
        else if (l.getD (a + k) 0).toNat < 128 then
          if (l.getD (a + k) 0).toNat = 0 ∧ 0 < k then none else some (u + (l.getD (a + k) 0).toNat % 128 * 2 ^ (7 * k), a + k + 1)
        else scan l a (k + 1) (u + (l.getD (a + k) 0).toNat % 128 * 2 ^ (7 * k))
      else none
    else none := by
  by_cases h : k < 10
  · rw [if_pos h]
    obtain ⟨f, hf⟩ : ∃ f, 10 - k = f + 1 := ⟨9 - k, by omega⟩
    have hf2 : 10 - (k + 1) = f := by omega
    unfold scan
    rw [hf, hf2]
    rfl
  · rw [if_neg h, scan, show 10 - k = 0 by omega]
    rfl

def unf (u : Nat) : Int := if u % 2 = 1 then -((u / 2 : Nat) : Int) - 1 else ((u / 2 : Nat) : Int)

/-- What GetInt answers, as three values. -/
def got : Option (Nat × Nat) → Array Value
  | none => #[.int .i64 0, .int .i64 0, .bool false]
  | some (u, nx) => #[.int .i64 (unf u), .int .i64 nx, .bool true]

theorem scan_short {l : List Int} {a k u : Nat} (h : ¬ a + k < l.length) : scan l a k u = none := by
  by_cases hk : k < 10
  · rw [scan_eq, if_pos hk, if_neg h]
  · rw [scan_eq, if_neg hk]
theorem scan_ten {l : List Int} {a u x : Nat} (h : a + 9 < l.length) (hx : (l.getD (a + 9) 0).toNat = x) (h1 : 1 < x) : scan l a 9 u = none := by
  rw [scan_eq, if_pos (by decide), if_pos h, hx, if_pos ⟨rfl, h1⟩]
theorem scan_more {l : List Int} {a k u x : Nat} (hk : k < 9) (h : a + k < l.length) (hx : (l.getD (a + k) 0).toNat = x) (h1 : ¬ x < 128) : scan l a k u = scan l a (k + 1) (u + x % 128 * 2 ^ (7 * k)) := by
  rw [scan_eq, if_pos (by omega), if_pos h, hx, if_neg (by omega), if_neg h1]
theorem scan_void {l : List Int} {a k u x : Nat} (hk : k < 10) (h0 : 0 < k) (h : a + k < l.length) (hx : (l.getD (a + k) 0).toNat = x) (h1 : x = 0) : scan l a k u = none := by
  rw [scan_eq, if_pos hk, if_pos h, hx, if_neg (by omega), if_pos (by omega), if_pos ⟨h1, h0⟩]
theorem scan_last {l : List Int} {a k u x : Nat} (hk : k < 10) (h : a + k < l.length) (hx : (l.getD (a + k) 0).toNat = x) (h9 : ¬ (k = 9 ∧ 1 < x)) (h1 : x < 128) (h2 : ¬ (x = 0 ∧ 0 < k)) : scan l a k u = some (u + x % 128 * 2 ^ (7 * k), a + k + 1) := by
  rw [scan_eq, if_pos hk, if_pos h, hx, if_neg h9, if_pos h1, if_neg h2]
theorem sum_lt {u x k : Nat} (hu : u < 2 ^ (7 * k)) : u + x % 128 * 2 ^ (7 * k) < 2 ^ (7 * (k + 1)) := by
  have e : 2 ^ (7 * (k + 1)) = 2 ^ (7 * k) * 128 := by rw [Nat.mul_succ, Nat.pow_add]
  have : x % 128 * 2 ^ (7 * k) ≤ 127 * 2 ^ (7 * k) := Nat.mul_le_mul_right _ (by omega)
  omega
theorem sum_64 {u x k : Nat} (hk : k < 10) (hu : u < 2 ^ (7 * k)) (h9 : ¬ (k = 9 ∧ 1 < x)) : u + x % 128 * 2 ^ (7 * k) < 18446744073709551616 := by
  by_cases h : k = 9
  · subst h
    have hx : x % 128 ≤ 1 := by omega
    have : x % 128 * 2 ^ (7 * 9) ≤ 1 * 2 ^ (7 * 9) := Nat.mul_le_mul_right _ hx
    have e : (2 : Nat) ^ (7 * 9) = 9223372036854775808 := by decide
    omega
  · have := sum_lt (x := x) hu
    have e : (2 : Nat) ^ (7 * (k + 1)) ≤ 2 ^ 63 := Nat.pow_le_pow_right (by decide) (by omega)
    have e2 : (2 : Nat) ^ 63 = 9223372036854775808 := by decide
    omega
theorem prod_64 {x k : Nat} (hk : k < 10) (h9 : ¬ (k = 9 ∧ 1 < x)) : x % 128 * 2 ^ (7 * k) < 18446744073709551616 := by
  have := sum_64 (u := 0) (x := x) hk (Nat.two_pow_pos _) h9
  omega
theorem or_add {u x k : Nat} (hk : k < 10) (hu : u < 2 ^ (7 * k)) (h9 : ¬ (k = 9 ∧ 1 < x)) :
    bits .or .u64 (u : Int) ((x % 128 * 2 ^ (7 * k) : Nat) : Int) = ((u + x % 128 * 2 ^ (7 * k) : Nat) : Int) := by
  have h1 := sum_64 (x := x) hk hu h9
  rw [bits_or_u64_nat _ _ (by omega) (by omega)]
  congr 1
  rw [Nat.mul_comm, Nat.add_comm, Nat.or_comm, Nat.two_pow_add_eq_or_of_lt hu]
theorem shl_x {x k : Nat} (hk : k < 10) (h9 : ¬ (k = 9 ∧ 1 < x)) (m : Int) (hm : m = ((x % 128 : Nat) : Int)) : IntKind.u64.wrap (m * 2 ^ (7 * k)) = ((x % 128 * 2 ^ (7 * k) : Nat) : Int) := by
  have h1 := prod_64 hk h9
  rw [hm, IntKind.wrap_u64]
  have : (((x % 128 : Nat) : Int) * 2 ^ (7 * k)) = ((x % 128 * 2 ^ (7 * k) : Nat) : Int) := by simp
  rw [this]
  omega
theorem u8_and127 (x : Int) (h0 : 0 ≤ x) (h1 : x < 256) : bits .and .u8 x 127 = x % 128 := bits_mask .u8 8 (by decide) wraps_u8 7 (by decide) x h0 h1
theorem u64_and1 (x : Int) (h0 : 0 ≤ x) (h1 : x < 18446744073709551616) : bits .and .u64 x 1 = x % 2 :=
  bits_mask .u64 64 (by decide) (fun n a b => by rw [IntKind.wrap_u64]; omega) 1 (by decide) x h0 h1
theorem shl_p {x k p : Nat} (hk : k < 10) (h9 : ¬ (k = 9 ∧ 1 < x)) (hp : p = x % 128 * 2 ^ (7 * k)) : IntKind.u64.wrap ((x : Int) % 128 * 2 ^ (7 * k)) = (p : Int) := by
  rw [shl_x hk h9 _ (by omega), hp]
theorem or_p {x k p m : Nat} (hk : k < 10) (hu : m < 2 ^ (7 * k)) (h9 : ¬ (k = 9 ∧ 1 < x)) (hp : p = x % 128 * 2 ^ (7 * k)) : bits .or .u64 (m : Int) (p : Int) = (m : Int) + (p : Int) := by
  have := or_add hk hu h9
  rw [← hp] at this
  rw [this]; simp
/-- Where a reading stands: k groups are read, they come to m. -/
structure At (l : List Int) (a k m : Nat) : Prop where
  lt : m < 2 ^ (7 * k)
  eq : scan l a 0 0 = scan l a k m
theorem At.start (l : List Int) (a : Nat) : At l a 0 0 := ⟨by decide, rfl⟩
theorem At.short {l : List Int} {a k m : Nat} (h : At l a k m) (hl : ¬ a + k < l.length) : scan l a 0 0 = none := h.eq.trans (scan_short hl)
theorem At.next {l : List Int} {a k m x p : Nat} (h : At l a k m) (hk : k < 9) (hl : a + k < l.length) (hx : (l.getD (a + k) 0).toNat = x) (h1 : ¬ x < 128) (hp : p = x % 128 * 2 ^ (7 * k)) : At l a (k + 1) (m + p) :=
  ⟨by rw [hp]; exact sum_lt h.lt, by rw [hp]; exact h.eq.trans (scan_more hk hl hx h1)⟩
theorem zk {x k : Nat} (h : ¬ (x = 0 ∧ 0 < k)) : (((x : Int) == 0) && decide (0 < (k : Int))) = false := by
  rw [Bool.and_eq_false_iff]
  by_cases hx : x = 0
  · exact .inr (by simp; omega)
  · exact .inl (beq_eq_false_iff_ne.2 (by omega))
theorem unf_odd {m p : Nat} (h : (((m : Int) + (p : Int)) % 2 == 1) = true) : -(((m : Int) + (p : Int)) / 2) - 1 = unf (m + p) := by
  have := eq_of_beq h
  rw [unf, if_pos (by omega)]; omega
theorem unf_even {m p : Nat} (h : (((m : Int) + (p : Int)) % 2 == 1) = false) : ((m : Int) + (p : Int)) / 2 = unf (m + p) := by
  have := ne_of_beq_false h
  rw [unf, if_neg (by omega)]; omega
end Go.Proofs.Ytdhicmbfknagjaa.Nums
namespace Go.Proofs.Ytdhicmbfknagjaa.Back
set_option maxRecDepth 8000
open Nums (digs scan fold unf put)

theorem scan_digs (l : List Int) (a : Nat) : ∀ (u k m : Nat), (∀ i, i < (digs u).length → l.getD (a + k + i) 0 = (digs u).getD i 0) → a + k + (digs u).length ≤ l.length → k + (digs u).length ≤ 10 →
    m + u * 2 ^ (7 * k) < 18446744073709551616 → (u ≠ 0 ∨ k = 0) → scan l a k m = some (m + u * 2 ^ (7 * k), a + k + (digs u).length) := by
  intro u
  induction u using Nat.strongRecOn with
  | _ u ih =>
    intro k m hl hlen h10 hm hz
    have hpos := Nums.digs_pos u
    by_cases hu : u < 128
    · rw [Nums.digs_lt hu] at hl hlen h10 ⊢
      have h0 := hl 0 (by simp)
      simp only [List.length_cons, List.length_nil, Nat.zero_add] at hlen h10 ⊢
      have hx : (l.getD (a + k) 0).toNat = u := by
        rw [Nat.add_zero] at h0
        rw [h0]; simp
      have h9 : ¬ (k = 9 ∧ 1 < u) := by
        rintro ⟨rfl, h1⟩
        have e : (2 : Nat) ^ (7 * 9) = 9223372036854775808 := by decide
        rw [e] at hm
        omega
      rw [Nums.scan_last (by omega) (by omega) hx h9 hu (by omega), Nat.mod_eq_of_lt hu]
    · rw [Nums.digs_ge hu] at hl hlen h10 ⊢
      have h0 := hl 0 (by simp)
      simp only [List.length_cons] at hlen h10 ⊢
      have hp2 := Nums.digs_pos (u / 128)
      have hx : (l.getD (a + k) 0).toNat = u % 128 + 128 := by
        rw [Nat.add_zero] at h0
        rw [h0]; simp
        omega
      rw [Nums.scan_more (by omega) (by omega) hx (by omega)]
      have e1 : (u % 128 + 128) % 128 = u % 128 := by omega
      have e2 : 2 ^ (7 * (k + 1)) = 128 * 2 ^ (7 * k) := by rw [Nat.mul_succ, Nat.pow_add, Nat.mul_comm]
      have e3 : u % 128 * 2 ^ (7 * k) + u / 128 * (128 * 2 ^ (7 * k)) = u * 2 ^ (7 * k) := by
        rw [← Nat.mul_assoc, ← Nat.add_mul]; congr 1; omega
      have e4 : m + (u % 128 + 128) % 128 * 2 ^ (7 * k) + u / 128 * 2 ^ (7 * (k + 1)) = m + u * 2 ^ (7 * k) := by rw [e1, e2, Nat.add_assoc, e3]
      rw [ih (u / 128) (by omega) (k + 1) (m + (u % 128 + 128) % 128 * 2 ^ (7 * k)) ?_ (by omega) (by omega) (by rw [e4]; exact hm) (.inl (by omega)), e4]
      · congr 2; omega
      · intro i hi
        have := hl (i + 1) (by simp; omega)
        rw [show a + (k + 1) + i = a + k + (i + 1) by omega, this]
        simp
theorem unf_fold (n : Int) : unf (fold n) = n := by
  by_cases h : n < 0
  · rw [Nums.fold_neg h, unf]
    split <;> omega
  · rw [Nums.fold_pos h, unf]
    split <;> omega
/-- The scan behind two bytes, ahead of one more. -/
theorem scan_put (n : Int) (h0 : -9223372036854775808 ≤ n) (h1 : n ≤ 9223372036854775807) (p q r : Int) : scan ([p, q] ++ put n ++ [r]) 2 0 0 = some (fold n, 2 + (put n).length) := by
  have hf := Nums.fold_lt h0 h1
  have hl := Nums.put_len h0 h1
  have := scan_digs ([p, q] ++ put n ++ [r]) 2 (fold n) 0 0 (fun i hi => by
    show ([p, q] ++ put n ++ [r]).getD (2 + 0 + i) 0 = (put n).getD i 0
    have hi2 : i < (put n).length := hi
    rw [List.getD_eq_getElem?_getD, List.getD_eq_getElem?_getD, List.getElem?_append_left (by simp; omega), List.getElem?_append_right (by simp)]
    simp) (by simp [put]; omega) (by show 0 + (put n).length ≤ 10; omega) (by simpa using hf) (.inr rfl)
  simpa [put] using this
theorem digs_byte : ∀ (u : Nat), ∀ x ∈ digs u, 0 ≤ x ∧ x < 256 := by
  intro u
  induction u using Nat.strongRecOn with
  | _ u ih =>
    intro x hx
    by_cases hu : u < 128
    · rw [Nums.digs_lt hu] at hx
      simp at hx; omega
    · rw [Nums.digs_ge hu] at hx
      rcases List.mem_cons.1 hx with rfl | hx
      · omega
      · exact ih (u / 128) (by omega) x hx
end Go.Proofs.Ytdhicmbfknagjaa.Back
