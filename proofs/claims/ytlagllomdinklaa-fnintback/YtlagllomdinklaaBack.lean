/- A number comes back from its groups: the plain scan of them. -/
import Derived.Test.YtlagllomdinklaaNums
namespace Go.Proofs.Ytlagllomdinklaa.Back
open Nums (digs scan fold unf put)

theorem scan_digs (l : List Int) (a : Nat) : ∀ (u k m : Nat), (∀ i, i < (digs u).length → l.getD (a + k + i) 0 = (digs u).getD i 0) → a + k + (digs u).length ≤ l.length → k + (digs u).length ≤ 10 →
    m + u * 2 ^ (7 * k) < 18446744073709551616 → (u ≠ 0 ∨ k = 0) → scan l a k m = some (m + u * 2 ^ (7 * k), a + k + (digs u).length) := by
  intro u
  induction u using Nat.strongRecOn with
  | _ u ih =>
    intro k m hl hlen h10 hm hz
    have hpos := Nums.digs_pos u
    by_cases hu : u < 128
    · rw [Nums.digs_lt hu] at hl hlen h10 ⊢
      have h0 := hl 0 (by simp)
      simp only [List.length_cons, List.length_nil, Nat.zero_add] at hlen h10 ⊢
      have hx : (l.getD (a + k) 0).toNat = u := by
        rw [Nat.add_zero] at h0
        rw [h0]; simp
      have h9 : ¬ (k = 9 ∧ 1 < u) := by
        rintro ⟨rfl, h1⟩
        have e : (2 : Nat) ^ (7 * 9) = 9223372036854775808 := by decide
        rw [e] at hm
        omega
      rw [Nums.scan_last (by omega) (by omega) hx h9 hu (by omega), Nat.mod_eq_of_lt hu]
    · rw [Nums.digs_ge hu] at hl hlen h10 ⊢
      have h0 := hl 0 (by simp)
      simp only [List.length_cons] at hlen h10 ⊢
      have hp2 := Nums.digs_pos (u / 128)
      have hx : (l.getD (a + k) 0).toNat = u % 128 + 128 := by
        rw [Nat.add_zero] at h0
        rw [h0]; simp
        omega
      rw [Nums.scan_more (by omega) (by omega) hx (by omega)]
      have e1 : (u % 128 + 128) % 128 = u % 128 := by omega
      have e2 : 2 ^ (7 * (k + 1)) = 128 * 2 ^ (7 * k) := by rw [Nat.mul_succ, Nat.pow_add, Nat.mul_comm]
      have e3 : u % 128 * 2 ^ (7 * k) + u / 128 * (128 * 2 ^ (7 * k)) = u * 2 ^ (7 * k) := by
        rw [← Nat.mul_assoc, ← Nat.add_mul]; congr 1; omega
      have e4 : m + (u % 128 + 128) % 128 * 2 ^ (7 * k) + u / 128 * 2 ^ (7 * (k + 1)) = m + u * 2 ^ (7 * k) := by rw [e1, e2, Nat.add_assoc, e3]
      rw [ih (u / 128) (by omega) (k + 1) (m + (u % 128 + 128) % 128 * 2 ^ (7 * k)) ?_ (by omega) (by omega) (by rw [e4]; exact hm) (.inl (by omega)), e4]
      · congr 2; omega
      · intro i hi
        have := hl (i + 1) (by simp; omega)
        rw [show a + (k + 1) + i = a + k + (i + 1) by omega, this]
        simp
theorem unf_fold (n : Int) : unf (fold n) = n := by
  by_cases h : n < 0
  · rw [Nums.fold_neg h, unf]
    split <;> omega
  · rw [Nums.fold_pos h, unf]
    split <;> omega
/-- The scan behind two bytes, ahead of one more. -/
theorem scan_put (n : Int) (h0 : -9223372036854775808 ≤ n) (h1 : n ≤ 9223372036854775807) (p q r : Int) : scan ([p, q] ++ put n ++ [r]) 2 0 0 = some (fold n, 2 + (put n).length) := by
  have hf := Nums.fold_lt h0 h1
  have hl := Nums.put_len h0 h1
  have := scan_digs ([p, q] ++ put n ++ [r]) 2 (fold n) 0 0 (fun i hi => by
    show ([p, q] ++ put n ++ [r]).getD (2 + 0 + i) 0 = (put n).getD i 0
    have hi2 : i < (put n).length := hi
    rw [List.getD_eq_getElem?_getD, List.getD_eq_getElem?_getD, List.getElem?_append_left (by simp; omega), List.getElem?_append_right (by simp)]
    simp) (by simp [put]; omega) (by show 0 + (put n).length ≤ 10; omega) (by simpa using hf) (.inr rfl)
  simpa [put] using this
theorem digs_byte : ∀ (u : Nat), ∀ x ∈ digs u, 0 ≤ x ∧ x < 256 := by
  intro u
  induction u using Nat.strongRecOn with
  | _ u ih =>
    intro x hx
    by_cases hu : u < 128
    · rw [Nums.digs_lt hu] at hx
      simp at hx; omega
    · rw [Nums.digs_ge hu] at hx
      rcases List.mem_cons.1 hx with rfl | hx
      · omega
      · exact ih (u / 128) (by omega) x hx
end Go.Proofs.Ytlagllomdinklaa.Back
