/- The groups of a number, as plain lists of numbers. -/
import Derived.Laws.BitsLemmas
import Derived.Laws.Bits64
import Derived.Laws.Bits64b
namespace Go.Proofs.Ytlagllomdinklaj.Nums

/-- The groups of u, the lowest first. -/
def digs (u : Nat) : List Int := if u < 128 then [(u : Int)] else ((u % 128 + 128 : Nat) : Int) :: digs (u / 128)
termination_by u
decreasing_by omega

theorem digs_lt {u : Nat} (h : u < 128) : digs u = [(u : Int)] := by rw [digs, if_pos h]
theorem digs_ge {u : Nat} (h : ¬ u < 128) : digs u = ((u % 128 + 128 : Nat) : Int) :: digs (u / 128) := by rw [digs, if_neg h]
theorem digs_len : ∀ (k u : Nat), u < 128 ^ k → 0 < k → (digs u).length ≤ k := by
  intro k
  induction k with
  | zero => intro u _ h; omega
  | succ k ih =>
    intro u hu _
    by_cases h : u < 128
    · rw [digs_lt h]; simp
    · rw [digs_ge h]
      have hk : 0 < k := by
        rcases Nat.eq_zero_or_pos k with rfl | h'
        · simp at hu; omega
        · exact h'
      have : u / 128 < 128 ^ k := by rw [Nat.div_lt_iff_lt_mul (by decide)]; rw [Nat.pow_succ] at hu; exact hu
      have := ih (u / 128) this hk
      simp; omega
theorem digs_len10 {u : Nat} (h : u < 18446744073709551616) : (digs u).length ≤ 10 := digs_len 10 u (by omega) (by decide)
theorem digs_pos (u : Nat) : 0 < (digs u).length := by
  by_cases h : u < 128
  · rw [digs_lt h]; simp
  · rw [digs_ge h]; simp

/-- The sign folded into the lowest bit. -/
def fold (n : Int) : Nat := if n < 0 then (-2 * n - 1).toNat else (2 * n).toNat
theorem fold_neg {n : Int} (h : n < 0) : fold n = (-2 * n - 1).toNat := by rw [fold, if_pos h]
theorem fold_pos {n : Int} (h : ¬ n < 0) : fold n = (2 * n).toNat := by rw [fold, if_neg h]
theorem fold_lt {n : Int} (h0 : -9223372036854775808 ≤ n) (h1 : n ≤ 9223372036854775807) : fold n < 18446744073709551616 := by
  unfold fold; split <;> omega
def put (n : Int) : List Int := digs (fold n)
theorem put_len {n : Int} (h0 : -9223372036854775808 ≤ n) (h1 : n ≤ 9223372036854775807) : (put n).length ≤ 10 := digs_len10 (fold_lt h0 h1)
theorem put_pos (n : Int) : 0 < (put n).length := digs_pos _

theorem u64_and127 (x : Int) (h0 : 0 ≤ x) (h1 : x < 18446744073709551616) : bits .and .u64 x 127 = x % 128 :=
  bits_mask .u64 64 (by decide) (fun n a b => by rw [IntKind.wrap_u64]; omega) 7 (by decide) x h0 h1
theorem u8_orr128 (y : Int) (h0 : 0 ≤ y) (h1 : y < 128) : bits .or .u8 y 128 = y + 128 := by
  obtain ⟨n, rfl⟩ := Int.eq_ofNat_of_zero_le h0
  have hn : n < 128 := by omega
  clear h0 h1
  revert n
  decide +kernel
theorem u64_not (x : Int) (h0 : 0 ≤ x) (h1 : x < 18446744073709551616) : bits .xor .u64 IntKind.u64.max x = 18446744073709551615 - x := by
  obtain ⟨a, rfl⟩ := Int.eq_ofNat_of_zero_le h0
  have ha : a < 18446744073709551616 := by omega
  have hm : IntKind.u64.max = ((18446744073709551615 : Nat) : Int) := by decide
  rw [hm, bits_xor_u64_nat _ _ (by decide) ha]
  have hb : (18446744073709551615 : Nat) ^^^ a = 18446744073709551615 - a := by
    have h := congrArg BitVec.toNat (show BitVec.allOnes 64 ^^^ BitVec.ofNat 64 a = ~~~ (BitVec.ofNat 64 a) from BitVec.allOnes_xor)
    rw [BitVec.toNat_xor, BitVec.toNat_not, BitVec.toNat_allOnes, BitVec.toNat_ofNat, Nat.mod_eq_of_lt (by omega)] at h
    exact h
  rw [hb]
  omega
theorem neg_fold (n : Int) (h0 : -9223372036854775808 ≤ n) (h : n < 0) :
    bits .xor .u64 IntKind.u64.max (IntKind.u64.wrap (IntKind.u64.wrap n * 2)) = ((fold n : Nat) : Int) := by
  rw [fold_neg h, IntKind.wrap_u64, IntKind.wrap_u64, u64_not _ (by omega) (by omega)]
  omega
theorem pos_fold (n : Int) (h : 0 ≤ n) : n * 2 = ((fold n : Nat) : Int) := by
  rw [fold_pos (by omega)]; omega
end Go.Proofs.Ytlagllomdinklaj.Nums
