/- The check of bytes, bit by bit and four bits at a time: the same. -/
import Derived.Laws.BitsLemmas
namespace Go.Proofs.Ytlagllomdinklaa.Crc

def poly : Nat := 3988292384
def step (c : Nat) : Nat := if c % 2 = 1 then c / 2 ^^^ poly else c / 2
def steps : Nat → Nat → Nat
  | 0, c => c
  | k + 1, c => step (steps k c)
theorem step_odd {c : Nat} (h : c % 2 = 1) : step c = c / 2 ^^^ poly := by rw [step, if_pos h]
theorem step_even {c : Nat} (h : ¬ c % 2 = 1) : step c = c / 2 := by rw [step, if_neg h]
theorem poly_lt : poly < 4294967296 := by decide
theorem xor_lt {a b : Nat} (ha : a < 4294967296) (hb : b < 4294967296) : a ^^^ b < 4294967296 := Nat.xor_lt_two_pow (n := 32) ha hb
theorem step_lt {c : Nat} (h : c < 4294967296) : step c < 4294967296 := by
  unfold step
  split
  · exact xor_lt (by omega) poly_lt
  · omega
theorem steps_lt {c : Nat} (h : c < 4294967296) : ∀ k, steps k c < 4294967296
  | 0 => h
  | k + 1 => step_lt (steps_lt h k)
theorem step_xor (a b : Nat) : step (a ^^^ b) = step a ^^^ step b := by
  have hm : (a ^^^ b) % 2 = a % 2 ^^^ b % 2 := Nat.xor_mod_two_pow (n := 1)
  unfold step
  rw [Nat.xor_div_two, hm]
  have ha := Nat.mod_two_eq_zero_or_one a
  have hb := Nat.mod_two_eq_zero_or_one b
  rcases ha with ha | ha <;> rcases hb with hb | hb <;> simp [ha, hb]
  · rw [Nat.xor_assoc]
  · rw [Nat.xor_assoc, Nat.xor_assoc, Nat.xor_comm poly]
  · rw [Nat.xor_assoc, Nat.xor_comm poly, Nat.xor_assoc, Nat.xor_self, Nat.xor_zero]
theorem steps_xor (a b : Nat) : ∀ k, steps k (a ^^^ b) = steps k a ^^^ steps k b
  | 0 => rfl
  | k + 1 => by rw [steps, steps_xor a b k, step_xor]; rfl
theorem step_two (y : Nat) : step (2 * y) = y := by rw [step_even (by omega)]; omega
theorem steps_16 (y : Nat) : steps 4 (16 * y) = y := by
  show step (step (step (step (16 * y)))) = y
  rw [show 16 * y = 2 * (2 * (2 * (2 * y))) by omega, step_two, step_two, step_two, step_two]
theorem parts (z : Nat) : z = 16 * (z / 16) ^^^ z % 16 := by
  apply Nat.eq_of_testBit_eq
  intro i
  rw [Nat.testBit_xor, show 16 * (z / 16) = z / 2 ^ 4 * 2 ^ 4 by omega, Nat.testBit_mul_two_pow, show z % 16 = z % 2 ^ 4 by rfl, Nat.testBit_mod_two_pow, Nat.testBit_div_two_pow]
  by_cases h : i < 4
  · simp [h, Nat.not_le.2 h]
  · simp [h, Nat.le_of_not_lt h]
/-- Four steps at once, by the table's place. -/
theorem nib (z : Nat) : steps 4 z = z / 16 ^^^ steps 4 (z % 16) := by
  have := steps_xor (16 * (z / 16)) (z % 16) 4
  rw [← parts z, steps_16] at this
  exact this
theorem steps_add (j : Nat) : ∀ k c, steps (k + j) c = steps k (steps j c)
  | 0, c => by simp [steps]
  | k + 1, c => by rw [show k + 1 + j = (k + j) + 1 by omega, steps, steps_add j k c]; rfl

def upd (c : Nat) (x : Int) : Nat := steps 8 (c ^^^ x.toNat)
def crc (l : List Int) : Nat := l.foldl upd 4294967295
def check (l : List Int) : Int := ((crc l ^^^ 4294967295 : Nat) : Int)
theorem upd_two (c : Nat) (x : Int) : upd c x = (((c ^^^ x.toNat) / 16 ^^^ steps 4 ((c ^^^ x.toNat) % 16)) / 16 ^^^ steps 4 (((c ^^^ x.toNat) / 16 ^^^ steps 4 ((c ^^^ x.toNat) % 16)) % 16)) := by
  rw [upd, show (8 : Nat) = 4 + 4 by rfl, steps_add, nib (steps 4 _), nib (c ^^^ x.toNat)]
theorem upd_lt {c : Nat} {x : Int} (h : c < 4294967296) (hx : x < 256) : upd c x < 4294967296 := steps_lt (xor_lt h (by omega)) 8
theorem foldl_lt : ∀ (l : List Int) (c : Nat), c < 4294967296 → (∀ x ∈ l, x < 256) → l.foldl upd c < 4294967296
  | [], c, h, _ => h
  | x :: r, c, h, hx => foldl_lt r _ (upd_lt h (hx x (by simp))) (fun y hy => hx y (by simp [hy]))
theorem u32_xor (a b : Nat) (ha : a < 4294967296) (hb : b < 4294967296) : bits .xor .u32 (a : Int) (b : Int) = ((a ^^^ b : Nat) : Int) := by
  have h := xor_lt ha hb
  simp only [bits]
  rw [show IntKind.u32.bits = 32 by rfl, BitVec.toNat_xor, BitVec.toNat_ofInt, BitVec.toNat_ofInt, IntKind.wrap_u32]
  have e1 : ((a : Int) % ((2 ^ 32 : Nat) : Int)).toNat = a := by omega
  have e2 : ((b : Int) % ((2 ^ 32 : Nat) : Int)).toNat = b := by omega
  rw [e1, e2]
  omega
end Go.Proofs.Ytlagllomdinklaa.Crc
