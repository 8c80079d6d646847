/- Charge of the program. -/
import Derived.Test.YtmkkdladgoilmaaChP
import Derived.Test.YtmkkdladgoilmaaInB
import Derived.Test.YtmkkdladgoilmaaR3
namespace Go.Proofs.Ytmkkdladgoilmaa.ChI
set_option maxRecDepth 8000
open Go.RowKit
open Ls Lp ChP
open Recs (hsz below1 below2 chain chainD)
set_option linter.unusedVariables false
def okB (b : Bkt) : Bool := inR 1 b.rate 1000000 && (inR 0 b.burst 1000000 && (inR (-1000000000000) b.level b.burst && inR 0 b.time 1000000000000))
abbrev bag (b : Bkt) : Value := .agg #[.int .i64 b.rate, .int .i64 b.burst, .int .i64 b.level, .int .i64 b.time]
set_option maxHeartbeats 1600000 in
theorem ok_any (b : Bkt) (w : World) : Calls Try.prog 18 #[bag b] w fun e w' => e = .returned (.bool (okB b)) ∧ Below w.heap.size w w' := by
  have B1 : Hid (∀ x, Below w.heap.size w (w.alloc x)) := fun x => below1 w x
  have K0 : Hid (∀ wx, Calls Try.prog 19 #[.int .i64 b.rate, .int .i64 1, .int .i64 1000000] wx fun e w' => e = .returned (.bool (inR 1 b.rate 1000000)) ∧ wx = w') := fun wx => InB.within_any _ _ _ wx
  have K1 : Hid (∀ wx, Calls Try.prog 19 #[.int .i64 b.burst, .int .i64 0, .int .i64 1000000] wx fun e w' => e = .returned (.bool (inR 0 b.burst 1000000)) ∧ wx = w') := fun wx => InB.within_any _ _ _ wx
  have K2 : Hid (∀ wx, Calls Try.prog 19 #[.int .i64 b.level, .int .i64 (-1000000000000), .int .i64 b.burst] wx fun e w' => e = .returned (.bool (inR (-1000000000000) b.level b.burst)) ∧ wx = w') := fun wx => InB.within_any _ _ _ wx
  have K3 : Hid (∀ wx, Calls Try.prog 19 #[.int .i64 b.time, .int .i64 0, .int .i64 1000000000000] wx fun e w' => e = .returned (.bool (inR 0 b.time 1000000000000)) ∧ wx = w') := fun wx => InB.within_any _ _ _ wx
  unfold okB
  generalize inR 1 b.rate 1000000 = q0 at *
  generalize inR 0 b.burst 1000000 = q1 at *
  generalize inR (-1000000000000) b.level b.burst = q2 at *
  generalize inR 0 b.time 1000000000000 = q3 at *
  go_enter Try.func18, Try.ntmps18
  cases q0 <;> cases q1 <;> cases q2 <;> cases q3
  all_goals
    go_wp2_with (first | (go_at_call 19; (with_reducible refine (K0.out _).mono ?_); rintro e w' ⟨rfl, rfl⟩) | (go_at_call 19; (with_reducible refine (K1.out _).mono ?_); rintro e w' ⟨rfl, rfl⟩) | (go_at_call 19; (with_reducible refine (K2.out _).mono ?_); rintro e w' ⟨rfl, rfl⟩) | (go_at_call 19; (with_reducible refine (K3.out _).mono ?_); rintro e w' ⟨rfl, rfl⟩))
    go_ret
    exact ⟨rfl, B1.out _⟩
set_option maxHeartbeats 1600000 in
theorem lev_any (b : Bkt) (s d : Int) (hd : b.rate * s = d) (h1 : IntKind.i64.wrap d = d) (h2 : IntKind.i64.wrap (b.level + d) = b.level + d) (w : World) : Calls Try.prog 20 #[bag b, .int .i64 s] w fun e w' => e = .returned (.int .i64 (least (b.level + d) b.burst)) ∧ Below w.heap.size w w' := by
  have B1 : Hid (∀ x, Below w.heap.size w (w.alloc x)) := fun x => below1 w x
  by_cases h : b.burst < b.level + d
  · have Z : Hid (least (b.level + d) b.burst = b.burst) := by show _ = _; unfold least; split <;> omega
    go_enter Try.func20, Try.ntmps20
    go_wp2
    go_ret
    exact ⟨by rw [Z.out]; rfl, B1.out _⟩
  · have Z : Hid (least (b.level + d) b.burst = b.level + d) := by show _ = _; unfold least; split <;> omega
    go_enter Try.func20, Try.ntmps20
    go_wp2
    go_ret
    exact ⟨by rw [Z.out]; rfl, B1.out _⟩
/-- What the search by halves finds. -/
def fre (b : Bkt) (i : Nat) : Bool := decide (0 ≤ least (b.level + b.rate * i) b.burst)
structure Nb (b : Bkt) : Prop where
  r0 : 1 ≤ b.rate
  r1 : b.rate ≤ 1000000
  u0 : 0 ≤ b.burst
  u1 : b.burst ≤ 1000000
  l0 : -1000000000000 ≤ b.level
  l1 : b.level ≤ b.burst
theorem Nb.mul {b : Bkt} (N : Nb b) {i : Nat} (h : i ≤ 1000000000000) : 0 ≤ b.rate * (i : Int) ∧ b.rate * (i : Int) ≤ 1000000000000000000 := by
  refine ⟨Int.mul_nonneg (by have := N.r0; omega) (by omega), ?_⟩
  have : b.rate * (i : Int) ≤ 1000000 * 1000000000000 := Int.mul_le_mul N.r1 (by omega) (by omega) (by omega)
  omega
theorem fre_eq {b : Bkt} (N : Nb b) (i : Nat) : fre b i = decide (0 ≤ b.level + b.rate * i) := by
  unfold fre least
  have := N.u0
  split
  · rfl
  · rw [decide_eq_true (by omega), decide_eq_true (by omega)]
theorem fre_mono {b : Bkt} (N : Nb b) {i j : Nat} (h : i ≤ j) (hp : fre b i = true) : fre b j = true := by
  rw [fre_eq N, decide_eq_true_eq] at hp ⊢
  have : b.rate * (i : Int) ≤ b.rate * (j : Int) := Int.mul_le_mul_of_nonneg_left (by omega) (by have := N.r0; omega)
  omega
theorem free_any {b : Bkt} (N : Nb b) (i : Nat) (hi : i ≤ 1000000000000) (w : World) : Calls Try.prog 22 #[bag b, .int .i64 i] w fun e w' => e = .returned (.bool (fre b i)) ∧ Below w.heap.size w w' := by
  obtain ⟨d, hd⟩ : ∃ d, b.rate * (i : Int) = d := ⟨_, rfl⟩
  have m := N.mul hi
  rw [hd] at m
  have h1 : IntKind.i64.wrap d = d := by rw [IntKind.wrap_i64] <;> omega
  have h2 : IntKind.i64.wrap (b.level + d) = b.level + d := by have := N.l0; have := N.l1; have := N.u1; rw [IntKind.wrap_i64] <;> omega
  have LV : Hid (∀ wx, Calls Try.prog 20 #[bag b, .int .i64 i] wx fun e w' => e = .returned (.int .i64 (least (b.level + d) b.burst)) ∧ Below wx.heap.size wx w') := fun wx => lev_any b i d hd h1 h2 wx
  have Z : Hid (fre b i = decide (0 ≤ least (b.level + d) b.burst)) := by show _ = _; unfold fre; rw [hd]
  have B1 : Hid (∀ x, Below w.heap.size w (w.alloc x)) := fun x => below1 w x
  clear h1 h2 hd m
  generalize least (b.level + d) b.burst = q at *
  go_enter Try.func22, Try.ntmps22
  go_wp2_with (first | (go_at_call 20; (with_reducible refine (LV.out _).mono ?_); rintro e w8 ⟨rfl, b8⟩; have B8 := Seg.hid b8; clear b8))
  all_goals
    go_ret
    exact ⟨Seg.ret_bool (by rw [Z.out]), chain (B1.out _) B8.out⟩
structure Fd (p : Nat → Bool) (n r : Nat) : Prop where
  le : r ≤ n
  no : ∀ y, y < r → p y = false
  yes : r < n → p r = true
set_option maxHeartbeats 1600000 in
theorem search_any {b : Bkt} (N : Nb b) (w : World) :
    Calls Try.prog 21 #[.int .i64 1000000000000, .func (.func 22) #[bag b] #[]] w fun e w' => ∃ r : Nat, e = .returned (.int .i64 r) ∧ Fd (fre b) 1000000000000 r ∧ Below w.heap.size w w' := by
  have ASK : Hid (∀ wr (i : Nat), i < 1000000000000 → Calls Try.prog 22 #[bag b, .int .i64 i] wr fun e w' => e = .returned (.bool (fre b i)) ∧ Below wr.heap.size wr w') := fun wr i hi => free_any N i (by omega) wr
  have HM : Hid (∀ i j : Nat, i ≤ j → fre b i = true → fre b j = true) := fun i j h hp => fre_mono N h hp
  clear N
  go_enter Try.func21, Try.ntmps21
  go_wp2_with fail
  go_loopw [5, 6] (fun vi vj wr => ∃ (i j : Nat), i ≤ j ∧ j ≤ 1000000000000 ∧ vi = .int .i64 i ∧ vj = .int .i64 j ∧ Hid ((∀ y, y < i → fre b y = false) ∧ (∀ y, j ≤ y → y < 1000000000000 → fre b y = true) ∧ Below w.heap.size w wr)) (fun vi vj _ => (intOf vj).toNat - (intOf vi).toNat)
  case atStart => exact ⟨0, 1000000000000, Nat.zero_le _, Nat.le_refl _, rfl, rfl, fun y hy => absurd hy (by omega), fun y hy hy2 => absurd hy (by omega), Below.refl _ _⟩
  case round =>
    obtain ⟨i, j, hij, hjn, rfl, rfl, HW⟩ := hrel
    by_cases hlt : i < j
    · have q0 : (i : Int) < (j : Int) := by omega
      go_wp2_with fail
      obtain ⟨m, hmd⟩ : ∃ m : Nat, ((i : Int) + (j : Int)) / 2 = (m : Int) := ⟨(i + j) / 2, by omega⟩
      have m1 : i ≤ m := by omega
      have m2 : m < j := by omega
      rw [hmd]
      clear hmd
      refine (ASK.out wr m (by omega)).mono ?_
      rintro e w1 ⟨rfl, b1⟩
      have B1 := Seg.hid (chain HW.out.2.2 b1)
      clear b1
      cases hp : fre b m with
      | false =>
        have N1 : Hid (∀ y, y < m + 1 → fre b y = false) := fun y hy => by
          cases hq : fre b y with
          | false => rfl
          | true => rw [HM.out y m (by omega) hq] at hp; cases hp
        clear hp
        go_wp2_with fail
        go_roundw
        case rel => exact ⟨m + 1, j, by omega, hjn, by go_num, rfl, N1.out, HW.out.2.1, B1.out⟩
        case measure => simp [intOf]; omega
      | true =>
        have N1 : Hid (∀ y, m ≤ y → y < 1000000000000 → fre b y = true) := fun y hy hy2 => HM.out m y hy hp
        clear hp
        go_wp2_with fail
        go_roundw
        case rel => exact ⟨i, m, by omega, by omega, rfl, rfl, HW.out.1, N1.out, B1.out⟩
        case measure => simp [intOf]; omega
    · have hij' : i = j := by omega
      have FD : Hid (Fd (fre b) 1000000000000 i) := ⟨by omega, HW.out.1, fun hi => HW.out.2.1 i (by omega) hi⟩
      have BL := Seg.hid HW.out.2.2
      have q0 : ¬ (i : Int) < (j : Int) := by omega
      clear HW hij'
      go_wp2_with fail
      go_ret
      exact ⟨i, rfl, FD.out, BL.out⟩
/-- What is found is how long one waits. -/
theorem found {b : Bkt} (N : Nb b) {r : Nat} (h : Fd (fre b) 1000000000000 r) : (r : Int) = wait b.level b.rate := by
  have r0 := N.r0
  have l0 := N.l0
  unfold wait
  by_cases hl : b.level < 0
  · rw [if_pos hl]
    obtain ⟨q, hq⟩ : ∃ q : Nat, (-b.level + b.rate - 1) / b.rate = (q : Int) := ⟨((-b.level + b.rate - 1) / b.rate).toNat, by rw [Int.toNat_of_nonneg (Int.ediv_nonneg (by omega) (by omega))]⟩
    rw [hq]
    have e1 : (q : Int) * b.rate ≤ -b.level + b.rate - 1 := by rw [← hq]; exact Int.ediv_mul_le _ (by omega)
    have e2 : -b.level + b.rate - 1 < ((q : Int) + 1) * b.rate := by rw [← hq]; exact Int.lt_ediv_add_one_mul_self _ (by omega)
    have e3 : ((q : Int) + 1) * b.rate = b.rate * (q : Int) + b.rate := by rw [Int.add_mul, Int.one_mul, Int.mul_comm]
    have e4 : (q : Int) * b.rate = b.rate * (q : Int) := Int.mul_comm _ _
    rw [e3] at e2
    rw [e4] at e1
    have q1 : 1 ≤ q := by
      rcases Nat.eq_zero_or_pos q with h0 | h0
      · rw [h0] at e2; simp at e2; omega
      · exact h0
    have q2 : q ≤ 1000000000000 := by
      have : ((q : Int) - 1) * 1 ≤ ((q : Int) - 1) * b.rate := Int.mul_le_mul_of_nonneg_left r0 (by omega)
      rw [Int.mul_one, Int.sub_mul, Int.one_mul, Int.mul_comm (q : Int) b.rate] at this
      omega
    have yq : fre b q = true := by rw [fre_eq N, decide_eq_true_eq]; omega
    have nq : ∀ y : Nat, y < q → fre b y = false := fun y hy => by
      rw [fre_eq N, decide_eq_false_iff_not]
      have : b.rate * (y : Int) ≤ b.rate * ((q : Int) - 1) := Int.mul_le_mul_of_nonneg_left (by omega) (by omega)
      rw [Int.mul_sub, Int.mul_one] at this
      omega
    have c1 : ¬ r < q := fun hlt => by
      have := h.yes (by omega)
      rw [nq r hlt] at this
      cases this
    have c2 : ¬ q < r := fun hlt => by
      have := h.no q hlt
      rw [yq] at this
      cases this
    omega
  · rw [if_neg hl]
    have y0 : fre b 0 = true := by rw [fre_eq N, decide_eq_true_eq]; simp; omega
    rcases Nat.eq_zero_or_pos r with h0 | h0
    · rw [h0]; rfl
    · have := h.no 0 h0
      rw [y0] at this
      cases this
end Go.Proofs.Ytmkkdladgoilmaa.ChI
