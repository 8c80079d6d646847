/- The program's operators on two numbers, by their contracts, and operatorOf. -/
import Derived.Test.YtekhidflncfeiaaRnP
import Derived.Test.YtekhidflncfeiaaRrI
import Derived.Test.YtekhidflncfeiaaQdS
import Derived.Shelf.Abstract
import Derived.Laws.EntriesVeiled
import Derived.Deep.QuietTactic
import Derived.BigQuiet
namespace Go.Proofs.Ytekhidflncfeiaa.RnI
set_option maxRecDepth 8000
open Go.RowKit
open Ls Lp QyP QsP QtP QuP QdP QrP YcP RnP
open Recs (hsz below1 below2 chain chainD)
set_option linter.unusedVariables false
abbrev Nm (n : Int) : Prop := -1000000000000000 ≤ n ∧ n ≤ 1000000000000000
theorem nm {n : Int} (h : inM n = true) : Nm n := inR_true h
theorem truth_any (b : Bool) (w : World) : Calls Try.prog 133 #[.bool b] w fun e w' => e = .returned (.int .i64 (b01 b)) ∧ w' = w := by
  go_enter Try.func133, Try.ntmps133
  cases b with
  | true =>
    go_wp2
    go_ret
    exact ⟨rfl, rfl⟩
  | false =>
    go_wp2
    go_ret
    exact ⟨rfl, rfl⟩
theorem reck_any (n : Int) (w : World) : Calls Try.prog 104 #[.int .i64 n] w fun e w' => e = .returned (.bool (inM n)) ∧ w' = w := by
  obtain ⟨b, hb⟩ : ∃ b, inM n = b := ⟨_, rfl⟩
  rw [hb]
  have CB := Seg.hid (InB.within_b n (-1000000000000000) 1000000000000000 b hb)
  clear hb
  go_enter Try.func104, Try.ntmps104
  go_wp2_with (go_at_call 85; refine (CB.out _).mono ?_; rintro e w5 ⟨rfl, rfl⟩)
  go_ret
  exact ⟨rfl, rfl⟩
theorem bnd_any (n : Int) (w : World) : Calls Try.prog 148 #[.int .i64 n] w fun e w' => e = .returned (.int .i64 (kept n)) ∧ w' = w := by
  have CR := Seg.hid (reck_any n)
  obtain ⟨R, hR⟩ : ∃ R, kept n = R := ⟨_, rfl⟩
  rw [hR]
  have HR := Seg.hid hR
  clear hR
  cases hb : inM n with
  | true =>
    have CB : Hid (∀ w, Calls Try.prog 104 #[.int .i64 n] w fun e w' => e = .returned (.bool true) ∧ w' = w) := by rw [← hb]; exact CR.out
    have RF : Hid (R = n) := by show _ = _; rw [← HR.out, kept, if_pos hb]
    clear hb
    go_enter Try.func148, Try.ntmps148
    go_wp2_with (go_at_call 104; refine (CB.out _).mono ?_; rintro e w5 ⟨rfl, rfl⟩)
    go_ret
    exact ⟨by rw [RF.out]; rfl, rfl⟩
  | false =>
    have CB : Hid (∀ w, Calls Try.prog 104 #[.int .i64 n] w fun e w' => e = .returned (.bool false) ∧ w' = w) := by rw [← hb]; exact CR.out
    have RF : Hid (R = 0) := by show _ = _; rw [← HR.out, kept, if_neg (by rw [hb]; simp)]
    clear hb
    go_enter Try.func148, Try.ntmps148
    go_wp2_with (go_at_call 104; refine (CB.out _).mono ?_; rintro e w5 ⟨rfl, rfl⟩)
    go_ret
    exact ⟨by rw [RF.out]; rfl, rfl⟩
theorem plus_any (a b : Int) (w : World) (ha : Nm a) (hb : Nm b) : Calls Try.prog 134 #[.int .i64 a, .int .i64 b] w fun e w' => e = .returned (.int .i64 (kept (a + b))) ∧ w' = w := by
  have CB := Seg.hid (bnd_any (a + b))
  obtain ⟨h1, h2⟩ := ha
  obtain ⟨h3, h4⟩ := hb
  have wz : IntKind.i64.wrap (a + b) = a + b := by rw [IntKind.wrap_i64] <;> omega
  go_enter Try.func134, Try.ntmps134
  go_wp2_with (go_at_call 148; refine (CB.out _).mono ?_; rintro e w5 ⟨rfl, rfl⟩)
  go_ret
  exact ⟨rfl, rfl⟩
theorem minus_any (a b : Int) (w : World) (ha : Nm a) (hb : Nm b) : Calls Try.prog 135 #[.int .i64 a, .int .i64 b] w fun e w' => e = .returned (.int .i64 (kept (a - b))) ∧ w' = w := by
  have CB := Seg.hid (bnd_any (a - b))
  obtain ⟨h1, h2⟩ := ha
  obtain ⟨h3, h4⟩ := hb
  have wz : IntKind.i64.wrap (a - b) = a - b := by rw [IntKind.wrap_i64] <;> omega
  go_enter Try.func135, Try.ntmps135
  go_wp2_with (go_at_call 148; refine (CB.out _).mono ?_; rintro e w5 ⟨rfl, rfl⟩)
  go_ret
  exact ⟨rfl, rfl⟩
theorem quo_any (a b : Int) (w : World) (ha : Nm a) (hb : Nm b) : Calls Try.prog 137 #[.int .i64 a, .int .i64 b] w fun e w' => e = .returned (.int .i64 (if b = 0 then 0 else Int.tdiv a b)) ∧ w' = w := by
  obtain ⟨h1, h2⟩ := ha
  by_cases hz : b = 0
  · subst hz
    go_enter Try.func137, Try.ntmps137
    go_wp2
    go_ret
    exact ⟨rfl, rfl⟩
  · have hq := QdS.tdiv_in ⟨h1, h2⟩ hz
    rw [if_neg hz]
    have hz2 : (b == 0) = false := by simpa using hz
    have wz : IntKind.i64.wrap (Int.tdiv a b) = Int.tdiv a b := by rw [IntKind.wrap_i64] <;> omega
    have wy : wrap64 (Int.tdiv a b) = Int.tdiv a b := by unfold wrap64; omega
    go_enter Try.func137, Try.ntmps137
    go_wp2
    go_ret
    exact ⟨rfl, rfl⟩
theorem rem_any (a b : Int) (w : World) (ha : Nm a) (hb : Nm b) : Calls Try.prog 138 #[.int .i64 a, .int .i64 b] w fun e w' => e = .returned (.int .i64 (if b = 0 then 0 else Int.tmod a b)) ∧ w' = w := by
  obtain ⟨h1, h2⟩ := ha
  by_cases hz : b = 0
  · subst hz
    go_enter Try.func138, Try.ntmps138
    go_wp2
    go_ret
    exact ⟨rfl, rfl⟩
  · have hq := QdS.tmod_in (b := b) ⟨h1, h2⟩
    rw [if_neg hz]
    have hz2 : (b == 0) = false := by simpa using hz
    have wz : IntKind.i64.wrap (Int.tmod a b) = Int.tmod a b := by rw [IntKind.wrap_i64] <;> omega
    go_enter Try.func138, Try.ntmps138
    go_wp2
    go_ret
    exact ⟨rfl, rfl⟩
theorem less_any (a b : Int) (w : World) : Calls Try.prog 139 #[.int .i64 a, .int .i64 b] w fun e w' => e = .returned (.int .i64 (b01 (decide (a < b)))) ∧ w' = w := by
  have CB := Seg.hid truth_any
  go_enter Try.func139, Try.ntmps139
  go_wp2_with (go_at_call 133; refine (CB.out _ _).mono ?_; rintro e w5 ⟨rfl, rfl⟩)
  go_ret
  exact ⟨rfl, rfl⟩
theorem same_any (a b : Int) (w : World) : Calls Try.prog 117 #[.int .i64 a, .int .i64 b] w fun e w' => e = .returned (.int .i64 (b01 (decide (a = b)))) ∧ w' = w := by
  have CB := Seg.hid truth_any
  have e : (a == b) = decide (a = b) := by rw [Bool.eq_iff_iff]; simp
  go_enter Try.func117, Try.ntmps117
  go_wp2_with (go_at_call 133; refine (CB.out _ _).mono ?_; rintro e w5 ⟨rfl, rfl⟩)
  go_ret
  exact ⟨by rw [← e]; rfl, rfl⟩
theorem both_any (a b : Int) (w : World) : Calls Try.prog 140 #[.int .i64 a, .int .i64 b] w fun e w' => e = .returned (.int .i64 (b01 (!decide (a = 0) && !decide (b = 0)))) ∧ w' = w := by
  have CB := Seg.hid truth_any
  by_cases ha : a = 0
  · subst ha
    go_enter Try.func140, Try.ntmps140
    go_wp2_with (go_at_call 133; refine (CB.out _ _).mono ?_; rintro e w5 ⟨rfl, rfl⟩)
    go_ret
    exact ⟨rfl, rfl⟩
  · have h1 : (a == 0) = false := by simpa using ha
    have h2 : (a != 0) = true := by simp [bne, h1]
    by_cases hb : b = 0
    · subst hb
      go_enter Try.func140, Try.ntmps140
      go_wp2_with (go_at_call 133; refine (CB.out _ _).mono ?_; rintro e w5 ⟨rfl, rfl⟩)
      go_ret
      exact ⟨by rw [decide_eq_false ha]; rfl, rfl⟩
    · have h3 : (b == 0) = false := by simpa using hb
      have h4 : (b != 0) = true := by simp [bne, h3]
      go_enter Try.func140, Try.ntmps140
      go_wp2_with (go_at_call 133; refine (CB.out _ _).mono ?_; rintro e w5 ⟨rfl, rfl⟩)
      go_ret
      exact ⟨by rw [decide_eq_false ha, decide_eq_false hb]; rfl, rfl⟩
theorem either_any (a b : Int) (w : World) : Calls Try.prog 141 #[.int .i64 a, .int .i64 b] w fun e w' => e = .returned (.int .i64 (b01 (!decide (a = 0) || !decide (b = 0)))) ∧ w' = w := by
  have CB := Seg.hid truth_any
  by_cases ha : a = 0
  · subst ha
    by_cases hb : b = 0
    · subst hb
      go_enter Try.func141, Try.ntmps141
      go_wp2_with (go_at_call 133; refine (CB.out _ _).mono ?_; rintro e w5 ⟨rfl, rfl⟩)
      go_ret
      exact ⟨rfl, rfl⟩
    · have h3 : (b == 0) = false := by simpa using hb
      have h4 : (b != 0) = true := by simp [bne, h3]
      go_enter Try.func141, Try.ntmps141
      go_wp2_with (go_at_call 133; refine (CB.out _ _).mono ?_; rintro e w5 ⟨rfl, rfl⟩)
      go_ret
      exact ⟨by rw [decide_eq_false hb]; rfl, rfl⟩
  · have h1 : (a == 0) = false := by simpa using ha
    have h2 : (a != 0) = true := by simp [bne, h1]
    go_enter Try.func141, Try.ntmps141
    go_wp2_with (go_at_call 133; refine (CB.out _ _).mono ?_; rintro e w5 ⟨rfl, rfl⟩)
    go_ret
    exact ⟨by rw [decide_eq_false ha]; rfl, rfl⟩
theorem times_any (a b : Int) (w : World) (ha : Nm a) (hb : Nm b) : Calls Try.prog 136 #[.int .i64 a, .int .i64 b] w fun e w' => e = .returned (.int .i64 (prodP a b)) ∧ w' = w := by
  obtain ⟨h1, h2⟩ := ha
  obtain ⟨h3, h4⟩ := hb
  by_cases hz : b = 0
  · subst hz
    have e : prodP a 0 = 0 := by simp [prodP]
    go_enter Try.func136, Try.ntmps136
    go_wp2
    go_ret
    exact ⟨by rw [e]; first | rfl | simp, rfl⟩
  · have hz1 : (b == 0) = false := by simpa using hz
    have hz2 : (b != 0) = true := by simp [bne, hz1]
    have wa : IntKind.i64.wrap (-a) = -a := by rw [IntKind.wrap_i64] <;> omega
    have wb : IntKind.i64.wrap (-b) = -b := by rw [IntKind.wrap_i64] <;> omega
    have eA : (if a < -a then -a else a) = ab a := by unfold ab; split <;> split <;> omega
    have eB : (if b < -b then -b else b) = ab b := by unfold ab; split <;> split <;> omega
    have hp := ab_pos hz
    have hd : (1000000000000000 : Int) / ab b = Int.tdiv 1000000000000000 (ab b) := (Int.tdiv_eq_ediv_of_nonneg (by decide)).symm
    have K0 : Hid ((1000000000000000 : Int) / (if b < -b then -b else b) < (if a < -a then -a else a) → prodP a b = 0) := fun h => by
      rw [eA, eB, hd] at h
      unfold prodP
      split
      · rfl
      · first | rw [if_pos h] | rfl
    have K1 : Hid ((if a < -a then -a else a) ≤ (1000000000000000 : Int) / (if b < -b then -b else b) → wrap64 (a * b) = prodP a b) := fun h => by
      rw [eA, eB, hd] at h
      have h5 := prod_le (a := a) (b := b) hz (by omega)
      have h6 : wrap64 (a * b) = a * b := by unfold wrap64; omega
      rw [h6]
      unfold prodP
      split
      · next h7 => rcases h7 with h7 | h7 <;> simp [h7]
      · rw [if_neg (by omega)]
    clear eA eB hp hd
    go_enter Try.func136, Try.ntmps136
    go_wp2
    all_goals
      go_ret
      refine ⟨?_, rfl⟩
      first
        | (rw [K0.out (by assumption)]; rfl)
        | (rw [← K1.out (by assumption)]; rfl)
end Go.Proofs.Ytekhidflncfeiaa.RnI
