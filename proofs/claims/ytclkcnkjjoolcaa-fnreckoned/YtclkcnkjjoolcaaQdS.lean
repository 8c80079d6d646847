/- The model's l14Bool, l14Kept, l14Product, l14Do. -/
import Derived.Test.YtclkcnkjjoolcaaQdP
import Derived.Test.YtclkcnkjjoolcaaInB
namespace Go.Proofs.Ytclkcnkjjoolcaa.QdS
set_option maxRecDepth 8000
open Go.RowKit
open Lp QdP
set_option linter.unusedVariables false
theorem bool_any (b : Bool) (w : World) : Calls Try.prog 20 #[.bool b] w fun e w' => e = .returned (.int .i64 (b01 b)) ∧ w = w' := by
  go_enter Try.func20, Try.ntmps20
  cases b
  all_goals
    go_wp2
    go_ret
    exact ⟨rfl, rfl⟩
theorem kept_any (n : Int) (w : World) : Calls Try.prog 32 #[.int .i64 n] w fun e w' => e = .returned (.int .i64 (kept n)) ∧ w = w' := by
  obtain ⟨b, hb⟩ : ∃ b, inM n = b := ⟨_, rfl⟩
  have RK : Hid (kept n = if b = true then n else 0) := by show _ = _; rw [kept, hb]
  have HB := Seg.hid hb
  clear hb
  go_enter Try.func32, Try.ntmps32
  cases b
  all_goals
    go_wp2_with (go_at_call 19; refine (InB.l1In_b _ _ _ _ HB.out _).mono ?_; rintro e w5 ⟨rfl, rfl⟩)
    go_ret
    exact ⟨by rw [RK.out]; rfl, rfl⟩
set_option maxHeartbeats 1600000 in
theorem prod_any (a b : Int) (w : World) (ha : -1000000000000000 ≤ a ∧ a ≤ 1000000000000000) (hb : -1000000000000000 ≤ b ∧ b ≤ 1000000000000000) : Calls Try.prog 33 #[.int .i64 a, .int .i64 b] w fun e w' => e = .returned (.int .i64 (prodP a b)) ∧ w = w' := by
  obtain ⟨R, hR⟩ : ∃ R, prodP a b = R := ⟨_, rfl⟩
  rw [hR]
  have HR := Seg.hid hR
  clear hR
  by_cases a0 : a = 0
  · subst a0
    have RF : Hid (R = 0) := by show _ = _; rw [← HR.out, prodP, if_pos (.inl rfl)]
    go_enter Try.func33, Try.ntmps33
    go_wp2
    go_ret
    exact ⟨by rw [RF.out]; rfl, rfl⟩
  by_cases b0 : b = 0
  · subst b0
    have RF : Hid (R = 0) := by show _ = _; rw [← HR.out, prodP, if_pos (.inr rfl)]
    have qa : (a == 0) = false := by simpa using a0
    clear a0
    go_enter Try.func33, Try.ntmps33
    go_wp2
    go_ret
    exact ⟨by rw [RF.out]; rfl, rfl⟩
  have qa : (a == 0) = false := by simpa using a0
  have qb : (b == 0) = false := by simpa using b0
  have hp := ab_pos b0
  have R2 : Hid (R = if Int.tdiv 1000000000000000 (ab b) < ab a then 0 else a * b) := by show _ = _; rw [← HR.out, prodP, if_neg (by omega)]
  have PL : Hid (¬ Int.tdiv 1000000000000000 (ab b) < ab a → -1000000000000000 ≤ a * b ∧ a * b ≤ 1000000000000000) := prod_le b0
  obtain ⟨x, hx⟩ : ∃ x, ab a = x := ⟨_, rfl⟩
  obtain ⟨y, hy⟩ : ∃ y, ab b = y := ⟨_, rfl⟩
  have hx2 := hx
  have hy2 := hy
  unfold ab at hx2 hy2
  rw [hx, hy] at R2 PL
  rw [hy] at hp
  have B0 := Seg.hid b0
  clear hx hy HR a0
  obtain ⟨d, hd⟩ : ∃ d, Int.tdiv 1000000000000000 y = d := ⟨_, rfl⟩
  have hy9 : y ≤ 1000000000000000 := by split at hy2 <;> omega
  have hx9 : 0 ≤ x ∧ x ≤ 1000000000000000 := by split at hx2 <;> omega
  have hdd : (1000000000000000 : Int) / y = d := by rw [← hd, Int.tdiv_eq_ediv_of_nonneg (by decide)]
  rw [hd] at R2 PL
  have hd8 : 0 ≤ d := by rw [← hdd]; exact Int.ediv_nonneg (by decide) (by omega)
  have hd9 : d ≤ 1000000000000000 := by rw [← hdd]; exact Int.ediv_le_self _ (by decide)
  have hy0 : y ≠ 0 := by omega
  go_enter Try.func33, Try.ntmps33
  by_cases an : a < 0
  · rw [if_pos an] at hx2
    by_cases bn : b < 0
    · rw [if_pos bn] at hy2
      go_upto_region 8 with fail
      clear hx2 hy2
      by_cases hc : d < x
      · have RF : Hid (R = 0) := by show _ = _; rw [R2.out, if_pos hc]
        clear R2 PL
        go_wp2
        go_ret
        exact ⟨by rw [RF.out]; rfl, rfl⟩
      · obtain ⟨p1, p2⟩ := PL.out hc
        have RF : Hid (R = a * b) := by show _ = _; rw [R2.out, if_neg hc]
        clear R2 PL
        go_wp2
        go_ret
        exact ⟨by rw [RF.out]; rfl, rfl⟩
    · rw [if_neg bn] at hy2
      subst hy2
      go_upto_region 8 with fail
      clear hx2
      by_cases hc : d < x
      · have RF : Hid (R = 0) := by show _ = _; rw [R2.out, if_pos hc]
        clear R2 PL
        go_wp2
        go_ret
        exact ⟨by rw [RF.out]; rfl, rfl⟩
      · obtain ⟨p1, p2⟩ := PL.out hc
        have RF : Hid (R = a * b) := by show _ = _; rw [R2.out, if_neg hc]
        clear R2 PL
        go_wp2
        go_ret
        exact ⟨by rw [RF.out]; rfl, rfl⟩
  · rw [if_neg an] at hx2
    subst hx2
    by_cases bn : b < 0
    · rw [if_pos bn] at hy2
      go_upto_region 8 with fail
      clear hy2
      by_cases hc : d < a
      · have RF : Hid (R = 0) := by show _ = _; rw [R2.out, if_pos hc]
        clear R2 PL
        go_wp2
        go_ret
        exact ⟨by rw [RF.out]; rfl, rfl⟩
      · obtain ⟨p1, p2⟩ := PL.out hc
        have RF : Hid (R = a * b) := by show _ = _; rw [R2.out, if_neg hc]
        clear R2 PL
        go_wp2
        go_ret
        exact ⟨by rw [RF.out]; rfl, rfl⟩
    · rw [if_neg bn] at hy2
      subst hy2
      go_upto_region 8 with fail
      by_cases hc : d < a
      · have RF : Hid (R = 0) := by show _ = _; rw [R2.out, if_pos hc]
        clear R2 PL
        go_wp2
        go_ret
        exact ⟨by rw [RF.out]; rfl, rfl⟩
      · obtain ⟨p1, p2⟩ := PL.out hc
        have RF : Hid (R = a * b) := by show _ = _; rw [R2.out, if_neg hc]
        clear R2 PL
        go_wp2
        go_ret
        exact ⟨by rw [RF.out]; rfl, rfl⟩
theorem tdiv_in {a b : Int} (ha : -1000000000000000 ≤ a ∧ a ≤ 1000000000000000) (hb : b ≠ 0) : -1000000000000000 ≤ Int.tdiv a b ∧ Int.tdiv a b ≤ 1000000000000000 := by
  have h1 : (Int.tdiv a b).natAbs ≤ a.natAbs := by rw [Int.natAbs_tdiv]; exact Nat.div_le_self _ _
  omega
theorem tmod_in {a b : Int} (ha : -1000000000000000 ≤ a ∧ a ≤ 1000000000000000) : -1000000000000000 ≤ Int.tmod a b ∧ Int.tmod a b ≤ 1000000000000000 := by
  have h1 : (Int.tmod a b).natAbs ≤ a.natAbs := by rw [Int.natAbs_tmod]; exact Nat.mod_le _ _
  omega
set_option maxHeartbeats 3200000 in
theorem do_any (op a b : Int) (w : World) (ho : 3 ≤ op ∧ op ≤ 11) (ha : -1000000000000000 ≤ a ∧ a ≤ 1000000000000000) (hb : -1000000000000000 ≤ b ∧ b ≤ 1000000000000000) : Calls Try.prog 21 #[.int .i64 op, .int .i64 a, .int .i64 b] w fun e w' => e = .returned (.int .i64 (doS op a b)) ∧ w = w' := by
  obtain ⟨R, hR⟩ : ∃ R, doS op a b = R := ⟨_, rfl⟩
  rw [hR]
  have HR := Seg.hid hR
  clear hR
  rcases (show op = 3 ∨ op = 4 ∨ op = 5 ∨ op = 6 ∨ op = 7 ∨ op = 8 ∨ op = 9 ∨ op = 10 ∨ op = 11 by omega) with rfl | rfl | rfl | rfl | rfl | rfl | rfl | rfl | rfl
  · have RF : Hid (R = kept (a + b)) := HR.out.symm
    go_enter Try.func21, Try.ntmps21
    go_wp2_with (go_at_call 32; refine (kept_any _ _).mono ?_; rintro e w5 ⟨rfl, rfl⟩)
    go_ret
    exact ⟨by rw [RF.out]; rfl, rfl⟩
  · have RF : Hid (R = kept (a - b)) := HR.out.symm
    go_enter Try.func21, Try.ntmps21
    go_wp2_with (go_at_call 32; refine (kept_any _ _).mono ?_; rintro e w5 ⟨rfl, rfl⟩)
    go_ret
    exact ⟨by rw [RF.out]; rfl, rfl⟩
  · have RF : Hid (R = prodP a b) := HR.out.symm
    go_enter Try.func21, Try.ntmps21
    go_wp2_with (go_at_call 33; refine (prod_any _ _ _ ha hb).mono ?_; rintro e w5 ⟨rfl, rfl⟩)
    go_ret
    exact ⟨by rw [RF.out]; rfl, rfl⟩
  · have RF : Hid (R = if b = 0 then 0 else Int.tdiv a b) := HR.out.symm
    go_enter Try.func21, Try.ntmps21
    by_cases b0 : b = 0
    · subst b0
      go_wp2
      go_ret
      exact ⟨by rw [RF.out]; rfl, rfl⟩
    · have qb : (b == 0) = false := by simpa using b0
      have hq := tdiv_in (b := b) ha b0
      obtain ⟨h1, h2⟩ := hq
      have RG : Hid (R = Int.tdiv a b) := by show _ = _; rw [RF.out, if_neg b0]
      go_wp2
      go_ret
      exact ⟨by rw [RG.out]; rfl, rfl⟩
  · have RF : Hid (R = if b = 0 then 0 else Int.tmod a b) := HR.out.symm
    go_enter Try.func21, Try.ntmps21
    by_cases b0 : b = 0
    · subst b0
      go_wp2
      go_ret
      exact ⟨by rw [RF.out]; rfl, rfl⟩
    · have qb : (b == 0) = false := by simpa using b0
      have hq := tmod_in (b := b) ha
      obtain ⟨h1, h2⟩ := hq
      have RG : Hid (R = Int.tmod a b) := by show _ = _; rw [RF.out, if_neg b0]
      go_wp2
      go_ret
      exact ⟨by rw [RG.out]; rfl, rfl⟩
  · have RF : Hid (R = b01 (decide (a < b))) := HR.out.symm
    go_enter Try.func21, Try.ntmps21
    by_cases hc : a < b
    · skip
      go_wp2_with (go_at_call 20; refine (bool_any _ _).mono ?_; rintro e w5 ⟨rfl, rfl⟩)
      go_ret
      exact ⟨by rw [RF.out]; simp [b01, hc], rfl⟩
    · skip
      go_wp2_with (go_at_call 20; refine (bool_any _ _).mono ?_; rintro e w5 ⟨rfl, rfl⟩)
      go_ret
      exact ⟨by rw [RF.out]; simp [b01, hc], rfl⟩
  · have RF : Hid (R = b01 (decide (a = b))) := HR.out.symm
    go_enter Try.func21, Try.ntmps21
    by_cases hc : a = b
    · subst hc
      go_wp2_with (go_at_call 20; refine (bool_any _ _).mono ?_; rintro e w5 ⟨rfl, rfl⟩)
      go_ret
      exact ⟨by rw [RF.out]; simp [b01], rfl⟩
    · have qc : (a == b) = false := by simpa using hc
      go_wp2_with (go_at_call 20; refine (bool_any _ _).mono ?_; rintro e w5 ⟨rfl, rfl⟩)
      go_ret
      exact ⟨by rw [RF.out]; simp [b01, hc], rfl⟩
  · have RF : Hid (R = b01 (!decide (a = 0) && !decide (b = 0))) := HR.out.symm
    go_enter Try.func21, Try.ntmps21
    by_cases a0 : a = 0
    · by_cases b0 : b = 0
      · subst a0 b0
        go_wp2_with (go_at_call 20; refine (bool_any _ _).mono ?_; rintro e w5 ⟨rfl, rfl⟩)
        go_ret
        exact ⟨by rw [RF.out]; rfl, rfl⟩
      · subst a0
        have qb : (b != 0) = true := by simpa using b0
        go_wp2_with (go_at_call 20; refine (bool_any _ _).mono ?_; rintro e w5 ⟨rfl, rfl⟩)
        go_ret
        exact ⟨by rw [RF.out]; simp [b01, b0], rfl⟩
    · have qa : (a != 0) = true := by simpa using a0
      by_cases b0 : b = 0
      · subst b0
        go_wp2_with (go_at_call 20; refine (bool_any _ _).mono ?_; rintro e w5 ⟨rfl, rfl⟩)
        go_ret
        exact ⟨by rw [RF.out]; simp [b01, a0], rfl⟩
      · have qb : (b != 0) = true := by simpa using b0
        go_wp2_with (go_at_call 20; refine (bool_any _ _).mono ?_; rintro e w5 ⟨rfl, rfl⟩)
        go_ret
        exact ⟨by rw [RF.out]; simp [b01, a0, b0], rfl⟩
  · have RF : Hid (R = b01 (!decide (a = 0) || !decide (b = 0))) := HR.out.symm
    go_enter Try.func21, Try.ntmps21
    by_cases a0 : a = 0
    · by_cases b0 : b = 0
      · subst a0 b0
        go_wp2_with (go_at_call 20; refine (bool_any _ _).mono ?_; rintro e w5 ⟨rfl, rfl⟩)
        go_ret
        exact ⟨by rw [RF.out]; rfl, rfl⟩
      · subst a0
        have qb : (b != 0) = true := by simpa using b0
        go_wp2_with (go_at_call 20; refine (bool_any _ _).mono ?_; rintro e w5 ⟨rfl, rfl⟩)
        go_ret
        exact ⟨by rw [RF.out]; simp [b01, b0], rfl⟩
    · have qa : (a != 0) = true := by simpa using a0
      by_cases b0 : b = 0
      · subst b0
        go_wp2_with (go_at_call 20; refine (bool_any _ _).mono ?_; rintro e w5 ⟨rfl, rfl⟩)
        go_ret
        exact ⟨by rw [RF.out]; simp [b01, a0], rfl⟩
      · have qb : (b != 0) = true := by simpa using b0
        go_wp2_with (go_at_call 20; refine (bool_any _ _).mono ?_; rintro e w5 ⟨rfl, rfl⟩)
        go_ret
        exact ⟨by rw [RF.out]; simp [b01, a0, b0], rfl⟩
end Go.Proofs.Ytclkcnkjjoolcaa.QdS
