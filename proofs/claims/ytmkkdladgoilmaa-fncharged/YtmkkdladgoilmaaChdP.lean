/- Whoever waits as told: plain facts. -/
import Derived.Test.YtmkkdladgoilmaaChP
namespace Go.Proofs.Ytmkkdladgoilmaa.ChdP
set_option maxRecDepth 8000
open Ls Lp ChP
set_option linter.unusedVariables false
/-- A Bucket with which one begins. -/
structure Be (G : Bkt) : Prop where
  r0 : 1 ≤ G.rate
  r1 : G.rate ≤ 1000000
  u0 : 0 ≤ G.burst
  u1 : G.burst ≤ 1000000
  l0 : -1000000 ≤ G.level
  l1 : G.level ≤ G.burst
  t0 : 0 ≤ G.time
  t1 : G.time ≤ 500000000000
/-- How it stands ahead of the use number i. -/
structure Iv (G B : Bkt) (now used : Int) (i : Nat) : Prop where
  rate : B.rate = G.rate
  burst : B.burst = G.burst
  time : G.time ≤ B.time
  nw : B.time ≤ now
  far : now ≤ G.time + 1002300 * i
  low : -1002295 ≤ B.level
  high : B.level ≤ B.burst
  free : (i = 0 ∧ B = G ∧ now = G.time) ∨ 0 ≤ B.level + B.rate * (now - B.time)
  sum : B.level ≤ G.level + G.rate * (B.time - G.time) - used
  u0 : 0 ≤ used
  u1 : used ≤ 2295 * i
theorem Iv.start {G : Bkt} (h : Be G) : Iv G G G.time 0 0 :=
  ⟨rfl, rfl, Int.le_refl _, Int.le_refl _, by omega, by have := h.l0; omega, h.l1, .inl ⟨rfl, rfl, rfl⟩, by rw [Int.sub_self, Int.mul_zero]; omega, Int.le_refl _, by omega⟩
/-- What one use says. -/
structure Use (G B : Bkt) (now used units L W : Int) (i : Nat) : Prop where
  fi : ChP.fine B now units = true
  le : ChP.lev B now units = L
  wt : ChP.wait L B.rate = W
  w0 : 0 ≤ W
  w1 : W ≤ 1002295
  neg : 0 < W → L < 0
  top : L ≤ B.burst
  far : now ≤ 1000000000000
  told : 0 ≤ G.level → used + units ≤ G.level + G.rate * (now - G.time) + units
  next : Iv G ⟨B.rate, B.burst, L, now⟩ (now + W) (used + units) (i + 1)
  m0 : 0 ≤ G.rate * (now - G.time)
  m1 : G.rate * (now - G.time) ≤ 1000000 * 100000000
theorem wait_ok {L r : Int} (hr : 1 ≤ r) : 0 ≤ wait L r ∧ (0 < wait L r → L < 0) ∧ 0 ≤ L + r * wait L r ∧ (L < 0 → wait L r ≤ -L) := by
  unfold wait
  by_cases h : L < 0
  · rw [if_pos h]
    have e1 : (-L + r - 1) / r * r ≤ -L + r - 1 := Int.ediv_mul_le _ (by omega)
    have e2 : -L + r - 1 < ((-L + r - 1) / r + 1) * r := Int.lt_ediv_add_one_mul_self _ (by omega)
    have e0 : 0 ≤ (-L + r - 1) / r := Int.ediv_nonneg (by omega) (by omega)
    generalize (-L + r - 1) / r = q at *
    rw [Int.add_mul, Int.one_mul] at e2
    refine ⟨e0, fun _ => h, by rw [Int.mul_comm]; omega, fun _ => ?_⟩
    rcases Int.lt_or_le q 1 with hq | hq
    · omega
    · have h3 : (q - 1) * 1 ≤ (q - 1) * r := Int.mul_le_mul_of_nonneg_left hr (by omega)
      rw [Int.mul_one, Int.sub_mul, Int.one_mul] at h3
      omega
  · rw [if_neg h]
    refine ⟨Int.le_refl _, fun h => by omega, by rw [Int.mul_zero]; omega, fun h' => absurd h' h⟩
theorem use {G B : Bkt} {now used units d : Int} {i : Nat} (hG : Be G) (h : Iv G B now used i) (hi : i < 12) (hu0 : 0 ≤ units) (hu1 : units ≤ 2295) (hd0 : 0 ≤ d) (hd1 : d ≤ 4) :
    Use G B (now + d) used units (lev B (now + d) units) (wait (lev B (now + d) units) B.rate) i := by
  have r0 := hG.r0; have r1 := hG.r1; have u0 := hG.u0; have u1 := hG.u1; have l0 := hG.l0; have l1 := hG.l1; have t0 := hG.t0; have t1 := hG.t1
  have hr := h.rate; have hb := h.burst; have ht := h.time; have hn := h.nw; have hf := h.far; have hlo := h.low; have hhi := h.high
  have hfar : now + d ≤ 1000000000000 := by omega
  obtain ⟨P, hP⟩ : ∃ P, (now + d - B.time) * B.rate = P := ⟨_, rfl⟩
  have P0 : 0 ≤ P := by rw [← hP]; exact Int.mul_nonneg (by omega) (by omega)
  have hL : lev B (now + d) units = least (B.level + P) B.burst - units := by unfold lev; rw [hP]
  have pre : -1000000 ≤ B.level + P := by
    rcases h.free with ⟨_, e, _⟩ | hfr
    · rw [e]; omega
    · have : B.rate * (now - B.time) ≤ P := by
        rw [← hP, Int.mul_comm (now + d - B.time)]
        exact Int.mul_le_mul_of_nonneg_left (by omega) (by omega)
      omega
  have pre0 : 0 ≤ G.level → 0 ≤ B.level + P := fun hg => by
    rcases h.free with ⟨_, e, _⟩ | hfr
    · rw [e]; omega
    · have : B.rate * (now - B.time) ≤ P := by
        rw [← hP, Int.mul_comm (now + d - B.time)]
        exact Int.mul_le_mul_of_nonneg_left (by omega) (by omega)
      omega
  obtain ⟨M, hM⟩ : ∃ M, least (B.level + P) B.burst = M := ⟨_, rfl⟩
  rw [hM] at hL
  have M1 : M ≤ B.level + P := by rw [← hM]; unfold least; split <;> omega
  have M2 : M ≤ B.burst := by rw [← hM]; unfold least; split <;> omega
  have M3 : -1000000 ≤ M := by rw [← hM]; unfold least; split <;> omega
  have M4 : 0 ≤ G.level → 0 ≤ M := fun hg => by have := pre0 hg; rw [← hM]; unfold least; split <;> omega
  obtain ⟨L, hLL⟩ : ∃ L, lev B (now + d) units = L := ⟨_, rfl⟩
  have eL : L = M - units := by rw [← hLL, hL]
  rw [hLL]
  have W := wait_ok (L := L) (r := B.rate) (by omega)
  obtain ⟨V, hV⟩ : ∃ V, wait L B.rate = V := ⟨_, rfl⟩
  rw [hV] at W ⊢
  have V1 : V ≤ 1002295 := by
    rcases Int.lt_or_le L 0 with hl | hl
    · have := W.2.2.2 hl; omega
    · rcases Int.lt_or_le 0 V with hv | hv
      · have := W.2.1 hv; omega
      · omega
  have e1 : G.rate * (now + d - G.time) = G.rate * (B.time - G.time) + P := by
    rw [← hP, hr, Int.mul_comm (now + d - B.time), ← Int.mul_add]
    congr 1
    omega
  have S := h.sum
  refine ⟨?_, hLL, hV, W.1, V1, W.2.1, by omega, hfar, fun hg => ?_, ?_, Int.mul_nonneg (by omega) (by omega), ?_⟩
  · have o : ok B (now + d) units = true := by
      simp only [ok, inR, Bool.and_eq_true, decide_eq_true_eq]
      omega
    rw [fine, o, hLL, Bool.true_and]
    exact decide_eq_true (by omega)
  · have := M4 hg
    rw [e1]
    omega
  · refine ⟨hr, hb, by show G.time ≤ now + d; omega, by show now + d ≤ now + d + V; have := W.1; omega, by show now + d + V ≤ _; omega, by show -1002295 ≤ L; omega, by show L ≤ B.burst; omega, .inr ?_, ?_, by have := h.u0; omega, by have := h.u1; omega⟩
    · show 0 ≤ L + B.rate * (now + d + V - (now + d))
      rw [show now + d + V - (now + d) = V by omega]
      exact W.2.2.1
    · show L ≤ G.level + G.rate * (now + d - G.time) - (used + units)
      rw [e1]
      omega
  · exact Int.mul_le_mul r1 (by omega) (by omega) (by omega)
end Go.Proofs.Ytmkkdladgoilmaa.ChdP
