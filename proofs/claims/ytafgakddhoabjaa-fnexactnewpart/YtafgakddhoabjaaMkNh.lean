/- The law's look at marks on numbers. -/
import Derived.Test.YtafgakddhoabjaaMkN
namespace Go.Proofs.Ytafgakddhoabjaa.Ow
set_option maxRecDepth 8000
open Go.RowKit
open Recs
open Ls
set_option linter.unusedVariables false
theorem heldIntS_none (A : Option Addr) (c : Nat) (k : Int) (w : World) : Calls Try.prog 19 #[.slice A 0 c, .int .i64 k] w fun e w' => e = .returned (.int .i64 k) ∧ Below w.heap.size w w' := by
  go_enter Try.func19, Try.ntmps19
  go_wp2
  go_loop [1, 5] (fun x i => i = .int .i64 0 ∧ x = .int .i64 k) (fun _ _ => 0)
  case atStart => exact ⟨rfl, rfl⟩
  case round =>
    obtain ⟨rfl, rfl⟩ := hrel
    go_wp2
    go_ret
    exact ⟨rfl, Below.refl _ _⟩
set_option maxHeartbeats 800000 in
theorem heldIntS_core (g o n c k : Nat) (w : World) (hc : n ≤ c) (hn : n ≤ 9223372036854775807) (hk1 : k + n ≤ 4000000000000000000)
    (ha : ∀ i, i < n → w.cell? ⟨g, o + i, none⟩ = some (.int .i64 ((k : Int) + i))) :
    Calls Try.prog 19 #[.slice (some ⟨g, o, none⟩) n c, .int .i64 k] w fun e w' => e = .returned (.int .i64 ((k : Int) + n)) ∧ Below w.heap.size w w' := by
  have HA := Seg.hid ha
  clear ha
  go_enter Try.func19, Try.ntmps19
  go_wp2
  go_loop [1, 5] (fun x i => ∃ (j : Nat), j ≤ n ∧ i = .int .i64 j ∧ x = .int .i64 ((k : Int) + j)) (fun _ i => n - (intOf i).toNat)
  case atStart => exact ⟨0, Nat.zero_le _, rfl, by simp⟩
  case round =>
    obtain ⟨j, hj, rfl, rfl⟩ := hrel
    by_cases hlt : j < n
    · have c1 := HA.out j hlt
      have h0 : (0 : Int) ≤ (j : Int) := by omega
      have h1 : (j : Int) < (n : Int) := by omega
      go_wp2
      go_round
      case rel => exact ⟨j + 1, by omega, by go_num, by go_num⟩
      case measure => simp [intOf]; omega
    · have : j = n := by omega
      subst this
      go_wp2
      go_ret
      exact ⟨rfl, Below.refl _ _⟩
theorem heldIntS_at (x : Int) (k : Nat) (hx : x = (k : Int)) (S : Nat → Prop) (ns : List Int) (w : World) {v : Value} (hk1 : k + tot nI ns ≤ 4000000000000000000) (hv : IntsAt w S v (mL mI nI k ns)) :
    Calls Try.prog 19 #[v, .int .i64 x] w fun e w' => e = .returned (.int .i64 ((k + tot nI ns : Nat) : Int)) ∧ Below w.heap.size w w' := by
  subst hx
  obtain ⟨hn, A, c, rfl, h⟩ := hv
  rw [mL_len] at hn h ⊢
  rw [nI_tot] at hk1 ⊢
  by_cases hz : ns.length = 0
  · rw [hz]
    exact heldIntS_none A c k w
  obtain ⟨g, o, F, rfl, hg, hc, hcell, hel⟩ := h.resolve_left hz
  refine (heldIntS_core g o ns.length c k w hc hn hk1 (fun i hi => ?_)).mono fun e w' ⟨h1, h2⟩ => ⟨by rw [h1]; simp, h2⟩
  have := int_cell hcell hel i hi
  rw [this, mL_get mI nI hi, nI_tot, List.length_take, Nat.min_eq_left (Nat.le_of_lt hi), mI]
  simp
end Go.Proofs.Ytafgakddhoabjaa.Ow
