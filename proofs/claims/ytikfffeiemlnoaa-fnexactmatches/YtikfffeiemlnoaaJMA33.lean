/- Lists of numbers: what the law's helpers answer; The law's look at marks on numbers. -/
import Derived.Test.YtikfffeiemlnoaaJMA03
import Derived.Test.YtikfffeiemlnoaaJMA25
namespace Go.Proofs.Ytikfffeiemlnoaa.Ls
set_option maxRecDepth 8000
open Go.RowKit
open Recs
set_option linter.unusedVariables false
theorem infoI : (Try.prog.info? 3).map (fun i => (i.zero, i.size, i.bytes)) = some (some (.int .i64 0), 1, 8) := by kernel_rfl
theorem eqIntS_none (A A' : Option Addr) (c c' : Nat) (w : World) :
    Calls Try.prog 26 #[.slice A 0 c, .slice A' 0 c'] w fun e w' => e = .returned (.bool true) ∧ Below w.heap.size w w' := by
  go_enter Try.func26, Try.ntmps26
  go_wp2
  go_loop [5] (fun i => i = .int .i64 0) (fun _ => 0)
  case atStart => rfl
  case round =>
    subst hrel
    go_wp2
    go_ret
    exact ⟨rfl, Below.refl _ _⟩
set_option maxHeartbeats 400000 in
theorem eqIntS_core (g o g' o' n c c' : Nat) (ns : List Int) (w : World) (hn : n ≤ 9223372036854775807) (hc : n ≤ c) (hc' : n ≤ c') (hg : g < w.heap.size) (hg' : g' < w.heap.size)
    (ha : ∀ i, i < n → w.cell? ⟨g, o + i, none⟩ = some (.int .i64 (ns.getD i default))) (ha' : ∀ i, i < n → w.cell? ⟨g', o' + i, none⟩ = some (.int .i64 (ns.getD i default))) :
    Calls Try.prog 26 #[.slice (some ⟨g, o, none⟩) n c, .slice (some ⟨g', o', none⟩) n c'] w fun e w' => e = .returned (.bool true) ∧ Below w.heap.size w w' := by
  have HA := Seg.hid ha; have HA' := Seg.hid ha'
  clear ha ha'
  go_enter Try.func26, Try.ntmps26
  go_wp2
  go_loopw [5] (fun i wr => ∃ k d : Nat, k ≤ n ∧ i = .int .i64 k ∧ wr = w.drewN d) (fun i _ => n - (intOf i).toNat)
  case atStart => exact ⟨0, 0, Nat.zero_le _, rfl, rfl⟩
  case round =>
    obtain ⟨k, d, hk, rfl, rfl⟩ := hrel
    by_cases hlt2 : k < n
    · have c1 := HA.out k hlt2
      have c2 := HA'.out k hlt2
      have h0 : (0 : Int) ≤ (k : Int) := by omega
      have h1 : (k : Int) < (n : Int) := by omega
      generalize ns.getD k default = nk at *
      have hne : (nk != nk) = false := by simp
      go_wp2
      go_region
      go_wp2
      go_roundw
      case rel => exact ⟨k + 1, d + 1, by omega, by go_num, rfl⟩
      case measure => simp [intOf]; omega
    · have : k = n := by omega
      subst this
      go_wp2
      go_ret
      exact ⟨rfl, ⟨rfl, rfl, rfl, Nat.le_refl _, fun _ _ => rfl⟩⟩
theorem eqIntS_any (v v' : Value) (ns : List Int) (w : World) (S S' : Nat → Prop) (hv : IntsAt w S v ns) (hv' : IntsAt w S' v' ns) (hS : ∀ g, S g → g < w.heap.size) (hS' : ∀ g, S' g → g < w.heap.size) :
    Calls Try.prog 26 #[v, v'] w fun e w' => e = .returned (.bool true) ∧ Below w.heap.size w w' := by
  obtain ⟨hn, A, c, rfl, h⟩ := hv
  obtain ⟨_, A', c', rfl, h'⟩ := hv'
  by_cases hz : ns.length = 0
  · rw [hz]
    exact eqIntS_none A A' c c' w
  obtain ⟨g, o, F, rfl, hg, hc, hcell, hel⟩ := h.resolve_left hz
  obtain ⟨g', o', F', rfl, hg', hc', hcell', hel'⟩ := h'.resolve_left hz
  exact eqIntS_core g o g' o' ns.length c c' ns w hn hc hc' (hS g hg) (hS' g' hg') (int_cell hcell hel) (int_cell hcell' hel')
end Go.Proofs.Ytikfffeiemlnoaa.Ls
namespace Go.Proofs.Ytikfffeiemlnoaa.Ow
set_option maxRecDepth 8000
open Go.RowKit
open Recs
open Ls
set_option linter.unusedVariables false
theorem heldIntS_none (A : Option Addr) (c : Nat) (k : Int) (w : World) : Calls Try.prog 29 #[.slice A 0 c, .int .i64 k] w fun e w' => e = .returned (.int .i64 k) ∧ Below w.heap.size w w' := by
  go_enter Try.func29, Try.ntmps29
  go_wp2
  go_loop [1, 5] (fun x i => i = .int .i64 0 ∧ x = .int .i64 k) (fun _ _ => 0)
  case atStart => exact ⟨rfl, rfl⟩
  case round =>
    obtain ⟨rfl, rfl⟩ := hrel
    go_wp2
    go_ret
    exact ⟨rfl, Below.refl _ _⟩
set_option maxHeartbeats 800000 in
theorem heldIntS_core (g o n c k : Nat) (w : World) (hc : n ≤ c) (hn : n ≤ 9223372036854775807) (hk1 : k + n ≤ 4000000000000000000)
    (ha : ∀ i, i < n → w.cell? ⟨g, o + i, none⟩ = some (.int .i64 ((k : Int) + i))) :
    Calls Try.prog 29 #[.slice (some ⟨g, o, none⟩) n c, .int .i64 k] w fun e w' => e = .returned (.int .i64 ((k : Int) + n)) ∧ Below w.heap.size w w' := by
  have HA := Seg.hid ha
  clear ha
  go_enter Try.func29, Try.ntmps29
  go_wp2
  go_loop [1, 5] (fun x i => ∃ (j : Nat), j ≤ n ∧ i = .int .i64 j ∧ x = .int .i64 ((k : Int) + j)) (fun _ i => n - (intOf i).toNat)
  case atStart => exact ⟨0, Nat.zero_le _, rfl, by simp⟩
  case round =>
    obtain ⟨j, hj, rfl, rfl⟩ := hrel
    by_cases hlt : j < n
    · have c1 := HA.out j hlt
      have h0 : (0 : Int) ≤ (j : Int) := by omega
      have h1 : (j : Int) < (n : Int) := by omega
      go_wp2
      go_round
      case rel => exact ⟨j + 1, by omega, by go_num, by go_num⟩
      case measure => simp [intOf]; omega
    · have : j = n := by omega
      subst this
      go_wp2
      go_ret
      exact ⟨rfl, Below.refl _ _⟩
theorem heldIntS_at (x : Int) (k : Nat) (hx : x = (k : Int)) (S : Nat → Prop) (ns : List Int) (w : World) {v : Value} (hk1 : k + tot nI ns ≤ 4000000000000000000) (hv : IntsAt w S v (mL mI nI k ns)) :
    Calls Try.prog 29 #[v, .int .i64 x] w fun e w' => e = .returned (.int .i64 ((k + tot nI ns : Nat) : Int)) ∧ Below w.heap.size w w' := by
  subst hx
  obtain ⟨hn, A, c, rfl, h⟩ := hv
  rw [mL_len] at hn h ⊢
  rw [nI_tot] at hk1 ⊢
  by_cases hz : ns.length = 0
  · rw [hz]
    exact heldIntS_none A c k w
  obtain ⟨g, o, F, rfl, hg, hc, hcell, hel⟩ := h.resolve_left hz
  refine (heldIntS_core g o ns.length c k w hc hn hk1 (fun i hi => ?_)).mono fun e w' ⟨h1, h2⟩ => ⟨by rw [h1]; simp, h2⟩
  have := int_cell hcell hel i hi
  rw [this, mL_get mI nI hi, nI_tot, List.length_take, Nat.min_eq_left (Nat.le_of_lt hi), mI]
  simp
end Go.Proofs.Ytikfffeiemlnoaa.Ow
