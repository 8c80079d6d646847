/- Lists of numbers: what the law's helpers answer. -/
import Derived.Test.YtafgakddhoabjaaLs
namespace Go.Proofs.Ytafgakddhoabjaa.Ls
set_option maxRecDepth 8000
open Go.RowKit
open Recs
set_option linter.unusedVariables false
theorem infoI : (Try.prog.info? 3).map (fun i => (i.zero, i.size, i.bytes)) = some (some (.int .i64 0), 1, 8) := by kernel_rfl
theorem eqIntS_none (A A' : Option Addr) (c c' : Nat) (w : World) :
    Calls Try.prog 15 #[.slice A 0 c, .slice A' 0 c'] w fun e w' => e = .returned (.bool true) ∧ Below w.heap.size w w' := by
  go_enter Try.func15, Try.ntmps15
  go_wp2
  go_loop [5] (fun i => i = .int .i64 0) (fun _ => 0)
  case atStart => rfl
  case round =>
    subst hrel
    go_wp2
    go_ret
    exact ⟨rfl, Below.refl _ _⟩
set_option maxHeartbeats 400000 in
theorem eqIntS_core (g o g' o' n c c' : Nat) (ns : List Int) (w : World) (hn : n ≤ 9223372036854775807) (hc : n ≤ c) (hc' : n ≤ c') (hg : g < w.heap.size) (hg' : g' < w.heap.size)
    (ha : ∀ i, i < n → w.cell? ⟨g, o + i, none⟩ = some (.int .i64 (ns.getD i default))) (ha' : ∀ i, i < n → w.cell? ⟨g', o' + i, none⟩ = some (.int .i64 (ns.getD i default))) :
    Calls Try.prog 15 #[.slice (some ⟨g, o, none⟩) n c, .slice (some ⟨g', o', none⟩) n c'] w fun e w' => e = .returned (.bool true) ∧ Below w.heap.size w w' := by
  have HA := Seg.hid ha; have HA' := Seg.hid ha'
  clear ha ha'
  go_enter Try.func15, Try.ntmps15
  go_wp2
  go_loopw [5] (fun i wr => ∃ k d : Nat, k ≤ n ∧ i = .int .i64 k ∧ wr = w.drewN d) (fun i _ => n - (intOf i).toNat)
  case atStart => exact ⟨0, 0, Nat.zero_le _, rfl, rfl⟩
  case round =>
    obtain ⟨k, d, hk, rfl, rfl⟩ := hrel
    by_cases hlt2 : k < n
    · have c1 := HA.out k hlt2
      have c2 := HA'.out k hlt2
      have h0 : (0 : Int) ≤ (k : Int) := by omega
      have h1 : (k : Int) < (n : Int) := by omega
      generalize ns.getD k default = nk at *
      have hne : (nk != nk) = false := by simp
      go_wp2
      go_region
      go_wp2
      go_roundw
      case rel => exact ⟨k + 1, d + 1, by omega, by go_num, rfl⟩
      case measure => simp [intOf]; omega
    · have : k = n := by omega
      subst this
      go_wp2
      go_ret
      exact ⟨rfl, ⟨rfl, rfl, rfl, Nat.le_refl _, fun _ _ => rfl⟩⟩
theorem eqIntS_any (v v' : Value) (ns : List Int) (w : World) (S S' : Nat → Prop) (hv : IntsAt w S v ns) (hv' : IntsAt w S' v' ns) (hS : ∀ g, S g → g < w.heap.size) (hS' : ∀ g, S' g → g < w.heap.size) :
    Calls Try.prog 15 #[v, v'] w fun e w' => e = .returned (.bool true) ∧ Below w.heap.size w w' := by
  obtain ⟨hn, A, c, rfl, h⟩ := hv
  obtain ⟨_, A', c', rfl, h'⟩ := hv'
  by_cases hz : ns.length = 0
  · rw [hz]
    exact eqIntS_none A A' c c' w
  obtain ⟨g, o, F, rfl, hg, hc, hcell, hel⟩ := h.resolve_left hz
  obtain ⟨g', o', F', rfl, hg', hc', hcell', hel'⟩ := h'.resolve_left hz
  exact eqIntS_core g o g' o' ns.length c c' ns w hn hc hc' (hS g hg) (hS' g' hg') (int_cell hcell hel) (int_cell hcell' hel')
end Go.Proofs.Ytafgakddhoabjaa.Ls
