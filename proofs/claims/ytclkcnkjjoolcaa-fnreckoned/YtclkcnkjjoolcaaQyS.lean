/- The model's l14Has and l14Different. -/
import Derived.Test.YtclkcnkjjoolcaaQyP
import Derived.BigQuiet
import Derived.Deep.RegionHeld3
namespace Go.Proofs.Ytclkcnkjjoolcaa.QyS
set_option maxRecDepth 8000
open Go.RowKit
open Ls Lp QyP
set_option linter.unusedVariables false
set_option maxHeartbeats 800000 in
theorem has_any (v : Value) (ns : List ByteArray) (n : ByteArray) (w : World) (S : Nat → Prop) (hv : LAt 1 EStr w S v ns) (hS : ∀ g, S g → g < w.heap.size) : Calls Try.prog 31 #[v, .string n] w fun e w' => e = .returned (.bool (hasT ns n)) ∧ w = w' := by
  obtain ⟨A, c, g, o, F, rfl, OP, hn⟩ := opn hv hS
  have HO := Seg.hid OP
  clear hv OP
  obtain ⟨R, hR⟩ : ∃ R, hasT ns n = R := ⟨_, rfl⟩
  rw [hR]
  have HR := Seg.hid hR
  clear hR
  go_enter Try.func31, Try.ntmps31
  go_wp2
  go_loop [5] (fun i => ∃ k : Nat, k ≤ ns.length ∧ i = .int .i64 k ∧ Hid (hasT (ns.take k) n = false)) (fun i => ns.length - (intOf i).toNat)
  case atStart => exact ⟨0, Nat.zero_le _, rfl, hasT_zero _ _⟩
  case round =>
    obtain ⟨k, hk, rfl, HG⟩ := hrel
    by_cases hlt : k < ns.length
    · obtain ⟨ea, hc, hgw⟩ := HO.out.addr.resolve_left (by omega)
      subst ea
      have d0 := strs_cell HO.out rfl hlt
      have h0 : (0 : Int) ≤ (k : Int) := by omega
      have h1 : (k : Int) < (ns.length : Int) := by omega
      have NX := Seg.hid (hasT_next hlt n)
      have HT : Hid (((ns.getD k default).toList == n.toList) = true → hasT ns n = true) := hasT_hit hlt
      generalize ns.getD k default = m at *
      cases hb : (m.toList == n.toList) with
      | true =>
        have RF : Hid (R = true) := by show _ = _; rw [← HR.out]; exact HT.out hb
        go_wp2
        go_ret
        exact ⟨by rw [RF.out]; rfl, rfl⟩
      | false =>
        have HN : Hid (hasT (ns.take (k + 1)) n = false) := by show _ = _; rw [NX.out, HG.out, hb]; rfl
        go_wp2
        go_round
        case rel => exact ⟨k + 1, by omega, by go_num, HN.out⟩
        case measure => simp [intOf]; omega
    · obtain rfl : k = ns.length := by omega
      have RF : Hid (R = false) := by show _ = _; have := HG.out; rw [List.take_length, HR.out] at this; exact this
      go_wp2
      go_ret
      exact ⟨by rw [RF.out]; rfl, rfl⟩
end Go.Proofs.Ytclkcnkjjoolcaa.QyS
