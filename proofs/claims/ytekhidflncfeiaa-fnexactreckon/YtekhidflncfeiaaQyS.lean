/- The model's l14Has and l14Different. -/
import Derived.Test.YtekhidflncfeiaaQyP
import Derived.BigQuiet
import Derived.Deep.RegionHeld3
namespace Go.Proofs.Ytekhidflncfeiaa.QyS
set_option maxRecDepth 8000
open Go.RowKit
open Ls Lp QyP
set_option linter.unusedVariables false
set_option maxHeartbeats 800000 in
theorem has_any (v : Value) (ns : List ByteArray) (n : ByteArray) (w : World) (S : Nat → Prop) (hv : LAt 1 EStr w S v ns) (hS : ∀ g, S g → g < w.heap.size) : Calls Try.prog 98 #[v, .string n] w fun e w' => e = .returned (.bool (hasT ns n)) ∧ w = w' := by
  obtain ⟨A, c, g, o, F, rfl, OP, hn⟩ := opn hv hS
  have HO := Seg.hid OP
  clear hv OP
  obtain ⟨R, hR⟩ : ∃ R, hasT ns n = R := ⟨_, rfl⟩
  rw [hR]
  have HR := Seg.hid hR
  clear hR
  go_enter Try.func98, Try.ntmps98
  go_wp2
  go_loop [5] (fun i => ∃ k : Nat, k ≤ ns.length ∧ i = .int .i64 k ∧ Hid (hasT (ns.take k) n = false)) (fun i => ns.length - (intOf i).toNat)
  case atStart => exact ⟨0, Nat.zero_le _, rfl, hasT_zero _ _⟩
  case round =>
    obtain ⟨k, hk, rfl, HG⟩ := hrel
    by_cases hlt : k < ns.length
    · obtain ⟨ea, hc, hgw⟩ := HO.out.addr.resolve_left (by omega)
      subst ea
      have d0 := strs_cell HO.out rfl hlt
      have h0 : (0 : Int) ≤ (k : Int) := by omega
      have h1 : (k : Int) < (ns.length : Int) := by omega
      have NX := Seg.hid (hasT_next hlt n)
      have HT : Hid (((ns.getD k default).toList == n.toList) = true → hasT ns n = true) := hasT_hit hlt
      generalize ns.getD k default = m at *
      cases hb : (m.toList == n.toList) with
      | true =>
        have RF : Hid (R = true) := by show _ = _; rw [← HR.out]; exact HT.out hb
        go_wp2
        go_ret
        exact ⟨by rw [RF.out]; rfl, rfl⟩
      | false =>
        have HN : Hid (hasT (ns.take (k + 1)) n = false) := by show _ = _; rw [NX.out, HG.out, hb]; rfl
        go_wp2
        go_round
        case rel => exact ⟨k + 1, by omega, by go_num, HN.out⟩
        case measure => simp [intOf]; omega
    · obtain rfl : k = ns.length := by omega
      have RF : Hid (R = false) := by show _ = _; have := HG.out; rw [List.take_length, HR.out] at this; exact this
      go_wp2
      go_ret
      exact ⟨by rw [RF.out]; rfl, rfl⟩
set_option maxHeartbeats 1600000 in
theorem diff_any (v : Value) (ns : List ByteArray) (w : World) (S : Nat → Prop) (hv : LAt 1 EStr w S v ns) (hS : ∀ g, S g → g < w.heap.size) : Calls Try.prog 81 #[v] w fun e w' => e = .returned (.bool (diff ns)) ∧ Below w.heap.size w w' := by
  have HV0 := Seg.hid hv
  obtain ⟨A, c, g, o, F, rfl, OP, hn⟩ := opn hv hS
  have HO := Seg.hid OP
  clear hv OP
  obtain ⟨R, hR⟩ : ∃ R, diff ns = R := ⟨_, rfl⟩
  rw [hR]
  have HR : Hid (diffN ns ns.length = R) := hR
  clear hR
  go_enter Try.func81, Try.ntmps81
  go_wp2
  go_loopw [3] (fun i wr => ∃ k : Nat, k ≤ ns.length ∧ i = .int .i64 k ∧ Hid (diffN ns k = true ∧ Qt w wr)) (fun i _ => ns.length - (intOf i).toNat)
  case atStart => exact ⟨0, Nat.zero_le _, rfl, diffN_zero _, Qt.refl _⟩
  case round =>
    obtain ⟨k, hk, rfl, HG⟩ := hrel
    by_cases hlt : k < ns.length
    · obtain ⟨ea, hc, hgw⟩ := HO.out.addr.resolve_left (by omega)
      subst ea
      have hq := HG.out.2
      have d0 := strs_cell (w' := wr) HO.out (by rw [hq.heap]) hlt
      have h0 : (0 : Int) ≤ (k : Int) := by omega
      have h1 : (k : Int) < (ns.length : Int) := by omega
      have h2 : (k : Int) ≤ (ns.length : Int) := by omega
      have h3 : (k : Int) ≤ (c : Int) := by omega
      have h4 : k ≤ c := by omega
      have h5 : ¬ c = 0 := by omega
      have NX : Hid (hasT (ns.take k) (ns.getD k default) = false → diffN ns (k + 1) = true) := diffN_next HG.out.1
      have BX : Hid (hasT (ns.take k) (ns.getD k default) = true → diffN ns ns.length = false) := diffN_bad hlt
      have QW := Seg.hid hq
      have CH : Hid (∀ wx, Qt w wx → Calls Try.prog 98 #[.slice (some ⟨g, o, none⟩) k c, .string (ns.getD k default)] wx fun e w' => e = .returned (.bool (hasT (ns.take k) (ns.getD k default))) ∧ wx = w') := fun wx q => has_any _ _ _ wx S (LAt.keep keepsStr (take_at HV0.out (by omega)) (fun y _ => by rw [q.heap])) (fun y hy => by rw [q.heap]; exact hS y hy)
      clear HG hq
      obtain ⟨b, hb⟩ : ∃ b, hasT (ns.take k) (ns.getD k default) = b := ⟨_, rfl⟩
      rw [hb] at NX BX CH
      clear hb
      generalize ns.getD k default = m at *
      go_wp2_with fail
      go_region_held3 (fun w' => w'.cell? ⟨g, o + k, none⟩ = some (.string m)) (first | exact d0 | go_keep) (first | (go_at_call 98; refine (CH.out _ QW.out.drew).mono ?_; rintro e wz ⟨rfl, rfl⟩))
      cases b with
      | true =>
        go_wp2
        go_ret
        exact ⟨by rw [← HR.out, BX.out (by simp)]; rfl, (QW.out.drewN _).bel _⟩
      | false =>
        go_wp2
        go_roundw
        case rel => exact ⟨k + 1, by omega, by go_num, NX.out (by simp), QW.out.drewN _⟩
        case measure => simp [intOf]; omega
    · obtain rfl : k = ns.length := by omega
      have RF : Hid (R = true) := by show _ = _; rw [← HR.out]; exact HG.out.1
      have QW := Seg.hid HG.out.2
      go_wp2
      go_ret
      exact ⟨by rw [RF.out]; rfl, QW.out.bel _⟩
end Go.Proofs.Ytekhidflncfeiaa.QyS
