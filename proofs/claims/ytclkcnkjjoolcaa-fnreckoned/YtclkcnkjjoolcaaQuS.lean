/- The model's l14Sees and l14Source. -/
import Derived.Test.YtclkcnkjjoolcaaQuP
import Derived.Test.YtclkcnkjjoolcaaQyS
namespace Go.Proofs.Ytclkcnkjjoolcaa.QuS
set_option maxRecDepth 8000
open Go.RowKit
open Ls Lp QyP QsP QtP QuP
set_option linter.unusedVariables false
set_option maxHeartbeats 1600000 in
theorem sees_any (v z : Value) (l : List Stp) (cols : List ByteArray) (w : World) (S : Nat → Prop) (hv : LAt 3 EStp w S v l) (hz : LAt 1 EStr w S z cols) (hS : ∀ g, S g → g < w.heap.size) : Calls Try.prog 18 #[v, z] w fun e w' => e = .returned (.bool (sees l cols)) ∧ w = w' := by
  obtain ⟨A, c, g, o, F, rfl, OP, hn⟩ := opn hv hS
  have HO := Seg.hid OP
  obtain ⟨A2, c2, rfl⟩ := hz.form
  have CH : Hid (∀ n, Calls Try.prog 31 #[.slice A2 cols.length c2, .string n] w fun e w' => e = .returned (.bool (hasT cols n)) ∧ w = w') := fun n => QyS.has_any _ _ n w S hz hS
  clear hv hz OP
  obtain ⟨R, hR⟩ : ∃ R, sees l cols = R := ⟨_, rfl⟩
  rw [hR]
  have HR : Hid (l.all (see cols) = R) := hR
  clear hR
  go_enter Try.func18, Try.ntmps18
  go_wp2
  go_loop [5] (fun i => ∃ k : Nat, k ≤ l.length ∧ i = .int .i64 k ∧ Hid ((l.take k).all (see cols) = true)) (fun i => l.length - (intOf i).toNat)
  case atStart => exact ⟨0, Nat.zero_le _, rfl, by show _ = _; simp⟩
  case round =>
    obtain ⟨k, hk, rfl, HG⟩ := hrel
    by_cases hlt : k < l.length
    · obtain ⟨ea, hc, hgw⟩ := HO.out.addr.resolve_left (by omega)
      subst ea
      obtain ⟨d0, d1, d2⟩ := stp_at HO.out hS (Below.refl _ _) hlt
      have h0 : (0 : Int) ≤ (k : Int) := by omega
      have h1 : (k : Int) < (l.length : Int) := by omega
      have NX : Hid (see cols (l.getD k default) = true → (l.take (k + 1)).all (see cols) = true) := all_next _ l k hlt HG.out
      have BX : Hid (see cols (l.getD k default) = false → l.all (see cols) = false) := all_bad _ l k hlt
      clear HG
      generalize l.getD k default = s at *
      have SE : Hid (see cols s = (!decide (s.op = 2) || hasT cols s.name)) := rfl
      obtain ⟨op, hop⟩ : ∃ op, s.op = op := ⟨_, rfl⟩
      obtain ⟨nm, hnm⟩ : ∃ nm, s.name = nm := ⟨_, rfl⟩
      rw [hop] at d0 SE
      rw [hnm] at d2 SE
      clear hop hnm
      by_cases o2 : op = 2
      · subst o2
        obtain ⟨b, hb⟩ : ∃ b, hasT cols nm = b := ⟨_, rfl⟩
        have CB : Hid (Calls Try.prog 31 #[.slice A2 cols.length c2, .string nm] w fun e w' => e = .returned (.bool b) ∧ w = w') := by rw [← hb]; exact CH.out nm
        rw [hb] at SE
        clear hb
        cases b with
        | true =>
          have NX2 := Seg.hid (NX.out (by rw [SE.out]; rfl))
          clear NX BX
          go_wp2_with (go_at_call 31; refine CB.out.mono ?_; rintro e w6 ⟨rfl, rfl⟩)
          go_round
          case rel => exact ⟨k + 1, by omega, by go_num, NX2.out⟩
          case measure => simp [intOf]; omega
        | false =>
          have RF : Hid (R = false) := by show _ = _; rw [← HR.out]; exact BX.out (by rw [SE.out]; rfl)
          clear NX BX
          go_wp2_with (go_at_call 31; refine CB.out.mono ?_; rintro e w6 ⟨rfl, rfl⟩)
          go_ret
          exact ⟨by rw [RF.out]; rfl, rfl⟩
      · have p2 : (op == 2) = false := by simpa using o2
        have NX2 := Seg.hid (NX.out (by rw [SE.out, decide_eq_false o2]; rfl))
        clear NX BX SE o2
        go_wp2
        go_round
        case rel => exact ⟨k + 1, by omega, by go_num, NX2.out⟩
        case measure => simp [intOf]; omega
    · have hkl : k = l.length := by omega
      have RF : Hid (R = true) := by show _ = _; have := HG.out; rw [hkl, List.take_length, HR.out] at this; exact this
      have hx1 : ¬ (k : Int) < (l.length : Int) := by omega
      clear hkl
      go_wp2
      go_ret
      exact ⟨by rw [RF.out]; rfl, rfl⟩
end Go.Proofs.Ytclkcnkjjoolcaa.QuS
