/- The program's rowReckonable; a cell of a list of numbers. -/
import Derived.Test.YtekhidflncfeiaaQdP
import Derived.Test.YtekhidflncfeiaaQsP
import Derived.Test.YtekhidflncfeiaaInB
import Derived.Test.YtekhidflncfeiaaLsI
import Derived.Deep.Cut
namespace Go.Proofs.Ytekhidflncfeiaa.RrI
set_option maxRecDepth 8000
open Go.RowKit
open Ls Lp QsP QdP
open Recs (hsz below1 below2 chain chainD)
set_option linter.unusedVariables false
theorem ints_cell {w : World} {S : Nat → Prop} {A : Option Addr} {c : Nat} {us : List Int} {g o : Nat} {F : Nat → Nat → Value} (h : Opn 1 EI w S A c us g o F) {k : Nat} (hk : k < us.length) : w.cell? ⟨g, o + k, none⟩ = some (.int .i64 (us.getD k default)) := by
  have cc := h.cells k hk 0 (by omega)
  have e : F k 0 = .int .i64 (us.getD k default) := h.el k hk
  rw [e] at cc
  simpa using cc
set_option maxHeartbeats 1600000 in
theorem row_any (v : Value) (ns : List Int) (w : World) (S : Nat → Prop) (hv : IntsAt w S v ns) (hS : ∀ g, S g → g < w.heap.size) :
    Calls Try.prog 77 #[v] w fun e w' => e = .returned (.bool (ns.all inM)) ∧ w = w' := by
  obtain ⟨A, c, g, o, F, rfl, OP, hn⟩ := opn hv hS
  have HO := Seg.hid OP
  clear hv OP
  obtain ⟨R, hR⟩ : ∃ R, ns.all inM = R := ⟨_, rfl⟩
  rw [hR]
  have HR := Seg.hid hR
  clear hR
  have CQ : Hid (∀ n wx, Calls Try.prog 104 #[.int .i64 n] wx fun e w' => e = .returned (.bool (inM n)) ∧ wx = w') := fun n wx => by
    obtain ⟨b, hb⟩ : ∃ b, inM n = b := ⟨_, rfl⟩
    rw [hb]
    have CB := Seg.hid (InB.within_b n (-1000000000000000) 1000000000000000 b hb)
    clear hb
    go_enter Try.func104, Try.ntmps104
    go_wp2_with (go_at_call 85; refine (CB.out _).mono ?_; rintro e w5 ⟨rfl, rfl⟩)
    go_ret
    exact ⟨rfl, rfl⟩
  go_enter Try.func77, Try.ntmps77
  go_wp2
  go_loop [7] (fun i => ∃ k : Nat, k ≤ ns.length ∧ i = .int .i64 k ∧ Hid ((ns.take k).all inM = true)) (fun i => ns.length - (intOf i).toNat)
  case atStart => exact ⟨0, Nat.zero_le _, rfl, by show _ = _; simp⟩
  case round =>
    obtain ⟨k, hk, rfl, HG⟩ := hrel
    by_cases hlt : k < ns.length
    · obtain ⟨ea, hc, hgw⟩ := HO.out.addr.resolve_left (by omega)
      subst ea
      have d0 := ints_cell HO.out hlt
      have h0 : (0 : Int) ≤ (k : Int) := by omega
      have h1 : (k : Int) < (ns.length : Int) := by omega
      have NX := Seg.hid (all_next inM ns k hlt HG.out)
      have BX := Seg.hid (all_bad inM ns k hlt)
      generalize ns.getD k default = nk at *
      have CB : ∀ b, inM nk = b → Hid (∀ wx, Calls Try.prog 104 #[.int .i64 nk] wx fun e w' => e = .returned (.bool b) ∧ wx = w') := fun b hb => by subst hb; exact CQ.out nk
      cases hy : inM nk with
      | true =>
        have NY : Hid ((ns.take (k + 1)).all inM = true) := NX.out hy
        have CC := CB true hy
        clear hy NX BX CB
        go_wp2_with (go_at_call 104; refine (CC.out _).mono ?_; rintro e w5 ⟨rfl, rfl⟩)
        go_round
        case rel => exact ⟨k + 1, by omega, by go_num, NY.out⟩
        case measure => simp [intOf]; omega
      | false =>
        have NY : Hid (R = false) := by show _ = _; rw [← HR.out]; exact BX.out hy
        have CC := CB false hy
        clear hy NX BX CB
        go_wp2_with (go_at_call 104; refine (CC.out _).mono ?_; rintro e w5 ⟨rfl, rfl⟩)
        go_ret
        exact ⟨by rw [NY.out]; rfl, rfl⟩
    · have hkl : k = ns.length := by omega
      have RF : Hid (R = true) := by show _ = _; have := HG.out; rw [hkl, List.take_length, HR.out] at this; exact this
      have hx1 : ¬ (k : Int) < (ns.length : Int) := by omega
      clear hkl
      go_wp2
      go_ret
      exact ⟨by rw [RF.out]; rfl, rfl⟩
end Go.Proofs.Ytekhidflncfeiaa.RrI
