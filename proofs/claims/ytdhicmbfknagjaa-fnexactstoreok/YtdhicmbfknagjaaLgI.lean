/- LogOk of the program. -/
import Derived.Test.YtdhicmbfknagjaaBndL
import Derived.Test.YtdhicmbfknagjaaBOkF
namespace Go.Proofs.Ytdhicmbfknagjaa.LgI
set_option maxRecDepth 8000
open Go.RowKit
open LgP (inR many)
open Bats SegW Segs LogW
open Recs (hsz Row below1 below2 BatAt RecsAt batVal Bat chain)
set_option linter.unusedVariables false
set_option maxHeartbeats 400000 in
theorem count_core (g o c : Nat) (ss : List Sg) (H : Nat → Value) (w : World) (hn : ss.length ≤ 1048576) (hc : ss.length ≤ c) (hg : g < w.heap.size) (hm : ∀ i, i < ss.length → (ss.getD i default).bats.length ≤ 1048576) (hh : ∀ i, i < ss.length → ∃ A c, H i = .slice A (ss.getD i default).bats.length c)
    (ha : ∀ i, i < ss.length → ∀ j, j < 2 → w.cell? ⟨g, o + i * 2 + j, none⟩ = some (segsCells ss H i j)) :
    Calls Try.prog 129 #[.slice (some ⟨g, o, none⟩) ss.length c] w fun e w' => e = .returned (.int .i64 (many ss)) ∧ Below w.heap.size w w' := by
  have HA := Seg.hid ha
  have HM := Seg.hid hm
  have HH := Seg.hid hh
  clear ha hm hh
  go_enter Try.func129, Try.ntmps129
  go_wp2_with fail
  go_loopw [3, 8] (fun m i wr => ∃ (k q : Nat), k ≤ ss.length ∧ m = .int .i64 q ∧ i = .int .i64 k ∧ q = many (ss.take k) ∧ q ≤ k * 1048576 ∧ Hid (Below w.heap.size w wr)) (fun _ i _ => ss.length - (intOf i).toNat)
  case atStart => exact ⟨0, 0, Nat.zero_le _, rfl, rfl, rfl, by omega, Below.refl _ _⟩
  case round =>
    obtain ⟨k, q, hk, rfl, rfl, hq, hq2, HB⟩ := hrel
    by_cases hlt : k < ss.length
    · obtain ⟨c0, c1⟩ := six (six' HA.out HB.out hg) k hlt
      obtain ⟨A1, k1, e1⟩ := HH.out k hlt
      have hm := HM.out k hlt
      have hd := LgP.many_drop ss k hlt
      rw [e1] at c1
      have h0 : (0 : Int) ≤ (k : Int) := by omega
      have h1 : (k : Int) < (ss.length : Int) := by omega
      generalize ss.getD k default = sk at *
      go_wp2
      go_roundw
      case rel => exact ⟨k + 1, q + sk.bats.length, by omega, by go_num, by go_num, by omega, by omega, HB.out.alloc HB.out.size _⟩
      case measure => simp [intOf]; omega
    · have : k = ss.length := by omega
      subst this
      rw [List.take_length] at hq
      go_wp2
      go_ret
      exact ⟨Seg.ret_int (by omega), HB.out⟩
theorem count_none (A : Option Addr) (c : Nat) (w : World) :
    Calls Try.prog 129 #[.slice A 0 c] w fun e w' => e = .returned (.int .i64 0) ∧ Below w.heap.size w w' := by
  go_enter Try.func129, Try.ntmps129
  go_wp2_with fail
  go_loop [3, 8] (fun m i => m = .int .i64 0 ∧ i = .int .i64 0) (fun _ _ => 0)
  case atStart => exact ⟨rfl, rfl⟩
  case round =>
    obtain ⟨rfl, rfl⟩ := hrel
    go_wp2
    go_ret
    exact ⟨rfl, Below.refl _ _⟩
theorem count_any (v : Value) (ss : List Sg) (w : World) (lo b : Nat) (hv : SegsAt w lo b v ss) (hb : b ≤ w.heap.size) (hl : ss.length ≤ 1048576) (hf : ∀ i, i < ss.length → FewS (ss.getD i default)) :
    Calls Try.prog 129 #[v] w fun e w' => e = .returned (.int .i64 (many ss)) ∧ Below w.heap.size w w' := by
  obtain ⟨H, ⟨hn, A, c, rfl, h⟩, hh⟩ := hv
  by_cases hz : ss.length = 0
  · rw [hz]
    obtain rfl := List.length_eq_zero_iff.1 hz
    exact count_none A c w
  obtain ⟨g, o, rfl, hg, hc, hcell, _⟩ := h.resolve_left hz
  refine count_core g o c ss H w hl hc (by omega) (fun i hi => (hf i hi).1) (fun i hi => ?_) hcell
  obtain ⟨_, ⟨_, A', c', e, _⟩, _⟩ := hh i hi
  exact ⟨A', c', e⟩
theorem many_le : ∀ (l : List Sg), (∀ i, i < l.length → (l.getD i default).bats.length ≤ 1048576) → many l ≤ l.length * 1048576
  | [], _ => by simp [many]
  | s :: t, h => by
    have h1 := many_le t (fun i hi => by have := h (i + 1) (by simpa using hi); simpa using this)
    have h0 := h 0 (by simp)
    simp only [many, List.length_cons, List.getD_cons_zero] at h0 ⊢
    omega
theorem counts_any (v : Value) (ss : List Sg) (w : World) (lo b : Nat) (t : Bool) (ht : LgP.counts ss = t) (hv : SegsAt w lo b v ss) (hb : b ≤ w.heap.size) (hl : ss.length ≤ 1048576) (hf : ∀ i, i < ss.length → FewS (ss.getD i default)) :
    Calls Try.prog 109 #[v] w fun e w' => e = .returned (.bool t) ∧ Below w.heap.size w w' := by
  subst ht
  have HV := Seg.hid hv
  obtain ⟨H, ⟨hn, A, c, rfl, h⟩, hh⟩ := hv
  have hm := many_le ss (fun i hi => (hf i hi).1)
  have HF := Seg.hid hf
  clear h hh hf
  unfold LgP.counts
  by_cases hs : ss.length ≤ 60
  · go_enter Try.func109, Try.ntmps109
    go_wp2_with fail
    refine (count_any _ ss w lo b HV.out hb hl HF.out).mono ?_
    rintro e w1 ⟨rfl, b1⟩
    have B1 := Seg.hid b1
    clear b1
    go_wp2
    go_ret
    exact ⟨Seg.ret_bool (by rw [Bool.eq_iff_iff]; simp; omega), B1.out⟩
  · go_enter Try.func109, Try.ntmps109
    go_wp2
    go_ret
    exact ⟨Seg.ret_bool (by first | rfl | (simp only [decide_eq_false hs, Bool.false_and])), Below.refl _ _⟩
end Go.Proofs.Ytdhicmbfknagjaa.LgI
