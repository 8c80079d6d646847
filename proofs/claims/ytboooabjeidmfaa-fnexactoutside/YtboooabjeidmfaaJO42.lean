/- The law's look at marks on texts; Inside's two answers are lists of the call's own. -/
import Derived.Test.YtboooabjeidmfaaJO41
import Derived.Test.YtboooabjeidmfaaJO39
import Derived.Test.YtboooabjeidmfaaJO32
namespace Go.Proofs.Ytboooabjeidmfaa.Ow
set_option maxRecDepth 8000
open Go.RowKit
open Recs
open Ls
set_option linter.unusedVariables false
theorem heldStringS_none (A : Option Addr) (c : Nat) (k : Int) (w : World) : Calls Try.prog 33 #[.slice A 0 c, .int .i64 k] w fun e w' => e = .returned (.int .i64 k) ∧ Below w.heap.size w w' := by
  go_enter Try.func33, Try.ntmps33
  go_wp2
  go_loop [1, 5] (fun x i => i = .int .i64 0 ∧ x = .int .i64 k) (fun _ _ => 0)
  case atStart => exact ⟨rfl, rfl⟩
  case round =>
    obtain ⟨rfl, rfl⟩ := hrel
    go_wp2
    go_ret
    exact ⟨rfl, Below.refl _ _⟩
set_option maxHeartbeats 800000 in
theorem heldStringS_core (g o n c k : Nat) (w : World) (hc : n ≤ c) (hn : n ≤ 9223372036854775807) (hk : 0 < k) (hk1 : k + n ≤ 4000000000000000000) (hg : g < w.heap.size)
    (ha : ∀ i, i < n → w.cell? ⟨g, o + i, none⟩ = some (.string (mt (k + i)))) :
    Calls Try.prog 33 #[.slice (some ⟨g, o, none⟩) n c, .int .i64 k] w fun e w' => e = .returned (.int .i64 ((k : Int) + n)) ∧ Below w.heap.size w w' := by
  have HA := Seg.hid ha
  clear ha
  go_enter Try.func33, Try.ntmps33
  go_wp2
  go_loopw [1, 5] (fun x i wr => ∃ (j : Nat), j ≤ n ∧ i = .int .i64 j ∧ x = .int .i64 ((k : Int) + j) ∧ Hid (Below w.heap.size w wr)) (fun _ i _ => n - (intOf i).toNat)
  case atStart => exact ⟨0, Nat.zero_le _, rfl, by simp, Below.refl _ _⟩
  case round =>
    obtain ⟨j, hj, rfl, rfl, HB⟩ := hrel
    by_cases hlt : j < n
    · have c1 := (HB.out.cell (p := ⟨g, o + j, none⟩) hg).trans (HA.out j hlt)
      have h0 : (0 : Int) ≤ (j : Int) := by omega
      have h1 : (j : Int) < (n : Int) := by omega
      have c1d : wr.drew.cell? ⟨g, o + j, none⟩ = some (.string (mt (k + j))) := c1
      have he : ((mt (k + j)).toList == (mt (k + j)).toList) = true := by simp
      go_wp2_with fail
      go_region_with (go_at_call 69; refine (markText_at _ (k + j) (by omega) wr.drew (by omega) (by omega)).mono ?_; rintro e w1 ⟨rfl, b1⟩; have B1 : Hid (Below w.heap.size w w1) := chainD HB.out b1; clear b1; have c1e : w1.cell? ⟨g, o + j, none⟩ = some (.string (mt (k + j))) := (B1.out.cell (p := ⟨g, o + j, none⟩) hg).trans (HA.out j hlt))
      all_goals
        clear c1 c1d c1e
        go_wp2
        go_roundw
        case rel => exact ⟨j + 1, by omega, by go_num, by go_num, B1.out⟩
        case measure => simp [intOf]; omega
    · have : j = n := by omega
      subst this
      go_wp2
      go_ret
      exact ⟨rfl, HB.out⟩
theorem heldStringS_at (x : Int) (k : Nat) (hx : x = (k : Int)) (S : Nat → Prop) (ns : List ByteArray) (w : World) {v : Value} (hk : 0 < k) (hk1 : k + tot nX ns ≤ 4000000000000000000) (hS : ∀ g, S g → g < w.heap.size) (hv : StrsAt w S v (mL mX nX k ns)) :
    Calls Try.prog 33 #[v, .int .i64 x] w fun e w' => e = .returned (.int .i64 ((k + tot nX ns : Nat) : Int)) ∧ Below w.heap.size w w' := by
  subst hx
  obtain ⟨hn, A, c, rfl, h⟩ := hv
  rw [mL_len] at hn h ⊢
  rw [nX_tot] at hk1 ⊢
  by_cases hz : ns.length = 0
  · rw [hz]
    exact heldStringS_none A c k w
  obtain ⟨g, o, F, rfl, hg, hc, hcell, hel⟩ := h.resolve_left hz
  refine (heldStringS_core g o ns.length c k w hc hn hk hk1 (hS g hg) (fun i hi => ?_)).mono fun e w' ⟨h1, h2⟩ => ⟨by rw [h1]; simp, h2⟩
  have := str_cell hcell hel i hi
  rw [this, mL_get mX nX hi, nX_tot, List.length_take, Nat.min_eq_left (Nat.le_of_lt hi), mX]
end Go.Proofs.Ytboooabjeidmfaa.Ow
namespace Go.Proofs.Ytboooabjeidmfaa.IsO
set_option maxRecDepth 8000
open Go.RowKit
open Ls Lp QsP YvP
open Ow (MineC)
theorem row_own {w : World} {B : Nat} {v : Value} {ns : List ByteArray} (h : Row w B v ns) (hl : ns.length ≤ 1048576) : Ow.StrsOwn w (seg B w.heap.size) v ns := by
  refine ⟨hl, ?_⟩
  rcases h.2 with ⟨rfl, h0⟩ | ⟨g, cap, cur, rfl, hb, hg, hnc, hcm, hcs, htake⟩
  · exact ⟨none, 0, by rw [h0], .inl h0⟩
  · have e : (List.range (ns.length * 1)).map (fun q => Value.string (ns.getD q default)) = ns.map Value.string := List.ext_getElem (by simp) fun i h1 h2 => by
      have hi : i < ns.length := by simpa using h2
      simp [hi]
    refine ⟨_, cap, rfl, .inr ⟨g, fun q => .string (ns.getD q default), fun _ _ => False, rfl, ⟨hb, (Array.getElem?_eq_some_iff.1 hg).1⟩, fun _ _ _ h => h.elim, ⟨?_, rfl, fun i hi => ?_, fun _ _ _ h => h.elim, fun _ _ _ _ _ _ h => h.elim⟩⟩⟩
    · unfold Ow.MineC
      rw [e]
      exact ⟨h.1, .inr ⟨g, cap, cur, rfl, Nat.le_refl _, hg, hnc, hcm, hcs, htake⟩⟩
    · show Value.string _ = _
      simp
theorem spec_own (x v : Value) (q : Qry) (l : List Src) (w : World) (S : Nat → Prop) (hx : QryAt w S x q) (hv : LAt 3 ESrc w S v l) (hS : ∀ g, S g → g < w.heap.size) (hz : szQry q ≤ 1048576) (hf : szL szSrc l ≤ 1048576) :
    Calls Try.prog 28 #[x, v] w fun e w' => ∃ v', e = .returned v' ∧ Ow.StrsOwn w' (seg w.heap.size w'.heap.size) v' (inside q l) ∧ Below w.heap.size w w' :=
  (IsS.spec_any x v q l w S hx hv hS hz hf).mono fun e w' ⟨r, h1, h2, h3⟩ => ⟨r, h1, row_own h2 (by have := IsI.in_few q l; omega), h3⟩
theorem impl_own (x v : Value) (q : Qry) (l : List Src) (w : World) (S : Nat → Prop) (hx : QryAt w S x q) (hv : LAt 3 ESrc w S v l) (hS : ∀ g, S g → g < w.heap.size) (hz : szQry q ≤ 1048576) (hf : szL szSrc l ≤ 1048576) :
    Calls Try.prog 29 #[x, v] w fun e w' => ∃ v', e = .returned v' ∧ Ow.StrsOwn w' (seg w.heap.size w'.heap.size) v' (inside q l) ∧ Below w.heap.size w w' :=
  (IsI.impl_any x v q l w S hx hv hS hz hf).mono fun e w' ⟨r, h1, h2, h3⟩ => ⟨r, h1, row_own h2 (by have := IsI.in_few q l; omega), h3⟩
theorem few_strs (q : Qry) (l : List Src) : tot Ow.nX (inside q l) ≤ 1000000000 := by rw [Ow.nX_tot]; have := IsI.in_few q l; omega
end Go.Proofs.Ytboooabjeidmfaa.IsO
