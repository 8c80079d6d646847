/- The law's look at marks: Heads, Records. -/
import Derived.Test.YticihnoekffelaaJC08
namespace Go.Proofs.Yticihnoekffelaa.Ft
set_option maxRecDepth 8000
open Go.RowKit
open Recs
open ToO (MineC)
open Mk (mt markText_at)
set_option linter.unusedVariables false
theorem heldHeadS_none (A : Option Addr) (c : Nat) (k : Int) (w : World) : Calls Try.prog 76 #[.slice A 0 c, .int .i64 k] w fun e w' => e = .returned (.int .i64 k) ∧ Below w.heap.size w w' := by
  go_enter Try.func76, Try.ntmps76
  go_wp2
  go_loop [1, 5] (fun x i => i = .int .i64 0 ∧ x = .int .i64 k) (fun _ _ => 0)
  case atStart => exact ⟨rfl, rfl⟩
  case round =>
    obtain ⟨rfl, rfl⟩ := hrel
    go_wp2
    go_ret
    exact ⟨rfl, Below.refl _ _⟩
set_option maxHeartbeats 800000 in
theorem heldHeadS_core (g n c k : Nat) (P : Nat → Nat → Prop) (F : Nat → Value) (hs : List Hd) (w : World) (hn : n ≤ 1048576) (hk : 0 < k) (hk1 : k ≤ 4000000000000000000) (hl : hs.length = n) (ho : LOpen 116 2 EH w g n c F P (mL mH1 nH1 k hs)) :
    Calls Try.prog 76 #[.slice (some ⟨g, 0, none⟩) n c, .int .i64 k] w fun e w' => e = .returned (.int .i64 ((k + 2 * n : Nat) : Int)) ∧ Below w.heap.size w w' := by
  have hc := ho.mine.le
  have hg := ho.mine.lt
  have HC : Hid (∀ wr i, Below w.heap.size w wr → i < n → wr.cell? ⟨g, i * 2, none⟩ = some (.string (mt (k + 2 * i))) ∧ wr.cell? ⟨g, i * 2 + 1, none⟩ = some (.string (mt (k + 2 * i + 1)))) := fun wr i hb hi => by
    have e := ho.el i hi
    rw [mL_get mH1 nH1 (by omega), nH_eq, List.length_take, Nat.min_eq_left (by omega)] at e
    obtain ⟨e0, e1⟩ := e
    refine ⟨?_, ?_⟩
    · rw [hb.cell (p := ⟨g, i * 2, none⟩) hg, ho.mine.cell _ (by omega)]
      exact congrArg some e0
    · rw [hb.cell (p := ⟨g, i * 2 + 1, none⟩) hg, ho.mine.cell _ (by omega)]
      exact congrArg some e1
  clear ho hl
  go_enter Try.func76, Try.ntmps76
  go_wp2
  go_loopw [1, 5] (fun x i wr => ∃ j : Nat, j ≤ n ∧ i = .int .i64 j ∧ x = .int .i64 ((k + 2 * j : Nat) : Int) ∧ Hid (Below w.heap.size w wr)) (fun _ i _ => n - (intOf i).toNat)
  case atStart => exact ⟨0, Nat.zero_le _, rfl, rfl, Below.refl _ _⟩
  case round =>
    obtain ⟨j, hj, rfl, rfl, HB⟩ := hrel
    by_cases hlt : j < n
    · have h0 : (0 : Int) ≤ (j : Int) := by omega
      have h1 : (j : Int) < (n : Int) := by omega
      have hx0 : 0 < k + 2 * j := by omega
      have hx1 : k + 2 * j + 2 ≤ 4100000000000000000 := by omega
      have HN : Hid (((k + 2 * (j + 1) : Nat) : Int) = ((k + 2 * j : Nat) : Int) + 1 + 1) := by show _ = _; omega
      have HC1 := Seg.hid (fun wr hb => HC.out wr j hb hlt)
      obtain ⟨c0, c1⟩ := HC.out wr j HB.out hlt
      have c0d : wr.drew.cell? ⟨g, j * 2, none⟩ = some (.string (mt (k + 2 * j))) := c0
      generalize k + 2 * j = x at *
      go_wp2_with fail
      go_region_with (go_at_call 74; refine (markText_at _ x (by omega) wr.drew (by omega) (by omega)).mono ?_; rintro e w1 ⟨rfl, b1⟩; have B1 : Hid (Below w.heap.size w w1) := chainD HB.out b1; clear b1; have c2 := (HC1.out w1 B1.out).1)
      all_goals
        clear c0 c0d c1 c2
        obtain ⟨c0, c1⟩ := HC1.out w1 B1.out
        have c1d : w1.drew.cell? ⟨g, j * 2 + 1, none⟩ = some (.string (mt (x + 1))) := c1
        go_wp2_with fail
        go_region_with (go_at_call 74; refine (markText_at _ (x + 1) (by omega) w1.drew (by omega) (by omega)).mono ?_; rintro e w2 ⟨rfl, b2⟩; have B2 : Hid (Below w.heap.size w w2) := chainD B1.out b2; clear b2; have c2 := (HC1.out w2 B2.out).2)
        all_goals
          clear c0 c1d c1 c2
          go_wp2
          go_roundw
          case rel => exact ⟨j + 1, by omega, by go_num, by rw [HN.out], B2.out⟩
          case measure => simp [intOf]; omega
    · have : j = n := by omega
      subst this
      go_wp2
      go_ret
      exact ⟨rfl, HB.out⟩
theorem heldHeadS_own (v : Value) (k : Nat) (S : Nat → Prop) (hs : List Hd) (w : World) (hk : 0 < k) (hk1 : k ≤ 4000000000000000000) (hv : OwnH w S v (mL mH1 nH1 k hs)) :
    Calls Try.prog 76 #[v, .int .i64 k] w fun e w' => e = .returned (.int .i64 ((k + nL nH1 hs : Nat) : Int)) ∧ Below w.heap.size w w' := by
  obtain ⟨h0, A, c, rfl, h⟩ := hv
  rw [mL_len] at h0 h ⊢
  by_cases hz : hs.length = 0
  · have : hs = [] := List.length_eq_zero_iff.1 hz
    subst this
    exact (heldHeadS_none A c k w).mono fun e w' ⟨h1, h2⟩ => ⟨by rw [h1]; rfl, h2⟩
  obtain ⟨g, F, P, rfl, h3, h4, h5⟩ := h.resolve_left hz
  rw [nH_eq]
  exact heldHeadS_core g hs.length c k P F hs w h0 hk hk1 rfl h5
theorem heldHeadS_at (y : Int) (k : Nat) (hy : y = (k : Int)) (S : Nat → Prop) (hs : List Hd) (w : World) {v : Value} (hk : 0 < k) (hk1 : k ≤ 4000000000000000000) (hv : OwnH w S v (mL mH1 nH1 k hs)) :
    Calls Try.prog 76 #[v, .int .i64 y] w fun e w' => e = .returned (.int .i64 ((k + nL nH1 hs : Nat) : Int)) ∧ Below w.heap.size w w' := by
  subst hy
  exact heldHeadS_own v k S hs w hk hk1 hv
end Go.Proofs.Yticihnoekffelaa.Ft
