/- The law's look at marks: lists of Records (written by gen_held.py). -/
import Derived.Test.YticihnoekffelaaJC09
namespace Go.Proofs.Yticihnoekffelaa.Ft
set_option maxRecDepth 8000
open Go.RowKit
open Recs
open ToO (MineC)
open Mk (mt markText_at)
open SegW
set_option linter.unusedVariables false
theorem heldRecordS_none (A : Option Addr) (c : Nat) (k : Int) (w : World) : Calls Try.prog 49 #[.slice A 0 c, .int .i64 k] w fun e w' => e = .returned (.int .i64 k) ∧ Below w.heap.size w w' := by
  go_enter Try.func49, Try.ntmps49
  go_wp2
  go_loop [1, 5] (fun x i => i = .int .i64 0 ∧ x = .int .i64 k) (fun _ _ => 0)
  case atStart => exact ⟨rfl, rfl⟩
  case round =>
    obtain ⟨rfl, rfl⟩ := hrel
    go_wp2
    go_ret
    exact ⟨rfl, Below.refl _ _⟩
set_option maxHeartbeats 3200000 in
theorem heldRecordS_core (g n c k : Nat) (P : Nat → Nat → Prop) (F : Nat → Value) (ts : List Rec) (w : World) (hn : n ≤ 1048576) (hk : 0 < k) (hk1 : k + nL nR1 ts ≤ 4000000000000000000) (hl : ts.length = n) (ho : LOpen 88 6 ER w g n c F P (mL mR1 nR1 k ts)) :
    Calls Try.prog 49 #[.slice (some ⟨g, 0, none⟩) n c, .int .i64 k] w fun e w' => e = .returned (.int .i64 ((k + nL nR1 ts : Nat) : Int)) ∧ Below w.heap.size w w' := by
  have hc := ho.mine.le
  have hg := ho.mine.lt
  have HC : Hid (∀ wr i, Below w.heap.size w wr → i < n → wr.cell? ⟨g, i * 6, none⟩ = some (.int .i64 ((((k + nL nR1 (ts.take i)) : Nat) : Int))) ∧ wr.cell? ⟨g, i * 6 + 1, none⟩ = some (.bool (((((k + nL nR1 (ts.take i)) : Nat) : Int) + 1) % 3 == 0)) ∧ wr.cell? ⟨g, i * 6 + 2, none⟩ = some (.string (mt ((k + nL nR1 (ts.take i)) + 2))) ∧ wr.cell? ⟨g, i * 6 + 3, none⟩ = some (.bool (((((k + nL nR1 (ts.take i)) : Nat) : Int) + 1 + 1 + 1) % 3 == 0)) ∧ wr.cell? ⟨g, i * 6 + 4, none⟩ = some (.string (mt ((k + nL nR1 (ts.take i)) + 4)))) := fun wr i hb hi => by
    have e := ho.el i hi
    rw [mL_get mR1 nR1 (by omega)] at e
    obtain ⟨⟨e0, e1, e2, e3, e4⟩, _⟩ := e
    refine ⟨?_, ?_, ?_, ?_, ?_⟩
    · rw [hb.cell (p := ⟨g, i * 6, none⟩) hg, ho.mine.cell _ (by omega)]
      exact congrArg some e0
    · rw [hb.cell (p := ⟨g, i * 6 + 1, none⟩) hg, ho.mine.cell _ (by omega)]
      exact congrArg some e1
    · rw [hb.cell (p := ⟨g, i * 6 + 2, none⟩) hg, ho.mine.cell _ (by omega)]
      exact congrArg some e2
    · rw [hb.cell (p := ⟨g, i * 6 + 3, none⟩) hg, ho.mine.cell _ (by omega)]
      exact congrArg some e3
    · rw [hb.cell (p := ⟨g, i * 6 + 4, none⟩) hg, ho.mine.cell _ (by omega)]
      exact congrArg some e4
  have HI : Hid (∀ wr i, Below w.heap.size w wr → i < n → wr.cell? ⟨g, i * 6 + 5, none⟩ = some (F (i * 6 + 5)) ∧ OwnH wr (P i) (F (i * 6 + 5)) (mL mH1 nH1 (k + nL nR1 (ts.take i) + 5) (ts.getD i default).heads)) := fun wr i hb hi => by
    have e := ho.el i hi
    rw [mL_get mR1 nR1 (by omega)] at e
    refine ⟨?_, ?_⟩
    · rw [hb.cell (p := ⟨g, i * 6 + 5, none⟩) hg, ho.mine.cell _ (by omega)]
    · exact LOwn.keep keepsH e.2 hb.size (fun q hq => hb.block q (ho.apart i hi q hq).2)
  have KL : Hid (∀ j, j < n → k + nL nR1 (ts.take j) + 5 + nL nH1 (ts.getD j default).heads ≤ 4000000000000000000) := fun j hj => by
    have a1 := nL_take nR1 (ts := ts) (j := j) (by omega)
    have a2 := nL_le nR1 ts (j + 1)
    have a3 : nR1 (ts.getD j default) = 5 + nL nH1 (ts.getD j default).heads := rfl
    omega
  have KE : Hid (k + nL nR1 (ts.take n) = k + nL nR1 ts) := by show _ = _; rw [← hl, List.take_length]
  have HL := Seg.hid hl
  clear ho hl hk1
  go_enter Try.func49, Try.ntmps49
  go_wp2
  go_loopw [1, 5] (fun x i wr => ∃ j : Nat, j ≤ n ∧ i = .int .i64 j ∧ x = .int .i64 ((k + nL nR1 (ts.take j) : Nat) : Int) ∧ Hid (Below w.heap.size w wr)) (fun _ i _ => n - (intOf i).toNat)
  case atStart => exact ⟨0, Nat.zero_le _, rfl, rfl, Below.refl _ _⟩
  case round =>
    obtain ⟨j, hj, rfl, rfl, HB⟩ := hrel
    by_cases hlt : j < n
    · have h0 : (0 : Int) ≤ (j : Int) := by omega
      have h1 : (j : Int) < (n : Int) := by omega
      have hxb := KL.out j hlt
      have HKK : Hid (((k + nL nR1 (ts.take j) + 5 + nL nH1 (ts.getD j default).heads : Nat) : Int) = ((k + nL nR1 (ts.take (j + 1)) : Nat) : Int)) := by
        show _ = _
        rw [nL_take nR1 (by rw [HL.out]; exact hlt)]
        have a3 : nR1 (ts.getD j default) = 5 + nL nH1 (ts.getD j default).heads := rfl
        omega
      have HC1 : Hid (∀ wr, Below w.heap.size w wr → _) := fun wr hb => HC.out wr j hb hlt
      have HI1 : Hid (∀ wr, Below w.heap.size w wr → _) := fun wr hb => HI.out wr j hb hlt
      have hx0 : 0 < k + nL nR1 (ts.take j) := by omega
      obtain ⟨L, hL⟩ : ∃ L, (ts.getD j default).heads = L := ⟨_, rfl⟩
      rw [hL] at hxb HKK
      obtain ⟨x, hx⟩ : ∃ x, k + nL nR1 (ts.take j) = x := ⟨_, rfl⟩
      have HC2 : Hid (∀ wr, Below w.heap.size w wr → wr.cell? ⟨g, j * 6, none⟩ = some (.int .i64 (((x : Nat) : Int))) ∧ wr.cell? ⟨g, j * 6 + 1, none⟩ = some (.bool ((((x : Nat) : Int) + 1) % 3 == 0)) ∧ wr.cell? ⟨g, j * 6 + 2, none⟩ = some (.string (mt (x + 2))) ∧ wr.cell? ⟨g, j * 6 + 3, none⟩ = some (.bool ((((x : Nat) : Int) + 1 + 1 + 1) % 3 == 0)) ∧ wr.cell? ⟨g, j * 6 + 4, none⟩ = some (.string (mt (x + 4)))) := fun wr hb => by
        have := HC1.out wr hb
        rw [hx] at this
        exact this
      have HI2 : Hid (∀ wr, Below w.heap.size w wr → wr.cell? ⟨g, j * 6 + 5, none⟩ = some (F (j * 6 + 5)) ∧ OwnH wr (P j) (F (j * 6 + 5)) (mL mH1 nH1 (x + 5) L)) := fun wr hb => by
        have := HI1.out wr hb
        rw [hx, hL] at this
        exact this
      rw [hx] at hxb hx0 HKK ⊢
      clear HC1 HI1 hx hL
      have HXB := Seg.hid hxb
      have hxc : x + 5 ≤ 4000000000000000000 := by omega
      obtain ⟨A1, c1', hsl⟩ := LOwn.form (HI2.out wr HB.out).2
      rw [mL_len] at hsl
      have HS := Seg.hid hsl
      have HI3 : Hid (∀ wr, Below w.heap.size w wr → wr.cell? ⟨g, j * 6 + 5, none⟩ = some (.slice A1 L.length c1') ∧ OwnH wr (P j) (.slice A1 L.length c1') (mL mH1 nH1 (x + 5) L)) := fun wr hb => by
        have := HI2.out wr hb
        rw [HS.out] at this
        exact this
      clear HI2 hsl hxb
      obtain ⟨c0, c1, c2, c3, c4⟩ := HC2.out wr HB.out
      obtain ⟨cI, _⟩ := HI3.out wr HB.out
      have c2d : wr.drew.cell? ⟨g, j * 6 + 2, none⟩ = some (.string (mt (x + 2))) := c2
      go_wp2_with fail
      go_region_with (go_at_call 74; refine (markText_at _ (x + 2) (by omega) wr.drew (by omega) (by omega)).mono ?_; rintro e w1 ⟨rfl, b1⟩; have B1 : Hid (Below w.heap.size w w1) := chainD HB.out b1; clear b1; have cx := (HC2.out w1 B1.out).2.2.1)
      all_goals
        clear cx c2d c0 c1 c2 c3 c4 cI
        obtain ⟨c0, c1, c2, c3, c4⟩ := HC2.out w1 B1.out
        obtain ⟨cI, _⟩ := HI3.out w1 B1.out
        have c4d : w1.drew.cell? ⟨g, j * 6 + 4, none⟩ = some (.string (mt (x + 4))) := c4
        go_wp2_with fail
        go_region_with (go_at_call 74; refine (markText_at _ (x + 4) (by omega) w1.drew (by omega) (by omega)).mono ?_; rintro e w2 ⟨rfl, b2⟩; have B2 : Hid (Below w.heap.size w w2) := chainD B1.out b2; clear b2; have cx := (HC2.out w2 B2.out).2.2.2.2)
        all_goals
          clear cx c4d c0 c1 c2 c3 c4 cI
          obtain ⟨c0, c1, c2, c3, c4⟩ := HC2.out w2 B2.out
          obtain ⟨cI, _⟩ := HI3.out w2 B2.out
          go_wp2_with fail
          refine (heldHeadS_at _ (x + 5) (by omega) (P j) L w2 (by omega) (by omega) (HI3.out w2 B2.out).2).mono ?_
          rintro e w3 ⟨rfl, b3⟩
          have B3 := Seg.hid (chain B2.out b3)
          clear b3 c0 c1 c2 c3 c4 cI
          rw [HKK.out]
          have hnn : ¬ ((k + nL nR1 (ts.take (j + 1)) : Nat) : Int) < 0 := by omega
          go_wp2
          go_roundw
          case rel => exact ⟨j + 1, by omega, by go_num, rfl, B3.out⟩
          case measure => simp [intOf]; omega
    · have : j = n := by omega
      subst this
      rw [KE.out]
      go_wp2
      go_ret
      exact ⟨rfl, HB.out⟩
theorem heldRecordS_own (v : Value) (k : Nat) (S : Nat → Prop) (ts : List Rec) (w : World) (hk : 0 < k) (hk1 : k + nL nR1 ts ≤ 4000000000000000000) (hv : OwnR w S v (mL mR1 nR1 k ts)) :
    Calls Try.prog 49 #[v, .int .i64 k] w fun e w' => e = .returned (.int .i64 ((k + nL nR1 ts : Nat) : Int)) ∧ Below w.heap.size w w' := by
  obtain ⟨h0, A, c, rfl, h⟩ := hv
  rw [mL_len] at h0 h ⊢
  by_cases hz : ts.length = 0
  · have : ts = [] := List.length_eq_zero_iff.1 hz
    subst this
    exact (heldRecordS_none A c k w).mono fun e w' ⟨h1, h2⟩ => ⟨by rw [h1]; rfl, h2⟩
  obtain ⟨g, F, P, rfl, h3, h4, h5⟩ := h.resolve_left hz
  exact heldRecordS_core g ts.length c k P F ts w h0 hk hk1 rfl h5
theorem heldRecordS_at (y : Int) (k : Nat) (hy : y = (k : Int)) (S : Nat → Prop) (ts : List Rec) (w : World) {v : Value} (hk : 0 < k) (hk1 : k + nL nR1 ts ≤ 4000000000000000000) (hv : OwnR w S v (mL mR1 nR1 k ts)) :
    Calls Try.prog 49 #[v, .int .i64 y] w fun e w' => e = .returned (.int .i64 ((k + nL nR1 ts : Nat) : Int)) ∧ Below w.heap.size w w' := by
  subst hy
  exact heldRecordS_own v k S ts w hk hk1 hv
end Go.Proofs.Yticihnoekffelaa.Ft
