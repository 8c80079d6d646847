/- The law's look at marks: lists of Batches (written by gen_held.py); The law's marks on lists of Batches of the call's own (written by gen_mark.py). -/
import Derived.Test.YticihnoekffelaaJC10
import Derived.Test.YticihnoekffelaaJC08
namespace Go.Proofs.Yticihnoekffelaa.Ft
set_option maxRecDepth 8000
open Go.RowKit
open Recs
open ToO (MineC)
open Mk (mt markText_at)
open SegW
set_option linter.unusedVariables false
theorem heldBatchS_none (A : Option Addr) (c : Nat) (k : Int) (w : World) : Calls Try.prog 20 #[.slice A 0 c, .int .i64 k] w fun e w' => e = .returned (.int .i64 k) ∧ Below w.heap.size w w' := by
  go_enter Try.func20, Try.ntmps20
  go_wp2
  go_loop [1, 5] (fun x i => i = .int .i64 0 ∧ x = .int .i64 k) (fun _ _ => 0)
  case atStart => exact ⟨rfl, rfl⟩
  case round =>
    obtain ⟨rfl, rfl⟩ := hrel
    go_wp2
    go_ret
    exact ⟨rfl, Below.refl _ _⟩
set_option maxHeartbeats 3200000 in
theorem heldBatchS_core (g n c k : Nat) (P : Nat → Nat → Prop) (F : Nat → Value) (ts : List Bat) (w : World) (hn : n ≤ 1048576) (hk : 0 < k) (hk1 : k + nL nB1 ts ≤ 4000000000000000000) (hl : ts.length = n) (ho : LOpen 58 7 EB w g n c F P (mL mB1 nB1 k ts)) :
    Calls Try.prog 20 #[.slice (some ⟨g, 0, none⟩) n c, .int .i64 k] w fun e w' => e = .returned (.int .i64 ((k + nL nB1 ts : Nat) : Int)) ∧ Below w.heap.size w w' := by
  have hc := ho.mine.le
  have hg := ho.mine.lt
  have HC : Hid (∀ wr i, Below w.heap.size w wr → i < n → wr.cell? ⟨g, i * 7, none⟩ = some (.int .i64 ((((k + nL nB1 (ts.take i)) : Nat) : Int))) ∧ wr.cell? ⟨g, i * 7 + 1, none⟩ = some (.int .i64 ((((k + nL nB1 (ts.take i)) : Nat) : Int) + 1)) ∧ wr.cell? ⟨g, i * 7 + 2, none⟩ = some (.int .i64 ((((k + nL nB1 (ts.take i)) : Nat) : Int) + 1 + 1)) ∧ wr.cell? ⟨g, i * 7 + 3, none⟩ = some (.int .i64 ((((k + nL nB1 (ts.take i)) : Nat) : Int) + 1 + 1 + 1)) ∧ wr.cell? ⟨g, i * 7 + 4, none⟩ = some (.int .i64 ((((k + nL nB1 (ts.take i)) : Nat) : Int) + 1 + 1 + 1 + 1)) ∧ wr.cell? ⟨g, i * 7 + 5, none⟩ = some (.int .i64 ((((k + nL nB1 (ts.take i)) : Nat) : Int) + 1 + 1 + 1 + 1 + 1))) := fun wr i hb hi => by
    have e := ho.el i hi
    rw [mL_get mB1 nB1 (by omega)] at e
    obtain ⟨⟨e0, e1, e2, e3, e4, e5⟩, _⟩ := e
    refine ⟨?_, ?_, ?_, ?_, ?_, ?_⟩
    · rw [hb.cell (p := ⟨g, i * 7, none⟩) hg, ho.mine.cell _ (by omega)]
      exact congrArg some e0
    · rw [hb.cell (p := ⟨g, i * 7 + 1, none⟩) hg, ho.mine.cell _ (by omega)]
      exact congrArg some e1
    · rw [hb.cell (p := ⟨g, i * 7 + 2, none⟩) hg, ho.mine.cell _ (by omega)]
      exact congrArg some e2
    · rw [hb.cell (p := ⟨g, i * 7 + 3, none⟩) hg, ho.mine.cell _ (by omega)]
      exact congrArg some e3
    · rw [hb.cell (p := ⟨g, i * 7 + 4, none⟩) hg, ho.mine.cell _ (by omega)]
      exact congrArg some e4
    · rw [hb.cell (p := ⟨g, i * 7 + 5, none⟩) hg, ho.mine.cell _ (by omega)]
      exact congrArg some e5
  have HI : Hid (∀ wr i, Below w.heap.size w wr → i < n → wr.cell? ⟨g, i * 7 + 6, none⟩ = some (F (i * 7 + 6)) ∧ OwnR wr (P i) (F (i * 7 + 6)) (mL mR1 nR1 (k + nL nB1 (ts.take i) + 6) (ts.getD i default).recs)) := fun wr i hb hi => by
    have e := ho.el i hi
    rw [mL_get mB1 nB1 (by omega)] at e
    refine ⟨?_, ?_⟩
    · rw [hb.cell (p := ⟨g, i * 7 + 6, none⟩) hg, ho.mine.cell _ (by omega)]
    · exact LOwn.keep keepsR e.2 hb.size (fun q hq => hb.block q (ho.apart i hi q hq).2)
  have KL : Hid (∀ j, j < n → k + nL nB1 (ts.take j) + 6 + nL nR1 (ts.getD j default).recs ≤ 4000000000000000000) := fun j hj => by
    have a1 := nL_take nB1 (ts := ts) (j := j) (by omega)
    have a2 := nL_le nB1 ts (j + 1)
    have a3 : nB1 (ts.getD j default) = 6 + nL nR1 (ts.getD j default).recs := rfl
    omega
  have KE : Hid (k + nL nB1 (ts.take n) = k + nL nB1 ts) := by show _ = _; rw [← hl, List.take_length]
  have HL := Seg.hid hl
  clear ho hl hk1
  go_enter Try.func20, Try.ntmps20
  go_wp2
  go_loopw [1, 5] (fun x i wr => ∃ j : Nat, j ≤ n ∧ i = .int .i64 j ∧ x = .int .i64 ((k + nL nB1 (ts.take j) : Nat) : Int) ∧ Hid (Below w.heap.size w wr)) (fun _ i _ => n - (intOf i).toNat)
  case atStart => exact ⟨0, Nat.zero_le _, rfl, rfl, Below.refl _ _⟩
  case round =>
    obtain ⟨j, hj, rfl, rfl, HB⟩ := hrel
    by_cases hlt : j < n
    · have h0 : (0 : Int) ≤ (j : Int) := by omega
      have h1 : (j : Int) < (n : Int) := by omega
      have hxb := KL.out j hlt
      have HKK : Hid (((k + nL nB1 (ts.take j) + 6 + nL nR1 (ts.getD j default).recs : Nat) : Int) = ((k + nL nB1 (ts.take (j + 1)) : Nat) : Int)) := by
        show _ = _
        rw [nL_take nB1 (by rw [HL.out]; exact hlt)]
        have a3 : nB1 (ts.getD j default) = 6 + nL nR1 (ts.getD j default).recs := rfl
        omega
      have HC1 : Hid (∀ wr, Below w.heap.size w wr → _) := fun wr hb => HC.out wr j hb hlt
      have HI1 : Hid (∀ wr, Below w.heap.size w wr → _) := fun wr hb => HI.out wr j hb hlt
      have hx0 : 0 < k + nL nB1 (ts.take j) := by omega
      obtain ⟨L, hL⟩ : ∃ L, (ts.getD j default).recs = L := ⟨_, rfl⟩
      rw [hL] at hxb HKK
      obtain ⟨x, hx⟩ : ∃ x, k + nL nB1 (ts.take j) = x := ⟨_, rfl⟩
      have HC2 : Hid (∀ wr, Below w.heap.size w wr → wr.cell? ⟨g, j * 7, none⟩ = some (.int .i64 (((x : Nat) : Int))) ∧ wr.cell? ⟨g, j * 7 + 1, none⟩ = some (.int .i64 (((x : Nat) : Int) + 1)) ∧ wr.cell? ⟨g, j * 7 + 2, none⟩ = some (.int .i64 (((x : Nat) : Int) + 1 + 1)) ∧ wr.cell? ⟨g, j * 7 + 3, none⟩ = some (.int .i64 (((x : Nat) : Int) + 1 + 1 + 1)) ∧ wr.cell? ⟨g, j * 7 + 4, none⟩ = some (.int .i64 (((x : Nat) : Int) + 1 + 1 + 1 + 1)) ∧ wr.cell? ⟨g, j * 7 + 5, none⟩ = some (.int .i64 (((x : Nat) : Int) + 1 + 1 + 1 + 1 + 1))) := fun wr hb => by
        have := HC1.out wr hb
        rw [hx] at this
        exact this
      have HI2 : Hid (∀ wr, Below w.heap.size w wr → wr.cell? ⟨g, j * 7 + 6, none⟩ = some (F (j * 7 + 6)) ∧ OwnR wr (P j) (F (j * 7 + 6)) (mL mR1 nR1 (x + 6) L)) := fun wr hb => by
        have := HI1.out wr hb
        rw [hx, hL] at this
        exact this
      rw [hx] at hxb hx0 HKK ⊢
      clear HC1 HI1 hx hL
      have HXB := Seg.hid hxb
      have hxc : x + 6 ≤ 4000000000000000000 := by omega
      obtain ⟨A1, c1', hsl⟩ := LOwn.form (HI2.out wr HB.out).2
      rw [mL_len] at hsl
      have HS := Seg.hid hsl
      have HI3 : Hid (∀ wr, Below w.heap.size w wr → wr.cell? ⟨g, j * 7 + 6, none⟩ = some (.slice A1 L.length c1') ∧ OwnR wr (P j) (.slice A1 L.length c1') (mL mR1 nR1 (x + 6) L)) := fun wr hb => by
        have := HI2.out wr hb
        rw [HS.out] at this
        exact this
      clear HI2 hsl hxb
      obtain ⟨c0, c1, c2, c3, c4, c5⟩ := HC2.out wr HB.out
      obtain ⟨cI, _⟩ := HI3.out wr HB.out
      go_wp2_with fail
      refine (heldRecordS_at _ (x + 6) (by omega) (P j) L wr (by omega) HXB.out (HI3.out wr HB.out).2).mono ?_
      rintro e w1 ⟨rfl, b1⟩
      have B1 := Seg.hid (chain HB.out b1)
      clear b1 c0 c1 c2 c3 c4 c5 cI
      rw [HKK.out]
      have hnn : ¬ ((k + nL nB1 (ts.take (j + 1)) : Nat) : Int) < 0 := by omega
      go_wp2
      go_roundw
      case rel => exact ⟨j + 1, by omega, by go_num, rfl, B1.out⟩
      case measure => simp [intOf]; omega
    · have : j = n := by omega
      subst this
      rw [KE.out]
      go_wp2
      go_ret
      exact ⟨rfl, HB.out⟩
theorem heldBatchS_own (v : Value) (k : Nat) (S : Nat → Prop) (ts : List Bat) (w : World) (hk : 0 < k) (hk1 : k + nL nB1 ts ≤ 4000000000000000000) (hv : OwnB w S v (mL mB1 nB1 k ts)) :
    Calls Try.prog 20 #[v, .int .i64 k] w fun e w' => e = .returned (.int .i64 ((k + nL nB1 ts : Nat) : Int)) ∧ Below w.heap.size w w' := by
  obtain ⟨h0, A, c, rfl, h⟩ := hv
  rw [mL_len] at h0 h ⊢
  by_cases hz : ts.length = 0
  · have : ts = [] := List.length_eq_zero_iff.1 hz
    subst this
    exact (heldBatchS_none A c k w).mono fun e w' ⟨h1, h2⟩ => ⟨by rw [h1]; rfl, h2⟩
  obtain ⟨g, F, P, rfl, h3, h4, h5⟩ := h.resolve_left hz
  exact heldBatchS_core g ts.length c k P F ts w h0 hk hk1 rfl h5
theorem heldBatchS_at (y : Int) (k : Nat) (hy : y = (k : Int)) (S : Nat → Prop) (ts : List Bat) (w : World) {v : Value} (hk : 0 < k) (hk1 : k + nL nB1 ts ≤ 4000000000000000000) (hv : OwnB w S v (mL mB1 nB1 k ts)) :
    Calls Try.prog 20 #[v, .int .i64 y] w fun e w' => e = .returned (.int .i64 ((k + nL nB1 ts : Nat) : Int)) ∧ Below w.heap.size w w' := by
  subst hy
  exact heldBatchS_own v k S ts w hk hk1 hv
end Go.Proofs.Yticihnoekffelaa.Ft
namespace Go.Proofs.Yticihnoekffelaa.Ft
set_option maxRecDepth 8000
open Go.RowKit
open Recs
open ToO (MineC)
open Mk (mt markText_at)
open SegW
set_option linter.unusedVariables false
theorem markRecordS_at (y : Int) (k : Nat) (hy : y = (k : Int)) (S : Nat → Prop) (ts : List Rec) (w : World) {v : Value} (hk : 0 < k) (hk1 : k + nL nR1 ts ≤ 4000000000000000000) (hv : OwnR w S v ts) :
    Calls Try.prog 48 #[v, .int .i64 y] w fun e w' => e = .returned (.int .i64 ((k + nL nR1 ts : Nat) : Int)) ∧ OwnR w' S v (mL mR1 nR1 k ts) ∧ Foot w w' S := by
  subst hy
  exact markRecordS_own v k S ts w hk hk1 hv
theorem markBatchS_none (A : Option Addr) (c : Nat) (k : Int) (w : World) : Calls Try.prog 19 #[.slice A 0 c, .int .i64 k] w fun e w' => e = .returned (.int .i64 k) ∧ w = w' := by
  go_enter Try.func19, Try.ntmps19
  go_wp2
  go_loop [1, 5] (fun x i => i = .int .i64 0 ∧ x = .int .i64 k) (fun _ _ => 0)
  case atStart => exact ⟨rfl, rfl⟩
  case round =>
    obtain ⟨rfl, rfl⟩ := hrel
    go_wp2
    go_ret
    exact ⟨rfl, rfl⟩

set_option maxHeartbeats 1600000 in
theorem markBatchS_core (g n c k : Nat) (S : Nat → Prop) (P : Nat → Nat → Prop) (F0 : Nat → Value) (ts : List Bat) (w : World) (hn : n ≤ 1048576) (hk : 0 < k) (hk1 : k + nL nB1 ts ≤ 4000000000000000000) (hSg : S g) (hSP : ∀ i, i < n → ∀ x, P i x → S x) (ho : LOpen 58 7 EB w g n c F0 P ts) :
    Calls Try.prog 19 #[.slice (some ⟨g, 0, none⟩) n c, .int .i64 k] w fun e w' => ∃ F, e = .returned (.int .i64 ((k + nL nB1 ts : Nat) : Int)) ∧ LOpen 58 7 EB w' g n c F P (mL mB1 nB1 k ts) ∧ Foot w w' S := by
  have hc := ho.mine.le
  have hlen := Seg.hid ho.len
  have HM : Hid (LOpen 58 7 EB w g n c F0 P (mid mB1 nB1 k 0 ts) ∧ Foot w w S) := ⟨by rw [mid_zero]; exact ho, Foot.refl _ _⟩
  have HSG := Seg.hid hSg; have HSP := Seg.hid hSP
  have KL : Hid (∀ j, j < n → k + nL nB1 (ts.take j) + 6 + nL nR1 (ts.getD j default).recs ≤ 4000000000000000000) := fun j hj => by
    have a1 := nL_take nB1 (ts := ts) (j := j) (by rw [hlen.out]; exact hj)
    have a2 := nL_le nB1 ts (j + 1)
    have a3 : nB1 (ts.getD j default) = 6 + nL nR1 (ts.getD j default).recs := rfl
    omega
  have KE : Hid (k + nL nB1 (ts.take n) = k + nL nB1 ts) := by show _ = _; rw [← hlen.out, List.take_length]
  clear ho hSg hSP hk1
  go_enter Try.func19, Try.ntmps19
  go_wp2
  go_loopw [1, 5] (fun x i wr => ∃ (j : Nat) (F : Nat → Value), j ≤ n ∧ i = .int .i64 j ∧ x = .int .i64 ((k + nL nB1 (ts.take j) : Nat) : Int) ∧ Hid (LOpen 58 7 EB wr g n c F P (mid mB1 nB1 k j ts) ∧ Foot w wr S)) (fun _ i _ => n - (intOf i).toNat)
  case atStart => exact ⟨0, F0, Nat.zero_le _, rfl, rfl, HM.out⟩
  case round =>
    clear HM
    obtain ⟨j, F, hj, rfl, rfl, HR⟩ := hrel
    by_cases hlt : j < n
    · have h0 : (0 : Int) ≤ (j : Int) := by omega
      have h1 : (j : Int) < (n : Int) := by omega
      obtain ⟨x, hx⟩ : ∃ x, k + nL nB1 (ts.take j) = x := ⟨_, rfl⟩
      have hxb := KL.out j hlt
      have hx0 : 0 < x := by omega
      have HX := Seg.hid hx
      rw [hx] at hxb ⊢
      clear hx
      have hgr := HR.out.1.mine.lt
      have hxc : x + 6 ≤ 4000000000000000000 := by omega
      have HXB := Seg.hid hxb
      clear hxb
      have d0 := (HR.out.1.mine).cell (j * 7) (by omega)
      have f0 := (HR.out.1.mine).frozen (j * 7)
      have d1 := ((HR.out.1.mine).set (j * 7) (.int .i64 ((x : Int)))).cell (j * 7 + 1) (by omega)
      have f1 := ((HR.out.1.mine).set (j * 7) (.int .i64 ((x : Int)))).frozen (j * 7 + 1)
      have d2 := (((HR.out.1.mine).set (j * 7) (.int .i64 ((x : Int)))).set (j * 7 + 1) (.int .i64 ((x : Int) + 1))).cell (j * 7 + 2) (by omega)
      have f2 := (((HR.out.1.mine).set (j * 7) (.int .i64 ((x : Int)))).set (j * 7 + 1) (.int .i64 ((x : Int) + 1))).frozen (j * 7 + 2)
      have d3 := ((((HR.out.1.mine).set (j * 7) (.int .i64 ((x : Int)))).set (j * 7 + 1) (.int .i64 ((x : Int) + 1))).set (j * 7 + 2) (.int .i64 ((x : Int) + 1 + 1))).cell (j * 7 + 3) (by omega)
      have f3 := ((((HR.out.1.mine).set (j * 7) (.int .i64 ((x : Int)))).set (j * 7 + 1) (.int .i64 ((x : Int) + 1))).set (j * 7 + 2) (.int .i64 ((x : Int) + 1 + 1))).frozen (j * 7 + 3)
      have d4 := (((((HR.out.1.mine).set (j * 7) (.int .i64 ((x : Int)))).set (j * 7 + 1) (.int .i64 ((x : Int) + 1))).set (j * 7 + 2) (.int .i64 ((x : Int) + 1 + 1))).set (j * 7 + 3) (.int .i64 ((x : Int) + 1 + 1 + 1))).cell (j * 7 + 4) (by omega)
      have f4 := (((((HR.out.1.mine).set (j * 7) (.int .i64 ((x : Int)))).set (j * 7 + 1) (.int .i64 ((x : Int) + 1))).set (j * 7 + 2) (.int .i64 ((x : Int) + 1 + 1))).set (j * 7 + 3) (.int .i64 ((x : Int) + 1 + 1 + 1))).frozen (j * 7 + 4)
      have d5 := ((((((HR.out.1.mine).set (j * 7) (.int .i64 ((x : Int)))).set (j * 7 + 1) (.int .i64 ((x : Int) + 1))).set (j * 7 + 2) (.int .i64 ((x : Int) + 1 + 1))).set (j * 7 + 3) (.int .i64 ((x : Int) + 1 + 1 + 1))).set (j * 7 + 4) (.int .i64 ((x : Int) + 1 + 1 + 1 + 1))).cell (j * 7 + 5) (by omega)
      have f5 := ((((((HR.out.1.mine).set (j * 7) (.int .i64 ((x : Int)))).set (j * 7 + 1) (.int .i64 ((x : Int) + 1))).set (j * 7 + 2) (.int .i64 ((x : Int) + 1 + 1))).set (j * 7 + 3) (.int .i64 ((x : Int) + 1 + 1 + 1))).set (j * 7 + 4) (.int .i64 ((x : Int) + 1 + 1 + 1 + 1))).frozen (j * 7 + 5)
      have M5 := Seg.hid (((((((HR.out.1.mine).set (j * 7) (.int .i64 ((x : Int)))).set (j * 7 + 1) (.int .i64 ((x : Int) + 1))).set (j * 7 + 2) (.int .i64 ((x : Int) + 1 + 1))).set (j * 7 + 3) (.int .i64 ((x : Int) + 1 + 1 + 1))).set (j * 7 + 4) (.int .i64 ((x : Int) + 1 + 1 + 1 + 1))).set (j * 7 + 5) (.int .i64 ((x : Int) + 1 + 1 + 1 + 1 + 1)))
      have B5 := Seg.hid (((((((HR.out.2).set (q := j * 7) HSG.out (.int .i64 ((x : Int)))).set (q := j * 7 + 1) HSG.out (.int .i64 ((x : Int) + 1))).set (q := j * 7 + 2) HSG.out (.int .i64 ((x : Int) + 1 + 1))).set (q := j * 7 + 3) HSG.out (.int .i64 ((x : Int) + 1 + 1 + 1))).set (q := j * 7 + 4) HSG.out (.int .i64 ((x : Int) + 1 + 1 + 1 + 1))).set (q := j * 7 + 5) HSG.out (.int .i64 ((x : Int) + 1 + 1 + 1 + 1 + 1)))
      have K5 : Hid (∀ q, q ≠ g → ((((((wr.setCell ⟨g, j * 7, none⟩ (.int .i64 ((x : Int)))).setCell ⟨g, j * 7 + 1, none⟩ (.int .i64 ((x : Int) + 1))).setCell ⟨g, j * 7 + 2, none⟩ (.int .i64 ((x : Int) + 1 + 1))).setCell ⟨g, j * 7 + 3, none⟩ (.int .i64 ((x : Int) + 1 + 1 + 1))).setCell ⟨g, j * 7 + 4, none⟩ (.int .i64 ((x : Int) + 1 + 1 + 1 + 1))).setCell ⟨g, j * 7 + 5, none⟩ (.int .i64 ((x : Int) + 1 + 1 + 1 + 1 + 1))).heap[q]? = wr.heap[q]?) := fun q hq => by rw [heap_setCell_other _ _ _ _ hq, heap_setCell_other _ _ _ _ hq, heap_setCell_other _ _ _ _ hq, heap_setCell_other _ _ _ _ hq, heap_setCell_other _ _ _ _ hq, heap_setCell_other _ _ _ _ hq]
      have Z5 : Hid (wr.heap.size ≤ ((((((wr.setCell ⟨g, j * 7, none⟩ (.int .i64 ((x : Int)))).setCell ⟨g, j * 7 + 1, none⟩ (.int .i64 ((x : Int) + 1))).setCell ⟨g, j * 7 + 2, none⟩ (.int .i64 ((x : Int) + 1 + 1))).setCell ⟨g, j * 7 + 3, none⟩ (.int .i64 ((x : Int) + 1 + 1 + 1))).setCell ⟨g, j * 7 + 4, none⟩ (.int .i64 ((x : Int) + 1 + 1 + 1 + 1))).setCell ⟨g, j * 7 + 5, none⟩ (.int .i64 ((x : Int) + 1 + 1 + 1 + 1 + 1))).heap.size) := by show _ ≤ _; simp
      have E5 : Hid (OwnR wr (P j) (F (j * 7 + 6)) (ts.getD j default).recs) := by
        have := (HR.out.1.el j hlt).2
        rw [mid_get mB1 nB1 (by rw [hlen.out]; exact hlt)] at this
        exact this
      have d6 : ((((((wr.setCell ⟨g, j * 7, none⟩ (.int .i64 ((x : Int)))).setCell ⟨g, j * 7 + 1, none⟩ (.int .i64 ((x : Int) + 1))).setCell ⟨g, j * 7 + 2, none⟩ (.int .i64 ((x : Int) + 1 + 1))).setCell ⟨g, j * 7 + 3, none⟩ (.int .i64 ((x : Int) + 1 + 1 + 1))).setCell ⟨g, j * 7 + 4, none⟩ (.int .i64 ((x : Int) + 1 + 1 + 1 + 1))).setCell ⟨g, j * 7 + 5, none⟩ (.int .i64 ((x : Int) + 1 + 1 + 1 + 1 + 1))).cell? ⟨g, j * 7 + 6, none⟩ = some (F (j * 7 + 6)) := by
        have := M5.out.cell (j * 7 + 6) (by omega)
        simp only [show ¬ j * 7 + 6 = j * 7 + 5 by omega, show ¬ j * 7 + 6 = j * 7 + 4 by omega, show ¬ j * 7 + 6 = j * 7 + 3 by omega, show ¬ j * 7 + 6 = j * 7 + 2 by omega, show ¬ j * 7 + 6 = j * 7 + 1 by omega, show ¬ j * 7 + 6 = j * 7 by omega, if_false] at this
        exact this
      have OW : Hid (OwnR ((((((wr.setCell ⟨g, j * 7, none⟩ (.int .i64 ((x : Int)))).setCell ⟨g, j * 7 + 1, none⟩ (.int .i64 ((x : Int) + 1))).setCell ⟨g, j * 7 + 2, none⟩ (.int .i64 ((x : Int) + 1 + 1))).setCell ⟨g, j * 7 + 3, none⟩ (.int .i64 ((x : Int) + 1 + 1 + 1))).setCell ⟨g, j * 7 + 4, none⟩ (.int .i64 ((x : Int) + 1 + 1 + 1 + 1))).setCell ⟨g, j * 7 + 5, none⟩ (.int .i64 ((x : Int) + 1 + 1 + 1 + 1 + 1))) (P j) (F (j * 7 + 6)) (ts.getD j default).recs) :=
        LOwn.keep keepsR E5.out Z5.out fun q hq => K5.out q (HR.out.1.apart j hlt q hq).1
      have ST : Hid (∀ w3, OwnR w3 (P j) (F (j * 7 + 6)) (mL mR1 nR1 (x + 6) (ts.getD j default).recs) → Foot ((((((wr.setCell ⟨g, j * 7, none⟩ (.int .i64 ((x : Int)))).setCell ⟨g, j * 7 + 1, none⟩ (.int .i64 ((x : Int) + 1))).setCell ⟨g, j * 7 + 2, none⟩ (.int .i64 ((x : Int) + 1 + 1))).setCell ⟨g, j * 7 + 3, none⟩ (.int .i64 ((x : Int) + 1 + 1 + 1))).setCell ⟨g, j * 7 + 4, none⟩ (.int .i64 ((x : Int) + 1 + 1 + 1 + 1))).setCell ⟨g, j * 7 + 5, none⟩ (.int .i64 ((x : Int) + 1 + 1 + 1 + 1 + 1))) w3 (P j) → LOpen 58 7 EB w3 g n c _ P (mid mB1 nB1 k (j + 1) ts) ∧ Foot w w3 S) := fun w3 H W => by
        rw [← mid_step mB1 nB1 (by rw [hlen.out]; exact hlt), HX.out]
        refine ⟨LOpen.step keepsB (j := j) HR.out.1 hlt (M5.out.keep (W.block g M5.out.lt (fun e => (HR.out.1.apart j hlt g e).1 rfl))) (fun i hi hij q hq => ?_) (Nat.le_trans Z5.out W.size) (fun _ _ _ => rfl) (fun y hy => ⟨(HR.out.1.apart j hlt y hy).1, Nat.lt_of_lt_of_le (HR.out.1.apart j hlt y hy).2 (Nat.le_trans Z5.out W.size)⟩) (fun i hi hij y hy => HR.out.1.disj j i hlt hi (Ne.symm hij) y hy) (fun i hi hij y hy => ?_) ⟨⟨?_, ?_, ?_, ?_, ?_, ?_⟩, ?_⟩, B5.out.trans W (HSP.out j hlt)⟩
        · rw [if_neg (by omega), if_neg (by omega), if_neg (by omega), if_neg (by omega), if_neg (by omega), if_neg (by omega)]
        · have a1 := HR.out.1.apart i hi y hy
          exact (W.block y (Nat.lt_of_lt_of_le a1.2 Z5.out) (HR.out.1.disj i j hi hlt hij y hy)).trans (K5.out y a1.1)
        · simp [mB1]
        · simp [mB1]
        · simp [mB1]
        · simp [mB1]
        · simp [mB1]
        · simp [mB1]
        · simp only [show ¬ j * 7 + 6 = j * 7 + 5 by omega, show ¬ j * 7 + 6 = j * 7 + 4 by omega, show ¬ j * 7 + 6 = j * 7 + 3 by omega, show ¬ j * 7 + 6 = j * 7 + 2 by omega, show ¬ j * 7 + 6 = j * 7 + 1 by omega, show ¬ j * 7 + 6 = j * 7 by omega, if_false]
          exact H
      have HKK : Hid (((x + 6 + nL nR1 (ts.getD j default).recs : Nat) : Int) = ((k + nL nB1 (ts.take (j + 1)) : Nat) : Int)) := by
        show _ = _
        rw [nL_take nB1 (by rw [hlen.out]; exact hlt), ← HX.out]
        have a3 : nB1 (ts.getD j default) = 6 + nL nR1 (ts.getD j default).recs := rfl
        omega
      have IB : Hid (x + 6 + nL nR1 (ts.getD j default).recs ≤ 4000000000000000000) := HXB.out
      obtain ⟨_, Ah, ch, hsl, _⟩ := OW.out
      have HSL := Seg.hid hsl
      rw [hsl] at d6
      clear hsl
      go_wp2_with fail
      refine (markRecordS_at _ (x + 6) (by omega) (P j) (ts.getD j default).recs _ (by omega) IB.out (HSL.out ▸ OW.out)).mono ?_
      rintro e w3 ⟨rfl, hH, hW⟩
      have S3 := Seg.hid (ST.out w3 (by rw [HSL.out]; exact hH) hW)
      rw [HKK.out]
      clear hH hW d0 d1 d2 d3 d4 d5 d6 f0 f1 f2 f3 f4 f5
      go_wp2
      go_roundw
      case rel => exact ⟨j + 1, _, by omega, by go_num, rfl, S3.out⟩
      case measure => simp [intOf]; omega
    · have : j = n := by omega
      subst this
      have E := HR.out
      rw [show mid mB1 nB1 k j ts = mL mB1 nB1 k ts by rw [← hlen.out]; exact mid_all _ _ _ _] at E
      have EH' := Seg.hid E
      clear E
      rw [KE.out]
      go_wp2
      go_ret
      exact ⟨F, rfl, EH'.out⟩

theorem markBatchS_own (v : Value) (k : Nat) (S : Nat → Prop) (ts : List Bat) (w : World) (hk : 0 < k) (hk1 : k + nL nB1 ts ≤ 4000000000000000000) (hv : OwnB w S v ts) :
    Calls Try.prog 19 #[v, .int .i64 k] w fun e w' => e = .returned (.int .i64 ((k + nL nB1 ts : Nat) : Int)) ∧ OwnB w' S v (mL mB1 nB1 k ts) ∧ Foot w w' S := by
  obtain ⟨h0, A, c, rfl, h⟩ := hv
  by_cases hz : ts.length = 0
  · have : ts = [] := List.length_eq_zero_iff.1 hz
    subst this
    exact (markBatchS_none A c k w).mono fun e w' ⟨h1, h2⟩ => by
      subst h2
      exact ⟨by rw [h1]; rfl, LOwn.nil _ _ _ _, Foot.refl _ _⟩
  obtain ⟨g, F, P, rfl, h3, h4, h5⟩ := h.resolve_left hz
  refine (markBatchS_core g ts.length c k S P F ts w h0 hk hk1 h3 h4 h5).mono fun e w' ⟨F', a1, a2, a3⟩ => ⟨a1, ⟨by rw [mL_len]; exact h0, _, c, by rw [mL_len], .inr ⟨g, F', P, rfl, h3, fun i hi => h4 i (by rw [mL_len] at hi; exact hi), ?_⟩⟩, a3⟩
  rw [mL_len]
  exact a2
theorem markBatchS_at (y : Int) (k : Nat) (hy : y = (k : Int)) (S : Nat → Prop) (ts : List Bat) (w : World) {v : Value} (hk : 0 < k) (hk1 : k + nL nB1 ts ≤ 4000000000000000000) (hv : OwnB w S v ts) :
    Calls Try.prog 19 #[v, .int .i64 y] w fun e w' => e = .returned (.int .i64 ((k + nL nB1 ts : Nat) : Int)) ∧ OwnB w' S v (mL mB1 nB1 k ts) ∧ Foot w w' S := by
  subst hy
  exact markBatchS_own v k S ts w hk hk1 hv
end Go.Proofs.Yticihnoekffelaa.Ft
