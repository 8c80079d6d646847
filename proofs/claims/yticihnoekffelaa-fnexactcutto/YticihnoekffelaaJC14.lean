/- The law's look at marks: lists of Segments (written by gen_held.py); The law's marks on a Log; how many they are. -/
import Derived.Test.YticihnoekffelaaJC11
import Derived.Test.YticihnoekffelaaJC13
namespace Go.Proofs.Yticihnoekffelaa.Ft
set_option maxRecDepth 8000
open Go.RowKit
open Recs
open ToO (MineC)
open Mk (mt markText_at)
open SegW
set_option linter.unusedVariables false
theorem heldSegmentS_none (A : Option Addr) (c : Nat) (k : Int) (w : World) : Calls Try.prog 33 #[.slice A 0 c, .int .i64 k] w fun e w' => e = .returned (.int .i64 k) ∧ Below w.heap.size w w' := by
  go_enter Try.func33, Try.ntmps33
  go_wp2
  go_loop [1, 5] (fun x i => i = .int .i64 0 ∧ x = .int .i64 k) (fun _ _ => 0)
  case atStart => exact ⟨rfl, rfl⟩
  case round =>
    obtain ⟨rfl, rfl⟩ := hrel
    go_wp2
    go_ret
    exact ⟨rfl, Below.refl _ _⟩
set_option maxHeartbeats 3200000 in
theorem heldSegmentS_core (g n c k : Nat) (P : Nat → Nat → Prop) (F : Nat → Value) (ts : List Sg) (w : World) (hn : n ≤ 1048576) (hk : 0 < k) (hk1 : k + nL nS1 ts ≤ 4000000000000000000) (hl : ts.length = n) (ho : LOpen 55 2 ES w g n c F P (mL mS1 nS1 k ts)) :
    Calls Try.prog 33 #[.slice (some ⟨g, 0, none⟩) n c, .int .i64 k] w fun e w' => e = .returned (.int .i64 ((k + nL nS1 ts : Nat) : Int)) ∧ Below w.heap.size w w' := by
  have hc := ho.mine.le
  have hg := ho.mine.lt
  have HC : Hid (∀ wr i, Below w.heap.size w wr → i < n → wr.cell? ⟨g, i * 2, none⟩ = some (.int .i64 ((((k + nL nS1 (ts.take i)) : Nat) : Int)))) := fun wr i hb hi => by
    have e := ho.el i hi
    rw [mL_get mS1 nS1 (by omega)] at e
    obtain ⟨e0, _⟩ := e
    refine ?_
    · rw [hb.cell (p := ⟨g, i * 2, none⟩) hg, ho.mine.cell _ (by omega)]
      exact congrArg some e0
  have HI : Hid (∀ wr i, Below w.heap.size w wr → i < n → wr.cell? ⟨g, i * 2 + 1, none⟩ = some (F (i * 2 + 1)) ∧ OwnB wr (P i) (F (i * 2 + 1)) (mL mB1 nB1 (k + nL nS1 (ts.take i) + 1) (ts.getD i default).bats)) := fun wr i hb hi => by
    have e := ho.el i hi
    rw [mL_get mS1 nS1 (by omega)] at e
    refine ⟨?_, ?_⟩
    · rw [hb.cell (p := ⟨g, i * 2 + 1, none⟩) hg, ho.mine.cell _ (by omega)]
    · exact LOwn.keep keepsB e.2 hb.size (fun q hq => hb.block q (ho.apart i hi q hq).2)
  have KL : Hid (∀ j, j < n → k + nL nS1 (ts.take j) + 1 + nL nB1 (ts.getD j default).bats ≤ 4000000000000000000) := fun j hj => by
    have a1 := nL_take nS1 (ts := ts) (j := j) (by omega)
    have a2 := nL_le nS1 ts (j + 1)
    have a3 : nS1 (ts.getD j default) = 1 + nL nB1 (ts.getD j default).bats := rfl
    omega
  have KE : Hid (k + nL nS1 (ts.take n) = k + nL nS1 ts) := by show _ = _; rw [← hl, List.take_length]
  have HL := Seg.hid hl
  clear ho hl hk1
  go_enter Try.func33, Try.ntmps33
  go_wp2
  go_loopw [1, 5] (fun x i wr => ∃ j : Nat, j ≤ n ∧ i = .int .i64 j ∧ x = .int .i64 ((k + nL nS1 (ts.take j) : Nat) : Int) ∧ Hid (Below w.heap.size w wr)) (fun _ i _ => n - (intOf i).toNat)
  case atStart => exact ⟨0, Nat.zero_le _, rfl, rfl, Below.refl _ _⟩
  case round =>
    obtain ⟨j, hj, rfl, rfl, HB⟩ := hrel
    by_cases hlt : j < n
    · have h0 : (0 : Int) ≤ (j : Int) := by omega
      have h1 : (j : Int) < (n : Int) := by omega
      have hxb := KL.out j hlt
      have HKK : Hid (((k + nL nS1 (ts.take j) + 1 + nL nB1 (ts.getD j default).bats : Nat) : Int) = ((k + nL nS1 (ts.take (j + 1)) : Nat) : Int)) := by
        show _ = _
        rw [nL_take nS1 (by rw [HL.out]; exact hlt)]
        have a3 : nS1 (ts.getD j default) = 1 + nL nB1 (ts.getD j default).bats := rfl
        omega
      have HC1 : Hid (∀ wr, Below w.heap.size w wr → _) := fun wr hb => HC.out wr j hb hlt
      have HI1 : Hid (∀ wr, Below w.heap.size w wr → _) := fun wr hb => HI.out wr j hb hlt
      have hx0 : 0 < k + nL nS1 (ts.take j) := by omega
      obtain ⟨L, hL⟩ : ∃ L, (ts.getD j default).bats = L := ⟨_, rfl⟩
      rw [hL] at hxb HKK
      obtain ⟨x, hx⟩ : ∃ x, k + nL nS1 (ts.take j) = x := ⟨_, rfl⟩
      have HC2 : Hid (∀ wr, Below w.heap.size w wr → wr.cell? ⟨g, j * 2, none⟩ = some (.int .i64 (((x : Nat) : Int)))) := fun wr hb => by
        have := HC1.out wr hb
        rw [hx] at this
        exact this
      have HI2 : Hid (∀ wr, Below w.heap.size w wr → wr.cell? ⟨g, j * 2 + 1, none⟩ = some (F (j * 2 + 1)) ∧ OwnB wr (P j) (F (j * 2 + 1)) (mL mB1 nB1 (x + 1) L)) := fun wr hb => by
        have := HI1.out wr hb
        rw [hx, hL] at this
        exact this
      rw [hx] at hxb hx0 HKK ⊢
      clear HC1 HI1 hx hL
      have HXB := Seg.hid hxb
      have hxc : x + 1 ≤ 4000000000000000000 := by omega
      obtain ⟨A1, c1', hsl⟩ := LOwn.form (HI2.out wr HB.out).2
      rw [mL_len] at hsl
      have HS := Seg.hid hsl
      have HI3 : Hid (∀ wr, Below w.heap.size w wr → wr.cell? ⟨g, j * 2 + 1, none⟩ = some (.slice A1 L.length c1') ∧ OwnB wr (P j) (.slice A1 L.length c1') (mL mB1 nB1 (x + 1) L)) := fun wr hb => by
        have := HI2.out wr hb
        rw [HS.out] at this
        exact this
      clear HI2 hsl hxb
      have c0 := HC2.out wr HB.out
      obtain ⟨cI, _⟩ := HI3.out wr HB.out
      go_wp2_with fail
      refine (heldBatchS_at _ (x + 1) (by omega) (P j) L wr (by omega) HXB.out (HI3.out wr HB.out).2).mono ?_
      rintro e w1 ⟨rfl, b1⟩
      have B1 := Seg.hid (chain HB.out b1)
      clear b1 c0 cI
      rw [HKK.out]
      have hnn : ¬ ((k + nL nS1 (ts.take (j + 1)) : Nat) : Int) < 0 := by omega
      go_wp2
      go_roundw
      case rel => exact ⟨j + 1, by omega, by go_num, rfl, B1.out⟩
      case measure => simp [intOf]; omega
    · have : j = n := by omega
      subst this
      rw [KE.out]
      go_wp2
      go_ret
      exact ⟨rfl, HB.out⟩
theorem heldSegmentS_own (v : Value) (k : Nat) (S : Nat → Prop) (ts : List Sg) (w : World) (hk : 0 < k) (hk1 : k + nL nS1 ts ≤ 4000000000000000000) (hv : OwnS w S v (mL mS1 nS1 k ts)) :
    Calls Try.prog 33 #[v, .int .i64 k] w fun e w' => e = .returned (.int .i64 ((k + nL nS1 ts : Nat) : Int)) ∧ Below w.heap.size w w' := by
  obtain ⟨h0, A, c, rfl, h⟩ := hv
  rw [mL_len] at h0 h ⊢
  by_cases hz : ts.length = 0
  · have : ts = [] := List.length_eq_zero_iff.1 hz
    subst this
    exact (heldSegmentS_none A c k w).mono fun e w' ⟨h1, h2⟩ => ⟨by rw [h1]; rfl, h2⟩
  obtain ⟨g, F, P, rfl, h3, h4, h5⟩ := h.resolve_left hz
  exact heldSegmentS_core g ts.length c k P F ts w h0 hk hk1 rfl h5
theorem heldSegmentS_at (y : Int) (k : Nat) (hy : y = (k : Int)) (S : Nat → Prop) (ts : List Sg) (w : World) {v : Value} (hk : 0 < k) (hk1 : k + nL nS1 ts ≤ 4000000000000000000) (hv : OwnS w S v (mL mS1 nS1 k ts)) :
    Calls Try.prog 33 #[v, .int .i64 y] w fun e w' => e = .returned (.int .i64 ((k + nL nS1 ts : Nat) : Int)) ∧ Below w.heap.size w w' := by
  subst hy
  exact heldSegmentS_own v k S ts w hk hk1 hv
end Go.Proofs.Yticihnoekffelaa.Ft
namespace Go.Proofs.Yticihnoekffelaa.Ft
set_option maxRecDepth 8000
open Go.RowKit
open Recs
open SegW
open LogW
open Segs (tot)
set_option linter.unusedVariables false
theorem nL_bound {T : Type} [Inhabited T] (n1 : T → Nat) (M : Nat) : ∀ (ts : List T), (∀ i, i < ts.length → n1 (ts.getD i default) ≤ M) → nL n1 ts ≤ ts.length * M
  | [], _ => by simp [nL]
  | t :: r, h => by
    have h0 := h 0 (by simp)
    have hr := nL_bound n1 M r (fun i hi => by have := h (i + 1) (by simpa using hi); simpa using this)
    simp only [List.getD_cons_zero] at h0
    simp only [nL, List.length_cons, Nat.succ_mul]
    omega
theorem nB_few {b : Bat} (hb : FewB b) : nB1 b ≤ 2199028498438 := by
  have a1 := nL_bound nR1 2097157 b.recs (fun i hi => by
    have := hb.2 i hi
    unfold FewR at this
    show 5 + nL nH1 _ ≤ _
    rw [nH_eq]; omega)
  have := hb.1
  unfold nB1
  have : b.recs.length * 2097157 ≤ 1048576 * 2097157 := Nat.mul_le_mul_right _ this
  omega
theorem nS_tot (ts : List Sg) (h : ∀ i, i < ts.length → FewS (ts.getD i default)) : ∀ k, k ≤ ts.length → nL nS1 (ts.take k) ≤ k + tot ts k * 2199028498438
  | 0, _ => by simp [nL, tot]
  | k + 1, hk => by
    have ih := nS_tot ts h k (by omega)
    have a1 := nL_take nS1 (ts := ts) (j := k) (by omega)
    have a2 := nL_bound nB1 2199028498438 (ts.getD k default).bats (fun i hi => nB_few ((h k (by omega)).2 i hi))
    have a3 : nS1 (ts.getD k default) = 1 + nL nB1 (ts.getD k default).bats := rfl
    have a4 : tot ts (k + 1) = tot ts k + (ts.getD k default).bats.length := rfl
    rw [a4, Nat.add_mul]
    omega
theorem log_few {t : Lg} (h : FewL t) : 1 + nL nS1 t.segs ≤ 4000000000000000000 := by
  have a1 := nS_tot t.segs h.1.2 t.segs.length (Nat.le_refl _)
  rw [List.take_length] at a1
  have a2 := h.1.1
  have a3 : tot t.segs t.segs.length * 2199028498438 ≤ 1048576 * 2199028498438 := Nat.mul_le_mul_right _ h.2
  omega
set_option maxHeartbeats 400000 in
theorem markLog_own (t : Lg) (sv : Value) (k : Nat) (S : Nat → Prop) (w : World) (hk : 0 < k) (hk1 : k + nL nS1 t.segs ≤ 4000000000000000000) (h : OwnS w S sv t.segs) (hS : ∀ x, S x → x < w.heap.size) :
    Calls Try.prog 10 #[logVal t sv, .int .i64 k] w fun e w' => e = .returned (.int .i64 ((k + nL nS1 t.segs : Nat) : Int)) ∧ OwnS w' S sv (mL mS1 nS1 k t.segs) ∧ Foot w w' S := by
  have HW := Seg.hid h
  obtain ⟨A, c, rfl⟩ := LOwn.form h
  clear h
  unfold logVal
  go_enter Try.func10, Try.ntmps10
  go_wp2_with fail
  refine (markSegmentS_own _ k S t.segs (w.alloc _) hk hk1 (LOwn.keep keepsS HW.out (by rw [hsz]; omega) (fun g hg => heap_alloc_old w _ (hS g hg)))).mono ?_
  rintro e w1 ⟨rfl, hR, b1⟩
  have HR1 := Seg.hid hR
  have B1 : Hid (Foot w w1 S) := (Foot.below (Foot.refl w S) (below1 w _)).trans b1 (fun _ hx => hx)
  clear hR b1
  go_wp2
  go_ret
  exact ⟨rfl, HR1.out, B1.out⟩
end Go.Proofs.Yticihnoekffelaa.Ft
