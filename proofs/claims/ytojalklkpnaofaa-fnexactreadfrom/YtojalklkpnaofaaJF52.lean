/- The law's look at marks: lists of Batches (written by gen_held.py); The walk of the law on ReadFrom out of the contracts. -/
import Derived.Test.YtojalklkpnaofaaJF51
import Derived.Test.YtojalklkpnaofaaJF42
import Derived.Test.YtojalklkpnaofaaJF47
import Derived.Test.YtojalklkpnaofaaJF50
namespace Go.Proofs.Ytojalklkpnaofaa.Ft
set_option maxRecDepth 8000
open Go.RowKit
open Recs
open ToO (MineC)
open Mk (mt markText_at)
open SegW
set_option linter.unusedVariables false
theorem heldBatchS_none (A : Option Addr) (c : Nat) (k : Int) (w : World) : Calls Try.prog 15 #[.slice A 0 c, .int .i64 k] w fun e w' => e = .returned (.int .i64 k) ∧ Below w.heap.size w w' := by
  go_enter Try.func15, Try.ntmps15
  go_wp2
  go_loop [1, 5] (fun x i => i = .int .i64 0 ∧ x = .int .i64 k) (fun _ _ => 0)
  case atStart => exact ⟨rfl, rfl⟩
  case round =>
    obtain ⟨rfl, rfl⟩ := hrel
    go_wp2
    go_ret
    exact ⟨rfl, Below.refl _ _⟩
set_option maxHeartbeats 3200000 in
theorem heldBatchS_core (g n c k : Nat) (P : Nat → Nat → Prop) (F : Nat → Value) (ts : List Bat) (w : World) (hn : n ≤ 1048576) (hk : 0 < k) (hk1 : k + nL nB1 ts ≤ 4000000000000000000) (hl : ts.length = n) (ho : LOpen 44 7 EB w g n c F P (mL mB1 nB1 k ts)) :
    Calls Try.prog 15 #[.slice (some ⟨g, 0, none⟩) n c, .int .i64 k] w fun e w' => e = .returned (.int .i64 ((k + nL nB1 ts : Nat) : Int)) ∧ Below w.heap.size w w' := by
  have hc := ho.mine.le
  have hg := ho.mine.lt
  have HC : Hid (∀ wr i, Below w.heap.size w wr → i < n → wr.cell? ⟨g, i * 7, none⟩ = some (.int .i64 ((((k + nL nB1 (ts.take i)) : Nat) : Int))) ∧ wr.cell? ⟨g, i * 7 + 1, none⟩ = some (.int .i64 ((((k + nL nB1 (ts.take i)) : Nat) : Int) + 1)) ∧ wr.cell? ⟨g, i * 7 + 2, none⟩ = some (.int .i64 ((((k + nL nB1 (ts.take i)) : Nat) : Int) + 1 + 1)) ∧ wr.cell? ⟨g, i * 7 + 3, none⟩ = some (.int .i64 ((((k + nL nB1 (ts.take i)) : Nat) : Int) + 1 + 1 + 1)) ∧ wr.cell? ⟨g, i * 7 + 4, none⟩ = some (.int .i64 ((((k + nL nB1 (ts.take i)) : Nat) : Int) + 1 + 1 + 1 + 1)) ∧ wr.cell? ⟨g, i * 7 + 5, none⟩ = some (.int .i64 ((((k + nL nB1 (ts.take i)) : Nat) : Int) + 1 + 1 + 1 + 1 + 1))) := fun wr i hb hi => by
    have e := ho.el i hi
    rw [mL_get mB1 nB1 (by omega)] at e
    obtain ⟨⟨e0, e1, e2, e3, e4, e5⟩, _⟩ := e
    refine ⟨?_, ?_, ?_, ?_, ?_, ?_⟩
    · rw [hb.cell (p := ⟨g, i * 7, none⟩) hg, ho.mine.cell _ (by omega)]
      exact congrArg some e0
    · rw [hb.cell (p := ⟨g, i * 7 + 1, none⟩) hg, ho.mine.cell _ (by omega)]
      exact congrArg some e1
    · rw [hb.cell (p := ⟨g, i * 7 + 2, none⟩) hg, ho.mine.cell _ (by omega)]
      exact congrArg some e2
    · rw [hb.cell (p := ⟨g, i * 7 + 3, none⟩) hg, ho.mine.cell _ (by omega)]
      exact congrArg some e3
    · rw [hb.cell (p := ⟨g, i * 7 + 4, none⟩) hg, ho.mine.cell _ (by omega)]
      exact congrArg some e4
    · rw [hb.cell (p := ⟨g, i * 7 + 5, none⟩) hg, ho.mine.cell _ (by omega)]
      exact congrArg some e5
  have HI : Hid (∀ wr i, Below w.heap.size w wr → i < n → wr.cell? ⟨g, i * 7 + 6, none⟩ = some (F (i * 7 + 6)) ∧ OwnR wr (P i) (F (i * 7 + 6)) (mL mR1 nR1 (k + nL nB1 (ts.take i) + 6) (ts.getD i default).recs)) := fun wr i hb hi => by
    have e := ho.el i hi
    rw [mL_get mB1 nB1 (by omega)] at e
    refine ⟨?_, ?_⟩
    · rw [hb.cell (p := ⟨g, i * 7 + 6, none⟩) hg, ho.mine.cell _ (by omega)]
    · exact LOwn.keep keepsR e.2 hb.size (fun q hq => hb.block q (ho.apart i hi q hq).2)
  have KL : Hid (∀ j, j < n → k + nL nB1 (ts.take j) + 6 + nL nR1 (ts.getD j default).recs ≤ 4000000000000000000) := fun j hj => by
    have a1 := nL_take nB1 (ts := ts) (j := j) (by omega)
    have a2 := nL_le nB1 ts (j + 1)
    have a3 : nB1 (ts.getD j default) = 6 + nL nR1 (ts.getD j default).recs := rfl
    omega
  have KE : Hid (k + nL nB1 (ts.take n) = k + nL nB1 ts) := by show _ = _; rw [← hl, List.take_length]
  have HL := Seg.hid hl
  clear ho hl hk1
  go_enter Try.func15, Try.ntmps15
  go_wp2
  go_loopw [1, 5] (fun x i wr => ∃ j : Nat, j ≤ n ∧ i = .int .i64 j ∧ x = .int .i64 ((k + nL nB1 (ts.take j) : Nat) : Int) ∧ Hid (Below w.heap.size w wr)) (fun _ i _ => n - (intOf i).toNat)
  case atStart => exact ⟨0, Nat.zero_le _, rfl, rfl, Below.refl _ _⟩
  case round =>
    obtain ⟨j, hj, rfl, rfl, HB⟩ := hrel
    by_cases hlt : j < n
    · have h0 : (0 : Int) ≤ (j : Int) := by omega
      have h1 : (j : Int) < (n : Int) := by omega
      have hxb := KL.out j hlt
      have HKK : Hid (((k + nL nB1 (ts.take j) + 6 + nL nR1 (ts.getD j default).recs : Nat) : Int) = ((k + nL nB1 (ts.take (j + 1)) : Nat) : Int)) := by
        show _ = _
        rw [nL_take nB1 (by rw [HL.out]; exact hlt)]
        have a3 : nB1 (ts.getD j default) = 6 + nL nR1 (ts.getD j default).recs := rfl
        omega
      have HC1 : Hid (∀ wr, Below w.heap.size w wr → _) := fun wr hb => HC.out wr j hb hlt
      have HI1 : Hid (∀ wr, Below w.heap.size w wr → _) := fun wr hb => HI.out wr j hb hlt
      have hx0 : 0 < k + nL nB1 (ts.take j) := by omega
      obtain ⟨L, hL⟩ : ∃ L, (ts.getD j default).recs = L := ⟨_, rfl⟩
      rw [hL] at hxb HKK
      obtain ⟨x, hx⟩ : ∃ x, k + nL nB1 (ts.take j) = x := ⟨_, rfl⟩
      have HC2 : Hid (∀ wr, Below w.heap.size w wr → wr.cell? ⟨g, j * 7, none⟩ = some (.int .i64 (((x : Nat) : Int))) ∧ wr.cell? ⟨g, j * 7 + 1, none⟩ = some (.int .i64 (((x : Nat) : Int) + 1)) ∧ wr.cell? ⟨g, j * 7 + 2, none⟩ = some (.int .i64 (((x : Nat) : Int) + 1 + 1)) ∧ wr.cell? ⟨g, j * 7 + 3, none⟩ = some (.int .i64 (((x : Nat) : Int) + 1 + 1 + 1)) ∧ wr.cell? ⟨g, j * 7 + 4, none⟩ = some (.int .i64 (((x : Nat) : Int) + 1 + 1 + 1 + 1)) ∧ wr.cell? ⟨g, j * 7 + 5, none⟩ = some (.int .i64 (((x : Nat) : Int) + 1 + 1 + 1 + 1 + 1))) := fun wr hb => by
        have := HC1.out wr hb
        rw [hx] at this
        exact this
      have HI2 : Hid (∀ wr, Below w.heap.size w wr → wr.cell? ⟨g, j * 7 + 6, none⟩ = some (F (j * 7 + 6)) ∧ OwnR wr (P j) (F (j * 7 + 6)) (mL mR1 nR1 (x + 6) L)) := fun wr hb => by
        have := HI1.out wr hb
        rw [hx, hL] at this
        exact this
      rw [hx] at hxb hx0 HKK ⊢
      clear HC1 HI1 hx hL
      have HXB := Seg.hid hxb
      have hxc : x + 6 ≤ 4000000000000000000 := by omega
      obtain ⟨A1, c1', hsl⟩ := LOwn.form (HI2.out wr HB.out).2
      rw [mL_len] at hsl
      have HS := Seg.hid hsl
      have HI3 : Hid (∀ wr, Below w.heap.size w wr → wr.cell? ⟨g, j * 7 + 6, none⟩ = some (.slice A1 L.length c1') ∧ OwnR wr (P j) (.slice A1 L.length c1') (mL mR1 nR1 (x + 6) L)) := fun wr hb => by
        have := HI2.out wr hb
        rw [HS.out] at this
        exact this
      clear HI2 hsl hxb
      obtain ⟨c0, c1, c2, c3, c4, c5⟩ := HC2.out wr HB.out
      obtain ⟨cI, _⟩ := HI3.out wr HB.out
      go_wp2_with fail
      refine (heldRecordS_at _ (x + 6) (by omega) (P j) L wr (by omega) HXB.out (HI3.out wr HB.out).2).mono ?_
      rintro e w1 ⟨rfl, b1⟩
      have B1 := Seg.hid (chain HB.out b1)
      clear b1 c0 c1 c2 c3 c4 c5 cI
      rw [HKK.out]
      have hnn : ¬ ((k + nL nB1 (ts.take (j + 1)) : Nat) : Int) < 0 := by omega
      go_wp2
      go_roundw
      case rel => exact ⟨j + 1, by omega, by go_num, rfl, B1.out⟩
      case measure => simp [intOf]; omega
    · have : j = n := by omega
      subst this
      rw [KE.out]
      go_wp2
      go_ret
      exact ⟨rfl, HB.out⟩
theorem heldBatchS_own (v : Value) (k : Nat) (S : Nat → Prop) (ts : List Bat) (w : World) (hk : 0 < k) (hk1 : k + nL nB1 ts ≤ 4000000000000000000) (hv : OwnB w S v (mL mB1 nB1 k ts)) :
    Calls Try.prog 15 #[v, .int .i64 k] w fun e w' => e = .returned (.int .i64 ((k + nL nB1 ts : Nat) : Int)) ∧ Below w.heap.size w w' := by
  obtain ⟨h0, A, c, rfl, h⟩ := hv
  rw [mL_len] at h0 h ⊢
  by_cases hz : ts.length = 0
  · have : ts = [] := List.length_eq_zero_iff.1 hz
    subst this
    exact (heldBatchS_none A c k w).mono fun e w' ⟨h1, h2⟩ => ⟨by rw [h1]; rfl, h2⟩
  obtain ⟨g, F, P, rfl, h3, h4, h5⟩ := h.resolve_left hz
  exact heldBatchS_core g ts.length c k P F ts w h0 hk hk1 rfl h5
theorem heldBatchS_at (y : Int) (k : Nat) (hy : y = (k : Int)) (S : Nat → Prop) (ts : List Bat) (w : World) {v : Value} (hk : 0 < k) (hk1 : k + nL nB1 ts ≤ 4000000000000000000) (hv : OwnB w S v (mL mB1 nB1 k ts)) :
    Calls Try.prog 15 #[v, .int .i64 y] w fun e w' => e = .returned (.int .i64 ((k + nL nB1 ts : Nat) : Int)) ∧ Below w.heap.size w w' := by
  subst hy
  exact heldBatchS_own v k S ts w hk hk1 hv
end Go.Proofs.Ytojalklkpnaofaa.Ft
namespace Go.Proofs.Ytojalklkpnaofaa.ExRf
set_option maxRecDepth 8000
open Go.RowKit
open Recs (hsz below1 below2 chain chainD Bat)
open Bats SegW Segs LogW Ft BfP RfP
open Of (four ok_all flat_count)
open LgP (logOk)
set_option linter.unusedVariables false
theorem info35 : (Try.prog.info? 24).map (·.size) = some 4 := by kernel_rfl
theorem rd_sub : ∀ (bs : List Bat) (left : Int) (n : Nat), ∀ t ∈ rd left n bs, t ∈ bs
  | [], _, _, t, h => by simp [rd] at h
  | b :: r, left, n, t, h => by
    unfold rd at h
    split at h
    · cases h
    · rcases List.mem_cons.1 h with e | h
      · exact e ▸ List.mem_cons_self
      · exact List.mem_cons_of_mem _ (rd_sub r _ _ t h)
theorem reads_marks {l : Lg} (h : FewL l) (x y : Int) : 1 + nL nB1 (reads l x y).1 ≤ 4000000000000000000 := by
  unfold reads
  split
  · rename_i hh
    split
    · have hok : logOk l = true := (Bool.and_eq_true_iff.1 hh).1
      obtain ⟨f, k1, k2, k3, k4, k5, k6, k7⟩ := ok_all hok
      have FL : (flatB l.segs).length ≤ 400 := by rw [flat_count]; exact k7
      have a2 : (rd y 0 (fromB x (flatB l.segs))).length ≤ 400 := Nat.le_trans (rd_le _ _ _) (Nat.le_trans (List.length_filter_le _ _) FL)
      have a1 := nL_bound nB1 2199028498438 (rd y 0 (fromB x (flatB l.segs))) (fun i hi => nB_few (flat_few' l.segs h.1.2 _ ((List.mem_filter.1 (rd_sub (fromB x (flatB l.segs)) y 0 _ (by rw [List.getD_eq_getElem?_getD, List.getElem?_eq_getElem hi]; simp))).1)))
      have a3 := Nat.mul_le_mul_right 2199028498438 a2
      show 1 + nL nB1 (rd y 0 (fromB x (flatB l.segs))) ≤ _
      omega
    · simp [nL]
  · simp [nL]
/-- What stands through the law: the argument, the model's answer, the copy, the program's answer (its list holds Lc). -/
structure St (w w2 w3 w4 w5 : World) (t : Lg) (us : List Bat) (v v3 v4 v5 : Value) (Lc : List Bat) (wx : World) : Prop where
  T : wx.heap[w.heap.size]? = some (.cells (logArr t v) 24 (0, 0))
  X : wx.heap[w4.heap.size]? = some (.cells (logArr t v4) 29 (0, 0))
  P : BatsAt wx w2.heap.size w3.heap.size v3 us
  O : OwnB wx (seg (w4.heap.size + 1) w5.heap.size) v5 Lc
  B : Below w.heap.size w wx
  S : w5.heap.size ≤ wx.heap.size
  ord : w.heap.size < w2.heap.size ∧ w2.heap.size ≤ w3.heap.size ∧ w3.heap.size ≤ w4.heap.size ∧ w4.heap.size < w5.heap.size
section
variable {w w2 w3 w4 w5 : World} {t : Lg} {us : List Bat} {v v3 v4 v5 : Value} {Lc : List Bat} {wx wy : World}
theorem St.below (h : St w w2 w3 w4 w5 t us v v3 v4 v5 Lc wx) (b : Below wx.heap.size wx wy) : St w w2 w3 w4 w5 t us v v3 v4 v5 Lc wy := by
  have s := h.S
  obtain ⟨o1, o2, o3, o4⟩ := h.ord
  exact ⟨(b.block _ (by omega)).trans h.T, (b.block _ (by omega)).trans h.X, h.P.keep fun g h1 h2 => b.block g (by omega), LOwn.keep keepsB h.O b.size (fun g hg => b.block g (by have := hg.2; omega)), chain h.B b, Nat.le_trans s b.size, h.ord⟩
theorem St.foot (h : St w w2 w3 w4 w5 t us v v3 v4 v5 Lc wx) (f : Foot wx wy (seg w3.heap.size w4.heap.size)) : St w w2 w3 w4 w5 t us v v3 v4 v5 Lc wy := by
  have s := h.S
  obtain ⟨o1, o2, o3, o4⟩ := h.ord
  have k : ∀ x, x < wx.heap.size → ¬ (w3.heap.size ≤ x ∧ x < w4.heap.size) → wy.heap[x]? = wx.heap[x]? := fun x hx hn => f.block x hx hn
  exact ⟨(k _ (by omega) (by omega)).trans h.T, (k _ (by omega) (by omega)).trans h.X, h.P.keep fun g h1 h2 => k g (by omega) (by omega), LOwn.keep keepsB h.O f.size (fun g hg => k g (by have := hg.2; omega) (by have := hg.1; omega)), h.B.trans ((f.toBelow (lo := w.heap.size) (fun y hy => by have := hy.1; omega) (by omega))), Nat.le_trans s f.size, h.ord⟩
theorem St.mark {Ld : List Bat} (h : St w w2 w3 w4 w5 t us v v3 v4 v5 Lc wx) (f : Foot wx wy (seg (w4.heap.size + 1) w5.heap.size)) (ho : OwnB wy (seg (w4.heap.size + 1) w5.heap.size) v5 Ld) : St w w2 w3 w4 w5 t us v v3 v4 v5 Ld wy := by
  have s := h.S
  obtain ⟨o1, o2, o3, o4⟩ := h.ord
  have k : ∀ x, x < wx.heap.size → ¬ (w4.heap.size + 1 ≤ x ∧ x < w5.heap.size) → wy.heap[x]? = wx.heap[x]? := fun x hx hn => f.block x hx hn
  exact ⟨(k _ (by omega) (by omega)).trans h.T, (k _ (by omega) (by omega)).trans h.X, h.P.keep fun g h1 h2 => k g (by omega) (by omega), ho, h.B.trans ((f.toBelow (lo := w.heap.size) (fun y hy => by have := hy.1; omega) (by omega))), Nat.le_trans s f.size, h.ord⟩
theorem St.eq (h : St w w2 w3 w4 w5 t us v v3 v4 v5 us wx) : Calls Try.prog 12 #[v5, v3] wx fun e w' => e = .returned (.bool true) ∧ Below wx.heap.size wx w' :=
  Bats.eqBatchS_any _ _ us wx 0 0 wx.heap.size ((bats_of h.O (fun x hx => hx)).mono (Nat.zero_le _) h.S) (h.P.mono (Nat.zero_le _) (by have := h.S; have := h.ord; omega)) (Nat.le_refl _)
end
set_option maxHeartbeats 12800000 in
theorem walk (v : Value) (t : Lg) (x y : Int) (w : World) (hv : LogAt w 0 w.heap.size v t) (hf : FineL t) (hyb : y ≤ 9223372036854775807) :
    Calls Try.prog 4 #[v, .int .i64 x, .int .i64 y] w fun e w' => e = .returned (.bool true) ∧ Below w.heap.size w w' := by
  have HV := Seg.hid hv
  obtain ⟨rv, rfl, H, ⟨hn, A, c, rfl, hx1⟩, hx2⟩ := hv
  have HF := Seg.hid hf
  clear hf hx1 hx2
  obtain ⟨us, co, hR⟩ : ∃ us co, reads t x y = (us, co) := ⟨_, _, rfl⟩
  have MK : Hid (FewL t → 1 + nL nB1 us ≤ 4000000000000000000) := fun h => by have := reads_marks h x y; rw [hR] at this; exact this
  have CS : Hid (∀ v w lo b, LogAt w lo b v t → b ≤ w.heap.size → FewL t → Calls Try.prog 10 #[v, .int .i64 x, .int .i64 y] w fun e w' => ∃ sv, e = .returned (.tuple #[sv, .int .i64 co]) ∧ BatsAt w' w.heap.size w'.heap.size sv us ∧ Below w.heap.size w w') := by
    intro v w lo b h1 h2 h3
    have := readFromS_any v t x y w lo b h1 h2 h3 (fun i hi => (HF.out.2 i hi).2)
    rw [hR] at this; exact this
  have CI : Hid (∀ v w lo b, LogAt w lo b v t → b ≤ w.heap.size → FewL t → Calls Try.prog 11 #[v, .int .i64 x, .int .i64 y] w fun e w' => ∃ sv, e = .returned (.tuple #[sv, .int .i64 co]) ∧ OwnB w' (seg w.heap.size w'.heap.size) sv us ∧ Below w.heap.size w w') := by
    intro v w lo b h1 h2 h3
    have := readFrom_any v t x y w lo b h1 h2 h3 hyb
    rw [hR] at this; exact this
  clear hR
  unfold logVal at HV ⊢
  go_enter Try.func4, Try.ntmps4
  go_wp2_with fail
  refine (LogW.szLog_any _ t _ (w.alloc _) 0 w.heap.size (by omega) (by omega) (HV.out.below (below1 w _)) (by rw [hsz]; omega) HF.out).mono ?_
  rintro e w1 ⟨q, rfl, q1, q2, q3, b1⟩
  have B1 := Seg.hid (chain (below1 w _) b1)
  have T1 : Hid (w1.heap[w.heap.size]? = some (.cells (logArr t (.slice A t.segs.length c)) 24 (0, 0))) := (b1.block w.heap.size (by rw [hsz]; omega)).trans (heap_alloc_new _ _)
  clear b1
  by_cases hq : q < 0
  · go_wp2
    go_ret
    exact ⟨rfl, B1.out⟩
  have FW := Seg.hid (q3 (by omega))
  have MB := Seg.hid (MK.out FW.out)
  have s1 := B1.out.size
  have z1 : w.heap.size < w1.heap.size := (Array.getElem?_eq_some_iff.1 T1.out).1
  clear q3 MK
  go_wp2_with (refine wpList_load_row rfl 24 _ rfl w.heap.size rfl _ _ _ _ T1.out Try.underlying24 rfl info35 ?_)
  refine (LogW.toLog_any _ t w1 0 w.heap.size (HV.out.below B1.out) s1 FW.out).mono ?_
  rintro e w2 ⟨v2, rfl, r2, b2⟩
  have R2 := Seg.hid r2
  have B2 := Seg.hid (chain B1.out b2)
  have T2 := Seg.hid ((b2.block w.heap.size z1).trans T1.out)
  have s2 := b2.size
  clear r2 b2
  go_wp2_with fail
  refine (CS.out _ w2 _ _ R2.out (Nat.le_refl _) FW.out).mono ?_
  rintro e w3 ⟨sv3, rfl, o3, b3⟩
  have O3 := Seg.hid o3
  have B3 := Seg.hid (chain B2.out b3)
  have T3 := Seg.hid ((b3.block w.heap.size (by omega)).trans T2.out)
  have s3 := b3.size
  obtain ⟨_, ⟨_, A3, c3, rfl, _⟩, _⟩ := id o3
  clear b3 o3
  obtain ⟨d0, d1, d2, d3⟩ := four T3.out
  go_wp2_with fail
  clear d0 d1 d2 d3
  refine (toLog_own _ t w3 0 w.heap.size (HV.out.below B3.out) (by omega) FW.out).mono ?_
  rintro e w4 ⟨sv4, rfl, ow4, b4⟩
  have W4 := Seg.hid ow4
  have LA4 : Hid (LogAt w4 w3.heap.size w4.heap.size (logVal t sv4) t) := ⟨_, rfl, segs_of ow4 (fun x hx => hx)⟩
  have b34 := Seg.hid b4
  have B4 := Seg.hid (chain B3.out b34.out)
  have T4 := Seg.hid ((b34.out.block w.heap.size (by omega)).trans T3.out)
  have O4 := Seg.hid (O3.out.below b34.out)
  have s4 := b4.size
  obtain ⟨A4, c4, rfl⟩ := LOwn.form ow4
  clear b4 ow4
  unfold logVal at LA4 ⊢
  go_wp2_with fail
  refine (CI.out _ (w4.alloc _) _ w4.heap.size (LA4.out.below (below1 w4 _)) (by rw [hsz]; omega) FW.out).mono ?_
  rintro e w5 ⟨sv5, rfl, o5, b5⟩
  have b45 := Seg.hid (chain (below1 w4 _) b5)
  have XB5 : Hid (w5.heap[w4.heap.size]? = some (.cells (logArr t (.slice A4 t.segs.length c4)) 29 (0, 0))) := (b5.block w4.heap.size (by rw [hsz]; omega)).trans (heap_alloc_new _ _)
  have s5 := b5.size
  rw [hsz] at o5 s5
  have O5 := Seg.hid o5
  have B5 := Seg.hid (chain B4.out b45.out)
  have T5 := Seg.hid ((b45.out.block w.heap.size (by omega)).trans T4.out)
  have P5 := Seg.hid (O4.out.keep (w' := w5) (fun g h1 h2 => b45.out.block g (by omega)))
  have R5 := Seg.hid (LA4.out.below b45.out)
  have W5 : Hid (OwnS w5 (seg w3.heap.size w4.heap.size) (.slice A4 t.segs.length c4) t.segs) := LOwn.keep keepsS W4.out b45.out.size (fun g hg => b45.out.block g hg.2)
  obtain ⟨A5, c5, rfl⟩ := LOwn.form o5
  clear b5 o5
  have ST5 : Hid (St w w2 w3 w4 w5 t us (.slice A t.segs.length c) (.slice A3 us.length c3) (.slice A4 t.segs.length c4) (.slice A5 us.length c5) us w5) := ⟨T5.out, XB5.out, P5.out, O5.out, B5.out, Nat.le_refl _, by omega, by omega, by omega, by omega⟩
  have hne : (co != co) = false := by simp
  have RT : Hid (∀ wx, Below w5.heap.size w5 wx → LogAt wx w3.heap.size w4.heap.size (logVal t (.slice A4 t.segs.length c4)) t) := fun wx bx => R5.out.below (bx.mono (by omega))
  clear T5 XB5 P5 O5 B5 W4 O4 T4 B4 O3 T3 B3 R2 T2 B2 T1 b34 b45 LA4 R5
  go_wp2_with fail
  refine (ST5.out.eq).mono ?_
  rintro e w6 ⟨rfl, b6⟩
  have ST6 := Seg.hid (ST5.out.below b6)
  have W6 : Hid (OwnS w6 (seg w3.heap.size w4.heap.size) (.slice A4 t.segs.length c4) t.segs) := LOwn.keep keepsS W5.out b6.size (fun g hg => b6.block g (by have := hg.2; omega))
  have BL6 : Hid (Below w5.heap.size w5 w6) := b6
  clear b6 ST5 W5
  go_wp2_with fail
  obtain ⟨c0, c1, c2, c3'⟩ := four ST6.out.X
  obtain ⟨d0, d1, d2, d3⟩ := four ST6.out.T
  have s6 := ST6.out.S
  have ord := ST6.out.ord
  go_region_with (first | (go_at_call 7; refine (LogW.toLog_any _ t w6.drew 0 w.heap.size (HV.out.below ST6.out.B.drew) (by show _ ≤ w6.heap.size; omega) FW.out).mono ?_; rintro e w7 ⟨v7, rfl, r7, b7⟩; have R7 := Seg.hid (r7.mono (Nat.zero_le _) (Nat.le_refl _)); have BD7 : Hid (Below w6.heap.size w6 w7) := ⟨b7.os, b7.tape, b7.output, b7.size, b7.block⟩; have X7 : Hid (LogAt w7 0 w7.heap.size (.agg (logArr t (.slice A4 t.segs.length c4))) t) := ((RT.out w7 (BL6.out.trans (BD7.out.mono (by omega)))).mono (Nat.zero_le _) (by have := BD7.out.size; omega)); obtain ⟨j0, j1, j2, j3⟩ := four ((b7.block w4.heap.size (by show _ < w6.heap.size; omega)).trans ST6.out.X); clear b7 r7) | (go_at_call 9; refine (LogW.eqLog_any _ _ t w7 _ _ w7.heap.size X7.out R7.out (Nat.le_refl _)).mono ?_; rintro e w8 ⟨rfl, b8⟩; have BD8 : Hid (Below w6.heap.size w6 w8) := chain BD7.out b8; clear b8))
  all_goals
    have ST8 := Seg.hid (ST6.out.below BD8.out)
    have W8 : Hid (OwnS w8 (seg w3.heap.size w4.heap.size) (.slice A4 t.segs.length c4) t.segs) := LOwn.keep keepsS W6.out BD8.out.size (fun g hg => BD8.out.block g (by have := hg.2; omega))
    clear c0 c1 c2 c3' d0 d1 d2 d3
    try clear j0 j1 j2 j3
    obtain ⟨c0, c1, c2, c3'⟩ := four ST8.out.X
    go_wp2_with fail
    clear c0 c1 c2 c3'
    refine (markLog_own t (.slice A4 t.segs.length c4) 1 (seg w3.heap.size w4.heap.size) w8 (by decide) (log_few FW.out) W8.out (fun x hx => by have := hx.2; have := ST8.out.S; omega)).mono ?_
    rintro e w9 ⟨rfl, hM, hW⟩
    clear hM
    have ST9 := Seg.hid (ST8.out.foot hW)
    obtain ⟨K, hK⟩ : ∃ K, 1 + nL nS1 t.segs = K := ⟨_, rfl⟩
    rw [hK]
    clear hK hW W8 ST8 W6 ST6 BD8 BD7 X7 R7
    have hK0 : (0 : Int) ≤ (K : Int) := by omega
    have hkd : decide ((K : Int) < 0) = false := decide_eq_false (by omega)
    go_wp2_with fail
    refine (ST9.out.eq).mono ?_
    rintro e w10 ⟨rfl, b10⟩
    have ST10 := Seg.hid (ST9.out.below b10)
    clear b10 ST9
    go_wp2_with fail
    refine (markBatchS_own (.slice A5 us.length c5) 1 (seg (w4.heap.size + 1) w5.heap.size) us w10 (by decide) MB.out ST10.out.O).mono ?_
    rintro e w11 ⟨rfl, hM, hW⟩
    have ST11 := Seg.hid (ST10.out.mark hW hM)
    clear hM hW ST10
    obtain ⟨M, hM⟩ : ∃ M, 1 + nL nB1 us = M := ⟨_, rfl⟩
    have HMM := Seg.hid hM
    rw [hM]
    clear hM
    go_wp2_with fail
    refine (heldBatchS_own (.slice A5 us.length c5) 1 (seg (w4.heap.size + 1) w5.heap.size) us w11 (by decide) MB.out ST11.out.O).mono ?_
    rintro e w12 ⟨rfl, b12⟩
    have ST12 := Seg.hid (ST11.out.below b12)
    clear b12 ST11
    rw [HMM.out]
    have hM0 : ¬ (M : Int) < 0 := by omega
    have hM1 : ((M : Int) != (M : Int)) = false := by simp
    obtain ⟨d0, d1, d2, d3⟩ := four ST12.out.T
    go_wp2_with fail
    clear d0 d1 d2 d3
    refine (LogW.toLog_any _ t w12 0 w.heap.size (HV.out.below ST12.out.B) (by have := ST12.out.S; omega) FW.out).mono ?_
    rintro e w13 ⟨v13, rfl, r13, b13⟩
    have R13 := Seg.hid r13
    have ST13 := Seg.hid (ST12.out.below b13)
    clear r13 b13 ST12
    go_wp2_with fail
    refine (CI.out _ w13 _ _ R13.out (Nat.le_refl _) FW.out).mono ?_
    rintro e w14 ⟨sv14, rfl, o14, b14⟩
    have ST14 := Seg.hid (ST13.out.below b14)
    obtain ⟨A14, c14, rfl⟩ := LOwn.form o14
    have EQ14 : Hid (Calls Try.prog 12 #[.slice A14 us.length c14, .slice A3 us.length c3] w14 fun e w' => e = .returned (.bool true) ∧ Below w14.heap.size w14 w') :=
      Bats.eqBatchS_any _ _ us w14 0 0 w14.heap.size ((bats_of o14 (fun x hx => hx)).mono (Nat.zero_le _) (Nat.le_refl _)) (ST14.out.P.mono (Nat.zero_le _) (by have := ST14.out.S; have := ST14.out.ord; omega)) (Nat.le_refl _)
    clear o14 b14 ST13
    go_wp2_with fail
    refine EQ14.out.mono ?_
    rintro e w16 ⟨rfl, b16⟩
    have ST16 := Seg.hid (ST14.out.below b16)
    clear b16 ST14 EQ14
    go_wp2_with fail
    refine (heldBatchS_own (.slice A5 us.length c5) 1 (seg (w4.heap.size + 1) w5.heap.size) us w16 (by decide) MB.out ST16.out.O).mono ?_
    rintro e w17 ⟨rfl, b17⟩
    have ST17 := Seg.hid (ST16.out.below b17)
    clear b17 ST16
    rw [HMM.out]
    go_wp2_with fail
    go_ret
    exact ⟨rfl, ST17.out.B⟩
end Go.Proofs.Ytojalklkpnaofaa.ExRf
