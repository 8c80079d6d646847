/- The walk of the law on CutTo out of the contracts; What the frame tells of a Record or a Batch that came in: as plain data that lie in memory. -/
import Derived.ProofKit
import Derived.Deep.SlicePairs
import Derived.Test.YticihnoekffelaaRows
import Derived.Test.YticihnoekffelaaJC15
import Derived.Test.YticihnoekffelaaJC33
import Derived.Test.YticihnoekffelaaJC39
import Derived.Test.YticihnoekffelaaJC01
namespace Go.Proofs.Yticihnoekffelaa.ExCt
set_option maxRecDepth 8000
open Go.RowKit
open Recs (hsz below1 below2 chain chainD Bat)
open Bats SegW Segs LogW Ft
open CtP
set_option linter.unusedVariables false
theorem later {w w' : World} {lo b : Nat} {v : Value} {t : Lg} (h : LogAt w lo b v t) (hb : Below w.drew.heap.size w.drew w') (hl : b ≤ w.heap.size) : LogAt w' lo w'.heap.size v t :=
  (h.keep fun g _ hg => hb.block g (Nat.lt_of_lt_of_le hg hl)).mono (Nat.le_refl _) (Nat.le_trans hl hb.size)
theorem info35 : (Try.prog.info? 24).map (·.size) = some 4 := by kernel_rfl
theorem nL_pick {T : Type} (n1 : T → Nat) : ∀ (ts : List T) (k : Nat), nL n1 (ts.take k) ≤ nL n1 ts := fun ts k => nL_le n1 ts k
theorem cutB_marks (x : Int) (b : Bat) : nB1 (cutB x b) ≤ nB1 b := by
  unfold cutB
  split
  · have := nL_le nR1 b.recs (x - b.base).toNat
    unfold nB1
    show 6 + nL nR1 (b.recs.take _) ≤ _
    omega
  · exact Nat.le_refl _
theorem cutBs_marks (x : Int) : ∀ bs : List Bat, nL nB1 (cutBs x bs) ≤ nL nB1 bs
  | [] => Nat.le_refl _
  | b :: r => by
    have h1 := cutBs_marks x r
    have h2 := cutB_marks x b
    unfold cutBs
    split
    · simp only [nL]; omega
    · simp only [nL]; omega
theorem cutSs_marks (x : Int) : ∀ ss : List Sg, nL nS1 (cutSs x ss) ≤ nL nS1 ss
  | [] => Nat.le_refl _
  | s :: r => by
    have h1 := cutSs_marks x r
    have h2 := cutBs_marks x s.bats
    unfold cutSs
    rw [nL_app]
    unfold one
    split
    · simp only [nL]; omega
    · simp only [nL, nS1]; omega
theorem cut_marks {t : Lg} (h : FewL t) (x : Int) : 1 + nL nS1 (cutT t x).1.segs ≤ 4000000000000000000 := by
  have a1 := log_few h
  unfold cutT
  split
  · have := cutSs_marks x t.segs
    show 1 + nL nS1 (cutSs x t.segs) ≤ _
    omega
  · simp [nL]
/-- What stands through the law: the argument, the model's answer, the copy, the program's answer (its list holds Lc). -/
structure St (w w2 w3 w4 w5 : World) (t L : Lg) (v v3 v4 v5 : Value) (Lc : List Sg) (wx : World) : Prop where
  T : wx.heap[w.heap.size]? = some (.cells (logArr t v) 24 (0, 0))
  W : wx.heap[w3.heap.size]? = some (.cells (logArr L v3) 28 (0, 0))
  X : wx.heap[w4.heap.size]? = some (.cells (logArr t v4) 28 (0, 0))
  G : wx.heap[w5.heap.size]? = some (.cells (logArr L v5) 28 (0, 0))
  P : SegsAt wx w2.heap.size w3.heap.size v3 L.segs
  O : OwnS wx (seg (w4.heap.size + 1) w5.heap.size) v5 Lc
  B : Below w.heap.size w wx
  S : w5.heap.size < wx.heap.size
  ord : w.heap.size < w2.heap.size ∧ w2.heap.size ≤ w3.heap.size ∧ w3.heap.size < w4.heap.size ∧ w4.heap.size < w5.heap.size
section
variable {w w2 w3 w4 w5 : World} {t L : Lg} {v v3 v4 v5 : Value} {Lc : List Sg} {wx wy : World}
theorem St.below (h : St w w2 w3 w4 w5 t L v v3 v4 v5 Lc wx) (b : Below wx.heap.size wx wy) : St w w2 w3 w4 w5 t L v v3 v4 v5 Lc wy := by
  have s := h.S
  obtain ⟨o1, o2, o3, o4⟩ := h.ord
  exact ⟨(b.block _ (by omega)).trans h.T, (b.block _ (by omega)).trans h.W, (b.block _ (by omega)).trans h.X, (b.block _ (by omega)).trans h.G, h.P.keep fun g h1 h2 => b.block g (by omega), LOwn.keep keepsS h.O b.size (fun g hg => b.block g (by have := hg.2; omega)), chain h.B b, Nat.lt_of_lt_of_le s b.size, h.ord⟩
theorem St.drew (h : St w w2 w3 w4 w5 t L v v3 v4 v5 Lc wx) : St w w2 w3 w4 w5 t L v v3 v4 v5 Lc wx.drew := h.below ((Below.refl _ _).drew)
theorem St.foot (h : St w w2 w3 w4 w5 t L v v3 v4 v5 Lc wx) (f : Foot wx wy (seg (w3.heap.size + 1) w4.heap.size)) : St w w2 w3 w4 w5 t L v v3 v4 v5 Lc wy := by
  have s := h.S
  obtain ⟨o1, o2, o3, o4⟩ := h.ord
  have k : ∀ x, x < wx.heap.size → ¬ (w3.heap.size + 1 ≤ x ∧ x < w4.heap.size) → wy.heap[x]? = wx.heap[x]? := fun x hx hn => f.block x hx hn
  exact ⟨(k _ (by omega) (by omega)).trans h.T, (k _ (by omega) (by omega)).trans h.W, (k _ (by omega) (by omega)).trans h.X, (k _ (by omega) (by omega)).trans h.G, h.P.keep fun g h1 h2 => k g (by omega) (by omega), LOwn.keep keepsS h.O f.size (fun g hg => k g (by have := hg.2; omega) (by have := hg.1; omega)), h.B.trans ((f.toBelow (lo := w.heap.size) (fun y hy => by have := hy.1; omega) (by omega))), Nat.lt_of_lt_of_le s f.size, h.ord⟩
theorem St.mark {Ld : List Sg} (h : St w w2 w3 w4 w5 t L v v3 v4 v5 Lc wx) (f : Foot wx wy (seg (w4.heap.size + 1) w5.heap.size)) (ho : OwnS wy (seg (w4.heap.size + 1) w5.heap.size) v5 Ld) : St w w2 w3 w4 w5 t L v v3 v4 v5 Ld wy := by
  have s := h.S
  obtain ⟨o1, o2, o3, o4⟩ := h.ord
  have k : ∀ x, x < wx.heap.size → ¬ (w4.heap.size + 1 ≤ x ∧ x < w5.heap.size) → wy.heap[x]? = wx.heap[x]? := fun x hx hn => f.block x hx hn
  exact ⟨(k _ (by omega) (by omega)).trans h.T, (k _ (by omega) (by omega)).trans h.W, (k _ (by omega) (by omega)).trans h.X, (k _ (by omega) (by omega)).trans h.G, h.P.keep fun g h1 h2 => k g (by omega) (by omega), ho, h.B.trans ((f.toBelow (lo := w.heap.size) (fun y hy => by have := hy.1; omega) (by omega))), Nat.lt_of_lt_of_le s f.size, h.ord⟩
theorem St.logG (h : St w w2 w3 w4 w5 t L v v3 v4 v5 L.segs wx) : LogAt wx 0 wx.heap.size (logVal L v5) L := ⟨_, rfl, (segs_of h.O (fun x hx => hx)).mono (Nat.zero_le _) (Nat.le_of_lt h.S)⟩
theorem St.logW (h : St w w2 w3 w4 w5 t L v v3 v4 v5 Lc wx) : LogAt wx 0 wx.heap.size (logVal L v3) L := ⟨_, rfl, h.P.mono (Nat.zero_le _) (by have := h.S; have := h.ord; omega)⟩
theorem St.eq (h : St w w2 w3 w4 w5 t L v v3 v4 v5 L.segs wx) : Calls Try.prog 9 #[logVal L v5, logVal L v3] wx fun e w' => e = .returned (.bool true) ∧ Below wx.heap.size wx w' := LogW.eqLog_any _ _ L wx 0 0 wx.heap.size h.logG h.logW (Nat.le_refl _)
end
set_option maxHeartbeats 12800000 in
theorem walk (v : Value) (t : Lg) (x : Int) (w : World) (hv : LogAt w 0 w.heap.size v t) (hf : FineL t) :
    Calls Try.prog 3 #[v, .int .i64 x] w fun e w' => e = .returned (.bool true) ∧ Below w.heap.size w w' := by
  have HV := Seg.hid hv
  obtain ⟨rv, rfl, H, ⟨hn, A, c, rfl, hx1⟩, hx2⟩ := hv
  have HF := Seg.hid hf
  clear hf hx1 hx2
  obtain ⟨L, bo, hR⟩ : ∃ L bo, cutT t x = (L, bo) := ⟨_, _, rfl⟩
  have MK : Hid (FewL t → 1 + nL nS1 L.segs ≤ 4000000000000000000) := fun h => by have := cut_marks h x; rw [hR] at this; exact this
  have CS : Hid (∀ v w lo b, LogAt w lo b v t → b ≤ w.heap.size → FewL t → Calls Try.prog 6 #[v, .int .i64 x] w fun e w' => ∃ sv, e = .returned (.tuple #[logVal L sv, .bool bo]) ∧ SegsAt w' w.heap.size w'.heap.size sv L.segs ∧ Below w.heap.size w w') := by
    intro v w lo b h1 h2 h3
    have := cutToS_any v t x w lo b h1 h2 h3 (fun i hi => (HF.out.2 i hi).2)
    rw [hR] at this; exact this
  have CI : Hid (∀ v w lo b, LogAt w lo b v t → b ≤ w.heap.size → FewL t → Calls Try.prog 8 #[v, .int .i64 x] w fun e w' => ∃ sv, e = .returned (.tuple #[logVal L sv, .bool bo]) ∧ OwnS w' (seg w.heap.size w'.heap.size) sv L.segs ∧ Below w.heap.size w w') := by
    intro v w lo b h1 h2 h3
    have := cutTo_any v t x w lo b h1 h2 h3
    rw [hR] at this; exact this
  clear hR
  unfold logVal at HV ⊢
  go_enter Try.func3, Try.ntmps3
  go_wp2_with fail
  refine (LogW.szLog_any _ t _ (w.alloc _) 0 w.heap.size (by omega) (by omega) (HV.out.below (below1 w _)) (by rw [hsz]; omega) HF.out).mono ?_
  rintro e w1 ⟨q, rfl, q1, q2, q3, b1⟩
  have B1 := Seg.hid (chain (below1 w _) b1)
  have T1 : Hid (w1.heap[w.heap.size]? = some (.cells (logArr t (.slice A t.segs.length c)) 24 (0, 0))) := (b1.block w.heap.size (by rw [hsz]; omega)).trans (heap_alloc_new _ _)
  clear b1
  by_cases hq : q < 0
  · go_wp2
    go_ret
    exact ⟨rfl, B1.out⟩
  have FW := Seg.hid (q3 (by omega))
  have MB := Seg.hid (MK.out FW.out)
  have s1 := B1.out.size
  have z1 : w.heap.size < w1.heap.size := (Array.getElem?_eq_some_iff.1 T1.out).1
  clear q3 MK
  go_wp2_with (refine wpList_load_row rfl 24 _ rfl w.heap.size rfl _ _ _ _ T1.out Try.underlying24 rfl info35 ?_)
  refine (LogW.toLog_any _ t w1 0 w.heap.size (HV.out.below B1.out) s1 FW.out).mono ?_
  rintro e w2 ⟨v2, rfl, r2, b2⟩
  have R2 := Seg.hid r2
  have B2 := Seg.hid (chain B1.out b2)
  have T2 := Seg.hid ((b2.block w.heap.size z1).trans T1.out)
  have s2 := b2.size
  clear r2 b2
  go_wp2_with fail
  refine (CS.out _ w2 _ _ R2.out (Nat.le_refl _) FW.out).mono ?_
  rintro e w3 ⟨sv3, rfl, o3, b3⟩
  have O3 := Seg.hid o3
  have B3 := Seg.hid (chain B2.out b3)
  have T3 := Seg.hid ((b3.block w.heap.size (by omega)).trans T2.out)
  have s3 := b3.size
  obtain ⟨_, ⟨_, A3, c3, rfl, _⟩, _⟩ := id o3
  clear b3 o3
  unfold logVal
  have TA : Hid ((w3.alloc (.cells #[.int .i64 L.start, .int .i64 L.next, .int .i64 L.roll, .slice A3 L.segs.length c3] 28 (0, 0))).heap[w.heap.size]? = some (.cells (logArr t (.slice A t.segs.length c)) 24 (0, 0))) := (heap_alloc_old _ _ (by omega)).trans T3.out
  have WA : Hid ((w3.alloc (.cells #[.int .i64 L.start, .int .i64 L.next, .int .i64 L.roll, .slice A3 L.segs.length c3] 28 (0, 0))).heap[w3.heap.size]? = some (.cells (logArr L (.slice A3 L.segs.length c3)) 28 (0, 0))) := heap_alloc_new _ _
  have BA : Hid (Below w3.heap.size w3 (w3.alloc (.cells #[.int .i64 L.start, .int .i64 L.next, .int .i64 L.roll, .slice A3 L.segs.length c3] 28 (0, 0)))) := below1 w3 _
  have zA : (w3.alloc (.cells #[.int .i64 L.start, .int .i64 L.next, .int .i64 L.roll, .slice A3 L.segs.length c3] 28 (0, 0))).heap.size = w3.heap.size + 1 := hsz _ _
  have B3A := Seg.hid (chain B3.out BA.out)
  obtain ⟨d0, d1, d2, d3⟩ := four TA.out
  go_wp2_with fail
  clear d0 d1 d2 d3
  refine (toLog_own _ t (w3.alloc _) 0 w.heap.size (HV.out.below B3A.out) (by rw [hsz]; omega) FW.out).mono ?_
  rintro e w4 ⟨sv4, rfl, ow4, b4⟩
  rw [hsz] at ow4 b4
  have W4 := Seg.hid ow4
  have LA4 : Hid (LogAt w4 (w3.heap.size + 1) w4.heap.size (logVal t sv4) t) := ⟨_, rfl, segs_of ow4 (fun x hx => hx)⟩
  have b34 : Hid (Below w3.heap.size w3 w4) := BA.out.trans (b4.mono (by omega))
  have B4 := Seg.hid (chain B3.out b34.out)
  have T4 := Seg.hid ((b34.out.block w.heap.size (by omega)).trans T3.out)
  have WB4 := Seg.hid ((b4.block w3.heap.size (by omega)).trans WA.out)
  have O4 := Seg.hid (O3.out.below b34.out)
  have s4 := b4.size
  rw [hsz] at s4
  obtain ⟨A4, c4, rfl⟩ := LOwn.form ow4
  clear b4 ow4 TA WA BA B3A
  unfold logVal at LA4 ⊢
  go_wp2_with fail
  refine (CI.out _ (w4.alloc _) _ w4.heap.size (LA4.out.below (below1 w4 _)) (by rw [hsz]; omega) FW.out).mono ?_
  rintro e w5 ⟨sv5, rfl, o5, b5⟩
  have b45 := Seg.hid (chain (below1 w4 _) b5)
  have XB5 : Hid (w5.heap[w4.heap.size]? = some (.cells (logArr t (.slice A4 t.segs.length c4)) 28 (0, 0))) := (b5.block w4.heap.size (by rw [hsz]; omega)).trans (heap_alloc_new _ _)
  have s5 := b5.size
  rw [hsz] at o5 s5
  have O5 := Seg.hid o5
  have B5 := Seg.hid (chain B4.out b45.out)
  have T5 := Seg.hid ((b45.out.block w.heap.size (by omega)).trans T4.out)
  have WB5 := Seg.hid ((b45.out.block w3.heap.size (by omega)).trans WB4.out)
  have P5 := Seg.hid (O4.out.keep (w' := w5) (fun g h1 h2 => b45.out.block g (by omega)))
  have R5 := Seg.hid (LA4.out.below b45.out)
  have W5 : Hid (OwnS w5 (seg (w3.heap.size + 1) w4.heap.size) (.slice A4 t.segs.length c4) t.segs) := LOwn.keep keepsS W4.out b45.out.size (fun g hg => b45.out.block g hg.2)
  obtain ⟨A5, c5, rfl⟩ := LOwn.form o5
  clear b5 o5
  have ST5 : Hid (St w w2 w3 w4 w5 t L (.slice A t.segs.length c) (.slice A3 L.segs.length c3) (.slice A4 t.segs.length c4) (.slice A5 L.segs.length c5) L.segs (w5.alloc (.cells #[.int .i64 L.start, .int .i64 L.next, .int .i64 L.roll, .slice A5 L.segs.length c5] 28 (0, 0)))) := by
    have hk : Below w5.heap.size w5 (w5.alloc (.cells #[.int .i64 L.start, .int .i64 L.next, .int .i64 L.roll, .slice A5 L.segs.length c5] 28 (0, 0))) := below1 w5 _
    exact ⟨(hk.block _ (by omega)).trans T5.out, (hk.block _ (by omega)).trans WB5.out, (hk.block _ (by omega)).trans XB5.out, heap_alloc_new _ _, P5.out.keep fun g h1 h2 => hk.block g (by omega), LOwn.keep keepsS O5.out hk.size (fun g hg => hk.block g hg.2), chain B5.out hk, by rw [hsz]; omega, by omega, by omega, by omega, by omega⟩
  have W5a : Hid (OwnS (w5.alloc (.cells #[.int .i64 L.start, .int .i64 L.next, .int .i64 L.roll, .slice A5 L.segs.length c5] 28 (0, 0))) (seg (w3.heap.size + 1) w4.heap.size) (.slice A4 t.segs.length c4) t.segs) := LOwn.keep keepsS W5.out (below1 w5 _).size (fun g hg => (below1 w5 _).block g (by have := hg.2; omega))
  have hne : (bo != bo) = false := by simp
  have RT : Hid (∀ wx, Below w5.heap.size w5 wx → LogAt wx (w3.heap.size + 1) w4.heap.size (logVal t (.slice A4 t.segs.length c4)) t) := fun wx bx => R5.out.below (bx.mono (by omega))
  have BL5 : Hid (Below w5.heap.size w5 (w5.alloc (.cells #[.int .i64 L.start, .int .i64 L.next, .int .i64 L.roll, .slice A5 L.segs.length c5] 28 (0, 0)))) := below1 w5 _
  clear T5 WB5 XB5 P5 O5 B5 W5 W4 WB4 O4 T4 B4 O3 T3 B3 R2 T2 B2 T1 b34 b45 LA4 R5
  unfold logVal
  obtain ⟨d0, d1, d2, d3⟩ := four ST5.out.W
  go_wp2_with fail
  clear d0 d1 d2 d3
  refine (ST5.out.eq).mono ?_
  rintro e w6 ⟨rfl, b6⟩
  have ST6 := Seg.hid (ST5.out.below b6)
  have W6 : Hid (OwnS w6 (seg (w3.heap.size + 1) w4.heap.size) (.slice A4 t.segs.length c4) t.segs) := LOwn.keep keepsS W5a.out b6.size (fun g hg => b6.block g (by have := hg.2; rw [hsz]; omega))
  have BL6 : Hid (Below w5.heap.size w5 w6) := BL5.out.trans (b6.mono (by rw [hsz]; omega))
  clear b6 ST5 W5a BL5
  go_wp2_with fail
  obtain ⟨c0, c1, c2, c3'⟩ := four ST6.out.X
  obtain ⟨d0, d1, d2, d3⟩ := four ST6.out.T
  have s6 := ST6.out.S
  have ord := ST6.out.ord
  go_region_with (first | (go_at_call 7; refine (LogW.toLog_any _ t w6.drew 0 w.heap.size (HV.out.below ST6.out.B.drew) (by show _ ≤ w6.heap.size; omega) FW.out).mono ?_; rintro e w7 ⟨v7, rfl, r7, b7⟩; have R7 := Seg.hid (r7.mono (Nat.zero_le _) (Nat.le_refl _)); have BD7 : Hid (Below w6.heap.size w6 w7) := ⟨b7.os, b7.tape, b7.output, b7.size, b7.block⟩; have X7 : Hid (LogAt w7 0 w7.heap.size (.agg (logArr t (.slice A4 t.segs.length c4))) t) := ((RT.out w7 (BL6.out.trans (BD7.out.mono (by omega)))).mono (Nat.zero_le _) (by have := BD7.out.size; omega)); obtain ⟨j0, j1, j2, j3⟩ := four ((b7.block w4.heap.size (by show _ < w6.heap.size; omega)).trans ST6.out.X); clear b7 r7) | (go_at_call 9; refine (LogW.eqLog_any _ _ t w7 _ _ w7.heap.size X7.out R7.out (Nat.le_refl _)).mono ?_; rintro e w8 ⟨rfl, b8⟩; have BD8 : Hid (Below w6.heap.size w6 w8) := chain BD7.out b8; clear b8))
  all_goals
    have ST8 := Seg.hid (ST6.out.below BD8.out)
    have W8 : Hid (OwnS w8 (seg (w3.heap.size + 1) w4.heap.size) (.slice A4 t.segs.length c4) t.segs) := LOwn.keep keepsS W6.out BD8.out.size (fun g hg => BD8.out.block g (by have := hg.2; omega))
    clear c0 c1 c2 c3' d0 d1 d2 d3
    try clear j0 j1 j2 j3
    obtain ⟨c0, c1, c2, c3'⟩ := four ST8.out.X
    go_wp2_with fail
    clear c0 c1 c2 c3'
    refine (markLog_own t (.slice A4 t.segs.length c4) 1 (seg (w3.heap.size + 1) w4.heap.size) w8 (by decide) (log_few FW.out) W8.out (fun x hx => by have := hx.2; have := ST8.out.S; omega)).mono ?_
    rintro e w9 ⟨rfl, hM, hW⟩
    clear hM
    have ST9 := Seg.hid (ST8.out.foot hW)
    obtain ⟨K, hK⟩ : ∃ K, 1 + nL nS1 t.segs = K := ⟨_, rfl⟩
    rw [hK]
    clear hK hW W8 ST8 W6 ST6 BD8 BD7 X7 R7
    have hK0 : (0 : Int) ≤ (K : Int) := by omega
    have hkd : decide ((K : Int) < 0) = false := decide_eq_false (by omega)
    obtain ⟨c0, c1, c2, c3'⟩ := four ST9.out.G
    obtain ⟨d0, d1, d2, d3⟩ := four ST9.out.W
    go_wp2_with fail
    clear c0 c1 c2 c3' d0 d1 d2 d3
    refine (ST9.out.eq).mono ?_
    rintro e w10 ⟨rfl, b10⟩
    have ST10 := Seg.hid (ST9.out.below b10)
    clear b10 ST9
    obtain ⟨c0, c1, c2, c3'⟩ := four ST10.out.G
    go_wp2_with fail
    clear c0 c1 c2 c3'
    refine (markLog_own L (.slice A5 L.segs.length c5) 1 (seg (w4.heap.size + 1) w5.heap.size) w10 (by decide) MB.out ST10.out.O (fun x hx => by have := hx.2; have := ST10.out.S; omega)).mono ?_
    rintro e w11 ⟨rfl, hM, hW⟩
    have ST11 := Seg.hid (ST10.out.mark hW hM)
    clear hM hW ST10
    obtain ⟨M, hM⟩ : ∃ M, 1 + nL nS1 L.segs = M := ⟨_, rfl⟩
    have HMM := Seg.hid hM
    rw [hM]
    clear hM
    obtain ⟨c0, c1, c2, c3'⟩ := four ST11.out.G
    go_wp2_with fail
    clear c0 c1 c2 c3'
    refine (heldLog_own L (.slice A5 L.segs.length c5) 1 (seg (w4.heap.size + 1) w5.heap.size) L.segs w11 (by decide) MB.out ST11.out.O (fun x hx => by have := hx.2; have := ST11.out.S; omega)).mono ?_
    rintro e w12 ⟨rfl, b12⟩
    have ST12 := Seg.hid (ST11.out.below b12)
    clear b12 ST11
    rw [HMM.out]
    have hM0 : ¬ (M : Int) < 0 := by omega
    have hM1 : ((M : Int) != (M : Int)) = false := by simp
    obtain ⟨d0, d1, d2, d3⟩ := four ST12.out.T
    go_wp2_with fail
    clear d0 d1 d2 d3
    refine (LogW.toLog_any _ t w12 0 w.heap.size (HV.out.below ST12.out.B) (by have := ST12.out.S; omega) FW.out).mono ?_
    rintro e w13 ⟨v13, rfl, r13, b13⟩
    have R13 := Seg.hid r13
    have ST13 := Seg.hid (ST12.out.below b13)
    clear r13 b13 ST12
    go_wp2_with fail
    refine (CI.out _ w13 _ _ R13.out (Nat.le_refl _) FW.out).mono ?_
    rintro e w14 ⟨sv14, rfl, o14, b14⟩
    have O14 := Seg.hid o14
    have ST14 := Seg.hid (ST13.out.below b14)
    obtain ⟨A14, c14, rfl⟩ := LOwn.form o14
    have ST15 : Hid (St w w2 w3 w4 w5 t L (.slice A t.segs.length c) (.slice A3 L.segs.length c3) (.slice A4 t.segs.length c4) (.slice A5 L.segs.length c5) (mL mS1 nS1 1 L.segs) (w14.alloc (.cells #[.int .i64 L.start, .int .i64 L.next, .int .i64 L.roll, .slice A14 L.segs.length c14] 28 (0, 0)))) := ST14.out.below (below1 w14 _)
    have EQ15 : Hid (Calls Try.prog 9 #[logVal L (.slice A14 L.segs.length c14), logVal L (.slice A3 L.segs.length c3)] (w14.alloc (.cells #[.int .i64 L.start, .int .i64 L.next, .int .i64 L.roll, .slice A14 L.segs.length c14] 28 (0, 0))) fun e w' => e = .returned (.bool true) ∧ Below (w14.alloc (.cells #[.int .i64 L.start, .int .i64 L.next, .int .i64 L.roll, .slice A14 L.segs.length c14] 28 (0, 0))).heap.size (w14.alloc (.cells #[.int .i64 L.start, .int .i64 L.next, .int .i64 L.roll, .slice A14 L.segs.length c14] 28 (0, 0))) w') :=
      LogW.eqLog_any _ _ L _ 0 0 _ ⟨_, rfl, (((segs_of o14 (fun x hx => hx)).below (below1 w14 _)).mono (Nat.zero_le _) (by rw [hsz]; omega))⟩ ST15.out.logW (Nat.le_refl _)
    clear o14 b14 ST13
    unfold logVal at EQ15 ⊢
    obtain ⟨d0, d1, d2, d3⟩ := four ST15.out.W
    go_wp2_with fail
    clear d0 d1 d2 d3
    refine EQ15.out.mono ?_
    rintro e w16 ⟨rfl, b16⟩
    have ST16 := Seg.hid (ST15.out.below b16)
    clear b16 ST15 ST14 EQ15
    obtain ⟨c0, c1, c2, c3'⟩ := four ST16.out.G
    go_wp2_with fail
    clear c0 c1 c2 c3'
    refine (heldLog_own L (.slice A5 L.segs.length c5) 1 (seg (w4.heap.size + 1) w5.heap.size) L.segs w16 (by decide) MB.out ST16.out.O (fun x hx => by have := hx.2; have := ST16.out.S; omega)).mono ?_
    rintro e w17 ⟨rfl, b17⟩
    have ST17 := Seg.hid (ST16.out.below b17)
    clear b17 ST16
    rw [HMM.out]
    go_wp2_with fail
    go_ret
    exact ⟨rfl, ST17.out.B⟩
end Go.Proofs.Yticihnoekffelaa.ExCt
namespace Go.Proofs.Yticihnoekffelaa.OpenR
set_option maxRecDepth 8000
open Go.ChangeShapes Go.WideShapes Go.ChangeAt Go.RowKit Go.Deep
open Recs
set_option linter.unusedVariables false
section
variable {H : Type} {enc : TypeId × Value → H} {W : World} {sp : Nat → Bool} {held : Bool}
theorem cellsH : Try.prog.cellsOf 135 = 2 := by kernel_rfl
theorem cellsS : Try.prog.cellsOf 9 = 1 := by kernel_rfl

theorem open_heads {fuel : Nat} {cs : List Value} {x : DataW H × List MemPlace} (h : DataW.trod enc Try.prog W 0 sp held fuel 128 cs = some x) :
    ∃ (u : Value) (hs : List Hd), cs = [u] ∧ Heads W 0 W.heap.size u hs ∧ hs.length ≤ maxLen ∧ ∀ i, i < hs.length → FineH (hs.getD i default) := by
  rcases open_slice_pairs Try.underlying128 Try.underlying135 cellsH rfl rfl cellsS cellsS h with ⟨rfl, _⟩ | ⟨a, len, cap, m, n, V0, V1, D0, D1, P0, P1, rfl, _, hl, hm, hmm, _, hx⟩
  · exact ⟨_, [], rfl, ⟨by simp, none, 0, rfl, .inl rfl⟩, by simp, fun i hi => by simp at hi⟩
  have hlm : len ≤ m := by rw [hmm]; split <;> omega
  obtain ⟨f, hf⟩ := choose_lt (α := Hd) (n := len) (p := fun i q => V0 i = .string q.key ∧ V1 i = .string q.val ∧ q.key.size ≤ maxLen ∧ q.val.size ≤ maxLen) (fun i hi => by
    obtain ⟨_, _, t0, t1⟩ := hx i (by omega)
    obtain ⟨s0, e0, _, z0⟩ := DataW.trod_string Try.underlying9 t0
    obtain ⟨s1, e1, _, z1⟩ := DataW.trod_string Try.underlying9 t1
    exact ⟨⟨s0, s1⟩, by simpa using e0, by simpa using e1, z0, z1⟩)
  have hlen : ((List.range len).map f).length = len := by simp
  have hget : ∀ i, i < len → ((List.range len).map f).getD i default = f i := fun i hi => by simp [hi]
  refine ⟨_, (List.range len).map f, rfl, ⟨?_, some a, cap, by rw [hlen], ?_⟩, ?_, ?_⟩
  · rw [hlen]; unfold maxLen at hm; omega
  · by_cases hz : len = 0
    · left; rw [hlen]; exact hz
    · right
      obtain ⟨b, off, spot⟩ := a
      have hc := (hx 0 (by omega)).1
      have hspot : spot = none := by simpa [Addr.add] using World.cell?_spot hc
      subst hspot
      have hlt : b < W.heap.size := by have := World.block_lt_of_cell? W _ hc; simpa [Addr.add] using this
      refine ⟨b, off, rfl, hlt, by rw [hlen]; exact hl, ?_, Nat.zero_le _⟩
      rw [hlen]
      intro i hi j hj
      obtain ⟨c0, c1, _, _⟩ := hx i (by omega)
      obtain ⟨e0, e1, _, _⟩ := hf i hi
      rw [e0] at c0; rw [e1] at c1
      match j, hj with
      | 0, _ =>
        rw [show (⟨b, off, none⟩ : Addr).add (i * 2) = ⟨b, off + i * 2 + 0, none⟩ by simp [Addr.add]; try (intro h; omega)] at c0
        rw [c0]; simp [hdCells, hi]
      | 1, _ =>
        rw [show (⟨b, off, none⟩ : Addr).add (i * 2 + 1) = ⟨b, off + i * 2 + 1, none⟩ by simp [Addr.add]; try omega] at c1
        rw [c1]; simp [hdCells, hi]
  · rw [hlen]; omega
  · rw [hlen]
    intro i hi
    rw [hget i hi]
    exact ⟨(hf i hi).2.2.1, (hf i hi).2.2.2⟩
theorem array6 {cs : Array Value} (h : cs.size = 6) : ∃ a b c d e f, cs = #[a, b, c, d, e, f] := by
  obtain ⟨l⟩ := cs
  match l, h with
  | [a, b, c, d, e, f], _ => exact ⟨a, b, c, d, e, f, rfl⟩
theorem cellsI : Try.prog.cellsOf 3 = 1 := by kernel_rfl
theorem cellsB : Try.prog.cellsOf 4 = 1 := by kernel_rfl
theorem cellsHS : Try.prog.cellsOf 128 = 1 := by kernel_rfl
theorem cellsR : Try.prog.cellsOf 130 = 6 := by kernel_rfl

/-- A Record's six cells. -/
theorem open_rec_cells {fuel : Nat} {cs : List Value} {x : DataW H × List MemPlace} (h : DataW.trod enc Try.prog W 0 sp held fuel 130 cs = some x) :
    ∃ (r : Rec) (u : Value), cs = [.int .i64 r.time, .bool r.keyed, .string r.key, .bool r.gone, .string r.val, u] ∧ Heads W 0 W.heap.size u r.heads ∧ FineR r := by
  obtain ⟨xs, n, _, _, hl, hxl, hf⟩ := DataW.trod_struct Try.underlying130 h
  rw [cellsR] at hl
  match cs, hl with
  | [v0, v1, v2, v3, v4, v5], _ =>
  match xs, hxl with
  | [y0, y1, y2, y3, y4, y5], _ =>
    have g0 : DataW.trod enc Try.prog W 0 sp held n 3 [v0] = some y0 := by have := hf 0 _ rfl; simpa [cellsI] using this
    have g1 : DataW.trod enc Try.prog W 0 sp held n 4 [v1] = some y1 := by have := hf 1 _ rfl; simpa [cellsB] using this
    have g2 : DataW.trod enc Try.prog W 0 sp held n 9 [v2] = some y2 := by have := hf 2 _ rfl; simpa [cellsS] using this
    have g3 : DataW.trod enc Try.prog W 0 sp held n 4 [v3] = some y3 := by have := hf 3 _ rfl; simpa [cellsB] using this
    have g4 : DataW.trod enc Try.prog W 0 sp held n 9 [v4] = some y4 := by have := hf 4 _ rfl; simpa [cellsS] using this
    have g5 : DataW.trod enc Try.prog W 0 sp held n 128 [v5] = some y5 := by have := hf 5 _ rfl; simpa [cellsHS] using this
    obtain ⟨t, e0, _, _⟩ := DataW.trod_int Try.underlying3 g0
    obtain ⟨kd, e1, _⟩ := DataW.trod_bool Try.underlying4 g1
    obtain ⟨k, e2, _, z2⟩ := DataW.trod_string Try.underlying9 g2
    obtain ⟨gn, e3, _⟩ := DataW.trod_bool Try.underlying4 g3
    obtain ⟨v, e4, _, z4⟩ := DataW.trod_string Try.underlying9 g4
    obtain ⟨u, hs, e5, hh, hl5, hf5⟩ := open_heads g5
    simp only [List.cons.injEq, and_true] at e0 e1 e2 e3 e4 e5
    subst e0 e1 e2 e3 e4 e5
    exact ⟨⟨t, kd, k, gn, v, hs⟩, _, rfl, hh, z2, z4, hl5, hf5⟩

theorem open_rec {r0 : Reach} {b0 : Nat} {v : Value} {d : DataW H} {p : List MemPlace} (hv : Value.okWide Try.prog W r0 b0 130 v) (h : DataW.Trod enc Try.prog W 0 sp held 130 v d p) : ∃ r, RecAt W 0 W.heap.size v r ∧ FineR r := by
  obtain ⟨cs, rfl, hsz⟩ := okWide_struct Try.underlying130 hv
  rw [cellsR] at hsz
  obtain ⟨a, b, c, d, e, f, rfl⟩ := array6 hsz
  obtain ⟨fuel, hf⟩ := h
  obtain ⟨r, u, e0, hh, hfi⟩ := open_rec_cells hf
  simp only [Value.cells, List.cons.injEq, and_true] at e0
  obtain ⟨rfl, rfl, rfl, rfl, rfl, rfl⟩ := e0
  exact ⟨r, ⟨_, rfl, hh⟩, hfi⟩
end
end Go.Proofs.Yticihnoekffelaa.OpenR
