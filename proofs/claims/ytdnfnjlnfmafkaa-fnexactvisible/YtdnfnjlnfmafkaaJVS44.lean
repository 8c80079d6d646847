/- The walk of the law on Visible out of the contracts. -/
import Derived.Test.YtdnfnjlnfmafkaaJVS34
import Derived.Test.YtdnfnjlnfmafkaaJVS40
import Derived.Test.YtdnfnjlnfmafkaaJVS42
import Derived.Test.YtdnfnjlnfmafkaaJVS43
namespace Go.Proofs.Ytdnfnjlnfmafkaa.ExVs
set_option maxRecDepth 8000
open Go.RowKit
open Recs (hsz below1 below2 chain chainD Bat)
open Bats SegW Segs LogW Ft BfP VsP
open Of (four ok_all flat_count)
open LgP (logOk)
set_option linter.unusedVariables false
theorem info35 : (Try.prog.info? 24).map (·.size) = some 4 := by kernel_rfl
theorem tot_filter {T : Type} (n : T → Nat) (f : T → Bool) : ∀ us : List T, Ls.tot n (us.filter f) ≤ Ls.tot n us
  | [] => Nat.le_refl _
  | u :: r => by
    have := tot_filter n f r
    by_cases h : f u = true
    · rw [List.filter_cons_of_pos h]; simp only [Ls.tot]; omega
    · rw [List.filter_cons_of_neg h]; simp only [Ls.tot]; omega
theorem tot_flat {T U : Type} (n : U → Nat) (g : T → List U) (c : Nat) : ∀ us : List T, (∀ u ∈ us, Ls.tot n (g u) ≤ c) → Ls.tot n (us.flatMap g) ≤ c * us.length
  | [], _ => Nat.zero_le _
  | u :: r, h => by
    have h1 := h u (by simp)
    have h2 := tot_flat n g c r (fun x hx => h x (by simp [hx]))
    rw [List.flatMap_cons, Ls.tot_app, List.length_cons, Nat.mul_succ]
    omega
theorem tot_rds : ∀ (off : Int) (rs : List Recs.Rec), (∀ r ∈ rs, r.heads.length ≤ 3) → Ls.tot Ow.nRed (rds off rs) ≤ 12 * rs.length
  | _, [], _ => Nat.zero_le _
  | off, r :: t, h => by
    have h1 := h r (by simp)
    have h2 := tot_rds (off + 1) t (fun x hx => h x (by simp [hx]))
    have h3 : Ls.tot Ow.nHd r.heads ≤ 2 * r.heads.length := by
      generalize r.heads = hs
      induction hs with
      | nil => exact Nat.zero_le _
      | cons u q ih => simp only [Ls.tot, List.length_cons, Ow.nHd] at ih ⊢; omega
    simp only [rds, Ls.tot, List.length_cons, Ow.nRed, red]
    omega
theorem vis_bound (l : Lg) (x : Int) (s : Bool) : Ls.tot Ow.nRed (visible l x s).1 ≤ 192000 := by
  unfold visible
  split
  · rename_i hh
    have hok : logOk l = true := (Bool.and_eq_true_iff.1 hh).1
    obtain ⟨f, k1, k2, k3, k4, k5, k6, k7⟩ := ok_all hok
    have FL : (flatB l.segs).length ≤ 400 := by rw [flat_count]; exact k7
    have h1 := tot_flat Ow.nRed (pick x (endV l s) (gonV l s)) 480 (flatB l.segs) (fun b hb => by
      have hb' := Of.okB_flat k1 b hb
      have ol := (LgP.okLen hb').2.2.2
      unfold pick
      split
      · have h2 := tot_filter Ow.nRed (inB x (endV l s)) (rds b.base b.recs)
        have h3 := tot_rds b.base b.recs (fun r hr => by
          simp only [BOk.batOk, Bool.and_eq_true, List.all_eq_true] at hb'
          have h8 := hb'.1.2 r hr
          simp only [ROk.okR, ROk.okR0, Bool.and_eq_true, decide_eq_true_eq] at h8
          omega)
        omega
      · exact Nat.zero_le _)
    show Ls.tot Ow.nRed (visM x (endV l s) (gonV l s) (flatB l.segs)) ≤ _
    unfold visM
    omega
  · exact Nat.zero_le _
/-- What stands through the law: the argument, the model's answer, the copy, the program's answer (its list holds Lc). -/
structure St (w w2 w3 w4 w5 : World) (t : Lg) (us : List Ls.Red) (v v3 v4 v5 : Value) (Lc : List Ls.Red) (wx : World) : Prop where
  T : wx.heap[w.heap.size]? = some (.cells (logArr t v) 24 (0, 0))
  X : wx.heap[w4.heap.size]? = some (.cells (logArr t v4) 31 (0, 0))
  P : Ow.RedsOwn wx (Ls.seg w2.heap.size w3.heap.size) v3 us
  O : Ow.RedsOwn wx (Ls.seg (w4.heap.size + 1) w5.heap.size) v5 Lc
  B : Below w.heap.size w wx
  S : w5.heap.size ≤ wx.heap.size
  ord : w.heap.size < w2.heap.size ∧ w2.heap.size ≤ w3.heap.size ∧ w3.heap.size ≤ w4.heap.size ∧ w4.heap.size < w5.heap.size
section
variable {w w2 w3 w4 w5 : World} {t : Lg} {us : List Ls.Red} {v v3 v4 v5 : Value} {Lc : List Ls.Red} {wx wy : World}
theorem St.below (h : St w w2 w3 w4 w5 t us v v3 v4 v5 Lc wx) (b : Below wx.heap.size wx wy) : St w w2 w3 w4 w5 t us v v3 v4 v5 Lc wy := by
  have s := h.S
  obtain ⟨o1, o2, o3, o4⟩ := h.ord
  exact ⟨(b.block _ (by omega)).trans h.T, (b.block _ (by omega)).trans h.X, Ow.LOwn.keep Ow.keepsORed h.P b.size (fun g hg => b.block g (by have := hg.2; omega)), Ow.LOwn.keep Ow.keepsORed h.O b.size (fun g hg => b.block g (by have := hg.2; omega)), chain h.B b, Nat.le_trans s b.size, h.ord⟩
theorem St.foot (h : St w w2 w3 w4 w5 t us v v3 v4 v5 Lc wx) (f : Foot wx wy (seg w3.heap.size w4.heap.size)) : St w w2 w3 w4 w5 t us v v3 v4 v5 Lc wy := by
  have s := h.S
  obtain ⟨o1, o2, o3, o4⟩ := h.ord
  have k : ∀ x, x < wx.heap.size → ¬ (w3.heap.size ≤ x ∧ x < w4.heap.size) → wy.heap[x]? = wx.heap[x]? := fun x hx hn => f.block x hx hn
  exact ⟨(k _ (by omega) (by omega)).trans h.T, (k _ (by omega) (by omega)).trans h.X, Ow.LOwn.keep Ow.keepsORed h.P f.size (fun g hg => k g (by have := hg.2; omega) (by have := hg.1; have := hg.2; omega)), Ow.LOwn.keep Ow.keepsORed h.O f.size (fun g hg => k g (by have := hg.2; omega) (by have := hg.1; omega)), h.B.trans ((f.toBelow (lo := w.heap.size) (fun y hy => by have := hy.1; omega) (by omega))), Nat.le_trans s f.size, h.ord⟩
theorem St.mark {Ld : List Ls.Red} (h : St w w2 w3 w4 w5 t us v v3 v4 v5 Lc wx) (f : Ow.Foot wx wy (Ls.seg (w4.heap.size + 1) w5.heap.size)) (ho : Ow.RedsOwn wy (Ls.seg (w4.heap.size + 1) w5.heap.size) v5 Ld) : St w w2 w3 w4 w5 t us v v3 v4 v5 Ld wy := by
  have s := h.S
  obtain ⟨o1, o2, o3, o4⟩ := h.ord
  have k : ∀ x, x < wx.heap.size → ¬ (w4.heap.size + 1 ≤ x ∧ x < w5.heap.size) → wy.heap[x]? = wx.heap[x]? := fun x hx hn => f.block x hx hn
  exact ⟨(k _ (by omega) (by omega)).trans h.T, (k _ (by omega) (by omega)).trans h.X, Ow.LOwn.keep Ow.keepsORed h.P f.size (fun g hg => k g (by have := hg.2; omega) (by have := hg.1; have := hg.2; omega)), ho, h.B.trans ((f.toBelow (lo := w.heap.size) (fun y hy => by have := hy.1; omega) (by omega))), Nat.le_trans s f.size, h.ord⟩
theorem St.eq (h : St w w2 w3 w4 w5 t us v v3 v4 v5 us wx) : Calls Try.prog 8 #[v5, v3] wx fun e w' => e = .returned (.bool true) ∧ Below wx.heap.size wx w' :=
  Ls.eqReadS_any _ _ us wx _ _ (Ow.LOwn.lat Ls.growsRed Ow.atORed h.O) (Ow.LOwn.lat Ls.growsRed Ow.atORed h.P) (fun g hg => by have := hg.2; have := h.S; omega) (fun g hg => by have := hg.2; have := h.S; have := h.ord; omega)
end
set_option maxHeartbeats 12800000 in
theorem walk (v : Value) (t : Lg) (x : Int) (y : Bool) (w : World) (hv : LogAt w 0 w.heap.size v t) (hf : FineL t) :
    Calls Try.prog 3 #[v, .int .i64 x, .bool y] w fun e w' => e = .returned (.bool true) ∧ Below w.heap.size w w' := by
  have HV := Seg.hid hv
  obtain ⟨rv, rfl, H, ⟨hn, A, c, rfl, hx1⟩, hx2⟩ := hv
  have HF := Seg.hid hf
  clear hf hx1 hx2
  obtain ⟨us, co, hR⟩ : ∃ us co, visible t x y = (us, co) := ⟨_, _, rfl⟩
  have MB : Hid (1 + Ls.tot Ow.nRed us ≤ 4000000000000000000) := by show _ ≤ _; have := vis_bound t x y; rw [hR] at this; simp only at this; omega
  have CS : Hid (∀ v w lo b, LogAt w lo b v t → b ≤ w.heap.size → FewL t → Calls Try.prog 5 #[v, .int .i64 x, .bool y] w fun e w' => ∃ sv, e = .returned (.tuple #[sv, .int .i64 co]) ∧ Ow.RedsOwn w' (Ls.seg w.heap.size w'.heap.size) sv us ∧ Below w.heap.size w w') := by
    intro v w lo b h1 h2 h3
    have := VsS.visibleS_any v t x y w lo b h1 h2 h3 (fun i hi => (HF.out.2 i hi).2)
    rw [hR] at this; exact this
  have CI : Hid (∀ v w lo b, LogAt w lo b v t → b ≤ w.heap.size → FewL t → Calls Try.prog 7 #[v, .int .i64 x, .bool y] w fun e w' => ∃ sv, e = .returned (.tuple #[sv, .int .i64 co]) ∧ Ow.RedsOwn w' (Ls.seg w.heap.size w'.heap.size) sv us ∧ Below w.heap.size w w') := by
    intro v w lo b h1 h2 h3
    have := VsI.visible_any v t x y w lo b h1 h2 h3
    rw [hR] at this; exact this
  clear hR
  unfold logVal at HV ⊢
  go_enter Try.func3, Try.ntmps3
  go_wp2_with fail
  refine (LogW.szLog_any _ t _ (w.alloc _) 0 w.heap.size (by omega) (by omega) (HV.out.below (below1 w _)) (by rw [hsz]; omega) HF.out).mono ?_
  rintro e w1 ⟨q, rfl, q1, q2, q3, b1⟩
  have B1 := Seg.hid (chain (below1 w _) b1)
  have T1 : Hid (w1.heap[w.heap.size]? = some (.cells (logArr t (.slice A t.segs.length c)) 24 (0, 0))) := (b1.block w.heap.size (by rw [hsz]; omega)).trans (heap_alloc_new _ _)
  clear b1
  by_cases hq : q < 0
  · go_wp2
    go_ret
    exact ⟨rfl, B1.out⟩
  have FW := Seg.hid (q3 (by omega))
  have s1 := B1.out.size
  have z1 : w.heap.size < w1.heap.size := (Array.getElem?_eq_some_iff.1 T1.out).1
  clear q3
  go_wp2_with (refine wpList_load_row rfl 24 _ rfl w.heap.size rfl _ _ _ _ T1.out Try.underlying24 rfl info35 ?_)
  refine (LogW.toLog_any _ t w1 0 w.heap.size (HV.out.below B1.out) s1 FW.out).mono ?_
  rintro e w2 ⟨v2, rfl, r2, b2⟩
  have R2 := Seg.hid r2
  have B2 := Seg.hid (chain B1.out b2)
  have T2 := Seg.hid ((b2.block w.heap.size z1).trans T1.out)
  have s2 := b2.size
  clear r2 b2
  go_wp2_with fail
  refine (CS.out _ w2 _ _ R2.out (Nat.le_refl _) FW.out).mono ?_
  rintro e w3 ⟨sv3, rfl, o3, b3⟩
  have O3 := Seg.hid o3
  have B3 := Seg.hid (chain B2.out b3)
  have T3 := Seg.hid ((b3.block w.heap.size (by omega)).trans T2.out)
  have s3 := b3.size
  obtain ⟨A3, c3, rfl⟩ := Ow.LOwn.form o3
  clear b3 o3
  obtain ⟨d0, d1, d2, d3⟩ := four T3.out
  go_wp2_with fail
  clear d0 d1 d2 d3
  refine (toLog_own _ t w3 0 w.heap.size (HV.out.below B3.out) (by omega) FW.out).mono ?_
  rintro e w4 ⟨sv4, rfl, ow4, b4⟩
  have W4 := Seg.hid ow4
  have LA4 : Hid (LogAt w4 w3.heap.size w4.heap.size (logVal t sv4) t) := ⟨_, rfl, segs_of ow4 (fun x hx => hx)⟩
  have b34 := Seg.hid b4
  have B4 := Seg.hid (chain B3.out b34.out)
  have T4 := Seg.hid ((b34.out.block w.heap.size (by omega)).trans T3.out)
  have O4 := Seg.hid (Ow.LOwn.keep Ow.keepsORed O3.out b34.out.size (fun g hg => b34.out.block g (by have := hg.2; omega)))
  have s4 := b4.size
  obtain ⟨A4, c4, rfl⟩ := LOwn.form ow4
  clear b4 ow4
  unfold logVal at LA4 ⊢
  go_wp2_with fail
  refine (CI.out _ (w4.alloc _) _ w4.heap.size (LA4.out.below (below1 w4 _)) (by rw [hsz]; omega) FW.out).mono ?_
  rintro e w5 ⟨sv5, rfl, o5, b5⟩
  have b45 := Seg.hid (chain (below1 w4 _) b5)
  have XB5 : Hid (w5.heap[w4.heap.size]? = some (.cells (logArr t (.slice A4 t.segs.length c4)) 31 (0, 0))) := (b5.block w4.heap.size (by rw [hsz]; omega)).trans (heap_alloc_new _ _)
  have s5 := b5.size
  rw [hsz] at o5 s5
  have O5 := Seg.hid o5
  have B5 := Seg.hid (chain B4.out b45.out)
  have T5 := Seg.hid ((b45.out.block w.heap.size (by omega)).trans T4.out)
  have P5 := Seg.hid (Ow.LOwn.keep Ow.keepsORed O4.out b45.out.size (fun g hg => b45.out.block g (by have := hg.2; omega)))
  have R5 := Seg.hid (LA4.out.below b45.out)
  have W5 : Hid (OwnS w5 (seg w3.heap.size w4.heap.size) (.slice A4 t.segs.length c4) t.segs) := LOwn.keep keepsS W4.out b45.out.size (fun g hg => b45.out.block g hg.2)
  obtain ⟨A5, c5, rfl⟩ := Ow.LOwn.form o5
  clear b5 o5
  have ST5 : Hid (St w w2 w3 w4 w5 t us (.slice A t.segs.length c) (.slice A3 us.length c3) (.slice A4 t.segs.length c4) (.slice A5 us.length c5) us w5) := ⟨T5.out, XB5.out, P5.out, O5.out, B5.out, Nat.le_refl _, by omega, by omega, by omega, by omega⟩
  have hne : (co != co) = false := by simp
  have RT : Hid (∀ wx, Below w5.heap.size w5 wx → LogAt wx w3.heap.size w4.heap.size (logVal t (.slice A4 t.segs.length c4)) t) := fun wx bx => R5.out.below (bx.mono (by omega))
  clear T5 XB5 P5 O5 B5 W4 O4 T4 B4 O3 T3 B3 R2 T2 B2 T1 b34 b45 LA4 R5
  go_wp2_with fail
  refine (ST5.out.eq).mono ?_
  rintro e w6 ⟨rfl, b6⟩
  have ST6 := Seg.hid (ST5.out.below b6)
  have W6 : Hid (OwnS w6 (seg w3.heap.size w4.heap.size) (.slice A4 t.segs.length c4) t.segs) := LOwn.keep keepsS W5.out b6.size (fun g hg => b6.block g (by have := hg.2; omega))
  have BL6 : Hid (Below w5.heap.size w5 w6) := b6
  clear b6 ST5 W5
  go_wp2_with fail
  obtain ⟨c0, c1, c2, c3'⟩ := four ST6.out.X
  obtain ⟨d0, d1, d2, d3⟩ := four ST6.out.T
  have s6 := ST6.out.S
  have ord := ST6.out.ord
  go_region_with (first | (go_at_call 6; refine (LogW.toLog_any _ t w6.drew 0 w.heap.size (HV.out.below ST6.out.B.drew) (by show _ ≤ w6.heap.size; omega) FW.out).mono ?_; rintro e w7 ⟨v7, rfl, r7, b7⟩; have R7 := Seg.hid (r7.mono (Nat.zero_le _) (Nat.le_refl _)); have BD7 : Hid (Below w6.heap.size w6 w7) := ⟨b7.os, b7.tape, b7.output, b7.size, b7.block⟩; have X7 : Hid (LogAt w7 0 w7.heap.size (.agg (logArr t (.slice A4 t.segs.length c4))) t) := ((RT.out w7 (BL6.out.trans (BD7.out.mono (by omega)))).mono (Nat.zero_le _) (by have := BD7.out.size; omega)); obtain ⟨j0, j1, j2, j3⟩ := four ((b7.block w4.heap.size (by show _ < w6.heap.size; omega)).trans ST6.out.X); clear b7 r7) | (go_at_call 9; refine (LogW.eqLog_any _ _ t w7 _ _ w7.heap.size X7.out R7.out (Nat.le_refl _)).mono ?_; rintro e w8 ⟨rfl, b8⟩; have BD8 : Hid (Below w6.heap.size w6 w8) := chain BD7.out b8; clear b8))
  all_goals
    have ST8 := Seg.hid (ST6.out.below BD8.out)
    have W8 : Hid (OwnS w8 (seg w3.heap.size w4.heap.size) (.slice A4 t.segs.length c4) t.segs) := LOwn.keep keepsS W6.out BD8.out.size (fun g hg => BD8.out.block g (by have := hg.2; omega))
    clear c0 c1 c2 c3' d0 d1 d2 d3
    try clear j0 j1 j2 j3
    obtain ⟨c0, c1, c2, c3'⟩ := four ST8.out.X
    go_wp2_with fail
    clear c0 c1 c2 c3'
    refine (markLog_own t (.slice A4 t.segs.length c4) 1 (seg w3.heap.size w4.heap.size) w8 (by decide) (log_few FW.out) W8.out (fun x hx => by have := hx.2; have := ST8.out.S; omega)).mono ?_
    rintro e w9 ⟨rfl, hM, hW⟩
    clear hM
    have ST9 := Seg.hid (ST8.out.foot hW)
    obtain ⟨K, hK⟩ : ∃ K, 1 + nL nS1 t.segs = K := ⟨_, rfl⟩
    rw [hK]
    clear hK hW W8 ST8 W6 ST6 BD8 BD7 X7 R7
    have hK0 : (0 : Int) ≤ (K : Int) := by omega
    have hkd : decide ((K : Int) < 0) = false := decide_eq_false (by omega)
    go_wp2_with fail
    refine (ST9.out.eq).mono ?_
    rintro e w10 ⟨rfl, b10⟩
    have ST10 := Seg.hid (ST9.out.below b10)
    clear b10 ST9
    go_wp2_with fail
    refine (Ow.markReadS_own _ 1 rfl (Ls.seg (w4.heap.size + 1) w5.heap.size) us w10 (by decide) MB.out ST10.out.O).mono ?_
    rintro e w11 ⟨rfl, hM, hW⟩
    have ST11 := Seg.hid (ST10.out.mark hW hM)
    clear hM hW ST10
    obtain ⟨M, hM⟩ : ∃ M, 1 + Ls.tot Ow.nRed us = M := ⟨_, rfl⟩
    have HMM := Seg.hid hM
    rw [hM]
    clear hM
    go_wp2_with fail
    refine (Ow.heldReadS_at _ 1 rfl (Ls.seg (w4.heap.size + 1) w5.heap.size) us w11 (by decide) MB.out (fun g hg => by have := hg.2; have := ST11.out.S; omega) (Ow.LOwn.lat Ls.growsRed Ow.atORed ST11.out.O)).mono ?_
    rintro e w12 ⟨rfl, b12⟩
    have ST12 := Seg.hid (ST11.out.below b12)
    clear b12 ST11
    rw [HMM.out]
    have hM0 : ¬ (M : Int) < 0 := by omega
    have hM1 : ((M : Int) != (M : Int)) = false := by simp
    obtain ⟨d0, d1, d2, d3⟩ := four ST12.out.T
    go_wp2_with fail
    clear d0 d1 d2 d3
    refine (LogW.toLog_any _ t w12 0 w.heap.size (HV.out.below ST12.out.B) (by have := ST12.out.S; omega) FW.out).mono ?_
    rintro e w13 ⟨v13, rfl, r13, b13⟩
    have R13 := Seg.hid r13
    have ST13 := Seg.hid (ST12.out.below b13)
    clear r13 b13 ST12
    go_wp2_with fail
    refine (CI.out _ w13 _ _ R13.out (Nat.le_refl _) FW.out).mono ?_
    rintro e w14 ⟨sv14, rfl, o14, b14⟩
    have ST14 := Seg.hid (ST13.out.below b14)
    obtain ⟨A14, c14, rfl⟩ := Ow.LOwn.form o14
    have EQ14 : Hid (Calls Try.prog 8 #[.slice A14 us.length c14, .slice A3 us.length c3] w14 fun e w' => e = .returned (.bool true) ∧ Below w14.heap.size w14 w') :=
      Ls.eqReadS_any _ _ us w14 _ _ (Ow.LOwn.lat Ls.growsRed Ow.atORed o14) (Ow.LOwn.lat Ls.growsRed Ow.atORed ST14.out.P) (fun g hg => hg.2) (fun g hg => by have := hg.2; have := ST14.out.S; have := ST14.out.ord; omega)
    clear o14 b14 ST13
    go_wp2_with fail
    refine EQ14.out.mono ?_
    rintro e w16 ⟨rfl, b16⟩
    have ST16 := Seg.hid (ST14.out.below b16)
    clear b16 ST14 EQ14
    go_wp2_with fail
    refine (Ow.heldReadS_at _ 1 rfl (Ls.seg (w4.heap.size + 1) w5.heap.size) us w16 (by decide) MB.out (fun g hg => by have := hg.2; have := ST16.out.S; omega) (Ow.LOwn.lat Ls.growsRed Ow.atORed ST16.out.O)).mono ?_
    rintro e w17 ⟨rfl, b17⟩
    have ST17 := Seg.hid (ST16.out.below b17)
    clear b17 ST16
    rw [HMM.out]
    go_wp2_with fail
    go_ret
    exact ⟨rfl, ST17.out.B⟩
end Go.Proofs.Ytdnfnjlnfmafkaa.ExVs
