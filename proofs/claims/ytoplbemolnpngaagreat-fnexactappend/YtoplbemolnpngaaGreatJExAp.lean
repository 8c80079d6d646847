/- The walk of the law on Append out of the contracts. -/
import Derived.Test.YtoplbemolnpngaaGreatJApI
import Derived.Test.YtoplbemolnpngaaGreatJApS
import Derived.Test.YtoplbemolnpngaaGreatJMkO
import Derived.Test.YtoplbemolnpngaaGreatJP48
import Derived.Test.YtoplbemolnpngaaGreatJP47
import Derived.Deep.RegionHeld3
import Derived.Deep.Cut
namespace Go.Proofs.YtoplbemolnpngaaGreat.ExAp
set_option maxRecDepth 8000
open Go.RowKit
open Recs (hsz below1 below2 chain chainD Bat Rec RecsAt BatAt batVal FewB)
open Bats SegW Segs LogW Ft
open ApP JoP
set_option linter.unusedVariables false
theorem info35 : (Tryz.prog.info? 24).map (·.size) = some 4 := by kernel_rfl
theorem info36 : (Tryz.prog.info? 27).map (·.size) = some 7 := by kernel_rfl
/-- Behind the model's answer: its variable OW, its list in plo .. phi. -/
structure I4 (w w1 wx : World) (t : Lg) (v : Value) (tb : Bat) (vb : Value) (L : Lg) (OW plo phi : Nat) (v3 : Value) : Prop where
  T : wx.heap[w.heap.size]? = some (.cells (logArr t v) 24 (0, 0))
  Y : wx.heap[w.heap.size + 1]? = some (.cells (BatW.batArr tb vb) 27 (0, 0))
  W : wx.heap[OW]? = some (.cells (logArr L v3) 32 (0, 0))
  P : SegsAt wx plo phi v3 L.segs
  B : Below w.heap.size w wx
  lo : w1.heap.size ≤ OW ∧ OW < wx.heap.size
  rng : w1.heap.size ≤ plo ∧ phi ≤ wx.heap.size
  out : ¬ (plo ≤ OW ∧ OW < phi)
theorem i4_set {w w1 wd wx : World} {t : Lg} {v : Value} {tb : Bat} {vb : Value} {L : Lg} {OW plo : Nat} {v3 : Value} (hT : wd.heap[w.heap.size]? = some (.cells (logArr t v) 24 (0, 0))) (hY : wd.heap[w.heap.size + 1]? = some (.cells (BatW.batArr tb vb) 27 (0, 0))) (hV : wd.heap[OW]? = some (.cells (logArr ⟨0, 0, 0, []⟩ (.slice none 0 0)) 32 (0, 0))) (hP : SegsAt wd plo wd.heap.size v3 L.segs) (hB : Below w.heap.size w wd) (hlo : w1.heap.size ≤ OW) (hOW : OW < plo) (hw : w.heap.size + 1 < w1.heap.size)
    (hx : wx = (((wd.setCell ⟨OW, 0, none⟩ (.int .i64 L.start)).setCell ⟨OW, 1, none⟩ (.int .i64 L.next)).setCell ⟨OW, 2, none⟩ (.int .i64 L.roll)).setCell ⟨OW, 3, none⟩ v3) : I4 w w1 wx t v tb vb L OW plo wd.heap.size v3 := by
  have kp : ∀ y, y ≠ OW → wx.heap[y]? = wd.heap[y]? := fun y hy => by
    rw [hx, heap_setCell_other _ _ _ _ hy, heap_setCell_other _ _ _ _ hy, heap_setCell_other _ _ _ _ hy, heap_setCell_other _ _ _ _ hy]
  have sz : wx.heap.size = wd.heap.size := by rw [hx]; simp
  have ol : OW < wd.heap.size := (Array.getElem?_eq_some_iff.1 hV).1
  have q0 := heap_setCell_same wd OW 0 _ _ (.int .i64 L.start) hV
  have q1 := heap_setCell_same _ OW 1 _ _ (.int .i64 L.next) q0
  have q2 := heap_setCell_same _ OW 2 _ _ (.int .i64 L.roll) q1
  have q3 := heap_setCell_same _ OW 3 _ _ v3 q2
  refine ⟨(kp _ (by omega)).trans hT, (kp _ (by omega)).trans hY, by rw [hx]; exact q3, hP.keep fun g h1 h2 => kp g (by omega), ?_, ⟨hlo, by omega⟩, ⟨by omega, by omega⟩, by omega⟩
  rw [hx]
  exact ((((hB.setCell (p := ⟨OW, 0, none⟩) (by show w.heap.size ≤ OW; omega) _).setCell (p := ⟨OW, 1, none⟩) (by show w.heap.size ≤ OW; omega) _).setCell (p := ⟨OW, 2, none⟩) (by show w.heap.size ≤ OW; omega) _).setCell (p := ⟨OW, 3, none⟩) (by show w.heap.size ≤ OW; omega) _)
/-- Behind the program's second answer: its variable OH, its list in plo .. phi. -/
structure I5 (w1 wx : World) (L : Lg) (OH plo phi : Nat) (v3 : Value) : Prop where
  W : wx.heap[OH]? = some (.cells (logArr L v3) 32 (0, 0))
  P : SegsAt wx plo phi v3 L.segs
  B : Below w1.heap.size w1 wx
  rng : phi ≤ wx.heap.size
theorem i5_set {w1 wd wx : World} {L : Lg} {OW plo : Nat} {v3 : Value} (hV : wd.heap[OW]? = some (.cells (logArr ⟨0, 0, 0, []⟩ (.slice none 0 0)) 32 (0, 0))) (hP : SegsAt wd plo wd.heap.size v3 L.segs) (hB : Below w1.heap.size w1 wd) (hlo : w1.heap.size ≤ OW) (hOW : OW < plo)
    (hx : wx = (((wd.setCell ⟨OW, 0, none⟩ (.int .i64 L.start)).setCell ⟨OW, 1, none⟩ (.int .i64 L.next)).setCell ⟨OW, 2, none⟩ (.int .i64 L.roll)).setCell ⟨OW, 3, none⟩ v3) : I5 w1 wx L OW plo wd.heap.size v3 := by
  have kp : ∀ y, y ≠ OW → wx.heap[y]? = wd.heap[y]? := fun y hy => by
    rw [hx, heap_setCell_other _ _ _ _ hy, heap_setCell_other _ _ _ _ hy, heap_setCell_other _ _ _ _ hy, heap_setCell_other _ _ _ _ hy]
  have sz : wx.heap.size = wd.heap.size := by rw [hx]; simp
  have q0 := heap_setCell_same wd OW 0 _ _ (.int .i64 L.start) hV
  have q1 := heap_setCell_same _ OW 1 _ _ (.int .i64 L.next) q0
  have q2 := heap_setCell_same _ OW 2 _ _ (.int .i64 L.roll) q1
  have q3 := heap_setCell_same _ OW 3 _ _ v3 q2
  refine ⟨by rw [hx]; exact q3, hP.keep fun g h1 h2 => kp g (by omega), ?_, by omega⟩
  rw [hx]
  exact ((((hB.setCell (p := ⟨OW, 0, none⟩) hlo _).setCell (p := ⟨OW, 1, none⟩) hlo _).setCell (p := ⟨OW, 2, none⟩) hlo _).setCell (p := ⟨OW, 3, none⟩) hlo _)
theorem set_marks {bs : List Bat} {b : Int} : ∀ (us : List Sg), us.length ≠ 0 → nL nS1 (us.set (us.length - 1) ⟨b, (lastS us).bats ++ bs⟩) = nL nS1 us + nL nB1 bs
  | [], h => absurd rfl h
  | [s], _ => by
    show nS1 ⟨b, s.bats ++ bs⟩ + 0 = (nS1 s + 0) + nL nB1 bs
    unfold nS1
    rw [nL_app]
    omega
  | s :: t :: r, _ => by
    have ih := set_marks (bs := bs) (b := b) (t :: r) (by simp)
    have e1 : (s :: t :: r).length - 1 = ((t :: r).length - 1) + 1 := by simp
    have e2 : lastS (s :: t :: r) = lastS (t :: r) := by
      unfold lastS
      rw [e1, List.getD_cons_succ]
    rw [e1, e2, List.set_cons_succ]
    simp only [nL] at ih ⊢
    omega
theorem sum_few {t : Lg} {tb : Bat} (h : FewL t) (hb : FewB tb) : 1 + nL nS1 t.segs + (1 + nB1 tb) ≤ 4000000000000000000 := by
  have a1 := nS_tot t.segs h.1.2 t.segs.length (Nat.le_refl _)
  rw [List.take_length] at a1
  have a2 := h.1.1
  have a3 : tot t.segs t.segs.length * 2199028498438 ≤ 1048576 * 2199028498438 := Nat.mul_le_mul_right _ h.2
  have a4 := nB_few hb
  omega
theorem app_marks {t : Lg} {tb : Bat} (h : FewL t) (hb : FewB tb) : 1 + nL nS1 (appended t tb).1.segs ≤ 4000000000000000000 := by
  have a0 := sum_few h hb
  unfold appended
  split
  · unfold put
    split
    · show 1 + nL nS1 (grow t (setB t.next tb)) ≤ _
      unfold grow
      split
      · rename_i hf
        have hl : t.segs.length ≠ 0 := by
          intro e
          unfold fits at hf
          simp [e] at hf
        rw [set_marks t.segs hl]
        have : nL nB1 [setB t.next tb] = nB1 tb := by simp [nL, setB, nB1]
        omega
      · rw [nL_app]
        have : nL nS1 [⟨(setB t.next tb).base, [setB t.next tb]⟩] = 1 + nB1 tb := by simp [nL, setB, nB1, nS1]
        omega
    · show 1 + nL nS1 t.segs ≤ _
      omega
  · simp [nL]
/-- What stands through the law: the arguments, the model's answer, the copies, the program's answer (its list holds Lc). -/
structure St (w w4 w5 w6 w7 : World) (t L : Lg) (tb : Bat) (v vb v3 v5 v6 v7 : Value) (OW plo phi : Nat) (Lc : List Sg) (wx : World) : Prop where
  T : wx.heap[w.heap.size]? = some (.cells (logArr t v) 24 (0, 0))
  Y : wx.heap[w.heap.size + 1]? = some (.cells (BatW.batArr tb vb) 27 (0, 0))
  W : wx.heap[OW]? = some (.cells (logArr L v3) 32 (0, 0))
  X : wx.heap[w5.heap.size]? = some (.cells (logArr t v5) 32 (0, 0))
  XB : wx.heap[w6.heap.size]? = some (.cells (BatW.batArr tb v6) 38 (0, 0))
  G : wx.heap[w7.heap.size]? = some (.cells (logArr L v7) 32 (0, 0))
  P : SegsAt wx plo phi v3 L.segs
  O : OwnS wx (seg (w6.heap.size + 1) w7.heap.size) v7 Lc
  B : Below w.heap.size w wx
  S : w7.heap.size < wx.heap.size
  ord : w.heap.size + 1 < OW ∧ OW < w4.heap.size ∧ w.heap.size + 1 < plo ∧ phi ≤ w4.heap.size ∧ w4.heap.size ≤ w5.heap.size ∧ w5.heap.size < w6.heap.size ∧ w6.heap.size < w7.heap.size
section
variable {w w4 w5 w6 w7 : World} {t L : Lg} {tb : Bat} {v vb v3 v5 v6 v7 : Value} {OW plo phi : Nat} {Lc : List Sg} {wx wy : World}
theorem St.below (h : St w w4 w5 w6 w7 t L tb v vb v3 v5 v6 v7 OW plo phi Lc wx) (b : Below wx.heap.size wx wy) : St w w4 w5 w6 w7 t L tb v vb v3 v5 v6 v7 OW plo phi Lc wy := by
  have s := h.S
  obtain ⟨o1, o2, o3, o4, o5, o6, o7⟩ := h.ord
  exact ⟨(b.block _ (by omega)).trans h.T, (b.block _ (by omega)).trans h.Y, (b.block _ (by omega)).trans h.W, (b.block _ (by omega)).trans h.X, (b.block _ (by omega)).trans h.XB, (b.block _ (by omega)).trans h.G, h.P.keep fun g h1 h2 => b.block g (by omega), LOwn.keep keepsS h.O b.size (fun g hg => b.block g (by have := hg.2; omega)), chain h.B b, Nat.lt_of_lt_of_le s b.size, h.ord⟩
theorem St.foot {S : Nat → Prop} (h : St w w4 w5 w6 w7 t L tb v vb v3 v5 v6 v7 OW plo phi Lc wx) (f : Foot wx wy S) (hS : ∀ x, S x → w4.heap.size ≤ x ∧ x ≠ w5.heap.size ∧ x < w6.heap.size) : St w w4 w5 w6 w7 t L tb v vb v3 v5 v6 v7 OW plo phi Lc wy := by
  have s := h.S
  obtain ⟨o1, o2, o3, o4, o5, o6, o7⟩ := h.ord
  have k : ∀ x, x < wx.heap.size → (x < w4.heap.size ∨ x = w5.heap.size ∨ w6.heap.size ≤ x) → wy.heap[x]? = wx.heap[x]? := fun x hx hn => f.block x hx (fun hs => by have := hS x hs; omega)
  exact ⟨(k _ (by omega) (by omega)).trans h.T, (k _ (by omega) (by omega)).trans h.Y, (k _ (by omega) (by omega)).trans h.W, (k _ (by omega) (by omega)).trans h.X, (k _ (by omega) (by omega)).trans h.XB, (k _ (by omega) (by omega)).trans h.G, h.P.keep fun g h1 h2 => k g (by omega) (by omega), LOwn.keep keepsS h.O f.size (fun g hg => k g (by have := hg.2; omega) (by have := hg.1; omega)), h.B.trans ((f.toBelow (lo := w.heap.size) (fun y hy => by have := hS y hy; omega) (by omega))), Nat.lt_of_lt_of_le s f.size, h.ord⟩
theorem St.mark {Ld : List Sg} (h : St w w4 w5 w6 w7 t L tb v vb v3 v5 v6 v7 OW plo phi Lc wx) (f : Foot wx wy (seg (w6.heap.size + 1) w7.heap.size)) (ho : OwnS wy (seg (w6.heap.size + 1) w7.heap.size) v7 Ld) : St w w4 w5 w6 w7 t L tb v vb v3 v5 v6 v7 OW plo phi Ld wy := by
  have s := h.S
  obtain ⟨o1, o2, o3, o4, o5, o6, o7⟩ := h.ord
  have k : ∀ x, x < wx.heap.size → ¬ (w6.heap.size + 1 ≤ x ∧ x < w7.heap.size) → wy.heap[x]? = wx.heap[x]? := fun x hx hn => f.block x hx hn
  exact ⟨(k _ (by omega) (by omega)).trans h.T, (k _ (by omega) (by omega)).trans h.Y, (k _ (by omega) (by omega)).trans h.W, (k _ (by omega) (by omega)).trans h.X, (k _ (by omega) (by omega)).trans h.XB, (k _ (by omega) (by omega)).trans h.G, h.P.keep fun g h1 h2 => k g (by omega) (by omega), ho, h.B.trans ((f.toBelow (lo := w.heap.size) (fun y hy => by have := hy.1; omega) (by omega))), Nat.lt_of_lt_of_le s f.size, h.ord⟩
theorem St.logG (h : St w w4 w5 w6 w7 t L tb v vb v3 v5 v6 v7 OW plo phi L.segs wx) : LogAt wx 0 wx.heap.size (logVal L v7) L := ⟨_, rfl, (segs_of h.O (fun x hx => hx)).mono (Nat.zero_le _) (Nat.le_of_lt h.S)⟩
theorem St.logW (h : St w w4 w5 w6 w7 t L tb v vb v3 v5 v6 v7 OW plo phi Lc wx) : LogAt wx 0 wx.heap.size (logVal L v3) L := ⟨_, rfl, h.P.mono (Nat.zero_le _) (by have := h.S; have := h.ord; omega)⟩
theorem St.eq (h : St w w4 w5 w6 w7 t L tb v vb v3 v5 v6 v7 OW plo phi L.segs wx) : Calls Tryz.prog 10 #[logVal L v7, logVal L v3] wx fun e w' => e = .returned (.bool true) ∧ Below wx.heap.size wx w' := LogW.eqLog_any _ _ L wx 0 0 wx.heap.size h.logG h.logW (Nat.le_refl _)
end
set_option maxHeartbeats 12800000 in
theorem walk (v vb : Value) (t : Lg) (tb : Bat) (w : World) (hv : LogAt w 0 w.heap.size v t) (hvb : BatAt w 0 w.heap.size vb tb) (hf : FineL t) (hfb : Recs.FineB tb) :
    Calls Tryz.prog 3 #[v, vb] w fun e w' => e = .returned (.bool true) ∧ Below w.heap.size w w' := by
  have HV := Seg.hid hv; have HB := Seg.hid hvb
  obtain ⟨rv, rfl, H, ⟨hn, A, c, rfl, hx1⟩, hx2⟩ := hv
  obtain ⟨rvb, rfl, Hb, ⟨hnb, Ab, cb, rfl, hy1⟩, hy2⟩ := hvb
  have HF := Seg.hid hf; have HFB := Seg.hid hfb
  clear hf hfb hx1 hx2 hy1 hy2
  obtain ⟨L, cd, hR⟩ : ∃ L cd, appended t tb = (L, cd) := ⟨_, _, rfl⟩
  have CS : Hid (∀ v vb w lo b lo2 b2, LogAt w lo b v t → BatAt w lo2 b2 vb tb → b ≤ w.heap.size → b2 ≤ w.heap.size → FewL t → FewB tb → Calls Tryz.prog 6 #[v, vb] w fun e w' => ∃ sv, e = .returned (.tuple #[logVal L sv, .int .i64 cd]) ∧ SegsAt w' w.heap.size w'.heap.size sv L.segs ∧ Below w.heap.size w w') := by
    intro v vb w lo b lo2 b2 h1 h2 h3 h4 h5 h6
    have := appendS_any v vb t tb w lo b lo2 b2 h1 h2 h3 h4 h5 h6 (fun i hi => (HF.out.2 i hi).2)
    rw [hR] at this; exact this
  have CI : Hid (∀ v vb w lo b lo2 b2, LogAt w lo b v t → BatAt w lo2 b2 vb tb → b ≤ w.heap.size → b2 ≤ w.heap.size → FewL t → FewB tb → Calls Tryz.prog 9 #[v, vb] w fun e w' => ∃ sv, e = .returned (.tuple #[logVal L sv, .int .i64 cd]) ∧ OwnS w' (seg w.heap.size w'.heap.size) sv L.segs ∧ Below w.heap.size w w') := by
    intro v vb w lo b lo2 b2 h1 h2 h3 h4 h5 h6
    have := append_any v vb t tb w lo b lo2 b2 h1 h2 h3 h4 h5 h6
    rw [hR] at this; exact this
  have MK : Hid (FewL t → FewB tb → 1 + nL nS1 L.segs ≤ 4000000000000000000) := fun h hb => by have := app_marks h hb; rw [hR] at this; exact this
  clear hR
  unfold logVal at HV ⊢
  unfold batVal at HB ⊢
  go_enter Tryz.func3, Tryz.ntmps3
  go_wp2_with fail
  refine (LogW.szLog_any _ t _ ((w.alloc _).alloc _) 0 w.heap.size (by omega) (by omega) (HV.out.below (below2 w _ _)) (by rw [hsz, hsz]; omega) HF.out).mono ?_
  rintro e w0 ⟨q, rfl, q1, q2, q3, b0⟩
  have B0 := Seg.hid (chain (below2 w _ _) b0)
  have T0 : Hid (w0.heap[w.heap.size]? = some (.cells (logArr t (.slice A t.segs.length c)) 24 (0, 0))) := (b0.block w.heap.size (by rw [hsz, hsz]; omega)).trans (((below1 _ _).block _ (by rw [hsz]; omega)).trans (heap_alloc_new _ _))
  have Y0 : Hid (w0.heap[w.heap.size + 1]? = some (.cells (BatW.batArr tb (.slice Ab tb.recs.length cb)) 27 (0, 0))) := (b0.block (w.heap.size + 1) (by rw [hsz, hsz]; omega)).trans (by have := heap_alloc_new (w.alloc (.cells #[.int .i64 t.start, .int .i64 t.next, .int .i64 t.roll, .slice A t.segs.length c] 24 (0, 0))) (.cells #[.int .i64 tb.base, .int .i64 tb.epoch, .int .i64 tb.producer, .int .i64 tb.turn, .int .i64 tb.seq, .int .i64 tb.flags, .slice Ab tb.recs.length cb] 27 (0, 0)); rw [hsz] at this; exact this)
  have s0 := b0.size
  rw [hsz, hsz] at s0
  clear b0
  by_cases hq : q < 0
  · go_wp2
    go_ret
    exact ⟨rfl, B0.out⟩
  have FW := Seg.hid (q3 (by omega))
  obtain ⟨y0, y1, y2, y3, y4, y5, y6⟩ := seven Y0.out
  clear q3
  have hw01 : w.heap.size + 1 < w0.heap.size := by omega
  go_wp2_with fail
  refine (BatW.szBatch_any _ tb _ w0 0 w.heap.size (by omega) (by omega) (HB.out.below B0.out) B0.out.size HFB.out).mono ?_
  rintro e w1 ⟨qb, rfl, p1, p2, p3, b1⟩
  have B1 := Seg.hid (chain B0.out b1)
  have s1 := b1.size
  have T1 := Seg.hid ((b1.block w.heap.size (by omega)).trans T0.out)
  have Y1 := Seg.hid ((b1.block (w.heap.size + 1) (by omega)).trans Y0.out)
  clear b1 y0 y1 y2 y3 y4 y5 y6 T0 Y0
  by_cases hqb : qb < 0
  · go_wp2
    go_ret
    exact ⟨rfl, B1.out⟩
  have FB := Seg.hid (p3 (by omega))
  clear p3
  have CEL : Hid (∀ wx : World, Below w1.heap.size w1 wx → (wx.cell? ⟨w.heap.size, 0, none⟩ = some (.int .i64 t.start) ∧ wx.cell? ⟨w.heap.size, 1, none⟩ = some (.int .i64 t.next) ∧ wx.cell? ⟨w.heap.size, 2, none⟩ = some (.int .i64 t.roll) ∧ wx.cell? ⟨w.heap.size, 3, none⟩ = some (.slice A t.segs.length c)) ∧ wx.cell? ⟨w.heap.size + 1, 0, none⟩ = some (.int .i64 tb.base) ∧ wx.cell? ⟨w.heap.size + 1, 1, none⟩ = some (.int .i64 tb.epoch) ∧ wx.cell? ⟨w.heap.size + 1, 2, none⟩ = some (.int .i64 tb.producer) ∧ wx.cell? ⟨w.heap.size + 1, 3, none⟩ = some (.int .i64 tb.turn) ∧ wx.cell? ⟨w.heap.size + 1, 4, none⟩ = some (.int .i64 tb.seq) ∧ wx.cell? ⟨w.heap.size + 1, 5, none⟩ = some (.int .i64 tb.flags) ∧ wx.cell? ⟨w.heap.size + 1, 6, none⟩ = some (.slice Ab tb.recs.length cb)) := fun wx bx => ⟨four ((bx.block w.heap.size (by omega)).trans T1.out), seven ((bx.block (w.heap.size + 1) (by omega)).trans Y1.out)⟩
  have TL : Hid (∀ wx : World, Below w1.heap.size w1 wx → Calls Tryz.prog 7 #[.agg #[.int .i64 t.start, .int .i64 t.next, .int .i64 t.roll, .slice A t.segs.length c]] wx fun e w' => ∃ A2 c2, e = .returned (.agg #[.int .i64 t.start, .int .i64 t.next, .int .i64 t.roll, .slice A2 t.segs.length c2]) ∧ LogAt w' wx.heap.size w'.heap.size (.agg #[.int .i64 t.start, .int .i64 t.next, .int .i64 t.roll, .slice A2 t.segs.length c2]) t ∧ Below wx.heap.size wx w') := fun wx bx => (LogW.toLog_any _ t wx 0 w.heap.size (HV.out.below (chain B1.out bx)) (by have := bx.size; omega) FW.out).mono fun e w' ⟨v', x1, x2, x3⟩ => by
    obtain ⟨sv, rfl, hs⟩ := x2
    obtain ⟨_, ⟨_, A2, c2, rfl, _⟩, _⟩ := id hs
    exact ⟨A2, c2, x1, ⟨_, rfl, hs⟩, x3⟩
  have TB : Hid (∀ wx : World, Below w1.heap.size w1 wx → Calls Tryz.prog 8 #[.agg #[.int .i64 tb.base, .int .i64 tb.epoch, .int .i64 tb.producer, .int .i64 tb.turn, .int .i64 tb.seq, .int .i64 tb.flags, .slice Ab tb.recs.length cb]] wx fun e w' => ∃ A5 c5, e = .returned (.agg #[.int .i64 tb.base, .int .i64 tb.epoch, .int .i64 tb.producer, .int .i64 tb.turn, .int .i64 tb.seq, .int .i64 tb.flags, .slice A5 tb.recs.length c5]) ∧ BatAt w' wx.heap.size w'.heap.size (.agg #[.int .i64 tb.base, .int .i64 tb.epoch, .int .i64 tb.producer, .int .i64 tb.turn, .int .i64 tb.seq, .int .i64 tb.flags, .slice A5 tb.recs.length c5]) tb ∧ Below wx.heap.size wx w') := fun wx bx => (BatW.toBatch_any _ tb wx 0 w.heap.size (HB.out.below (chain B1.out bx)) (by have := bx.size; omega) FB.out).mono fun e w' ⟨v', x1, x2, x3⟩ => by
    obtain ⟨sv, rfl, hs⟩ := x2
    obtain ⟨_, ⟨_, A5, c5, rfl, _⟩, _⟩ := id hs
    exact ⟨A5, c5, x1, ⟨_, rfl, hs⟩, x3⟩
  have AP : Hid (∀ (wx : World) (A2 : Option Addr) (c2 : Nat) (A5 : Option Addr) (c5 : Nat) (lo lo2 b b2 : Nat), LogAt wx lo b (.agg #[.int .i64 t.start, .int .i64 t.next, .int .i64 t.roll, .slice A2 t.segs.length c2]) t → BatAt wx lo2 b2 (.agg #[.int .i64 tb.base, .int .i64 tb.epoch, .int .i64 tb.producer, .int .i64 tb.turn, .int .i64 tb.seq, .int .i64 tb.flags, .slice A5 tb.recs.length c5]) tb → b ≤ wx.heap.size → b2 ≤ wx.heap.size → Calls Tryz.prog 6 #[.agg #[.int .i64 t.start, .int .i64 t.next, .int .i64 t.roll, .slice A2 t.segs.length c2], .agg #[.int .i64 tb.base, .int .i64 tb.epoch, .int .i64 tb.producer, .int .i64 tb.turn, .int .i64 tb.seq, .int .i64 tb.flags, .slice A5 tb.recs.length c5]] wx fun e w' => ∃ A3 c3, e = .returned (.tuple #[.agg #[.int .i64 L.start, .int .i64 L.next, .int .i64 L.roll, .slice A3 L.segs.length c3], .int .i64 cd]) ∧ SegsAt w' wx.heap.size w'.heap.size (.slice A3 L.segs.length c3) L.segs ∧ Below wx.heap.size wx w') := fun wx A2 c2 A5 c5 lo lo2 b b2 h1 h2 h3 h4 => (CS.out _ _ wx lo b lo2 b2 h1 h2 h3 h4 FW.out FB.out).mono fun e w' ⟨sv, x1, x2, x3⟩ => by
    obtain ⟨_, ⟨_, A3, c3, rfl, _⟩, _⟩ := id x2
    exact ⟨A3, c3, x1, x2, x3⟩
  have hqd : decide (q < 0) = false := decide_eq_false (by omega)
  have hqb2 : decide (qb < 0) = false := decide_eq_false (by omega)
  obtain ⟨⟨c0, c1, c2', c3'⟩, y0, y1, y2, y3, y4, y5, y6⟩ := CEL.out w1 (Below.refl _ _)
  have hw1 : w.heap.size < w1.heap.size := by omega
  have hw11 : w.heap.size + 1 < w1.heap.size := by omega
  go_wp2_with fail
  rename_i K aK
  have J : ∀ {u0 u1 u4 u5 u8 u9 u10 u11 u12 u13 u14 u15 u16 u17 u18 u19 u20 u21 u22 u23 u24 u25 u26 u27 u28 u29 u30 u31 u32 u33 u34 u35 u36 u37 u38 u39 u40 u41 u42 u43 u44 u45 u46 u47 u48 u49 u50 u51 u52 u53 u54 u55 u56 u57 u58 u59 u60 u61 u62 u63 u64 u65 u66 u67 u68 u69 u70 u71 u72 u73 u74 u75 u76 u77 u78 u79 u80 u81 u82 u83 u84 u85 u86 u87 u88 u89 u90 u91 u92 u93 u94 u95 u96 u97 u98 u99 u100 u101 u102 u103 u104 u105 u106 u107 u108 u109 u110 u111 u112 u113 u114 u115 u116 u117 u118 : Value} {OW plo phi : Nat} {A3 : Option Addr} {c3 : Nat} {wx : World}, I4 w w1 wx t (.slice A t.segs.length c) tb (.slice Ab tb.recs.length cb) L OW plo phi (.slice A3 L.segs.length c3) → K ⟨List.toArray (u0 :: u1 :: .pointer (some ⟨w.heap.size, 0, none⟩) :: .pointer (some ⟨w.heap.size + 1, 0, none⟩) :: u4 :: u5 :: .pointer (some ⟨OW, 0, none⟩) :: .int .i64 cd :: u8 :: u9 :: u10 :: u11 :: u12 :: u13 :: u14 :: u15 :: u16 :: u17 :: u18 :: u19 :: u20 :: u21 :: u22 :: u23 :: u24 :: u25 :: u26 :: u27 :: u28 :: u29 :: u30 :: u31 :: u32 :: u33 :: u34 :: u35 :: u36 :: u37 :: u38 :: u39 :: u40 :: u41 :: u42 :: u43 :: u44 :: u45 :: u46 :: u47 :: u48 :: u49 :: u50 :: u51 :: u52 :: u53 :: u54 :: u55 :: u56 :: u57 :: u58 :: u59 :: u60 :: u61 :: u62 :: u63 :: u64 :: u65 :: u66 :: u67 :: u68 :: u69 :: u70 :: u71 :: u72 :: u73 :: u74 :: u75 :: u76 :: u77 :: u78 :: u79 :: u80 :: u81 :: u82 :: u83 :: u84 :: u85 :: u86 :: u87 :: u88 :: u89 :: u90 :: u91 :: u92 :: u93 :: u94 :: u95 :: u96 :: u97 :: u98 :: u99 :: u100 :: u101 :: u102 :: u103 :: u104 :: u105 :: u106 :: u107 :: u108 :: u109 :: u110 :: u111 :: u112 :: u113 :: u114 :: u115 :: u116 :: u117 :: u118 :: []), []⟩ wx := by
    intro u0 u1 u4 u5 u8 u9 u10 u11 u12 u13 u14 u15 u16 u17 u18 u19 u20 u21 u22 u23 u24 u25 u26 u27 u28 u29 u30 u31 u32 u33 u34 u35 u36 u37 u38 u39 u40 u41 u42 u43 u44 u45 u46 u47 u48 u49 u50 u51 u52 u53 u54 u55 u56 u57 u58 u59 u60 u61 u62 u63 u64 u65 u66 u67 u68 u69 u70 u71 u72 u73 u74 u75 u76 u77 u78 u79 u80 u81 u82 u83 u84 u85 u86 u87 u88 u89 u90 u91 u92 u93 u94 u95 u96 u97 u98 u99 u100 u101 u102 u103 u104 u105 u106 u107 u108 u109 u110 u111 u112 u113 u114 u115 u116 u117 u118 OW plo phi A3 c3 w4 D
    refine aK _ _ ?_
    clear aK c0 c1 c2' c3' y0 y1 y2 y3 y4 y5 y6
    have DH := Seg.hid D
    have olo := D.lo; have org := D.rng
    have s4 := D.B.size
    obtain ⟨d0, d1, d2, d3⟩ := four D.T
    have hw4 : w.heap.size + 1 < w4.heap.size := by omega
    have hw40 : w.heap.size < w4.heap.size := by omega
    clear D
    go_wp2_with fail
    refine (toLog_own _ t w4 0 w.heap.size (HV.out.below DH.out.B) (by omega) FW.out).mono ?_
    rintro e w5 ⟨sv5, rfl, ow5, b5⟩
    obtain ⟨A5, c5, rfl⟩ := LOwn.form ow5
    have W5 := Seg.hid ow5
    have B5 := Seg.hid b5
    have s5 := b5.size
    clear ow5 b5 d0 d1 d2 d3
    unfold logVal
    have ba5 : Hid (Below w5.heap.size w5 (w5.alloc (.cells #[.int .i64 t.start, .int .i64 t.next, .int .i64 t.roll, .slice A5 t.segs.length c5] 32 (0, 0)))) := below1 w5 _
    have z5 : (w5.alloc (.cells #[.int .i64 t.start, .int .i64 t.next, .int .i64 t.roll, .slice A5 t.segs.length c5] 32 (0, 0))).heap.size = w5.heap.size + 1 := hsz _ _
    have B45 : Hid (Below w4.heap.size w4 (w5.alloc (.cells #[.int .i64 t.start, .int .i64 t.next, .int .i64 t.roll, .slice A5 t.segs.length c5] 32 (0, 0)))) := chain B5.out ba5.out
    have X5 : Hid ((w5.alloc (.cells #[.int .i64 t.start, .int .i64 t.next, .int .i64 t.roll, .slice A5 t.segs.length c5] 32 (0, 0))).heap[w5.heap.size]? = some (.cells (logArr t (.slice A5 t.segs.length c5)) 32 (0, 0))) := heap_alloc_new _ _
    have Y5 := Seg.hid ((B45.out.block (w.heap.size + 1) hw4).trans DH.out.Y)
    obtain ⟨y0, y1, y2, y3, y4, y5, y6⟩ := seven Y5.out
    go_wp2_with fail
    refine (toBatch_recs _ tb (w5.alloc (.cells #[.int .i64 t.start, .int .i64 t.next, .int .i64 t.roll, .slice A5 t.segs.length c5] 32 (0, 0))) 0 w.heap.size (HB.out.below (chain DH.out.B B45.out)) (by rw [z5]; omega) FB.out).mono ?_
    rintro e w6 ⟨rv6, rfl, ow6, b6⟩
    obtain ⟨A6, c6, rfl⟩ := LOwn.form ow6
    have s6 := b6.size
    rw [z5] at ow6 s6
    have W6 := Seg.hid ow6
    have B46 := Seg.hid (chain B45.out b6)
    have X6 := Seg.hid ((b6.block w5.heap.size (by omega)).trans X5.out)
    have W56 : Hid (OwnS w6 (seg w4.heap.size w5.heap.size) (.slice A5 t.segs.length c5) t.segs) := LOwn.keep keepsS W5.out (by omega) (fun g hg => (b6.block g (by have := hg.2; omega)).trans (ba5.out.block g hg.2))
    clear ow6 b6 y0 y1 y2 y3 y4 y5 y6 Y5
    unfold batVal
    have ba6 : Hid (Below w6.heap.size w6 (w6.alloc (.cells #[.int .i64 tb.base, .int .i64 tb.epoch, .int .i64 tb.producer, .int .i64 tb.turn, .int .i64 tb.seq, .int .i64 tb.flags, .slice A6 tb.recs.length c6] 38 (0, 0)))) := below1 w6 _
    have z6 : (w6.alloc (.cells #[.int .i64 tb.base, .int .i64 tb.epoch, .int .i64 tb.producer, .int .i64 tb.turn, .int .i64 tb.seq, .int .i64 tb.flags, .slice A6 tb.recs.length c6] 38 (0, 0))).heap.size = w6.heap.size + 1 := hsz _ _
    have X6a := Seg.hid ((ba6.out.block w5.heap.size (by omega)).trans X6.out)
    have XB6 : Hid ((w6.alloc (.cells #[.int .i64 tb.base, .int .i64 tb.epoch, .int .i64 tb.producer, .int .i64 tb.turn, .int .i64 tb.seq, .int .i64 tb.flags, .slice A6 tb.recs.length c6] 38 (0, 0))).heap[w6.heap.size]? = some (.cells (BatW.batArr tb (.slice A6 tb.recs.length c6)) 38 (0, 0))) := heap_alloc_new _ _
    obtain ⟨d0, d1, d2, d3⟩ := four X6a.out
    obtain ⟨y0, y1, y2, y3, y4, y5, y6⟩ := seven XB6.out
    have h56 : w5.heap.size < w6.heap.size := by omega
    go_wp2_with fail
    refine (CI.out _ _ (w6.alloc (.cells #[.int .i64 tb.base, .int .i64 tb.epoch, .int .i64 tb.producer, .int .i64 tb.turn, .int .i64 tb.seq, .int .i64 tb.flags, .slice A6 tb.recs.length c6] 38 (0, 0))) _ _ _ _ (⟨_, rfl, (segs_of W56.out (fun x hx => hx)).below ((ba6.out).mono (by omega))⟩ : LogAt _ w4.heap.size w5.heap.size _ t) (⟨_, rfl, (recs_of W6.out (fun x hx => hx)).below ba6.out⟩ : BatAt _ (w5.heap.size + 1) w6.heap.size _ tb) (by rw [z6]; omega) (by rw [z6]; omega) FW.out FB.out).mono ?_
    rintro e w7 ⟨sv7, rfl, ow7, b7⟩
    obtain ⟨A7, c7, rfl⟩ := LOwn.form ow7
    have s7 := b7.size
    rw [z6] at ow7 s7
    have B67 : Hid (Below w6.heap.size w6 w7) := chain ba6.out b7
    have B47 := Seg.hid (chain B46.out B67.out)
    have X7 := Seg.hid ((b7.block w5.heap.size (by omega)).trans X6a.out)
    have XB7 := Seg.hid ((b7.block w6.heap.size (by omega)).trans XB6.out)
    have O7 := Seg.hid ow7
    clear ow7 b7 d0 d1 d2 d3 y0 y1 y2 y3 y4 y5 y6
    unfold logVal
    have ba7 : Hid (Below w7.heap.size w7 (w7.alloc (.cells #[.int .i64 L.start, .int .i64 L.next, .int .i64 L.roll, .slice A7 L.segs.length c7] 32 (0, 0)))) := below1 w7 _
    have z7 : (w7.alloc (.cells #[.int .i64 L.start, .int .i64 L.next, .int .i64 L.roll, .slice A7 L.segs.length c7] 32 (0, 0))).heap.size = w7.heap.size + 1 := hsz _ _
    have ST7 : Hid (St w w4 w5 w6 w7 t L tb (.slice A t.segs.length c) (.slice Ab tb.recs.length cb) (.slice A3 L.segs.length c3) (.slice A5 t.segs.length c5) (.slice A6 tb.recs.length c6) (.slice A7 L.segs.length c7) OW plo phi L.segs (w7.alloc (.cells #[.int .i64 L.start, .int .i64 L.next, .int .i64 L.roll, .slice A7 L.segs.length c7] 32 (0, 0)))) := by
      have hk := ba7.out
      have kk : ∀ x, x < w4.heap.size → (w7.alloc (.cells #[.int .i64 L.start, .int .i64 L.next, .int .i64 L.roll, .slice A7 L.segs.length c7] 32 (0, 0))).heap[x]? = w4.heap[x]? := fun x hx => (hk.block x (by omega)).trans (B47.out.block x hx)
      exact ⟨(kk _ (by omega)).trans DH.out.T, (kk _ (by omega)).trans DH.out.Y, (kk _ (by omega)).trans DH.out.W, (hk.block _ (by omega)).trans X7.out, (hk.block _ (by omega)).trans XB7.out, heap_alloc_new _ _, DH.out.P.keep fun g h1 h2 => kk g (by omega), LOwn.keep keepsS O7.out hk.size (fun g hg => hk.block g hg.2), chain (chain DH.out.B B47.out) hk, by rw [z7]; omega, by omega, by omega, by omega, by omega, by omega, by omega, by omega⟩
    have W7x : Hid (OwnS (w7.alloc (.cells #[.int .i64 L.start, .int .i64 L.next, .int .i64 L.roll, .slice A7 L.segs.length c7] 32 (0, 0))) (seg w4.heap.size w5.heap.size) (.slice A5 t.segs.length c5) t.segs) := LOwn.keep keepsS W56.out (by omega) (fun g hg => (ba7.out.block g (by have := hg.2; omega)).trans (B67.out.block g (by have := hg.2; omega)))
    have R7x : Hid (OwnR (w7.alloc (.cells #[.int .i64 L.start, .int .i64 L.next, .int .i64 L.roll, .slice A7 L.segs.length c7] 32 (0, 0))) (seg (w5.heap.size + 1) w6.heap.size) (.slice A6 tb.recs.length c6) tb.recs) := LOwn.keep keepsR W6.out (by omega) (fun g hg => (ba7.out.block g (by have := hg.2; omega)).trans (B67.out.block g hg.2))
    clear X5 X6 X6a XB6 X7 XB7 O7 W5 W56 W6 B45 B46 B47 B67 ba5 ba6 DH
    obtain ⟨d0, d1, d2, d3⟩ := four ST7.out.W
    obtain ⟨g0, g1, g2, g3⟩ := four ST7.out.G
    have hne : (cd != cd) = false := by simp
    go_upto_region 12 with fail
    generalize (w7.alloc (.cells #[.int .i64 L.start, .int .i64 L.next, .int .i64 L.roll, .slice A7 L.segs.length c7] 32 (0, 0))) = wz at *
    go_wp2_with fail
    refine (ST7.out.eq).mono ?_
    rintro e w8 ⟨rfl, b8⟩
    have ST8 := Seg.hid (ST7.out.below b8)
    have W8 : Hid (OwnS w8 (seg w4.heap.size w5.heap.size) (.slice A5 t.segs.length c5) t.segs) := LOwn.keep keepsS W7x.out b8.size (fun g hg => b8.block g (by have := hg.2; omega))
    have R8 : Hid (OwnR w8 (seg (w5.heap.size + 1) w6.heap.size) (.slice A6 tb.recs.length c6) tb.recs) := LOwn.keep keepsR R7x.out b8.size (fun g hg => b8.block g (by have := hg.2; omega))
    clear b8 ST7 W7x R7x d0 d1 d2 d3 g0 g1 g2 g3 ba7 z5 z6 z7
    go_wp2_with fail
    rename_i K2 aK2
    have s8 := ST8.out.S
    have ord := ST8.out.ord
    have RT : Hid (∀ wx, Below w8.heap.size w8 wx → LogAt wx 0 wx.heap.size (.agg (logArr t (.slice A5 t.segs.length c5))) t) := fun wx bx => ⟨_, rfl, ((segs_of W8.out (fun x hx => hx)).below (bx.mono (by omega))).mono (Nat.zero_le _) (by have := bx.size; omega)⟩
    have RTB : Hid (∀ wx, Below w8.heap.size w8 wx → BatAt wx 0 wx.heap.size (.agg (BatW.batArr tb (.slice A6 tb.recs.length c6))) tb) := fun wx bx => ⟨_, rfl, ((recs_of R8.out (fun x hx => hx)).below (bx.mono (by omega))).mono (Nat.zero_le _) (by have := bx.size; omega)⟩
    have J2 : ∀ {p0 p1 p4 p5 p12 p13 p14 p15 p16 p17 p18 p19 p20 p21 p22 p23 p24 p25 p26 p27 p28 p29 p30 p31 p32 p33 p34 p35 p36 p37 p38 p39 p40 p41 p42 p43 p44 p45 p46 p47 p48 p49 p50 p51 p52 p53 p54 p55 p56 p57 p59 p60 p61 p62 p63 p64 p65 p66 p67 p68 p69 p70 p71 p72 p73 p74 p75 p76 p77 p78 p79 p80 p81 p82 p83 p84 p85 p86 p87 p88 p89 p90 p91 p92 p93 p94 p95 p96 p97 p98 p99 p100 p101 p102 p103 p104 p105 p106 p107 p108 p109 p110 p111 p112 p113 p114 p115 p116 p117 p118 : Value} {wx : World}, Below w8.heap.size w8 wx → K2 ⟨List.toArray (p0 :: p1 :: .pointer (some ⟨w.heap.size, 0, none⟩) :: .pointer (some ⟨w.heap.size + 1, 0, none⟩) :: p4 :: p5 :: .pointer (some ⟨OW, 0, none⟩) :: .int .i64 cd :: .pointer (some ⟨w5.heap.size, 0, none⟩) :: .pointer (some ⟨w6.heap.size, 0, none⟩) :: .pointer (some ⟨w7.heap.size, 0, none⟩) :: .int .i64 cd :: p12 :: p13 :: p14 :: p15 :: p16 :: p17 :: p18 :: p19 :: p20 :: p21 :: p22 :: p23 :: p24 :: p25 :: p26 :: p27 :: p28 :: p29 :: p30 :: p31 :: p32 :: p33 :: p34 :: p35 :: p36 :: p37 :: p38 :: p39 :: p40 :: p41 :: p42 :: p43 :: p44 :: p45 :: p46 :: p47 :: p48 :: p49 :: p50 :: p51 :: p52 :: p53 :: p54 :: p55 :: p56 :: p57 :: .bool false :: p59 :: p60 :: p61 :: p62 :: p63 :: p64 :: p65 :: p66 :: p67 :: p68 :: p69 :: p70 :: p71 :: p72 :: p73 :: p74 :: p75 :: p76 :: p77 :: p78 :: p79 :: p80 :: p81 :: p82 :: p83 :: p84 :: p85 :: p86 :: p87 :: p88 :: p89 :: p90 :: p91 :: p92 :: p93 :: p94 :: p95 :: p96 :: p97 :: p98 :: p99 :: p100 :: p101 :: p102 :: p103 :: p104 :: p105 :: p106 :: p107 :: p108 :: p109 :: p110 :: p111 :: p112 :: p113 :: p114 :: p115 :: p116 :: p117 :: p118 :: []), []⟩ wx := by
      intro p0 p1 p4 p5 p12 p13 p14 p15 p16 p17 p18 p19 p20 p21 p22 p23 p24 p25 p26 p27 p28 p29 p30 p31 p32 p33 p34 p35 p36 p37 p38 p39 p40 p41 p42 p43 p44 p45 p46 p47 p48 p49 p50 p51 p52 p53 p54 p55 p56 p57 p59 p60 p61 p62 p63 p64 p65 p66 p67 p68 p69 p70 p71 p72 p73 p74 p75 p76 p77 p78 p79 p80 p81 p82 p83 p84 p85 p86 p87 p88 p89 p90 p91 p92 p93 p94 p95 p96 p97 p98 p99 p100 p101 p102 p103 p104 p105 p106 p107 p108 p109 p110 p111 p112 p113 p114 p115 p116 p117 p118 w10 b10
      refine aK2 _ _ ?_
      clear aK2
      have ST10 := Seg.hid (ST8.out.below b10)
      have B10 := Seg.hid b10
      have s10 := b10.size
      clear b10
      go_wp2_with fail
      rename_i K3 aK3
      have J3 : ∀ {q0 q1 q4 q5 q12 q13 q14 q15 q16 q17 q18 q19 q20 q21 q22 q23 q24 q25 q26 q27 q28 q29 q30 q31 q32 q33 q34 q35 q36 q37 q38 q39 q40 q41 q42 q43 q44 q45 q46 q47 q48 q49 q50 q51 q52 q53 q54 q55 q56 q57 q58 q59 q60 q61 q62 q64 q65 q66 q67 q68 q69 q70 q71 q72 q73 q74 q75 q76 q77 q78 q79 q80 q81 q82 q83 q84 q85 q86 q87 q88 q89 q90 q91 q92 q93 q94 q95 q96 q97 q98 q99 q100 q101 q102 q103 q104 q105 q106 q107 q108 q109 q110 q111 q112 q113 q114 q115 q116 q117 q118 : Value} {wx : World}, Below w8.heap.size w8 wx → K3 ⟨List.toArray (q0 :: q1 :: .pointer (some ⟨w.heap.size, 0, none⟩) :: .pointer (some ⟨w.heap.size + 1, 0, none⟩) :: q4 :: q5 :: .pointer (some ⟨OW, 0, none⟩) :: .int .i64 cd :: .pointer (some ⟨w5.heap.size, 0, none⟩) :: .pointer (some ⟨w6.heap.size, 0, none⟩) :: .pointer (some ⟨w7.heap.size, 0, none⟩) :: .int .i64 cd :: q12 :: q13 :: q14 :: q15 :: q16 :: q17 :: q18 :: q19 :: q20 :: q21 :: q22 :: q23 :: q24 :: q25 :: q26 :: q27 :: q28 :: q29 :: q30 :: q31 :: q32 :: q33 :: q34 :: q35 :: q36 :: q37 :: q38 :: q39 :: q40 :: q41 :: q42 :: q43 :: q44 :: q45 :: q46 :: q47 :: q48 :: q49 :: q50 :: q51 :: q52 :: q53 :: q54 :: q55 :: q56 :: q57 :: q58 :: q59 :: q60 :: q61 :: q62 :: .bool false :: q64 :: q65 :: q66 :: q67 :: q68 :: q69 :: q70 :: q71 :: q72 :: q73 :: q74 :: q75 :: q76 :: q77 :: q78 :: q79 :: q80 :: q81 :: q82 :: q83 :: q84 :: q85 :: q86 :: q87 :: q88 :: q89 :: q90 :: q91 :: q92 :: q93 :: q94 :: q95 :: q96 :: q97 :: q98 :: q99 :: q100 :: q101 :: q102 :: q103 :: q104 :: q105 :: q106 :: q107 :: q108 :: q109 :: q110 :: q111 :: q112 :: q113 :: q114 :: q115 :: q116 :: q117 :: q118 :: []), []⟩ wx := by
        intro q0 q1 q4 q5 q12 q13 q14 q15 q16 q17 q18 q19 q20 q21 q22 q23 q24 q25 q26 q27 q28 q29 q30 q31 q32 q33 q34 q35 q36 q37 q38 q39 q40 q41 q42 q43 q44 q45 q46 q47 q48 q49 q50 q51 q52 q53 q54 q55 q56 q57 q58 q59 q60 q61 q62 q64 q65 q66 q67 q68 q69 q70 q71 q72 q73 q74 q75 q76 q77 q78 q79 q80 q81 q82 q83 q84 q85 q86 q87 q88 q89 q90 q91 q92 q93 q94 q95 q96 q97 q98 q99 q100 q101 q102 q103 q104 q105 q106 q107 q108 q109 q110 q111 q112 q113 q114 q115 q116 q117 q118 w12 b12
        refine aK3 _ _ ?_
        clear aK3
        have ST12 := Seg.hid (ST8.out.below b12)
        have W12 : Hid (OwnS w12 (seg w4.heap.size w5.heap.size) (.slice A5 t.segs.length c5) t.segs) := LOwn.keep keepsS W8.out b12.size (fun g hg => b12.block g (by have := hg.2; omega))
        have R12 : Hid (OwnR w12 (seg (w5.heap.size + 1) w6.heap.size) (.slice A6 tb.recs.length c6) tb.recs) := LOwn.keep keepsR R8.out b12.size (fun g hg => b12.block g (by have := hg.2; omega))
        have s12 := b12.size
        clear b12 W8 R8 ST8 ST10 B10 RT RTB
        obtain ⟨c0, c1, c2', c3'⟩ := four ST12.out.X
        have h512 : w5.heap.size < w12.heap.size := by omega
        go_wp2_with fail
        clear c0 c1 c2' c3'
        refine (markLog_own t (.slice A5 t.segs.length c5) 1 (seg w4.heap.size w5.heap.size) w12 (by decide) (log_few FW.out) W12.out (fun x hx => by have := hx.2; omega)).mono ?_
        rintro e w13 ⟨rfl, hM, hW⟩
        clear hM
        have ST13 := Seg.hid (ST12.out.foot hW (fun x hx => by have := hx.1; have := hx.2; omega))
        have R13 : Hid (OwnR w13 (seg (w5.heap.size + 1) w6.heap.size) (.slice A6 tb.recs.length c6) tb.recs) := LOwn.keep keepsR R12.out hW.size (fun g hg => hW.block g (by have := hg.2; omega) (fun hs => by have := hs.2; have := hg.1; omega))
        obtain ⟨k1, hK⟩ : ∃ k1, 1 + nL nS1 t.segs = k1 := ⟨_, rfl⟩
        have HK := Seg.hid hK
        have s13 := ST13.out.S
        rw [hK]
        clear hK hW W12 ST12 R12
        obtain ⟨c0, c1, c2', c3', c4', c5', c6'⟩ := seven ST13.out.XB
        go_wp2_with fail
        clear c0 c1 c2' c3' c4' c5' c6'
        refine (markBatch_own tb (.slice A6 tb.recs.length c6) k1 (seg (w5.heap.size + 1) w6.heap.size) w13 (by have := HK.out; omega) (by have := HK.out; have h9 := sum_few FW.out FB.out; unfold nB1 at h9; omega) R13.out (fun x hx => by have := hx.2; omega)).mono ?_
        rintro e w14 ⟨rfl, hW⟩
        have ST14 := Seg.hid (ST13.out.foot hW (fun x hx => by have := hx.1; have := hx.2; omega))
        obtain ⟨k2, hK⟩ : ∃ k2, k1 + nL nR1 tb.recs = k2 := ⟨_, rfl⟩
        rw [hK]
        clear hK hW R13 ST13
        have hk0 : (0 : Int) ≤ (k2 : Int) := by omega
        have hkd : decide ((k2 : Int) < 0) = false := decide_eq_false (by omega)
        have MB := Seg.hid (MK.out FW.out FB.out)
        obtain ⟨c0, c1, c2', c3'⟩ := four ST14.out.G
        obtain ⟨d0, d1, d2, d3⟩ := four ST14.out.W
        go_wp2_with fail
        clear c0 c1 c2' c3' d0 d1 d2 d3
        refine (ST14.out.eq).mono ?_
        rintro e w15 ⟨rfl, b15⟩
        have ST15 := Seg.hid (ST14.out.below b15)
        clear b15 ST14
        obtain ⟨c0, c1, c2', c3'⟩ := four ST15.out.G
        go_wp2_with fail
        clear c0 c1 c2' c3'
        refine (markLog_own L (.slice A7 L.segs.length c7) 1 (seg (w6.heap.size + 1) w7.heap.size) w15 (by decide) MB.out ST15.out.O (fun x hx => by have := hx.2; have := ST15.out.S; omega)).mono ?_
        rintro e w16 ⟨rfl, hM, hW⟩
        have ST16 := Seg.hid (ST15.out.mark hW hM)
        clear hM hW ST15
        obtain ⟨M, hM⟩ : ∃ M, 1 + nL nS1 L.segs = M := ⟨_, rfl⟩
        have HMM := Seg.hid hM
        rw [hM]
        clear hM
        obtain ⟨c0, c1, c2', c3'⟩ := four ST16.out.G
        go_wp2_with fail
        clear c0 c1 c2' c3'
        refine (heldLog_own L (.slice A7 L.segs.length c7) 1 (seg (w6.heap.size + 1) w7.heap.size) L.segs w16 (by decide) MB.out ST16.out.O (fun x hx => by have := hx.2; have := ST16.out.S; omega)).mono ?_
        rintro e w17 ⟨rfl, b17⟩
        have ST17 := Seg.hid (ST16.out.below b17)
        clear b17 ST16
        rw [HMM.out]
        have hM0 : ¬ (M : Int) < 0 := by omega
        have hM1 : ((M : Int) != (M : Int)) = false := by simp
        go_wp2_with fail
        rename_i K4 aK4
        have s17 := ST17.out.S
        have T17 := Seg.hid ST17.out.T
        have Y17 := Seg.hid ST17.out.Y
        have B17 := Seg.hid ST17.out.B
        have h17 : w.heap.size < w17.heap.size := by omega
        have h171 : w.heap.size + 1 < w17.heap.size := by omega
        have CSI : Hid (∀ v vb w lo b lo2 b2, LogAt w lo b v t → BatAt w lo2 b2 vb tb → b ≤ w.heap.size → b2 ≤ w.heap.size → FewL t → FewB tb → Calls Tryz.prog 9 #[v, vb] w fun e w' => ∃ sv, e = .returned (.tuple #[logVal L sv, .int .i64 cd]) ∧ SegsAt w' w.heap.size w'.heap.size sv L.segs ∧ Below w.heap.size w w') := fun v vb w lo b lo2 b2 i1 i2 i3 i4 i5 i6 => (CI.out v vb w lo b lo2 b2 i1 i2 i3 i4 i5 i6).mono fun e w' ⟨sv, x1, x2, x3⟩ => ⟨sv, x1, segs_of x2 (fun x hx => hx), x3⟩
        have J4 : ∀ {r0 r1 r4 r5 r12 r14 r17 r18 r19 r20 r21 r22 r23 r24 r25 r26 r27 r28 r29 r30 r31 r32 r33 r34 r35 r36 r37 r38 r39 r40 r41 r42 r43 r44 r45 r46 r47 r48 r49 r50 r51 r52 r53 r54 r55 r56 r57 r58 r59 r60 r61 r62 r63 r64 r65 r66 r67 r68 r69 r70 r71 r72 r73 r74 r75 r76 r77 r78 r79 r80 r81 r82 r83 r84 r85 r86 r87 r88 r89 r90 r91 r92 r93 r94 r95 r96 r97 r98 r99 r100 r101 r102 r103 r104 r105 r106 r107 r108 r109 r110 r111 r112 r113 r114 r115 r116 r117 r118 : Value} {OH plo2 phi2 : Nat} {A9 : Option Addr} {c9 : Nat} {wx : World}, I5 w17 wx L OH plo2 phi2 (.slice A9 L.segs.length c9) → K4 ⟨List.toArray (r0 :: r1 :: .pointer (some ⟨w.heap.size, 0, none⟩) :: .pointer (some ⟨w.heap.size + 1, 0, none⟩) :: r4 :: r5 :: .pointer (some ⟨OW, 0, none⟩) :: .int .i64 cd :: .pointer (some ⟨w5.heap.size, 0, none⟩) :: .pointer (some ⟨w6.heap.size, 0, none⟩) :: .pointer (some ⟨w7.heap.size, 0, none⟩) :: .int .i64 cd :: r12 :: .int .i64 (M : Int) :: r14 :: .pointer (some ⟨OH, 0, none⟩) :: .int .i64 cd :: r17 :: r18 :: r19 :: r20 :: r21 :: r22 :: r23 :: r24 :: r25 :: r26 :: r27 :: r28 :: r29 :: r30 :: r31 :: r32 :: r33 :: r34 :: r35 :: r36 :: r37 :: r38 :: r39 :: r40 :: r41 :: r42 :: r43 :: r44 :: r45 :: r46 :: r47 :: r48 :: r49 :: r50 :: r51 :: r52 :: r53 :: r54 :: r55 :: r56 :: r57 :: r58 :: r59 :: r60 :: r61 :: r62 :: r63 :: r64 :: r65 :: r66 :: r67 :: r68 :: r69 :: r70 :: r71 :: r72 :: r73 :: r74 :: r75 :: r76 :: r77 :: r78 :: r79 :: r80 :: r81 :: r82 :: r83 :: r84 :: r85 :: r86 :: r87 :: r88 :: r89 :: r90 :: r91 :: r92 :: r93 :: r94 :: r95 :: r96 :: r97 :: r98 :: r99 :: r100 :: r101 :: r102 :: r103 :: r104 :: r105 :: r106 :: r107 :: r108 :: r109 :: r110 :: r111 :: r112 :: r113 :: r114 :: r115 :: r116 :: r117 :: r118 :: []), []⟩ wx := by
          intro r0 r1 r4 r5 r12 r14 r17 r18 r19 r20 r21 r22 r23 r24 r25 r26 r27 r28 r29 r30 r31 r32 r33 r34 r35 r36 r37 r38 r39 r40 r41 r42 r43 r44 r45 r46 r47 r48 r49 r50 r51 r52 r53 r54 r55 r56 r57 r58 r59 r60 r61 r62 r63 r64 r65 r66 r67 r68 r69 r70 r71 r72 r73 r74 r75 r76 r77 r78 r79 r80 r81 r82 r83 r84 r85 r86 r87 r88 r89 r90 r91 r92 r93 r94 r95 r96 r97 r98 r99 r100 r101 r102 r103 r104 r105 r106 r107 r108 r109 r110 r111 r112 r113 r114 r115 r116 r117 r118 OH plo2 phi2 A9 c9 w18 D
          refine aK4 _ _ ?_
          clear aK4
          have D9 := Seg.hid D
          have ST18 := Seg.hid (ST17.out.below D.B)
          have EQ18 : Hid (Calls Tryz.prog 10 #[logVal L (.slice A9 L.segs.length c9), logVal L (.slice A3 L.segs.length c3)] w18 fun e w' => e = .returned (.bool true) ∧ Below w18.heap.size w18 w') := LogW.eqLog_any _ _ L _ 0 0 _ ⟨_, rfl, D.P.mono (Nat.zero_le _) D.rng⟩ ST18.out.logW (Nat.le_refl _)
          clear D
          unfold logVal at EQ18
          obtain ⟨c0, c1, c2', c3'⟩ := four D9.out.W
          obtain ⟨d0, d1, d2, d3⟩ := four ST18.out.W
          go_wp2_with fail
          clear c0 c1 c2' c3' d0 d1 d2 d3
          refine EQ18.out.mono ?_
          rintro e w19 ⟨rfl, b19⟩
          have ST19 := Seg.hid (ST18.out.below b19)
          clear b19 ST18 EQ18 D9
          obtain ⟨c0, c1, c2', c3'⟩ := four ST19.out.G
          go_wp2_with fail
          clear c0 c1 c2' c3'
          refine (heldLog_own L (.slice A7 L.segs.length c7) 1 (seg (w6.heap.size + 1) w7.heap.size) L.segs w19 (by decide) MB.out ST19.out.O (fun x hx => by have := hx.2; have := ST19.out.S; omega)).mono ?_
          rintro e w20 ⟨rfl, b20⟩
          have ST20 := Seg.hid (ST19.out.below b20)
          clear b20 ST19
          rw [HMM.out]
          go_wp2_with fail
          go_ret
          exact ⟨rfl, ST20.out.B⟩
        clear aK4 CEL TL TB AP
        clear ST17
        have CEL : Hid (∀ wx : World, Below w17.heap.size w17 wx → (wx.cell? ⟨w.heap.size, 0, none⟩ = some (.int .i64 t.start) ∧ wx.cell? ⟨w.heap.size, 1, none⟩ = some (.int .i64 t.next) ∧ wx.cell? ⟨w.heap.size, 2, none⟩ = some (.int .i64 t.roll) ∧ wx.cell? ⟨w.heap.size, 3, none⟩ = some (.slice A t.segs.length c)) ∧ wx.cell? ⟨w.heap.size + 1, 0, none⟩ = some (.int .i64 tb.base) ∧ wx.cell? ⟨w.heap.size + 1, 1, none⟩ = some (.int .i64 tb.epoch) ∧ wx.cell? ⟨w.heap.size + 1, 2, none⟩ = some (.int .i64 tb.producer) ∧ wx.cell? ⟨w.heap.size + 1, 3, none⟩ = some (.int .i64 tb.turn) ∧ wx.cell? ⟨w.heap.size + 1, 4, none⟩ = some (.int .i64 tb.seq) ∧ wx.cell? ⟨w.heap.size + 1, 5, none⟩ = some (.int .i64 tb.flags) ∧ wx.cell? ⟨w.heap.size + 1, 6, none⟩ = some (.slice Ab tb.recs.length cb)) := fun wx bx => ⟨four ((bx.block w.heap.size (by omega)).trans T17.out), seven ((bx.block (w.heap.size + 1) (by omega)).trans Y17.out)⟩
        have TL : Hid (∀ wx : World, Below w17.heap.size w17 wx → Calls Tryz.prog 7 #[.agg #[.int .i64 t.start, .int .i64 t.next, .int .i64 t.roll, .slice A t.segs.length c]] wx fun e w' => ∃ A2 c2, e = .returned (.agg #[.int .i64 t.start, .int .i64 t.next, .int .i64 t.roll, .slice A2 t.segs.length c2]) ∧ LogAt w' wx.heap.size w'.heap.size (.agg #[.int .i64 t.start, .int .i64 t.next, .int .i64 t.roll, .slice A2 t.segs.length c2]) t ∧ Below wx.heap.size wx w') := fun wx bx => (LogW.toLog_any _ t wx 0 w.heap.size (HV.out.below (chain B17.out bx)) (by have := bx.size; omega) FW.out).mono fun e w' ⟨v', x1, x2, x3⟩ => by
          obtain ⟨sv, rfl, hs⟩ := x2
          obtain ⟨_, ⟨_, A2, c2, rfl, _⟩, _⟩ := id hs
          exact ⟨A2, c2, x1, ⟨_, rfl, hs⟩, x3⟩
        have TB : Hid (∀ wx : World, Below w17.heap.size w17 wx → Calls Tryz.prog 8 #[.agg #[.int .i64 tb.base, .int .i64 tb.epoch, .int .i64 tb.producer, .int .i64 tb.turn, .int .i64 tb.seq, .int .i64 tb.flags, .slice Ab tb.recs.length cb]] wx fun e w' => ∃ A5 c5, e = .returned (.agg #[.int .i64 tb.base, .int .i64 tb.epoch, .int .i64 tb.producer, .int .i64 tb.turn, .int .i64 tb.seq, .int .i64 tb.flags, .slice A5 tb.recs.length c5]) ∧ BatAt w' wx.heap.size w'.heap.size (.agg #[.int .i64 tb.base, .int .i64 tb.epoch, .int .i64 tb.producer, .int .i64 tb.turn, .int .i64 tb.seq, .int .i64 tb.flags, .slice A5 tb.recs.length c5]) tb ∧ Below wx.heap.size wx w') := fun wx bx => (BatW.toBatch_any _ tb wx 0 w.heap.size (HB.out.below (chain B17.out bx)) (by have := bx.size; omega) FB.out).mono fun e w' ⟨v', x1, x2, x3⟩ => by
          obtain ⟨sv, rfl, hs⟩ := x2
          obtain ⟨_, ⟨_, A5, c5, rfl, _⟩, _⟩ := id hs
          exact ⟨A5, c5, x1, ⟨_, rfl, hs⟩, x3⟩
        have AP : Hid (∀ (wx : World) (A2 : Option Addr) (c2 : Nat) (A5 : Option Addr) (c5 : Nat) (lo lo2 b b2 : Nat), LogAt wx lo b (.agg #[.int .i64 t.start, .int .i64 t.next, .int .i64 t.roll, .slice A2 t.segs.length c2]) t → BatAt wx lo2 b2 (.agg #[.int .i64 tb.base, .int .i64 tb.epoch, .int .i64 tb.producer, .int .i64 tb.turn, .int .i64 tb.seq, .int .i64 tb.flags, .slice A5 tb.recs.length c5]) tb → b ≤ wx.heap.size → b2 ≤ wx.heap.size → Calls Tryz.prog 9 #[.agg #[.int .i64 t.start, .int .i64 t.next, .int .i64 t.roll, .slice A2 t.segs.length c2], .agg #[.int .i64 tb.base, .int .i64 tb.epoch, .int .i64 tb.producer, .int .i64 tb.turn, .int .i64 tb.seq, .int .i64 tb.flags, .slice A5 tb.recs.length c5]] wx fun e w' => ∃ A3 c3, e = .returned (.tuple #[.agg #[.int .i64 L.start, .int .i64 L.next, .int .i64 L.roll, .slice A3 L.segs.length c3], .int .i64 cd]) ∧ SegsAt w' wx.heap.size w'.heap.size (.slice A3 L.segs.length c3) L.segs ∧ Below wx.heap.size wx w') := fun wx A2 c2 A5 c5 lo lo2 b b2 h1 h2 h3 h4 => (CSI.out _ _ wx lo b lo2 b2 h1 h2 h3 h4 FW.out FB.out).mono fun e w' ⟨sv, x1, x2, x3⟩ => by
          obtain ⟨_, ⟨_, A3, c3, rfl, _⟩, _⟩ := id x2
          exact ⟨A3, c3, x1, x2, x3⟩
        clear CSI CI CS MK MB HMM HF HFB
        have VF : Hid (∀ (wa wb wd : World) (o : Nat), wa.heap[o]? = some (.cells (logArr ⟨0, 0, 0, []⟩ (.slice none 0 0)) 32 (0, 0)) → Below wa.heap.size wa wb → Below wb.heap.size wb wd → wd.heap[o]? = some (.cells (logArr ⟨0, 0, 0, []⟩ (.slice none 0 0)) 32 (0, 0))) := fun wa wb wd o h1 h2 h3 => by
          have hl := (Array.getElem?_eq_some_iff.1 h1).1
          have hz := h2.size
          exact (h3.block o (by omega)).trans ((h2.block o hl).trans h1)
        have BB1 : Hid (∀ (wb : World) (o : Obj) {n : Nat}, n ≤ wb.heap.size → Below n wb (wb.alloc o)) := fun wb o n h => (below1 wb o).mono h
        have CF : Hid (∀ wx : World, Below w17.heap.size w17 wx → wx.cell? ⟨w.heap.size, 0, none⟩ = some (.int .i64 t.start) ∧ wx.cell? ⟨w.heap.size, 1, none⟩ = some (.int .i64 t.next) ∧ wx.cell? ⟨w.heap.size, 2, none⟩ = some (.int .i64 t.roll) ∧ wx.cell? ⟨w.heap.size, 3, none⟩ = some (.slice A t.segs.length c) ∧ wx.cell? ⟨w.heap.size + 1, 0, none⟩ = some (.int .i64 tb.base) ∧ wx.cell? ⟨w.heap.size + 1, 1, none⟩ = some (.int .i64 tb.epoch) ∧ wx.cell? ⟨w.heap.size + 1, 2, none⟩ = some (.int .i64 tb.producer) ∧ wx.cell? ⟨w.heap.size + 1, 3, none⟩ = some (.int .i64 tb.turn) ∧ wx.cell? ⟨w.heap.size + 1, 4, none⟩ = some (.int .i64 tb.seq) ∧ wx.cell? ⟨w.heap.size + 1, 5, none⟩ = some (.int .i64 tb.flags) ∧ wx.cell? ⟨w.heap.size + 1, 6, none⟩ = some (.slice Ab tb.recs.length cb)) := fun wx bx => by
          obtain ⟨⟨x0, x1, x2, x3⟩, x4⟩ := CEL.out wx bx
          exact ⟨x0, x1, x2, x3, x4⟩
        have CK : Hid (∀ (wd : World) (o : Nat), Below w17.heap.size w17 wd → w17.heap.size ≤ o → ∀ z0 z1 z2 z3 : Value, ((((wd.setCell ⟨o, 0, none⟩ z0).setCell ⟨o, 1, none⟩ z1).setCell ⟨o, 2, none⟩ z2).setCell ⟨o, 3, none⟩ z3).cell? ⟨w.heap.size, 0, none⟩ = some (.int .i64 t.start) ∧ ((((wd.setCell ⟨o, 0, none⟩ z0).setCell ⟨o, 1, none⟩ z1).setCell ⟨o, 2, none⟩ z2).setCell ⟨o, 3, none⟩ z3).cell? ⟨w.heap.size, 1, none⟩ = some (.int .i64 t.next) ∧ ((((wd.setCell ⟨o, 0, none⟩ z0).setCell ⟨o, 1, none⟩ z1).setCell ⟨o, 2, none⟩ z2).setCell ⟨o, 3, none⟩ z3).cell? ⟨w.heap.size, 2, none⟩ = some (.int .i64 t.roll) ∧ ((((wd.setCell ⟨o, 0, none⟩ z0).setCell ⟨o, 1, none⟩ z1).setCell ⟨o, 2, none⟩ z2).setCell ⟨o, 3, none⟩ z3).cell? ⟨w.heap.size, 3, none⟩ = some (.slice A t.segs.length c) ∧ ((((wd.setCell ⟨o, 0, none⟩ z0).setCell ⟨o, 1, none⟩ z1).setCell ⟨o, 2, none⟩ z2).setCell ⟨o, 3, none⟩ z3).cell? ⟨w.heap.size + 1, 0, none⟩ = some (.int .i64 tb.base) ∧ ((((wd.setCell ⟨o, 0, none⟩ z0).setCell ⟨o, 1, none⟩ z1).setCell ⟨o, 2, none⟩ z2).setCell ⟨o, 3, none⟩ z3).cell? ⟨w.heap.size + 1, 1, none⟩ = some (.int .i64 tb.epoch) ∧ ((((wd.setCell ⟨o, 0, none⟩ z0).setCell ⟨o, 1, none⟩ z1).setCell ⟨o, 2, none⟩ z2).setCell ⟨o, 3, none⟩ z3).cell? ⟨w.heap.size + 1, 2, none⟩ = some (.int .i64 tb.producer) ∧ ((((wd.setCell ⟨o, 0, none⟩ z0).setCell ⟨o, 1, none⟩ z1).setCell ⟨o, 2, none⟩ z2).setCell ⟨o, 3, none⟩ z3).cell? ⟨w.heap.size + 1, 3, none⟩ = some (.int .i64 tb.turn) ∧ ((((wd.setCell ⟨o, 0, none⟩ z0).setCell ⟨o, 1, none⟩ z1).setCell ⟨o, 2, none⟩ z2).setCell ⟨o, 3, none⟩ z3).cell? ⟨w.heap.size + 1, 4, none⟩ = some (.int .i64 tb.seq) ∧ ((((wd.setCell ⟨o, 0, none⟩ z0).setCell ⟨o, 1, none⟩ z1).setCell ⟨o, 2, none⟩ z2).setCell ⟨o, 3, none⟩ z3).cell? ⟨w.heap.size + 1, 5, none⟩ = some (.int .i64 tb.flags) ∧ ((((wd.setCell ⟨o, 0, none⟩ z0).setCell ⟨o, 1, none⟩ z1).setCell ⟨o, 2, none⟩ z2).setCell ⟨o, 3, none⟩ z3).cell? ⟨w.heap.size + 1, 6, none⟩ = some (.slice Ab tb.recs.length cb)) := fun wd o bx ho z0 z1 z2 z3 => CF.out _ ((((bx.setCell (p := ⟨o, 0, none⟩) ho z0).setCell (p := ⟨o, 1, none⟩) ho z1).setCell (p := ⟨o, 2, none⟩) ho z2).setCell (p := ⟨o, 3, none⟩) ho z3)
        clear HV HB B0 T1 Y1 B1 B5
        go_region_held3 (fun w' => w'.cell? ⟨w.heap.size, 0, none⟩ = some (.int .i64 t.start) ∧ w'.cell? ⟨w.heap.size, 1, none⟩ = some (.int .i64 t.next) ∧ w'.cell? ⟨w.heap.size, 2, none⟩ = some (.int .i64 t.roll) ∧ w'.cell? ⟨w.heap.size, 3, none⟩ = some (.slice A t.segs.length c) ∧ w'.cell? ⟨w.heap.size + 1, 0, none⟩ = some (.int .i64 tb.base) ∧ w'.cell? ⟨w.heap.size + 1, 1, none⟩ = some (.int .i64 tb.epoch) ∧ w'.cell? ⟨w.heap.size + 1, 2, none⟩ = some (.int .i64 tb.producer) ∧ w'.cell? ⟨w.heap.size + 1, 3, none⟩ = some (.int .i64 tb.turn) ∧ w'.cell? ⟨w.heap.size + 1, 4, none⟩ = some (.int .i64 tb.seq) ∧ w'.cell? ⟨w.heap.size + 1, 5, none⟩ = some (.int .i64 tb.flags) ∧ w'.cell? ⟨w.heap.size + 1, 6, none⟩ = some (.slice Ab tb.recs.length cb)) (first | exact CF.out _ (Below.refl _ _).drew | exact CF.out _ ((below1 w17 _).drew) | exact CF.out _ BA.out | exact CF.out _ (chain BA.out (below1 wa _)) | exact CF.out _ BB.out | exact CF.out _ (chain BB.out (below1 wb _)) | exact CF.out _ BD.out | exact CF.out _ (chain BD.out (below1 wd _)) | exact KE.out _ _ _ _ | exact CF.out _ (Below.refl _ _) | go_keep)
        (first
          | (go_at_call 7; (with_reducible refine (TL.out w17.drew (Below.refl _ _).drew).mono ?_); rintro e wa ⟨A2, c2, rfl, la, ba⟩; have BA : Hid (Below w17.heap.size w17 wa) := ⟨ba.os, ba.tape, ba.output, ba.size, ba.block⟩; have LA := Seg.hid la; obtain ⟨⟨d0, d1, d2, d3⟩, z0, z1, z2, z3, z4, z5, z6⟩ := CEL.out wa BA.out; have hwa : w.heap.size < wa.heap.size := Nat.lt_of_lt_of_le h17 BA.out.size; have hwa1 : w.heap.size + 1 < wa.heap.size := Nat.lt_of_lt_of_le h171 BA.out.size; clear la ba)
          | (go_at_call 7; (with_reducible refine (TL.out (w17.drew.alloc _) ((below1 w17 _).drew)).mono ?_); rintro e wa ⟨A2, c2, rfl, la, ba⟩; have ba' : Below (w17.alloc (.cells (logArr ⟨0, 0, 0, []⟩ (.slice none 0 0)) 32 (0, 0))).heap.size (w17.alloc (.cells (logArr ⟨0, 0, 0, []⟩ (.slice none 0 0)) 32 (0, 0))) wa := ⟨ba.os, ba.tape, ba.output, ba.size, ba.block⟩; have VA : Hid (wa.heap[w17.heap.size]? = some (.cells (logArr ⟨0, 0, 0, []⟩ (.slice none 0 0)) 32 (0, 0))) := (ba'.block w17.heap.size (by rw [hsz]; exact Nat.lt_succ_self _)).trans (heap_alloc_new w17 _); have BA : Hid (Below w17.heap.size w17 wa) := chain (below1 w17 _) ba'; have LA := Seg.hid la; obtain ⟨⟨d0, d1, d2, d3⟩, z0, z1, z2, z3, z4, z5, z6⟩ := CEL.out wa BA.out; have hwa : w.heap.size < wa.heap.size := Nat.lt_of_lt_of_le h17 BA.out.size; have hwa1 : w.heap.size + 1 < wa.heap.size := Nat.lt_of_lt_of_le h171 BA.out.size; clear la ba)
          | (go_at_call 7; (with_reducible refine (TL.out (w17.alloc _).drew ((below1 w17 _).drew)).mono ?_); rintro e wa ⟨A2, c2, rfl, la, ba⟩; have ba' : Below (w17.alloc (.cells (logArr ⟨0, 0, 0, []⟩ (.slice none 0 0)) 32 (0, 0))).heap.size (w17.alloc (.cells (logArr ⟨0, 0, 0, []⟩ (.slice none 0 0)) 32 (0, 0))) wa := ⟨ba.os, ba.tape, ba.output, ba.size, ba.block⟩; have VA : Hid (wa.heap[w17.heap.size]? = some (.cells (logArr ⟨0, 0, 0, []⟩ (.slice none 0 0)) 32 (0, 0))) := (ba'.block w17.heap.size (by rw [hsz]; exact Nat.lt_succ_self _)).trans (heap_alloc_new w17 _); have BA : Hid (Below w17.heap.size w17 wa) := chain (below1 w17 _) ba'; have LA := Seg.hid la; obtain ⟨⟨d0, d1, d2, d3⟩, z0, z1, z2, z3, z4, z5, z6⟩ := CEL.out wa BA.out; have hwa : w.heap.size < wa.heap.size := Nat.lt_of_lt_of_le h17 BA.out.size; have hwa1 : w.heap.size + 1 < wa.heap.size := Nat.lt_of_lt_of_le h171 BA.out.size; clear la ba ba')
          | (go_at_call 8; (with_reducible refine (TB.out wa BA.out).mono ?_); rintro e wb ⟨A5, c5, rfl, tbb, bb⟩; have BB0 := Seg.hid bb; have BB := Seg.hid (chain BA.out bb); have LBb := Seg.hid (LA.out.below bb); have TBB := Seg.hid tbb; clear tbb bb)
          | (go_at_call 8; (with_reducible refine (TB.out (wa.alloc _) (chain BA.out (below1 wa _))).mono ?_); rintro e wb ⟨A5, c5, rfl, tbb, bb⟩; have VB : Hid (wb.heap[wa.heap.size]? = some (.cells (logArr ⟨0, 0, 0, []⟩ (.slice none 0 0)) 32 (0, 0))) := (bb.block wa.heap.size (by rw [hsz]; exact Nat.lt_succ_self _)).trans (heap_alloc_new wa _); have BB0 : Hid (Below wa.heap.size wa wb) := chain (below1 wa (.cells (logArr ⟨0, 0, 0, []⟩ (.slice none 0 0)) 32 (0, 0))) bb; have BB := Seg.hid (chain BA.out BB0.out); have LBb := Seg.hid (LA.out.below BB0.out); have TBB := Seg.hid tbb; clear tbb bb)
          | (go_at_call 9; (with_reducible refine (AP.out wb A2 c2 A5 c5 _ _ _ _ LBb.out TBB.out BB0.out.size (Nat.le_refl _)).mono ?_); rintro e wd ⟨A3, c3, rfl, sd, bd⟩; have SD := Seg.hid sd; have BD0 := Seg.hid bd; have BD := Seg.hid (chain BB.out BD0.out); have KE := Seg.hid (CK.out wd w17.heap.size BD.out (Nat.le_refl _)); have VD := Seg.hid (VF.out wa wb wd w17.heap.size VA.out BB0.out BD0.out); obtain ⟨k0, k1, k2, k3⟩ := four VD.out; have n0 := frozen_of_row wd _ 0 _ _ VD.out; have n1 := frozen_of_row wd _ 1 _ _ VD.out; have n2 := frozen_of_row wd _ 2 _ _ VD.out; have n3 := frozen_of_row wd _ 3 _ _ VD.out; have ld : w17.heap.size < wd.heap.size := (Array.getElem?_eq_some_iff.1 VD.out).1; have C1 := VA; clear sd bd)
          | (go_at_call 9; (with_reducible refine (AP.out wb A2 c2 A5 c5 _ _ _ _ LBb.out TBB.out BB0.out.size (Nat.le_refl _)).mono ?_); rintro e wd ⟨A3, c3, rfl, sd, bd⟩; have SD := Seg.hid sd; have BD0 := Seg.hid bd; have BD := Seg.hid (chain BB.out BD0.out); have KE := Seg.hid (CK.out wd wa.heap.size BD.out BA.out.size); have VD := Seg.hid (VF.out wb wb wd wa.heap.size VB.out (Below.refl _ _) BD0.out); obtain ⟨k0, k1, k2, k3⟩ := four VD.out; have n0 := frozen_of_row wd _ 0 _ _ VD.out; have n1 := frozen_of_row wd _ 1 _ _ VD.out; have n2 := frozen_of_row wd _ 2 _ _ VD.out; have n3 := frozen_of_row wd _ 3 _ _ VD.out; have ld : wa.heap.size < wd.heap.size := (Array.getElem?_eq_some_iff.1 VD.out).1; have C2 := VB; clear sd bd)
          | (go_at_call 9; (with_reducible refine (AP.out wb A2 c2 A5 c5 _ _ _ _ LBb.out TBB.out BB0.out.size (Nat.le_refl _)).mono ?_); rintro e wd ⟨A3, c3, rfl, sd, bd⟩; have SD := Seg.hid sd; have BD0 := Seg.hid bd; have BD := Seg.hid (chain BB.out BD0.out); have C4 := BD0; clear sd bd)
          | (go_at_call 9; (with_reducible refine (AP.out (wb.alloc _) A2 c2 A5 c5 _ _ _ _ (LBb.out.below (BB1.out wb _ BB0.out.size)) (TBB.out.below (below1 wb _)) (Nat.le_trans BB0.out.size (below1 wb _).size) (below1 wb _).size).mono ?_); rintro e wd ⟨A3, c3, rfl, sd, bd⟩; have SD := Seg.hid sd; have BD0 : Hid (Below wb.heap.size wb wd) := chain (below1 wb (.cells (logArr ⟨0, 0, 0, []⟩ (.slice none 0 0)) 32 (0, 0))) bd; have BD := Seg.hid (chain BB.out BD0.out); have KE := Seg.hid (CK.out wd wb.heap.size BD.out BB.out.size); have VD : Hid (wd.heap[wb.heap.size]? = some (.cells (logArr ⟨0, 0, 0, []⟩ (.slice none 0 0)) 32 (0, 0))) := (bd.block wb.heap.size (by rw [hsz]; exact Nat.lt_succ_self _)).trans (heap_alloc_new wb _); obtain ⟨k0, k1, k2, k3⟩ := four VD.out; have n0 := frozen_of_row wd _ 0 _ _ VD.out; have n1 := frozen_of_row wd _ 1 _ _ VD.out; have n2 := frozen_of_row wd _ 2 _ _ VD.out; have n3 := frozen_of_row wd _ 3 _ _ VD.out; have ld : wb.heap.size < wd.heap.size := (Array.getElem?_eq_some_iff.1 VD.out).1; have C3 := VD; clear sd bd))
        all_goals
          first
          | exact J4 (i5_set VD.out SD.out BD.out (Nat.le_refl _) (Nat.lt_of_lt_of_le (Array.getElem?_eq_some_iff.1 C1.out).1 BB0.out.size) rfl)
          | exact J4 (i5_set VD.out SD.out BD.out BA.out.size (Array.getElem?_eq_some_iff.1 C2.out).1 rfl)
          | exact J4 (i5_set C3.out SD.out BD.out BB.out.size (by rw [hsz]; exact Nat.lt_succ_self _) rfl)
          | exact J4 ⟨heap_alloc_new _ _, SD.out.keep fun g h1 h2 => (below1 wd _).block g h2, chain BD.out (below1 wd _), by rw [hsz]; omega⟩
      obtain ⟨c0, c1, c2', c3', c4', c5', c6'⟩ := seven ST10.out.XB
      obtain ⟨y0, y1, y2, y3, y4, y5, y6⟩ := seven ST10.out.Y
      go_region_with (first | (go_at_call 8; refine (BatW.toBatch_any _ tb w10.drew 0 w.heap.size (HB.out.below ST10.out.B.drew) (by show _ ≤ w10.heap.size; omega) FB.out).mono ?_; rintro e w11 ⟨v11, rfl, r11, b11⟩; have R11 := Seg.hid (r11.mono (Nat.zero_le _) (Nat.le_refl _)); have BD11 : Hid (Below w8.heap.size w8 w11) := chain B10.out ⟨b11.os, b11.tape, b11.output, b11.size, b11.block⟩; have X11 := Seg.hid (RTB.out w11 BD11.out); obtain ⟨j0, j1, j2, j3, j4, j5, j6⟩ := seven ((b11.block w6.heap.size (by show _ < w10.heap.size; omega)).trans ST10.out.XB); have l11 : w6.heap.size < w11.heap.size := (by have := b11.size; exact Nat.lt_of_lt_of_le (by show _ < w10.heap.size; omega) this); clear b11 r11) | (go_at_call 11; refine (BatW.eqBatch_any _ _ tb w11 _ _ w11.heap.size X11.out R11.out (Nat.le_refl _)).mono ?_; rintro e w12 ⟨rfl, b12⟩; have BD12 : Hid (Below w8.heap.size w8 w12) := chain BD11.out b12; clear b12))
      all_goals exact J3 BD12.out
    obtain ⟨c0, c1, c2', c3'⟩ := four ST8.out.X
    obtain ⟨d0, d1, d2, d3⟩ := four ST8.out.T
    go_region_with (first | (go_at_call 7; refine (LogW.toLog_any _ t w8.drew 0 w.heap.size (HV.out.below ST8.out.B.drew) (by show _ ≤ w8.heap.size; omega) FW.out).mono ?_; rintro e w9 ⟨v9, rfl, r9, b9⟩; have R9 := Seg.hid (r9.mono (Nat.zero_le _) (Nat.le_refl _)); have BD9 : Hid (Below w8.heap.size w8 w9) := ⟨b9.os, b9.tape, b9.output, b9.size, b9.block⟩; have X9 := Seg.hid (RT.out w9 BD9.out); obtain ⟨j0, j1, j2, j3⟩ := four ((b9.block w5.heap.size (by show _ < w8.heap.size; omega)).trans ST8.out.X); have l9 : w5.heap.size < w9.heap.size := (by have := b9.size; exact Nat.lt_of_lt_of_le (by show _ < w8.heap.size; omega) this); clear b9 r9) | (go_at_call 10; refine (LogW.eqLog_any _ _ t w9 _ _ w9.heap.size X9.out R9.out (Nat.le_refl _)).mono ?_; rintro e w10 ⟨rfl, b10⟩; have BD10 : Hid (Below w8.heap.size w8 w10) := chain BD9.out b10; clear b10))
    all_goals exact J2 BD10.out
  have VF : Hid (∀ (wa wb wd : World) (o : Nat), wa.heap[o]? = some (.cells (logArr ⟨0, 0, 0, []⟩ (.slice none 0 0)) 32 (0, 0)) → Below wa.heap.size wa wb → Below wb.heap.size wb wd → wd.heap[o]? = some (.cells (logArr ⟨0, 0, 0, []⟩ (.slice none 0 0)) 32 (0, 0))) := fun wa wb wd o h1 h2 h3 => by
    have hl := (Array.getElem?_eq_some_iff.1 h1).1
    have hz := h2.size
    exact (h3.block o (by omega)).trans ((h2.block o hl).trans h1)
  have BB1 : Hid (∀ (wb : World) (o : Obj) {n : Nat}, n ≤ wb.heap.size → Below n wb (wb.alloc o)) := fun wb o n h => (below1 wb o).mono h
  have CF : Hid (∀ wx : World, Below w1.heap.size w1 wx → wx.cell? ⟨w.heap.size, 0, none⟩ = some (.int .i64 t.start) ∧ wx.cell? ⟨w.heap.size, 1, none⟩ = some (.int .i64 t.next) ∧ wx.cell? ⟨w.heap.size, 2, none⟩ = some (.int .i64 t.roll) ∧ wx.cell? ⟨w.heap.size, 3, none⟩ = some (.slice A t.segs.length c) ∧ wx.cell? ⟨w.heap.size + 1, 0, none⟩ = some (.int .i64 tb.base) ∧ wx.cell? ⟨w.heap.size + 1, 1, none⟩ = some (.int .i64 tb.epoch) ∧ wx.cell? ⟨w.heap.size + 1, 2, none⟩ = some (.int .i64 tb.producer) ∧ wx.cell? ⟨w.heap.size + 1, 3, none⟩ = some (.int .i64 tb.turn) ∧ wx.cell? ⟨w.heap.size + 1, 4, none⟩ = some (.int .i64 tb.seq) ∧ wx.cell? ⟨w.heap.size + 1, 5, none⟩ = some (.int .i64 tb.flags) ∧ wx.cell? ⟨w.heap.size + 1, 6, none⟩ = some (.slice Ab tb.recs.length cb)) := fun wx bx => by
    obtain ⟨⟨x0, x1, x2, x3⟩, x4⟩ := CEL.out wx bx
    exact ⟨x0, x1, x2, x3, x4⟩
  have CK : Hid (∀ (wd : World) (o : Nat), Below w1.heap.size w1 wd → w1.heap.size ≤ o → ∀ z0 z1 z2 z3 : Value, ((((wd.setCell ⟨o, 0, none⟩ z0).setCell ⟨o, 1, none⟩ z1).setCell ⟨o, 2, none⟩ z2).setCell ⟨o, 3, none⟩ z3).cell? ⟨w.heap.size, 0, none⟩ = some (.int .i64 t.start) ∧ ((((wd.setCell ⟨o, 0, none⟩ z0).setCell ⟨o, 1, none⟩ z1).setCell ⟨o, 2, none⟩ z2).setCell ⟨o, 3, none⟩ z3).cell? ⟨w.heap.size, 1, none⟩ = some (.int .i64 t.next) ∧ ((((wd.setCell ⟨o, 0, none⟩ z0).setCell ⟨o, 1, none⟩ z1).setCell ⟨o, 2, none⟩ z2).setCell ⟨o, 3, none⟩ z3).cell? ⟨w.heap.size, 2, none⟩ = some (.int .i64 t.roll) ∧ ((((wd.setCell ⟨o, 0, none⟩ z0).setCell ⟨o, 1, none⟩ z1).setCell ⟨o, 2, none⟩ z2).setCell ⟨o, 3, none⟩ z3).cell? ⟨w.heap.size, 3, none⟩ = some (.slice A t.segs.length c) ∧ ((((wd.setCell ⟨o, 0, none⟩ z0).setCell ⟨o, 1, none⟩ z1).setCell ⟨o, 2, none⟩ z2).setCell ⟨o, 3, none⟩ z3).cell? ⟨w.heap.size + 1, 0, none⟩ = some (.int .i64 tb.base) ∧ ((((wd.setCell ⟨o, 0, none⟩ z0).setCell ⟨o, 1, none⟩ z1).setCell ⟨o, 2, none⟩ z2).setCell ⟨o, 3, none⟩ z3).cell? ⟨w.heap.size + 1, 1, none⟩ = some (.int .i64 tb.epoch) ∧ ((((wd.setCell ⟨o, 0, none⟩ z0).setCell ⟨o, 1, none⟩ z1).setCell ⟨o, 2, none⟩ z2).setCell ⟨o, 3, none⟩ z3).cell? ⟨w.heap.size + 1, 2, none⟩ = some (.int .i64 tb.producer) ∧ ((((wd.setCell ⟨o, 0, none⟩ z0).setCell ⟨o, 1, none⟩ z1).setCell ⟨o, 2, none⟩ z2).setCell ⟨o, 3, none⟩ z3).cell? ⟨w.heap.size + 1, 3, none⟩ = some (.int .i64 tb.turn) ∧ ((((wd.setCell ⟨o, 0, none⟩ z0).setCell ⟨o, 1, none⟩ z1).setCell ⟨o, 2, none⟩ z2).setCell ⟨o, 3, none⟩ z3).cell? ⟨w.heap.size + 1, 4, none⟩ = some (.int .i64 tb.seq) ∧ ((((wd.setCell ⟨o, 0, none⟩ z0).setCell ⟨o, 1, none⟩ z1).setCell ⟨o, 2, none⟩ z2).setCell ⟨o, 3, none⟩ z3).cell? ⟨w.heap.size + 1, 5, none⟩ = some (.int .i64 tb.flags) ∧ ((((wd.setCell ⟨o, 0, none⟩ z0).setCell ⟨o, 1, none⟩ z1).setCell ⟨o, 2, none⟩ z2).setCell ⟨o, 3, none⟩ z3).cell? ⟨w.heap.size + 1, 6, none⟩ = some (.slice Ab tb.recs.length cb)) := fun wd o bx ho z0 z1 z2 z3 => CF.out _ ((((bx.setCell (p := ⟨o, 0, none⟩) ho z0).setCell (p := ⟨o, 1, none⟩) ho z1).setCell (p := ⟨o, 2, none⟩) ho z2).setCell (p := ⟨o, 3, none⟩) ho z3)
  clear HV HB HF HFB B0 aK
  go_region_held3 (fun w' => w'.cell? ⟨w.heap.size, 0, none⟩ = some (.int .i64 t.start) ∧ w'.cell? ⟨w.heap.size, 1, none⟩ = some (.int .i64 t.next) ∧ w'.cell? ⟨w.heap.size, 2, none⟩ = some (.int .i64 t.roll) ∧ w'.cell? ⟨w.heap.size, 3, none⟩ = some (.slice A t.segs.length c) ∧ w'.cell? ⟨w.heap.size + 1, 0, none⟩ = some (.int .i64 tb.base) ∧ w'.cell? ⟨w.heap.size + 1, 1, none⟩ = some (.int .i64 tb.epoch) ∧ w'.cell? ⟨w.heap.size + 1, 2, none⟩ = some (.int .i64 tb.producer) ∧ w'.cell? ⟨w.heap.size + 1, 3, none⟩ = some (.int .i64 tb.turn) ∧ w'.cell? ⟨w.heap.size + 1, 4, none⟩ = some (.int .i64 tb.seq) ∧ w'.cell? ⟨w.heap.size + 1, 5, none⟩ = some (.int .i64 tb.flags) ∧ w'.cell? ⟨w.heap.size + 1, 6, none⟩ = some (.slice Ab tb.recs.length cb)) (first | exact CF.out _ (Below.refl _ _).drew | exact CF.out _ ((below1 w1 _).drew) | exact CF.out _ BA.out | exact CF.out _ (chain BA.out (below1 wa _)) | exact CF.out _ BB.out | exact CF.out _ (chain BB.out (below1 wb _)) | exact CF.out _ BD.out | exact CF.out _ (chain BD.out (below1 wd _)) | exact KE.out _ _ _ _ | exact CF.out _ (Below.refl _ _) | go_keep)
  (first
    | (go_at_call 7; (with_reducible refine (TL.out w1.drew (Below.refl _ _).drew).mono ?_); rintro e wa ⟨A2, c2, rfl, la, ba⟩; have BA : Hid (Below w1.heap.size w1 wa) := ⟨ba.os, ba.tape, ba.output, ba.size, ba.block⟩; have LA := Seg.hid la; obtain ⟨⟨d0, d1, d2, d3⟩, z0, z1, z2, z3, z4, z5, z6⟩ := CEL.out wa BA.out; have hwa : w.heap.size < wa.heap.size := Nat.lt_of_lt_of_le hw1 BA.out.size; have hwa1 : w.heap.size + 1 < wa.heap.size := Nat.lt_of_lt_of_le hw11 BA.out.size; clear la ba)
    | (go_at_call 7; (with_reducible refine (TL.out (w1.drew.alloc _) ((below1 w1 _).drew)).mono ?_); rintro e wa ⟨A2, c2, rfl, la, ba⟩; have ba' : Below (w1.alloc (.cells (logArr ⟨0, 0, 0, []⟩ (.slice none 0 0)) 32 (0, 0))).heap.size (w1.alloc (.cells (logArr ⟨0, 0, 0, []⟩ (.slice none 0 0)) 32 (0, 0))) wa := ⟨ba.os, ba.tape, ba.output, ba.size, ba.block⟩; have VA : Hid (wa.heap[w1.heap.size]? = some (.cells (logArr ⟨0, 0, 0, []⟩ (.slice none 0 0)) 32 (0, 0))) := (ba'.block w1.heap.size (by rw [hsz]; exact Nat.lt_succ_self _)).trans (heap_alloc_new w1 _); have BA : Hid (Below w1.heap.size w1 wa) := chain (below1 w1 _) ba'; have LA := Seg.hid la; obtain ⟨⟨d0, d1, d2, d3⟩, z0, z1, z2, z3, z4, z5, z6⟩ := CEL.out wa BA.out; have hwa : w.heap.size < wa.heap.size := Nat.lt_of_lt_of_le hw1 BA.out.size; have hwa1 : w.heap.size + 1 < wa.heap.size := Nat.lt_of_lt_of_le hw11 BA.out.size; clear la ba)
    | (go_at_call 7; (with_reducible refine (TL.out (w1.alloc _).drew ((below1 w1 _).drew)).mono ?_); rintro e wa ⟨A2, c2, rfl, la, ba⟩; have ba' : Below (w1.alloc (.cells (logArr ⟨0, 0, 0, []⟩ (.slice none 0 0)) 32 (0, 0))).heap.size (w1.alloc (.cells (logArr ⟨0, 0, 0, []⟩ (.slice none 0 0)) 32 (0, 0))) wa := ⟨ba.os, ba.tape, ba.output, ba.size, ba.block⟩; have VA : Hid (wa.heap[w1.heap.size]? = some (.cells (logArr ⟨0, 0, 0, []⟩ (.slice none 0 0)) 32 (0, 0))) := (ba'.block w1.heap.size (by rw [hsz]; exact Nat.lt_succ_self _)).trans (heap_alloc_new w1 _); have BA : Hid (Below w1.heap.size w1 wa) := chain (below1 w1 _) ba'; have LA := Seg.hid la; obtain ⟨⟨d0, d1, d2, d3⟩, z0, z1, z2, z3, z4, z5, z6⟩ := CEL.out wa BA.out; have hwa : w.heap.size < wa.heap.size := Nat.lt_of_lt_of_le hw1 BA.out.size; have hwa1 : w.heap.size + 1 < wa.heap.size := Nat.lt_of_lt_of_le hw11 BA.out.size; clear la ba ba')
    | (go_at_call 8; (with_reducible refine (TB.out wa BA.out).mono ?_); rintro e wb ⟨A5, c5, rfl, tbb, bb⟩; have BB0 := Seg.hid bb; have BB := Seg.hid (chain BA.out bb); have LBb := Seg.hid (LA.out.below bb); have TBB := Seg.hid tbb; clear tbb bb)
    | (go_at_call 8; (with_reducible refine (TB.out (wa.alloc _) (chain BA.out (below1 wa _))).mono ?_); rintro e wb ⟨A5, c5, rfl, tbb, bb⟩; have VB : Hid (wb.heap[wa.heap.size]? = some (.cells (logArr ⟨0, 0, 0, []⟩ (.slice none 0 0)) 32 (0, 0))) := (bb.block wa.heap.size (by rw [hsz]; exact Nat.lt_succ_self _)).trans (heap_alloc_new wa _); have BB0 : Hid (Below wa.heap.size wa wb) := chain (below1 wa (.cells (logArr ⟨0, 0, 0, []⟩ (.slice none 0 0)) 32 (0, 0))) bb; have BB := Seg.hid (chain BA.out BB0.out); have LBb := Seg.hid (LA.out.below BB0.out); have TBB := Seg.hid tbb; clear tbb bb)
    | (go_at_call 6; (with_reducible refine (AP.out wb A2 c2 A5 c5 _ _ _ _ LBb.out TBB.out BB0.out.size (Nat.le_refl _)).mono ?_); rintro e wd ⟨A3, c3, rfl, sd, bd⟩; have SD := Seg.hid sd; have BD0 := Seg.hid bd; have BD := Seg.hid (chain BB.out BD0.out); have KE := Seg.hid (CK.out wd w1.heap.size BD.out (Nat.le_refl _)); have VD := Seg.hid (VF.out wa wb wd w1.heap.size VA.out BB0.out BD0.out); obtain ⟨k0, k1, k2, k3⟩ := four VD.out; have n0 := frozen_of_row wd _ 0 _ _ VD.out; have n1 := frozen_of_row wd _ 1 _ _ VD.out; have n2 := frozen_of_row wd _ 2 _ _ VD.out; have n3 := frozen_of_row wd _ 3 _ _ VD.out; have ld : w1.heap.size < wd.heap.size := (Array.getElem?_eq_some_iff.1 VD.out).1; have C1 := VA; clear sd bd)
    | (go_at_call 6; (with_reducible refine (AP.out wb A2 c2 A5 c5 _ _ _ _ LBb.out TBB.out BB0.out.size (Nat.le_refl _)).mono ?_); rintro e wd ⟨A3, c3, rfl, sd, bd⟩; have SD := Seg.hid sd; have BD0 := Seg.hid bd; have BD := Seg.hid (chain BB.out BD0.out); have KE := Seg.hid (CK.out wd wa.heap.size BD.out BA.out.size); have VD := Seg.hid (VF.out wb wb wd wa.heap.size VB.out (Below.refl _ _) BD0.out); obtain ⟨k0, k1, k2, k3⟩ := four VD.out; have n0 := frozen_of_row wd _ 0 _ _ VD.out; have n1 := frozen_of_row wd _ 1 _ _ VD.out; have n2 := frozen_of_row wd _ 2 _ _ VD.out; have n3 := frozen_of_row wd _ 3 _ _ VD.out; have ld : wa.heap.size < wd.heap.size := (Array.getElem?_eq_some_iff.1 VD.out).1; have C2 := VB; clear sd bd)
    | (go_at_call 6; (with_reducible refine (AP.out wb A2 c2 A5 c5 _ _ _ _ LBb.out TBB.out BB0.out.size (Nat.le_refl _)).mono ?_); rintro e wd ⟨A3, c3, rfl, sd, bd⟩; have SD := Seg.hid sd; have BD0 := Seg.hid bd; have BD := Seg.hid (chain BB.out BD0.out); have C4 := BD0; clear sd bd)
    | (go_at_call 6; (with_reducible refine (AP.out (wb.alloc _) A2 c2 A5 c5 _ _ _ _ (LBb.out.below (BB1.out wb _ BB0.out.size)) (TBB.out.below (below1 wb _)) (Nat.le_trans BB0.out.size (below1 wb _).size) (below1 wb _).size).mono ?_); rintro e wd ⟨A3, c3, rfl, sd, bd⟩; have SD := Seg.hid sd; have BD0 : Hid (Below wb.heap.size wb wd) := chain (below1 wb (.cells (logArr ⟨0, 0, 0, []⟩ (.slice none 0 0)) 32 (0, 0))) bd; have BD := Seg.hid (chain BB.out BD0.out); have KE := Seg.hid (CK.out wd wb.heap.size BD.out BB.out.size); have VD : Hid (wd.heap[wb.heap.size]? = some (.cells (logArr ⟨0, 0, 0, []⟩ (.slice none 0 0)) 32 (0, 0))) := (bd.block wb.heap.size (by rw [hsz]; exact Nat.lt_succ_self _)).trans (heap_alloc_new wb _); obtain ⟨k0, k1, k2, k3⟩ := four VD.out; have n0 := frozen_of_row wd _ 0 _ _ VD.out; have n1 := frozen_of_row wd _ 1 _ _ VD.out; have n2 := frozen_of_row wd _ 2 _ _ VD.out; have n3 := frozen_of_row wd _ 3 _ _ VD.out; have ld : wb.heap.size < wd.heap.size := (Array.getElem?_eq_some_iff.1 VD.out).1; have C3 := VD; clear sd bd))
  all_goals
    have TD := (BD.out.block w.heap.size hw1).trans T1.out
    have YD := (BD.out.block (w.heap.size + 1) hw11).trans Y1.out
    first
    | exact J (i4_set TD YD VD.out SD.out (chain B1.out BD.out) (Nat.le_refl _) (Nat.lt_of_lt_of_le (Array.getElem?_eq_some_iff.1 C1.out).1 BB0.out.size) hw11 rfl)
    | exact J (i4_set TD YD VD.out SD.out (chain B1.out BD.out) BA.out.size (Array.getElem?_eq_some_iff.1 C2.out).1 hw11 rfl)
    | exact J (i4_set TD YD C3.out SD.out (chain B1.out BD.out) BB.out.size (by rw [hsz]; exact Nat.lt_succ_self _) hw11 rfl)
    | exact J ⟨((below1 wd _).block _ (by have := BD.out.size; omega)).trans TD, ((below1 wd _).block _ (by have := BD.out.size; omega)).trans YD, heap_alloc_new _ _, SD.out.keep fun g h1 h2 => (below1 wd _).block g h2, chain (chain B1.out BD.out) (below1 wd _), ⟨BD.out.size, by rw [hsz]; omega⟩, ⟨BB.out.size, by rw [hsz]; omega⟩, by omega⟩
end Go.Proofs.YtoplbemolnpngaaGreat.ExAp
