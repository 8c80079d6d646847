/- One Query of the call's own; the law's marks on it; A copier's list of its own, filled one by one, by sets. -/
import Derived.Test.YtboooabjeidmfaaJI39
import Derived.Test.YtboooabjeidmfaaJI41
import Derived.Test.YtboooabjeidmfaaJI16
import Derived.Test.YtboooabjeidmfaaJI38
namespace Go.Proofs.Ytboooabjeidmfaa.Ow
set_option maxRecDepth 8000
open Go.RowKit
open Recs
open Ls
set_option linter.unusedVariables false
def EOQry : Elt Qry := fun w S f u => (f 0 = .string u.fr ∧ f 1 = .string u.jn ∧ f 2 = .int .i64 u.wn ∧ f 3 = .string u.on ∧ f 4 = .string u.lk ∧ f 7 = .int .i64 u.win ∧ f 8 = .int .i64 u.size ∧ f 9 = .int .i64 u.every) ∧ ∃ Q : Nat → Nat → Prop, (∀ i y, Q i y → S y) ∧ (∀ i j, i ≠ j → ∀ y, Q i y → ¬ Q j y) ∧ StpsOwn w (Q 5) (f 5) u.wh ∧ StrsOwn w (Q 6) (f 6) u.gps ∧ GqtsOwn w (Q 10) (f 10) u.gets
theorem keepsOQry : KeepsO 11 EOQry := fun w w' S f f' t h hs hk hf => by
  obtain ⟨⟨s0, s1, s2, s3, s4, s7, s8, s9⟩, Q, q1, q2, l5, l6, l10⟩ := h
  exact ⟨⟨by rw [hf 0 (by omega)]; exact s0, by rw [hf 1 (by omega)]; exact s1, by rw [hf 2 (by omega)]; exact s2, by rw [hf 3 (by omega)]; exact s3, by rw [hf 4 (by omega)]; exact s4, by rw [hf 7 (by omega)]; exact s7, by rw [hf 8 (by omega)]; exact s8, by rw [hf 9 (by omega)]; exact s9⟩, Q, q1, q2, by rw [hf 5 (by omega)]; exact l5.keep keepsOStp hs (fun g hg => hk g (q1 _ g hg)), by rw [hf 6 (by omega)]; exact l6.keep keepsOStr hs (fun g hg => hk g (q1 _ g hg)), by rw [hf 10 (by omega)]; exact l10.keep keepsOGqt hs (fun g hg => hk g (q1 _ g hg))⟩
theorem atOQry (w : World) (S : Nat → Prop) (f : Nat → Value) (u : Qry) (h : EOQry w S f u) : EQry w S f u := by
  obtain ⟨⟨s0, s1, s2, s3, s4, s7, s8, s9⟩, Q, q1, q2, l5, l6, l10⟩ := h
  exact ⟨s0, s1, s2, s3, s4, (LOwn.lat growsStp atOStp l5).mono growsStp (q1 5), (LOwn.lat growsStr (fun _ _ _ _ h => h) l6).mono growsStr (q1 6), s7, s8, s9, (LOwn.lat growsGqt atOGqt l10).mono growsGqt (q1 10)⟩
def QryOwn (w : World) (S : Nat → Prop) (v : Value) (u : Qry) : Prop := ∃ f, v = .agg (arrQry f) ∧ EOQry w S f u
theorem QryOwn.at {w : World} {S : Nat → Prop} {v : Value} {u : Qry} (h : QryOwn w S v u) : QryAt w S v u := by
  obtain ⟨f, h1, h2⟩ := h
  exact ⟨f, h1, atOQry _ _ _ _ h2⟩
theorem QryOwn.keep {w w' : World} {S : Nat → Prop} {v : Value} {u : Qry} (h : QryOwn w S v u) (hs : w.heap.size ≤ w'.heap.size) (hk : ∀ g, S g → w'.heap[g]? = w.heap[g]?) : QryOwn w' S v u := by
  obtain ⟨f, h1, h2⟩ := h
  exact ⟨f, h1, keepsOQry _ _ _ _ _ _ h2 hs hk (fun _ _ => rfl)⟩
def mQry (k : Nat) (u : Qry) : Qry := ⟨u.fr, u.jn, u.wn, u.on, u.lk, mL mStp nStp (k) u.wh, mL mX nX (k + tot nStp u.wh) u.gps, u.win, u.size, u.every, mL mGqt nGqt (k + tot nStp u.wh + tot nX u.gps) u.gets⟩
def nQry (u : Qry) : Nat := tot nStp u.wh + tot nX u.gps + tot nGqt u.gets
set_option maxHeartbeats 1600000 in
theorem markQuery_own (x : Int) (k : Nat) (hx : x = (k : Int)) (S : Nat → Prop) (u : Qry) (w : World) {v : Value} (hk : 0 < k) (hk1 : k + nQry u ≤ 4000000000000000000) (hS : ∀ y, S y → y < w.heap.size) (hv : QryOwn w S v u) :
    Calls Try.prog 30 #[v, .int .i64 x] w fun e w' => e = .returned (.int .i64 ((k + nQry u : Nat) : Int)) ∧ QryOwn w' S v (mQry k u) ∧ Foot w w' S := by
  subst hx
  obtain ⟨f, rfl, ⟨s0, s1, s2, s3, s4, s7, s8, s9⟩, Q, q1, q2, l5, l6, l10⟩ := hv
  obtain ⟨A5, c5, g5⟩ := l5.form
  have O0_5 : Hid (StpsOwn w (Q 5) (.slice A5 u.wh.length c5) u.wh) := by rw [← g5]; exact l5
  obtain ⟨A6, c6, g6⟩ := l6.form
  have O0_6 : Hid (StrsOwn w (Q 6) (.slice A6 u.gps.length c6) u.gps) := by rw [← g6]; exact l6
  obtain ⟨A10, c10, g10⟩ := l10.form
  have O0_10 : Hid (GqtsOwn w (Q 10) (.slice A10 u.gets.length c10) u.gets) := by rw [← g10]; exact l10
  have ER : arrQry f = #[.string u.fr, .string u.jn, .int .i64 u.wn, .string u.on, .string u.lk, .slice A5 u.wh.length c5, .slice A6 u.gps.length c6, .int .i64 u.win, .int .i64 u.size, .int .i64 u.every, .slice A10 u.gets.length c10] := by unfold arrQry; rw [s0, s1, s2, s3, s4, g5, g6, s7, s8, s9, g10]
  have K0 := Seg.hid s0
  have K1 := Seg.hid s1
  have K2 := Seg.hid s2
  have K3 := Seg.hid s3
  have K4 := Seg.hid s4
  have K7 := Seg.hid s7
  have K8 := Seg.hid s8
  have K9 := Seg.hid s9
  have G5 := Seg.hid g5
  have G6 := Seg.hid g6
  have G10 := Seg.hid g10
  have QP := Seg.hid q1
  have QD := Seg.hid q2
  have QL : Hid (∀ i y, Q i y → y < w.heap.size) := fun i y hy => hS y (QP.out i y hy)
  rw [ER]
  have ER' := Seg.hid ER
  clear ER q1 q2 s0 s1 s2 s3 s4 s7 s8 s9 l5 g5 l6 g6 l10 g10
  have HB : Hid (k + nQry u ≤ 4000000000000000000) := hk1
  unfold nQry at hk1
  have hk2 : k ≤ 4000000000000000000 := by omega
  have HK := Seg.hid hk1
  clear hk1
  go_enter Try.func30, Try.ntmps30
  go_wp2_with fail
  refine (markStepS_own _ k (by omega) (Q 5) u.wh (w.alloc _) (by omega) (by have := HK.out; omega) (O0_5.out.belowO keepsOStp (below1 w _) (QL.out 5))).mono ?_
  rintro e w1 ⟨rfl, o1, t1⟩
  have O1_5 : Hid (StpsOwn w1 (Q 5) (.slice A5 u.wh.length c5) (mL mStp nStp (k) u.wh)) := o1
  have O1_6 : Hid (StrsOwn w1 (Q 6) (.slice A6 u.gps.length c6) (u.gps)) := LOwn.footO keepsOStr (O0_6.out.belowO keepsOStr (below1 w _) (QL.out 6)) t1 (fun y hy => by rw [hsz]; have := QL.out 6 y hy; omega) (QD.out 6 5 (by omega))
  have O1_10 : Hid (GqtsOwn w1 (Q 10) (.slice A10 u.gets.length c10) (u.gets)) := LOwn.footO keepsOGqt (O0_10.out.belowO keepsOGqt (below1 w _) (QL.out 10)) t1 (fun y hy => by rw [hsz]; have := QL.out 10 y hy; omega) (QD.out 10 5 (by omega))
  have F1 := Seg.hid ((Foot.of_below (below1 w _) S).trans t1 (QP.out 5))
  have T1 : Hid (w1.heap[w.heap.size]? = some (.cells #[.string u.fr, .string u.jn, .int .i64 u.wn, .string u.on, .string u.lk, .slice A5 u.wh.length c5, .slice A6 u.gps.length c6, .int .i64 u.win, .int .i64 u.size, .int .i64 u.every, .slice A10 u.gets.length c10] 39 (0, 0))) := (t1.block w.heap.size (by rw [hsz]; omega) (fun h => by have := QL.out 5 _ h; omega)).trans (heap_alloc_new _ _)
  have p1 : w1.cell? ⟨w.heap.size, 6, none⟩ = some (.slice A6 u.gps.length c6) := cell_of_row w1 _ 6 _ _ (0, 0) T1.out
  clear o1 t1
  obtain ⟨y1, hy1⟩ : ∃ y1, k + tot nStp u.wh = y1 := ⟨_, rfl⟩
  rw [hy1]
  have Hy1 := Seg.hid hy1
  have hp_y1 : 0 < y1 := by omega
  have hd_y1 : y1 ≤ 4000000000000000000 := by have z0 := Hy1.out; have := HK.out; omega
  clear hy1
  go_wp2_with fail
  refine (markStringS_own _ y1 (by omega) (Q 6) u.gps w1 (by omega) (by have z0 := Hy1.out; have := HK.out; omega) O1_6.out).mono ?_
  rintro e w2 ⟨rfl, o2, t2⟩
  have O2_5 : Hid (StpsOwn w2 (Q 5) (.slice A5 u.wh.length c5) (mL mStp nStp (k) u.wh)) := LOwn.footO keepsOStp O1_5.out t2 (fun y hy => Nat.lt_of_lt_of_le (QL.out 5 y hy) F1.out.size) (QD.out 5 6 (by omega))
  have O2_6 : Hid (StrsOwn w2 (Q 6) (.slice A6 u.gps.length c6) (mL mX nX (y1) u.gps)) := o2
  have O2_10 : Hid (GqtsOwn w2 (Q 10) (.slice A10 u.gets.length c10) (u.gets)) := LOwn.footO keepsOGqt O1_10.out t2 (fun y hy => Nat.lt_of_lt_of_le (QL.out 10 y hy) F1.out.size) (QD.out 10 6 (by omega))
  have F2 := Seg.hid (F1.out.trans t2 (QP.out 6))
  have T2 : Hid (w2.heap[w.heap.size]? = some (.cells #[.string u.fr, .string u.jn, .int .i64 u.wn, .string u.on, .string u.lk, .slice A5 u.wh.length c5, .slice A6 u.gps.length c6, .int .i64 u.win, .int .i64 u.size, .int .i64 u.every, .slice A10 u.gets.length c10] 39 (0, 0))) := (t2.block w.heap.size (Array.getElem?_eq_some_iff.1 T1.out).1 (fun h => by have := QL.out 6 _ h; omega)).trans T1.out
  have p2 : w2.cell? ⟨w.heap.size, 10, none⟩ = some (.slice A10 u.gets.length c10) := cell_of_row w2 _ 10 _ _ (0, 0) T2.out
  clear o2 t2
  obtain ⟨y2, hy2⟩ : ∃ y2, y1 + tot nX u.gps = y2 := ⟨_, rfl⟩
  rw [hy2]
  have Hy2 := Seg.hid hy2
  have hp_y2 : 0 < y2 := by omega
  have hd_y2 : y2 ≤ 4000000000000000000 := by have z0 := Hy1.out; have z1 := Hy2.out; have := HK.out; omega
  clear hy2
  go_wp2_with fail
  refine (markGetS_own _ y2 (by omega) (Q 10) u.gets w2 (by omega) (by have z0 := Hy1.out; have z1 := Hy2.out; have := HK.out; omega) O2_10.out).mono ?_
  rintro e w3 ⟨rfl, o3, t3⟩
  have O3_5 : Hid (StpsOwn w3 (Q 5) (.slice A5 u.wh.length c5) (mL mStp nStp (k) u.wh)) := LOwn.footO keepsOStp O2_5.out t3 (fun y hy => Nat.lt_of_lt_of_le (QL.out 5 y hy) F2.out.size) (QD.out 5 10 (by omega))
  have O3_6 : Hid (StrsOwn w3 (Q 6) (.slice A6 u.gps.length c6) (mL mX nX (y1) u.gps)) := LOwn.footO keepsOStr O2_6.out t3 (fun y hy => Nat.lt_of_lt_of_le (QL.out 6 y hy) F2.out.size) (QD.out 6 10 (by omega))
  have O3_10 : Hid (GqtsOwn w3 (Q 10) (.slice A10 u.gets.length c10) (mL mGqt nGqt (y2) u.gets)) := o3
  have F3 := Seg.hid (F2.out.trans t3 (QP.out 10))
  clear o3 t3
  obtain ⟨y3, hy3⟩ : ∃ y3, y2 + tot nGqt u.gets = y3 := ⟨_, rfl⟩
  rw [hy3]
  have Hy3 := Seg.hid hy3
  have hp_y3 : 0 < y3 := by omega
  have hd_y3 : y3 ≤ 4000000000000000000 := by have z0 := Hy1.out; have z1 := Hy2.out; have z2 := Hy3.out; have := HK.out; omega
  clear hy3
  go_wp2
  go_ret
  exact ⟨Seg.ret_int (by have z0 := Hy1.out; have z1 := Hy2.out; have z2 := Hy3.out; unfold nQry; omega), ⟨f, by rw [ER'.out], ⟨K0.out, K1.out, K2.out, K3.out, K4.out, K7.out, K8.out, K9.out⟩, Q, QP.out, QD.out, (by have ho := O3_5.out; rw [← G5.out] at ho; exact ho), (by have ho := O3_6.out; rw [← G6.out] at ho; rw [show y1 = k + tot nStp u.wh by have z0 := Hy1.out; have z1 := Hy2.out; have z2 := Hy3.out; omega] at ho; exact ho), (by have ho := O3_10.out; rw [← G10.out] at ho; rw [show y2 = k + tot nStp u.wh + tot nX u.gps by have z0 := Hy1.out; have z1 := Hy2.out; have z2 := Hy3.out; omega] at ho; exact ho)⟩, F3.out⟩
end Go.Proofs.Ytboooabjeidmfaa.Ow
namespace Go.Proofs.Ytboooabjeidmfaa.Ow
set_option maxRecDepth 8000
open Go.RowKit
open Recs
open Ls
set_option linter.unusedVariables false
/-- A row of one's own that is filled one by one: m elements stand. -/
structure LPart {T : Type} [Inhabited T] (ty nf : Nat) (EO : Elt T) (w wr : World) (us : List T) (n m : Nat) (F : Nat → Value) (P : Nat → Nat → Prop) : Prop where
  mine : Mine wr ty nf w.heap.size n F
  bel : Below w.heap.size w wr
  el : ∀ i, i < m → EO wr (P i) (fun q => F (i * nf + q)) (us.getD i default)
  apart : ∀ i, i < m → ∀ x, P i x → w.heap.size < x ∧ x < wr.heap.size
  disj : ∀ i j, i < m → j < m → i ≠ j → ∀ x, P i x → ¬ P j x
section
variable {T : Type} [Inhabited T] {ty nf : Nat} {EO : Elt T}
theorem LPart.step (hE : KeepsO nf EO) {w wr w1 : World} {n m : Nat} {F : Nat → Value} {P : Nat → Nat → Prop} {us : List T} (h : LPart ty nf EO w wr us n m F P) (vs : List Value) (hv : vs.length = nf) (b1 : Below wr.heap.size wr w1)
    (he : EO w1 (seg wr.heap.size w1.heap.size) (fun q => vs.getD q default) (us.getD m default)) :
    LPart ty nf EO w (w1.setCells w.heap.size (m * nf) vs) us n (m + 1) (Own.upd F (m * nf) vs) (fun i => if i = m then seg wr.heap.size w1.heap.size else P i) := by
  have hlt := h.mine.lt
  have keep : ∀ g, g ≠ w.heap.size → (w1.setCells w.heap.size (m * nf) vs).heap[g]? = w1.heap[g]? := fun g hg => Cells.heap_setCells_other _ _ hg
  have hsize := Cells.size_setCells (g := w.heap.size) vs (o := m * nf) w1
  have b1s := b1.size
  refine ⟨Own.mine_setCells _ _ _ _ (h.mine.below b1 hlt), Cells.below_setCells (Nat.le_refl _) _ _ _ _ (chain h.bel b1), fun i hi => ?_, fun i hi x hx => ?_, fun i j hi hj hij x hx hx' => ?_⟩
  · by_cases e : i = m
    · subst e
      rw [if_pos rfl]
      exact hE _ _ _ _ _ _ he (by rw [hsize]; exact Nat.le_refl _) (fun g hg => keep g (by have := hg.1; omega)) (fun q hq => Own.upd_in (by omega))
    · rw [if_neg e]
      refine hE _ _ _ _ _ _ (h.el i (by omega)) (by rw [hsize]; exact b1s) (fun g hg => ?_) (fun q hq => ?_)
      · have := h.apart i (by omega) g hg
        exact (keep g (by omega)).trans (b1.block g (by omega))
      · refine Own.upd_out (.inl ?_)
        have : (i + 1) * nf ≤ m * nf := Nat.mul_le_mul_right nf (by omega)
        rw [Nat.succ_mul] at this
        omega
  · rw [hsize]
    by_cases e : i = m
    · subst e
      rw [if_pos rfl] at hx
      have := hx.1; have := hx.2
      exact ⟨by omega, by omega⟩
    · rw [if_neg e] at hx
      have := h.apart i (by omega) x hx
      exact ⟨by omega, by omega⟩
  · by_cases e : i = m
    · subst e
      rw [if_pos rfl] at hx
      rw [if_neg (Ne.symm hij)] at hx'
      have a1 := hx.1
      have a2 := h.apart j (by omega) x hx'
      omega
    · rw [if_neg e] at hx
      by_cases e2 : j = m
      · subst e2
        rw [if_pos rfl] at hx'
        have a1 := hx'.1
        have a2 := h.apart i (by omega) x hx
        omega
      · rw [if_neg e2] at hx'
        exact h.disj i j (by omega) (by omega) hij x hx hx'
theorem LPart.own {w wr : World} {F : Nat → Value} {P : Nat → Nat → Prop} {us : List T} (h : LPart ty nf EO w wr us us.length us.length F P) (hn : us.length ≤ 1048576) : LOwn ty nf EO wr (seg w.heap.size wr.heap.size) (.slice (some ⟨w.heap.size, 0, none⟩) us.length us.length) us :=
  ⟨hn, _, _, rfl, .inr ⟨w.heap.size, F, P, rfl, ⟨Nat.le_refl _, h.mine.lt⟩, fun i hi x hx => ⟨by have := h.apart i hi x hx; omega, (h.apart i hi x hx).2⟩, h.mine, rfl, h.el, fun i hi x hx => ⟨by have := h.apart i hi x hx; omega, (h.apart i hi x hx).2⟩, h.disj⟩⟩
end
end Go.Proofs.Ytboooabjeidmfaa.Ow
