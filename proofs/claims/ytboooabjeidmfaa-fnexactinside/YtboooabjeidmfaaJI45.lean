/- Lists of Source of the call's own; the law's marks on them; Source: the law's copiers answer memory of their own. -/
import Derived.Test.YtboooabjeidmfaaJI39
import Derived.Test.YtboooabjeidmfaaJI09
import Derived.Test.YtboooabjeidmfaaJI44
namespace Go.Proofs.Ytboooabjeidmfaa.Ow
set_option maxRecDepth 8000
open Go.RowKit
open Recs
open Ls
set_option linter.unusedVariables false
def EOSrc : Elt Src := fun w S f u => (f 0 = .string u.name ∧ f 1 = .bool u.tab) ∧ ∃ Q : Nat → Nat → Prop, (∀ i y, Q i y → S y) ∧ (∀ i j, i ≠ j → ∀ y, Q i y → ¬ Q j y) ∧ StrsOwn w (Q 2) (f 2) u.cols
theorem keepsOSrc : KeepsO 3 EOSrc := fun w w' S f f' t h hs hk hf => by
  obtain ⟨⟨s0, s1⟩, Q, q1, q2, l2⟩ := h
  exact ⟨⟨by rw [hf 0 (by omega)]; exact s0, by rw [hf 1 (by omega)]; exact s1⟩, Q, q1, q2, by rw [hf 2 (by omega)]; exact l2.keep keepsOStr hs (fun g hg => hk g (q1 _ g hg))⟩
theorem atOSrc (w : World) (S : Nat → Prop) (f : Nat → Value) (u : Src) (h : EOSrc w S f u) : ESrc w S f u := by
  obtain ⟨⟨s0, s1⟩, Q, q1, q2, l2⟩ := h
  exact ⟨s0, s1, (LOwn.lat growsStr (fun _ _ _ _ h => h) l2).mono growsStr (q1 2)⟩
abbrev SrcsOwn := LOwn 62 3 EOSrc
def mSrc (k : Nat) (u : Src) : Src := ⟨mt (k + 0), ((((k + 1) : Nat) : Int) % 3 == 0), mL mX nX (k + 2) u.cols⟩
def nSrc (u : Src) : Nat := 2 + tot nX u.cols
theorem markSourceS_none (A : Option Addr) (c : Nat) (k : Int) (w : World) : Calls Try.prog 31 #[.slice A 0 c, .int .i64 k] w fun e w' => e = .returned (.int .i64 k) ∧ w = w' := by
  go_enter Try.func31, Try.ntmps31
  go_wp2
  go_loop [1, 5] (fun x i => i = .int .i64 0 ∧ x = .int .i64 k) (fun _ _ => 0)
  case atStart => exact ⟨rfl, rfl⟩
  case round =>
    obtain ⟨rfl, rfl⟩ := hrel
    go_wp2
    go_ret
    exact ⟨rfl, rfl⟩
set_option maxHeartbeats 3200000 in
theorem markSourceS_core (g n c k : Nat) (S : Nat → Prop) (P : Nat → Nat → Prop) (F0 : Nat → Value) (us : List Src) (w : World) (hn : n ≤ 1048576) (hk : 0 < k) (hk1 : k + tot nSrc us ≤ 4000000000000000000) (hSg : S g) (hSP : ∀ i, i < n → ∀ y, P i y → S y) (ho : LOpen 62 3 EOSrc w g n c F0 P us) :
    Calls Try.prog 31 #[.slice (some ⟨g, 0, none⟩) n c, .int .i64 k] w fun e w' => ∃ F, e = .returned (.int .i64 ((k + tot nSrc us : Nat) : Int)) ∧ LOpen 62 3 EOSrc w' g n c F P (mL mSrc nSrc k us) ∧ Foot w w' S := by
  have hc := ho.mine.le
  have hlen := Seg.hid ho.len
  have HM : Hid (LOpen 62 3 EOSrc w g n c F0 P (mid mSrc nSrc k 0 us) ∧ Foot w w S) := ⟨by rw [mid_zero]; exact ho, Foot.refl _ _⟩
  have HSG := Seg.hid hSg; have HSP := Seg.hid hSP
  have KL : Hid (∀ j, j < n → k + tot nSrc (us.take j) + nSrc (us.getD j default) ≤ 4000000000000000000) := fun j hj => by
    have a1 := tot_take nSrc (ts := us) (j := j) (by rw [hlen.out]; exact hj)
    have a2 := tot_le nSrc us (j + 1)
    omega
  have KE : Hid (k + tot nSrc (us.take n) = k + tot nSrc us) := by show _ = _; rw [← hlen.out, List.take_length]
  clear ho hSg hSP hk1
  go_enter Try.func31, Try.ntmps31
  go_wp2
  go_loopw [1, 5] (fun x i wr => ∃ (j : Nat) (F : Nat → Value), j ≤ n ∧ i = .int .i64 j ∧ x = .int .i64 ((k + tot nSrc (us.take j) : Nat) : Int) ∧ Hid (LOpen 62 3 EOSrc wr g n c F P (mid mSrc nSrc k j us) ∧ Foot w wr S)) (fun _ i _ => n - (intOf i).toNat)
  case atStart => exact ⟨0, F0, Nat.zero_le _, rfl, rfl, HM.out⟩
  case round =>
    clear HM
    obtain ⟨j, F, hj, rfl, rfl, HR⟩ := hrel
    by_cases hlt : j < n
    · have h0 : (0 : Int) ≤ (j : Int) := by omega
      have h1 : (j : Int) < (n : Int) := by omega
      have EL := HR.out.1.el j hlt
      rw [mid_get mSrc nSrc (by rw [hlen.out]; exact hlt)] at EL
      have MS := mid_step mSrc nSrc (k := k) (ts := us) (j := j) (by rw [hlen.out]; exact hlt)
      have TK := Seg.hid (tot_take nSrc (ts := us) (j := j) (by rw [hlen.out]; exact hlt))
      have hxb := KL.out j hlt
      have HAP := Seg.hid (HR.out.1.apart j hlt)
      obtain ⟨x, hx⟩ : ∃ x, k + tot nSrc (us.take j) = x := ⟨_, rfl⟩
      have HX := Seg.hid hx
      rw [hx] at hxb MS ⊢
      have hx0 : 0 < x := by omega
      clear hx
      have MS' := Seg.hid MS
      clear MS
      generalize us.getD j default = u at *
      have HXB := Seg.hid hxb
      clear hxb
      obtain ⟨⟨s0, s1⟩, Q, q1, q2, l2⟩ := EL
      obtain ⟨A2, c2, g2⟩ := l2.form
      have O0_2 : Hid (StrsOwn wr (Q 2) (.slice A2 u.cols.length c2) u.cols) := by
        have := l2
        rw [g2] at this
        exact this
      have QP := Seg.hid q1
      have QD := Seg.hid q2
      have R0 : Hid (Rnd 62 3 g n c (P j) w wr wr S F j [.string u.name, .bool u.tab, .slice A2 u.cols.length c2]) := Rnd.start HR.out.1.mine HR.out.2 rfl (fun q hq => by
        match q, hq with
        | 0, _ => exact s0
        | 1, _ => exact s1
        | 2, _ => exact g2)
      clear s0 s1 l2 g2 q1 q2
      have QG : Hid (∀ i y, Q i y → y ≠ g) := fun i y hy => (HAP.out y (QP.out i y hy)).1
      have QL : Hid (∀ i y, Q i y → y < wr.heap.size) := fun i y hy => (HAP.out y (QP.out i y hy)).2
      have HB_x : Hid (x + 2 + tot nX u.cols ≤ 4000000000000000000) := by show _ ≤ _; have := HXB.out; simp only [nSrc] at this; omega
      have hc_x : x + 3 ≤ 4000000000000000000 + 3 := by have := HB_x.out; omega
      have hd_x : x + 2 ≤ 4000000000000000000 := by have := HB_x.out; omega
      go_wp2_with fail
      refine (markText_at _ (x) (by omega) wr (by omega) (by omega)).mono ?_
      rintro e w1 ⟨rfl, b1⟩
      have R1 : Hid (Rnd 62 3 g n c (P j) w wr w1 S F j [.string u.name, .bool u.tab, .slice A2 u.cols.length c2]) := R0.out.below b1
      have O1_2 : Hid (StrsOwn w1 (Q 2) (.slice A2 u.cols.length c2) (u.cols)) := O0_2.out.belowO keepsOStr b1 (fun y hy => Nat.lt_of_lt_of_le (QL.out 2 y hy) R0.out.le)
      clear b1
      have d0 : (w1).cell? ⟨g, j * 3, none⟩ = some (.string u.name) := R1.out.cell hlt 0 (by omega)
      have f0 : (w1).frozen? ⟨g, j * 3, none⟩ = false := R1.out.frozen _
      have R2 : Hid (Rnd 62 3 g n c (P j) w wr (w1.setCell ⟨g, j * 3, none⟩ (.string (mt (x)))) S F j [.string (mt (x)), .bool u.tab, .slice A2 u.cols.length c2]) := R1.out.set HSG.out 0 (by omega) (.string (mt (x)))
      have O2_2 : Hid (StrsOwn (w1.setCell ⟨g, j * 3, none⟩ (.string (mt (x)))) (Q 2) (.slice A2 u.cols.length c2) (u.cols)) := O1_2.out.set keepsOStr _ (QG.out 2) _
      have d1 : ((w1.setCell ⟨g, j * 3, none⟩ (.string (mt (x))))).cell? ⟨g, j * 3 + 1, none⟩ = some (.bool u.tab) := R2.out.cell hlt 1 (by omega)
      have f1 : ((w1.setCell ⟨g, j * 3, none⟩ (.string (mt (x))))).frozen? ⟨g, j * 3 + 1, none⟩ = false := R2.out.frozen _
      have R3 : Hid (Rnd 62 3 g n c (P j) w wr ((w1.setCell ⟨g, j * 3, none⟩ (.string (mt (x)))).setCell ⟨g, j * 3 + 1, none⟩ (.bool (((x : Int) + 1) % 3 == 0))) S F j [.string (mt (x)), .bool (((x : Int) + 1) % 3 == 0), .slice A2 u.cols.length c2]) := R2.out.set HSG.out 1 (by omega) (.bool (((x : Int) + 1) % 3 == 0))
      have O3_2 : Hid (StrsOwn ((w1.setCell ⟨g, j * 3, none⟩ (.string (mt (x)))).setCell ⟨g, j * 3 + 1, none⟩ (.bool (((x : Int) + 1) % 3 == 0))) (Q 2) (.slice A2 u.cols.length c2) (u.cols)) := O2_2.out.set keepsOStr _ (QG.out 2) _
      have d2 : (((w1.setCell ⟨g, j * 3, none⟩ (.string (mt (x)))).setCell ⟨g, j * 3 + 1, none⟩ (.bool (((x : Int) + 1) % 3 == 0)))).cell? ⟨g, j * 3 + 2, none⟩ = some (.slice A2 u.cols.length c2) := R3.out.cell hlt 2 (by omega)
      go_wp2_with fail
      clear d0 f0 d1 f1 d2
      refine (markStringS_own _ (x + 2) (by omega) (Q 2) u.cols ((w1.setCell ⟨g, j * 3, none⟩ (.string (mt (x)))).setCell ⟨g, j * 3 + 1, none⟩ (.bool (((x : Int) + 1) % 3 == 0))) (by omega) (by have := HB_x.out; omega) O3_2.out).mono ?_
      rintro e w2 ⟨rfl, o2, t2⟩
      have R4 : Hid (Rnd 62 3 g n c (P j) w wr w2 S F j [.string (mt (x)), .bool (((x : Int) + 1) % 3 == 0), .slice A2 u.cols.length c2]) := R3.out.foot t2 (QP.out 2) (fun h => (HAP.out g h).1 rfl) (HSP.out j hlt)
      have O4_2 : Hid (StrsOwn w2 (Q 2) (.slice A2 u.cols.length c2) (mL mX nX (x + 2) u.cols)) := o2
      clear o2 t2
      obtain ⟨y2, hy2⟩ : ∃ y2, x + 2 + tot nX u.cols = y2 := ⟨_, rfl⟩
      rw [hy2]
      have Hy2 := Seg.hid hy2
      have HB_y2 : Hid (y2 + 0 ≤ 4000000000000000000) := by show _ ≤ _; have := HB_x.out; omega
      have hd_y2 : y2 + 0 ≤ 4000000000000000000 := by have := HB_y2.out; omega
      have hp_y2 : 0 < y2 := by omega
      clear hy2
      have EE : Hid (EOSrc w2 (P j) (fun q => [.string (mt (x)), .bool (((x : Int) + 1) % 3 == 0), .slice A2 u.cols.length c2].getD q default) (mSrc x u)) := by
        refine ⟨⟨?_, ?_⟩, Q, QP.out, QD.out, ?_⟩
        · exact congrArg (fun z : Nat => Value.string (mt z)) (show x = (x + 0) by have z0 := Hy2.out; omega)
        · exact congrArg (fun z : Int => Value.bool (z % 3 == 0)) (show (x : Int) + 1 = (((x + 1) : Nat) : Int) by have z0 := Hy2.out; omega)
        · have hz : x + 2 = (x + 2) := by (have z0 := Hy2.out; omega)
          have ho := O4_2.out
          rw [hz] at ho
          exact ho
      obtain ⟨F', L', F2⟩ := Rnd.done keepsOSrc (t := mSrc x u) HR.out.1 hlt R4.out EE.out
      rw [MS'.out] at L'
      have L2 := Seg.hid L'
      have F3 := Seg.hid F2
      clear L' F2
      have HKK : Hid ((y2 : Int) = ((k + tot nSrc (us.take (j + 1)) : Nat) : Int)) := by
        show _ = _
        have z0 := Hy2.out; have a1 := TK.out; have a2 := HX.out; simp only [nSrc] at a1; omega
      go_wp2
      go_roundw
      case rel => exact ⟨j + 1, F', by omega, by go_num, congrArg (Value.int .i64) HKK.out, L2.out, F3.out⟩
      case measure => simp [intOf]; omega
    · have : j = n := by omega
      subst this
      have E := HR.out
      rw [show mid mSrc nSrc k j us = mL mSrc nSrc k us by rw [← hlen.out]; exact mid_all _ _ _ _] at E
      have EH' := Seg.hid E
      clear E
      rw [KE.out]
      go_wp2
      go_ret
      exact ⟨F, rfl, EH'.out⟩
theorem markSourceS_own (x : Int) (k : Nat) (hx : x = (k : Int)) (S : Nat → Prop) (us : List Src) (w : World) {v : Value} (hk : 0 < k) (hk1 : k + tot nSrc us ≤ 4000000000000000000) (hv : SrcsOwn w S v us) :
    Calls Try.prog 31 #[v, .int .i64 x] w fun e w' => e = .returned (.int .i64 ((k + tot nSrc us : Nat) : Int)) ∧ SrcsOwn w' S v (mL mSrc nSrc k us) ∧ Foot w w' S := by
  subst hx
  obtain ⟨h0, A, c, rfl, h⟩ := hv
  by_cases hz : us.length = 0
  · obtain rfl := List.length_eq_zero_iff.1 hz
    exact (markSourceS_none A c k w).mono fun e w' ⟨h1, h2⟩ => by
      subst h2
      exact ⟨by rw [h1]; rfl, LOwn.nil _ _ _ _, Foot.refl _ _⟩
  obtain ⟨g, F, P, rfl, h3, h4, h5⟩ := h.resolve_left hz
  refine (markSourceS_core g us.length c k S P F us w h0 hk hk1 h3 h4 h5).mono fun e w' ⟨F', a1, a2, a3⟩ => ⟨a1, ⟨by rw [mL_len]; exact h0, _, c, by rw [mL_len], .inr ⟨g, F', P, rfl, h3, fun i hi => h4 i (by rw [mL_len] at hi; exact hi), ?_⟩⟩, a3⟩
  rw [mL_len]
  exact a2
end Go.Proofs.Ytboooabjeidmfaa.Ow
namespace Go.Proofs.Ytboooabjeidmfaa.Ow
set_option maxRecDepth 8000
open Go.RowKit
open Recs
open Ls
set_option linter.unusedVariables false
def SrcOwn (w : World) (S : Nat → Prop) (v : Value) (u : Src) : Prop := ∃ f, v = .agg (arrSrc f) ∧ EOSrc w S f u
set_option maxHeartbeats 1600000 in
theorem toSource_own (v : Value) (u : Src) (w : World) (S : Nat → Prop) (hv : SrcAt w S v u) (hS : ∀ g, S g → g < w.heap.size) (hf : szSrc u ≤ 1048576) :
    Calls Try.prog 40 #[v] w fun e w' => ∃ v', e = .returned v' ∧ SrcOwn w' (seg w.heap.size w'.heap.size) v' u ∧ Below w.heap.size w w' := by
  obtain ⟨f, rfl, y0, y1, y2⟩ := hv
  try simp only [arrSrc]
  rw [show f 0 = _ from y0]
  clear y0
  rw [show f 1 = _ from y1]
  clear y1
  obtain ⟨A2, c2, g2⟩ := y2.form
  rw [g2] at y2 ⊢
  have H2 := Seg.hid y2
  clear y2 g2
  unfold szSrc at hf
  go_enter Try.func40, Try.ntmps40
  go_wp2_with fail
  refine (toStringS_own _ u.cols (((w.alloc _).alloc _).alloc _) S (H2.out.below keepsStr (below3 w _ _ _) hS) (fun g hg => by rw [hsz, hsz, hsz]; have := hS g hg; omega) (by omega)).mono ?_
  rintro e w1 ⟨v1, rfl, l1, b1⟩
  have B1 := Seg.hid (chain (below3 w _ _ _) b1)
  have Ta1 : Hid (w1.heap[w.heap.size]? = some (.cells #[.string u.name, .bool u.tab, .slice A2 u.cols.length c2] 61 (0, 0))) := (b1.block w.heap.size (by rw [hsz, hsz, hsz]; omega)).trans (at3z w _ _ _)
  have Tr1 : Hid (w1.heap[w.heap.size + 1]? = some (.cells #[.string ByteArray.empty, .bool false, .slice none 0 0] 62 (0, 0))) := (b1.block (w.heap.size + 1) (by rw [hsz, hsz, hsz]; omega)).trans (at3 w _ _ _)
  have To1 : Hid (w1.heap[w.heap.size + 1 + 1]? = some (.cells #[.string u.name, .bool u.tab, .slice none 0 0] 62 (0, 0))) := (b1.block (w.heap.size + 1 + 1) (by rw [hsz, hsz, hsz]; omega)).trans (Cells.at3' w _ _ _)
  have s1 : w.heap.size + 3 ≤ w1.heap.size := by have := b1.size; rw [hsz, hsz, hsz] at this; omega
  have M1 : Hid (StrsOwn w1 (seg (w.heap.size + 3) w1.heap.size) v1 u.cols) := by
    rw [hsz, hsz, hsz] at l1
    exact l1
  obtain ⟨Y1, x1, r1⟩ := LOwn.form M1.out
  subst r1
  clear b1 l1
  have N11 := M1
  have po12 : (w1).cell? ⟨w.heap.size + 1 + 1, 2, none⟩ = some (.slice none 0 0) := cell_of_row (w1) _ 2 _ _ (0, 0) (To1.out)
  have pf12 : (w1).frozen? ⟨w.heap.size + 1 + 1, 2, none⟩ = false := frozen_of_row (w1) _ 2 _ _ (To1.out)
  have qo12 : Hid (((w1.setCell ⟨w.heap.size + 1 + 1, 2, none⟩ (.slice Y1 u.cols.length x1))).heap[w.heap.size + 1 + 1]? = some (.cells #[.string u.name, .bool u.tab, .slice Y1 u.cols.length x1] 62 (0, 0))) := heap_setCell_same (w1) (w.heap.size + 1 + 1) 2 _ _ (.slice Y1 u.cols.length x1) (To1.out)
  have Uo1 := Seg.hid (qo12.out)
  have Ur1 := Seg.hid ((heap_setCell_other (w1) ⟨w.heap.size + 1 + 1, 2, none⟩ (w.heap.size + 1) (.slice Y1 u.cols.length x1) (by simp)).trans (Tr1.out))
  have Ua1 := Seg.hid ((heap_setCell_other (w1) ⟨w.heap.size + 1 + 1, 2, none⟩ w.heap.size (.slice Y1 u.cols.length x1) (by simp; omega)).trans (Ta1.out))
  have D1 : Hid (Below w.heap.size w (w1.setCell ⟨w.heap.size + 1 + 1, 2, none⟩ (.slice Y1 u.cols.length x1))) := (B1.out).setCell (p := ⟨w.heap.size + 1 + 1, 2, none⟩) (by simp; omega) (.slice Y1 u.cols.length x1)
  have N11' : Hid (StrsOwn (w1.setCell ⟨w.heap.size + 1 + 1, 2, none⟩ (.slice Y1 u.cols.length x1)) (seg (w.heap.size + 3) w1.heap.size) (.slice Y1 u.cols.length x1) u.cols) := LOwn.keep keepsOStr N11.out (by simp) (fun g hg => by have := hg.1; rw [heap_setCell_other _ _ _ _ (by show _ ≠ w.heap.size + 1 + 1; omega)])
  obtain ⟨fx, hfx⟩ : ∃ fx : Nat → Value, fx = (fun q => if q = 0 then .string u.name else if q = 1 then .bool u.tab else .slice Y1 u.cols.length x1) := ⟨_, rfl⟩
  have HX := Seg.hid hfx
  have Uz : Hid ((w1.setCell ⟨w.heap.size + 1 + 1, 2, none⟩ (.slice Y1 u.cols.length x1)).heap[w.heap.size + 1 + 1]? = some (.cells (arrSrc fx) 62 (0, 0))) := by
    show _ = _
    rw [hfx]
    exact Uo1.out
  clear hfx
  have H5a := Cells.there_of Ur1.out
  have H5 : Hid ((w1.setCell ⟨w.heap.size + 1 + 1, 2, none⟩ (.slice Y1 u.cols.length x1)).there (w.heap.size + 1) 0 (arrSrc fx).size) := H5a
  clear H5a
  have H4 := Seg.hid (Cells.whole (vs := arrSrc fx) Ur1.out rfl)
  have B9 := Seg.hid (Cells.below_setCells (g := w.heap.size + 1) (by omega) (arrSrc fx).toList 0 _ _ D1.out)
  have ZS : ((w1.setCell ⟨w.heap.size + 1 + 1, 2, none⟩ (.slice Y1 u.cols.length x1)).setCells (w.heap.size + 1) 0 (arrSrc fx).toList).heap.size = w1.heap.size := by rw [Cells.size_setCells]; simp
  have F1 : Hid (StrsOwn ((w1.setCell ⟨w.heap.size + 1 + 1, 2, none⟩ (.slice Y1 u.cols.length x1)).setCells (w.heap.size + 1) 0 (arrSrc fx).toList) (seg (w.heap.size + 3) w1.heap.size) (fx 2) u.cols) := by
    show StrsOwn _ _ _ _
    rw [show fx 2 = .slice Y1 u.cols.length x1 by rw [HX.out]; rfl]
    refine LOwn.keep keepsOStr N11'.out (by rw [Cells.size_setCells]; exact Nat.le_refl _) (fun g hg => ?_)
    have := hg.1
    rw [Cells.heap_setCells_other _ _ (by omega)]
  obtain ⟨Q, hQ⟩ : ∃ Q : Nat → Nat → Prop, Q = (fun i => if i = 2 then (seg (w.heap.size + 3) w1.heap.size) else fun _ => False) := ⟨_, rfl⟩
  have hq1 : Q 2 = (seg (w.heap.size + 3) w1.heap.size) := by rw [hQ]; rfl
  have hq0 : ∀ i y, i ≠ 2 → ¬ Q i y := by
    intro i y n1 hy
    rw [hQ] at hy
    simp only [if_neg n1] at hy
  clear hQ
  have EX : Hid (EOSrc ((w1.setCell ⟨w.heap.size + 1 + 1, 2, none⟩ (.slice Y1 u.cols.length x1)).setCells (w.heap.size + 1) 0 (arrSrc fx).toList) (seg w.heap.size ((w1.setCell ⟨w.heap.size + 1 + 1, 2, none⟩ (.slice Y1 u.cols.length x1)).setCells (w.heap.size + 1) 0 (arrSrc fx).toList).heap.size) fx u) := by
    refine ⟨⟨by rw [HX.out]; rfl, by rw [HX.out]; rfl⟩, Q, ?_, ?_, ?_⟩
    · intro i y hy
      by_cases e1 : i = 2
      · subst e1; rw [hq1] at hy
        exact ⟨by have := hy.1; omega, by rw [ZS]; have := hy.2; omega⟩
      exact absurd hy (hq0 i y e1)
    · intro i j hij y hi hj
      by_cases e1 : i = 2
      · subst e1; rw [hq1] at hi
        by_cases f1 : j = 2
        · subst f1
          exact absurd rfl hij
        exact absurd hj (hq0 j y f1)
      exact absurd hi (hq0 i y e1)
    · rw [hq1]; exact F1.out
  clear hq0 hq1
  have ON := Seg.hid (oneSrc (atOSrc _ _ _ _ EX.out))
  clear Ta1 Tr1 To1 Ua1 M1 ZS
  go_upto_region 5 with fail
  clear po12 pf12
  generalize (w1.setCell ⟨w.heap.size + 1 + 1, 2, none⟩ (.slice Y1 u.cols.length x1)) = wz at *
  go_wp2_with (first | (refine wpList_load_row rfl 62 _ rfl (w.heap.size + 1 + 1) rfl _ _ _ _ Uz.out Try.underlying62 rfl infoSrc ?_) | (refine wpList_store_mid rfl 62 _ _ rfl (w.heap.size + 1) 0 (arrSrc fx) rfl rfl H5.out infoSrc ON.out ?_))
  exact bodyPost_ret (v := .agg (arrSrc fx)) (results_cell_row rfl _ _ (w.heap.size + 1) _ _ _ _ rfl H4.out Try.underlying62 rfl infoSrc) rfl ⟨_, rfl, ⟨fx, rfl, EX.out⟩, B9.out⟩
set_option maxHeartbeats 800000 in
theorem toSourceS_ocore (g o n c : Nat) (us : List Src) (F0 : Nat → Nat → Value) (w : World) (S : Nat → Prop) (hn : n ≤ 1048576) (hc : n ≤ c) (hg : g < w.heap.size) (hS : ∀ g, S g → g < w.heap.size)
    (hf : ∀ i, i < n → szSrc (us.getD i default) ≤ 1048576) (he : ∀ i, i < n → ESrc w S (F0 i) (us.getD i default))
    (ha : ∀ i, i < n → ∀ j, j < 3 → w.cell? ⟨g, o + i * 3 + j, none⟩ = some (F0 i j)) :
    Calls Try.prog 10 #[.slice (some ⟨g, o, none⟩) n c] w fun e w' => ∃ F P, e = .returned (.slice (some ⟨w.heap.size, 0, none⟩) n n) ∧ LPart 62 3 EOSrc w w' us n n F P := by
  obtain ⟨i0, hi, hz0, hz1, hz2⟩ := info_parts infoZSrc
  have HA := Seg.hid ha; have HK := Seg.hid hf; have HH := Seg.hid he
  clear ha hf he
  go_enter Try.func10, Try.ntmps10
  go_wp2_with (at_make; refine wpList_make_full _ rfl _ _ 25 rfl w.heap.size 62 i0 _ 3 Try.underlying25 hi hz0 hz1 .i64 .i64 _ _ n rfl rfl rfl rfl (by rw [hz2]; omega) (by unfold maxLen; omega) (Nat.le_refl _) ?_; intro w1 hown hgr)
  have hb1 := (Below.refl w.heap.size w).grown hgr (Nat.le_refl _) (fun k hk => by cases hk)
  have HM := Seg.hid (Mine.of_made hown hown.1)
  have HB := Seg.hid hb1
  clear hown hgr hb1 hi hz0 hz1 hz2
  go_loopw [4] (fun i wr => ∃ (j : Nat) (F : Nat → Value) (P : Nat → Nat → Prop), j ≤ n ∧ i = .int .i64 j ∧ LPart 62 3 EOSrc w wr us n j F P) (fun i _ => n - (intOf i).toNat)
  case atStart => exact ⟨0, _, fun _ _ => False, Nat.zero_le _, rfl, HM.out, HB.out, fun i hi => absurd hi (by omega), fun i hi => absurd hi (by omega), fun i k hi => absurd hi (by omega)⟩
  case round =>
    clear HM HB
    obtain ⟨j, F, P, hj, rfl, HR⟩ := hrel
    by_cases hlt : j < n
    · have CL := cells_later HA.out HR.bel hg
      have c0 : wr.cell? ⟨g, o + j * 3, none⟩ = some (F0 j 0) := CL j ‹j < n› 0 (by omega)
      have c1 : wr.cell? ⟨g, o + j * 3 + 1, none⟩ = some (F0 j 1) := CL j ‹j < n› 1 (by omega)
      have c2 : wr.cell? ⟨g, o + j * 3 + 2, none⟩ = some (F0 j 2) := CL j ‹j < n› 2 (by omega)
      clear CL
      have RA : Hid (SrcAt wr S (.agg (arrSrc (F0 j))) (us.getD j default)) := ⟨_, rfl, keepsSrc _ _ _ _ _ _ (HH.out j hlt) (fun g hg => HR.bel.block g (hS g hg)) (fun _ _ => rfl)⟩
      have FW := Seg.hid (HK.out j hlt)
      have hbr : Hid (∀ g, S g → g < wr.heap.size) := fun g hg => Nat.lt_of_lt_of_le (hS g hg) HR.bel.size
      have ST := Seg.hid (fun w1 vs hv b1 he => LPart.step keepsOSrc (w1 := w1) HR vs hv b1 he)
      have HM := Seg.hid HR.mine
      have h0 : (0 : Int) ≤ (j : Int) := by omega
      have h1 : (j : Int) < (n : Int) := by omega
      clear HR
      generalize us.getD j default = uj at *
      go_wp2_with fail
      refine (toSource_own _ uj wr S RA.out hbr.out FW.out).mono ?_
      rintro e w1 ⟨v1, rfl, ⟨f1, rfl, he1⟩, b1⟩
      have S1 := Seg.hid (ST.out w1 (arrSrc f1).toList rfl b1 (keepsOSrc _ _ _ _ _ _ he1 (Nat.le_refl _) (fun _ _ => rfl) (fun q hq => by
        match q, hq with
        | 0, _ => rfl
        | 1, _ => rfl
        | 2, _ => rfl
        )))
      have M1 : Hid (w1.there w.heap.size (j * 3) (arrSrc f1).size) := Own.mine_there (o := j * 3) (m := 3) (HM.out.below b1 HM.out.lt) (by omega)
      have ON := Seg.hid (oneSrc (atOSrc _ _ _ _ he1))
      clear b1 he1
      go_wp2_with (refine wpList_store_mid rfl 62 _ _ rfl w.heap.size (j * 3) (arrSrc f1) rfl rfl ?ht infoSrc ON.out ?_; case ht => exact M1.out)
      go_roundw
      case rel => exact ⟨j + 1, _, _, by omega, by go_num, S1.out⟩
      case measure => simp [intOf]; omega
    · have : j = n := by omega
      subst this
      go_wp2
      go_ret
      exact ⟨F, P, rfl, HR⟩
theorem toSourceS_own (v : Value) (us : List Src) (w : World) (S : Nat → Prop) (hv : LAt 3 ESrc w S v us) (hS : ∀ g, S g → g < w.heap.size) (hf : szL szSrc us ≤ 1048576) :
    Calls Try.prog 10 #[v] w fun e w' => ∃ v', e = .returned v' ∧ SrcsOwn w' (seg w.heap.size w'.heap.size) v' us ∧ Below w.heap.size w w' := by
  obtain ⟨hn, A, c, rfl, h⟩ := hv
  by_cases hz : us.length = 0
  · obtain rfl := List.length_eq_zero_iff.1 hz
    refine (toSourceS_none A c w).mono fun e w' ⟨v', a1, ⟨A', c', a2⟩, a3⟩ => ⟨v', a1, ?_, a3⟩
    rw [a2]
    exact LOwn.nil _ _ _ _
  obtain ⟨g, o, F, rfl, hg, hc, hcell, hel⟩ := h.resolve_left hz
  exact (toSourceS_ocore g o us.length c us F w S (szL_len _ hf) hc (hS g hg) hS (fun i hi => szL_one _ hf hi) hel hcell).mono fun e w' ⟨F, P, a1, a2⟩ => ⟨_, a1, a2.own (szL_len _ hf), a2.bel⟩
end Go.Proofs.Ytboooabjeidmfaa.Ow
