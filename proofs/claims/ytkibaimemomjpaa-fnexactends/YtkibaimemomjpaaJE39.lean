/- Lists of Source of the call's own; the law's marks on them; How many marks a Query and Sources take. -/
import Derived.Test.YtkibaimemomjpaaJE35
import Derived.Test.YtkibaimemomjpaaJE08
import Derived.Test.YtkibaimemomjpaaJE38
namespace Go.Proofs.Ytkibaimemomjpaa.Ow
set_option maxRecDepth 8000
open Go.RowKit
open Recs
open Ls
set_option linter.unusedVariables false
def EOSrc : Elt Src := fun w S f u => (f 0 = .string u.name ∧ f 1 = .bool u.tab) ∧ ∃ Q : Nat → Nat → Prop, (∀ i y, Q i y → S y) ∧ (∀ i j, i ≠ j → ∀ y, Q i y → ¬ Q j y) ∧ StrsOwn w (Q 2) (f 2) u.cols
theorem keepsOSrc : KeepsO 3 EOSrc := fun w w' S f f' t h hs hk hf => by
  obtain ⟨⟨s0, s1⟩, Q, q1, q2, l2⟩ := h
  exact ⟨⟨by rw [hf 0 (by omega)]; exact s0, by rw [hf 1 (by omega)]; exact s1⟩, Q, q1, q2, by rw [hf 2 (by omega)]; exact l2.keep keepsOStr hs (fun g hg => hk g (q1 _ g hg))⟩
theorem atOSrc (w : World) (S : Nat → Prop) (f : Nat → Value) (u : Src) (h : EOSrc w S f u) : ESrc w S f u := by
  obtain ⟨⟨s0, s1⟩, Q, q1, q2, l2⟩ := h
  exact ⟨s0, s1, (LOwn.lat growsStr (fun _ _ _ _ h => h) l2).mono growsStr (q1 2)⟩
abbrev SrcsOwn := LOwn 92 3 EOSrc
def mSrc (k : Nat) (u : Src) : Src := ⟨mt (k + 0), ((((k + 1) : Nat) : Int) % 3 == 0), mL mX nX (k + 2) u.cols⟩
def nSrc (u : Src) : Nat := 2 + tot nX u.cols
theorem markSourceS_none (A : Option Addr) (c : Nat) (k : Int) (w : World) : Calls Try.prog 26 #[.slice A 0 c, .int .i64 k] w fun e w' => e = .returned (.int .i64 k) ∧ w = w' := by
  go_enter Try.func26, Try.ntmps26
  go_wp2
  go_loop [1, 5] (fun x i => i = .int .i64 0 ∧ x = .int .i64 k) (fun _ _ => 0)
  case atStart => exact ⟨rfl, rfl⟩
  case round =>
    obtain ⟨rfl, rfl⟩ := hrel
    go_wp2
    go_ret
    exact ⟨rfl, rfl⟩
set_option maxHeartbeats 3200000 in
theorem markSourceS_core (g n c k : Nat) (S : Nat → Prop) (P : Nat → Nat → Prop) (F0 : Nat → Value) (us : List Src) (w : World) (hn : n ≤ 1048576) (hk : 0 < k) (hk1 : k + tot nSrc us ≤ 4000000000000000000) (hSg : S g) (hSP : ∀ i, i < n → ∀ y, P i y → S y) (ho : LOpen 92 3 EOSrc w g n c F0 P us) :
    Calls Try.prog 26 #[.slice (some ⟨g, 0, none⟩) n c, .int .i64 k] w fun e w' => ∃ F, e = .returned (.int .i64 ((k + tot nSrc us : Nat) : Int)) ∧ LOpen 92 3 EOSrc w' g n c F P (mL mSrc nSrc k us) ∧ Foot w w' S := by
  have hc := ho.mine.le
  have hlen := Seg.hid ho.len
  have HM : Hid (LOpen 92 3 EOSrc w g n c F0 P (mid mSrc nSrc k 0 us) ∧ Foot w w S) := ⟨by rw [mid_zero]; exact ho, Foot.refl _ _⟩
  have HSG := Seg.hid hSg; have HSP := Seg.hid hSP
  have KL : Hid (∀ j, j < n → k + tot nSrc (us.take j) + nSrc (us.getD j default) ≤ 4000000000000000000) := fun j hj => by
    have a1 := tot_take nSrc (ts := us) (j := j) (by rw [hlen.out]; exact hj)
    have a2 := tot_le nSrc us (j + 1)
    omega
  have KE : Hid (k + tot nSrc (us.take n) = k + tot nSrc us) := by show _ = _; rw [← hlen.out, List.take_length]
  clear ho hSg hSP hk1
  go_enter Try.func26, Try.ntmps26
  go_wp2
  go_loopw [1, 5] (fun x i wr => ∃ (j : Nat) (F : Nat → Value), j ≤ n ∧ i = .int .i64 j ∧ x = .int .i64 ((k + tot nSrc (us.take j) : Nat) : Int) ∧ Hid (LOpen 92 3 EOSrc wr g n c F P (mid mSrc nSrc k j us) ∧ Foot w wr S)) (fun _ i _ => n - (intOf i).toNat)
  case atStart => exact ⟨0, F0, Nat.zero_le _, rfl, rfl, HM.out⟩
  case round =>
    clear HM
    obtain ⟨j, F, hj, rfl, rfl, HR⟩ := hrel
    by_cases hlt : j < n
    · have h0 : (0 : Int) ≤ (j : Int) := by omega
      have h1 : (j : Int) < (n : Int) := by omega
      have EL := HR.out.1.el j hlt
      rw [mid_get mSrc nSrc (by rw [hlen.out]; exact hlt)] at EL
      have MS := mid_step mSrc nSrc (k := k) (ts := us) (j := j) (by rw [hlen.out]; exact hlt)
      have TK := Seg.hid (tot_take nSrc (ts := us) (j := j) (by rw [hlen.out]; exact hlt))
      have hxb := KL.out j hlt
      have HAP := Seg.hid (HR.out.1.apart j hlt)
      obtain ⟨x, hx⟩ : ∃ x, k + tot nSrc (us.take j) = x := ⟨_, rfl⟩
      have HX := Seg.hid hx
      rw [hx] at hxb MS ⊢
      have hx0 : 0 < x := by omega
      clear hx
      have MS' := Seg.hid MS
      clear MS
      generalize us.getD j default = u at *
      have HXB := Seg.hid hxb
      clear hxb
      obtain ⟨⟨s0, s1⟩, Q, q1, q2, l2⟩ := EL
      obtain ⟨A2, c2, g2⟩ := l2.form
      have O0_2 : Hid (StrsOwn wr (Q 2) (.slice A2 u.cols.length c2) u.cols) := by
        have := l2
        rw [g2] at this
        exact this
      have QP := Seg.hid q1
      have QD := Seg.hid q2
      have R0 : Hid (Rnd 92 3 g n c (P j) w wr wr S F j [.string u.name, .bool u.tab, .slice A2 u.cols.length c2]) := Rnd.start HR.out.1.mine HR.out.2 rfl (fun q hq => by
        match q, hq with
        | 0, _ => exact s0
        | 1, _ => exact s1
        | 2, _ => exact g2)
      clear s0 s1 l2 g2 q1 q2
      have QG : Hid (∀ i y, Q i y → y ≠ g) := fun i y hy => (HAP.out y (QP.out i y hy)).1
      have QL : Hid (∀ i y, Q i y → y < wr.heap.size) := fun i y hy => (HAP.out y (QP.out i y hy)).2
      have HB_x : Hid (x + 2 + tot nX u.cols ≤ 4000000000000000000) := by show _ ≤ _; have := HXB.out; simp only [nSrc] at this; omega
      have hc_x : x + 3 ≤ 4000000000000000000 + 3 := by have := HB_x.out; omega
      have hd_x : x + 2 ≤ 4000000000000000000 := by have := HB_x.out; omega
      go_wp2_with fail
      refine (markText_at _ (x) (by omega) wr (by omega) (by omega)).mono ?_
      rintro e w1 ⟨rfl, b1⟩
      have R1 : Hid (Rnd 92 3 g n c (P j) w wr w1 S F j [.string u.name, .bool u.tab, .slice A2 u.cols.length c2]) := R0.out.below b1
      have O1_2 : Hid (StrsOwn w1 (Q 2) (.slice A2 u.cols.length c2) (u.cols)) := O0_2.out.belowO keepsOStr b1 (fun y hy => Nat.lt_of_lt_of_le (QL.out 2 y hy) R0.out.le)
      clear b1
      have d0 : (w1).cell? ⟨g, j * 3, none⟩ = some (.string u.name) := R1.out.cell hlt 0 (by omega)
      have f0 : (w1).frozen? ⟨g, j * 3, none⟩ = false := R1.out.frozen _
      have R2 : Hid (Rnd 92 3 g n c (P j) w wr (w1.setCell ⟨g, j * 3, none⟩ (.string (mt (x)))) S F j [.string (mt (x)), .bool u.tab, .slice A2 u.cols.length c2]) := R1.out.set HSG.out 0 (by omega) (.string (mt (x)))
      have O2_2 : Hid (StrsOwn (w1.setCell ⟨g, j * 3, none⟩ (.string (mt (x)))) (Q 2) (.slice A2 u.cols.length c2) (u.cols)) := O1_2.out.set keepsOStr _ (QG.out 2) _
      have d1 : ((w1.setCell ⟨g, j * 3, none⟩ (.string (mt (x))))).cell? ⟨g, j * 3 + 1, none⟩ = some (.bool u.tab) := R2.out.cell hlt 1 (by omega)
      have f1 : ((w1.setCell ⟨g, j * 3, none⟩ (.string (mt (x))))).frozen? ⟨g, j * 3 + 1, none⟩ = false := R2.out.frozen _
      have R3 : Hid (Rnd 92 3 g n c (P j) w wr ((w1.setCell ⟨g, j * 3, none⟩ (.string (mt (x)))).setCell ⟨g, j * 3 + 1, none⟩ (.bool (((x : Int) + 1) % 3 == 0))) S F j [.string (mt (x)), .bool (((x : Int) + 1) % 3 == 0), .slice A2 u.cols.length c2]) := R2.out.set HSG.out 1 (by omega) (.bool (((x : Int) + 1) % 3 == 0))
      have O3_2 : Hid (StrsOwn ((w1.setCell ⟨g, j * 3, none⟩ (.string (mt (x)))).setCell ⟨g, j * 3 + 1, none⟩ (.bool (((x : Int) + 1) % 3 == 0))) (Q 2) (.slice A2 u.cols.length c2) (u.cols)) := O2_2.out.set keepsOStr _ (QG.out 2) _
      have d2 : (((w1.setCell ⟨g, j * 3, none⟩ (.string (mt (x)))).setCell ⟨g, j * 3 + 1, none⟩ (.bool (((x : Int) + 1) % 3 == 0)))).cell? ⟨g, j * 3 + 2, none⟩ = some (.slice A2 u.cols.length c2) := R3.out.cell hlt 2 (by omega)
      go_wp2_with fail
      clear d0 f0 d1 f1 d2
      refine (markStringS_own _ (x + 2) (by omega) (Q 2) u.cols ((w1.setCell ⟨g, j * 3, none⟩ (.string (mt (x)))).setCell ⟨g, j * 3 + 1, none⟩ (.bool (((x : Int) + 1) % 3 == 0))) (by omega) (by have := HB_x.out; omega) O3_2.out).mono ?_
      rintro e w2 ⟨rfl, o2, t2⟩
      have R4 : Hid (Rnd 92 3 g n c (P j) w wr w2 S F j [.string (mt (x)), .bool (((x : Int) + 1) % 3 == 0), .slice A2 u.cols.length c2]) := R3.out.foot t2 (QP.out 2) (fun h => (HAP.out g h).1 rfl) (HSP.out j hlt)
      have O4_2 : Hid (StrsOwn w2 (Q 2) (.slice A2 u.cols.length c2) (mL mX nX (x + 2) u.cols)) := o2
      clear o2 t2
      obtain ⟨y2, hy2⟩ : ∃ y2, x + 2 + tot nX u.cols = y2 := ⟨_, rfl⟩
      rw [hy2]
      have Hy2 := Seg.hid hy2
      have HB_y2 : Hid (y2 + 0 ≤ 4000000000000000000) := by show _ ≤ _; have := HB_x.out; omega
      have hd_y2 : y2 + 0 ≤ 4000000000000000000 := by have := HB_y2.out; omega
      have hp_y2 : 0 < y2 := by omega
      clear hy2
      have EE : Hid (EOSrc w2 (P j) (fun q => [.string (mt (x)), .bool (((x : Int) + 1) % 3 == 0), .slice A2 u.cols.length c2].getD q default) (mSrc x u)) := by
        refine ⟨⟨?_, ?_⟩, Q, QP.out, QD.out, ?_⟩
        · exact congrArg (fun z : Nat => Value.string (mt z)) (show x = (x + 0) by have z0 := Hy2.out; omega)
        · exact congrArg (fun z : Int => Value.bool (z % 3 == 0)) (show (x : Int) + 1 = (((x + 1) : Nat) : Int) by have z0 := Hy2.out; omega)
        · have hz : x + 2 = (x + 2) := by (have z0 := Hy2.out; omega)
          have ho := O4_2.out
          rw [hz] at ho
          exact ho
      obtain ⟨F', L', F2⟩ := Rnd.done keepsOSrc (t := mSrc x u) HR.out.1 hlt R4.out EE.out
      rw [MS'.out] at L'
      have L2 := Seg.hid L'
      have F3 := Seg.hid F2
      clear L' F2
      have HKK : Hid ((y2 : Int) = ((k + tot nSrc (us.take (j + 1)) : Nat) : Int)) := by
        show _ = _
        have z0 := Hy2.out; have a1 := TK.out; have a2 := HX.out; simp only [nSrc] at a1; omega
      go_wp2
      go_roundw
      case rel => exact ⟨j + 1, F', by omega, by go_num, congrArg (Value.int .i64) HKK.out, L2.out, F3.out⟩
      case measure => simp [intOf]; omega
    · have : j = n := by omega
      subst this
      have E := HR.out
      rw [show mid mSrc nSrc k j us = mL mSrc nSrc k us by rw [← hlen.out]; exact mid_all _ _ _ _] at E
      have EH' := Seg.hid E
      clear E
      rw [KE.out]
      go_wp2
      go_ret
      exact ⟨F, rfl, EH'.out⟩
theorem markSourceS_own (x : Int) (k : Nat) (hx : x = (k : Int)) (S : Nat → Prop) (us : List Src) (w : World) {v : Value} (hk : 0 < k) (hk1 : k + tot nSrc us ≤ 4000000000000000000) (hv : SrcsOwn w S v us) :
    Calls Try.prog 26 #[v, .int .i64 x] w fun e w' => e = .returned (.int .i64 ((k + tot nSrc us : Nat) : Int)) ∧ SrcsOwn w' S v (mL mSrc nSrc k us) ∧ Foot w w' S := by
  subst hx
  obtain ⟨h0, A, c, rfl, h⟩ := hv
  by_cases hz : us.length = 0
  · obtain rfl := List.length_eq_zero_iff.1 hz
    exact (markSourceS_none A c k w).mono fun e w' ⟨h1, h2⟩ => by
      subst h2
      exact ⟨by rw [h1]; rfl, LOwn.nil _ _ _ _, Foot.refl _ _⟩
  obtain ⟨g, F, P, rfl, h3, h4, h5⟩ := h.resolve_left hz
  refine (markSourceS_core g us.length c k S P F us w h0 hk hk1 h3 h4 h5).mono fun e w' ⟨F', a1, a2, a3⟩ => ⟨a1, ⟨by rw [mL_len]; exact h0, _, c, by rw [mL_len], .inr ⟨g, F', P, rfl, h3, fun i hi => h4 i (by rw [mL_len] at hi; exact hi), ?_⟩⟩, a3⟩
  rw [mL_len]
  exact a2
end Go.Proofs.Ytkibaimemomjpaa.Ow
namespace Go.Proofs.Ytkibaimemomjpaa.FwQ
set_option maxRecDepth 8000
open Go.RowKit
open Ls
theorem stps : ∀ us : List Stp, tot Ow.nStp us = 3 * us.length
  | [] => rfl
  | t :: r => by simp only [tot, stps r, Ow.nStp, List.length_cons]; omega
theorem gqt (g : Gqt) : Ow.nGqt g ≤ 2 + 3 * szGqt g := by
  unfold Ow.nGqt szGqt szL
  rw [stps]
  omega
theorem gqts : ∀ us : List Gqt, tot Ow.nGqt us ≤ 2 * us.length + 3 * tot szGqt us
  | [] => by simp [tot]
  | f :: r => by
    have h1 := gqts r
    have h2 := gqt f
    simp only [tot, List.length_cons]
    omega
theorem qry (u : Qry) (h : szQry u ≤ 1048576) : Ow.nQry u ≤ 1000000000 := by
  have := gqts u.gets
  unfold szQry szL at h
  unfold Ow.nQry
  rw [stps, Ow.nX_tot]
  omega
theorem src (s : Src) : Ow.nSrc s ≤ 2 + szSrc s := by
  unfold Ow.nSrc szSrc szL
  rw [Ow.nX_tot]
  omega
theorem srct : ∀ us : List Src, tot Ow.nSrc us ≤ 2 * us.length + tot szSrc us
  | [] => by simp [tot]
  | f :: r => by
    have h1 := srct r
    have h2 := src f
    simp only [tot, List.length_cons]
    omega
theorem srcs (us : List Src) (h : szL szSrc us ≤ 1048576) : tot Ow.nSrc us ≤ 1000000000 := by
  have := srct us
  unfold szL at h
  omega
end Go.Proofs.Ytkibaimemomjpaa.FwQ
