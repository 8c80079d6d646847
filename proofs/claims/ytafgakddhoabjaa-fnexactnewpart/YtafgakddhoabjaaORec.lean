/- Lists of Record of the call's own; the law's marks on them. -/
import Derived.Test.YtafgakddhoabjaaOHd
import Derived.Test.YtafgakddhoabjaaTRecs
namespace Go.Proofs.Ytafgakddhoabjaa.Ow
set_option maxRecDepth 8000
open Go.RowKit
open Recs
open Ls
set_option linter.unusedVariables false
def EORec : Elt Rec := fun w S f u => (f 0 = .int .i64 u.time ∧ f 1 = .bool u.keyed ∧ f 2 = .string u.key ∧ f 3 = .bool u.gone ∧ f 4 = .string u.val) ∧ ∃ Q : Nat → Nat → Prop, (∀ i y, Q i y → S y) ∧ (∀ i j, i ≠ j → ∀ y, Q i y → ¬ Q j y) ∧ HdsOwn w (Q 5) (f 5) u.heads
theorem keepsORec : KeepsO 6 EORec := fun w w' S f f' t h hs hk hf => by
  obtain ⟨⟨s0, s1, s2, s3, s4⟩, Q, q1, q2, l5⟩ := h
  exact ⟨⟨by rw [hf 0 (by omega)]; exact s0, by rw [hf 1 (by omega)]; exact s1, by rw [hf 2 (by omega)]; exact s2, by rw [hf 3 (by omega)]; exact s3, by rw [hf 4 (by omega)]; exact s4⟩, Q, q1, q2, by rw [hf 5 (by omega)]; exact l5.keep keepsOHd hs (fun g hg => hk g (q1 _ g hg))⟩
theorem atORec (w : World) (S : Nat → Prop) (f : Nat → Value) (u : Rec) (h : EORec w S f u) : ERec w S f u := by
  obtain ⟨⟨s0, s1, s2, s3, s4⟩, Q, q1, q2, l5⟩ := h
  exact ⟨s0, s1, s2, s3, s4, (LOwn.lat growsHd atOHd l5).mono growsHd (q1 5)⟩
abbrev RecsOwn := LOwn 56 6 EORec
def mRec (k : Nat) (u : Rec) : Rec := ⟨(((k + 0) : Nat) : Int), ((((k + 1) : Nat) : Int) % 3 == 0), mt (k + 2), ((((k + 3) : Nat) : Int) % 3 == 0), mt (k + 4), mL mHd nHd (k + 5) u.heads⟩
def nRec (u : Rec) : Nat := 5 + tot nHd u.heads
theorem markRecordS_none (A : Option Addr) (c : Nat) (k : Int) (w : World) : Calls Try.prog 27 #[.slice A 0 c, .int .i64 k] w fun e w' => e = .returned (.int .i64 k) ∧ w = w' := by
  go_enter Try.func27, Try.ntmps27
  go_wp2
  go_loop [1, 5] (fun x i => i = .int .i64 0 ∧ x = .int .i64 k) (fun _ _ => 0)
  case atStart => exact ⟨rfl, rfl⟩
  case round =>
    obtain ⟨rfl, rfl⟩ := hrel
    go_wp2
    go_ret
    exact ⟨rfl, rfl⟩
set_option maxHeartbeats 3200000 in
theorem markRecordS_core (g n c k : Nat) (S : Nat → Prop) (P : Nat → Nat → Prop) (F0 : Nat → Value) (us : List Rec) (w : World) (hn : n ≤ 1048576) (hk : 0 < k) (hk1 : k + tot nRec us ≤ 4000000000000000000) (hSg : S g) (hSP : ∀ i, i < n → ∀ y, P i y → S y) (ho : LOpen 56 6 EORec w g n c F0 P us) :
    Calls Try.prog 27 #[.slice (some ⟨g, 0, none⟩) n c, .int .i64 k] w fun e w' => ∃ F, e = .returned (.int .i64 ((k + tot nRec us : Nat) : Int)) ∧ LOpen 56 6 EORec w' g n c F P (mL mRec nRec k us) ∧ Foot w w' S := by
  have hc := ho.mine.le
  have hlen := Seg.hid ho.len
  have HM : Hid (LOpen 56 6 EORec w g n c F0 P (mid mRec nRec k 0 us) ∧ Foot w w S) := ⟨by rw [mid_zero]; exact ho, Foot.refl _ _⟩
  have HSG := Seg.hid hSg; have HSP := Seg.hid hSP
  have KL : Hid (∀ j, j < n → k + tot nRec (us.take j) + nRec (us.getD j default) ≤ 4000000000000000000) := fun j hj => by
    have a1 := tot_take nRec (ts := us) (j := j) (by rw [hlen.out]; exact hj)
    have a2 := tot_le nRec us (j + 1)
    omega
  have KE : Hid (k + tot nRec (us.take n) = k + tot nRec us) := by show _ = _; rw [← hlen.out, List.take_length]
  clear ho hSg hSP hk1
  go_enter Try.func27, Try.ntmps27
  go_wp2
  go_loopw [1, 5] (fun x i wr => ∃ (j : Nat) (F : Nat → Value), j ≤ n ∧ i = .int .i64 j ∧ x = .int .i64 ((k + tot nRec (us.take j) : Nat) : Int) ∧ Hid (LOpen 56 6 EORec wr g n c F P (mid mRec nRec k j us) ∧ Foot w wr S)) (fun _ i _ => n - (intOf i).toNat)
  case atStart => exact ⟨0, F0, Nat.zero_le _, rfl, rfl, HM.out⟩
  case round =>
    clear HM
    obtain ⟨j, F, hj, rfl, rfl, HR⟩ := hrel
    by_cases hlt : j < n
    · have h0 : (0 : Int) ≤ (j : Int) := by omega
      have h1 : (j : Int) < (n : Int) := by omega
      have EL := HR.out.1.el j hlt
      rw [mid_get mRec nRec (by rw [hlen.out]; exact hlt)] at EL
      have MS := mid_step mRec nRec (k := k) (ts := us) (j := j) (by rw [hlen.out]; exact hlt)
      have TK := Seg.hid (tot_take nRec (ts := us) (j := j) (by rw [hlen.out]; exact hlt))
      have hxb := KL.out j hlt
      have HAP := Seg.hid (HR.out.1.apart j hlt)
      obtain ⟨x, hx⟩ : ∃ x, k + tot nRec (us.take j) = x := ⟨_, rfl⟩
      have HX := Seg.hid hx
      rw [hx] at hxb MS ⊢
      have hx0 : 0 < x := by omega
      clear hx
      have MS' := Seg.hid MS
      clear MS
      generalize us.getD j default = u at *
      have HXB := Seg.hid hxb
      clear hxb
      obtain ⟨⟨s0, s1, s2, s3, s4⟩, Q, q1, q2, l5⟩ := EL
      obtain ⟨A5, c5, g5⟩ := l5.form
      have O0_5 : Hid (HdsOwn wr (Q 5) (.slice A5 u.heads.length c5) u.heads) := by
        have := l5
        rw [g5] at this
        exact this
      have QP := Seg.hid q1
      have QD := Seg.hid q2
      have R0 : Hid (Rnd 56 6 g n c (P j) w wr wr S F j [.int .i64 u.time, .bool u.keyed, .string u.key, .bool u.gone, .string u.val, .slice A5 u.heads.length c5]) := Rnd.start HR.out.1.mine HR.out.2 rfl (fun q hq => by
        match q, hq with
        | 0, _ => exact s0
        | 1, _ => exact s1
        | 2, _ => exact s2
        | 3, _ => exact s3
        | 4, _ => exact s4
        | 5, _ => exact g5)
      clear s0 s1 s2 s3 s4 l5 g5 q1 q2
      have QG : Hid (∀ i y, Q i y → y ≠ g) := fun i y hy => (HAP.out y (QP.out i y hy)).1
      have QL : Hid (∀ i y, Q i y → y < wr.heap.size) := fun i y hy => (HAP.out y (QP.out i y hy)).2
      have HB_x : Hid (x + 5 + tot nHd u.heads ≤ 4000000000000000000) := by show _ ≤ _; have := HXB.out; simp only [nRec] at this; omega
      have hc_x : x + 6 ≤ 4000000000000000000 + 6 := by have := HB_x.out; omega
      have hd_x : x + 5 ≤ 4000000000000000000 := by have := HB_x.out; omega
      have d0 : (wr).cell? ⟨g, j * 6, none⟩ = some (.int .i64 u.time) := R0.out.cell hlt 0 (by omega)
      have f0 : (wr).frozen? ⟨g, j * 6, none⟩ = false := R0.out.frozen _
      have R1 : Hid (Rnd 56 6 g n c (P j) w wr (wr.setCell ⟨g, j * 6, none⟩ (.int .i64 ((x : Int)))) S F j [.int .i64 ((x : Int)), .bool u.keyed, .string u.key, .bool u.gone, .string u.val, .slice A5 u.heads.length c5]) := R0.out.set HSG.out 0 (by omega) (.int .i64 ((x : Int)))
      have O1_5 : Hid (HdsOwn (wr.setCell ⟨g, j * 6, none⟩ (.int .i64 ((x : Int)))) (Q 5) (.slice A5 u.heads.length c5) (u.heads)) := O0_5.out.set keepsOHd _ (QG.out 5) _
      have d1 : ((wr.setCell ⟨g, j * 6, none⟩ (.int .i64 ((x : Int))))).cell? ⟨g, j * 6 + 1, none⟩ = some (.bool u.keyed) := R1.out.cell hlt 1 (by omega)
      have f1 : ((wr.setCell ⟨g, j * 6, none⟩ (.int .i64 ((x : Int))))).frozen? ⟨g, j * 6 + 1, none⟩ = false := R1.out.frozen _
      have R2 : Hid (Rnd 56 6 g n c (P j) w wr ((wr.setCell ⟨g, j * 6, none⟩ (.int .i64 ((x : Int)))).setCell ⟨g, j * 6 + 1, none⟩ (.bool (((x : Int) + 1) % 3 == 0))) S F j [.int .i64 ((x : Int)), .bool (((x : Int) + 1) % 3 == 0), .string u.key, .bool u.gone, .string u.val, .slice A5 u.heads.length c5]) := R1.out.set HSG.out 1 (by omega) (.bool (((x : Int) + 1) % 3 == 0))
      have O2_5 : Hid (HdsOwn ((wr.setCell ⟨g, j * 6, none⟩ (.int .i64 ((x : Int)))).setCell ⟨g, j * 6 + 1, none⟩ (.bool (((x : Int) + 1) % 3 == 0))) (Q 5) (.slice A5 u.heads.length c5) (u.heads)) := O1_5.out.set keepsOHd _ (QG.out 5) _
      go_wp2_with fail
      clear d0 f0 d1 f1
      refine (markText_at _ (x + 2) (by omega) ((wr.setCell ⟨g, j * 6, none⟩ (.int .i64 ((x : Int)))).setCell ⟨g, j * 6 + 1, none⟩ (.bool (((x : Int) + 1) % 3 == 0))) (by omega) (by omega)).mono ?_
      rintro e w1 ⟨rfl, b1⟩
      have R3 : Hid (Rnd 56 6 g n c (P j) w wr w1 S F j [.int .i64 ((x : Int)), .bool (((x : Int) + 1) % 3 == 0), .string u.key, .bool u.gone, .string u.val, .slice A5 u.heads.length c5]) := R2.out.below b1
      have O3_5 : Hid (HdsOwn w1 (Q 5) (.slice A5 u.heads.length c5) (u.heads)) := O2_5.out.belowO keepsOHd b1 (fun y hy => Nat.lt_of_lt_of_le (QL.out 5 y hy) R2.out.le)
      clear b1
      have d2 : (w1).cell? ⟨g, j * 6 + 2, none⟩ = some (.string u.key) := R3.out.cell hlt 2 (by omega)
      have f2 : (w1).frozen? ⟨g, j * 6 + 2, none⟩ = false := R3.out.frozen _
      have R4 : Hid (Rnd 56 6 g n c (P j) w wr (w1.setCell ⟨g, j * 6 + 2, none⟩ (.string (mt (x + 2)))) S F j [.int .i64 ((x : Int)), .bool (((x : Int) + 1) % 3 == 0), .string (mt (x + 2)), .bool u.gone, .string u.val, .slice A5 u.heads.length c5]) := R3.out.set HSG.out 2 (by omega) (.string (mt (x + 2)))
      have O4_5 : Hid (HdsOwn (w1.setCell ⟨g, j * 6 + 2, none⟩ (.string (mt (x + 2)))) (Q 5) (.slice A5 u.heads.length c5) (u.heads)) := O3_5.out.set keepsOHd _ (QG.out 5) _
      have d3 : ((w1.setCell ⟨g, j * 6 + 2, none⟩ (.string (mt (x + 2))))).cell? ⟨g, j * 6 + 3, none⟩ = some (.bool u.gone) := R4.out.cell hlt 3 (by omega)
      have f3 : ((w1.setCell ⟨g, j * 6 + 2, none⟩ (.string (mt (x + 2))))).frozen? ⟨g, j * 6 + 3, none⟩ = false := R4.out.frozen _
      have R5 : Hid (Rnd 56 6 g n c (P j) w wr ((w1.setCell ⟨g, j * 6 + 2, none⟩ (.string (mt (x + 2)))).setCell ⟨g, j * 6 + 3, none⟩ (.bool (((x : Int) + 1 + 1 + 1) % 3 == 0))) S F j [.int .i64 ((x : Int)), .bool (((x : Int) + 1) % 3 == 0), .string (mt (x + 2)), .bool (((x : Int) + 1 + 1 + 1) % 3 == 0), .string u.val, .slice A5 u.heads.length c5]) := R4.out.set HSG.out 3 (by omega) (.bool (((x : Int) + 1 + 1 + 1) % 3 == 0))
      have O5_5 : Hid (HdsOwn ((w1.setCell ⟨g, j * 6 + 2, none⟩ (.string (mt (x + 2)))).setCell ⟨g, j * 6 + 3, none⟩ (.bool (((x : Int) + 1 + 1 + 1) % 3 == 0))) (Q 5) (.slice A5 u.heads.length c5) (u.heads)) := O4_5.out.set keepsOHd _ (QG.out 5) _
      go_wp2_with fail
      clear d2 f2 d3 f3
      refine (markText_at _ (x + 4) (by omega) ((w1.setCell ⟨g, j * 6 + 2, none⟩ (.string (mt (x + 2)))).setCell ⟨g, j * 6 + 3, none⟩ (.bool (((x : Int) + 1 + 1 + 1) % 3 == 0))) (by omega) (by omega)).mono ?_
      rintro e w2 ⟨rfl, b2⟩
      have R6 : Hid (Rnd 56 6 g n c (P j) w wr w2 S F j [.int .i64 ((x : Int)), .bool (((x : Int) + 1) % 3 == 0), .string (mt (x + 2)), .bool (((x : Int) + 1 + 1 + 1) % 3 == 0), .string u.val, .slice A5 u.heads.length c5]) := R5.out.below b2
      have O6_5 : Hid (HdsOwn w2 (Q 5) (.slice A5 u.heads.length c5) (u.heads)) := O5_5.out.belowO keepsOHd b2 (fun y hy => Nat.lt_of_lt_of_le (QL.out 5 y hy) R5.out.le)
      clear b2
      have d4 : (w2).cell? ⟨g, j * 6 + 4, none⟩ = some (.string u.val) := R6.out.cell hlt 4 (by omega)
      have f4 : (w2).frozen? ⟨g, j * 6 + 4, none⟩ = false := R6.out.frozen _
      have R7 : Hid (Rnd 56 6 g n c (P j) w wr (w2.setCell ⟨g, j * 6 + 4, none⟩ (.string (mt (x + 4)))) S F j [.int .i64 ((x : Int)), .bool (((x : Int) + 1) % 3 == 0), .string (mt (x + 2)), .bool (((x : Int) + 1 + 1 + 1) % 3 == 0), .string (mt (x + 4)), .slice A5 u.heads.length c5]) := R6.out.set HSG.out 4 (by omega) (.string (mt (x + 4)))
      have O7_5 : Hid (HdsOwn (w2.setCell ⟨g, j * 6 + 4, none⟩ (.string (mt (x + 4)))) (Q 5) (.slice A5 u.heads.length c5) (u.heads)) := O6_5.out.set keepsOHd _ (QG.out 5) _
      have d5 : ((w2.setCell ⟨g, j * 6 + 4, none⟩ (.string (mt (x + 4))))).cell? ⟨g, j * 6 + 5, none⟩ = some (.slice A5 u.heads.length c5) := R7.out.cell hlt 5 (by omega)
      go_wp2_with fail
      clear d4 f4 d5
      refine (markHeadS_own _ (x + 5) (by omega) (Q 5) u.heads (w2.setCell ⟨g, j * 6 + 4, none⟩ (.string (mt (x + 4)))) (by omega) (by have := HB_x.out; omega) O7_5.out).mono ?_
      rintro e w3 ⟨rfl, o3, t3⟩
      have R8 : Hid (Rnd 56 6 g n c (P j) w wr w3 S F j [.int .i64 ((x : Int)), .bool (((x : Int) + 1) % 3 == 0), .string (mt (x + 2)), .bool (((x : Int) + 1 + 1 + 1) % 3 == 0), .string (mt (x + 4)), .slice A5 u.heads.length c5]) := R7.out.foot t3 (QP.out 5) (fun h => (HAP.out g h).1 rfl) (HSP.out j hlt)
      have O8_5 : Hid (HdsOwn w3 (Q 5) (.slice A5 u.heads.length c5) (mL mHd nHd (x + 5) u.heads)) := o3
      clear o3 t3
      obtain ⟨y3, hy3⟩ : ∃ y3, x + 5 + tot nHd u.heads = y3 := ⟨_, rfl⟩
      rw [hy3]
      have Hy3 := Seg.hid hy3
      have HB_y3 : Hid (y3 + 0 ≤ 4000000000000000000) := by show _ ≤ _; have := HB_x.out; omega
      have hd_y3 : y3 + 0 ≤ 4000000000000000000 := by have := HB_y3.out; omega
      have hp_y3 : 0 < y3 := by omega
      clear hy3
      have EE : Hid (EORec w3 (P j) (fun q => [.int .i64 ((x : Int)), .bool (((x : Int) + 1) % 3 == 0), .string (mt (x + 2)), .bool (((x : Int) + 1 + 1 + 1) % 3 == 0), .string (mt (x + 4)), .slice A5 u.heads.length c5].getD q default) (mRec x u)) := by
        refine ⟨⟨?_, ?_, ?_, ?_, ?_⟩, Q, QP.out, QD.out, ?_⟩
        · exact congrArg (Value.int .i64) (show (x : Int) = (((x + 0) : Nat) : Int) by have z0 := Hy3.out; omega)
        · exact congrArg (fun z : Int => Value.bool (z % 3 == 0)) (show (x : Int) + 1 = (((x + 1) : Nat) : Int) by have z0 := Hy3.out; omega)
        · exact congrArg (fun z : Nat => Value.string (mt z)) (show x + 2 = (x + 2) by have z0 := Hy3.out; omega)
        · exact congrArg (fun z : Int => Value.bool (z % 3 == 0)) (show (x : Int) + 1 + 1 + 1 = (((x + 3) : Nat) : Int) by have z0 := Hy3.out; omega)
        · exact congrArg (fun z : Nat => Value.string (mt z)) (show x + 4 = (x + 4) by have z0 := Hy3.out; omega)
        · have hz : x + 5 = (x + 5) := by (have z0 := Hy3.out; omega)
          have ho := O8_5.out
          rw [hz] at ho
          exact ho
      obtain ⟨F', L', F2⟩ := Rnd.done keepsORec (t := mRec x u) HR.out.1 hlt R8.out EE.out
      rw [MS'.out] at L'
      have L2 := Seg.hid L'
      have F3 := Seg.hid F2
      clear L' F2
      have HKK : Hid ((y3 : Int) = ((k + tot nRec (us.take (j + 1)) : Nat) : Int)) := by
        show _ = _
        have z0 := Hy3.out; have a1 := TK.out; have a2 := HX.out; simp only [nRec] at a1; omega
      go_wp2
      go_roundw
      case rel => exact ⟨j + 1, F', by omega, by go_num, congrArg (Value.int .i64) HKK.out, L2.out, F3.out⟩
      case measure => simp [intOf]; omega
    · have : j = n := by omega
      subst this
      have E := HR.out
      rw [show mid mRec nRec k j us = mL mRec nRec k us by rw [← hlen.out]; exact mid_all _ _ _ _] at E
      have EH' := Seg.hid E
      clear E
      rw [KE.out]
      go_wp2
      go_ret
      exact ⟨F, rfl, EH'.out⟩
theorem markRecordS_own (x : Int) (k : Nat) (hx : x = (k : Int)) (S : Nat → Prop) (us : List Rec) (w : World) {v : Value} (hk : 0 < k) (hk1 : k + tot nRec us ≤ 4000000000000000000) (hv : RecsOwn w S v us) :
    Calls Try.prog 27 #[v, .int .i64 x] w fun e w' => e = .returned (.int .i64 ((k + tot nRec us : Nat) : Int)) ∧ RecsOwn w' S v (mL mRec nRec k us) ∧ Foot w w' S := by
  subst hx
  obtain ⟨h0, A, c, rfl, h⟩ := hv
  by_cases hz : us.length = 0
  · obtain rfl := List.length_eq_zero_iff.1 hz
    exact (markRecordS_none A c k w).mono fun e w' ⟨h1, h2⟩ => by
      subst h2
      exact ⟨by rw [h1]; rfl, LOwn.nil _ _ _ _, Foot.refl _ _⟩
  obtain ⟨g, F, P, rfl, h3, h4, h5⟩ := h.resolve_left hz
  refine (markRecordS_core g us.length c k S P F us w h0 hk hk1 h3 h4 h5).mono fun e w' ⟨F', a1, a2, a3⟩ => ⟨a1, ⟨by rw [mL_len]; exact h0, _, c, by rw [mL_len], .inr ⟨g, F', P, rfl, h3, fun i hi => h4 i (by rw [mL_len] at hi; exact hi), ?_⟩⟩, a3⟩
  rw [mL_len]
  exact a2
end Go.Proofs.Ytafgakddhoabjaa.Ow
