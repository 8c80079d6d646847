/- Lists of Member of the call's own; the law's marks on them. -/
import Derived.Test.YtokoollljobfgaaMkX
import Derived.Test.YtokoollljobfgaaOSlt
import Derived.Test.YtokoollljobfgaaTMbrs
namespace Go.Proofs.Ytokoollljobfgaa.Ow
set_option maxRecDepth 8000
open Go.RowKit
open Recs
open Ls
set_option linter.unusedVariables false
def EOMbr : Elt Mbr := fun w S f u => (f 0 = .string u.name ∧ f 1 = .string u.sttc ∧ f 3 = .int .i64 u.beat ∧ f 4 = .int .i64 u.round) ∧ ∃ Q : Nat → Nat → Prop, (∀ i y, Q i y → S y) ∧ (∀ i j, i ≠ j → ∀ y, Q i y → ¬ Q j y) ∧ StrsOwn w (Q 2) (f 2) u.wants ∧ SltsOwn w (Q 5) (f 5) u.owns ∧ SltsOwn w (Q 6) (f 6) u.target
theorem keepsOMbr : KeepsO 7 EOMbr := fun w w' S f f' t h hs hk hf => by
  obtain ⟨⟨s0, s1, s3, s4⟩, Q, q1, q2, l2, l5, l6⟩ := h
  exact ⟨⟨by rw [hf 0 (by omega)]; exact s0, by rw [hf 1 (by omega)]; exact s1, by rw [hf 3 (by omega)]; exact s3, by rw [hf 4 (by omega)]; exact s4⟩, Q, q1, q2, by rw [hf 2 (by omega)]; exact l2.keep keepsOStr hs (fun g hg => hk g (q1 _ g hg)), by rw [hf 5 (by omega)]; exact l5.keep keepsOSlt hs (fun g hg => hk g (q1 _ g hg)), by rw [hf 6 (by omega)]; exact l6.keep keepsOSlt hs (fun g hg => hk g (q1 _ g hg))⟩
theorem atOMbr (w : World) (S : Nat → Prop) (f : Nat → Value) (u : Mbr) (h : EOMbr w S f u) : EMbr w S f u := by
  obtain ⟨⟨s0, s1, s3, s4⟩, Q, q1, q2, l2, l5, l6⟩ := h
  exact ⟨s0, s1, (LOwn.lat growsStr (fun _ _ _ _ h => h) l2).mono growsStr (q1 2), s3, s4, (LOwn.lat growsSlt atOSlt l5).mono growsSlt (q1 5), (LOwn.lat growsSlt atOSlt l6).mono growsSlt (q1 6)⟩
abbrev MbrsOwn := LOwn 45 7 EOMbr
def mMbr (k : Nat) (u : Mbr) : Mbr := ⟨mt (k + 0), mt (k + 1), mL mX nX (k + 2) u.wants, (((k + 2 + tot nX u.wants) : Nat) : Int), (((k + 3 + tot nX u.wants) : Nat) : Int), mL mSlt nSlt (k + 4 + tot nX u.wants) u.owns, mL mSlt nSlt (k + 4 + tot nX u.wants + tot nSlt u.owns) u.target⟩
def nMbr (u : Mbr) : Nat := 4 + tot nX u.wants + tot nSlt u.owns + tot nSlt u.target
theorem markMemberS_none (A : Option Addr) (c : Nat) (k : Int) (w : World) : Calls Try.prog 33 #[.slice A 0 c, .int .i64 k] w fun e w' => e = .returned (.int .i64 k) ∧ w = w' := by
  go_enter Try.func33, Try.ntmps33
  go_wp2
  go_loop [1, 5] (fun x i => i = .int .i64 0 ∧ x = .int .i64 k) (fun _ _ => 0)
  case atStart => exact ⟨rfl, rfl⟩
  case round =>
    obtain ⟨rfl, rfl⟩ := hrel
    go_wp2
    go_ret
    exact ⟨rfl, rfl⟩
set_option maxHeartbeats 3200000 in
theorem markMemberS_core (g n c k : Nat) (S : Nat → Prop) (P : Nat → Nat → Prop) (F0 : Nat → Value) (us : List Mbr) (w : World) (hn : n ≤ 1048576) (hk : 0 < k) (hk1 : k + tot nMbr us ≤ 4000000000000000000) (hSg : S g) (hSP : ∀ i, i < n → ∀ y, P i y → S y) (ho : LOpen 45 7 EOMbr w g n c F0 P us) :
    Calls Try.prog 33 #[.slice (some ⟨g, 0, none⟩) n c, .int .i64 k] w fun e w' => ∃ F, e = .returned (.int .i64 ((k + tot nMbr us : Nat) : Int)) ∧ LOpen 45 7 EOMbr w' g n c F P (mL mMbr nMbr k us) ∧ Foot w w' S := by
  have hc := ho.mine.le
  have hlen := Seg.hid ho.len
  have HM : Hid (LOpen 45 7 EOMbr w g n c F0 P (mid mMbr nMbr k 0 us) ∧ Foot w w S) := ⟨by rw [mid_zero]; exact ho, Foot.refl _ _⟩
  have HSG := Seg.hid hSg; have HSP := Seg.hid hSP
  have KL : Hid (∀ j, j < n → k + tot nMbr (us.take j) + nMbr (us.getD j default) ≤ 4000000000000000000) := fun j hj => by
    have a1 := tot_take nMbr (ts := us) (j := j) (by rw [hlen.out]; exact hj)
    have a2 := tot_le nMbr us (j + 1)
    omega
  have KE : Hid (k + tot nMbr (us.take n) = k + tot nMbr us) := by show _ = _; rw [← hlen.out, List.take_length]
  clear ho hSg hSP hk1
  go_enter Try.func33, Try.ntmps33
  go_wp2
  go_loopw [1, 5] (fun x i wr => ∃ (j : Nat) (F : Nat → Value), j ≤ n ∧ i = .int .i64 j ∧ x = .int .i64 ((k + tot nMbr (us.take j) : Nat) : Int) ∧ Hid (LOpen 45 7 EOMbr wr g n c F P (mid mMbr nMbr k j us) ∧ Foot w wr S)) (fun _ i _ => n - (intOf i).toNat)
  case atStart => exact ⟨0, F0, Nat.zero_le _, rfl, rfl, HM.out⟩
  case round =>
    clear HM
    obtain ⟨j, F, hj, rfl, rfl, HR⟩ := hrel
    by_cases hlt : j < n
    · have h0 : (0 : Int) ≤ (j : Int) := by omega
      have h1 : (j : Int) < (n : Int) := by omega
      have EL := HR.out.1.el j hlt
      rw [mid_get mMbr nMbr (by rw [hlen.out]; exact hlt)] at EL
      have MS := mid_step mMbr nMbr (k := k) (ts := us) (j := j) (by rw [hlen.out]; exact hlt)
      have TK := Seg.hid (tot_take nMbr (ts := us) (j := j) (by rw [hlen.out]; exact hlt))
      have hxb := KL.out j hlt
      have HAP := Seg.hid (HR.out.1.apart j hlt)
      obtain ⟨x, hx⟩ : ∃ x, k + tot nMbr (us.take j) = x := ⟨_, rfl⟩
      have HX := Seg.hid hx
      rw [hx] at hxb MS ⊢
      have hx0 : 0 < x := by omega
      clear hx
      have MS' := Seg.hid MS
      clear MS
      generalize us.getD j default = u at *
      have HXB := Seg.hid hxb
      clear hxb
      obtain ⟨⟨s0, s1, s3, s4⟩, Q, q1, q2, l2, l5, l6⟩ := EL
      obtain ⟨A2, c2, g2⟩ := l2.form
      have O0_2 : Hid (StrsOwn wr (Q 2) (.slice A2 u.wants.length c2) u.wants) := by
        have := l2
        rw [g2] at this
        exact this
      obtain ⟨A5, c5, g5⟩ := l5.form
      have O0_5 : Hid (SltsOwn wr (Q 5) (.slice A5 u.owns.length c5) u.owns) := by
        have := l5
        rw [g5] at this
        exact this
      obtain ⟨A6, c6, g6⟩ := l6.form
      have O0_6 : Hid (SltsOwn wr (Q 6) (.slice A6 u.target.length c6) u.target) := by
        have := l6
        rw [g6] at this
        exact this
      have QP := Seg.hid q1
      have QD := Seg.hid q2
      have R0 : Hid (Rnd 45 7 g n c (P j) w wr wr S F j [.string u.name, .string u.sttc, .slice A2 u.wants.length c2, .int .i64 u.beat, .int .i64 u.round, .slice A5 u.owns.length c5, .slice A6 u.target.length c6]) := Rnd.start HR.out.1.mine HR.out.2 rfl (fun q hq => by
        match q, hq with
        | 0, _ => exact s0
        | 1, _ => exact s1
        | 2, _ => exact g2
        | 3, _ => exact s3
        | 4, _ => exact s4
        | 5, _ => exact g5
        | 6, _ => exact g6)
      clear s0 s1 s3 s4 l2 g2 l5 g5 l6 g6 q1 q2
      have QG : Hid (∀ i y, Q i y → y ≠ g) := fun i y hy => (HAP.out y (QP.out i y hy)).1
      have QL : Hid (∀ i y, Q i y → y < wr.heap.size) := fun i y hy => (HAP.out y (QP.out i y hy)).2
      have HB_x : Hid (x + 4 + tot nX u.wants + tot nSlt u.owns + tot nSlt u.target ≤ 4000000000000000000) := by show _ ≤ _; have := HXB.out; simp only [nMbr] at this; omega
      have hc_x : x + 3 ≤ 4000000000000000000 + 3 := by have := HB_x.out; omega
      have hd_x : x + 2 ≤ 4000000000000000000 := by have := HB_x.out; omega
      go_wp2_with fail
      refine (markText_at _ (x) (by omega) wr (by omega) (by omega)).mono ?_
      rintro e w1 ⟨rfl, b1⟩
      have R1 : Hid (Rnd 45 7 g n c (P j) w wr w1 S F j [.string u.name, .string u.sttc, .slice A2 u.wants.length c2, .int .i64 u.beat, .int .i64 u.round, .slice A5 u.owns.length c5, .slice A6 u.target.length c6]) := R0.out.below b1
      have O1_2 : Hid (StrsOwn w1 (Q 2) (.slice A2 u.wants.length c2) (u.wants)) := O0_2.out.belowO keepsOStr b1 (fun y hy => Nat.lt_of_lt_of_le (QL.out 2 y hy) R0.out.le)
      have O1_5 : Hid (SltsOwn w1 (Q 5) (.slice A5 u.owns.length c5) (u.owns)) := O0_5.out.belowO keepsOSlt b1 (fun y hy => Nat.lt_of_lt_of_le (QL.out 5 y hy) R0.out.le)
      have O1_6 : Hid (SltsOwn w1 (Q 6) (.slice A6 u.target.length c6) (u.target)) := O0_6.out.belowO keepsOSlt b1 (fun y hy => Nat.lt_of_lt_of_le (QL.out 6 y hy) R0.out.le)
      clear b1
      have d0 : (w1).cell? ⟨g, j * 7, none⟩ = some (.string u.name) := R1.out.cell hlt 0 (by omega)
      have f0 : (w1).frozen? ⟨g, j * 7, none⟩ = false := R1.out.frozen _
      have R2 : Hid (Rnd 45 7 g n c (P j) w wr (w1.setCell ⟨g, j * 7, none⟩ (.string (mt (x)))) S F j [.string (mt (x)), .string u.sttc, .slice A2 u.wants.length c2, .int .i64 u.beat, .int .i64 u.round, .slice A5 u.owns.length c5, .slice A6 u.target.length c6]) := R1.out.set HSG.out 0 (by omega) (.string (mt (x)))
      have O2_2 : Hid (StrsOwn (w1.setCell ⟨g, j * 7, none⟩ (.string (mt (x)))) (Q 2) (.slice A2 u.wants.length c2) (u.wants)) := O1_2.out.set keepsOStr _ (QG.out 2) _
      have O2_5 : Hid (SltsOwn (w1.setCell ⟨g, j * 7, none⟩ (.string (mt (x)))) (Q 5) (.slice A5 u.owns.length c5) (u.owns)) := O1_5.out.set keepsOSlt _ (QG.out 5) _
      have O2_6 : Hid (SltsOwn (w1.setCell ⟨g, j * 7, none⟩ (.string (mt (x)))) (Q 6) (.slice A6 u.target.length c6) (u.target)) := O1_6.out.set keepsOSlt _ (QG.out 6) _
      go_wp2_with fail
      clear d0 f0
      refine (markText_at _ (x + 1) (by omega) (w1.setCell ⟨g, j * 7, none⟩ (.string (mt (x)))) (by omega) (by omega)).mono ?_
      rintro e w2 ⟨rfl, b2⟩
      have R3 : Hid (Rnd 45 7 g n c (P j) w wr w2 S F j [.string (mt (x)), .string u.sttc, .slice A2 u.wants.length c2, .int .i64 u.beat, .int .i64 u.round, .slice A5 u.owns.length c5, .slice A6 u.target.length c6]) := R2.out.below b2
      have O3_2 : Hid (StrsOwn w2 (Q 2) (.slice A2 u.wants.length c2) (u.wants)) := O2_2.out.belowO keepsOStr b2 (fun y hy => Nat.lt_of_lt_of_le (QL.out 2 y hy) R2.out.le)
      have O3_5 : Hid (SltsOwn w2 (Q 5) (.slice A5 u.owns.length c5) (u.owns)) := O2_5.out.belowO keepsOSlt b2 (fun y hy => Nat.lt_of_lt_of_le (QL.out 5 y hy) R2.out.le)
      have O3_6 : Hid (SltsOwn w2 (Q 6) (.slice A6 u.target.length c6) (u.target)) := O2_6.out.belowO keepsOSlt b2 (fun y hy => Nat.lt_of_lt_of_le (QL.out 6 y hy) R2.out.le)
      clear b2
      have d1 : (w2).cell? ⟨g, j * 7 + 1, none⟩ = some (.string u.sttc) := R3.out.cell hlt 1 (by omega)
      have f1 : (w2).frozen? ⟨g, j * 7 + 1, none⟩ = false := R3.out.frozen _
      have R4 : Hid (Rnd 45 7 g n c (P j) w wr (w2.setCell ⟨g, j * 7 + 1, none⟩ (.string (mt (x + 1)))) S F j [.string (mt (x)), .string (mt (x + 1)), .slice A2 u.wants.length c2, .int .i64 u.beat, .int .i64 u.round, .slice A5 u.owns.length c5, .slice A6 u.target.length c6]) := R3.out.set HSG.out 1 (by omega) (.string (mt (x + 1)))
      have O4_2 : Hid (StrsOwn (w2.setCell ⟨g, j * 7 + 1, none⟩ (.string (mt (x + 1)))) (Q 2) (.slice A2 u.wants.length c2) (u.wants)) := O3_2.out.set keepsOStr _ (QG.out 2) _
      have O4_5 : Hid (SltsOwn (w2.setCell ⟨g, j * 7 + 1, none⟩ (.string (mt (x + 1)))) (Q 5) (.slice A5 u.owns.length c5) (u.owns)) := O3_5.out.set keepsOSlt _ (QG.out 5) _
      have O4_6 : Hid (SltsOwn (w2.setCell ⟨g, j * 7 + 1, none⟩ (.string (mt (x + 1)))) (Q 6) (.slice A6 u.target.length c6) (u.target)) := O3_6.out.set keepsOSlt _ (QG.out 6) _
      have d2 : ((w2.setCell ⟨g, j * 7 + 1, none⟩ (.string (mt (x + 1))))).cell? ⟨g, j * 7 + 2, none⟩ = some (.slice A2 u.wants.length c2) := R4.out.cell hlt 2 (by omega)
      go_wp2_with fail
      clear d1 f1 d2
      refine (markStringS_own _ (x + 2) (by omega) (Q 2) u.wants (w2.setCell ⟨g, j * 7 + 1, none⟩ (.string (mt (x + 1)))) (by omega) (by have := HB_x.out; omega) O4_2.out).mono ?_
      rintro e w3 ⟨rfl, o3, t3⟩
      have R5 : Hid (Rnd 45 7 g n c (P j) w wr w3 S F j [.string (mt (x)), .string (mt (x + 1)), .slice A2 u.wants.length c2, .int .i64 u.beat, .int .i64 u.round, .slice A5 u.owns.length c5, .slice A6 u.target.length c6]) := R4.out.foot t3 (QP.out 2) (fun h => (HAP.out g h).1 rfl) (HSP.out j hlt)
      have O5_2 : Hid (StrsOwn w3 (Q 2) (.slice A2 u.wants.length c2) (mL mX nX (x + 2) u.wants)) := o3
      have O5_5 : Hid (SltsOwn w3 (Q 5) (.slice A5 u.owns.length c5) (u.owns)) := O4_5.out.footO keepsOSlt t3 (fun y hy => Nat.lt_of_lt_of_le (QL.out 5 y hy) R4.out.le) (QD.out 5 2 (by omega))
      have O5_6 : Hid (SltsOwn w3 (Q 6) (.slice A6 u.target.length c6) (u.target)) := O4_6.out.footO keepsOSlt t3 (fun y hy => Nat.lt_of_lt_of_le (QL.out 6 y hy) R4.out.le) (QD.out 6 2 (by omega))
      clear o3 t3
      obtain ⟨y3, hy3⟩ : ∃ y3, x + 2 + tot nX u.wants = y3 := ⟨_, rfl⟩
      rw [hy3]
      have Hy3 := Seg.hid hy3
      have HB_y3 : Hid (y3 + 2 + tot nSlt u.owns + tot nSlt u.target ≤ 4000000000000000000) := by show _ ≤ _; have := HB_x.out; omega
      have hd_y3 : y3 + 2 ≤ 4000000000000000000 := by have := HB_y3.out; omega
      have hp_y3 : 0 < y3 := by omega
      clear hy3
      have d3 : (w3).cell? ⟨g, j * 7 + 3, none⟩ = some (.int .i64 u.beat) := R5.out.cell hlt 3 (by omega)
      have f3 : (w3).frozen? ⟨g, j * 7 + 3, none⟩ = false := R5.out.frozen _
      have R6 : Hid (Rnd 45 7 g n c (P j) w wr (w3.setCell ⟨g, j * 7 + 3, none⟩ (.int .i64 ((y3 : Int)))) S F j [.string (mt (x)), .string (mt (x + 1)), .slice A2 u.wants.length c2, .int .i64 ((y3 : Int)), .int .i64 u.round, .slice A5 u.owns.length c5, .slice A6 u.target.length c6]) := R5.out.set HSG.out 3 (by omega) (.int .i64 ((y3 : Int)))
      have O6_2 : Hid (StrsOwn (w3.setCell ⟨g, j * 7 + 3, none⟩ (.int .i64 ((y3 : Int)))) (Q 2) (.slice A2 u.wants.length c2) (mL mX nX (x + 2) u.wants)) := O5_2.out.set keepsOStr _ (QG.out 2) _
      have O6_5 : Hid (SltsOwn (w3.setCell ⟨g, j * 7 + 3, none⟩ (.int .i64 ((y3 : Int)))) (Q 5) (.slice A5 u.owns.length c5) (u.owns)) := O5_5.out.set keepsOSlt _ (QG.out 5) _
      have O6_6 : Hid (SltsOwn (w3.setCell ⟨g, j * 7 + 3, none⟩ (.int .i64 ((y3 : Int)))) (Q 6) (.slice A6 u.target.length c6) (u.target)) := O5_6.out.set keepsOSlt _ (QG.out 6) _
      have d4 : ((w3.setCell ⟨g, j * 7 + 3, none⟩ (.int .i64 ((y3 : Int))))).cell? ⟨g, j * 7 + 4, none⟩ = some (.int .i64 u.round) := R6.out.cell hlt 4 (by omega)
      have f4 : ((w3.setCell ⟨g, j * 7 + 3, none⟩ (.int .i64 ((y3 : Int))))).frozen? ⟨g, j * 7 + 4, none⟩ = false := R6.out.frozen _
      have R7 : Hid (Rnd 45 7 g n c (P j) w wr ((w3.setCell ⟨g, j * 7 + 3, none⟩ (.int .i64 ((y3 : Int)))).setCell ⟨g, j * 7 + 4, none⟩ (.int .i64 ((y3 : Int) + 1))) S F j [.string (mt (x)), .string (mt (x + 1)), .slice A2 u.wants.length c2, .int .i64 ((y3 : Int)), .int .i64 ((y3 : Int) + 1), .slice A5 u.owns.length c5, .slice A6 u.target.length c6]) := R6.out.set HSG.out 4 (by omega) (.int .i64 ((y3 : Int) + 1))
      have O7_2 : Hid (StrsOwn ((w3.setCell ⟨g, j * 7 + 3, none⟩ (.int .i64 ((y3 : Int)))).setCell ⟨g, j * 7 + 4, none⟩ (.int .i64 ((y3 : Int) + 1))) (Q 2) (.slice A2 u.wants.length c2) (mL mX nX (x + 2) u.wants)) := O6_2.out.set keepsOStr _ (QG.out 2) _
      have O7_5 : Hid (SltsOwn ((w3.setCell ⟨g, j * 7 + 3, none⟩ (.int .i64 ((y3 : Int)))).setCell ⟨g, j * 7 + 4, none⟩ (.int .i64 ((y3 : Int) + 1))) (Q 5) (.slice A5 u.owns.length c5) (u.owns)) := O6_5.out.set keepsOSlt _ (QG.out 5) _
      have O7_6 : Hid (SltsOwn ((w3.setCell ⟨g, j * 7 + 3, none⟩ (.int .i64 ((y3 : Int)))).setCell ⟨g, j * 7 + 4, none⟩ (.int .i64 ((y3 : Int) + 1))) (Q 6) (.slice A6 u.target.length c6) (u.target)) := O6_6.out.set keepsOSlt _ (QG.out 6) _
      have d5 : (((w3.setCell ⟨g, j * 7 + 3, none⟩ (.int .i64 ((y3 : Int)))).setCell ⟨g, j * 7 + 4, none⟩ (.int .i64 ((y3 : Int) + 1)))).cell? ⟨g, j * 7 + 5, none⟩ = some (.slice A5 u.owns.length c5) := R7.out.cell hlt 5 (by omega)
      go_wp2_with fail
      clear d3 f3 d4 f4 d5
      refine (markSlotS_own _ (y3 + 2) (by omega) (Q 5) u.owns ((w3.setCell ⟨g, j * 7 + 3, none⟩ (.int .i64 ((y3 : Int)))).setCell ⟨g, j * 7 + 4, none⟩ (.int .i64 ((y3 : Int) + 1))) (by omega) (by have := HB_y3.out; omega) O7_5.out).mono ?_
      rintro e w4 ⟨rfl, o4, t4⟩
      have R8 : Hid (Rnd 45 7 g n c (P j) w wr w4 S F j [.string (mt (x)), .string (mt (x + 1)), .slice A2 u.wants.length c2, .int .i64 ((y3 : Int)), .int .i64 ((y3 : Int) + 1), .slice A5 u.owns.length c5, .slice A6 u.target.length c6]) := R7.out.foot t4 (QP.out 5) (fun h => (HAP.out g h).1 rfl) (HSP.out j hlt)
      have O8_2 : Hid (StrsOwn w4 (Q 2) (.slice A2 u.wants.length c2) (mL mX nX (x + 2) u.wants)) := O7_2.out.footO keepsOStr t4 (fun y hy => Nat.lt_of_lt_of_le (QL.out 2 y hy) R7.out.le) (QD.out 2 5 (by omega))
      have O8_5 : Hid (SltsOwn w4 (Q 5) (.slice A5 u.owns.length c5) (mL mSlt nSlt (y3 + 2) u.owns)) := o4
      have O8_6 : Hid (SltsOwn w4 (Q 6) (.slice A6 u.target.length c6) (u.target)) := O7_6.out.footO keepsOSlt t4 (fun y hy => Nat.lt_of_lt_of_le (QL.out 6 y hy) R7.out.le) (QD.out 6 5 (by omega))
      clear o4 t4
      obtain ⟨y4, hy4⟩ : ∃ y4, y3 + 2 + tot nSlt u.owns = y4 := ⟨_, rfl⟩
      rw [hy4]
      have Hy4 := Seg.hid hy4
      have HB_y4 : Hid (y4 + 0 + tot nSlt u.target ≤ 4000000000000000000) := by show _ ≤ _; have := HB_y3.out; omega
      have hd_y4 : y4 + 0 ≤ 4000000000000000000 := by have := HB_y4.out; omega
      have hp_y4 : 0 < y4 := by omega
      clear hy4
      have d6 : (w4).cell? ⟨g, j * 7 + 6, none⟩ = some (.slice A6 u.target.length c6) := R8.out.cell hlt 6 (by omega)
      go_wp2_with fail
      clear d6
      refine (markSlotS_own _ (y4 + 0) (by omega) (Q 6) u.target w4 (by omega) (by have := HB_y4.out; omega) O8_6.out).mono ?_
      rintro e w5 ⟨rfl, o5, t5⟩
      have R9 : Hid (Rnd 45 7 g n c (P j) w wr w5 S F j [.string (mt (x)), .string (mt (x + 1)), .slice A2 u.wants.length c2, .int .i64 ((y3 : Int)), .int .i64 ((y3 : Int) + 1), .slice A5 u.owns.length c5, .slice A6 u.target.length c6]) := R8.out.foot t5 (QP.out 6) (fun h => (HAP.out g h).1 rfl) (HSP.out j hlt)
      have O9_2 : Hid (StrsOwn w5 (Q 2) (.slice A2 u.wants.length c2) (mL mX nX (x + 2) u.wants)) := O8_2.out.footO keepsOStr t5 (fun y hy => Nat.lt_of_lt_of_le (QL.out 2 y hy) R8.out.le) (QD.out 2 6 (by omega))
      have O9_5 : Hid (SltsOwn w5 (Q 5) (.slice A5 u.owns.length c5) (mL mSlt nSlt (y3 + 2) u.owns)) := O8_5.out.footO keepsOSlt t5 (fun y hy => Nat.lt_of_lt_of_le (QL.out 5 y hy) R8.out.le) (QD.out 5 6 (by omega))
      have O9_6 : Hid (SltsOwn w5 (Q 6) (.slice A6 u.target.length c6) (mL mSlt nSlt (y4 + 0) u.target)) := o5
      clear o5 t5
      obtain ⟨y5, hy5⟩ : ∃ y5, y4 + 0 + tot nSlt u.target = y5 := ⟨_, rfl⟩
      rw [hy5]
      have Hy5 := Seg.hid hy5
      have HB_y5 : Hid (y5 + 0 ≤ 4000000000000000000) := by show _ ≤ _; have := HB_y4.out; omega
      have hd_y5 : y5 + 0 ≤ 4000000000000000000 := by have := HB_y5.out; omega
      have hp_y5 : 0 < y5 := by omega
      clear hy5
      have EE : Hid (EOMbr w5 (P j) (fun q => [.string (mt (x)), .string (mt (x + 1)), .slice A2 u.wants.length c2, .int .i64 ((y3 : Int)), .int .i64 ((y3 : Int) + 1), .slice A5 u.owns.length c5, .slice A6 u.target.length c6].getD q default) (mMbr x u)) := by
        refine ⟨⟨?_, ?_, ?_, ?_⟩, Q, QP.out, QD.out, ?_, ?_, ?_⟩
        · exact congrArg (fun z : Nat => Value.string (mt z)) (show x = (x + 0) by have z0 := Hy3.out; have z1 := Hy4.out; have z2 := Hy5.out; omega)
        · exact congrArg (fun z : Nat => Value.string (mt z)) (show x + 1 = (x + 1) by have z0 := Hy3.out; have z1 := Hy4.out; have z2 := Hy5.out; omega)
        · exact congrArg (Value.int .i64) (show (y3 : Int) = (((x + 2 + tot nX u.wants) : Nat) : Int) by have z0 := Hy3.out; have z1 := Hy4.out; have z2 := Hy5.out; omega)
        · exact congrArg (Value.int .i64) (show (y3 : Int) + 1 = (((x + 3 + tot nX u.wants) : Nat) : Int) by have z0 := Hy3.out; have z1 := Hy4.out; have z2 := Hy5.out; omega)
        · have hz : x + 2 = (x + 2) := by (have z0 := Hy3.out; have z1 := Hy4.out; have z2 := Hy5.out; omega)
          have ho := O9_2.out
          rw [hz] at ho
          exact ho
        · have hz : y3 + 2 = (x + 4 + tot nX u.wants) := by (have z0 := Hy3.out; have z1 := Hy4.out; have z2 := Hy5.out; omega)
          have ho := O9_5.out
          rw [hz] at ho
          exact ho
        · have hz : y4 + 0 = (x + 4 + tot nX u.wants + tot nSlt u.owns) := by (have z0 := Hy3.out; have z1 := Hy4.out; have z2 := Hy5.out; omega)
          have ho := O9_6.out
          rw [hz] at ho
          exact ho
      obtain ⟨F', L', F2⟩ := Rnd.done keepsOMbr (t := mMbr x u) HR.out.1 hlt R9.out EE.out
      rw [MS'.out] at L'
      have L2 := Seg.hid L'
      have F3 := Seg.hid F2
      clear L' F2
      have HKK : Hid ((y5 : Int) = ((k + tot nMbr (us.take (j + 1)) : Nat) : Int)) := by
        show _ = _
        have z0 := Hy3.out; have z1 := Hy4.out; have z2 := Hy5.out; have a1 := TK.out; have a2 := HX.out; simp only [nMbr] at a1; omega
      go_wp2
      go_roundw
      case rel => exact ⟨j + 1, F', by omega, by go_num, congrArg (Value.int .i64) HKK.out, L2.out, F3.out⟩
      case measure => simp [intOf]; omega
    · have : j = n := by omega
      subst this
      have E := HR.out
      rw [show mid mMbr nMbr k j us = mL mMbr nMbr k us by rw [← hlen.out]; exact mid_all _ _ _ _] at E
      have EH' := Seg.hid E
      clear E
      rw [KE.out]
      go_wp2
      go_ret
      exact ⟨F, rfl, EH'.out⟩
theorem markMemberS_own (x : Int) (k : Nat) (hx : x = (k : Int)) (S : Nat → Prop) (us : List Mbr) (w : World) {v : Value} (hk : 0 < k) (hk1 : k + tot nMbr us ≤ 4000000000000000000) (hv : MbrsOwn w S v us) :
    Calls Try.prog 33 #[v, .int .i64 x] w fun e w' => e = .returned (.int .i64 ((k + tot nMbr us : Nat) : Int)) ∧ MbrsOwn w' S v (mL mMbr nMbr k us) ∧ Foot w w' S := by
  subst hx
  obtain ⟨h0, A, c, rfl, h⟩ := hv
  by_cases hz : us.length = 0
  · obtain rfl := List.length_eq_zero_iff.1 hz
    exact (markMemberS_none A c k w).mono fun e w' ⟨h1, h2⟩ => by
      subst h2
      exact ⟨by rw [h1]; rfl, LOwn.nil _ _ _ _, Foot.refl _ _⟩
  obtain ⟨g, F, P, rfl, h3, h4, h5⟩ := h.resolve_left hz
  refine (markMemberS_core g us.length c k S P F us w h0 hk hk1 h3 h4 h5).mono fun e w' ⟨F', a1, a2, a3⟩ => ⟨a1, ⟨by rw [mL_len]; exact h0, _, c, by rw [mL_len], .inr ⟨g, F', P, rfl, h3, fun i hi => h4 i (by rw [mL_len] at hi; exact hi), ?_⟩⟩, a3⟩
  rw [mL_len]
  exact a2
end Go.Proofs.Ytokoollljobfgaa.Ow
