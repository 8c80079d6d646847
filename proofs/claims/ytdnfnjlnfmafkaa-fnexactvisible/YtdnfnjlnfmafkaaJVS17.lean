/- Lists of Read of the call's own; the law's marks on them; A whole slice, or nothing, appended onto nil or a row of the call's own; a row's cells as what is appended; Lists of Reads as they grow: each with the value of its Heads, and whose memory these are. -/
import Derived.Maps.AppendAt
import Derived.Deep.AppendLies
import Derived.Test.YtdnfnjlnfmafkaaJVS16
import Derived.Test.YtdnfnjlnfmafkaaJVS14
import Derived.Test.YtdnfnjlnfmafkaaJVS13
import Derived.Test.YtdnfnjlnfmafkaaJVS15
namespace Go.Proofs.Ytdnfnjlnfmafkaa.Ow
set_option maxRecDepth 8000
open Go.RowKit
open Recs
open Ls
set_option linter.unusedVariables false
def EORed : Elt Red := fun w S f u => (f 0 = .int .i64 u.offset ∧ f 1 = .int .i64 u.time ∧ f 2 = .bool u.keyed ∧ f 3 = .string u.key ∧ f 4 = .bool u.gone ∧ f 5 = .string u.val) ∧ ∃ Q : Nat → Nat → Prop, (∀ i y, Q i y → S y) ∧ (∀ i j, i ≠ j → ∀ y, Q i y → ¬ Q j y) ∧ HdsOwn w (Q 6) (f 6) u.heads
theorem keepsORed : KeepsO 7 EORed := fun w w' S f f' t h hs hk hf => by
  obtain ⟨⟨s0, s1, s2, s3, s4, s5⟩, Q, q1, q2, l6⟩ := h
  exact ⟨⟨by rw [hf 0 (by omega)]; exact s0, by rw [hf 1 (by omega)]; exact s1, by rw [hf 2 (by omega)]; exact s2, by rw [hf 3 (by omega)]; exact s3, by rw [hf 4 (by omega)]; exact s4, by rw [hf 5 (by omega)]; exact s5⟩, Q, q1, q2, by rw [hf 6 (by omega)]; exact l6.keep keepsOHd hs (fun g hg => hk g (q1 _ g hg))⟩
theorem atORed (w : World) (S : Nat → Prop) (f : Nat → Value) (u : Red) (h : EORed w S f u) : ERed w S f u := by
  obtain ⟨⟨s0, s1, s2, s3, s4, s5⟩, Q, q1, q2, l6⟩ := h
  exact ⟨s0, s1, s2, s3, s4, s5, (LOwn.lat growsHd atOHd l6).mono growsHd (q1 6)⟩
abbrev RedsOwn := LOwn 55 7 EORed
def mRed (k : Nat) (u : Red) : Red := ⟨(((k + 0) : Nat) : Int), (((k + 1) : Nat) : Int), ((((k + 2) : Nat) : Int) % 3 == 0), mt (k + 3), ((((k + 4) : Nat) : Int) % 3 == 0), mt (k + 5), mL mHd nHd (k + 6) u.heads⟩
def nRed (u : Red) : Nat := 6 + tot nHd u.heads
theorem markReadS_none (A : Option Addr) (c : Nat) (k : Int) (w : World) : Calls Try.prog 11 #[.slice A 0 c, .int .i64 k] w fun e w' => e = .returned (.int .i64 k) ∧ w = w' := by
  go_enter Try.func11, Try.ntmps11
  go_wp2
  go_loop [1, 5] (fun x i => i = .int .i64 0 ∧ x = .int .i64 k) (fun _ _ => 0)
  case atStart => exact ⟨rfl, rfl⟩
  case round =>
    obtain ⟨rfl, rfl⟩ := hrel
    go_wp2
    go_ret
    exact ⟨rfl, rfl⟩
set_option maxHeartbeats 3200000 in
theorem markReadS_core (g n c k : Nat) (S : Nat → Prop) (P : Nat → Nat → Prop) (F0 : Nat → Value) (us : List Red) (w : World) (hn : n ≤ 1048576) (hk : 0 < k) (hk1 : k + tot nRed us ≤ 4000000000000000000) (hSg : S g) (hSP : ∀ i, i < n → ∀ y, P i y → S y) (ho : LOpen 55 7 EORed w g n c F0 P us) :
    Calls Try.prog 11 #[.slice (some ⟨g, 0, none⟩) n c, .int .i64 k] w fun e w' => ∃ F, e = .returned (.int .i64 ((k + tot nRed us : Nat) : Int)) ∧ LOpen 55 7 EORed w' g n c F P (mL mRed nRed k us) ∧ Foot w w' S := by
  have hc := ho.mine.le
  have hlen := Seg.hid ho.len
  have HM : Hid (LOpen 55 7 EORed w g n c F0 P (mid mRed nRed k 0 us) ∧ Foot w w S) := ⟨by rw [mid_zero]; exact ho, Foot.refl _ _⟩
  have HSG := Seg.hid hSg; have HSP := Seg.hid hSP
  have KL : Hid (∀ j, j < n → k + tot nRed (us.take j) + nRed (us.getD j default) ≤ 4000000000000000000) := fun j hj => by
    have a1 := tot_take nRed (ts := us) (j := j) (by rw [hlen.out]; exact hj)
    have a2 := tot_le nRed us (j + 1)
    omega
  have KE : Hid (k + tot nRed (us.take n) = k + tot nRed us) := by show _ = _; rw [← hlen.out, List.take_length]
  clear ho hSg hSP hk1
  go_enter Try.func11, Try.ntmps11
  go_wp2
  go_loopw [1, 5] (fun x i wr => ∃ (j : Nat) (F : Nat → Value), j ≤ n ∧ i = .int .i64 j ∧ x = .int .i64 ((k + tot nRed (us.take j) : Nat) : Int) ∧ Hid (LOpen 55 7 EORed wr g n c F P (mid mRed nRed k j us) ∧ Foot w wr S)) (fun _ i _ => n - (intOf i).toNat)
  case atStart => exact ⟨0, F0, Nat.zero_le _, rfl, rfl, HM.out⟩
  case round =>
    clear HM
    obtain ⟨j, F, hj, rfl, rfl, HR⟩ := hrel
    by_cases hlt : j < n
    · have h0 : (0 : Int) ≤ (j : Int) := by omega
      have h1 : (j : Int) < (n : Int) := by omega
      have EL := HR.out.1.el j hlt
      rw [mid_get mRed nRed (by rw [hlen.out]; exact hlt)] at EL
      have MS := mid_step mRed nRed (k := k) (ts := us) (j := j) (by rw [hlen.out]; exact hlt)
      have TK := Seg.hid (tot_take nRed (ts := us) (j := j) (by rw [hlen.out]; exact hlt))
      have hxb := KL.out j hlt
      have HAP := Seg.hid (HR.out.1.apart j hlt)
      obtain ⟨x, hx⟩ : ∃ x, k + tot nRed (us.take j) = x := ⟨_, rfl⟩
      have HX := Seg.hid hx
      rw [hx] at hxb MS ⊢
      have hx0 : 0 < x := by omega
      clear hx
      have MS' := Seg.hid MS
      clear MS
      generalize us.getD j default = u at *
      have HXB := Seg.hid hxb
      clear hxb
      obtain ⟨⟨s0, s1, s2, s3, s4, s5⟩, Q, q1, q2, l6⟩ := EL
      obtain ⟨A6, c6, g6⟩ := l6.form
      have O0_6 : Hid (HdsOwn wr (Q 6) (.slice A6 u.heads.length c6) u.heads) := by
        have := l6
        rw [g6] at this
        exact this
      have QP := Seg.hid q1
      have QD := Seg.hid q2
      have R0 : Hid (Rnd 55 7 g n c (P j) w wr wr S F j [.int .i64 u.offset, .int .i64 u.time, .bool u.keyed, .string u.key, .bool u.gone, .string u.val, .slice A6 u.heads.length c6]) := Rnd.start HR.out.1.mine HR.out.2 rfl (fun q hq => by
        match q, hq with
        | 0, _ => exact s0
        | 1, _ => exact s1
        | 2, _ => exact s2
        | 3, _ => exact s3
        | 4, _ => exact s4
        | 5, _ => exact s5
        | 6, _ => exact g6)
      clear s0 s1 s2 s3 s4 s5 l6 g6 q1 q2
      have QG : Hid (∀ i y, Q i y → y ≠ g) := fun i y hy => (HAP.out y (QP.out i y hy)).1
      have QL : Hid (∀ i y, Q i y → y < wr.heap.size) := fun i y hy => (HAP.out y (QP.out i y hy)).2
      have HB_x : Hid (x + 6 + tot nHd u.heads ≤ 4000000000000000000) := by show _ ≤ _; have := HXB.out; simp only [nRed] at this; omega
      have hc_x : x + 7 ≤ 4000000000000000000 + 7 := by have := HB_x.out; omega
      have hd_x : x + 6 ≤ 4000000000000000000 := by have := HB_x.out; omega
      have d0 : (wr).cell? ⟨g, j * 7, none⟩ = some (.int .i64 u.offset) := R0.out.cell hlt 0 (by omega)
      have f0 : (wr).frozen? ⟨g, j * 7, none⟩ = false := R0.out.frozen _
      have R1 : Hid (Rnd 55 7 g n c (P j) w wr (wr.setCell ⟨g, j * 7, none⟩ (.int .i64 ((x : Int)))) S F j [.int .i64 ((x : Int)), .int .i64 u.time, .bool u.keyed, .string u.key, .bool u.gone, .string u.val, .slice A6 u.heads.length c6]) := R0.out.set HSG.out 0 (by omega) (.int .i64 ((x : Int)))
      have O1_6 : Hid (HdsOwn (wr.setCell ⟨g, j * 7, none⟩ (.int .i64 ((x : Int)))) (Q 6) (.slice A6 u.heads.length c6) (u.heads)) := O0_6.out.set keepsOHd _ (QG.out 6) _
      have d1 : ((wr.setCell ⟨g, j * 7, none⟩ (.int .i64 ((x : Int))))).cell? ⟨g, j * 7 + 1, none⟩ = some (.int .i64 u.time) := R1.out.cell hlt 1 (by omega)
      have f1 : ((wr.setCell ⟨g, j * 7, none⟩ (.int .i64 ((x : Int))))).frozen? ⟨g, j * 7 + 1, none⟩ = false := R1.out.frozen _
      have R2 : Hid (Rnd 55 7 g n c (P j) w wr ((wr.setCell ⟨g, j * 7, none⟩ (.int .i64 ((x : Int)))).setCell ⟨g, j * 7 + 1, none⟩ (.int .i64 ((x : Int) + 1))) S F j [.int .i64 ((x : Int)), .int .i64 ((x : Int) + 1), .bool u.keyed, .string u.key, .bool u.gone, .string u.val, .slice A6 u.heads.length c6]) := R1.out.set HSG.out 1 (by omega) (.int .i64 ((x : Int) + 1))
      have O2_6 : Hid (HdsOwn ((wr.setCell ⟨g, j * 7, none⟩ (.int .i64 ((x : Int)))).setCell ⟨g, j * 7 + 1, none⟩ (.int .i64 ((x : Int) + 1))) (Q 6) (.slice A6 u.heads.length c6) (u.heads)) := O1_6.out.set keepsOHd _ (QG.out 6) _
      have d2 : (((wr.setCell ⟨g, j * 7, none⟩ (.int .i64 ((x : Int)))).setCell ⟨g, j * 7 + 1, none⟩ (.int .i64 ((x : Int) + 1)))).cell? ⟨g, j * 7 + 2, none⟩ = some (.bool u.keyed) := R2.out.cell hlt 2 (by omega)
      have f2 : (((wr.setCell ⟨g, j * 7, none⟩ (.int .i64 ((x : Int)))).setCell ⟨g, j * 7 + 1, none⟩ (.int .i64 ((x : Int) + 1)))).frozen? ⟨g, j * 7 + 2, none⟩ = false := R2.out.frozen _
      have R3 : Hid (Rnd 55 7 g n c (P j) w wr (((wr.setCell ⟨g, j * 7, none⟩ (.int .i64 ((x : Int)))).setCell ⟨g, j * 7 + 1, none⟩ (.int .i64 ((x : Int) + 1))).setCell ⟨g, j * 7 + 2, none⟩ (.bool (((x : Int) + 1 + 1) % 3 == 0))) S F j [.int .i64 ((x : Int)), .int .i64 ((x : Int) + 1), .bool (((x : Int) + 1 + 1) % 3 == 0), .string u.key, .bool u.gone, .string u.val, .slice A6 u.heads.length c6]) := R2.out.set HSG.out 2 (by omega) (.bool (((x : Int) + 1 + 1) % 3 == 0))
      have O3_6 : Hid (HdsOwn (((wr.setCell ⟨g, j * 7, none⟩ (.int .i64 ((x : Int)))).setCell ⟨g, j * 7 + 1, none⟩ (.int .i64 ((x : Int) + 1))).setCell ⟨g, j * 7 + 2, none⟩ (.bool (((x : Int) + 1 + 1) % 3 == 0))) (Q 6) (.slice A6 u.heads.length c6) (u.heads)) := O2_6.out.set keepsOHd _ (QG.out 6) _
      go_wp2_with fail
      clear d0 f0 d1 f1 d2 f2
      refine (markText_at _ (x + 3) (by omega) (((wr.setCell ⟨g, j * 7, none⟩ (.int .i64 ((x : Int)))).setCell ⟨g, j * 7 + 1, none⟩ (.int .i64 ((x : Int) + 1))).setCell ⟨g, j * 7 + 2, none⟩ (.bool (((x : Int) + 1 + 1) % 3 == 0))) (by omega) (by omega)).mono ?_
      rintro e w1 ⟨rfl, b1⟩
      have R4 : Hid (Rnd 55 7 g n c (P j) w wr w1 S F j [.int .i64 ((x : Int)), .int .i64 ((x : Int) + 1), .bool (((x : Int) + 1 + 1) % 3 == 0), .string u.key, .bool u.gone, .string u.val, .slice A6 u.heads.length c6]) := R3.out.below b1
      have O4_6 : Hid (HdsOwn w1 (Q 6) (.slice A6 u.heads.length c6) (u.heads)) := O3_6.out.belowO keepsOHd b1 (fun y hy => Nat.lt_of_lt_of_le (QL.out 6 y hy) R3.out.le)
      clear b1
      have d3 : (w1).cell? ⟨g, j * 7 + 3, none⟩ = some (.string u.key) := R4.out.cell hlt 3 (by omega)
      have f3 : (w1).frozen? ⟨g, j * 7 + 3, none⟩ = false := R4.out.frozen _
      have R5 : Hid (Rnd 55 7 g n c (P j) w wr (w1.setCell ⟨g, j * 7 + 3, none⟩ (.string (mt (x + 3)))) S F j [.int .i64 ((x : Int)), .int .i64 ((x : Int) + 1), .bool (((x : Int) + 1 + 1) % 3 == 0), .string (mt (x + 3)), .bool u.gone, .string u.val, .slice A6 u.heads.length c6]) := R4.out.set HSG.out 3 (by omega) (.string (mt (x + 3)))
      have O5_6 : Hid (HdsOwn (w1.setCell ⟨g, j * 7 + 3, none⟩ (.string (mt (x + 3)))) (Q 6) (.slice A6 u.heads.length c6) (u.heads)) := O4_6.out.set keepsOHd _ (QG.out 6) _
      have d4 : ((w1.setCell ⟨g, j * 7 + 3, none⟩ (.string (mt (x + 3))))).cell? ⟨g, j * 7 + 4, none⟩ = some (.bool u.gone) := R5.out.cell hlt 4 (by omega)
      have f4 : ((w1.setCell ⟨g, j * 7 + 3, none⟩ (.string (mt (x + 3))))).frozen? ⟨g, j * 7 + 4, none⟩ = false := R5.out.frozen _
      have R6 : Hid (Rnd 55 7 g n c (P j) w wr ((w1.setCell ⟨g, j * 7 + 3, none⟩ (.string (mt (x + 3)))).setCell ⟨g, j * 7 + 4, none⟩ (.bool (((x : Int) + 1 + 1 + 1 + 1) % 3 == 0))) S F j [.int .i64 ((x : Int)), .int .i64 ((x : Int) + 1), .bool (((x : Int) + 1 + 1) % 3 == 0), .string (mt (x + 3)), .bool (((x : Int) + 1 + 1 + 1 + 1) % 3 == 0), .string u.val, .slice A6 u.heads.length c6]) := R5.out.set HSG.out 4 (by omega) (.bool (((x : Int) + 1 + 1 + 1 + 1) % 3 == 0))
      have O6_6 : Hid (HdsOwn ((w1.setCell ⟨g, j * 7 + 3, none⟩ (.string (mt (x + 3)))).setCell ⟨g, j * 7 + 4, none⟩ (.bool (((x : Int) + 1 + 1 + 1 + 1) % 3 == 0))) (Q 6) (.slice A6 u.heads.length c6) (u.heads)) := O5_6.out.set keepsOHd _ (QG.out 6) _
      go_wp2_with fail
      clear d3 f3 d4 f4
      refine (markText_at _ (x + 5) (by omega) ((w1.setCell ⟨g, j * 7 + 3, none⟩ (.string (mt (x + 3)))).setCell ⟨g, j * 7 + 4, none⟩ (.bool (((x : Int) + 1 + 1 + 1 + 1) % 3 == 0))) (by omega) (by omega)).mono ?_
      rintro e w2 ⟨rfl, b2⟩
      have R7 : Hid (Rnd 55 7 g n c (P j) w wr w2 S F j [.int .i64 ((x : Int)), .int .i64 ((x : Int) + 1), .bool (((x : Int) + 1 + 1) % 3 == 0), .string (mt (x + 3)), .bool (((x : Int) + 1 + 1 + 1 + 1) % 3 == 0), .string u.val, .slice A6 u.heads.length c6]) := R6.out.below b2
      have O7_6 : Hid (HdsOwn w2 (Q 6) (.slice A6 u.heads.length c6) (u.heads)) := O6_6.out.belowO keepsOHd b2 (fun y hy => Nat.lt_of_lt_of_le (QL.out 6 y hy) R6.out.le)
      clear b2
      have d5 : (w2).cell? ⟨g, j * 7 + 5, none⟩ = some (.string u.val) := R7.out.cell hlt 5 (by omega)
      have f5 : (w2).frozen? ⟨g, j * 7 + 5, none⟩ = false := R7.out.frozen _
      have R8 : Hid (Rnd 55 7 g n c (P j) w wr (w2.setCell ⟨g, j * 7 + 5, none⟩ (.string (mt (x + 5)))) S F j [.int .i64 ((x : Int)), .int .i64 ((x : Int) + 1), .bool (((x : Int) + 1 + 1) % 3 == 0), .string (mt (x + 3)), .bool (((x : Int) + 1 + 1 + 1 + 1) % 3 == 0), .string (mt (x + 5)), .slice A6 u.heads.length c6]) := R7.out.set HSG.out 5 (by omega) (.string (mt (x + 5)))
      have O8_6 : Hid (HdsOwn (w2.setCell ⟨g, j * 7 + 5, none⟩ (.string (mt (x + 5)))) (Q 6) (.slice A6 u.heads.length c6) (u.heads)) := O7_6.out.set keepsOHd _ (QG.out 6) _
      have d6 : ((w2.setCell ⟨g, j * 7 + 5, none⟩ (.string (mt (x + 5))))).cell? ⟨g, j * 7 + 6, none⟩ = some (.slice A6 u.heads.length c6) := R8.out.cell hlt 6 (by omega)
      go_wp2_with fail
      clear d5 f5 d6
      refine (markHeadS_own _ (x + 6) (by omega) (Q 6) u.heads (w2.setCell ⟨g, j * 7 + 5, none⟩ (.string (mt (x + 5)))) (by omega) (by have := HB_x.out; omega) O8_6.out).mono ?_
      rintro e w3 ⟨rfl, o3, t3⟩
      have R9 : Hid (Rnd 55 7 g n c (P j) w wr w3 S F j [.int .i64 ((x : Int)), .int .i64 ((x : Int) + 1), .bool (((x : Int) + 1 + 1) % 3 == 0), .string (mt (x + 3)), .bool (((x : Int) + 1 + 1 + 1 + 1) % 3 == 0), .string (mt (x + 5)), .slice A6 u.heads.length c6]) := R8.out.foot t3 (QP.out 6) (fun h => (HAP.out g h).1 rfl) (HSP.out j hlt)
      have O9_6 : Hid (HdsOwn w3 (Q 6) (.slice A6 u.heads.length c6) (mL mHd nHd (x + 6) u.heads)) := o3
      clear o3 t3
      obtain ⟨y3, hy3⟩ : ∃ y3, x + 6 + tot nHd u.heads = y3 := ⟨_, rfl⟩
      rw [hy3]
      have Hy3 := Seg.hid hy3
      have HB_y3 : Hid (y3 + 0 ≤ 4000000000000000000) := by show _ ≤ _; have := HB_x.out; omega
      have hd_y3 : y3 + 0 ≤ 4000000000000000000 := by have := HB_y3.out; omega
      have hp_y3 : 0 < y3 := by omega
      clear hy3
      have EE : Hid (EORed w3 (P j) (fun q => [.int .i64 ((x : Int)), .int .i64 ((x : Int) + 1), .bool (((x : Int) + 1 + 1) % 3 == 0), .string (mt (x + 3)), .bool (((x : Int) + 1 + 1 + 1 + 1) % 3 == 0), .string (mt (x + 5)), .slice A6 u.heads.length c6].getD q default) (mRed x u)) := by
        refine ⟨⟨?_, ?_, ?_, ?_, ?_, ?_⟩, Q, QP.out, QD.out, ?_⟩
        · exact congrArg (Value.int .i64) (show (x : Int) = (((x + 0) : Nat) : Int) by have z0 := Hy3.out; omega)
        · exact congrArg (Value.int .i64) (show (x : Int) + 1 = (((x + 1) : Nat) : Int) by have z0 := Hy3.out; omega)
        · exact congrArg (fun z : Int => Value.bool (z % 3 == 0)) (show (x : Int) + 1 + 1 = (((x + 2) : Nat) : Int) by have z0 := Hy3.out; omega)
        · exact congrArg (fun z : Nat => Value.string (mt z)) (show x + 3 = (x + 3) by have z0 := Hy3.out; omega)
        · exact congrArg (fun z : Int => Value.bool (z % 3 == 0)) (show (x : Int) + 1 + 1 + 1 + 1 = (((x + 4) : Nat) : Int) by have z0 := Hy3.out; omega)
        · exact congrArg (fun z : Nat => Value.string (mt z)) (show x + 5 = (x + 5) by have z0 := Hy3.out; omega)
        · have hz : x + 6 = (x + 6) := by (have z0 := Hy3.out; omega)
          have ho := O9_6.out
          rw [hz] at ho
          exact ho
      obtain ⟨F', L', F2⟩ := Rnd.done keepsORed (t := mRed x u) HR.out.1 hlt R9.out EE.out
      rw [MS'.out] at L'
      have L2 := Seg.hid L'
      have F3 := Seg.hid F2
      clear L' F2
      have HKK : Hid ((y3 : Int) = ((k + tot nRed (us.take (j + 1)) : Nat) : Int)) := by
        show _ = _
        have z0 := Hy3.out; have a1 := TK.out; have a2 := HX.out; simp only [nRed] at a1; omega
      go_wp2
      go_roundw
      case rel => exact ⟨j + 1, F', by omega, by go_num, congrArg (Value.int .i64) HKK.out, L2.out, F3.out⟩
      case measure => simp [intOf]; omega
    · have : j = n := by omega
      subst this
      have E := HR.out
      rw [show mid mRed nRed k j us = mL mRed nRed k us by rw [← hlen.out]; exact mid_all _ _ _ _] at E
      have EH' := Seg.hid E
      clear E
      rw [KE.out]
      go_wp2
      go_ret
      exact ⟨F, rfl, EH'.out⟩
theorem markReadS_own (x : Int) (k : Nat) (hx : x = (k : Int)) (S : Nat → Prop) (us : List Red) (w : World) {v : Value} (hk : 0 < k) (hk1 : k + tot nRed us ≤ 4000000000000000000) (hv : RedsOwn w S v us) :
    Calls Try.prog 11 #[v, .int .i64 x] w fun e w' => e = .returned (.int .i64 ((k + tot nRed us : Nat) : Int)) ∧ RedsOwn w' S v (mL mRed nRed k us) ∧ Foot w w' S := by
  subst hx
  obtain ⟨h0, A, c, rfl, h⟩ := hv
  by_cases hz : us.length = 0
  · obtain rfl := List.length_eq_zero_iff.1 hz
    exact (markReadS_none A c k w).mono fun e w' ⟨h1, h2⟩ => by
      subst h2
      exact ⟨by rw [h1]; rfl, LOwn.nil _ _ _ _, Foot.refl _ _⟩
  obtain ⟨g, F, P, rfl, h3, h4, h5⟩ := h.resolve_left hz
  refine (markReadS_core g us.length c k S P F us w h0 hk hk1 h3 h4 h5).mono fun e w' ⟨F', a1, a2, a3⟩ => ⟨a1, ⟨by rw [mL_len]; exact h0, _, c, by rw [mL_len], .inr ⟨g, F', P, rfl, h3, fun i hi => h4 i (by rw [mL_len] at hi; exact hi), ?_⟩⟩, a3⟩
  rw [mL_len]
  exact a2
end Go.Proofs.Ytdnfnjlnfmafkaa.Ow
namespace Go.Proofs.Ytdnfnjlnfmafkaa.Ft
set_option maxRecDepth 8000
open Go.RowKit
open Recs
set_option linter.unusedVariables false
section
variable {P : Program} (w : World)
theorem run_append_all (base : Nat) (t ty e : TypeId) (i : TypeInfo) (z : Value) (size bytes : Nat) (ht : P.underlying t = some (.slice e)) (hi : P.info? e = some i) (hz : i.zero = some z)
    (hsize : i.size = size) (hby : i.bytes = bytes) (hzs : z.cells.size = size) (hsz : 0 < size)
    (v : Value) (n : Nat) (xs : List Value) (hown : w.ownsRow base e size v n xs)
    (A : Option Addr) (m c : Nat) (news : List Value) (hl : news.length = m * size) (hnews : m ≠ 0 → ∃ ad, A = some ad ∧ ∀ j u, news[j]? = some u → w.cell? (ad.add j) = some u) (h1 : ∀ u ∈ news, u.oneCell' = true)
    (h63 : n + m ≤ maxLen) (hbytes : (n + m) * bytes ≤ 140737488355328) (hbase : base ≤ w.heap.size) :
    ∃ v' w', (Builtin.append_ #[t, t] ty #[v, .slice A m c]).run P w = .ok v' w' ∧ w'.ownsRow base e size v' (n + m) (xs ++ news) ∧ w.grownBy w' v.ownBlock ∧ (v'.ownBlock = v.ownBlock ∨ v'.ownBlock = some w.heap.size) := by
  by_cases hm : m = 0
  · subst hm
    have hn : news = [] := List.eq_nil_of_length_eq_zero (by simpa using hl)
    subst hn
    cases A with
    | some ad =>
      obtain ⟨v', w', a1, a2, a3, a4, a5⟩ := run_append_own_at (P := P) w base t ty e i z size bytes ht hi hz hsize hby hzs hsz v n xs hown ad 0 c [] (by simp) (by simp) (by simp) h63 hbytes hbase
      exact ⟨v', w', a1, a2, a3, a5⟩
    | none =>
      refine ⟨v, w, ?_, by simpa using hown, ⟨rfl, rfl, rfl, Nat.le_refl _, fun _ _ _ => rfl⟩, .inl rfl⟩
      subst hsize
      rcases hown.2 with ⟨rfl, rfl⟩ | ⟨g, cap, cur, rfl, hbg, hg, hnc, hcm, hcs, htake⟩
      · simp [Builtin.append_, run_underlying ht, sizeOf, typeInfo, hi, Builtin.lenOf, Builtin.firstCells]
      · simp [Builtin.append_, run_underlying ht, sizeOf, typeInfo, hi, Builtin.lenOf, Builtin.firstCells, loadCells, hnc, storeCells]
  · obtain ⟨ad, rfl, hc⟩ := hnews hm
    obtain ⟨v', w', a1, a2, a3, a4, a5⟩ := run_append_own_at (P := P) w base t ty e i z size bytes ht hi hz hsize hby hzs hsz v n xs hown ad m c news hl hc h1 h63 hbytes hbase
    exact ⟨v', w', a1, a2, a3, a5⟩
theorem wp_append_all {o : Oper} {a : Act} {K : Act → World → Prop} {Q : Exit → Act → World → Prop} (s x : Operand) (t : TypeId)
    (ho : o.op = .call { callee := .builtin .append, args := #[s, x], argTypes := #[t, t] })
    (base : Nat) (e : TypeId) (i : TypeInfo) (z : Value) (size bytes : Nat) (ht : P.underlying t = some (.slice e)) (hi : P.info? e = some i) (hz : i.zero = some z)
    (hsize : i.size = size) (hby : i.bytes = bytes) (hzs : z.cells.size = size) (hsz : 0 < size)
    (v : Value) (n : Nat) (xs : List Value) (hs : a.eval s = v) (hown : w.ownsRow base e size v n xs)
    (A : Option Addr) (m c : Nat) (news : List Value) (hx : a.eval x = .slice A m c) (hl : news.length = m * size) (hnews : m ≠ 0 → ∃ ad, A = some ad ∧ ∀ j u, news[j]? = some u → w.cell? (ad.add j) = some u) (h1 : ∀ u ∈ news, u.oneCell' = true)
    (h63 : n + m ≤ maxLen) (hbytes : (n + m) * bytes ≤ 140737488355328) (hbase : base ≤ w.heap.size)
    (h : ∀ v' w', w'.ownsRow base e size v' (n + m) (xs ++ news) → w.grownBy w' v.ownBlock → (v'.ownBlock = v.ownBlock ∨ v'.ownBlock = some w.heap.size) → K (a.put o.dst v') w') : o.wp P a w K Q := by
  obtain ⟨v', w', hr, h2, h3, h4⟩ := run_append_all (P := P) w base t o.type e i z size bytes ht hi hz hsize hby hzs hsz v n xs hown A m c news hl hnews h1 h63 hbytes hbase
  unfold Oper.wp execOp
  simp only [ho, resolve, invoke, builtin, Sem.run_bind, Sem.run_pure, Result.andThen_ok, List.map_toArray, List.map_cons, List.map_nil, hs, hx, hr]
  exact h v' w' h2 h3 h4
theorem wpList_append_all {ops : Array Oper} {rest : List Oper} {o : Oper} {a : Act} {Q : Exit → Act → World → Prop} (hgd : o.guard = none) (s x : Operand) (t : TypeId)
    (ho : o.op = .call { callee := .builtin .append, args := #[s, x], argTypes := #[t, t] })
    (base : Nat) (e : TypeId) (i : TypeInfo) (z : Value) (size bytes : Nat) (ht : P.underlying t = some (.slice e)) (hi : P.info? e = some i) (hz : i.zero = some z)
    (hsize : i.size = size) (hby : i.bytes = bytes) (hzs : z.cells.size = size) (hsz : 0 < size)
    (v : Value) (n : Nat) (xs : List Value) (hs : a.eval s = v) (hown : w.ownsRow base e size v n xs)
    (A : Option Addr) (m c : Nat) (news : List Value) (hx : a.eval x = .slice A m c) (hl : news.length = m * size) (hnews : m ≠ 0 → ∃ ad, A = some ad ∧ ∀ j u, news[j]? = some u → w.cell? (ad.add j) = some u) (h1 : ∀ u ∈ news, u.oneCell' = true)
    (h63 : n + m ≤ maxLen) (hbytes : (n + m) * bytes ≤ 140737488355328) (hbase : base ≤ w.heap.size)
    (h : ∀ v' w', w'.ownsRow base e size v' (n + m) (xs ++ news) → w.grownBy w' v.ownBlock → (v'.ownBlock = v.ownBlock ∨ v'.ownBlock = some w.heap.size) → wpList P ops Q rest (a.put o.dst v') w') : wpList P ops Q (o :: rest) a w :=
  wpList_plain hgd fun _ hK => wp_append_all w s x t ho base e i z size bytes ht hi hz hsize hby hzs hsz v n xs hs hown A m c news hx hl hnews h1 h63 hbytes hbase fun v' w' h2 h3 h4 => hK _ _ (h v' w' h2 h3 h4)
theorem step_append_all {ops : Array Oper} {o : Oper} {a : Act} {K : Act → World → Prop} {Q : Exit → Act → World → Prop} {E : Prop} (hgd : o.guard = none) (s x : Operand) (t : TypeId)
    (ho : o.op = .call { callee := .builtin .append, args := #[s, x], argTypes := #[t, t] })
    (base : Nat) (e : TypeId) (i : TypeInfo) (z : Value) (size bytes : Nat) (ht : P.underlying t = some (.slice e)) (hi : P.info? e = some i) (hz : i.zero = some z)
    (hsize : i.size = size) (hby : i.bytes = bytes) (hzs : z.cells.size = size) (hsz : 0 < size)
    (v : Value) (n : Nat) (xs : List Value) (hs : a.eval s = v) (hown : w.ownsRow base e size v n xs)
    (A : Option Addr) (m c : Nat) (news : List Value) (hx : a.eval x = .slice A m c) (hl : news.length = m * size) (hnews : m ≠ 0 → ∃ ad, A = some ad ∧ ∀ j u, news[j]? = some u → w.cell? (ad.add j) = some u) (h1 : ∀ u ∈ news, u.oneCell' = true)
    (h63 : n + m ≤ maxLen) (hbytes : (n + m) * bytes ≤ 140737488355328) (hbase : base ≤ w.heap.size)
    (h : ∀ v' w', w'.ownsRow base e size v' (n + m) (xs ++ news) → w.grownBy w' v.ownBlock → (v'.ownBlock = v.ownBlock ∨ v'.ownBlock = some w.heap.size) → K (a.put o.dst v') w') :
    if Region.wanted o (yielded ops a.tmps) = true then Oper.wp P o a w K Q else E := by
  have hw : Region.wanted o (yielded ops a.tmps) = true := by simp [Region.wanted, hgd]
  rw [if_pos hw]
  exact wp_append_all w s x t ho base e i z size bytes ht hi hz hsize hby hzs hsz v n xs hs hown A m c news hx hl hnews h1 h63 hbytes hbase h
end
/-- The cells of a row, one behind the other. -/
def flat (s n : Nat) (f : Nat → Nat → Value) : List Value := (List.range (n * s)).map fun q => f (q / s) (q % s)
theorem flat_len (s n : Nat) (f : Nat → Nat → Value) : (flat s n f).length = n * s := by simp [flat]
theorem flat_news {w : World} {lo b s n : Nat} {A : Option Addr} {c : Nat} {f : Nat → Nat → Value} (hs : 0 < s) (h : Row w lo b s (.slice A n c) n f) : n ≠ 0 → ∃ ad, A = some ad ∧ ∀ j u, (flat s n f)[j]? = some u → w.cell? (ad.add j) = some u := fun hn => by
  obtain ⟨_, A', c', h1, h2⟩ := h
  simp only [Value.slice.injEq] at h1
  obtain ⟨rfl, _, rfl⟩ := h1
  obtain ⟨g, o, rfl, _, _, h6, _⟩ := h2.resolve_left hn
  refine ⟨_, rfl, fun j u hj => ?_⟩
  have hlt := (List.getElem?_eq_some_iff.1 hj).1
  rw [flat_len] at hlt
  have hi : j / s < n := Nat.div_lt_of_lt_mul (by rw [Nat.mul_comm]; exact hlt)
  have := h6 (j / s) hi (j % s) (Nat.mod_lt _ hs)
  have hadd : (⟨g, o, none⟩ : Addr).add j = ⟨g, o + j, none⟩ := by unfold Addr.add; split <;> simp_all
  rw [hadd, show o + j = o + j / s * s + j % s by have := Nat.div_add_mod j s; rw [Nat.mul_comm] at this; omega, this]
  simp only [flat, List.getElem?_map, List.getElem?_range hlt, Option.map_some] at hj
  exact hj
theorem flat_cell (s n : Nat) (f : Nat → Nat → Value) (i j : Nat) (hi : i < n) (hj : j < s) : (flat s n f).getD (i * s + j) default = f i j := by
  have hlt : i * s + j < n * s := by
    have : (i + 1) * s ≤ n * s := Nat.mul_le_mul_right s hi
    rw [Nat.succ_mul] at this
    omega
  unfold flat
  rw [List.getD_eq_getElem?_getD, List.getElem?_map, List.getElem?_range hlt]
  simp only [Option.map_some, Option.getD_some]
  rw [show i * s + j = j + s * i by rw [Nat.mul_comm]; omega, Nat.add_mul_div_left _ _ (by omega), Nat.div_eq_of_lt hj, Nat.zero_add, Nat.add_mul_mod_self_left, Nat.mod_eq_of_lt hj]
end Go.Proofs.Ytdnfnjlnfmafkaa.Ft
namespace Go.Proofs.Ytdnfnjlnfmafkaa.VsO
set_option maxRecDepth 8000
open Go.RowKit
open Ls
open Recs (hsz below1 chain Bat Rec Row)
open VsP
open Ft (OwnH IsC keepsH)
set_option linter.unusedVariables false
abbrev RV := Red × Value
/-- Each has Heads of its own, in a set apart from the others. -/
def PH (w : World) : (Nat → Prop) → List RV → Prop
  | _, [] => True
  | S, p :: t => ∃ Q R : Nat → Prop, OwnH w Q p.2 p.1.heads ∧ (∀ x, Q x → S x) ∧ (∀ x, R x → S x) ∧ (∀ x, Q x → ¬ R x) ∧ PH w R t
theorem PH.mono {w : World} {S S' : Nat → Prop} (hs : ∀ x, S x → S' x) : ∀ {ps : List RV}, PH w S ps → PH w S' ps
  | [], _ => trivial
  | p :: t, ⟨Q, R, h1, h2, h3, h4, h5⟩ => ⟨Q, R, h1, fun x hx => hs x (h2 x hx), fun x hx => hs x (h3 x hx), h4, h5⟩
theorem PH.app {w : World} : ∀ {a b : List RV} {S S' : Nat → Prop}, PH w S a → PH w S' b → (∀ x, S x → ¬ S' x) → PH w (fun x => S x ∨ S' x) (a ++ b)
  | [], b, S, S', _, h, _ => h.mono fun x hx => .inr hx
  | p :: t, b, S, S', ⟨Q, R, h1, h2, h3, h4, h5⟩, h, hd => ⟨Q, fun x => R x ∨ S' x, h1, fun x hx => .inl (h2 x hx), fun x hx => hx.imp (h3 x) id, fun x hx hr => hr.elim (h4 x hx) (hd x (h2 x hx)), PH.app h5 h (fun x hx => hd x (h3 x hx))⟩
theorem PH.keep {w w' : World} (hz : w.heap.size ≤ w'.heap.size) : ∀ {ps : List RV} {S : Nat → Prop}, PH w S ps → (∀ x, S x → w'.heap[x]? = w.heap[x]?) → PH w' S ps
  | [], _, _, _ => trivial
  | p :: t, S, ⟨Q, R, h1, h2, h3, h4, h5⟩, hk => ⟨Q, R, Ft.LOwn.keep keepsH h1 hz (fun x hx => hk x (h2 x hx)), h2, h3, h4, PH.keep hz h5 (fun x hx => hk x (h3 x hx))⟩
/-- Sets of blocks that hold cells. -/
theorem PH.cells {w : World} : ∀ {ps : List RV} {S : Nat → Prop}, PH w S ps → PH w (fun x => S x ∧ IsC w x) ps
  | [], _, _ => trivial
  | p :: t, S, ⟨Q, R, h1, h2, h3, h4, h5⟩ => ⟨fun x => Q x ∧ IsC w x, fun x => R x ∧ IsC w x, Ft.LOwn.cells Ft.shrinksH h1, fun x hx => ⟨h2 x hx.1, hx.2⟩, fun x hx => ⟨h3 x hx.1, hx.2⟩, fun x hx hr => h4 x hx.1 hr.1, PH.cells h5⟩
theorem PH.index {w : World} : ∀ {ps : List RV} {S : Nat → Prop}, PH w S ps → ∃ P : Nat → Nat → Prop, (∀ i, i < ps.length → OwnH w (P i) (ps.getD i default).2 (ps.getD i default).1.heads) ∧ (∀ i, i < ps.length → ∀ x, P i x → S x) ∧ (∀ i j, i < ps.length → j < ps.length → i ≠ j → ∀ x, P i x → ¬ P j x)
  | [], S, _ => ⟨fun _ _ => False, fun i hi => absurd hi (by simp), fun i hi => absurd hi (by simp), fun i j hi => absurd hi (by simp)⟩
  | p :: t, S, ⟨Q, R, h1, h2, h3, h4, h5⟩ => by
    obtain ⟨P, g1, g2, g3⟩ := PH.index h5
    refine ⟨fun i => match i with | 0 => Q | i + 1 => P i, fun i hi => ?_, fun i hi x hx => ?_, fun i j hi hj hij x hx => ?_⟩
    · match i with
      | 0 => exact h1
      | i + 1 => rw [List.getD_cons_succ]; exact g1 i (by simpa using hi)
    · match i with
      | 0 => exact h2 x hx
      | i + 1 => exact h3 x (g2 i (by simpa using hi) x hx)
    · match i, j with
      | 0, 0 => exact absurd rfl hij
      | 0, j + 1 => exact fun hr => h4 x hx (g2 j (by simpa using hj) x hr)
      | i + 1, 0 => exact fun hr => h4 x hr (g2 i (by simpa using hi) x hx)
      | i + 1, j + 1 => exact g3 i j (by simpa using hi) (by simpa using hj) (by omega) x hx
theorem PH.of {w : World} : ∀ {ps : List RV} {S : Nat → Prop} {P : Nat → Nat → Prop}, (∀ i, i < ps.length → OwnH w (P i) (ps.getD i default).2 (ps.getD i default).1.heads) → (∀ i, i < ps.length → ∀ x, P i x → S x) → (∀ i j, i < ps.length → j < ps.length → i ≠ j → ∀ x, P i x → ¬ P j x) → PH w S ps
  | [], _, _, _, _, _ => trivial
  | p :: t, S, P, h1, h2, h3 => by
    refine ⟨P 0, fun x => ∃ i, i < t.length ∧ P (i + 1) x, h1 0 (by simp), h2 0 (by simp), fun x ⟨i, hi, hx⟩ => h2 (i + 1) (by simpa using hi) x hx, fun x hx ⟨i, hi, hr⟩ => h3 0 (i + 1) (by simp) (by simpa using hi) (by omega) x hx hr, ?_⟩
    exact PH.of (P := fun i => P (i + 1)) (fun i hi => by have := h1 (i + 1) (by simpa using hi); rwa [List.getD_cons_succ] at this) (fun i hi x hx => ⟨i, hi, hx⟩) (fun i j hi hj hij => h3 (i + 1) (j + 1) (by simpa using hi) (by simpa using hj) (by omega))
def redArr (u : Red) (v : Value) : Array Value := #[.int .i64 u.offset, .int .i64 u.time, .bool u.keyed, .string u.key, .bool u.gone, .string u.val, v]
/-- The cells of a row of them. -/
def cellsR (ps : List RV) : List Value := ps.flatMap (fun p => (redArr p.1 p.2).toList)
theorem cellsR_app (a b : List RV) : cellsR (a ++ b) = cellsR a ++ cellsR b := by simp [cellsR]
theorem cellsR_one (p : RV) : cellsR [p] = (redArr p.1 p.2).toList := by simp [cellsR]
theorem cellsR_len : ∀ ps : List RV, (cellsR ps).length = ps.length * 7
  | [] => rfl
  | p :: t => by
    have := cellsR_len t
    unfold cellsR at this ⊢
    rw [List.flatMap_cons, List.length_append, this]
    simp only [redArr, List.length_cons, List.length_nil]
    omega
theorem cellsR_at : ∀ (ps : List RV) (i j : Nat), i < ps.length → j < 7 → (cellsR ps).getD (i * 7 + j) default = (redArr (ps.getD i default).1 (ps.getD i default).2).toList.getD j default
  | [], i, j, hi, _ => absurd hi (by simp)
  | p :: t, 0, j, _, hj => by
    unfold cellsR
    rw [List.flatMap_cons, List.getD_eq_getElem?_getD, List.getElem?_append_left (by simp [redArr]; omega), ← List.getD_eq_getElem?_getD]
    simp
  | p :: t, i + 1, j, hi, hj => by
    have := cellsR_at t i j (by simpa using hi) hj
    unfold cellsR at this ⊢
    rw [List.flatMap_cons, List.getD_eq_getElem?_getD, List.getElem?_append_right (by simp [redArr]; omega), ← List.getD_eq_getElem?_getD, List.getD_cons_succ, ← this]
    congr 1
    simp [redArr]
    omega
theorem cellsR_fine {w : World} : ∀ {ps : List RV} {S : Nat → Prop}, PH w S ps → ∀ u ∈ cellsR ps, u.oneCell' = true
  | [], _, _, u, hu => by simp [cellsR] at hu
  | p :: t, S, ⟨Q, R, h1, h2, h3, h4, h5⟩, u, hu => by
    unfold cellsR at hu
    rw [List.flatMap_cons, List.mem_append] at hu
    rcases hu with hu | hu
    · obtain ⟨A, c, hA⟩ := Ft.LOwn.form h1
      rw [hA] at hu
      simp only [redArr, List.mem_cons, List.not_mem_nil, or_false] at hu
      rcases hu with rfl | rfl | rfl | rfl | rfl | rfl | rfl <;> rfl
    · exact cellsR_fine h5 u hu
theorem getD_fst (ps : List RV) (i : Nat) : (ps.map Prod.fst).getD i default = (ps.getD i default).1 := by
  rw [List.getD_eq_getElem?_getD, List.getElem?_map, List.getD_eq_getElem?_getD]
  cases ps[i]? <;> rfl
theorem map_range {T : Type} [Inhabited T] (ts : List T) : (List.range ts.length).map (fun i => ts.getD i default) = ts := by
  refine List.ext_getElem (by simp) fun i h1 h2 => ?_
  simp [List.getD_eq_getElem?_getD, List.getElem?_eq_getElem h2]
theorem getD_range {T : Type} [Inhabited T] (f : Nat → T) (n i : Nat) (h : i < n) : ((List.range n).map f).getD i default = f i := by
  rw [List.getD_eq_getElem?_getD, List.getElem?_map, List.getElem?_range h]; rfl
theorem heads {w : World} {S : Nat → Prop} {v : Value} {us : List Recs.Hd} (h : OwnH w S v us) : Ow.HdsOwn w S v us := by
  obtain ⟨h0, A, c, rfl, h2⟩ := h
  refine ⟨h0, A, c, rfl, h2.imp id ?_⟩
  rintro ⟨g, F, P, h3, h4, h5, h6⟩
  exact ⟨g, F, P, h3, h4, h5, ⟨h6.mine, h6.len, fun i hi => h6.el i hi, h6.apart, h6.disj⟩⟩
theorem one (S : Nat → Prop) (k : Nat) : (∀ i y, (if i = k then S y else False) → S y) ∧ (∀ i j, i ≠ j → ∀ y, (if i = k then S y else False) → ¬ (if j = k then S y else False)) := by
  refine ⟨fun i y h => ?_, fun i j hij y h h' => ?_⟩
  · split at h
    · exact h
    · exact h.elim
  · split at h
    · split at h'
      · omega
      · exact h'
    · exact h
/-- A row of them is a list of Reads of one's own. -/
theorem own_of {w : World} {base n0 : Nat} {S : Nat → Prop} {v : Value} {ps : List RV} (hn : ps.length ≤ 1048576) (hr : w.ownsRow n0 55 7 v ps.length (cellsR ps)) (hp : PH w S ps) (hv : ∀ g, v.ownBlock = some g → ¬ S g) (hS : ∀ x, S x → base ≤ x ∧ x < w.heap.size) (hb : base ≤ n0) : Ow.RedsOwn w (Ls.seg base w.heap.size) v (ps.map Prod.fst) := by
  rcases hr.2 with ⟨h1, h2⟩ | ⟨g, cap, cur, rfl, hbs, hgg, hnc, hcm, hcs, htake⟩
  · have := List.length_eq_zero_iff.1 h2
    subst this
    exact h1 ▸ Ow.LOwn.nil _ _ _ _
  obtain ⟨P, p1, p2, p3⟩ := hp.index
  have hlt : g < w.heap.size := (Array.getElem?_eq_some_iff.1 hgg).1
  have hl : (ps.map Prod.fst).length = ps.length := by simp
  refine ⟨by rw [hl]; exact hn, _, cap, by rw [hl], .inr ⟨g, fun q => (cellsR ps).getD q default, P, rfl, ⟨by omega, hlt⟩, fun i hi x hx => hS x (p2 i (by rw [hl] at hi; exact hi) x hx), ⟨?_, rfl, fun i hi => ?_, fun i hi x hx => ?_, fun i j hi hj => p3 i j (by rw [hl] at hi; exact hi) (by rw [hl] at hj; exact hj)⟩⟩⟩
  · rw [hl]
    have e : (List.range (ps.length * 7)).map (fun q => (cellsR ps).getD q default) = cellsR ps := by
      rw [← cellsR_len]
      exact map_range _
    show w.ownsRow g _ _ _ _ _
    rw [e]
    exact ⟨hr.1, .inr ⟨g, cap, cur, rfl, Nat.le_refl _, hgg, hnc, hcm, hcs, htake⟩⟩
  · rw [hl] at hi
    rw [getD_fst]
    have hc := fun j hj => cellsR_at ps i j hi hj
    refine ⟨⟨hc 0 (by omega), hc 1 (by omega), hc 2 (by omega), hc 3 (by omega), hc 4 (by omega), hc 5 (by omega)⟩, fun k y => if k = 6 then P i y else False, (one (P i) 6).1, (one (P i) 6).2, ?_⟩
    have h6 : (cellsR ps).getD (i * 7 + 6) default = (ps.getD i default).2 := hc 6 (by omega)
    show Ow.HdsOwn w (fun y => if 6 = 6 then P i y else False) ((cellsR ps).getD (i * 7 + 6) default) _
    rw [h6]
    simpa using heads (p1 i hi)
  · rw [hl] at hi
    have hx' := p2 i hi x hx
    exact ⟨fun e => hv g rfl (e ▸ hx'), (hS x hx').2⟩
theorem ownsKeep {W W' : World} {base n ty nf : Nat} {v : Value} {xs : List Value} (h : W.ownsRow base ty nf v n xs) (ho : ∀ g, v.ownBlock = some g → W'.heap[g]? = W.heap[g]?) : W'.ownsRow base ty nf v n xs := by
  refine ⟨h.1, ?_⟩
  rcases h.2 with hn | ⟨g', cap, cur, h1, hbs, hgg, rest⟩
  · exact .inl hn
  · exact .inr ⟨g', cap, cur, h1, hbs, by rw [ho g' (by rw [h1]; rfl)]; exact hgg, rest⟩
theorem isC_keep {W W' : World} {x : Nat} (h : IsC W x) (e : W'.heap[x]? = W.heap[x]?) : IsC W' x := by
  obtain ⟨cs, t, fr, h⟩ := h
  exact ⟨cs, t, fr, e.trans h⟩
theorem isC_own {W : World} {base n ty nf : Nat} {v : Value} {xs : List Value} (h : W.ownsRow base ty nf v n xs) : ∀ g, v.ownBlock = some g → IsC W g := fun g hg => by
  rcases h.2 with ⟨h1, h2⟩ | ⟨g', cap, cur, h1, _, hgg, _⟩
  · rw [h1] at hg; simp [Value.ownBlock] at hg
  · rw [h1] at hg
    simp only [Value.ownBlock, Option.some.injEq] at hg
    subst hg
    exact ⟨_, _, _, hgg⟩
theorem news {w : World} {base m c : Nat} {A : Option Addr} {xs : List Value} {ty nf : Nat} (h : w.ownsRow base ty nf (.slice A m c) m xs) : m ≠ 0 → ∃ ad, A = some ad ∧ ∀ j u, xs[j]? = some u → w.cell? (ad.add j) = some u := fun hm => by
  rcases h.2 with ⟨h1, h2⟩ | ⟨g, cap, cur, h1, _⟩
  · exact absurd h2 hm
  · simp only [Value.slice.injEq] at h1
    obtain ⟨rfl, _, rfl⟩ := h1
    exact ⟨_, rfl, World.ownsRow.cells h rfl⟩
/-- How far the list is made: blocks that lay ahead are as they were, but for V. -/
structure PR (w2 W : World) (n0 : Nat) (V : Nat → Prop) (v : Value) (ps : List RV) : Prop where
  own : W.ownsRow n0 55 7 v ps.length (cellsR ps)
  set : ∃ S : Nat → Prop, PH W S ps ∧ (∀ x, S x → IsC W x ∧ w2.heap.size ≤ x ∧ x < W.heap.size) ∧ ∀ g, v.ownBlock = some g → ¬ S g
  keep : ∀ x, x < w2.heap.size → ¬ V x → W.heap[x]? = w2.heap[x]?
  out : ∀ x, v.ownBlock = some x → x = n0 ∨ w2.heap.size ≤ x
  os : W.os = w2.os ∧ W.tape = w2.tape ∧ W.output = w2.output
  size : w2.heap.size ≤ W.heap.size
  n0 : n0 < w2.heap.size ∧ V n0
theorem PR.grownC {w2 W W' : World} {n0 : Nat} {V : Nat → Prop} {v : Value} {ps : List RV} {row : Option Nat} (h : PR w2 W n0 V v ps) (hg : W.grownBy W' row) (hr : ∀ r, row = some r → (w2.heap.size ≤ r ∧ ¬ IsC W r) ∨ (r < w2.heap.size ∧ V r ∧ r ≠ n0)) : PR w2 W' n0 V v ps := by
  have hz := h.size
  have ko : ∀ g, v.ownBlock = some g → W'.heap[g]? = W.heap[g]? := fun g e => hg.block g (World.ownsRow.lt h.own g e).2 (fun q => by
    rcases hr g q.symm with ⟨_, q2⟩ | ⟨q1, _, q3⟩
    · exact q2 (isC_own h.own g e)
    · rcases h.out g e with q4 | q4
      · exact q3 q4
      · omega)
  obtain ⟨S, s1, s2, s3⟩ := h.set
  have ks : ∀ x, S x → W'.heap[x]? = W.heap[x]? := fun x hx => hg.block x (s2 x hx).2.2 (fun q => by
    rcases hr x q.symm with ⟨_, q2⟩ | ⟨q1, _, _⟩
    · exact q2 (s2 x hx).1
    · have := (s2 x hx).2.1; omega)
  have gs := hg.size
  refine ⟨ownsKeep h.own ko, ⟨S, s1.keep gs ks, fun x hx => ⟨isC_keep (s2 x hx).1 (ks x hx), (s2 x hx).2.1, by have := (s2 x hx).2.2; omega⟩, s3⟩, fun x h1 h2 => ?_, h.out, ⟨hg.os.trans h.os.1, hg.tape.trans h.os.2.1, hg.output.trans h.os.2.2⟩, Nat.le_trans hz gs, h.n0⟩
  rw [hg.block x (by omega) (fun q => by
    rcases hr x q.symm with ⟨q1, _⟩ | ⟨_, q2, _⟩
    · omega
    · exact h2 q2)]
  exact h.keep x h1 h2
theorem PR.later {w2 W W' : World} {n0 : Nat} {V : Nat → Prop} {v : Value} {ps : List RV} (h : PR w2 W n0 V v ps) (b : Below W.heap.size W W') : PR w2 W' n0 V v ps :=
  h.grownC (row := none) ⟨b.os, b.tape, b.output, b.size, fun k hk _ => b.block k hk⟩ (fun r e => by cases e)
theorem PR.below {w w2 W : World} {n0 : Nat} {V : Nat → Prop} {v : Value} {ps : List RV} (h : PR w2 W n0 V v ps) (hV : ∀ x, V x → w.heap.size ≤ x) (b : Below w.heap.size w w2) : Below w.heap.size w W :=
  ⟨h.os.1.trans b.os, h.os.2.1.trans b.tape, h.os.2.2.trans b.output, Nat.le_trans b.size h.size, fun x hx => (h.keep x (by have := b.size; omega) (fun q => by have := hV x q; omega)).trans (b.block x hx)⟩
/-- A list more: its Heads were laid since W. -/
theorem PR.push {w2 W w8 w9 : World} {n0 : Nat} {V : Nat → Prop} {v v' : Value} {ps qs : List RV} {S' : Nat → Prop} (h : PR w2 W n0 V v ps) (b8 : Below W.heap.size W w8) (hq : PH w8 S' qs) (hS' : ∀ x, S' x → W.heap.size ≤ x ∧ x < w8.heap.size)
    (hown : w9.ownsRow n0 55 7 v' (ps.length + qs.length) (cellsR ps ++ cellsR qs)) (gr : w8.grownBy w9 v.ownBlock) (hat : v'.ownBlock = v.ownBlock ∨ v'.ownBlock = some w8.heap.size) : PR w2 w9 n0 V v' (ps ++ qs) := by
  have h8 := h.later b8
  have z8 := b8.size
  have hz := h.size
  have gs := gr.size
  obtain ⟨S, s1, s2, s3⟩ := h.set
  have hvb : ∀ x, v.ownBlock = some x → n0 ≤ x ∧ x < W.heap.size := fun x hx => World.ownsRow.lt h.own x hx
  have ks : ∀ x, S x → w9.heap[x]? = W.heap[x]? := fun x hx => (gr.block x (by have := (s2 x hx).2.2; omega) (fun q => s3 x q.symm hx)).trans (b8.block x (s2 x hx).2.2)
  have kq : ∀ x, S' x → w9.heap[x]? = w8.heap[x]? := fun x hx => gr.block x (hS' x hx).2 (fun q => by have := hvb x q.symm; have := (hS' x hx).1; omega)
  have hq' := (hq.cells).keep gs (fun x hx => kq x hx.1)
  refine ⟨by rw [cellsR_app, List.length_append]; exact hown, ⟨_, PH.app (s1.keep (by omega) ks) hq' (fun x hx hx' => by have := (s2 x hx).2.2; have := (hS' x hx'.1).1; omega), fun x hx => ?_, fun g hg hx => ?_⟩, fun x h1 h2 => ?_, fun x hx => ?_, ⟨gr.os.trans (b8.os.trans h.os.1), gr.tape.trans (b8.tape.trans h.os.2.1), gr.output.trans (b8.output.trans h.os.2.2)⟩, by omega, h.n0⟩
  · rcases hx with hx | hx
    · exact ⟨isC_keep (s2 x hx).1 (ks x hx), (s2 x hx).2.1, by have := (s2 x hx).2.2; omega⟩
    · exact ⟨isC_keep hx.2 (kq x hx.1), by have := (hS' x hx.1).1; omega, by have := (hS' x hx.1).2; omega⟩
  · rcases hat with e | e
    · rw [e] at hg
      rcases hx with hx | hx
      · exact s3 g hg hx
      · have := hvb g hg; have := (hS' g hx.1).1; omega
    · rw [e] at hg
      have hg' : w8.heap.size = g := Option.some.inj hg
      rcases hx with hx | hx
      · have := (s2 g hx).2.2; omega
      · have := (hS' g hx.1).2; omega
  · rw [gr.block x (by omega) (fun q => by
      rcases h.out x q.symm with q1 | q1
      · exact h2 (q1 ▸ h.n0.2)
      · have := hvb x q.symm; omega), b8.block x (by omega)]
    exact h.keep x h1 h2
  · rcases hat with e | e
    · rw [e] at hx; exact h.out x hx
    · rw [e] at hx
      have hg' : w8.heap.size = x := Option.some.inj hx
      right; omega
/-- At the end: a list of Reads of one's own. -/
theorem PR.fin {w w2 W : World} {n0 : Nat} {V : Nat → Prop} {v : Value} {ps : List RV} (h : PR w2 W n0 V v ps) (hn : ps.length ≤ 1048576) (h0 : w.heap.size ≤ n0) (h2 : w.heap.size ≤ w2.heap.size) : Ow.RedsOwn W (Ls.seg w.heap.size W.heap.size) v (ps.map Prod.fst) := by
  obtain ⟨S, s1, s2, s3⟩ := h.set
  exact own_of hn h.own s1 s3 (fun x hx => ⟨by have := (s2 x hx).2.1; omega, (s2 x hx).2.2⟩) h0
end Go.Proofs.Ytdnfnjlnfmafkaa.VsO
