/- Lists of Replica of the call's own; the law's marks on them; The law's marks on a list of numbers of the call's own; the look at these; One Part of the call's own; the law's marks on it. -/
import Derived.Test.YticihnoekffelaaJS40
import Derived.Test.YticihnoekffelaaJS25
import Derived.Test.YticihnoekffelaaJS38
namespace Go.Proofs.Yticihnoekffelaa.Ow
set_option maxRecDepth 8000
open Go.RowKit
open Recs
open Ls
open SegW (Sg)
set_option linter.unusedVariables false
def EORpl : Elt Rpl := fun w S f u => (f 0 = .int .i64 u.start ∧ f 1 = .int .i64 u.next ∧ f 2 = .int .i64 u.roll ∧ f 4 = .int .i64 u.mark ∧ f 5 = .bool u.up) ∧ ∃ Q : Nat → Nat → Prop, (∀ i y, Q i y → S y) ∧ (∀ i j, i ≠ j → ∀ y, Q i y → ¬ Q j y) ∧ SgsOwn w (Q 3) (f 3) u.segs
theorem keepsORpl : KeepsO 6 EORpl := fun w w' S f f' t h hs hk hf => by
  obtain ⟨⟨s0, s1, s2, s4, s5⟩, Q, q1, q2, l3⟩ := h
  exact ⟨⟨by rw [hf 0 (by omega)]; exact s0, by rw [hf 1 (by omega)]; exact s1, by rw [hf 2 (by omega)]; exact s2, by rw [hf 4 (by omega)]; exact s4, by rw [hf 5 (by omega)]; exact s5⟩, Q, q1, q2, by rw [hf 3 (by omega)]; exact l3.keep keepsOSg hs (fun g hg => hk g (q1 _ g hg))⟩
theorem atORpl (w : World) (S : Nat → Prop) (f : Nat → Value) (u : Rpl) (h : EORpl w S f u) : ERpl w S f u := by
  obtain ⟨⟨s0, s1, s2, s4, s5⟩, Q, q1, q2, l3⟩ := h
  exact ⟨s0, s1, s2, (LOwn.lat growsSg atOSg l3).mono growsSg (q1 3), s4, s5⟩
abbrev RplsOwn := LOwn 69 6 EORpl
def mRpl (k : Nat) (u : Rpl) : Rpl := ⟨(((k + 0) : Nat) : Int), (((k + 1) : Nat) : Int), (((k + 2) : Nat) : Int), mL mSg nSg (k + 3) u.segs, (((k + 3 + tot nSg u.segs) : Nat) : Int), ((((k + 4 + tot nSg u.segs) : Nat) : Int) % 3 == 0)⟩
def nRpl (u : Rpl) : Nat := 5 + tot nSg u.segs
theorem markReplicaS_none (A : Option Addr) (c : Nat) (k : Int) (w : World) : Calls Try.prog 46 #[.slice A 0 c, .int .i64 k] w fun e w' => e = .returned (.int .i64 k) ∧ w = w' := by
  go_enter Try.func46, Try.ntmps46
  go_wp2
  go_loop [1, 5] (fun x i => i = .int .i64 0 ∧ x = .int .i64 k) (fun _ _ => 0)
  case atStart => exact ⟨rfl, rfl⟩
  case round =>
    obtain ⟨rfl, rfl⟩ := hrel
    go_wp2
    go_ret
    exact ⟨rfl, rfl⟩
set_option maxHeartbeats 3200000 in
theorem markReplicaS_core (g n c k : Nat) (S : Nat → Prop) (P : Nat → Nat → Prop) (F0 : Nat → Value) (us : List Rpl) (w : World) (hn : n ≤ 1048576) (hk : 0 < k) (hk1 : k + tot nRpl us ≤ 4000000000000000000) (hSg : S g) (hSP : ∀ i, i < n → ∀ y, P i y → S y) (ho : LOpen 69 6 EORpl w g n c F0 P us) :
    Calls Try.prog 46 #[.slice (some ⟨g, 0, none⟩) n c, .int .i64 k] w fun e w' => ∃ F, e = .returned (.int .i64 ((k + tot nRpl us : Nat) : Int)) ∧ LOpen 69 6 EORpl w' g n c F P (mL mRpl nRpl k us) ∧ Foot w w' S := by
  have hc := ho.mine.le
  have hlen := Seg.hid ho.len
  have HM : Hid (LOpen 69 6 EORpl w g n c F0 P (mid mRpl nRpl k 0 us) ∧ Foot w w S) := ⟨by rw [mid_zero]; exact ho, Foot.refl _ _⟩
  have HSG := Seg.hid hSg; have HSP := Seg.hid hSP
  have KL : Hid (∀ j, j < n → k + tot nRpl (us.take j) + nRpl (us.getD j default) ≤ 4000000000000000000) := fun j hj => by
    have a1 := tot_take nRpl (ts := us) (j := j) (by rw [hlen.out]; exact hj)
    have a2 := tot_le nRpl us (j + 1)
    omega
  have KE : Hid (k + tot nRpl (us.take n) = k + tot nRpl us) := by show _ = _; rw [← hlen.out, List.take_length]
  clear ho hSg hSP hk1
  go_enter Try.func46, Try.ntmps46
  go_wp2
  go_loopw [1, 5] (fun x i wr => ∃ (j : Nat) (F : Nat → Value), j ≤ n ∧ i = .int .i64 j ∧ x = .int .i64 ((k + tot nRpl (us.take j) : Nat) : Int) ∧ Hid (LOpen 69 6 EORpl wr g n c F P (mid mRpl nRpl k j us) ∧ Foot w wr S)) (fun _ i _ => n - (intOf i).toNat)
  case atStart => exact ⟨0, F0, Nat.zero_le _, rfl, rfl, HM.out⟩
  case round =>
    clear HM
    obtain ⟨j, F, hj, rfl, rfl, HR⟩ := hrel
    by_cases hlt : j < n
    · have h0 : (0 : Int) ≤ (j : Int) := by omega
      have h1 : (j : Int) < (n : Int) := by omega
      have EL := HR.out.1.el j hlt
      rw [mid_get mRpl nRpl (by rw [hlen.out]; exact hlt)] at EL
      have MS := mid_step mRpl nRpl (k := k) (ts := us) (j := j) (by rw [hlen.out]; exact hlt)
      have TK := Seg.hid (tot_take nRpl (ts := us) (j := j) (by rw [hlen.out]; exact hlt))
      have hxb := KL.out j hlt
      have HAP := Seg.hid (HR.out.1.apart j hlt)
      obtain ⟨x, hx⟩ : ∃ x, k + tot nRpl (us.take j) = x := ⟨_, rfl⟩
      have HX := Seg.hid hx
      rw [hx] at hxb MS ⊢
      have hx0 : 0 < x := by omega
      clear hx
      have MS' := Seg.hid MS
      clear MS
      generalize us.getD j default = u at *
      have HXB := Seg.hid hxb
      clear hxb
      obtain ⟨⟨s0, s1, s2, s4, s5⟩, Q, q1, q2, l3⟩ := EL
      obtain ⟨A3, c3, g3⟩ := l3.form
      have O0_3 : Hid (SgsOwn wr (Q 3) (.slice A3 u.segs.length c3) u.segs) := by
        have := l3
        rw [g3] at this
        exact this
      have QP := Seg.hid q1
      have QD := Seg.hid q2
      have R0 : Hid (Rnd 69 6 g n c (P j) w wr wr S F j [.int .i64 u.start, .int .i64 u.next, .int .i64 u.roll, .slice A3 u.segs.length c3, .int .i64 u.mark, .bool u.up]) := Rnd.start HR.out.1.mine HR.out.2 rfl (fun q hq => by
        match q, hq with
        | 0, _ => exact s0
        | 1, _ => exact s1
        | 2, _ => exact s2
        | 3, _ => exact g3
        | 4, _ => exact s4
        | 5, _ => exact s5)
      clear s0 s1 s2 s4 s5 l3 g3 q1 q2
      have QG : Hid (∀ i y, Q i y → y ≠ g) := fun i y hy => (HAP.out y (QP.out i y hy)).1
      have QL : Hid (∀ i y, Q i y → y < wr.heap.size) := fun i y hy => (HAP.out y (QP.out i y hy)).2
      have HB_x : Hid (x + 5 + tot nSg u.segs ≤ 4000000000000000000) := by show _ ≤ _; have := HXB.out; simp only [nRpl] at this; omega
      have hc_x : x + 4 ≤ 4000000000000000000 + 4 := by have := HB_x.out; omega
      have hd_x : x + 3 ≤ 4000000000000000000 := by have := HB_x.out; omega
      have d0 : (wr).cell? ⟨g, j * 6, none⟩ = some (.int .i64 u.start) := R0.out.cell hlt 0 (by omega)
      have f0 : (wr).frozen? ⟨g, j * 6, none⟩ = false := R0.out.frozen _
      have R1 : Hid (Rnd 69 6 g n c (P j) w wr (wr.setCell ⟨g, j * 6, none⟩ (.int .i64 ((x : Int)))) S F j [.int .i64 ((x : Int)), .int .i64 u.next, .int .i64 u.roll, .slice A3 u.segs.length c3, .int .i64 u.mark, .bool u.up]) := R0.out.set HSG.out 0 (by omega) (.int .i64 ((x : Int)))
      have O1_3 : Hid (SgsOwn (wr.setCell ⟨g, j * 6, none⟩ (.int .i64 ((x : Int)))) (Q 3) (.slice A3 u.segs.length c3) (u.segs)) := O0_3.out.set keepsOSg _ (QG.out 3) _
      have d1 : ((wr.setCell ⟨g, j * 6, none⟩ (.int .i64 ((x : Int))))).cell? ⟨g, j * 6 + 1, none⟩ = some (.int .i64 u.next) := R1.out.cell hlt 1 (by omega)
      have f1 : ((wr.setCell ⟨g, j * 6, none⟩ (.int .i64 ((x : Int))))).frozen? ⟨g, j * 6 + 1, none⟩ = false := R1.out.frozen _
      have R2 : Hid (Rnd 69 6 g n c (P j) w wr ((wr.setCell ⟨g, j * 6, none⟩ (.int .i64 ((x : Int)))).setCell ⟨g, j * 6 + 1, none⟩ (.int .i64 ((x : Int) + 1))) S F j [.int .i64 ((x : Int)), .int .i64 ((x : Int) + 1), .int .i64 u.roll, .slice A3 u.segs.length c3, .int .i64 u.mark, .bool u.up]) := R1.out.set HSG.out 1 (by omega) (.int .i64 ((x : Int) + 1))
      have O2_3 : Hid (SgsOwn ((wr.setCell ⟨g, j * 6, none⟩ (.int .i64 ((x : Int)))).setCell ⟨g, j * 6 + 1, none⟩ (.int .i64 ((x : Int) + 1))) (Q 3) (.slice A3 u.segs.length c3) (u.segs)) := O1_3.out.set keepsOSg _ (QG.out 3) _
      have d2 : (((wr.setCell ⟨g, j * 6, none⟩ (.int .i64 ((x : Int)))).setCell ⟨g, j * 6 + 1, none⟩ (.int .i64 ((x : Int) + 1)))).cell? ⟨g, j * 6 + 2, none⟩ = some (.int .i64 u.roll) := R2.out.cell hlt 2 (by omega)
      have f2 : (((wr.setCell ⟨g, j * 6, none⟩ (.int .i64 ((x : Int)))).setCell ⟨g, j * 6 + 1, none⟩ (.int .i64 ((x : Int) + 1)))).frozen? ⟨g, j * 6 + 2, none⟩ = false := R2.out.frozen _
      have R3 : Hid (Rnd 69 6 g n c (P j) w wr (((wr.setCell ⟨g, j * 6, none⟩ (.int .i64 ((x : Int)))).setCell ⟨g, j * 6 + 1, none⟩ (.int .i64 ((x : Int) + 1))).setCell ⟨g, j * 6 + 2, none⟩ (.int .i64 ((x : Int) + 1 + 1))) S F j [.int .i64 ((x : Int)), .int .i64 ((x : Int) + 1), .int .i64 ((x : Int) + 1 + 1), .slice A3 u.segs.length c3, .int .i64 u.mark, .bool u.up]) := R2.out.set HSG.out 2 (by omega) (.int .i64 ((x : Int) + 1 + 1))
      have O3_3 : Hid (SgsOwn (((wr.setCell ⟨g, j * 6, none⟩ (.int .i64 ((x : Int)))).setCell ⟨g, j * 6 + 1, none⟩ (.int .i64 ((x : Int) + 1))).setCell ⟨g, j * 6 + 2, none⟩ (.int .i64 ((x : Int) + 1 + 1))) (Q 3) (.slice A3 u.segs.length c3) (u.segs)) := O2_3.out.set keepsOSg _ (QG.out 3) _
      have d3 : ((((wr.setCell ⟨g, j * 6, none⟩ (.int .i64 ((x : Int)))).setCell ⟨g, j * 6 + 1, none⟩ (.int .i64 ((x : Int) + 1))).setCell ⟨g, j * 6 + 2, none⟩ (.int .i64 ((x : Int) + 1 + 1)))).cell? ⟨g, j * 6 + 3, none⟩ = some (.slice A3 u.segs.length c3) := R3.out.cell hlt 3 (by omega)
      go_wp2_with fail
      clear d0 f0 d1 f1 d2 f2 d3
      refine (markSegmentS_own _ (x + 3) (by omega) (Q 3) u.segs (((wr.setCell ⟨g, j * 6, none⟩ (.int .i64 ((x : Int)))).setCell ⟨g, j * 6 + 1, none⟩ (.int .i64 ((x : Int) + 1))).setCell ⟨g, j * 6 + 2, none⟩ (.int .i64 ((x : Int) + 1 + 1))) (by omega) (by have := HB_x.out; omega) O3_3.out).mono ?_
      rintro e w1 ⟨rfl, o1, t1⟩
      have R4 : Hid (Rnd 69 6 g n c (P j) w wr w1 S F j [.int .i64 ((x : Int)), .int .i64 ((x : Int) + 1), .int .i64 ((x : Int) + 1 + 1), .slice A3 u.segs.length c3, .int .i64 u.mark, .bool u.up]) := R3.out.foot t1 (QP.out 3) (fun h => (HAP.out g h).1 rfl) (HSP.out j hlt)
      have O4_3 : Hid (SgsOwn w1 (Q 3) (.slice A3 u.segs.length c3) (mL mSg nSg (x + 3) u.segs)) := o1
      clear o1 t1
      obtain ⟨y1, hy1⟩ : ∃ y1, x + 3 + tot nSg u.segs = y1 := ⟨_, rfl⟩
      rw [hy1]
      have Hy1 := Seg.hid hy1
      have HB_y1 : Hid (y1 + 2 ≤ 4000000000000000000) := by show _ ≤ _; have := HB_x.out; omega
      have hd_y1 : y1 + 2 ≤ 4000000000000000000 := by have := HB_y1.out; omega
      have hp_y1 : 0 < y1 := by omega
      clear hy1
      have d4 : (w1).cell? ⟨g, j * 6 + 4, none⟩ = some (.int .i64 u.mark) := R4.out.cell hlt 4 (by omega)
      have f4 : (w1).frozen? ⟨g, j * 6 + 4, none⟩ = false := R4.out.frozen _
      have R5 : Hid (Rnd 69 6 g n c (P j) w wr (w1.setCell ⟨g, j * 6 + 4, none⟩ (.int .i64 ((y1 : Int)))) S F j [.int .i64 ((x : Int)), .int .i64 ((x : Int) + 1), .int .i64 ((x : Int) + 1 + 1), .slice A3 u.segs.length c3, .int .i64 ((y1 : Int)), .bool u.up]) := R4.out.set HSG.out 4 (by omega) (.int .i64 ((y1 : Int)))
      have O5_3 : Hid (SgsOwn (w1.setCell ⟨g, j * 6 + 4, none⟩ (.int .i64 ((y1 : Int)))) (Q 3) (.slice A3 u.segs.length c3) (mL mSg nSg (x + 3) u.segs)) := O4_3.out.set keepsOSg _ (QG.out 3) _
      have d5 : ((w1.setCell ⟨g, j * 6 + 4, none⟩ (.int .i64 ((y1 : Int))))).cell? ⟨g, j * 6 + 5, none⟩ = some (.bool u.up) := R5.out.cell hlt 5 (by omega)
      have f5 : ((w1.setCell ⟨g, j * 6 + 4, none⟩ (.int .i64 ((y1 : Int))))).frozen? ⟨g, j * 6 + 5, none⟩ = false := R5.out.frozen _
      have R6 : Hid (Rnd 69 6 g n c (P j) w wr ((w1.setCell ⟨g, j * 6 + 4, none⟩ (.int .i64 ((y1 : Int)))).setCell ⟨g, j * 6 + 5, none⟩ (.bool (((y1 : Int) + 1) % 3 == 0))) S F j [.int .i64 ((x : Int)), .int .i64 ((x : Int) + 1), .int .i64 ((x : Int) + 1 + 1), .slice A3 u.segs.length c3, .int .i64 ((y1 : Int)), .bool (((y1 : Int) + 1) % 3 == 0)]) := R5.out.set HSG.out 5 (by omega) (.bool (((y1 : Int) + 1) % 3 == 0))
      have O6_3 : Hid (SgsOwn ((w1.setCell ⟨g, j * 6 + 4, none⟩ (.int .i64 ((y1 : Int)))).setCell ⟨g, j * 6 + 5, none⟩ (.bool (((y1 : Int) + 1) % 3 == 0))) (Q 3) (.slice A3 u.segs.length c3) (mL mSg nSg (x + 3) u.segs)) := O5_3.out.set keepsOSg _ (QG.out 3) _
      have EE : Hid (EORpl ((w1.setCell ⟨g, j * 6 + 4, none⟩ (.int .i64 ((y1 : Int)))).setCell ⟨g, j * 6 + 5, none⟩ (.bool (((y1 : Int) + 1) % 3 == 0))) (P j) (fun q => [.int .i64 ((x : Int)), .int .i64 ((x : Int) + 1), .int .i64 ((x : Int) + 1 + 1), .slice A3 u.segs.length c3, .int .i64 ((y1 : Int)), .bool (((y1 : Int) + 1) % 3 == 0)].getD q default) (mRpl x u)) := by
        refine ⟨⟨?_, ?_, ?_, ?_, ?_⟩, Q, QP.out, QD.out, ?_⟩
        · exact congrArg (Value.int .i64) (show (x : Int) = (((x + 0) : Nat) : Int) by have z0 := Hy1.out; omega)
        · exact congrArg (Value.int .i64) (show (x : Int) + 1 = (((x + 1) : Nat) : Int) by have z0 := Hy1.out; omega)
        · exact congrArg (Value.int .i64) (show (x : Int) + 1 + 1 = (((x + 2) : Nat) : Int) by have z0 := Hy1.out; omega)
        · exact congrArg (Value.int .i64) (show (y1 : Int) = (((x + 3 + tot nSg u.segs) : Nat) : Int) by have z0 := Hy1.out; omega)
        · exact congrArg (fun z : Int => Value.bool (z % 3 == 0)) (show (y1 : Int) + 1 = (((x + 4 + tot nSg u.segs) : Nat) : Int) by have z0 := Hy1.out; omega)
        · have hz : x + 3 = (x + 3) := by (have z0 := Hy1.out; omega)
          have ho := O6_3.out
          rw [hz] at ho
          exact ho
      obtain ⟨F', L', F2⟩ := Rnd.done keepsORpl (t := mRpl x u) HR.out.1 hlt R6.out EE.out
      rw [MS'.out] at L'
      have L2 := Seg.hid L'
      have F3 := Seg.hid F2
      clear L' F2
      have HKK : Hid ((y1 : Int) + 1 + 1 = ((k + tot nRpl (us.take (j + 1)) : Nat) : Int)) := by
        show _ = _
        have z0 := Hy1.out; have a1 := TK.out; have a2 := HX.out; simp only [nRpl] at a1; omega
      go_wp2
      clear d4 f4 d5 f5
      go_roundw
      case rel => exact ⟨j + 1, F', by omega, by go_num, congrArg (Value.int .i64) HKK.out, L2.out, F3.out⟩
      case measure => simp [intOf]; omega
    · have : j = n := by omega
      subst this
      have E := HR.out
      rw [show mid mRpl nRpl k j us = mL mRpl nRpl k us by rw [← hlen.out]; exact mid_all _ _ _ _] at E
      have EH' := Seg.hid E
      clear E
      rw [KE.out]
      go_wp2
      go_ret
      exact ⟨F, rfl, EH'.out⟩
theorem markReplicaS_own (x : Int) (k : Nat) (hx : x = (k : Int)) (S : Nat → Prop) (us : List Rpl) (w : World) {v : Value} (hk : 0 < k) (hk1 : k + tot nRpl us ≤ 4000000000000000000) (hv : RplsOwn w S v us) :
    Calls Try.prog 46 #[v, .int .i64 x] w fun e w' => e = .returned (.int .i64 ((k + tot nRpl us : Nat) : Int)) ∧ RplsOwn w' S v (mL mRpl nRpl k us) ∧ Foot w w' S := by
  subst hx
  obtain ⟨h0, A, c, rfl, h⟩ := hv
  by_cases hz : us.length = 0
  · obtain rfl := List.length_eq_zero_iff.1 hz
    exact (markReplicaS_none A c k w).mono fun e w' ⟨h1, h2⟩ => by
      subst h2
      exact ⟨by rw [h1]; rfl, LOwn.nil _ _ _ _, Foot.refl _ _⟩
  obtain ⟨g, F, P, rfl, h3, h4, h5⟩ := h.resolve_left hz
  refine (markReplicaS_core g us.length c k S P F us w h0 hk hk1 h3 h4 h5).mono fun e w' ⟨F', a1, a2, a3⟩ => ⟨a1, ⟨by rw [mL_len]; exact h0, _, c, by rw [mL_len], .inr ⟨g, F', P, rfl, h3, fun i hi => h4 i (by rw [mL_len] at hi; exact hi), ?_⟩⟩, a3⟩
  rw [mL_len]
  exact a2
end Go.Proofs.Yticihnoekffelaa.Ow
namespace Go.Proofs.Yticihnoekffelaa.Ow
set_option maxRecDepth 8000
open Go.RowKit
open Recs
open Ls
set_option linter.unusedVariables false
theorem markIntS_none (A : Option Addr) (c : Nat) (k : Int) (w : World) : Calls Try.prog 47 #[.slice A 0 c, .int .i64 k] w fun e w' => e = .returned (.int .i64 k) ∧ w = w' := by
  go_enter Try.func47, Try.ntmps47
  go_wp2
  go_loop [1, 5] (fun x i => i = .int .i64 0 ∧ x = .int .i64 k) (fun _ _ => 0)
  case atStart => exact ⟨rfl, rfl⟩
  case round =>
    obtain ⟨rfl, rfl⟩ := hrel
    go_wp2
    go_ret
    exact ⟨rfl, rfl⟩
set_option maxHeartbeats 800000 in
theorem markIntS_core (g n c k : Nat) (S : Nat → Prop) (P : Nat → Nat → Prop) (F0 : Nat → Value) (ns : List Int) (w : World) (hn : n ≤ 1048576) (hk : 0 < k) (hk1 : k + tot nI ns ≤ 4000000000000000000) (hSg : S g) (ho : LOpen 3 1 EI w g n c F0 P ns) :
    Calls Try.prog 47 #[.slice (some ⟨g, 0, none⟩) n c, .int .i64 k] w fun e w' => ∃ F, e = .returned (.int .i64 ((k + tot nI ns : Nat) : Int)) ∧ LOpen 3 1 EI w' g n c F P (mL mI nI k ns) ∧ Foot w w' S := by
  have hc := ho.mine.le
  have hlen := Seg.hid ho.len
  have HM : Hid (LOpen 3 1 EI w g n c F0 P (mid mI nI k 0 ns) ∧ Foot w w S) := ⟨by rw [mid_zero]; exact ho, Foot.refl _ _⟩
  have HSG := Seg.hid hSg
  have hkn : k + n ≤ 4000000000000000000 := by rw [nI_tot, hlen.out] at hk1; exact hk1
  have KT : Hid (∀ j, j ≤ n → tot nI (ns.take j) = j) := fun j hj => by rw [nI_tot, List.length_take, hlen.out]; omega
  have KE : Hid (tot nI ns = n) := by show _ = _; rw [nI_tot, hlen.out]
  clear ho hSg hk1
  go_enter Try.func47, Try.ntmps47
  go_wp2
  go_loopw [1, 5] (fun x i wr => ∃ (j : Nat) (F : Nat → Value), j ≤ n ∧ i = .int .i64 j ∧ x = .int .i64 ((k : Int) + j) ∧ Hid (LOpen 3 1 EI wr g n c F P (mid mI nI k j ns) ∧ Foot w wr S)) (fun _ i _ => n - (intOf i).toNat)
  case atStart => exact ⟨0, F0, Nat.zero_le _, rfl, by simp, HM.out⟩
  case round =>
    clear HM
    obtain ⟨j, F, hj, rfl, rfl, HR⟩ := hrel
    by_cases hlt : j < n
    · have h0 : (0 : Int) ≤ (j : Int) := by omega
      have h1 : (j : Int) < (n : Int) := by omega
      have R0 : Hid (Rnd 3 1 g n c (P j) w wr wr S F j [F (j * 1 + 0)]) := Rnd.start HR.out.1.mine HR.out.2 rfl (fun q hq => by
        match q, hq with
        | 0, _ => rfl)
      have d0 : wr.cell? ⟨g, j, none⟩ = some (F j) := by have := HR.out.1.mine.cell j (by omega); exact this
      have f0 := HR.out.1.mine.frozen j
      have R1 : Hid (Rnd 3 1 g n c (P j) w wr (wr.setCell ⟨g, j, none⟩ (.int .i64 ((k : Int) + j))) S F j [.int .i64 ((k : Int) + j)]) := by
        have := R0.out.set HSG.out 0 (by omega) (.int .i64 ((k : Int) + j))
        simp only [Nat.mul_one, Nat.add_zero] at this
        exact this
      obtain ⟨F', L', F2⟩ := Rnd.done keepsOI (t := mI (k + tot nI (ns.take j)) (ns.getD j default)) HR.out.1 hlt R1.out (by show Value.int .i64 _ = .int .i64 _; rw [KT.out j hj, mI]; simp)
      rw [mid_step mI nI (by rw [hlen.out]; exact hlt)] at L'
      have L2 := Seg.hid L'
      have F3 := Seg.hid F2
      clear L' F2
      go_wp2
      go_roundw
      case rel => exact ⟨j + 1, F', by omega, by go_num, by go_num, L2.out, F3.out⟩
      case measure => simp [intOf]; omega
    · have : j = n := by omega
      subst this
      have E := HR.out
      rw [show mid mI nI k j ns = mL mI nI k ns by rw [← hlen.out]; exact mid_all _ _ _ _] at E
      have EH' := Seg.hid E
      clear E
      go_wp2
      go_ret
      exact ⟨F, Seg.ret_int (by have := KE.out; omega), EH'.out⟩
theorem markIntS_own (x : Int) (k : Nat) (hx : x = (k : Int)) (S : Nat → Prop) (ns : List Int) (w : World) {v : Value} (hk : 0 < k) (hk1 : k + tot nI ns ≤ 4000000000000000000) (hv : IntsOwn w S v ns) :
    Calls Try.prog 47 #[v, .int .i64 x] w fun e w' => e = .returned (.int .i64 ((k + tot nI ns : Nat) : Int)) ∧ IntsOwn w' S v (mL mI nI k ns) ∧ Foot w w' S := by
  subst hx
  obtain ⟨h0, A, c, rfl, h⟩ := hv
  by_cases hz : ns.length = 0
  · obtain rfl := List.length_eq_zero_iff.1 hz
    exact (markIntS_none A c k w).mono fun e w' ⟨h1, h2⟩ => by
      subst h2
      exact ⟨by rw [h1]; rfl, LOwn.nil _ _ _ _, Foot.refl _ _⟩
  obtain ⟨g, F, P, rfl, h3, h4, h5⟩ := h.resolve_left hz
  refine (markIntS_core g ns.length c k S P F ns w h0 hk hk1 h3 h5).mono fun e w' ⟨F', a1, a2, a3⟩ => ⟨a1, ⟨by rw [mL_len]; exact h0, _, c, by rw [mL_len], .inr ⟨g, F', P, rfl, h3, fun i hi => h4 i (by rw [mL_len] at hi; exact hi), ?_⟩⟩, a3⟩
  rw [mL_len]
  exact a2
end Go.Proofs.Yticihnoekffelaa.Ow
namespace Go.Proofs.Yticihnoekffelaa.Ow
set_option maxRecDepth 8000
open Go.RowKit
open Recs
open Ls
open SegW (Sg)
set_option linter.unusedVariables false
def EOPrt : Elt Prt := fun w S f u => (f 1 = .int .i64 u.leader ∧ f 2 = .int .i64 u.epoch ∧ f 5 = .int .i64 u.least) ∧ ∃ Q : Nat → Nat → Prop, (∀ i y, Q i y → S y) ∧ (∀ i j, i ≠ j → ∀ y, Q i y → ¬ Q j y) ∧ RplsOwn w (Q 0) (f 0) u.reps ∧ IntsOwn w (Q 3) (f 3) u.insync ∧ IntsOwn w (Q 4) (f 4) u.known
theorem keepsOPrt : KeepsO 6 EOPrt := fun w w' S f f' t h hs hk hf => by
  obtain ⟨⟨s1, s2, s5⟩, Q, q1, q2, l0, l3, l4⟩ := h
  exact ⟨⟨by rw [hf 1 (by omega)]; exact s1, by rw [hf 2 (by omega)]; exact s2, by rw [hf 5 (by omega)]; exact s5⟩, Q, q1, q2, by rw [hf 0 (by omega)]; exact l0.keep keepsORpl hs (fun g hg => hk g (q1 _ g hg)), by rw [hf 3 (by omega)]; exact l3.keep keepsOI hs (fun g hg => hk g (q1 _ g hg)), by rw [hf 4 (by omega)]; exact l4.keep keepsOI hs (fun g hg => hk g (q1 _ g hg))⟩
theorem atOPrt (w : World) (S : Nat → Prop) (f : Nat → Value) (u : Prt) (h : EOPrt w S f u) : EPrt w S f u := by
  obtain ⟨⟨s1, s2, s5⟩, Q, q1, q2, l0, l3, l4⟩ := h
  exact ⟨(LOwn.lat growsRpl atORpl l0).mono growsRpl (q1 0), s1, s2, (LOwn.lat growsI (fun _ _ _ _ h => h) l3).mono growsI (q1 3), (LOwn.lat growsI (fun _ _ _ _ h => h) l4).mono growsI (q1 4), s5⟩
def PrtOwn (w : World) (S : Nat → Prop) (v : Value) (u : Prt) : Prop := ∃ f, v = .agg (arrPrt f) ∧ EOPrt w S f u
theorem PrtOwn.at {w : World} {S : Nat → Prop} {v : Value} {u : Prt} (h : PrtOwn w S v u) : PrtAt w S v u := by
  obtain ⟨f, h1, h2⟩ := h
  exact ⟨f, h1, atOPrt _ _ _ _ h2⟩
theorem PrtOwn.keep {w w' : World} {S : Nat → Prop} {v : Value} {u : Prt} (h : PrtOwn w S v u) (hs : w.heap.size ≤ w'.heap.size) (hk : ∀ g, S g → w'.heap[g]? = w.heap[g]?) : PrtOwn w' S v u := by
  obtain ⟨f, h1, h2⟩ := h
  exact ⟨f, h1, keepsOPrt _ _ _ _ _ _ h2 hs hk (fun _ _ => rfl)⟩
def mPrt (k : Nat) (u : Prt) : Prt := ⟨mL mRpl nRpl (k) u.reps, u.leader, u.epoch, mL mI nI (k + tot nRpl u.reps) u.insync, mL mI nI (k + tot nRpl u.reps + tot nI u.insync) u.known, u.least⟩
def nPrt (u : Prt) : Nat := tot nRpl u.reps + tot nI u.insync + tot nI u.known
set_option maxHeartbeats 1600000 in
theorem markPart_own (x : Int) (k : Nat) (hx : x = (k : Int)) (S : Nat → Prop) (u : Prt) (w : World) {v : Value} (hk : 0 < k) (hk1 : k + nPrt u ≤ 4000000000000000000) (hS : ∀ y, S y → y < w.heap.size) (hv : PrtOwn w S v u) :
    Calls Try.prog 18 #[v, .int .i64 x] w fun e w' => e = .returned (.int .i64 ((k + nPrt u : Nat) : Int)) ∧ PrtOwn w' S v (mPrt k u) ∧ Foot w w' S := by
  subst hx
  obtain ⟨f, rfl, ⟨s1, s2, s5⟩, Q, q1, q2, l0, l3, l4⟩ := hv
  obtain ⟨A0, c0, g0⟩ := l0.form
  have O0_0 : Hid (RplsOwn w (Q 0) (.slice A0 u.reps.length c0) u.reps) := by rw [← g0]; exact l0
  obtain ⟨A3, c3, g3⟩ := l3.form
  have O0_3 : Hid (IntsOwn w (Q 3) (.slice A3 u.insync.length c3) u.insync) := by rw [← g3]; exact l3
  obtain ⟨A4, c4, g4⟩ := l4.form
  have O0_4 : Hid (IntsOwn w (Q 4) (.slice A4 u.known.length c4) u.known) := by rw [← g4]; exact l4
  have ER : arrPrt f = #[.slice A0 u.reps.length c0, .int .i64 u.leader, .int .i64 u.epoch, .slice A3 u.insync.length c3, .slice A4 u.known.length c4, .int .i64 u.least] := by unfold arrPrt; rw [g0, s1, s2, g3, g4, s5]
  have K1 := Seg.hid s1
  have K2 := Seg.hid s2
  have K5 := Seg.hid s5
  have G0 := Seg.hid g0
  have G3 := Seg.hid g3
  have G4 := Seg.hid g4
  have QP := Seg.hid q1
  have QD := Seg.hid q2
  have QL : Hid (∀ i y, Q i y → y < w.heap.size) := fun i y hy => hS y (QP.out i y hy)
  rw [ER]
  have ER' := Seg.hid ER
  clear ER q1 q2 s1 s2 s5 l0 g0 l3 g3 l4 g4
  have HB : Hid (k + nPrt u ≤ 4000000000000000000) := hk1
  unfold nPrt at hk1
  have hk2 : k ≤ 4000000000000000000 := by omega
  have HK := Seg.hid hk1
  clear hk1
  go_enter Try.func18, Try.ntmps18
  go_wp2_with fail
  refine (markReplicaS_own _ k (by omega) (Q 0) u.reps (w.alloc _) (by omega) (by have := HK.out; omega) (O0_0.out.belowO keepsORpl (below1 w _) (QL.out 0))).mono ?_
  rintro e w1 ⟨rfl, o1, t1⟩
  have O1_0 : Hid (RplsOwn w1 (Q 0) (.slice A0 u.reps.length c0) (mL mRpl nRpl (k) u.reps)) := o1
  have O1_3 : Hid (IntsOwn w1 (Q 3) (.slice A3 u.insync.length c3) (u.insync)) := LOwn.footO keepsOI (O0_3.out.belowO keepsOI (below1 w _) (QL.out 3)) t1 (fun y hy => by rw [hsz]; have := QL.out 3 y hy; omega) (QD.out 3 0 (by omega))
  have O1_4 : Hid (IntsOwn w1 (Q 4) (.slice A4 u.known.length c4) (u.known)) := LOwn.footO keepsOI (O0_4.out.belowO keepsOI (below1 w _) (QL.out 4)) t1 (fun y hy => by rw [hsz]; have := QL.out 4 y hy; omega) (QD.out 4 0 (by omega))
  have F1 := Seg.hid ((Foot.of_below (below1 w _) S).trans t1 (QP.out 0))
  have T1 : Hid (w1.heap[w.heap.size]? = some (.cells #[.slice A0 u.reps.length c0, .int .i64 u.leader, .int .i64 u.epoch, .slice A3 u.insync.length c3, .slice A4 u.known.length c4, .int .i64 u.least] 44 (0, 0))) := (t1.block w.heap.size (by rw [hsz]; omega) (fun h => by have := QL.out 0 _ h; omega)).trans (heap_alloc_new _ _)
  have p1 : w1.cell? ⟨w.heap.size, 3, none⟩ = some (.slice A3 u.insync.length c3) := cell_of_row w1 _ 3 _ _ (0, 0) T1.out
  clear o1 t1
  obtain ⟨y1, hy1⟩ : ∃ y1, k + tot nRpl u.reps = y1 := ⟨_, rfl⟩
  rw [hy1]
  have Hy1 := Seg.hid hy1
  have hp_y1 : 0 < y1 := by omega
  have hd_y1 : y1 ≤ 4000000000000000000 := by have z0 := Hy1.out; have := HK.out; omega
  clear hy1
  go_wp2_with fail
  refine (markIntS_own _ y1 (by omega) (Q 3) u.insync w1 (by omega) (by have z0 := Hy1.out; have := HK.out; omega) O1_3.out).mono ?_
  rintro e w2 ⟨rfl, o2, t2⟩
  have O2_0 : Hid (RplsOwn w2 (Q 0) (.slice A0 u.reps.length c0) (mL mRpl nRpl (k) u.reps)) := LOwn.footO keepsORpl O1_0.out t2 (fun y hy => Nat.lt_of_lt_of_le (QL.out 0 y hy) F1.out.size) (QD.out 0 3 (by omega))
  have O2_3 : Hid (IntsOwn w2 (Q 3) (.slice A3 u.insync.length c3) (mL mI nI (y1) u.insync)) := o2
  have O2_4 : Hid (IntsOwn w2 (Q 4) (.slice A4 u.known.length c4) (u.known)) := LOwn.footO keepsOI O1_4.out t2 (fun y hy => Nat.lt_of_lt_of_le (QL.out 4 y hy) F1.out.size) (QD.out 4 3 (by omega))
  have F2 := Seg.hid (F1.out.trans t2 (QP.out 3))
  have T2 : Hid (w2.heap[w.heap.size]? = some (.cells #[.slice A0 u.reps.length c0, .int .i64 u.leader, .int .i64 u.epoch, .slice A3 u.insync.length c3, .slice A4 u.known.length c4, .int .i64 u.least] 44 (0, 0))) := (t2.block w.heap.size (Array.getElem?_eq_some_iff.1 T1.out).1 (fun h => by have := QL.out 3 _ h; omega)).trans T1.out
  have p2 : w2.cell? ⟨w.heap.size, 4, none⟩ = some (.slice A4 u.known.length c4) := cell_of_row w2 _ 4 _ _ (0, 0) T2.out
  clear o2 t2
  obtain ⟨y2, hy2⟩ : ∃ y2, y1 + tot nI u.insync = y2 := ⟨_, rfl⟩
  rw [hy2]
  have Hy2 := Seg.hid hy2
  have hp_y2 : 0 < y2 := by omega
  have hd_y2 : y2 ≤ 4000000000000000000 := by have z0 := Hy1.out; have z1 := Hy2.out; have := HK.out; omega
  clear hy2
  go_wp2_with fail
  refine (markIntS_own _ y2 (by omega) (Q 4) u.known w2 (by omega) (by have z0 := Hy1.out; have z1 := Hy2.out; have := HK.out; omega) O2_4.out).mono ?_
  rintro e w3 ⟨rfl, o3, t3⟩
  have O3_0 : Hid (RplsOwn w3 (Q 0) (.slice A0 u.reps.length c0) (mL mRpl nRpl (k) u.reps)) := LOwn.footO keepsORpl O2_0.out t3 (fun y hy => Nat.lt_of_lt_of_le (QL.out 0 y hy) F2.out.size) (QD.out 0 4 (by omega))
  have O3_3 : Hid (IntsOwn w3 (Q 3) (.slice A3 u.insync.length c3) (mL mI nI (y1) u.insync)) := LOwn.footO keepsOI O2_3.out t3 (fun y hy => Nat.lt_of_lt_of_le (QL.out 3 y hy) F2.out.size) (QD.out 3 4 (by omega))
  have O3_4 : Hid (IntsOwn w3 (Q 4) (.slice A4 u.known.length c4) (mL mI nI (y2) u.known)) := o3
  have F3 := Seg.hid (F2.out.trans t3 (QP.out 4))
  clear o3 t3
  obtain ⟨y3, hy3⟩ : ∃ y3, y2 + tot nI u.known = y3 := ⟨_, rfl⟩
  rw [hy3]
  have Hy3 := Seg.hid hy3
  have hp_y3 : 0 < y3 := by omega
  have hd_y3 : y3 ≤ 4000000000000000000 := by have z0 := Hy1.out; have z1 := Hy2.out; have z2 := Hy3.out; have := HK.out; omega
  clear hy3
  go_wp2
  go_ret
  exact ⟨Seg.ret_int (by have z0 := Hy1.out; have z1 := Hy2.out; have z2 := Hy3.out; unfold nPrt; omega), ⟨f, by rw [ER'.out], ⟨K1.out, K2.out, K5.out⟩, Q, QP.out, QD.out, (by have ho := O3_0.out; rw [← G0.out] at ho; exact ho), (by have ho := O3_3.out; rw [← G3.out] at ho; rw [show y1 = k + tot nRpl u.reps by have z0 := Hy1.out; have z1 := Hy2.out; have z2 := Hy3.out; omega] at ho; exact ho), (by have ho := O3_4.out; rw [← G4.out] at ho; rw [show y2 = k + tot nRpl u.reps + tot nI u.insync by have z0 := Hy1.out; have z1 := Hy2.out; have z2 := Hy3.out; omega] at ho; exact ho)⟩, F3.out⟩
end Go.Proofs.Yticihnoekffelaa.Ow
