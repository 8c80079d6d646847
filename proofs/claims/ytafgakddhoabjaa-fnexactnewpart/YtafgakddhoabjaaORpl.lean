/- Lists of Replica of the call's own; the law's marks on them. -/
import Derived.Test.YtafgakddhoabjaaOSg
import Derived.Test.YtafgakddhoabjaaTRpls
namespace Go.Proofs.Ytafgakddhoabjaa.Ow
set_option maxRecDepth 8000
open Go.RowKit
open Recs
open Ls
open SegW (Sg)
set_option linter.unusedVariables false
def EORpl : Elt Rpl := fun w S f u => (f 0 = .int .i64 u.start ∧ f 1 = .int .i64 u.next ∧ f 2 = .int .i64 u.roll ∧ f 4 = .int .i64 u.mark ∧ f 5 = .bool u.up) ∧ ∃ Q : Nat → Nat → Prop, (∀ i y, Q i y → S y) ∧ (∀ i j, i ≠ j → ∀ y, Q i y → ¬ Q j y) ∧ SgsOwn w (Q 3) (f 3) u.segs
theorem keepsORpl : KeepsO 6 EORpl := fun w w' S f f' t h hs hk hf => by
  obtain ⟨⟨s0, s1, s2, s4, s5⟩, Q, q1, q2, l3⟩ := h
  exact ⟨⟨by rw [hf 0 (by omega)]; exact s0, by rw [hf 1 (by omega)]; exact s1, by rw [hf 2 (by omega)]; exact s2, by rw [hf 4 (by omega)]; exact s4, by rw [hf 5 (by omega)]; exact s5⟩, Q, q1, q2, by rw [hf 3 (by omega)]; exact l3.keep keepsOSg hs (fun g hg => hk g (q1 _ g hg))⟩
theorem atORpl (w : World) (S : Nat → Prop) (f : Nat → Value) (u : Rpl) (h : EORpl w S f u) : ERpl w S f u := by
  obtain ⟨⟨s0, s1, s2, s4, s5⟩, Q, q1, q2, l3⟩ := h
  exact ⟨s0, s1, s2, (LOwn.lat growsSg atOSg l3).mono growsSg (q1 3), s4, s5⟩
abbrev RplsOwn := LOwn 35 6 EORpl
def mRpl (k : Nat) (u : Rpl) : Rpl := ⟨(((k + 0) : Nat) : Int), (((k + 1) : Nat) : Int), (((k + 2) : Nat) : Int), mL mSg nSg (k + 3) u.segs, (((k + 3 + tot nSg u.segs) : Nat) : Int), ((((k + 4 + tot nSg u.segs) : Nat) : Int) % 3 == 0)⟩
def nRpl (u : Rpl) : Nat := 5 + tot nSg u.segs
theorem markReplicaS_none (A : Option Addr) (c : Nat) (k : Int) (w : World) : Calls Try.prog 16 #[.slice A 0 c, .int .i64 k] w fun e w' => e = .returned (.int .i64 k) ∧ w = w' := by
  go_enter Try.func16, Try.ntmps16
  go_wp2
  go_loop [1, 5] (fun x i => i = .int .i64 0 ∧ x = .int .i64 k) (fun _ _ => 0)
  case atStart => exact ⟨rfl, rfl⟩
  case round =>
    obtain ⟨rfl, rfl⟩ := hrel
    go_wp2
    go_ret
    exact ⟨rfl, rfl⟩
set_option maxHeartbeats 3200000 in
theorem markReplicaS_core (g n c k : Nat) (S : Nat → Prop) (P : Nat → Nat → Prop) (F0 : Nat → Value) (us : List Rpl) (w : World) (hn : n ≤ 1048576) (hk : 0 < k) (hk1 : k + tot nRpl us ≤ 4000000000000000000) (hSg : S g) (hSP : ∀ i, i < n → ∀ y, P i y → S y) (ho : LOpen 35 6 EORpl w g n c F0 P us) :
    Calls Try.prog 16 #[.slice (some ⟨g, 0, none⟩) n c, .int .i64 k] w fun e w' => ∃ F, e = .returned (.int .i64 ((k + tot nRpl us : Nat) : Int)) ∧ LOpen 35 6 EORpl w' g n c F P (mL mRpl nRpl k us) ∧ Foot w w' S := by
  have hc := ho.mine.le
  have hlen := Seg.hid ho.len
  have HM : Hid (LOpen 35 6 EORpl w g n c F0 P (mid mRpl nRpl k 0 us) ∧ Foot w w S) := ⟨by rw [mid_zero]; exact ho, Foot.refl _ _⟩
  have HSG := Seg.hid hSg; have HSP := Seg.hid hSP
  have KL : Hid (∀ j, j < n → k + tot nRpl (us.take j) + nRpl (us.getD j default) ≤ 4000000000000000000) := fun j hj => by
    have a1 := tot_take nRpl (ts := us) (j := j) (by rw [hlen.out]; exact hj)
    have a2 := tot_le nRpl us (j + 1)
    omega
  have KE : Hid (k + tot nRpl (us.take n) = k + tot nRpl us) := by show _ = _; rw [← hlen.out, List.take_length]
  clear ho hSg hSP hk1
  go_enter Try.func16, Try.ntmps16
  go_wp2
  go_loopw [1, 5] (fun x i wr => ∃ (j : Nat) (F : Nat → Value), j ≤ n ∧ i = .int .i64 j ∧ x = .int .i64 ((k + tot nRpl (us.take j) : Nat) : Int) ∧ Hid (LOpen 35 6 EORpl wr g n c F P (mid mRpl nRpl k j us) ∧ Foot w wr S)) (fun _ i _ => n - (intOf i).toNat)
  case atStart => exact ⟨0, F0, Nat.zero_le _, rfl, rfl, HM.out⟩
  case round =>
    clear HM
    obtain ⟨j, F, hj, rfl, rfl, HR⟩ := hrel
    by_cases hlt : j < n
    · have h0 : (0 : Int) ≤ (j : Int) := by omega
      have h1 : (j : Int) < (n : Int) := by omega
      have EL := HR.out.1.el j hlt
      rw [mid_get mRpl nRpl (by rw [hlen.out]; exact hlt)] at EL
      have MS := mid_step mRpl nRpl (k := k) (ts := us) (j := j) (by rw [hlen.out]; exact hlt)
      have TK := Seg.hid (tot_take nRpl (ts := us) (j := j) (by rw [hlen.out]; exact hlt))
      have hxb := KL.out j hlt
      have HAP := Seg.hid (HR.out.1.apart j hlt)
      obtain ⟨x, hx⟩ : ∃ x, k + tot nRpl (us.take j) = x := ⟨_, rfl⟩
      have HX := Seg.hid hx
      rw [hx] at hxb MS ⊢
      have hx0 : 0 < x := by omega
      clear hx
      have MS' := Seg.hid MS
      clear MS
      generalize us.getD j default = u at *
      have HXB := Seg.hid hxb
      clear hxb
      obtain ⟨⟨s0, s1, s2, s4, s5⟩, Q, q1, q2, l3⟩ := EL
      obtain ⟨A3, c3, g3⟩ := l3.form
      have O0_3 : Hid (SgsOwn wr (Q 3) (.slice A3 u.segs.length c3) u.segs) := by
        have := l3
        rw [g3] at this
        exact this
      have QP := Seg.hid q1
      have QD := Seg.hid q2
      have R0 : Hid (Rnd 35 6 g n c (P j) w wr wr S F j [.int .i64 u.start, .int .i64 u.next, .int .i64 u.roll, .slice A3 u.segs.length c3, .int .i64 u.mark, .bool u.up]) := Rnd.start HR.out.1.mine HR.out.2 rfl (fun q hq => by
        match q, hq with
        | 0, _ => exact s0
        | 1, _ => exact s1
        | 2, _ => exact s2
        | 3, _ => exact g3
        | 4, _ => exact s4
        | 5, _ => exact s5)
      clear s0 s1 s2 s4 s5 l3 g3 q1 q2
      have QG : Hid (∀ i y, Q i y → y ≠ g) := fun i y hy => (HAP.out y (QP.out i y hy)).1
      have QL : Hid (∀ i y, Q i y → y < wr.heap.size) := fun i y hy => (HAP.out y (QP.out i y hy)).2
      have HB_x : Hid (x + 5 + tot nSg u.segs ≤ 4000000000000000000) := by show _ ≤ _; have := HXB.out; simp only [nRpl] at this; omega
      have hc_x : x + 4 ≤ 4000000000000000000 + 4 := by have := HB_x.out; omega
      have hd_x : x + 3 ≤ 4000000000000000000 := by have := HB_x.out; omega
      have d0 : (wr).cell? ⟨g, j * 6, none⟩ = some (.int .i64 u.start) := R0.out.cell hlt 0 (by omega)
      have f0 : (wr).frozen? ⟨g, j * 6, none⟩ = false := R0.out.frozen _
      have R1 : Hid (Rnd 35 6 g n c (P j) w wr (wr.setCell ⟨g, j * 6, none⟩ (.int .i64 ((x : Int)))) S F j [.int .i64 ((x : Int)), .int .i64 u.next, .int .i64 u.roll, .slice A3 u.segs.length c3, .int .i64 u.mark, .bool u.up]) := R0.out.set HSG.out 0 (by omega) (.int .i64 ((x : Int)))
      have O1_3 : Hid (SgsOwn (wr.setCell ⟨g, j * 6, none⟩ (.int .i64 ((x : Int)))) (Q 3) (.slice A3 u.segs.length c3) (u.segs)) := O0_3.out.set keepsOSg _ (QG.out 3) _
      have d1 : ((wr.setCell ⟨g, j * 6, none⟩ (.int .i64 ((x : Int))))).cell? ⟨g, j * 6 + 1, none⟩ = some (.int .i64 u.next) := R1.out.cell hlt 1 (by omega)
      have f1 : ((wr.setCell ⟨g, j * 6, none⟩ (.int .i64 ((x : Int))))).frozen? ⟨g, j * 6 + 1, none⟩ = false := R1.out.frozen _
      have R2 : Hid (Rnd 35 6 g n c (P j) w wr ((wr.setCell ⟨g, j * 6, none⟩ (.int .i64 ((x : Int)))).setCell ⟨g, j * 6 + 1, none⟩ (.int .i64 ((x : Int) + 1))) S F j [.int .i64 ((x : Int)), .int .i64 ((x : Int) + 1), .int .i64 u.roll, .slice A3 u.segs.length c3, .int .i64 u.mark, .bool u.up]) := R1.out.set HSG.out 1 (by omega) (.int .i64 ((x : Int) + 1))
      have O2_3 : Hid (SgsOwn ((wr.setCell ⟨g, j * 6, none⟩ (.int .i64 ((x : Int)))).setCell ⟨g, j * 6 + 1, none⟩ (.int .i64 ((x : Int) + 1))) (Q 3) (.slice A3 u.segs.length c3) (u.segs)) := O1_3.out.set keepsOSg _ (QG.out 3) _
      have d2 : (((wr.setCell ⟨g, j * 6, none⟩ (.int .i64 ((x : Int)))).setCell ⟨g, j * 6 + 1, none⟩ (.int .i64 ((x : Int) + 1)))).cell? ⟨g, j * 6 + 2, none⟩ = some (.int .i64 u.roll) := R2.out.cell hlt 2 (by omega)
      have f2 : (((wr.setCell ⟨g, j * 6, none⟩ (.int .i64 ((x : Int)))).setCell ⟨g, j * 6 + 1, none⟩ (.int .i64 ((x : Int) + 1)))).frozen? ⟨g, j * 6 + 2, none⟩ = false := R2.out.frozen _
      have R3 : Hid (Rnd 35 6 g n c (P j) w wr (((wr.setCell ⟨g, j * 6, none⟩ (.int .i64 ((x : Int)))).setCell ⟨g, j * 6 + 1, none⟩ (.int .i64 ((x : Int) + 1))).setCell ⟨g, j * 6 + 2, none⟩ (.int .i64 ((x : Int) + 1 + 1))) S F j [.int .i64 ((x : Int)), .int .i64 ((x : Int) + 1), .int .i64 ((x : Int) + 1 + 1), .slice A3 u.segs.length c3, .int .i64 u.mark, .bool u.up]) := R2.out.set HSG.out 2 (by omega) (.int .i64 ((x : Int) + 1 + 1))
      have O3_3 : Hid (SgsOwn (((wr.setCell ⟨g, j * 6, none⟩ (.int .i64 ((x : Int)))).setCell ⟨g, j * 6 + 1, none⟩ (.int .i64 ((x : Int) + 1))).setCell ⟨g, j * 6 + 2, none⟩ (.int .i64 ((x : Int) + 1 + 1))) (Q 3) (.slice A3 u.segs.length c3) (u.segs)) := O2_3.out.set keepsOSg _ (QG.out 3) _
      have d3 : ((((wr.setCell ⟨g, j * 6, none⟩ (.int .i64 ((x : Int)))).setCell ⟨g, j * 6 + 1, none⟩ (.int .i64 ((x : Int) + 1))).setCell ⟨g, j * 6 + 2, none⟩ (.int .i64 ((x : Int) + 1 + 1)))).cell? ⟨g, j * 6 + 3, none⟩ = some (.slice A3 u.segs.length c3) := R3.out.cell hlt 3 (by omega)
      go_wp2_with fail
      clear d0 f0 d1 f1 d2 f2 d3
      refine (markSegmentS_own _ (x + 3) (by omega) (Q 3) u.segs (((wr.setCell ⟨g, j * 6, none⟩ (.int .i64 ((x : Int)))).setCell ⟨g, j * 6 + 1, none⟩ (.int .i64 ((x : Int) + 1))).setCell ⟨g, j * 6 + 2, none⟩ (.int .i64 ((x : Int) + 1 + 1))) (by omega) (by have := HB_x.out; omega) O3_3.out).mono ?_
      rintro e w1 ⟨rfl, o1, t1⟩
      have R4 : Hid (Rnd 35 6 g n c (P j) w wr w1 S F j [.int .i64 ((x : Int)), .int .i64 ((x : Int) + 1), .int .i64 ((x : Int) + 1 + 1), .slice A3 u.segs.length c3, .int .i64 u.mark, .bool u.up]) := R3.out.foot t1 (QP.out 3) (fun h => (HAP.out g h).1 rfl) (HSP.out j hlt)
      have O4_3 : Hid (SgsOwn w1 (Q 3) (.slice A3 u.segs.length c3) (mL mSg nSg (x + 3) u.segs)) := o1
      clear o1 t1
      obtain ⟨y1, hy1⟩ : ∃ y1, x + 3 + tot nSg u.segs = y1 := ⟨_, rfl⟩
      rw [hy1]
      have Hy1 := Seg.hid hy1
      have HB_y1 : Hid (y1 + 2 ≤ 4000000000000000000) := by show _ ≤ _; have := HB_x.out; omega
      have hd_y1 : y1 + 2 ≤ 4000000000000000000 := by have := HB_y1.out; omega
      have hp_y1 : 0 < y1 := by omega
      clear hy1
      have d4 : (w1).cell? ⟨g, j * 6 + 4, none⟩ = some (.int .i64 u.mark) := R4.out.cell hlt 4 (by omega)
      have f4 : (w1).frozen? ⟨g, j * 6 + 4, none⟩ = false := R4.out.frozen _
      have R5 : Hid (Rnd 35 6 g n c (P j) w wr (w1.setCell ⟨g, j * 6 + 4, none⟩ (.int .i64 ((y1 : Int)))) S F j [.int .i64 ((x : Int)), .int .i64 ((x : Int) + 1), .int .i64 ((x : Int) + 1 + 1), .slice A3 u.segs.length c3, .int .i64 ((y1 : Int)), .bool u.up]) := R4.out.set HSG.out 4 (by omega) (.int .i64 ((y1 : Int)))
      have O5_3 : Hid (SgsOwn (w1.setCell ⟨g, j * 6 + 4, none⟩ (.int .i64 ((y1 : Int)))) (Q 3) (.slice A3 u.segs.length c3) (mL mSg nSg (x + 3) u.segs)) := O4_3.out.set keepsOSg _ (QG.out 3) _
      have d5 : ((w1.setCell ⟨g, j * 6 + 4, none⟩ (.int .i64 ((y1 : Int))))).cell? ⟨g, j * 6 + 5, none⟩ = some (.bool u.up) := R5.out.cell hlt 5 (by omega)
      have f5 : ((w1.setCell ⟨g, j * 6 + 4, none⟩ (.int .i64 ((y1 : Int))))).frozen? ⟨g, j * 6 + 5, none⟩ = false := R5.out.frozen _
      have R6 : Hid (Rnd 35 6 g n c (P j) w wr ((w1.setCell ⟨g, j * 6 + 4, none⟩ (.int .i64 ((y1 : Int)))).setCell ⟨g, j * 6 + 5, none⟩ (.bool (((y1 : Int) + 1) % 3 == 0))) S F j [.int .i64 ((x : Int)), .int .i64 ((x : Int) + 1), .int .i64 ((x : Int) + 1 + 1), .slice A3 u.segs.length c3, .int .i64 ((y1 : Int)), .bool (((y1 : Int) + 1) % 3 == 0)]) := R5.out.set HSG.out 5 (by omega) (.bool (((y1 : Int) + 1) % 3 == 0))
      have O6_3 : Hid (SgsOwn ((w1.setCell ⟨g, j * 6 + 4, none⟩ (.int .i64 ((y1 : Int)))).setCell ⟨g, j * 6 + 5, none⟩ (.bool (((y1 : Int) + 1) % 3 == 0))) (Q 3) (.slice A3 u.segs.length c3) (mL mSg nSg (x + 3) u.segs)) := O5_3.out.set keepsOSg _ (QG.out 3) _
      have EE : Hid (EORpl ((w1.setCell ⟨g, j * 6 + 4, none⟩ (.int .i64 ((y1 : Int)))).setCell ⟨g, j * 6 + 5, none⟩ (.bool (((y1 : Int) + 1) % 3 == 0))) (P j) (fun q => [.int .i64 ((x : Int)), .int .i64 ((x : Int) + 1), .int .i64 ((x : Int) + 1 + 1), .slice A3 u.segs.length c3, .int .i64 ((y1 : Int)), .bool (((y1 : Int) + 1) % 3 == 0)].getD q default) (mRpl x u)) := by
        refine ⟨⟨?_, ?_, ?_, ?_, ?_⟩, Q, QP.out, QD.out, ?_⟩
        · exact congrArg (Value.int .i64) (show (x : Int) = (((x + 0) : Nat) : Int) by have z0 := Hy1.out; omega)
        · exact congrArg (Value.int .i64) (show (x : Int) + 1 = (((x + 1) : Nat) : Int) by have z0 := Hy1.out; omega)
        · exact congrArg (Value.int .i64) (show (x : Int) + 1 + 1 = (((x + 2) : Nat) : Int) by have z0 := Hy1.out; omega)
        · exact congrArg (Value.int .i64) (show (y1 : Int) = (((x + 3 + tot nSg u.segs) : Nat) : Int) by have z0 := Hy1.out; omega)
        · exact congrArg (fun z : Int => Value.bool (z % 3 == 0)) (show (y1 : Int) + 1 = (((x + 4 + tot nSg u.segs) : Nat) : Int) by have z0 := Hy1.out; omega)
        · have hz : x + 3 = (x + 3) := by (have z0 := Hy1.out; omega)
          have ho := O6_3.out
          rw [hz] at ho
          exact ho
      obtain ⟨F', L', F2⟩ := Rnd.done keepsORpl (t := mRpl x u) HR.out.1 hlt R6.out EE.out
      rw [MS'.out] at L'
      have L2 := Seg.hid L'
      have F3 := Seg.hid F2
      clear L' F2
      have HKK : Hid ((y1 : Int) + 1 + 1 = ((k + tot nRpl (us.take (j + 1)) : Nat) : Int)) := by
        show _ = _
        have z0 := Hy1.out; have a1 := TK.out; have a2 := HX.out; simp only [nRpl] at a1; omega
      go_wp2
      clear d4 f4 d5 f5
      go_roundw
      case rel => exact ⟨j + 1, F', by omega, by go_num, congrArg (Value.int .i64) HKK.out, L2.out, F3.out⟩
      case measure => simp [intOf]; omega
    · have : j = n := by omega
      subst this
      have E := HR.out
      rw [show mid mRpl nRpl k j us = mL mRpl nRpl k us by rw [← hlen.out]; exact mid_all _ _ _ _] at E
      have EH' := Seg.hid E
      clear E
      rw [KE.out]
      go_wp2
      go_ret
      exact ⟨F, rfl, EH'.out⟩
theorem markReplicaS_own (x : Int) (k : Nat) (hx : x = (k : Int)) (S : Nat → Prop) (us : List Rpl) (w : World) {v : Value} (hk : 0 < k) (hk1 : k + tot nRpl us ≤ 4000000000000000000) (hv : RplsOwn w S v us) :
    Calls Try.prog 16 #[v, .int .i64 x] w fun e w' => e = .returned (.int .i64 ((k + tot nRpl us : Nat) : Int)) ∧ RplsOwn w' S v (mL mRpl nRpl k us) ∧ Foot w w' S := by
  subst hx
  obtain ⟨h0, A, c, rfl, h⟩ := hv
  by_cases hz : us.length = 0
  · obtain rfl := List.length_eq_zero_iff.1 hz
    exact (markReplicaS_none A c k w).mono fun e w' ⟨h1, h2⟩ => by
      subst h2
      exact ⟨by rw [h1]; rfl, LOwn.nil _ _ _ _, Foot.refl _ _⟩
  obtain ⟨g, F, P, rfl, h3, h4, h5⟩ := h.resolve_left hz
  refine (markReplicaS_core g us.length c k S P F us w h0 hk hk1 h3 h4 h5).mono fun e w' ⟨F', a1, a2, a3⟩ => ⟨a1, ⟨by rw [mL_len]; exact h0, _, c, by rw [mL_len], .inr ⟨g, F', P, rfl, h3, fun i hi => h4 i (by rw [mL_len] at hi; exact hi), ?_⟩⟩, a3⟩
  rw [mL_len]
  exact a2
end Go.Proofs.Ytafgakddhoabjaa.Ow
