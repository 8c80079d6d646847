/- Lists of Voter of the call's own; the law's marks on them, and its look at these. -/
import Derived.Test.YtdkfhjcockkleaaOCmd
import Derived.Test.YtdkfhjcockkleaaMkN
import Derived.Test.YtdkfhjcockkleaaTVtrs
namespace Go.Proofs.Ytdkfhjcockkleaa.Ow
set_option maxRecDepth 8000
open Go.RowKit
open Recs
open Ls
set_option linter.unusedVariables false
def EOVtr : Elt Vtr := fun w S f u => (f 0 = .int .i64 u.term ∧ f 1 = .int .i64 u.vote ∧ f 2 = .int .i64 u.role ∧ f 7 = .int .i64 u.sealed) ∧ ∃ Q : Nat → Nat → Prop, (∀ i y, Q i y → S y) ∧ (∀ i j, i ≠ j → ∀ y, Q i y → ¬ Q j y) ∧ IntsOwn w (Q 3) (f 3) u.votes ∧ CmdsOwn w (Q 4) (f 4) u.log ∧ IntsOwn w (Q 5) (f 5) u.next ∧ IntsOwn w (Q 6) (f 6) u.mtch
theorem keepsOVtr : KeepsO 8 EOVtr := fun w w' S f f' t h hs hk hf => by
  obtain ⟨⟨s0, s1, s2, s7⟩, Q, q1, q2, l3, l4, l5, l6⟩ := h
  exact ⟨⟨by rw [hf 0 (by omega)]; exact s0, by rw [hf 1 (by omega)]; exact s1, by rw [hf 2 (by omega)]; exact s2, by rw [hf 7 (by omega)]; exact s7⟩, Q, q1, q2, by rw [hf 3 (by omega)]; exact l3.keep keepsOI hs (fun g hg => hk g (q1 _ g hg)), by rw [hf 4 (by omega)]; exact l4.keep keepsOCmd hs (fun g hg => hk g (q1 _ g hg)), by rw [hf 5 (by omega)]; exact l5.keep keepsOI hs (fun g hg => hk g (q1 _ g hg)), by rw [hf 6 (by omega)]; exact l6.keep keepsOI hs (fun g hg => hk g (q1 _ g hg))⟩
theorem atOVtr (w : World) (S : Nat → Prop) (f : Nat → Value) (u : Vtr) (h : EOVtr w S f u) : EVtr w S f u := by
  obtain ⟨⟨s0, s1, s2, s7⟩, Q, q1, q2, l3, l4, l5, l6⟩ := h
  exact ⟨s0, s1, s2, (LOwn.lat growsI (fun _ _ _ _ h => h) l3).mono growsI (q1 3), (LOwn.lat growsCmd atOCmd l4).mono growsCmd (q1 4), (LOwn.lat growsI (fun _ _ _ _ h => h) l5).mono growsI (q1 5), (LOwn.lat growsI (fun _ _ _ _ h => h) l6).mono growsI (q1 6), s7⟩
abbrev VtrsOwn := LOwn 45 8 EOVtr
def mVtr (k : Nat) (u : Vtr) : Vtr := ⟨(((k + 0) : Nat) : Int), (((k + 1) : Nat) : Int), (((k + 2) : Nat) : Int), mL mI nI (k + 3) u.votes, mL mCmd nCmd (k + 3 + tot nI u.votes) u.log, mL mI nI (k + 3 + tot nI u.votes + tot nCmd u.log) u.next, mL mI nI (k + 3 + tot nI u.votes + tot nCmd u.log + tot nI u.next) u.mtch, (((k + 3 + tot nI u.votes + tot nCmd u.log + tot nI u.next + tot nI u.mtch) : Nat) : Int)⟩
def nVtr (u : Vtr) : Nat := 4 + tot nI u.votes + tot nCmd u.log + tot nI u.next + tot nI u.mtch
theorem markVoterS_none (A : Option Addr) (c : Nat) (k : Int) (w : World) : Calls Try.prog 30 #[.slice A 0 c, .int .i64 k] w fun e w' => e = .returned (.int .i64 k) ∧ w = w' := by
  go_enter Try.func30, Try.ntmps30
  go_wp2
  go_loop [1, 5] (fun x i => i = .int .i64 0 ∧ x = .int .i64 k) (fun _ _ => 0)
  case atStart => exact ⟨rfl, rfl⟩
  case round =>
    obtain ⟨rfl, rfl⟩ := hrel
    go_wp2
    go_ret
    exact ⟨rfl, rfl⟩
set_option maxHeartbeats 3200000 in
theorem markVoterS_core (g n c k : Nat) (S : Nat → Prop) (P : Nat → Nat → Prop) (F0 : Nat → Value) (us : List Vtr) (w : World) (hn : n ≤ 1048576) (hk : 0 < k) (hk1 : k + tot nVtr us ≤ 4000000000000000000) (hSg : S g) (hSP : ∀ i, i < n → ∀ y, P i y → S y) (ho : LOpen 45 8 EOVtr w g n c F0 P us) :
    Calls Try.prog 30 #[.slice (some ⟨g, 0, none⟩) n c, .int .i64 k] w fun e w' => ∃ F, e = .returned (.int .i64 ((k + tot nVtr us : Nat) : Int)) ∧ LOpen 45 8 EOVtr w' g n c F P (mL mVtr nVtr k us) ∧ Foot w w' S := by
  have hc := ho.mine.le
  have hlen := Seg.hid ho.len
  have HM : Hid (LOpen 45 8 EOVtr w g n c F0 P (mid mVtr nVtr k 0 us) ∧ Foot w w S) := ⟨by rw [mid_zero]; exact ho, Foot.refl _ _⟩
  have HSG := Seg.hid hSg; have HSP := Seg.hid hSP
  have KL : Hid (∀ j, j < n → k + tot nVtr (us.take j) + nVtr (us.getD j default) ≤ 4000000000000000000) := fun j hj => by
    have a1 := tot_take nVtr (ts := us) (j := j) (by rw [hlen.out]; exact hj)
    have a2 := tot_le nVtr us (j + 1)
    omega
  have KE : Hid (k + tot nVtr (us.take n) = k + tot nVtr us) := by show _ = _; rw [← hlen.out, List.take_length]
  clear ho hSg hSP hk1
  go_enter Try.func30, Try.ntmps30
  go_wp2
  go_loopw [1, 5] (fun x i wr => ∃ (j : Nat) (F : Nat → Value), j ≤ n ∧ i = .int .i64 j ∧ x = .int .i64 ((k + tot nVtr (us.take j) : Nat) : Int) ∧ Hid (LOpen 45 8 EOVtr wr g n c F P (mid mVtr nVtr k j us) ∧ Foot w wr S)) (fun _ i _ => n - (intOf i).toNat)
  case atStart => exact ⟨0, F0, Nat.zero_le _, rfl, rfl, HM.out⟩
  case round =>
    clear HM
    obtain ⟨j, F, hj, rfl, rfl, HR⟩ := hrel
    by_cases hlt : j < n
    · have h0 : (0 : Int) ≤ (j : Int) := by omega
      have h1 : (j : Int) < (n : Int) := by omega
      have EL := HR.out.1.el j hlt
      rw [mid_get mVtr nVtr (by rw [hlen.out]; exact hlt)] at EL
      have MS := mid_step mVtr nVtr (k := k) (ts := us) (j := j) (by rw [hlen.out]; exact hlt)
      have TK := Seg.hid (tot_take nVtr (ts := us) (j := j) (by rw [hlen.out]; exact hlt))
      have hxb := KL.out j hlt
      have HAP := Seg.hid (HR.out.1.apart j hlt)
      obtain ⟨x, hx⟩ : ∃ x, k + tot nVtr (us.take j) = x := ⟨_, rfl⟩
      have HX := Seg.hid hx
      rw [hx] at hxb MS ⊢
      have hx0 : 0 < x := by omega
      clear hx
      have MS' := Seg.hid MS
      clear MS
      generalize us.getD j default = u at *
      have HXB := Seg.hid hxb
      clear hxb
      obtain ⟨⟨s0, s1, s2, s7⟩, Q, q1, q2, l3, l4, l5, l6⟩ := EL
      obtain ⟨A3, c3, g3⟩ := l3.form
      have O0_3 : Hid (IntsOwn wr (Q 3) (.slice A3 u.votes.length c3) u.votes) := by
        have := l3
        rw [g3] at this
        exact this
      obtain ⟨A4, c4, g4⟩ := l4.form
      have O0_4 : Hid (CmdsOwn wr (Q 4) (.slice A4 u.log.length c4) u.log) := by
        have := l4
        rw [g4] at this
        exact this
      obtain ⟨A5, c5, g5⟩ := l5.form
      have O0_5 : Hid (IntsOwn wr (Q 5) (.slice A5 u.next.length c5) u.next) := by
        have := l5
        rw [g5] at this
        exact this
      obtain ⟨A6, c6, g6⟩ := l6.form
      have O0_6 : Hid (IntsOwn wr (Q 6) (.slice A6 u.mtch.length c6) u.mtch) := by
        have := l6
        rw [g6] at this
        exact this
      have QP := Seg.hid q1
      have QD := Seg.hid q2
      have R0 : Hid (Rnd 45 8 g n c (P j) w wr wr S F j [.int .i64 u.term, .int .i64 u.vote, .int .i64 u.role, .slice A3 u.votes.length c3, .slice A4 u.log.length c4, .slice A5 u.next.length c5, .slice A6 u.mtch.length c6, .int .i64 u.sealed]) := Rnd.start HR.out.1.mine HR.out.2 rfl (fun q hq => by
        match q, hq with
        | 0, _ => exact s0
        | 1, _ => exact s1
        | 2, _ => exact s2
        | 3, _ => exact g3
        | 4, _ => exact g4
        | 5, _ => exact g5
        | 6, _ => exact g6
        | 7, _ => exact s7)
      clear s0 s1 s2 s7 l3 g3 l4 g4 l5 g5 l6 g6 q1 q2
      have QG : Hid (∀ i y, Q i y → y ≠ g) := fun i y hy => (HAP.out y (QP.out i y hy)).1
      have QL : Hid (∀ i y, Q i y → y < wr.heap.size) := fun i y hy => (HAP.out y (QP.out i y hy)).2
      have HB_x : Hid (x + 4 + tot nI u.votes + tot nCmd u.log + tot nI u.next + tot nI u.mtch ≤ 4000000000000000000) := by show _ ≤ _; have := HXB.out; simp only [nVtr] at this; omega
      have hc_x : x + 4 ≤ 4000000000000000000 + 4 := by have := HB_x.out; omega
      have hd_x : x + 3 ≤ 4000000000000000000 := by have := HB_x.out; omega
      have d0 : (wr).cell? ⟨g, j * 8, none⟩ = some (.int .i64 u.term) := R0.out.cell hlt 0 (by omega)
      have f0 : (wr).frozen? ⟨g, j * 8, none⟩ = false := R0.out.frozen _
      have R1 : Hid (Rnd 45 8 g n c (P j) w wr (wr.setCell ⟨g, j * 8, none⟩ (.int .i64 ((x : Int)))) S F j [.int .i64 ((x : Int)), .int .i64 u.vote, .int .i64 u.role, .slice A3 u.votes.length c3, .slice A4 u.log.length c4, .slice A5 u.next.length c5, .slice A6 u.mtch.length c6, .int .i64 u.sealed]) := R0.out.set HSG.out 0 (by omega) (.int .i64 ((x : Int)))
      have O1_3 : Hid (IntsOwn (wr.setCell ⟨g, j * 8, none⟩ (.int .i64 ((x : Int)))) (Q 3) (.slice A3 u.votes.length c3) (u.votes)) := O0_3.out.set keepsOI _ (QG.out 3) _
      have O1_4 : Hid (CmdsOwn (wr.setCell ⟨g, j * 8, none⟩ (.int .i64 ((x : Int)))) (Q 4) (.slice A4 u.log.length c4) (u.log)) := O0_4.out.set keepsOCmd _ (QG.out 4) _
      have O1_5 : Hid (IntsOwn (wr.setCell ⟨g, j * 8, none⟩ (.int .i64 ((x : Int)))) (Q 5) (.slice A5 u.next.length c5) (u.next)) := O0_5.out.set keepsOI _ (QG.out 5) _
      have O1_6 : Hid (IntsOwn (wr.setCell ⟨g, j * 8, none⟩ (.int .i64 ((x : Int)))) (Q 6) (.slice A6 u.mtch.length c6) (u.mtch)) := O0_6.out.set keepsOI _ (QG.out 6) _
      have d1 : ((wr.setCell ⟨g, j * 8, none⟩ (.int .i64 ((x : Int))))).cell? ⟨g, j * 8 + 1, none⟩ = some (.int .i64 u.vote) := R1.out.cell hlt 1 (by omega)
      have f1 : ((wr.setCell ⟨g, j * 8, none⟩ (.int .i64 ((x : Int))))).frozen? ⟨g, j * 8 + 1, none⟩ = false := R1.out.frozen _
      have R2 : Hid (Rnd 45 8 g n c (P j) w wr ((wr.setCell ⟨g, j * 8, none⟩ (.int .i64 ((x : Int)))).setCell ⟨g, j * 8 + 1, none⟩ (.int .i64 ((x : Int) + 1))) S F j [.int .i64 ((x : Int)), .int .i64 ((x : Int) + 1), .int .i64 u.role, .slice A3 u.votes.length c3, .slice A4 u.log.length c4, .slice A5 u.next.length c5, .slice A6 u.mtch.length c6, .int .i64 u.sealed]) := R1.out.set HSG.out 1 (by omega) (.int .i64 ((x : Int) + 1))
      have O2_3 : Hid (IntsOwn ((wr.setCell ⟨g, j * 8, none⟩ (.int .i64 ((x : Int)))).setCell ⟨g, j * 8 + 1, none⟩ (.int .i64 ((x : Int) + 1))) (Q 3) (.slice A3 u.votes.length c3) (u.votes)) := O1_3.out.set keepsOI _ (QG.out 3) _
      have O2_4 : Hid (CmdsOwn ((wr.setCell ⟨g, j * 8, none⟩ (.int .i64 ((x : Int)))).setCell ⟨g, j * 8 + 1, none⟩ (.int .i64 ((x : Int) + 1))) (Q 4) (.slice A4 u.log.length c4) (u.log)) := O1_4.out.set keepsOCmd _ (QG.out 4) _
      have O2_5 : Hid (IntsOwn ((wr.setCell ⟨g, j * 8, none⟩ (.int .i64 ((x : Int)))).setCell ⟨g, j * 8 + 1, none⟩ (.int .i64 ((x : Int) + 1))) (Q 5) (.slice A5 u.next.length c5) (u.next)) := O1_5.out.set keepsOI _ (QG.out 5) _
      have O2_6 : Hid (IntsOwn ((wr.setCell ⟨g, j * 8, none⟩ (.int .i64 ((x : Int)))).setCell ⟨g, j * 8 + 1, none⟩ (.int .i64 ((x : Int) + 1))) (Q 6) (.slice A6 u.mtch.length c6) (u.mtch)) := O1_6.out.set keepsOI _ (QG.out 6) _
      have d2 : (((wr.setCell ⟨g, j * 8, none⟩ (.int .i64 ((x : Int)))).setCell ⟨g, j * 8 + 1, none⟩ (.int .i64 ((x : Int) + 1)))).cell? ⟨g, j * 8 + 2, none⟩ = some (.int .i64 u.role) := R2.out.cell hlt 2 (by omega)
      have f2 : (((wr.setCell ⟨g, j * 8, none⟩ (.int .i64 ((x : Int)))).setCell ⟨g, j * 8 + 1, none⟩ (.int .i64 ((x : Int) + 1)))).frozen? ⟨g, j * 8 + 2, none⟩ = false := R2.out.frozen _
      have R3 : Hid (Rnd 45 8 g n c (P j) w wr (((wr.setCell ⟨g, j * 8, none⟩ (.int .i64 ((x : Int)))).setCell ⟨g, j * 8 + 1, none⟩ (.int .i64 ((x : Int) + 1))).setCell ⟨g, j * 8 + 2, none⟩ (.int .i64 ((x : Int) + 1 + 1))) S F j [.int .i64 ((x : Int)), .int .i64 ((x : Int) + 1), .int .i64 ((x : Int) + 1 + 1), .slice A3 u.votes.length c3, .slice A4 u.log.length c4, .slice A5 u.next.length c5, .slice A6 u.mtch.length c6, .int .i64 u.sealed]) := R2.out.set HSG.out 2 (by omega) (.int .i64 ((x : Int) + 1 + 1))
      have O3_3 : Hid (IntsOwn (((wr.setCell ⟨g, j * 8, none⟩ (.int .i64 ((x : Int)))).setCell ⟨g, j * 8 + 1, none⟩ (.int .i64 ((x : Int) + 1))).setCell ⟨g, j * 8 + 2, none⟩ (.int .i64 ((x : Int) + 1 + 1))) (Q 3) (.slice A3 u.votes.length c3) (u.votes)) := O2_3.out.set keepsOI _ (QG.out 3) _
      have O3_4 : Hid (CmdsOwn (((wr.setCell ⟨g, j * 8, none⟩ (.int .i64 ((x : Int)))).setCell ⟨g, j * 8 + 1, none⟩ (.int .i64 ((x : Int) + 1))).setCell ⟨g, j * 8 + 2, none⟩ (.int .i64 ((x : Int) + 1 + 1))) (Q 4) (.slice A4 u.log.length c4) (u.log)) := O2_4.out.set keepsOCmd _ (QG.out 4) _
      have O3_5 : Hid (IntsOwn (((wr.setCell ⟨g, j * 8, none⟩ (.int .i64 ((x : Int)))).setCell ⟨g, j * 8 + 1, none⟩ (.int .i64 ((x : Int) + 1))).setCell ⟨g, j * 8 + 2, none⟩ (.int .i64 ((x : Int) + 1 + 1))) (Q 5) (.slice A5 u.next.length c5) (u.next)) := O2_5.out.set keepsOI _ (QG.out 5) _
      have O3_6 : Hid (IntsOwn (((wr.setCell ⟨g, j * 8, none⟩ (.int .i64 ((x : Int)))).setCell ⟨g, j * 8 + 1, none⟩ (.int .i64 ((x : Int) + 1))).setCell ⟨g, j * 8 + 2, none⟩ (.int .i64 ((x : Int) + 1 + 1))) (Q 6) (.slice A6 u.mtch.length c6) (u.mtch)) := O2_6.out.set keepsOI _ (QG.out 6) _
      have d3 : ((((wr.setCell ⟨g, j * 8, none⟩ (.int .i64 ((x : Int)))).setCell ⟨g, j * 8 + 1, none⟩ (.int .i64 ((x : Int) + 1))).setCell ⟨g, j * 8 + 2, none⟩ (.int .i64 ((x : Int) + 1 + 1)))).cell? ⟨g, j * 8 + 3, none⟩ = some (.slice A3 u.votes.length c3) := R3.out.cell hlt 3 (by omega)
      go_wp2_with fail
      clear d0 f0 d1 f1 d2 f2 d3
      refine (markIntS_own _ (x + 3) (by omega) (Q 3) u.votes (((wr.setCell ⟨g, j * 8, none⟩ (.int .i64 ((x : Int)))).setCell ⟨g, j * 8 + 1, none⟩ (.int .i64 ((x : Int) + 1))).setCell ⟨g, j * 8 + 2, none⟩ (.int .i64 ((x : Int) + 1 + 1))) (by omega) (by have := HB_x.out; omega) O3_3.out).mono ?_
      rintro e w1 ⟨rfl, o1, t1⟩
      have R4 : Hid (Rnd 45 8 g n c (P j) w wr w1 S F j [.int .i64 ((x : Int)), .int .i64 ((x : Int) + 1), .int .i64 ((x : Int) + 1 + 1), .slice A3 u.votes.length c3, .slice A4 u.log.length c4, .slice A5 u.next.length c5, .slice A6 u.mtch.length c6, .int .i64 u.sealed]) := R3.out.foot t1 (QP.out 3) (fun h => (HAP.out g h).1 rfl) (HSP.out j hlt)
      have O4_3 : Hid (IntsOwn w1 (Q 3) (.slice A3 u.votes.length c3) (mL mI nI (x + 3) u.votes)) := o1
      have O4_4 : Hid (CmdsOwn w1 (Q 4) (.slice A4 u.log.length c4) (u.log)) := O3_4.out.footO keepsOCmd t1 (fun y hy => Nat.lt_of_lt_of_le (QL.out 4 y hy) R3.out.le) (QD.out 4 3 (by omega))
      have O4_5 : Hid (IntsOwn w1 (Q 5) (.slice A5 u.next.length c5) (u.next)) := O3_5.out.footO keepsOI t1 (fun y hy => Nat.lt_of_lt_of_le (QL.out 5 y hy) R3.out.le) (QD.out 5 3 (by omega))
      have O4_6 : Hid (IntsOwn w1 (Q 6) (.slice A6 u.mtch.length c6) (u.mtch)) := O3_6.out.footO keepsOI t1 (fun y hy => Nat.lt_of_lt_of_le (QL.out 6 y hy) R3.out.le) (QD.out 6 3 (by omega))
      clear o1 t1
      obtain ⟨y1, hy1⟩ : ∃ y1, x + 3 + tot nI u.votes = y1 := ⟨_, rfl⟩
      rw [hy1]
      have Hy1 := Seg.hid hy1
      have HB_y1 : Hid (y1 + 1 + tot nCmd u.log + tot nI u.next + tot nI u.mtch ≤ 4000000000000000000) := by show _ ≤ _; have := HB_x.out; omega
      have hd_y1 : y1 + 0 ≤ 4000000000000000000 := by have := HB_y1.out; omega
      have hp_y1 : 0 < y1 := by omega
      clear hy1
      have d4 : (w1).cell? ⟨g, j * 8 + 4, none⟩ = some (.slice A4 u.log.length c4) := R4.out.cell hlt 4 (by omega)
      go_wp2_with fail
      clear d4
      refine (markCommandS_own _ (y1 + 0) (by omega) (Q 4) u.log w1 (by omega) (by have := HB_y1.out; omega) O4_4.out).mono ?_
      rintro e w2 ⟨rfl, o2, t2⟩
      have R5 : Hid (Rnd 45 8 g n c (P j) w wr w2 S F j [.int .i64 ((x : Int)), .int .i64 ((x : Int) + 1), .int .i64 ((x : Int) + 1 + 1), .slice A3 u.votes.length c3, .slice A4 u.log.length c4, .slice A5 u.next.length c5, .slice A6 u.mtch.length c6, .int .i64 u.sealed]) := R4.out.foot t2 (QP.out 4) (fun h => (HAP.out g h).1 rfl) (HSP.out j hlt)
      have O5_3 : Hid (IntsOwn w2 (Q 3) (.slice A3 u.votes.length c3) (mL mI nI (x + 3) u.votes)) := O4_3.out.footO keepsOI t2 (fun y hy => Nat.lt_of_lt_of_le (QL.out 3 y hy) R4.out.le) (QD.out 3 4 (by omega))
      have O5_4 : Hid (CmdsOwn w2 (Q 4) (.slice A4 u.log.length c4) (mL mCmd nCmd (y1 + 0) u.log)) := o2
      have O5_5 : Hid (IntsOwn w2 (Q 5) (.slice A5 u.next.length c5) (u.next)) := O4_5.out.footO keepsOI t2 (fun y hy => Nat.lt_of_lt_of_le (QL.out 5 y hy) R4.out.le) (QD.out 5 4 (by omega))
      have O5_6 : Hid (IntsOwn w2 (Q 6) (.slice A6 u.mtch.length c6) (u.mtch)) := O4_6.out.footO keepsOI t2 (fun y hy => Nat.lt_of_lt_of_le (QL.out 6 y hy) R4.out.le) (QD.out 6 4 (by omega))
      clear o2 t2
      obtain ⟨y2, hy2⟩ : ∃ y2, y1 + 0 + tot nCmd u.log = y2 := ⟨_, rfl⟩
      rw [hy2]
      have Hy2 := Seg.hid hy2
      have HB_y2 : Hid (y2 + 1 + tot nI u.next + tot nI u.mtch ≤ 4000000000000000000) := by show _ ≤ _; have := HB_y1.out; omega
      have hd_y2 : y2 + 0 ≤ 4000000000000000000 := by have := HB_y2.out; omega
      have hp_y2 : 0 < y2 := by omega
      clear hy2
      have d5 : (w2).cell? ⟨g, j * 8 + 5, none⟩ = some (.slice A5 u.next.length c5) := R5.out.cell hlt 5 (by omega)
      go_wp2_with fail
      clear d5
      refine (markIntS_own _ (y2 + 0) (by omega) (Q 5) u.next w2 (by omega) (by have := HB_y2.out; omega) O5_5.out).mono ?_
      rintro e w3 ⟨rfl, o3, t3⟩
      have R6 : Hid (Rnd 45 8 g n c (P j) w wr w3 S F j [.int .i64 ((x : Int)), .int .i64 ((x : Int) + 1), .int .i64 ((x : Int) + 1 + 1), .slice A3 u.votes.length c3, .slice A4 u.log.length c4, .slice A5 u.next.length c5, .slice A6 u.mtch.length c6, .int .i64 u.sealed]) := R5.out.foot t3 (QP.out 5) (fun h => (HAP.out g h).1 rfl) (HSP.out j hlt)
      have O6_3 : Hid (IntsOwn w3 (Q 3) (.slice A3 u.votes.length c3) (mL mI nI (x + 3) u.votes)) := O5_3.out.footO keepsOI t3 (fun y hy => Nat.lt_of_lt_of_le (QL.out 3 y hy) R5.out.le) (QD.out 3 5 (by omega))
      have O6_4 : Hid (CmdsOwn w3 (Q 4) (.slice A4 u.log.length c4) (mL mCmd nCmd (y1 + 0) u.log)) := O5_4.out.footO keepsOCmd t3 (fun y hy => Nat.lt_of_lt_of_le (QL.out 4 y hy) R5.out.le) (QD.out 4 5 (by omega))
      have O6_5 : Hid (IntsOwn w3 (Q 5) (.slice A5 u.next.length c5) (mL mI nI (y2 + 0) u.next)) := o3
      have O6_6 : Hid (IntsOwn w3 (Q 6) (.slice A6 u.mtch.length c6) (u.mtch)) := O5_6.out.footO keepsOI t3 (fun y hy => Nat.lt_of_lt_of_le (QL.out 6 y hy) R5.out.le) (QD.out 6 5 (by omega))
      clear o3 t3
      obtain ⟨y3, hy3⟩ : ∃ y3, y2 + 0 + tot nI u.next = y3 := ⟨_, rfl⟩
      rw [hy3]
      have Hy3 := Seg.hid hy3
      have HB_y3 : Hid (y3 + 1 + tot nI u.mtch ≤ 4000000000000000000) := by show _ ≤ _; have := HB_y2.out; omega
      have hd_y3 : y3 + 0 ≤ 4000000000000000000 := by have := HB_y3.out; omega
      have hp_y3 : 0 < y3 := by omega
      clear hy3
      have d6 : (w3).cell? ⟨g, j * 8 + 6, none⟩ = some (.slice A6 u.mtch.length c6) := R6.out.cell hlt 6 (by omega)
      go_wp2_with fail
      clear d6
      refine (markIntS_own _ (y3 + 0) (by omega) (Q 6) u.mtch w3 (by omega) (by have := HB_y3.out; omega) O6_6.out).mono ?_
      rintro e w4 ⟨rfl, o4, t4⟩
      have R7 : Hid (Rnd 45 8 g n c (P j) w wr w4 S F j [.int .i64 ((x : Int)), .int .i64 ((x : Int) + 1), .int .i64 ((x : Int) + 1 + 1), .slice A3 u.votes.length c3, .slice A4 u.log.length c4, .slice A5 u.next.length c5, .slice A6 u.mtch.length c6, .int .i64 u.sealed]) := R6.out.foot t4 (QP.out 6) (fun h => (HAP.out g h).1 rfl) (HSP.out j hlt)
      have O7_3 : Hid (IntsOwn w4 (Q 3) (.slice A3 u.votes.length c3) (mL mI nI (x + 3) u.votes)) := O6_3.out.footO keepsOI t4 (fun y hy => Nat.lt_of_lt_of_le (QL.out 3 y hy) R6.out.le) (QD.out 3 6 (by omega))
      have O7_4 : Hid (CmdsOwn w4 (Q 4) (.slice A4 u.log.length c4) (mL mCmd nCmd (y1 + 0) u.log)) := O6_4.out.footO keepsOCmd t4 (fun y hy => Nat.lt_of_lt_of_le (QL.out 4 y hy) R6.out.le) (QD.out 4 6 (by omega))
      have O7_5 : Hid (IntsOwn w4 (Q 5) (.slice A5 u.next.length c5) (mL mI nI (y2 + 0) u.next)) := O6_5.out.footO keepsOI t4 (fun y hy => Nat.lt_of_lt_of_le (QL.out 5 y hy) R6.out.le) (QD.out 5 6 (by omega))
      have O7_6 : Hid (IntsOwn w4 (Q 6) (.slice A6 u.mtch.length c6) (mL mI nI (y3 + 0) u.mtch)) := o4
      clear o4 t4
      obtain ⟨y4, hy4⟩ : ∃ y4, y3 + 0 + tot nI u.mtch = y4 := ⟨_, rfl⟩
      rw [hy4]
      have Hy4 := Seg.hid hy4
      have HB_y4 : Hid (y4 + 1 ≤ 4000000000000000000) := by show _ ≤ _; have := HB_y3.out; omega
      have hd_y4 : y4 + 1 ≤ 4000000000000000000 := by have := HB_y4.out; omega
      have hp_y4 : 0 < y4 := by omega
      clear hy4
      have d7 : (w4).cell? ⟨g, j * 8 + 7, none⟩ = some (.int .i64 u.sealed) := R7.out.cell hlt 7 (by omega)
      have f7 : (w4).frozen? ⟨g, j * 8 + 7, none⟩ = false := R7.out.frozen _
      have R8 : Hid (Rnd 45 8 g n c (P j) w wr (w4.setCell ⟨g, j * 8 + 7, none⟩ (.int .i64 ((y4 : Int)))) S F j [.int .i64 ((x : Int)), .int .i64 ((x : Int) + 1), .int .i64 ((x : Int) + 1 + 1), .slice A3 u.votes.length c3, .slice A4 u.log.length c4, .slice A5 u.next.length c5, .slice A6 u.mtch.length c6, .int .i64 ((y4 : Int))]) := R7.out.set HSG.out 7 (by omega) (.int .i64 ((y4 : Int)))
      have O8_3 : Hid (IntsOwn (w4.setCell ⟨g, j * 8 + 7, none⟩ (.int .i64 ((y4 : Int)))) (Q 3) (.slice A3 u.votes.length c3) (mL mI nI (x + 3) u.votes)) := O7_3.out.set keepsOI _ (QG.out 3) _
      have O8_4 : Hid (CmdsOwn (w4.setCell ⟨g, j * 8 + 7, none⟩ (.int .i64 ((y4 : Int)))) (Q 4) (.slice A4 u.log.length c4) (mL mCmd nCmd (y1 + 0) u.log)) := O7_4.out.set keepsOCmd _ (QG.out 4) _
      have O8_5 : Hid (IntsOwn (w4.setCell ⟨g, j * 8 + 7, none⟩ (.int .i64 ((y4 : Int)))) (Q 5) (.slice A5 u.next.length c5) (mL mI nI (y2 + 0) u.next)) := O7_5.out.set keepsOI _ (QG.out 5) _
      have O8_6 : Hid (IntsOwn (w4.setCell ⟨g, j * 8 + 7, none⟩ (.int .i64 ((y4 : Int)))) (Q 6) (.slice A6 u.mtch.length c6) (mL mI nI (y3 + 0) u.mtch)) := O7_6.out.set keepsOI _ (QG.out 6) _
      have EE : Hid (EOVtr (w4.setCell ⟨g, j * 8 + 7, none⟩ (.int .i64 ((y4 : Int)))) (P j) (fun q => [.int .i64 ((x : Int)), .int .i64 ((x : Int) + 1), .int .i64 ((x : Int) + 1 + 1), .slice A3 u.votes.length c3, .slice A4 u.log.length c4, .slice A5 u.next.length c5, .slice A6 u.mtch.length c6, .int .i64 ((y4 : Int))].getD q default) (mVtr x u)) := by
        refine ⟨⟨?_, ?_, ?_, ?_⟩, Q, QP.out, QD.out, ?_, ?_, ?_, ?_⟩
        · exact congrArg (Value.int .i64) (show (x : Int) = (((x + 0) : Nat) : Int) by have z0 := Hy1.out; have z1 := Hy2.out; have z2 := Hy3.out; have z3 := Hy4.out; omega)
        · exact congrArg (Value.int .i64) (show (x : Int) + 1 = (((x + 1) : Nat) : Int) by have z0 := Hy1.out; have z1 := Hy2.out; have z2 := Hy3.out; have z3 := Hy4.out; omega)
        · exact congrArg (Value.int .i64) (show (x : Int) + 1 + 1 = (((x + 2) : Nat) : Int) by have z0 := Hy1.out; have z1 := Hy2.out; have z2 := Hy3.out; have z3 := Hy4.out; omega)
        · exact congrArg (Value.int .i64) (show (y4 : Int) = (((x + 3 + tot nI u.votes + tot nCmd u.log + tot nI u.next + tot nI u.mtch) : Nat) : Int) by have z0 := Hy1.out; have z1 := Hy2.out; have z2 := Hy3.out; have z3 := Hy4.out; omega)
        · have hz : x + 3 = (x + 3) := by (have z0 := Hy1.out; have z1 := Hy2.out; have z2 := Hy3.out; have z3 := Hy4.out; omega)
          have ho := O8_3.out
          rw [hz] at ho
          exact ho
        · have hz : y1 + 0 = (x + 3 + tot nI u.votes) := by (have z0 := Hy1.out; have z1 := Hy2.out; have z2 := Hy3.out; have z3 := Hy4.out; omega)
          have ho := O8_4.out
          rw [hz] at ho
          exact ho
        · have hz : y2 + 0 = (x + 3 + tot nI u.votes + tot nCmd u.log) := by (have z0 := Hy1.out; have z1 := Hy2.out; have z2 := Hy3.out; have z3 := Hy4.out; omega)
          have ho := O8_5.out
          rw [hz] at ho
          exact ho
        · have hz : y3 + 0 = (x + 3 + tot nI u.votes + tot nCmd u.log + tot nI u.next) := by (have z0 := Hy1.out; have z1 := Hy2.out; have z2 := Hy3.out; have z3 := Hy4.out; omega)
          have ho := O8_6.out
          rw [hz] at ho
          exact ho
      obtain ⟨F', L', F2⟩ := Rnd.done keepsOVtr (t := mVtr x u) HR.out.1 hlt R8.out EE.out
      rw [MS'.out] at L'
      have L2 := Seg.hid L'
      have F3 := Seg.hid F2
      clear L' F2
      have HKK : Hid ((y4 : Int) + 1 = ((k + tot nVtr (us.take (j + 1)) : Nat) : Int)) := by
        show _ = _
        have z0 := Hy1.out; have z1 := Hy2.out; have z2 := Hy3.out; have z3 := Hy4.out; have a1 := TK.out; have a2 := HX.out; simp only [nVtr] at a1; omega
      go_wp2
      clear d7 f7
      go_roundw
      case rel => exact ⟨j + 1, F', by omega, by go_num, congrArg (Value.int .i64) HKK.out, L2.out, F3.out⟩
      case measure => simp [intOf]; omega
    · have : j = n := by omega
      subst this
      have E := HR.out
      rw [show mid mVtr nVtr k j us = mL mVtr nVtr k us by rw [← hlen.out]; exact mid_all _ _ _ _] at E
      have EH' := Seg.hid E
      clear E
      rw [KE.out]
      go_wp2
      go_ret
      exact ⟨F, rfl, EH'.out⟩
theorem markVoterS_own (x : Int) (k : Nat) (hx : x = (k : Int)) (S : Nat → Prop) (us : List Vtr) (w : World) {v : Value} (hk : 0 < k) (hk1 : k + tot nVtr us ≤ 4000000000000000000) (hv : VtrsOwn w S v us) :
    Calls Try.prog 30 #[v, .int .i64 x] w fun e w' => e = .returned (.int .i64 ((k + tot nVtr us : Nat) : Int)) ∧ VtrsOwn w' S v (mL mVtr nVtr k us) ∧ Foot w w' S := by
  subst hx
  obtain ⟨h0, A, c, rfl, h⟩ := hv
  by_cases hz : us.length = 0
  · obtain rfl := List.length_eq_zero_iff.1 hz
    exact (markVoterS_none A c k w).mono fun e w' ⟨h1, h2⟩ => by
      subst h2
      exact ⟨by rw [h1]; rfl, LOwn.nil _ _ _ _, Foot.refl _ _⟩
  obtain ⟨g, F, P, rfl, h3, h4, h5⟩ := h.resolve_left hz
  refine (markVoterS_core g us.length c k S P F us w h0 hk hk1 h3 h4 h5).mono fun e w' ⟨F', a1, a2, a3⟩ => ⟨a1, ⟨by rw [mL_len]; exact h0, _, c, by rw [mL_len], .inr ⟨g, F', P, rfl, h3, fun i hi => h4 i (by rw [mL_len] at hi; exact hi), ?_⟩⟩, a3⟩
  rw [mL_len]
  exact a2
theorem heldVoterS_none (A : Option Addr) (c : Nat) (k : Int) (w : World) : Calls Try.prog 32 #[.slice A 0 c, .int .i64 k] w fun e w' => e = .returned (.int .i64 k) ∧ Below w.heap.size w w' := by
  go_enter Try.func32, Try.ntmps32
  go_wp2
  go_loop [1, 5] (fun x i => i = .int .i64 0 ∧ x = .int .i64 k) (fun _ _ => 0)
  case atStart => exact ⟨rfl, rfl⟩
  case round =>
    obtain ⟨rfl, rfl⟩ := hrel
    go_wp2
    go_ret
    exact ⟨rfl, Below.refl _ _⟩
set_option maxHeartbeats 3200000 in
theorem heldVoterS_core (g o n c k : Nat) (us : List Vtr) (F : Nat → Nat → Value) (w : World) (S : Nat → Prop) (hn : n ≤ 9223372036854775807) (hc : n ≤ c) (hg : g < w.heap.size) (hS : ∀ g, S g → g < w.heap.size) (hnl : us.length = n) (hk : 0 < k) (hk1 : k + tot nVtr us ≤ 4000000000000000000)
    (ha : ∀ i, i < n → ∀ j, j < 8 → w.cell? ⟨g, o + i * 8 + j, none⟩ = some (F i j)) (he : ∀ i, i < n → EVtr w S (F i) (mVtr (k + tot nVtr (us.take i)) (us.getD i default))) :
    Calls Try.prog 32 #[.slice (some ⟨g, o, none⟩) n c, .int .i64 k] w fun e w' => e = .returned (.int .i64 ((k + tot nVtr us : Nat) : Int)) ∧ Below w.heap.size w w' := by
  have HA := Seg.hid ha; have HE := Seg.hid he
  have HN := Seg.hid hnl
  have KL : Hid (∀ j, j < n → k + tot nVtr (us.take j) + nVtr (us.getD j default) ≤ 4000000000000000000) := fun j hj => by
    have a1 := tot_take nVtr (ts := us) (j := j) (by rw [HN.out]; exact hj)
    have a2 := tot_le nVtr us (j + 1)
    omega
  have KE : Hid (k + tot nVtr (us.take n) = k + tot nVtr us) := by show _ = _; rw [← HN.out, List.take_length]
  clear ha he hk1 hnl
  go_enter Try.func32, Try.ntmps32
  go_wp2
  go_loopw [1, 5] (fun x i wr => ∃ (j : Nat), j ≤ n ∧ i = .int .i64 j ∧ x = .int .i64 ((k + tot nVtr (us.take j) : Nat) : Int) ∧ Hid (Below w.heap.size w wr)) (fun _ i _ => n - (intOf i).toNat)
  case atStart => exact ⟨0, Nat.zero_le _, rfl, rfl, Below.refl _ _⟩
  case round =>
    obtain ⟨j, hj, rfl, rfl, HR⟩ := hrel
    by_cases hlt : j < n
    · have h0 : (0 : Int) ≤ (j : Int) := by omega
      have h1 : (j : Int) < (n : Int) := by omega
      have EL := HE.out j hlt
      have TK := Seg.hid (tot_take nVtr (ts := us) (j := j) (by rw [HN.out]; exact hlt))
      have hxb := KL.out j hlt
      have HC : Hid (∀ w', Below w.heap.size w w' → ∀ q, q < 8 → w'.cell? ⟨g, o + j * 8 + q, none⟩ = some (F j q)) := fun w' hb q hq => by rw [hb.cell (p := ⟨g, o + j * 8 + q, none⟩) hg]; exact HA.out j hlt q hq
      obtain ⟨x, hx⟩ : ∃ x, k + tot nVtr (us.take j) = x := ⟨_, rfl⟩
      have HX := Seg.hid hx
      rw [hx] at hxb EL ⊢
      have hx0 : 0 < x := by omega
      clear hx
      generalize us.getD j default = u at *
      have HXB := Seg.hid hxb
      clear hxb
      obtain ⟨s0, s1, s2, s3, s4, s5, s6, s7⟩ := EL
      obtain ⟨A3, c3, g3⟩ := s3.form
      have M3 : Hid (IntsAt w S (.slice A3 u.votes.length c3) (mL mI nI (x + 3) u.votes) ∧ F j 3 = .slice A3 u.votes.length c3) := by
        have hl : (mVtr x u).votes.length = u.votes.length := mL_len _ _ _ _
        rw [hl] at g3
        have h := s3
        rw [g3] at h
        exact ⟨h, g3⟩
      obtain ⟨A4, c4, g4⟩ := s4.form
      have M4 : Hid (LAt 2 ECmd w S (.slice A4 u.log.length c4) (mL mCmd nCmd (x + 3 + tot nI u.votes) u.log) ∧ F j 4 = .slice A4 u.log.length c4) := by
        have hl : (mVtr x u).log.length = u.log.length := mL_len _ _ _ _
        rw [hl] at g4
        have h := s4
        rw [g4] at h
        exact ⟨h, g4⟩
      obtain ⟨A5, c5, g5⟩ := s5.form
      have M5 : Hid (IntsAt w S (.slice A5 u.next.length c5) (mL mI nI (x + 3 + tot nI u.votes + tot nCmd u.log) u.next) ∧ F j 5 = .slice A5 u.next.length c5) := by
        have hl : (mVtr x u).next.length = u.next.length := mL_len _ _ _ _
        rw [hl] at g5
        have h := s5
        rw [g5] at h
        exact ⟨h, g5⟩
      obtain ⟨A6, c6, g6⟩ := s6.form
      have M6 : Hid (IntsAt w S (.slice A6 u.mtch.length c6) (mL mI nI (x + 3 + tot nI u.votes + tot nCmd u.log + tot nI u.next) u.mtch) ∧ F j 6 = .slice A6 u.mtch.length c6) := by
        have hl : (mVtr x u).mtch.length = u.mtch.length := mL_len _ _ _ _
        rw [hl] at g6
        have h := s6
        rw [g6] at h
        exact ⟨h, g6⟩
      have HB_x : Hid (x + 4 + tot nI u.votes + tot nCmd u.log + tot nI u.next + tot nI u.mtch ≤ 4000000000000000000) := by show _ ≤ _; have := HXB.out; simp only [nVtr] at this; omega
      have hd_x : x + 3 ≤ 4000000000000000000 := by have := HB_x.out; omega
      have S0 := Seg.hid s0
      have S1 := Seg.hid s1
      have S2 := Seg.hid s2
      have S7 := Seg.hid s7
      clear s0 s1 s2 s3 s4 s5 s6 s7 g3 g4 g5 g6
      have c0 : wr.cell? ⟨g, o + j * 8, none⟩ = some (.int .i64 ((x : Int))) := (HC.out _ HR.out 0 (by omega)).trans (by rw [S0.out]; exact congrArg (fun z : Int => some (Value.int .i64 z)) (show (((x + 0) : Nat) : Int) = (x : Int) by omega))
      have c1 : wr.cell? ⟨g, o + j * 8 + 1, none⟩ = some (.int .i64 ((x : Int) + 1)) := (HC.out _ HR.out 1 (by omega)).trans (by rw [S1.out]; exact congrArg (fun z : Int => some (Value.int .i64 z)) (show (((x + 1) : Nat) : Int) = (x : Int) + 1 by omega))
      have c2 : wr.cell? ⟨g, o + j * 8 + 2, none⟩ = some (.int .i64 ((x : Int) + 1 + 1)) := (HC.out _ HR.out 2 (by omega)).trans (by rw [S2.out]; exact congrArg (fun z : Int => some (Value.int .i64 z)) (show (((x + 2) : Nat) : Int) = (x : Int) + 1 + 1 by omega))
      have c3 : wr.cell? ⟨g, o + j * 8 + 3, none⟩ = some (.slice A3 u.votes.length c3) := (HC.out _ HR.out 3 (by omega)).trans (congrArg some M3.out.2)
      go_wp2_with fail
      clear c0 c1 c2 c3
      refine (heldIntS_at _ (x + 3) (by omega) S u.votes wr (by have := HB_x.out; omega) (by have h := M3.out.1; rw [show (x + 3) = x + 3 by omega] at h; exact h.below keepsI HR.out hS)).mono ?_
      rintro e w1 ⟨rfl, b1⟩
      have B1 := Seg.hid (chain HR.out b1)
      clear b1
      obtain ⟨y1, hy1⟩ : ∃ y1, x + 3 + tot nI u.votes = y1 := ⟨_, rfl⟩
      rw [hy1]
      have Hy1 := Seg.hid hy1
      have HB_y1 : Hid (y1 + 1 + tot nCmd u.log + tot nI u.next + tot nI u.mtch ≤ 4000000000000000000) := by show _ ≤ _; have := HB_x.out; omega
      have hd_y1 : y1 + 0 ≤ 4000000000000000000 := by have := HB_y1.out; omega
      have hp_y1 : 0 < y1 := by omega
      have hq_y1 : ¬ (y1 : Int) < 0 := by omega
      clear hy1
      have c4 : w1.cell? ⟨g, o + j * 8 + 4, none⟩ = some (.slice A4 u.log.length c4) := (HC.out _ B1.out 4 (by omega)).trans (congrArg some M4.out.2)
      go_wp2_with fail
      clear c4
      refine (heldCommandS_at _ (y1 + 0) (by omega) S u.log w1 (by omega) (by have := HB_y1.out; omega) (fun g hg => Nat.lt_of_lt_of_le (hS g hg) B1.out.size) (by have h := M4.out.1; rw [show (x + 3 + tot nI u.votes) = y1 + 0 by have z0 := Hy1.out; omega] at h; exact h.below keepsCmd B1.out hS)).mono ?_
      rintro e w2 ⟨rfl, b2⟩
      have B2 := Seg.hid (chain B1.out b2)
      clear b2
      obtain ⟨y2, hy2⟩ : ∃ y2, y1 + 0 + tot nCmd u.log = y2 := ⟨_, rfl⟩
      rw [hy2]
      have Hy2 := Seg.hid hy2
      have HB_y2 : Hid (y2 + 1 + tot nI u.next + tot nI u.mtch ≤ 4000000000000000000) := by show _ ≤ _; have := HB_y1.out; omega
      have hd_y2 : y2 + 0 ≤ 4000000000000000000 := by have := HB_y2.out; omega
      have hp_y2 : 0 < y2 := by omega
      have hq_y2 : ¬ (y2 : Int) < 0 := by omega
      clear hy2
      have c5 : w2.cell? ⟨g, o + j * 8 + 5, none⟩ = some (.slice A5 u.next.length c5) := (HC.out _ B2.out 5 (by omega)).trans (congrArg some M5.out.2)
      go_wp2_with fail
      clear c5
      refine (heldIntS_at _ (y2 + 0) (by omega) S u.next w2 (by have := HB_y2.out; omega) (by have h := M5.out.1; rw [show (x + 3 + tot nI u.votes + tot nCmd u.log) = y2 + 0 by have z0 := Hy1.out; have z1 := Hy2.out; omega] at h; exact h.below keepsI B2.out hS)).mono ?_
      rintro e w3 ⟨rfl, b3⟩
      have B3 := Seg.hid (chain B2.out b3)
      clear b3
      obtain ⟨y3, hy3⟩ : ∃ y3, y2 + 0 + tot nI u.next = y3 := ⟨_, rfl⟩
      rw [hy3]
      have Hy3 := Seg.hid hy3
      have HB_y3 : Hid (y3 + 1 + tot nI u.mtch ≤ 4000000000000000000) := by show _ ≤ _; have := HB_y2.out; omega
      have hd_y3 : y3 + 0 ≤ 4000000000000000000 := by have := HB_y3.out; omega
      have hp_y3 : 0 < y3 := by omega
      have hq_y3 : ¬ (y3 : Int) < 0 := by omega
      clear hy3
      have c6 : w3.cell? ⟨g, o + j * 8 + 6, none⟩ = some (.slice A6 u.mtch.length c6) := (HC.out _ B3.out 6 (by omega)).trans (congrArg some M6.out.2)
      go_wp2_with fail
      clear c6
      refine (heldIntS_at _ (y3 + 0) (by omega) S u.mtch w3 (by have := HB_y3.out; omega) (by have h := M6.out.1; rw [show (x + 3 + tot nI u.votes + tot nCmd u.log + tot nI u.next) = y3 + 0 by have z0 := Hy1.out; have z1 := Hy2.out; have z2 := Hy3.out; omega] at h; exact h.below keepsI B3.out hS)).mono ?_
      rintro e w4 ⟨rfl, b4⟩
      have B4 := Seg.hid (chain B3.out b4)
      clear b4
      obtain ⟨y4, hy4⟩ : ∃ y4, y3 + 0 + tot nI u.mtch = y4 := ⟨_, rfl⟩
      rw [hy4]
      have Hy4 := Seg.hid hy4
      have HB_y4 : Hid (y4 + 1 ≤ 4000000000000000000) := by show _ ≤ _; have := HB_y3.out; omega
      have hd_y4 : y4 + 1 ≤ 4000000000000000000 := by have := HB_y4.out; omega
      have hp_y4 : 0 < y4 := by omega
      have hq_y4 : ¬ (y4 : Int) < 0 := by omega
      clear hy4
      have c7 : w4.cell? ⟨g, o + j * 8 + 7, none⟩ = some (.int .i64 ((y4 : Int))) := (HC.out _ B4.out 7 (by omega)).trans (by rw [S7.out]; exact congrArg (fun z : Int => some (Value.int .i64 z)) (show (((x + 3 + tot nI u.votes + tot nCmd u.log + tot nI u.next + tot nI u.mtch) : Nat) : Int) = (y4 : Int) by have z0 := Hy1.out; have z1 := Hy2.out; have z2 := Hy3.out; have z3 := Hy4.out; omega))
      have HKK : Hid ((y4 : Int) + 1 = ((k + tot nVtr (us.take (j + 1)) : Nat) : Int)) := by
        show _ = _
        have z0 := Hy1.out; have z1 := Hy2.out; have z2 := Hy3.out; have z3 := Hy4.out; have a1 := TK.out; have a2 := HX.out; simp only [nVtr] at a1; omega
      go_wp2
      go_roundw
      case rel => exact ⟨j + 1, by omega, by go_num, congrArg (Value.int .i64) HKK.out, B4.out⟩
      case measure => simp [intOf]; omega
    · have : j = n := by omega
      subst this
      rw [KE.out]
      go_wp2
      go_ret
      exact ⟨rfl, HR.out⟩
theorem heldVoterS_at (x : Int) (k : Nat) (hx : x = (k : Int)) (S : Nat → Prop) (us : List Vtr) (w : World) {v : Value} (hk : 0 < k) (hk1 : k + tot nVtr us ≤ 4000000000000000000) (hS : ∀ g, S g → g < w.heap.size) (hv : LAt 8 EVtr w S v (mL mVtr nVtr k us)) :
    Calls Try.prog 32 #[v, .int .i64 x] w fun e w' => e = .returned (.int .i64 ((k + tot nVtr us : Nat) : Int)) ∧ Below w.heap.size w w' := by
  subst hx
  obtain ⟨hn, A, c, rfl, h⟩ := hv
  rw [mL_len] at hn h ⊢
  by_cases hz : us.length = 0
  · obtain rfl := List.length_eq_zero_iff.1 hz
    exact heldVoterS_none A c k w
  obtain ⟨g, o, F, rfl, hg, hc, hcell, hel⟩ := h.resolve_left hz
  exact heldVoterS_core g o us.length c k us F w S hn hc (hS g hg) hS rfl hk hk1 hcell (fun i hi => by have := hel i hi; rw [mL_get mVtr nVtr hi] at this; exact this)
end Go.Proofs.Ytdkfhjcockkleaa.Ow
