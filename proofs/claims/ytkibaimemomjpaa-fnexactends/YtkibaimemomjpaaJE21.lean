/- Lists of Arrival of the call's own; the law's marks on them; Lists of Coming of the call's own; the law's marks on them. -/
import Derived.Test.YtkibaimemomjpaaJE17
import Derived.Test.YtkibaimemomjpaaJE04
import Derived.Test.YtkibaimemomjpaaJE14
namespace Go.Proofs.Ytkibaimemomjpaa.Ow
set_option maxRecDepth 8000
open Go.RowKit
open Recs
open Ls
set_option linter.unusedVariables false
def EOArr : Elt Arr := fun w S f u => (f 0 = .int .i64 u.time ∧ f 2 = .bool u.gone) ∧ ∃ Q : Nat → Nat → Prop, (∀ i y, Q i y → S y) ∧ (∀ i j, i ≠ j → ∀ y, Q i y → ¬ Q j y) ∧ IntsOwn w (Q 1) (f 1) u.row
theorem keepsOArr : KeepsO 3 EOArr := fun w w' S f f' t h hs hk hf => by
  obtain ⟨⟨s0, s2⟩, Q, q1, q2, l1⟩ := h
  exact ⟨⟨by rw [hf 0 (by omega)]; exact s0, by rw [hf 2 (by omega)]; exact s2⟩, Q, q1, q2, by rw [hf 1 (by omega)]; exact l1.keep keepsOI hs (fun g hg => hk g (q1 _ g hg))⟩
theorem atOArr (w : World) (S : Nat → Prop) (f : Nat → Value) (u : Arr) (h : EOArr w S f u) : EArr w S f u := by
  obtain ⟨⟨s0, s2⟩, Q, q1, q2, l1⟩ := h
  exact ⟨s0, (LOwn.lat growsI (fun _ _ _ _ h => h) l1).mono growsI (q1 1), s2⟩
abbrev ArrsOwn := LOwn 88 3 EOArr
def mArr (k : Nat) (u : Arr) : Arr := ⟨(((k + 0) : Nat) : Int), mL mI nI (k + 1) u.row, ((((k + 1 + tot nI u.row) : Nat) : Int) % 3 == 0)⟩
def nArr (u : Arr) : Nat := 2 + tot nI u.row
theorem markArrivalS_none (A : Option Addr) (c : Nat) (k : Int) (w : World) : Calls Try.prog 68 #[.slice A 0 c, .int .i64 k] w fun e w' => e = .returned (.int .i64 k) ∧ w = w' := by
  go_enter Try.func68, Try.ntmps68
  go_wp2
  go_loop [1, 5] (fun x i => i = .int .i64 0 ∧ x = .int .i64 k) (fun _ _ => 0)
  case atStart => exact ⟨rfl, rfl⟩
  case round =>
    obtain ⟨rfl, rfl⟩ := hrel
    go_wp2
    go_ret
    exact ⟨rfl, rfl⟩
set_option maxHeartbeats 3200000 in
theorem markArrivalS_core (g n c k : Nat) (S : Nat → Prop) (P : Nat → Nat → Prop) (F0 : Nat → Value) (us : List Arr) (w : World) (hn : n ≤ 1048576) (hk : 0 < k) (hk1 : k + tot nArr us ≤ 4000000000000000000) (hSg : S g) (hSP : ∀ i, i < n → ∀ y, P i y → S y) (ho : LOpen 88 3 EOArr w g n c F0 P us) :
    Calls Try.prog 68 #[.slice (some ⟨g, 0, none⟩) n c, .int .i64 k] w fun e w' => ∃ F, e = .returned (.int .i64 ((k + tot nArr us : Nat) : Int)) ∧ LOpen 88 3 EOArr w' g n c F P (mL mArr nArr k us) ∧ Foot w w' S := by
  have hc := ho.mine.le
  have hlen := Seg.hid ho.len
  have HM : Hid (LOpen 88 3 EOArr w g n c F0 P (mid mArr nArr k 0 us) ∧ Foot w w S) := ⟨by rw [mid_zero]; exact ho, Foot.refl _ _⟩
  have HSG := Seg.hid hSg; have HSP := Seg.hid hSP
  have KL : Hid (∀ j, j < n → k + tot nArr (us.take j) + nArr (us.getD j default) ≤ 4000000000000000000) := fun j hj => by
    have a1 := tot_take nArr (ts := us) (j := j) (by rw [hlen.out]; exact hj)
    have a2 := tot_le nArr us (j + 1)
    omega
  have KE : Hid (k + tot nArr (us.take n) = k + tot nArr us) := by show _ = _; rw [← hlen.out, List.take_length]
  clear ho hSg hSP hk1
  go_enter Try.func68, Try.ntmps68
  go_wp2
  go_loopw [1, 5] (fun x i wr => ∃ (j : Nat) (F : Nat → Value), j ≤ n ∧ i = .int .i64 j ∧ x = .int .i64 ((k + tot nArr (us.take j) : Nat) : Int) ∧ Hid (LOpen 88 3 EOArr wr g n c F P (mid mArr nArr k j us) ∧ Foot w wr S)) (fun _ i _ => n - (intOf i).toNat)
  case atStart => exact ⟨0, F0, Nat.zero_le _, rfl, rfl, HM.out⟩
  case round =>
    clear HM
    obtain ⟨j, F, hj, rfl, rfl, HR⟩ := hrel
    by_cases hlt : j < n
    · have h0 : (0 : Int) ≤ (j : Int) := by omega
      have h1 : (j : Int) < (n : Int) := by omega
      have EL := HR.out.1.el j hlt
      rw [mid_get mArr nArr (by rw [hlen.out]; exact hlt)] at EL
      have MS := mid_step mArr nArr (k := k) (ts := us) (j := j) (by rw [hlen.out]; exact hlt)
      have TK := Seg.hid (tot_take nArr (ts := us) (j := j) (by rw [hlen.out]; exact hlt))
      have hxb := KL.out j hlt
      have HAP := Seg.hid (HR.out.1.apart j hlt)
      obtain ⟨x, hx⟩ : ∃ x, k + tot nArr (us.take j) = x := ⟨_, rfl⟩
      have HX := Seg.hid hx
      rw [hx] at hxb MS ⊢
      have hx0 : 0 < x := by omega
      clear hx
      have MS' := Seg.hid MS
      clear MS
      generalize us.getD j default = u at *
      have HXB := Seg.hid hxb
      clear hxb
      obtain ⟨⟨s0, s2⟩, Q, q1, q2, l1⟩ := EL
      obtain ⟨A1, c1, g1⟩ := l1.form
      have O0_1 : Hid (IntsOwn wr (Q 1) (.slice A1 u.row.length c1) u.row) := by
        have := l1
        rw [g1] at this
        exact this
      have QP := Seg.hid q1
      have QD := Seg.hid q2
      have R0 : Hid (Rnd 88 3 g n c (P j) w wr wr S F j [.int .i64 u.time, .slice A1 u.row.length c1, .bool u.gone]) := Rnd.start HR.out.1.mine HR.out.2 rfl (fun q hq => by
        match q, hq with
        | 0, _ => exact s0
        | 1, _ => exact g1
        | 2, _ => exact s2)
      clear s0 s2 l1 g1 q1 q2
      have QG : Hid (∀ i y, Q i y → y ≠ g) := fun i y hy => (HAP.out y (QP.out i y hy)).1
      have QL : Hid (∀ i y, Q i y → y < wr.heap.size) := fun i y hy => (HAP.out y (QP.out i y hy)).2
      have HB_x : Hid (x + 2 + tot nI u.row ≤ 4000000000000000000) := by show _ ≤ _; have := HXB.out; simp only [nArr] at this; omega
      have hc_x : x + 2 ≤ 4000000000000000000 + 2 := by have := HB_x.out; omega
      have hd_x : x + 1 ≤ 4000000000000000000 := by have := HB_x.out; omega
      have d0 : (wr).cell? ⟨g, j * 3, none⟩ = some (.int .i64 u.time) := R0.out.cell hlt 0 (by omega)
      have f0 : (wr).frozen? ⟨g, j * 3, none⟩ = false := R0.out.frozen _
      have R1 : Hid (Rnd 88 3 g n c (P j) w wr (wr.setCell ⟨g, j * 3, none⟩ (.int .i64 ((x : Int)))) S F j [.int .i64 ((x : Int)), .slice A1 u.row.length c1, .bool u.gone]) := R0.out.set HSG.out 0 (by omega) (.int .i64 ((x : Int)))
      have O1_1 : Hid (IntsOwn (wr.setCell ⟨g, j * 3, none⟩ (.int .i64 ((x : Int)))) (Q 1) (.slice A1 u.row.length c1) (u.row)) := O0_1.out.set keepsOI _ (QG.out 1) _
      have d1 : ((wr.setCell ⟨g, j * 3, none⟩ (.int .i64 ((x : Int))))).cell? ⟨g, j * 3 + 1, none⟩ = some (.slice A1 u.row.length c1) := R1.out.cell hlt 1 (by omega)
      go_wp2_with fail
      clear d0 f0 d1
      refine (markIntS_own _ (x + 1) (by omega) (Q 1) u.row (wr.setCell ⟨g, j * 3, none⟩ (.int .i64 ((x : Int)))) (by omega) (by have := HB_x.out; omega) O1_1.out).mono ?_
      rintro e w1 ⟨rfl, o1, t1⟩
      have R2 : Hid (Rnd 88 3 g n c (P j) w wr w1 S F j [.int .i64 ((x : Int)), .slice A1 u.row.length c1, .bool u.gone]) := R1.out.foot t1 (QP.out 1) (fun h => (HAP.out g h).1 rfl) (HSP.out j hlt)
      have O2_1 : Hid (IntsOwn w1 (Q 1) (.slice A1 u.row.length c1) (mL mI nI (x + 1) u.row)) := o1
      clear o1 t1
      obtain ⟨y1, hy1⟩ : ∃ y1, x + 1 + tot nI u.row = y1 := ⟨_, rfl⟩
      rw [hy1]
      have Hy1 := Seg.hid hy1
      have HB_y1 : Hid (y1 + 1 ≤ 4000000000000000000) := by show _ ≤ _; have := HB_x.out; omega
      have hd_y1 : y1 + 1 ≤ 4000000000000000000 := by have := HB_y1.out; omega
      have hp_y1 : 0 < y1 := by omega
      clear hy1
      have d2 : (w1).cell? ⟨g, j * 3 + 2, none⟩ = some (.bool u.gone) := R2.out.cell hlt 2 (by omega)
      have f2 : (w1).frozen? ⟨g, j * 3 + 2, none⟩ = false := R2.out.frozen _
      have R3 : Hid (Rnd 88 3 g n c (P j) w wr (w1.setCell ⟨g, j * 3 + 2, none⟩ (.bool (((y1 : Int)) % 3 == 0))) S F j [.int .i64 ((x : Int)), .slice A1 u.row.length c1, .bool (((y1 : Int)) % 3 == 0)]) := R2.out.set HSG.out 2 (by omega) (.bool (((y1 : Int)) % 3 == 0))
      have O3_1 : Hid (IntsOwn (w1.setCell ⟨g, j * 3 + 2, none⟩ (.bool (((y1 : Int)) % 3 == 0))) (Q 1) (.slice A1 u.row.length c1) (mL mI nI (x + 1) u.row)) := O2_1.out.set keepsOI _ (QG.out 1) _
      have EE : Hid (EOArr (w1.setCell ⟨g, j * 3 + 2, none⟩ (.bool (((y1 : Int)) % 3 == 0))) (P j) (fun q => [.int .i64 ((x : Int)), .slice A1 u.row.length c1, .bool (((y1 : Int)) % 3 == 0)].getD q default) (mArr x u)) := by
        refine ⟨⟨?_, ?_⟩, Q, QP.out, QD.out, ?_⟩
        · exact congrArg (Value.int .i64) (show (x : Int) = (((x + 0) : Nat) : Int) by have z0 := Hy1.out; omega)
        · exact congrArg (fun z : Int => Value.bool (z % 3 == 0)) (show (y1 : Int) = (((x + 1 + tot nI u.row) : Nat) : Int) by have z0 := Hy1.out; omega)
        · have hz : x + 1 = (x + 1) := by (have z0 := Hy1.out; omega)
          have ho := O3_1.out
          rw [hz] at ho
          exact ho
      obtain ⟨F', L', F2⟩ := Rnd.done keepsOArr (t := mArr x u) HR.out.1 hlt R3.out EE.out
      rw [MS'.out] at L'
      have L2 := Seg.hid L'
      have F3 := Seg.hid F2
      clear L' F2
      have HKK : Hid ((y1 : Int) + 1 = ((k + tot nArr (us.take (j + 1)) : Nat) : Int)) := by
        show _ = _
        have z0 := Hy1.out; have a1 := TK.out; have a2 := HX.out; simp only [nArr] at a1; omega
      go_wp2
      clear d2 f2
      go_roundw
      case rel => exact ⟨j + 1, F', by omega, by go_num, congrArg (Value.int .i64) HKK.out, L2.out, F3.out⟩
      case measure => simp [intOf]; omega
    · have : j = n := by omega
      subst this
      have E := HR.out
      rw [show mid mArr nArr k j us = mL mArr nArr k us by rw [← hlen.out]; exact mid_all _ _ _ _] at E
      have EH' := Seg.hid E
      clear E
      rw [KE.out]
      go_wp2
      go_ret
      exact ⟨F, rfl, EH'.out⟩
theorem markArrivalS_own (x : Int) (k : Nat) (hx : x = (k : Int)) (S : Nat → Prop) (us : List Arr) (w : World) {v : Value} (hk : 0 < k) (hk1 : k + tot nArr us ≤ 4000000000000000000) (hv : ArrsOwn w S v us) :
    Calls Try.prog 68 #[v, .int .i64 x] w fun e w' => e = .returned (.int .i64 ((k + tot nArr us : Nat) : Int)) ∧ ArrsOwn w' S v (mL mArr nArr k us) ∧ Foot w w' S := by
  subst hx
  obtain ⟨h0, A, c, rfl, h⟩ := hv
  by_cases hz : us.length = 0
  · obtain rfl := List.length_eq_zero_iff.1 hz
    exact (markArrivalS_none A c k w).mono fun e w' ⟨h1, h2⟩ => by
      subst h2
      exact ⟨by rw [h1]; rfl, LOwn.nil _ _ _ _, Foot.refl _ _⟩
  obtain ⟨g, F, P, rfl, h3, h4, h5⟩ := h.resolve_left hz
  refine (markArrivalS_core g us.length c k S P F us w h0 hk hk1 h3 h4 h5).mono fun e w' ⟨F', a1, a2, a3⟩ => ⟨a1, ⟨by rw [mL_len]; exact h0, _, c, by rw [mL_len], .inr ⟨g, F', P, rfl, h3, fun i hi => h4 i (by rw [mL_len] at hi; exact hi), ?_⟩⟩, a3⟩
  rw [mL_len]
  exact a2
end Go.Proofs.Ytkibaimemomjpaa.Ow
namespace Go.Proofs.Ytkibaimemomjpaa.Ow
set_option maxRecDepth 8000
open Go.RowKit
open Recs
open Ls
set_option linter.unusedVariables false
def EOCmg : Elt Cmg := fun w S f u => (f 0 = .int .i64 u.src ∧ f 1 = .int .i64 u.time ∧ f 3 = .bool u.gone ∧ f 4 = .int .i64 u.mark) ∧ ∃ Q : Nat → Nat → Prop, (∀ i y, Q i y → S y) ∧ (∀ i j, i ≠ j → ∀ y, Q i y → ¬ Q j y) ∧ IntsOwn w (Q 2) (f 2) u.row
theorem keepsOCmg : KeepsO 5 EOCmg := fun w w' S f f' t h hs hk hf => by
  obtain ⟨⟨s0, s1, s3, s4⟩, Q, q1, q2, l2⟩ := h
  exact ⟨⟨by rw [hf 0 (by omega)]; exact s0, by rw [hf 1 (by omega)]; exact s1, by rw [hf 3 (by omega)]; exact s3, by rw [hf 4 (by omega)]; exact s4⟩, Q, q1, q2, by rw [hf 2 (by omega)]; exact l2.keep keepsOI hs (fun g hg => hk g (q1 _ g hg))⟩
theorem atOCmg (w : World) (S : Nat → Prop) (f : Nat → Value) (u : Cmg) (h : EOCmg w S f u) : ECmg w S f u := by
  obtain ⟨⟨s0, s1, s3, s4⟩, Q, q1, q2, l2⟩ := h
  exact ⟨s0, s1, (LOwn.lat growsI (fun _ _ _ _ h => h) l2).mono growsI (q1 2), s3, s4⟩
abbrev CmgsOwn := LOwn 90 5 EOCmg
def mCmg (k : Nat) (u : Cmg) : Cmg := ⟨(((k + 0) : Nat) : Int), (((k + 1) : Nat) : Int), mL mI nI (k + 2) u.row, ((((k + 2 + tot nI u.row) : Nat) : Int) % 3 == 0), (((k + 3 + tot nI u.row) : Nat) : Int)⟩
def nCmg (u : Cmg) : Nat := 4 + tot nI u.row
theorem markComingS_none (A : Option Addr) (c : Nat) (k : Int) (w : World) : Calls Try.prog 28 #[.slice A 0 c, .int .i64 k] w fun e w' => e = .returned (.int .i64 k) ∧ w = w' := by
  go_enter Try.func28, Try.ntmps28
  go_wp2
  go_loop [1, 5] (fun x i => i = .int .i64 0 ∧ x = .int .i64 k) (fun _ _ => 0)
  case atStart => exact ⟨rfl, rfl⟩
  case round =>
    obtain ⟨rfl, rfl⟩ := hrel
    go_wp2
    go_ret
    exact ⟨rfl, rfl⟩
set_option maxHeartbeats 3200000 in
theorem markComingS_core (g n c k : Nat) (S : Nat → Prop) (P : Nat → Nat → Prop) (F0 : Nat → Value) (us : List Cmg) (w : World) (hn : n ≤ 1048576) (hk : 0 < k) (hk1 : k + tot nCmg us ≤ 4000000000000000000) (hSg : S g) (hSP : ∀ i, i < n → ∀ y, P i y → S y) (ho : LOpen 90 5 EOCmg w g n c F0 P us) :
    Calls Try.prog 28 #[.slice (some ⟨g, 0, none⟩) n c, .int .i64 k] w fun e w' => ∃ F, e = .returned (.int .i64 ((k + tot nCmg us : Nat) : Int)) ∧ LOpen 90 5 EOCmg w' g n c F P (mL mCmg nCmg k us) ∧ Foot w w' S := by
  have hc := ho.mine.le
  have hlen := Seg.hid ho.len
  have HM : Hid (LOpen 90 5 EOCmg w g n c F0 P (mid mCmg nCmg k 0 us) ∧ Foot w w S) := ⟨by rw [mid_zero]; exact ho, Foot.refl _ _⟩
  have HSG := Seg.hid hSg; have HSP := Seg.hid hSP
  have KL : Hid (∀ j, j < n → k + tot nCmg (us.take j) + nCmg (us.getD j default) ≤ 4000000000000000000) := fun j hj => by
    have a1 := tot_take nCmg (ts := us) (j := j) (by rw [hlen.out]; exact hj)
    have a2 := tot_le nCmg us (j + 1)
    omega
  have KE : Hid (k + tot nCmg (us.take n) = k + tot nCmg us) := by show _ = _; rw [← hlen.out, List.take_length]
  clear ho hSg hSP hk1
  go_enter Try.func28, Try.ntmps28
  go_wp2
  go_loopw [1, 5] (fun x i wr => ∃ (j : Nat) (F : Nat → Value), j ≤ n ∧ i = .int .i64 j ∧ x = .int .i64 ((k + tot nCmg (us.take j) : Nat) : Int) ∧ Hid (LOpen 90 5 EOCmg wr g n c F P (mid mCmg nCmg k j us) ∧ Foot w wr S)) (fun _ i _ => n - (intOf i).toNat)
  case atStart => exact ⟨0, F0, Nat.zero_le _, rfl, rfl, HM.out⟩
  case round =>
    clear HM
    obtain ⟨j, F, hj, rfl, rfl, HR⟩ := hrel
    by_cases hlt : j < n
    · have h0 : (0 : Int) ≤ (j : Int) := by omega
      have h1 : (j : Int) < (n : Int) := by omega
      have EL := HR.out.1.el j hlt
      rw [mid_get mCmg nCmg (by rw [hlen.out]; exact hlt)] at EL
      have MS := mid_step mCmg nCmg (k := k) (ts := us) (j := j) (by rw [hlen.out]; exact hlt)
      have TK := Seg.hid (tot_take nCmg (ts := us) (j := j) (by rw [hlen.out]; exact hlt))
      have hxb := KL.out j hlt
      have HAP := Seg.hid (HR.out.1.apart j hlt)
      obtain ⟨x, hx⟩ : ∃ x, k + tot nCmg (us.take j) = x := ⟨_, rfl⟩
      have HX := Seg.hid hx
      rw [hx] at hxb MS ⊢
      have hx0 : 0 < x := by omega
      clear hx
      have MS' := Seg.hid MS
      clear MS
      generalize us.getD j default = u at *
      have HXB := Seg.hid hxb
      clear hxb
      obtain ⟨⟨s0, s1, s3, s4⟩, Q, q1, q2, l2⟩ := EL
      obtain ⟨A2, c2, g2⟩ := l2.form
      have O0_2 : Hid (IntsOwn wr (Q 2) (.slice A2 u.row.length c2) u.row) := by
        have := l2
        rw [g2] at this
        exact this
      have QP := Seg.hid q1
      have QD := Seg.hid q2
      have R0 : Hid (Rnd 90 5 g n c (P j) w wr wr S F j [.int .i64 u.src, .int .i64 u.time, .slice A2 u.row.length c2, .bool u.gone, .int .i64 u.mark]) := Rnd.start HR.out.1.mine HR.out.2 rfl (fun q hq => by
        match q, hq with
        | 0, _ => exact s0
        | 1, _ => exact s1
        | 2, _ => exact g2
        | 3, _ => exact s3
        | 4, _ => exact s4)
      clear s0 s1 s3 s4 l2 g2 q1 q2
      have QG : Hid (∀ i y, Q i y → y ≠ g) := fun i y hy => (HAP.out y (QP.out i y hy)).1
      have QL : Hid (∀ i y, Q i y → y < wr.heap.size) := fun i y hy => (HAP.out y (QP.out i y hy)).2
      have HB_x : Hid (x + 4 + tot nI u.row ≤ 4000000000000000000) := by show _ ≤ _; have := HXB.out; simp only [nCmg] at this; omega
      have hc_x : x + 3 ≤ 4000000000000000000 + 3 := by have := HB_x.out; omega
      have hd_x : x + 2 ≤ 4000000000000000000 := by have := HB_x.out; omega
      have d0 : (wr).cell? ⟨g, j * 5, none⟩ = some (.int .i64 u.src) := R0.out.cell hlt 0 (by omega)
      have f0 : (wr).frozen? ⟨g, j * 5, none⟩ = false := R0.out.frozen _
      have R1 : Hid (Rnd 90 5 g n c (P j) w wr (wr.setCell ⟨g, j * 5, none⟩ (.int .i64 ((x : Int)))) S F j [.int .i64 ((x : Int)), .int .i64 u.time, .slice A2 u.row.length c2, .bool u.gone, .int .i64 u.mark]) := R0.out.set HSG.out 0 (by omega) (.int .i64 ((x : Int)))
      have O1_2 : Hid (IntsOwn (wr.setCell ⟨g, j * 5, none⟩ (.int .i64 ((x : Int)))) (Q 2) (.slice A2 u.row.length c2) (u.row)) := O0_2.out.set keepsOI _ (QG.out 2) _
      have d1 : ((wr.setCell ⟨g, j * 5, none⟩ (.int .i64 ((x : Int))))).cell? ⟨g, j * 5 + 1, none⟩ = some (.int .i64 u.time) := R1.out.cell hlt 1 (by omega)
      have f1 : ((wr.setCell ⟨g, j * 5, none⟩ (.int .i64 ((x : Int))))).frozen? ⟨g, j * 5 + 1, none⟩ = false := R1.out.frozen _
      have R2 : Hid (Rnd 90 5 g n c (P j) w wr ((wr.setCell ⟨g, j * 5, none⟩ (.int .i64 ((x : Int)))).setCell ⟨g, j * 5 + 1, none⟩ (.int .i64 ((x : Int) + 1))) S F j [.int .i64 ((x : Int)), .int .i64 ((x : Int) + 1), .slice A2 u.row.length c2, .bool u.gone, .int .i64 u.mark]) := R1.out.set HSG.out 1 (by omega) (.int .i64 ((x : Int) + 1))
      have O2_2 : Hid (IntsOwn ((wr.setCell ⟨g, j * 5, none⟩ (.int .i64 ((x : Int)))).setCell ⟨g, j * 5 + 1, none⟩ (.int .i64 ((x : Int) + 1))) (Q 2) (.slice A2 u.row.length c2) (u.row)) := O1_2.out.set keepsOI _ (QG.out 2) _
      have d2 : (((wr.setCell ⟨g, j * 5, none⟩ (.int .i64 ((x : Int)))).setCell ⟨g, j * 5 + 1, none⟩ (.int .i64 ((x : Int) + 1)))).cell? ⟨g, j * 5 + 2, none⟩ = some (.slice A2 u.row.length c2) := R2.out.cell hlt 2 (by omega)
      go_wp2_with fail
      clear d0 f0 d1 f1 d2
      refine (markIntS_own _ (x + 2) (by omega) (Q 2) u.row ((wr.setCell ⟨g, j * 5, none⟩ (.int .i64 ((x : Int)))).setCell ⟨g, j * 5 + 1, none⟩ (.int .i64 ((x : Int) + 1))) (by omega) (by have := HB_x.out; omega) O2_2.out).mono ?_
      rintro e w1 ⟨rfl, o1, t1⟩
      have R3 : Hid (Rnd 90 5 g n c (P j) w wr w1 S F j [.int .i64 ((x : Int)), .int .i64 ((x : Int) + 1), .slice A2 u.row.length c2, .bool u.gone, .int .i64 u.mark]) := R2.out.foot t1 (QP.out 2) (fun h => (HAP.out g h).1 rfl) (HSP.out j hlt)
      have O3_2 : Hid (IntsOwn w1 (Q 2) (.slice A2 u.row.length c2) (mL mI nI (x + 2) u.row)) := o1
      clear o1 t1
      obtain ⟨y1, hy1⟩ : ∃ y1, x + 2 + tot nI u.row = y1 := ⟨_, rfl⟩
      rw [hy1]
      have Hy1 := Seg.hid hy1
      have HB_y1 : Hid (y1 + 2 ≤ 4000000000000000000) := by show _ ≤ _; have := HB_x.out; omega
      have hd_y1 : y1 + 2 ≤ 4000000000000000000 := by have := HB_y1.out; omega
      have hp_y1 : 0 < y1 := by omega
      clear hy1
      have d3 : (w1).cell? ⟨g, j * 5 + 3, none⟩ = some (.bool u.gone) := R3.out.cell hlt 3 (by omega)
      have f3 : (w1).frozen? ⟨g, j * 5 + 3, none⟩ = false := R3.out.frozen _
      have R4 : Hid (Rnd 90 5 g n c (P j) w wr (w1.setCell ⟨g, j * 5 + 3, none⟩ (.bool (((y1 : Int)) % 3 == 0))) S F j [.int .i64 ((x : Int)), .int .i64 ((x : Int) + 1), .slice A2 u.row.length c2, .bool (((y1 : Int)) % 3 == 0), .int .i64 u.mark]) := R3.out.set HSG.out 3 (by omega) (.bool (((y1 : Int)) % 3 == 0))
      have O4_2 : Hid (IntsOwn (w1.setCell ⟨g, j * 5 + 3, none⟩ (.bool (((y1 : Int)) % 3 == 0))) (Q 2) (.slice A2 u.row.length c2) (mL mI nI (x + 2) u.row)) := O3_2.out.set keepsOI _ (QG.out 2) _
      have d4 : ((w1.setCell ⟨g, j * 5 + 3, none⟩ (.bool (((y1 : Int)) % 3 == 0)))).cell? ⟨g, j * 5 + 4, none⟩ = some (.int .i64 u.mark) := R4.out.cell hlt 4 (by omega)
      have f4 : ((w1.setCell ⟨g, j * 5 + 3, none⟩ (.bool (((y1 : Int)) % 3 == 0)))).frozen? ⟨g, j * 5 + 4, none⟩ = false := R4.out.frozen _
      have R5 : Hid (Rnd 90 5 g n c (P j) w wr ((w1.setCell ⟨g, j * 5 + 3, none⟩ (.bool (((y1 : Int)) % 3 == 0))).setCell ⟨g, j * 5 + 4, none⟩ (.int .i64 ((y1 : Int) + 1))) S F j [.int .i64 ((x : Int)), .int .i64 ((x : Int) + 1), .slice A2 u.row.length c2, .bool (((y1 : Int)) % 3 == 0), .int .i64 ((y1 : Int) + 1)]) := R4.out.set HSG.out 4 (by omega) (.int .i64 ((y1 : Int) + 1))
      have O5_2 : Hid (IntsOwn ((w1.setCell ⟨g, j * 5 + 3, none⟩ (.bool (((y1 : Int)) % 3 == 0))).setCell ⟨g, j * 5 + 4, none⟩ (.int .i64 ((y1 : Int) + 1))) (Q 2) (.slice A2 u.row.length c2) (mL mI nI (x + 2) u.row)) := O4_2.out.set keepsOI _ (QG.out 2) _
      have EE : Hid (EOCmg ((w1.setCell ⟨g, j * 5 + 3, none⟩ (.bool (((y1 : Int)) % 3 == 0))).setCell ⟨g, j * 5 + 4, none⟩ (.int .i64 ((y1 : Int) + 1))) (P j) (fun q => [.int .i64 ((x : Int)), .int .i64 ((x : Int) + 1), .slice A2 u.row.length c2, .bool (((y1 : Int)) % 3 == 0), .int .i64 ((y1 : Int) + 1)].getD q default) (mCmg x u)) := by
        refine ⟨⟨?_, ?_, ?_, ?_⟩, Q, QP.out, QD.out, ?_⟩
        · exact congrArg (Value.int .i64) (show (x : Int) = (((x + 0) : Nat) : Int) by have z0 := Hy1.out; omega)
        · exact congrArg (Value.int .i64) (show (x : Int) + 1 = (((x + 1) : Nat) : Int) by have z0 := Hy1.out; omega)
        · exact congrArg (fun z : Int => Value.bool (z % 3 == 0)) (show (y1 : Int) = (((x + 2 + tot nI u.row) : Nat) : Int) by have z0 := Hy1.out; omega)
        · exact congrArg (Value.int .i64) (show (y1 : Int) + 1 = (((x + 3 + tot nI u.row) : Nat) : Int) by have z0 := Hy1.out; omega)
        · have hz : x + 2 = (x + 2) := by (have z0 := Hy1.out; omega)
          have ho := O5_2.out
          rw [hz] at ho
          exact ho
      obtain ⟨F', L', F2⟩ := Rnd.done keepsOCmg (t := mCmg x u) HR.out.1 hlt R5.out EE.out
      rw [MS'.out] at L'
      have L2 := Seg.hid L'
      have F3 := Seg.hid F2
      clear L' F2
      have HKK : Hid ((y1 : Int) + 1 + 1 = ((k + tot nCmg (us.take (j + 1)) : Nat) : Int)) := by
        show _ = _
        have z0 := Hy1.out; have a1 := TK.out; have a2 := HX.out; simp only [nCmg] at a1; omega
      go_wp2
      clear d3 f3 d4 f4
      go_roundw
      case rel => exact ⟨j + 1, F', by omega, by go_num, congrArg (Value.int .i64) HKK.out, L2.out, F3.out⟩
      case measure => simp [intOf]; omega
    · have : j = n := by omega
      subst this
      have E := HR.out
      rw [show mid mCmg nCmg k j us = mL mCmg nCmg k us by rw [← hlen.out]; exact mid_all _ _ _ _] at E
      have EH' := Seg.hid E
      clear E
      rw [KE.out]
      go_wp2
      go_ret
      exact ⟨F, rfl, EH'.out⟩
theorem markComingS_own (x : Int) (k : Nat) (hx : x = (k : Int)) (S : Nat → Prop) (us : List Cmg) (w : World) {v : Value} (hk : 0 < k) (hk1 : k + tot nCmg us ≤ 4000000000000000000) (hv : CmgsOwn w S v us) :
    Calls Try.prog 28 #[v, .int .i64 x] w fun e w' => e = .returned (.int .i64 ((k + tot nCmg us : Nat) : Int)) ∧ CmgsOwn w' S v (mL mCmg nCmg k us) ∧ Foot w w' S := by
  subst hx
  obtain ⟨h0, A, c, rfl, h⟩ := hv
  by_cases hz : us.length = 0
  · obtain rfl := List.length_eq_zero_iff.1 hz
    exact (markComingS_none A c k w).mono fun e w' ⟨h1, h2⟩ => by
      subst h2
      exact ⟨by rw [h1]; rfl, LOwn.nil _ _ _ _, Foot.refl _ _⟩
  obtain ⟨g, F, P, rfl, h3, h4, h5⟩ := h.resolve_left hz
  refine (markComingS_core g us.length c k S P F us w h0 hk hk1 h3 h4 h5).mono fun e w' ⟨F', a1, a2, a3⟩ => ⟨a1, ⟨by rw [mL_len]; exact h0, _, c, by rw [mL_len], .inr ⟨g, F', P, rfl, h3, fun i hi => h4 i (by rw [mL_len] at hi; exact hi), ?_⟩⟩, a3⟩
  rw [mL_len]
  exact a2
end Go.Proofs.Ytkibaimemomjpaa.Ow
