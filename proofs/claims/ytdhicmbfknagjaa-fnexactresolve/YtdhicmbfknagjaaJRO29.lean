/- Lists of Field of the call's own; the law's marks on them; One Schema of the call's own; the law's marks on it. -/
import Derived.Test.YtdhicmbfknagjaaJRO28
import Derived.Test.YtdhicmbfknagjaaJRO06
import Derived.Test.YtdhicmbfknagjaaJRO15
namespace Go.Proofs.Ytdhicmbfknagjaa.Ow
set_option maxRecDepth 8000
open Go.RowKit
open Recs
open Ls
set_option linter.unusedVariables false
def EOFld : Elt Fld := fun w S f u => (f 0 = .string u.name ∧ f 1 = .int .i64 u.kind ∧ f 2 = .bool u.lst ∧ f 3 = .bool u.may ∧ f 5 = .bool u.fixd ∧ f 6 = .int .i64 u.vk ∧ f 7 = .int .i64 u.vn ∧ f 8 = .string u.vt ∧ f 9 = .bool u.vl) ∧ ∃ Q : Nat → Nat → Prop, (∀ i y, Q i y → S y) ∧ (∀ i j, i ≠ j → ∀ y, Q i y → ¬ Q j y) ∧ StrsOwn w (Q 4) (f 4) u.was ∧ ItmsOwn w (Q 10) (f 10) u.vi
theorem keepsOFld : KeepsO 11 EOFld := fun w w' S f f' t h hs hk hf => by
  obtain ⟨⟨s0, s1, s2, s3, s5, s6, s7, s8, s9⟩, Q, q1, q2, l4, l10⟩ := h
  exact ⟨⟨by rw [hf 0 (by omega)]; exact s0, by rw [hf 1 (by omega)]; exact s1, by rw [hf 2 (by omega)]; exact s2, by rw [hf 3 (by omega)]; exact s3, by rw [hf 5 (by omega)]; exact s5, by rw [hf 6 (by omega)]; exact s6, by rw [hf 7 (by omega)]; exact s7, by rw [hf 8 (by omega)]; exact s8, by rw [hf 9 (by omega)]; exact s9⟩, Q, q1, q2, by rw [hf 4 (by omega)]; exact l4.keep keepsOStr hs (fun g hg => hk g (q1 _ g hg)), by rw [hf 10 (by omega)]; exact l10.keep keepsOItm hs (fun g hg => hk g (q1 _ g hg))⟩
theorem atOFld (w : World) (S : Nat → Prop) (f : Nat → Value) (u : Fld) (h : EOFld w S f u) : EFld w S f u := by
  obtain ⟨⟨s0, s1, s2, s3, s5, s6, s7, s8, s9⟩, Q, q1, q2, l4, l10⟩ := h
  exact ⟨s0, s1, s2, s3, (LOwn.lat growsStr (fun _ _ _ _ h => h) l4).mono growsStr (q1 4), s5, s6, s7, s8, s9, (LOwn.lat growsItm atOItm l10).mono growsItm (q1 10)⟩
abbrev FldsOwn := LOwn 86 11 EOFld
def mFld (k : Nat) (u : Fld) : Fld := ⟨mt (k + 0), (((k + 1) : Nat) : Int), ((((k + 2) : Nat) : Int) % 3 == 0), ((((k + 3) : Nat) : Int) % 3 == 0), mL mX nX (k + 4) u.was, ((((k + 4 + tot nX u.was) : Nat) : Int) % 3 == 0), (((k + 5 + tot nX u.was) : Nat) : Int), (((k + 6 + tot nX u.was) : Nat) : Int), mt (k + 7 + tot nX u.was), ((((k + 8 + tot nX u.was) : Nat) : Int) % 3 == 0), mL mItm nItm (k + 9 + tot nX u.was) u.vi⟩
def nFld (u : Fld) : Nat := 9 + tot nX u.was + tot nItm u.vi
theorem markFieldS_none (A : Option Addr) (c : Nat) (k : Int) (w : World) : Calls Try.prog 52 #[.slice A 0 c, .int .i64 k] w fun e w' => e = .returned (.int .i64 k) ∧ w = w' := by
  go_enter Try.func52, Try.ntmps52
  go_wp2
  go_loop [1, 5] (fun x i => i = .int .i64 0 ∧ x = .int .i64 k) (fun _ _ => 0)
  case atStart => exact ⟨rfl, rfl⟩
  case round =>
    obtain ⟨rfl, rfl⟩ := hrel
    go_wp2
    go_ret
    exact ⟨rfl, rfl⟩
set_option maxHeartbeats 3200000 in
theorem markFieldS_core (g n c k : Nat) (S : Nat → Prop) (P : Nat → Nat → Prop) (F0 : Nat → Value) (us : List Fld) (w : World) (hn : n ≤ 1048576) (hk : 0 < k) (hk1 : k + tot nFld us ≤ 4000000000000000000) (hSg : S g) (hSP : ∀ i, i < n → ∀ y, P i y → S y) (ho : LOpen 86 11 EOFld w g n c F0 P us) :
    Calls Try.prog 52 #[.slice (some ⟨g, 0, none⟩) n c, .int .i64 k] w fun e w' => ∃ F, e = .returned (.int .i64 ((k + tot nFld us : Nat) : Int)) ∧ LOpen 86 11 EOFld w' g n c F P (mL mFld nFld k us) ∧ Foot w w' S := by
  have hc := ho.mine.le
  have hlen := Seg.hid ho.len
  have HM : Hid (LOpen 86 11 EOFld w g n c F0 P (mid mFld nFld k 0 us) ∧ Foot w w S) := ⟨by rw [mid_zero]; exact ho, Foot.refl _ _⟩
  have HSG := Seg.hid hSg; have HSP := Seg.hid hSP
  have KL : Hid (∀ j, j < n → k + tot nFld (us.take j) + nFld (us.getD j default) ≤ 4000000000000000000) := fun j hj => by
    have a1 := tot_take nFld (ts := us) (j := j) (by rw [hlen.out]; exact hj)
    have a2 := tot_le nFld us (j + 1)
    omega
  have KE : Hid (k + tot nFld (us.take n) = k + tot nFld us) := by show _ = _; rw [← hlen.out, List.take_length]
  clear ho hSg hSP hk1
  go_enter Try.func52, Try.ntmps52
  go_wp2
  go_loopw [1, 5] (fun x i wr => ∃ (j : Nat) (F : Nat → Value), j ≤ n ∧ i = .int .i64 j ∧ x = .int .i64 ((k + tot nFld (us.take j) : Nat) : Int) ∧ Hid (LOpen 86 11 EOFld wr g n c F P (mid mFld nFld k j us) ∧ Foot w wr S)) (fun _ i _ => n - (intOf i).toNat)
  case atStart => exact ⟨0, F0, Nat.zero_le _, rfl, rfl, HM.out⟩
  case round =>
    clear HM
    obtain ⟨j, F, hj, rfl, rfl, HR⟩ := hrel
    by_cases hlt : j < n
    · have h0 : (0 : Int) ≤ (j : Int) := by omega
      have h1 : (j : Int) < (n : Int) := by omega
      have EL := HR.out.1.el j hlt
      rw [mid_get mFld nFld (by rw [hlen.out]; exact hlt)] at EL
      have MS := mid_step mFld nFld (k := k) (ts := us) (j := j) (by rw [hlen.out]; exact hlt)
      have TK := Seg.hid (tot_take nFld (ts := us) (j := j) (by rw [hlen.out]; exact hlt))
      have hxb := KL.out j hlt
      have HAP := Seg.hid (HR.out.1.apart j hlt)
      obtain ⟨x, hx⟩ : ∃ x, k + tot nFld (us.take j) = x := ⟨_, rfl⟩
      have HX := Seg.hid hx
      rw [hx] at hxb MS ⊢
      have hx0 : 0 < x := by omega
      clear hx
      have MS' := Seg.hid MS
      clear MS
      generalize us.getD j default = u at *
      have HXB := Seg.hid hxb
      clear hxb
      obtain ⟨⟨s0, s1, s2, s3, s5, s6, s7, s8, s9⟩, Q, q1, q2, l4, l10⟩ := EL
      obtain ⟨A4, c4, g4⟩ := l4.form
      have O0_4 : Hid (StrsOwn wr (Q 4) (.slice A4 u.was.length c4) u.was) := by
        have := l4
        rw [g4] at this
        exact this
      obtain ⟨A10, c10, g10⟩ := l10.form
      have O0_10 : Hid (ItmsOwn wr (Q 10) (.slice A10 u.vi.length c10) u.vi) := by
        have := l10
        rw [g10] at this
        exact this
      have QP := Seg.hid q1
      have QD := Seg.hid q2
      have R0 : Hid (Rnd 86 11 g n c (P j) w wr wr S F j [.string u.name, .int .i64 u.kind, .bool u.lst, .bool u.may, .slice A4 u.was.length c4, .bool u.fixd, .int .i64 u.vk, .int .i64 u.vn, .string u.vt, .bool u.vl, .slice A10 u.vi.length c10]) := Rnd.start HR.out.1.mine HR.out.2 rfl (fun q hq => by
        match q, hq with
        | 0, _ => exact s0
        | 1, _ => exact s1
        | 2, _ => exact s2
        | 3, _ => exact s3
        | 4, _ => exact g4
        | 5, _ => exact s5
        | 6, _ => exact s6
        | 7, _ => exact s7
        | 8, _ => exact s8
        | 9, _ => exact s9
        | 10, _ => exact g10)
      clear s0 s1 s2 s3 s5 s6 s7 s8 s9 l4 g4 l10 g10 q1 q2
      have QG : Hid (∀ i y, Q i y → y ≠ g) := fun i y hy => (HAP.out y (QP.out i y hy)).1
      have QL : Hid (∀ i y, Q i y → y < wr.heap.size) := fun i y hy => (HAP.out y (QP.out i y hy)).2
      have HB_x : Hid (x + 9 + tot nX u.was + tot nItm u.vi ≤ 4000000000000000000) := by show _ ≤ _; have := HXB.out; simp only [nFld] at this; omega
      have hc_x : x + 5 ≤ 4000000000000000000 + 5 := by have := HB_x.out; omega
      have hd_x : x + 4 ≤ 4000000000000000000 := by have := HB_x.out; omega
      go_wp2_with fail
      refine (markText_at _ (x) (by omega) wr (by omega) (by omega)).mono ?_
      rintro e w1 ⟨rfl, b1⟩
      have R1 : Hid (Rnd 86 11 g n c (P j) w wr w1 S F j [.string u.name, .int .i64 u.kind, .bool u.lst, .bool u.may, .slice A4 u.was.length c4, .bool u.fixd, .int .i64 u.vk, .int .i64 u.vn, .string u.vt, .bool u.vl, .slice A10 u.vi.length c10]) := R0.out.below b1
      have O1_4 : Hid (StrsOwn w1 (Q 4) (.slice A4 u.was.length c4) (u.was)) := O0_4.out.belowO keepsOStr b1 (fun y hy => Nat.lt_of_lt_of_le (QL.out 4 y hy) R0.out.le)
      have O1_10 : Hid (ItmsOwn w1 (Q 10) (.slice A10 u.vi.length c10) (u.vi)) := O0_10.out.belowO keepsOItm b1 (fun y hy => Nat.lt_of_lt_of_le (QL.out 10 y hy) R0.out.le)
      clear b1
      have d0 : (w1).cell? ⟨g, j * 11, none⟩ = some (.string u.name) := R1.out.cell hlt 0 (by omega)
      have f0 : (w1).frozen? ⟨g, j * 11, none⟩ = false := R1.out.frozen _
      have R2 : Hid (Rnd 86 11 g n c (P j) w wr (w1.setCell ⟨g, j * 11, none⟩ (.string (mt (x)))) S F j [.string (mt (x)), .int .i64 u.kind, .bool u.lst, .bool u.may, .slice A4 u.was.length c4, .bool u.fixd, .int .i64 u.vk, .int .i64 u.vn, .string u.vt, .bool u.vl, .slice A10 u.vi.length c10]) := R1.out.set HSG.out 0 (by omega) (.string (mt (x)))
      have O2_4 : Hid (StrsOwn (w1.setCell ⟨g, j * 11, none⟩ (.string (mt (x)))) (Q 4) (.slice A4 u.was.length c4) (u.was)) := O1_4.out.set keepsOStr _ (QG.out 4) _
      have O2_10 : Hid (ItmsOwn (w1.setCell ⟨g, j * 11, none⟩ (.string (mt (x)))) (Q 10) (.slice A10 u.vi.length c10) (u.vi)) := O1_10.out.set keepsOItm _ (QG.out 10) _
      have d1 : ((w1.setCell ⟨g, j * 11, none⟩ (.string (mt (x))))).cell? ⟨g, j * 11 + 1, none⟩ = some (.int .i64 u.kind) := R2.out.cell hlt 1 (by omega)
      have f1 : ((w1.setCell ⟨g, j * 11, none⟩ (.string (mt (x))))).frozen? ⟨g, j * 11 + 1, none⟩ = false := R2.out.frozen _
      have R3 : Hid (Rnd 86 11 g n c (P j) w wr ((w1.setCell ⟨g, j * 11, none⟩ (.string (mt (x)))).setCell ⟨g, j * 11 + 1, none⟩ (.int .i64 ((x : Int) + 1))) S F j [.string (mt (x)), .int .i64 ((x : Int) + 1), .bool u.lst, .bool u.may, .slice A4 u.was.length c4, .bool u.fixd, .int .i64 u.vk, .int .i64 u.vn, .string u.vt, .bool u.vl, .slice A10 u.vi.length c10]) := R2.out.set HSG.out 1 (by omega) (.int .i64 ((x : Int) + 1))
      have O3_4 : Hid (StrsOwn ((w1.setCell ⟨g, j * 11, none⟩ (.string (mt (x)))).setCell ⟨g, j * 11 + 1, none⟩ (.int .i64 ((x : Int) + 1))) (Q 4) (.slice A4 u.was.length c4) (u.was)) := O2_4.out.set keepsOStr _ (QG.out 4) _
      have O3_10 : Hid (ItmsOwn ((w1.setCell ⟨g, j * 11, none⟩ (.string (mt (x)))).setCell ⟨g, j * 11 + 1, none⟩ (.int .i64 ((x : Int) + 1))) (Q 10) (.slice A10 u.vi.length c10) (u.vi)) := O2_10.out.set keepsOItm _ (QG.out 10) _
      have d2 : (((w1.setCell ⟨g, j * 11, none⟩ (.string (mt (x)))).setCell ⟨g, j * 11 + 1, none⟩ (.int .i64 ((x : Int) + 1)))).cell? ⟨g, j * 11 + 2, none⟩ = some (.bool u.lst) := R3.out.cell hlt 2 (by omega)
      have f2 : (((w1.setCell ⟨g, j * 11, none⟩ (.string (mt (x)))).setCell ⟨g, j * 11 + 1, none⟩ (.int .i64 ((x : Int) + 1)))).frozen? ⟨g, j * 11 + 2, none⟩ = false := R3.out.frozen _
      have R4 : Hid (Rnd 86 11 g n c (P j) w wr (((w1.setCell ⟨g, j * 11, none⟩ (.string (mt (x)))).setCell ⟨g, j * 11 + 1, none⟩ (.int .i64 ((x : Int) + 1))).setCell ⟨g, j * 11 + 2, none⟩ (.bool (((x : Int) + 1 + 1) % 3 == 0))) S F j [.string (mt (x)), .int .i64 ((x : Int) + 1), .bool (((x : Int) + 1 + 1) % 3 == 0), .bool u.may, .slice A4 u.was.length c4, .bool u.fixd, .int .i64 u.vk, .int .i64 u.vn, .string u.vt, .bool u.vl, .slice A10 u.vi.length c10]) := R3.out.set HSG.out 2 (by omega) (.bool (((x : Int) + 1 + 1) % 3 == 0))
      have O4_4 : Hid (StrsOwn (((w1.setCell ⟨g, j * 11, none⟩ (.string (mt (x)))).setCell ⟨g, j * 11 + 1, none⟩ (.int .i64 ((x : Int) + 1))).setCell ⟨g, j * 11 + 2, none⟩ (.bool (((x : Int) + 1 + 1) % 3 == 0))) (Q 4) (.slice A4 u.was.length c4) (u.was)) := O3_4.out.set keepsOStr _ (QG.out 4) _
      have O4_10 : Hid (ItmsOwn (((w1.setCell ⟨g, j * 11, none⟩ (.string (mt (x)))).setCell ⟨g, j * 11 + 1, none⟩ (.int .i64 ((x : Int) + 1))).setCell ⟨g, j * 11 + 2, none⟩ (.bool (((x : Int) + 1 + 1) % 3 == 0))) (Q 10) (.slice A10 u.vi.length c10) (u.vi)) := O3_10.out.set keepsOItm _ (QG.out 10) _
      have d3 : ((((w1.setCell ⟨g, j * 11, none⟩ (.string (mt (x)))).setCell ⟨g, j * 11 + 1, none⟩ (.int .i64 ((x : Int) + 1))).setCell ⟨g, j * 11 + 2, none⟩ (.bool (((x : Int) + 1 + 1) % 3 == 0)))).cell? ⟨g, j * 11 + 3, none⟩ = some (.bool u.may) := R4.out.cell hlt 3 (by omega)
      have f3 : ((((w1.setCell ⟨g, j * 11, none⟩ (.string (mt (x)))).setCell ⟨g, j * 11 + 1, none⟩ (.int .i64 ((x : Int) + 1))).setCell ⟨g, j * 11 + 2, none⟩ (.bool (((x : Int) + 1 + 1) % 3 == 0)))).frozen? ⟨g, j * 11 + 3, none⟩ = false := R4.out.frozen _
      have R5 : Hid (Rnd 86 11 g n c (P j) w wr ((((w1.setCell ⟨g, j * 11, none⟩ (.string (mt (x)))).setCell ⟨g, j * 11 + 1, none⟩ (.int .i64 ((x : Int) + 1))).setCell ⟨g, j * 11 + 2, none⟩ (.bool (((x : Int) + 1 + 1) % 3 == 0))).setCell ⟨g, j * 11 + 3, none⟩ (.bool (((x : Int) + 1 + 1 + 1) % 3 == 0))) S F j [.string (mt (x)), .int .i64 ((x : Int) + 1), .bool (((x : Int) + 1 + 1) % 3 == 0), .bool (((x : Int) + 1 + 1 + 1) % 3 == 0), .slice A4 u.was.length c4, .bool u.fixd, .int .i64 u.vk, .int .i64 u.vn, .string u.vt, .bool u.vl, .slice A10 u.vi.length c10]) := R4.out.set HSG.out 3 (by omega) (.bool (((x : Int) + 1 + 1 + 1) % 3 == 0))
      have O5_4 : Hid (StrsOwn ((((w1.setCell ⟨g, j * 11, none⟩ (.string (mt (x)))).setCell ⟨g, j * 11 + 1, none⟩ (.int .i64 ((x : Int) + 1))).setCell ⟨g, j * 11 + 2, none⟩ (.bool (((x : Int) + 1 + 1) % 3 == 0))).setCell ⟨g, j * 11 + 3, none⟩ (.bool (((x : Int) + 1 + 1 + 1) % 3 == 0))) (Q 4) (.slice A4 u.was.length c4) (u.was)) := O4_4.out.set keepsOStr _ (QG.out 4) _
      have O5_10 : Hid (ItmsOwn ((((w1.setCell ⟨g, j * 11, none⟩ (.string (mt (x)))).setCell ⟨g, j * 11 + 1, none⟩ (.int .i64 ((x : Int) + 1))).setCell ⟨g, j * 11 + 2, none⟩ (.bool (((x : Int) + 1 + 1) % 3 == 0))).setCell ⟨g, j * 11 + 3, none⟩ (.bool (((x : Int) + 1 + 1 + 1) % 3 == 0))) (Q 10) (.slice A10 u.vi.length c10) (u.vi)) := O4_10.out.set keepsOItm _ (QG.out 10) _
      have d4 : (((((w1.setCell ⟨g, j * 11, none⟩ (.string (mt (x)))).setCell ⟨g, j * 11 + 1, none⟩ (.int .i64 ((x : Int) + 1))).setCell ⟨g, j * 11 + 2, none⟩ (.bool (((x : Int) + 1 + 1) % 3 == 0))).setCell ⟨g, j * 11 + 3, none⟩ (.bool (((x : Int) + 1 + 1 + 1) % 3 == 0)))).cell? ⟨g, j * 11 + 4, none⟩ = some (.slice A4 u.was.length c4) := R5.out.cell hlt 4 (by omega)
      go_wp2_with fail
      clear d0 f0 d1 f1 d2 f2 d3 f3 d4
      refine (markStringS_own _ (x + 4) (by omega) (Q 4) u.was ((((w1.setCell ⟨g, j * 11, none⟩ (.string (mt (x)))).setCell ⟨g, j * 11 + 1, none⟩ (.int .i64 ((x : Int) + 1))).setCell ⟨g, j * 11 + 2, none⟩ (.bool (((x : Int) + 1 + 1) % 3 == 0))).setCell ⟨g, j * 11 + 3, none⟩ (.bool (((x : Int) + 1 + 1 + 1) % 3 == 0))) (by omega) (by have := HB_x.out; omega) O5_4.out).mono ?_
      rintro e w2 ⟨rfl, o2, t2⟩
      have R6 : Hid (Rnd 86 11 g n c (P j) w wr w2 S F j [.string (mt (x)), .int .i64 ((x : Int) + 1), .bool (((x : Int) + 1 + 1) % 3 == 0), .bool (((x : Int) + 1 + 1 + 1) % 3 == 0), .slice A4 u.was.length c4, .bool u.fixd, .int .i64 u.vk, .int .i64 u.vn, .string u.vt, .bool u.vl, .slice A10 u.vi.length c10]) := R5.out.foot t2 (QP.out 4) (fun h => (HAP.out g h).1 rfl) (HSP.out j hlt)
      have O6_4 : Hid (StrsOwn w2 (Q 4) (.slice A4 u.was.length c4) (mL mX nX (x + 4) u.was)) := o2
      have O6_10 : Hid (ItmsOwn w2 (Q 10) (.slice A10 u.vi.length c10) (u.vi)) := O5_10.out.footO keepsOItm t2 (fun y hy => Nat.lt_of_lt_of_le (QL.out 10 y hy) R5.out.le) (QD.out 10 4 (by omega))
      clear o2 t2
      obtain ⟨y2, hy2⟩ : ∃ y2, x + 4 + tot nX u.was = y2 := ⟨_, rfl⟩
      rw [hy2]
      have Hy2 := Seg.hid hy2
      have HB_y2 : Hid (y2 + 5 + tot nItm u.vi ≤ 4000000000000000000) := by show _ ≤ _; have := HB_x.out; omega
      have hd_y2 : y2 + 5 ≤ 4000000000000000000 := by have := HB_y2.out; omega
      have hp_y2 : 0 < y2 := by omega
      clear hy2
      have d5 : (w2).cell? ⟨g, j * 11 + 5, none⟩ = some (.bool u.fixd) := R6.out.cell hlt 5 (by omega)
      have f5 : (w2).frozen? ⟨g, j * 11 + 5, none⟩ = false := R6.out.frozen _
      have R7 : Hid (Rnd 86 11 g n c (P j) w wr (w2.setCell ⟨g, j * 11 + 5, none⟩ (.bool (((y2 : Int)) % 3 == 0))) S F j [.string (mt (x)), .int .i64 ((x : Int) + 1), .bool (((x : Int) + 1 + 1) % 3 == 0), .bool (((x : Int) + 1 + 1 + 1) % 3 == 0), .slice A4 u.was.length c4, .bool (((y2 : Int)) % 3 == 0), .int .i64 u.vk, .int .i64 u.vn, .string u.vt, .bool u.vl, .slice A10 u.vi.length c10]) := R6.out.set HSG.out 5 (by omega) (.bool (((y2 : Int)) % 3 == 0))
      have O7_4 : Hid (StrsOwn (w2.setCell ⟨g, j * 11 + 5, none⟩ (.bool (((y2 : Int)) % 3 == 0))) (Q 4) (.slice A4 u.was.length c4) (mL mX nX (x + 4) u.was)) := O6_4.out.set keepsOStr _ (QG.out 4) _
      have O7_10 : Hid (ItmsOwn (w2.setCell ⟨g, j * 11 + 5, none⟩ (.bool (((y2 : Int)) % 3 == 0))) (Q 10) (.slice A10 u.vi.length c10) (u.vi)) := O6_10.out.set keepsOItm _ (QG.out 10) _
      have d6 : ((w2.setCell ⟨g, j * 11 + 5, none⟩ (.bool (((y2 : Int)) % 3 == 0)))).cell? ⟨g, j * 11 + 6, none⟩ = some (.int .i64 u.vk) := R7.out.cell hlt 6 (by omega)
      have f6 : ((w2.setCell ⟨g, j * 11 + 5, none⟩ (.bool (((y2 : Int)) % 3 == 0)))).frozen? ⟨g, j * 11 + 6, none⟩ = false := R7.out.frozen _
      have R8 : Hid (Rnd 86 11 g n c (P j) w wr ((w2.setCell ⟨g, j * 11 + 5, none⟩ (.bool (((y2 : Int)) % 3 == 0))).setCell ⟨g, j * 11 + 6, none⟩ (.int .i64 ((y2 : Int) + 1))) S F j [.string (mt (x)), .int .i64 ((x : Int) + 1), .bool (((x : Int) + 1 + 1) % 3 == 0), .bool (((x : Int) + 1 + 1 + 1) % 3 == 0), .slice A4 u.was.length c4, .bool (((y2 : Int)) % 3 == 0), .int .i64 ((y2 : Int) + 1), .int .i64 u.vn, .string u.vt, .bool u.vl, .slice A10 u.vi.length c10]) := R7.out.set HSG.out 6 (by omega) (.int .i64 ((y2 : Int) + 1))
      have O8_4 : Hid (StrsOwn ((w2.setCell ⟨g, j * 11 + 5, none⟩ (.bool (((y2 : Int)) % 3 == 0))).setCell ⟨g, j * 11 + 6, none⟩ (.int .i64 ((y2 : Int) + 1))) (Q 4) (.slice A4 u.was.length c4) (mL mX nX (x + 4) u.was)) := O7_4.out.set keepsOStr _ (QG.out 4) _
      have O8_10 : Hid (ItmsOwn ((w2.setCell ⟨g, j * 11 + 5, none⟩ (.bool (((y2 : Int)) % 3 == 0))).setCell ⟨g, j * 11 + 6, none⟩ (.int .i64 ((y2 : Int) + 1))) (Q 10) (.slice A10 u.vi.length c10) (u.vi)) := O7_10.out.set keepsOItm _ (QG.out 10) _
      have d7 : (((w2.setCell ⟨g, j * 11 + 5, none⟩ (.bool (((y2 : Int)) % 3 == 0))).setCell ⟨g, j * 11 + 6, none⟩ (.int .i64 ((y2 : Int) + 1)))).cell? ⟨g, j * 11 + 7, none⟩ = some (.int .i64 u.vn) := R8.out.cell hlt 7 (by omega)
      have f7 : (((w2.setCell ⟨g, j * 11 + 5, none⟩ (.bool (((y2 : Int)) % 3 == 0))).setCell ⟨g, j * 11 + 6, none⟩ (.int .i64 ((y2 : Int) + 1)))).frozen? ⟨g, j * 11 + 7, none⟩ = false := R8.out.frozen _
      have R9 : Hid (Rnd 86 11 g n c (P j) w wr (((w2.setCell ⟨g, j * 11 + 5, none⟩ (.bool (((y2 : Int)) % 3 == 0))).setCell ⟨g, j * 11 + 6, none⟩ (.int .i64 ((y2 : Int) + 1))).setCell ⟨g, j * 11 + 7, none⟩ (.int .i64 ((y2 : Int) + 1 + 1))) S F j [.string (mt (x)), .int .i64 ((x : Int) + 1), .bool (((x : Int) + 1 + 1) % 3 == 0), .bool (((x : Int) + 1 + 1 + 1) % 3 == 0), .slice A4 u.was.length c4, .bool (((y2 : Int)) % 3 == 0), .int .i64 ((y2 : Int) + 1), .int .i64 ((y2 : Int) + 1 + 1), .string u.vt, .bool u.vl, .slice A10 u.vi.length c10]) := R8.out.set HSG.out 7 (by omega) (.int .i64 ((y2 : Int) + 1 + 1))
      have O9_4 : Hid (StrsOwn (((w2.setCell ⟨g, j * 11 + 5, none⟩ (.bool (((y2 : Int)) % 3 == 0))).setCell ⟨g, j * 11 + 6, none⟩ (.int .i64 ((y2 : Int) + 1))).setCell ⟨g, j * 11 + 7, none⟩ (.int .i64 ((y2 : Int) + 1 + 1))) (Q 4) (.slice A4 u.was.length c4) (mL mX nX (x + 4) u.was)) := O8_4.out.set keepsOStr _ (QG.out 4) _
      have O9_10 : Hid (ItmsOwn (((w2.setCell ⟨g, j * 11 + 5, none⟩ (.bool (((y2 : Int)) % 3 == 0))).setCell ⟨g, j * 11 + 6, none⟩ (.int .i64 ((y2 : Int) + 1))).setCell ⟨g, j * 11 + 7, none⟩ (.int .i64 ((y2 : Int) + 1 + 1))) (Q 10) (.slice A10 u.vi.length c10) (u.vi)) := O8_10.out.set keepsOItm _ (QG.out 10) _
      go_wp2_with fail
      clear d5 f5 d6 f6 d7 f7
      refine (markText_at _ (y2 + 3) (by omega) (((w2.setCell ⟨g, j * 11 + 5, none⟩ (.bool (((y2 : Int)) % 3 == 0))).setCell ⟨g, j * 11 + 6, none⟩ (.int .i64 ((y2 : Int) + 1))).setCell ⟨g, j * 11 + 7, none⟩ (.int .i64 ((y2 : Int) + 1 + 1))) (by omega) (by omega)).mono ?_
      rintro e w3 ⟨rfl, b3⟩
      have R10 : Hid (Rnd 86 11 g n c (P j) w wr w3 S F j [.string (mt (x)), .int .i64 ((x : Int) + 1), .bool (((x : Int) + 1 + 1) % 3 == 0), .bool (((x : Int) + 1 + 1 + 1) % 3 == 0), .slice A4 u.was.length c4, .bool (((y2 : Int)) % 3 == 0), .int .i64 ((y2 : Int) + 1), .int .i64 ((y2 : Int) + 1 + 1), .string u.vt, .bool u.vl, .slice A10 u.vi.length c10]) := R9.out.below b3
      have O10_4 : Hid (StrsOwn w3 (Q 4) (.slice A4 u.was.length c4) (mL mX nX (x + 4) u.was)) := O9_4.out.belowO keepsOStr b3 (fun y hy => Nat.lt_of_lt_of_le (QL.out 4 y hy) R9.out.le)
      have O10_10 : Hid (ItmsOwn w3 (Q 10) (.slice A10 u.vi.length c10) (u.vi)) := O9_10.out.belowO keepsOItm b3 (fun y hy => Nat.lt_of_lt_of_le (QL.out 10 y hy) R9.out.le)
      clear b3
      have d8 : (w3).cell? ⟨g, j * 11 + 8, none⟩ = some (.string u.vt) := R10.out.cell hlt 8 (by omega)
      have f8 : (w3).frozen? ⟨g, j * 11 + 8, none⟩ = false := R10.out.frozen _
      have R11 : Hid (Rnd 86 11 g n c (P j) w wr (w3.setCell ⟨g, j * 11 + 8, none⟩ (.string (mt (y2 + 3)))) S F j [.string (mt (x)), .int .i64 ((x : Int) + 1), .bool (((x : Int) + 1 + 1) % 3 == 0), .bool (((x : Int) + 1 + 1 + 1) % 3 == 0), .slice A4 u.was.length c4, .bool (((y2 : Int)) % 3 == 0), .int .i64 ((y2 : Int) + 1), .int .i64 ((y2 : Int) + 1 + 1), .string (mt (y2 + 3)), .bool u.vl, .slice A10 u.vi.length c10]) := R10.out.set HSG.out 8 (by omega) (.string (mt (y2 + 3)))
      have O11_4 : Hid (StrsOwn (w3.setCell ⟨g, j * 11 + 8, none⟩ (.string (mt (y2 + 3)))) (Q 4) (.slice A4 u.was.length c4) (mL mX nX (x + 4) u.was)) := O10_4.out.set keepsOStr _ (QG.out 4) _
      have O11_10 : Hid (ItmsOwn (w3.setCell ⟨g, j * 11 + 8, none⟩ (.string (mt (y2 + 3)))) (Q 10) (.slice A10 u.vi.length c10) (u.vi)) := O10_10.out.set keepsOItm _ (QG.out 10) _
      have d9 : ((w3.setCell ⟨g, j * 11 + 8, none⟩ (.string (mt (y2 + 3))))).cell? ⟨g, j * 11 + 9, none⟩ = some (.bool u.vl) := R11.out.cell hlt 9 (by omega)
      have f9 : ((w3.setCell ⟨g, j * 11 + 8, none⟩ (.string (mt (y2 + 3))))).frozen? ⟨g, j * 11 + 9, none⟩ = false := R11.out.frozen _
      have R12 : Hid (Rnd 86 11 g n c (P j) w wr ((w3.setCell ⟨g, j * 11 + 8, none⟩ (.string (mt (y2 + 3)))).setCell ⟨g, j * 11 + 9, none⟩ (.bool (((y2 : Int) + 1 + 1 + 1 + 1) % 3 == 0))) S F j [.string (mt (x)), .int .i64 ((x : Int) + 1), .bool (((x : Int) + 1 + 1) % 3 == 0), .bool (((x : Int) + 1 + 1 + 1) % 3 == 0), .slice A4 u.was.length c4, .bool (((y2 : Int)) % 3 == 0), .int .i64 ((y2 : Int) + 1), .int .i64 ((y2 : Int) + 1 + 1), .string (mt (y2 + 3)), .bool (((y2 : Int) + 1 + 1 + 1 + 1) % 3 == 0), .slice A10 u.vi.length c10]) := R11.out.set HSG.out 9 (by omega) (.bool (((y2 : Int) + 1 + 1 + 1 + 1) % 3 == 0))
      have O12_4 : Hid (StrsOwn ((w3.setCell ⟨g, j * 11 + 8, none⟩ (.string (mt (y2 + 3)))).setCell ⟨g, j * 11 + 9, none⟩ (.bool (((y2 : Int) + 1 + 1 + 1 + 1) % 3 == 0))) (Q 4) (.slice A4 u.was.length c4) (mL mX nX (x + 4) u.was)) := O11_4.out.set keepsOStr _ (QG.out 4) _
      have O12_10 : Hid (ItmsOwn ((w3.setCell ⟨g, j * 11 + 8, none⟩ (.string (mt (y2 + 3)))).setCell ⟨g, j * 11 + 9, none⟩ (.bool (((y2 : Int) + 1 + 1 + 1 + 1) % 3 == 0))) (Q 10) (.slice A10 u.vi.length c10) (u.vi)) := O11_10.out.set keepsOItm _ (QG.out 10) _
      have d10 : (((w3.setCell ⟨g, j * 11 + 8, none⟩ (.string (mt (y2 + 3)))).setCell ⟨g, j * 11 + 9, none⟩ (.bool (((y2 : Int) + 1 + 1 + 1 + 1) % 3 == 0)))).cell? ⟨g, j * 11 + 10, none⟩ = some (.slice A10 u.vi.length c10) := R12.out.cell hlt 10 (by omega)
      go_wp2_with fail
      clear d8 f8 d9 f9 d10
      refine (markItemS_own _ (y2 + 5) (by omega) (Q 10) u.vi ((w3.setCell ⟨g, j * 11 + 8, none⟩ (.string (mt (y2 + 3)))).setCell ⟨g, j * 11 + 9, none⟩ (.bool (((y2 : Int) + 1 + 1 + 1 + 1) % 3 == 0))) (by omega) (by have := HB_y2.out; omega) O12_10.out).mono ?_
      rintro e w4 ⟨rfl, o4, t4⟩
      have R13 : Hid (Rnd 86 11 g n c (P j) w wr w4 S F j [.string (mt (x)), .int .i64 ((x : Int) + 1), .bool (((x : Int) + 1 + 1) % 3 == 0), .bool (((x : Int) + 1 + 1 + 1) % 3 == 0), .slice A4 u.was.length c4, .bool (((y2 : Int)) % 3 == 0), .int .i64 ((y2 : Int) + 1), .int .i64 ((y2 : Int) + 1 + 1), .string (mt (y2 + 3)), .bool (((y2 : Int) + 1 + 1 + 1 + 1) % 3 == 0), .slice A10 u.vi.length c10]) := R12.out.foot t4 (QP.out 10) (fun h => (HAP.out g h).1 rfl) (HSP.out j hlt)
      have O13_4 : Hid (StrsOwn w4 (Q 4) (.slice A4 u.was.length c4) (mL mX nX (x + 4) u.was)) := O12_4.out.footO keepsOStr t4 (fun y hy => Nat.lt_of_lt_of_le (QL.out 4 y hy) R12.out.le) (QD.out 4 10 (by omega))
      have O13_10 : Hid (ItmsOwn w4 (Q 10) (.slice A10 u.vi.length c10) (mL mItm nItm (y2 + 5) u.vi)) := o4
      clear o4 t4
      obtain ⟨y4, hy4⟩ : ∃ y4, y2 + 5 + tot nItm u.vi = y4 := ⟨_, rfl⟩
      rw [hy4]
      have Hy4 := Seg.hid hy4
      have HB_y4 : Hid (y4 + 0 ≤ 4000000000000000000) := by show _ ≤ _; have := HB_y2.out; omega
      have hd_y4 : y4 + 0 ≤ 4000000000000000000 := by have := HB_y4.out; omega
      have hp_y4 : 0 < y4 := by omega
      clear hy4
      have EE : Hid (EOFld w4 (P j) (fun q => [.string (mt (x)), .int .i64 ((x : Int) + 1), .bool (((x : Int) + 1 + 1) % 3 == 0), .bool (((x : Int) + 1 + 1 + 1) % 3 == 0), .slice A4 u.was.length c4, .bool (((y2 : Int)) % 3 == 0), .int .i64 ((y2 : Int) + 1), .int .i64 ((y2 : Int) + 1 + 1), .string (mt (y2 + 3)), .bool (((y2 : Int) + 1 + 1 + 1 + 1) % 3 == 0), .slice A10 u.vi.length c10].getD q default) (mFld x u)) := by
        refine ⟨⟨?_, ?_, ?_, ?_, ?_, ?_, ?_, ?_, ?_⟩, Q, QP.out, QD.out, ?_, ?_⟩
        · exact congrArg (fun z : Nat => Value.string (mt z)) (show x = (x + 0) by have z0 := Hy2.out; have z1 := Hy4.out; omega)
        · exact congrArg (Value.int .i64) (show (x : Int) + 1 = (((x + 1) : Nat) : Int) by have z0 := Hy2.out; have z1 := Hy4.out; omega)
        · exact congrArg (fun z : Int => Value.bool (z % 3 == 0)) (show (x : Int) + 1 + 1 = (((x + 2) : Nat) : Int) by have z0 := Hy2.out; have z1 := Hy4.out; omega)
        · exact congrArg (fun z : Int => Value.bool (z % 3 == 0)) (show (x : Int) + 1 + 1 + 1 = (((x + 3) : Nat) : Int) by have z0 := Hy2.out; have z1 := Hy4.out; omega)
        · exact congrArg (fun z : Int => Value.bool (z % 3 == 0)) (show (y2 : Int) = (((x + 4 + tot nX u.was) : Nat) : Int) by have z0 := Hy2.out; have z1 := Hy4.out; omega)
        · exact congrArg (Value.int .i64) (show (y2 : Int) + 1 = (((x + 5 + tot nX u.was) : Nat) : Int) by have z0 := Hy2.out; have z1 := Hy4.out; omega)
        · exact congrArg (Value.int .i64) (show (y2 : Int) + 1 + 1 = (((x + 6 + tot nX u.was) : Nat) : Int) by have z0 := Hy2.out; have z1 := Hy4.out; omega)
        · exact congrArg (fun z : Nat => Value.string (mt z)) (show y2 + 3 = (x + 7 + tot nX u.was) by have z0 := Hy2.out; have z1 := Hy4.out; omega)
        · exact congrArg (fun z : Int => Value.bool (z % 3 == 0)) (show (y2 : Int) + 1 + 1 + 1 + 1 = (((x + 8 + tot nX u.was) : Nat) : Int) by have z0 := Hy2.out; have z1 := Hy4.out; omega)
        · have hz : x + 4 = (x + 4) := by (have z0 := Hy2.out; have z1 := Hy4.out; omega)
          have ho := O13_4.out
          rw [hz] at ho
          exact ho
        · have hz : y2 + 5 = (x + 9 + tot nX u.was) := by (have z0 := Hy2.out; have z1 := Hy4.out; omega)
          have ho := O13_10.out
          rw [hz] at ho
          exact ho
      obtain ⟨F', L', F2⟩ := Rnd.done keepsOFld (t := mFld x u) HR.out.1 hlt R13.out EE.out
      rw [MS'.out] at L'
      have L2 := Seg.hid L'
      have F3 := Seg.hid F2
      clear L' F2
      have HKK : Hid ((y4 : Int) = ((k + tot nFld (us.take (j + 1)) : Nat) : Int)) := by
        show _ = _
        have z0 := Hy2.out; have z1 := Hy4.out; have a1 := TK.out; have a2 := HX.out; simp only [nFld] at a1; omega
      go_wp2
      go_roundw
      case rel => exact ⟨j + 1, F', by omega, by go_num, congrArg (Value.int .i64) HKK.out, L2.out, F3.out⟩
      case measure => simp [intOf]; omega
    · have : j = n := by omega
      subst this
      have E := HR.out
      rw [show mid mFld nFld k j us = mL mFld nFld k us by rw [← hlen.out]; exact mid_all _ _ _ _] at E
      have EH' := Seg.hid E
      clear E
      rw [KE.out]
      go_wp2
      go_ret
      exact ⟨F, rfl, EH'.out⟩
theorem markFieldS_own (x : Int) (k : Nat) (hx : x = (k : Int)) (S : Nat → Prop) (us : List Fld) (w : World) {v : Value} (hk : 0 < k) (hk1 : k + tot nFld us ≤ 4000000000000000000) (hv : FldsOwn w S v us) :
    Calls Try.prog 52 #[v, .int .i64 x] w fun e w' => e = .returned (.int .i64 ((k + tot nFld us : Nat) : Int)) ∧ FldsOwn w' S v (mL mFld nFld k us) ∧ Foot w w' S := by
  subst hx
  obtain ⟨h0, A, c, rfl, h⟩ := hv
  by_cases hz : us.length = 0
  · obtain rfl := List.length_eq_zero_iff.1 hz
    exact (markFieldS_none A c k w).mono fun e w' ⟨h1, h2⟩ => by
      subst h2
      exact ⟨by rw [h1]; rfl, LOwn.nil _ _ _ _, Foot.refl _ _⟩
  obtain ⟨g, F, P, rfl, h3, h4, h5⟩ := h.resolve_left hz
  refine (markFieldS_core g us.length c k S P F us w h0 hk hk1 h3 h4 h5).mono fun e w' ⟨F', a1, a2, a3⟩ => ⟨a1, ⟨by rw [mL_len]; exact h0, _, c, by rw [mL_len], .inr ⟨g, F', P, rfl, h3, fun i hi => h4 i (by rw [mL_len] at hi; exact hi), ?_⟩⟩, a3⟩
  rw [mL_len]
  exact a2
end Go.Proofs.Ytdhicmbfknagjaa.Ow
namespace Go.Proofs.Ytdhicmbfknagjaa.Ow
set_option maxRecDepth 8000
open Go.RowKit
open Recs
open Ls
set_option linter.unusedVariables false
def EOSch : Elt Sch := fun w S f u => (f 0 = .string u.name) ∧ ∃ Q : Nat → Nat → Prop, (∀ i y, Q i y → S y) ∧ (∀ i j, i ≠ j → ∀ y, Q i y → ¬ Q j y) ∧ FldsOwn w (Q 1) (f 1) u.fields
theorem keepsOSch : KeepsO 2 EOSch := fun w w' S f f' t h hs hk hf => by
  obtain ⟨s0, Q, q1, q2, l1⟩ := h
  exact ⟨by rw [hf 0 (by omega)]; exact s0, Q, q1, q2, by rw [hf 1 (by omega)]; exact l1.keep keepsOFld hs (fun g hg => hk g (q1 _ g hg))⟩
theorem atOSch (w : World) (S : Nat → Prop) (f : Nat → Value) (u : Sch) (h : EOSch w S f u) : ESch w S f u := by
  obtain ⟨s0, Q, q1, q2, l1⟩ := h
  exact ⟨s0, (LOwn.lat growsFld atOFld l1).mono growsFld (q1 1)⟩
def SchOwn (w : World) (S : Nat → Prop) (v : Value) (u : Sch) : Prop := ∃ f, v = .agg (arrSch f) ∧ EOSch w S f u
theorem SchOwn.at {w : World} {S : Nat → Prop} {v : Value} {u : Sch} (h : SchOwn w S v u) : SchAt w S v u := by
  obtain ⟨f, h1, h2⟩ := h
  exact ⟨f, h1, atOSch _ _ _ _ h2⟩
theorem SchOwn.keep {w w' : World} {S : Nat → Prop} {v : Value} {u : Sch} (h : SchOwn w S v u) (hs : w.heap.size ≤ w'.heap.size) (hk : ∀ g, S g → w'.heap[g]? = w.heap[g]?) : SchOwn w' S v u := by
  obtain ⟨f, h1, h2⟩ := h
  exact ⟨f, h1, keepsOSch _ _ _ _ _ _ h2 hs hk (fun _ _ => rfl)⟩
def mSch (k : Nat) (u : Sch) : Sch := ⟨u.name, mL mFld nFld (k) u.fields⟩
def nSch (u : Sch) : Nat := tot nFld u.fields
set_option maxHeartbeats 1600000 in
theorem markSchema_own (x : Int) (k : Nat) (hx : x = (k : Int)) (S : Nat → Prop) (u : Sch) (w : World) {v : Value} (hk : 0 < k) (hk1 : k + nSch u ≤ 4000000000000000000) (hS : ∀ y, S y → y < w.heap.size) (hv : SchOwn w S v u) :
    Calls Try.prog 18 #[v, .int .i64 x] w fun e w' => e = .returned (.int .i64 ((k + nSch u : Nat) : Int)) ∧ SchOwn w' S v (mSch k u) ∧ Foot w w' S := by
  subst hx
  obtain ⟨f, rfl, s0, Q, q1, q2, l1⟩ := hv
  obtain ⟨A1, c1, g1⟩ := l1.form
  have O0_1 : Hid (FldsOwn w (Q 1) (.slice A1 u.fields.length c1) u.fields) := by rw [← g1]; exact l1
  have ER : arrSch f = #[.string u.name, .slice A1 u.fields.length c1] := by unfold arrSch; rw [s0, g1]
  have K0 := Seg.hid s0
  have G1 := Seg.hid g1
  have QP := Seg.hid q1
  have QD := Seg.hid q2
  have QL : Hid (∀ i y, Q i y → y < w.heap.size) := fun i y hy => hS y (QP.out i y hy)
  rw [ER]
  have ER' := Seg.hid ER
  clear ER q1 q2 s0 l1 g1
  have HB : Hid (k + nSch u ≤ 4000000000000000000) := hk1
  unfold nSch at hk1
  have hk2 : k ≤ 4000000000000000000 := by omega
  have HK := Seg.hid hk1
  clear hk1
  go_enter Try.func18, Try.ntmps18
  go_wp2_with fail
  refine (markFieldS_own _ k (by omega) (Q 1) u.fields (w.alloc _) (by omega) (by have := HK.out; omega) (O0_1.out.belowO keepsOFld (below1 w _) (QL.out 1))).mono ?_
  rintro e w1 ⟨rfl, o1, t1⟩
  have O1_1 : Hid (FldsOwn w1 (Q 1) (.slice A1 u.fields.length c1) (mL mFld nFld (k) u.fields)) := o1
  have F1 := Seg.hid ((Foot.of_below (below1 w _) S).trans t1 (QP.out 1))
  clear o1 t1
  obtain ⟨y1, hy1⟩ : ∃ y1, k + tot nFld u.fields = y1 := ⟨_, rfl⟩
  rw [hy1]
  have Hy1 := Seg.hid hy1
  have hp_y1 : 0 < y1 := by omega
  have hd_y1 : y1 ≤ 4000000000000000000 := by have z0 := Hy1.out; have := HK.out; omega
  clear hy1
  go_wp2
  go_ret
  exact ⟨Seg.ret_int (by have z0 := Hy1.out; unfold nSch; omega), ⟨f, by rw [ER'.out], K0.out, Q, QP.out, QD.out, (by have ho := O1_1.out; rw [← G1.out] at ho; exact ho)⟩, F1.out⟩
end Go.Proofs.Ytdhicmbfknagjaa.Ow
