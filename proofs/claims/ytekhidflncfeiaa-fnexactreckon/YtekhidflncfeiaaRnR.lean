/- The program's reckoningOf and Reckon. -/
import Derived.Test.YtekhidflncfeiaaRnN
import Derived.Test.YtekhidflncfeiaaXsI
import Derived.Test.YtekhidflncfeiaaRrI
namespace Go.Proofs.Ytekhidflncfeiaa.RnR
set_option maxRecDepth 8000
open Go.RowKit
open Ls Lp QyP QsP QtP QuP QdP QrP YcP RnP RnI RnC RnN
open Recs (hsz below1 below2 chain chainD)
set_option linter.unusedVariables false
set_option maxHeartbeats 1600000 in
theorem rk_any (A : Option Addr) (c : Nat) (A2 : Option Addr) (c2 : Nat) (l : List Stp) (cols : List ByteArray) (f : List Int → Int) (w : World) (S : Nat → Prop) (hv : LAt 3 EStp w S (.slice A l.length c) l) (hc : StrsAt w S (.slice A2 cols.length c2) cols) (hS : ∀ g, S g → g < w.heap.size) (hl : l.length ≤ 60) (h : Ex cols l f) :
    Calls Try.prog 78 #[.slice A l.length c, .slice A2 cols.length c2] w fun e w' => ∃ v, e = .returned v ∧ Ev w.heap.size cols.length w' v f ∧ Below w.heap.size w w' := by
  obtain ⟨w1, hw1⟩ : ∃ w1, w.alloc (.cells #[.slice A l.length c, .slice A2 cols.length c2] 139 (0, 0)) = w1 := ⟨_, rfl⟩
  have T1 : Hid (w1.heap[w.heap.size]? = some (.cells #[.slice A l.length c, .slice A2 cols.length c2] 139 (0, 0))) := by show _ = _; rw [← hw1]; exact heap_alloc_new _ _
  have B1 : Hid (Below w.heap.size w w1) := by show Below _ _ _; rw [← hw1]; exact below1 _ _
  have CN : Hid (Calls Try.prog 105 #[.pointer (some ⟨w.heap.size, 0, none⟩)] w1 (Post w.heap.size A c A2 c2 cols ([] : List Stp).length f w1)) :=
    next_any w.heap.size A c A2 c2 cols l S hl h [] [] (by simp) w1 ⟨⟨by simpa using T1.out⟩, LAt.below keepsStp hv B1.out hS, LAt.below keepsStr hc B1.out hS, fun y hy => ⟨Nat.lt_of_lt_of_le (hS y hy) B1.out.size, by have := hS y hy; omega⟩, by simp⟩
  clear hv hc h
  go_enter Try.func78, Try.ntmps78
  go_wp2_with (go_at_call 105; refine CN.out.mono ?_; rintro e w2 ⟨v, rfl, hev, rd2, mv2⟩; have EV := Seg.hid hev; have MV2 := Seg.hid mv2; clear hev rd2 mv2)
  go_ret
  exact ⟨_, rfl, EV.out, MV2.out.below B1.out rfl⟩
theorem cols_lens (l : List Stp) (h : l.length ≤ 60) : (colsL l).length ≤ 1048576 := by have := cols_len l l.length; rw [List.take_length] at this; omega
set_option maxHeartbeats 12800000 in
theorem impl_any (v z x : Value) (l : List Stp) (cols : List ByteArray) (row : List Int) (w : World) (S : Nat → Prop) (hv : LAt 3 EStp w S v l) (hc : LAt 1 EStr w S z cols) (hr : LAt 1 EI w S x row) (hS : ∀ g, S g → g < w.heap.size) (hf : szL szStp l ≤ 1048576) :
    Calls Try.prog 39 #[v, z, x] w fun e w' => e = .returned (.tuple #[.int .i64 (reckon l cols row), .bool (recOk l cols row)]) ∧ Below w.heap.size w w' := by
  have HV := Seg.hid hv
  have HC := Seg.hid hc
  have HR := Seg.hid hr
  have HF := Seg.hid hf
  obtain ⟨A, c, rfl⟩ := hv.form
  obtain ⟨A2, c2, rfl⟩ := hc.form
  obtain ⟨A3, c3, rfl⟩ := hr.form
  clear hv hc hr hf
  obtain ⟨RB, hB⟩ : ∃ R, recOk l cols row = R := ⟨_, rfl⟩
  obtain ⟨RI, hI⟩ : ∃ R, reckon l cols row = R := ⟨_, rfl⟩
  rw [hB, hI]
  have HB : Hid ((stepsOk l && (decide (cols.length = row.length) && (sees l cols && row.all inM))) = RB) := hB
  have HI : Hid ((if RB = true then (runV cols row l []).getD 0 0 else 0) = RI) := by show _ = _; rw [← hI, ← hB]; rfl
  have NO : Hid (RB = false → RI = 0) := fun h => by rw [← HI.out, h]; rfl
  clear hB hI
  have CE : ∀ b, stepsOk l = b → Hid (Calls Try.prog 74 #[.slice A l.length c] w fun e w' => e = .returned (.bool b) ∧ Below w.heap.size w w') := fun b hb => by subst hb; exact XsI.exp_any _ l w S HV.out hS HF.out
  cases hso : stepsOk l with
  | false =>
    have CC := CE false hso
    have RF : Hid (RB = false) := by show _ = _; rw [← HB.out, hso]; rfl
    have RZ := Seg.hid (NO.out RF.out)
    clear CE hso
    go_enter Try.func39, Try.ntmps39
    go_wp2_with (go_at_call 74; refine CC.out.mono ?_; rintro e w1 ⟨rfl, b1⟩; have B1 := Seg.hid b1; clear b1)
    go_ret2
    exact ⟨by rw [RF.out, RZ.out]; rfl, B1.out⟩
  | true =>
  have CC := CE true hso
  have hl60 : Hid (l.length ≤ 60) := by have := hso; unfold stepsOk at this; simp only [Bool.and_eq_true, decide_eq_true_eq] at this; exact this.1
  have HSO := Seg.hid hso
  have R1 : Hid (RB = (decide (cols.length = row.length) && (sees l cols && row.all inM))) := by show _ = _; rw [← HB.out, hso]; rfl
  clear CE hso HB
  by_cases hle : cols.length = row.length
  case neg =>
    have RF : Hid (RB = false) := by show _ = _; rw [R1.out, decide_eq_false hle]; rfl
    have RZ := Seg.hid (NO.out RF.out)
    have hq : ((cols.length : Int) == (row.length : Int)) = false := by simp; omega
    have hq2 : ((cols.length : Int) != (row.length : Int)) = true := by simp; omega
    go_enter Try.func39, Try.ntmps39
    go_wp2_with (go_at_call 74; refine CC.out.mono ?_; rintro e w1 ⟨rfl, b1⟩; have B1 := Seg.hid b1; clear b1)
    go_ret2
    exact ⟨by rw [RF.out, RZ.out]; rfl, B1.out⟩
  case pos =>
  have R2 : Hid (RB = (sees l cols && row.all inM)) := by show _ = _; rw [R1.out, decide_eq_true hle]; rfl
  have HLE := Seg.hid hle
  have hq : ((cols.length : Int) == (row.length : Int)) = true := by simp; omega
  have hq2 : ((cols.length : Int) != (row.length : Int)) = false := by simp; omega
  clear R1 hle
  have CO : Hid (∀ wx, Below w.heap.size w wx → Calls Try.prog 76 #[.slice A l.length c] wx fun e w' => ∃ v', e = .returned v' ∧ Row w' wx.heap.size v' (colsL l) ∧ Below wx.heap.size wx w') := fun wx b => YcI.cols_any _ l wx S (LAt.below keepsStp HV.out b hS) (fun y hy => Nat.lt_of_lt_of_le (hS y hy) b.size) hl60.out
  have CA : ∀ b, sees l cols = b → Hid (∀ (B : Nat) (z : Value) wx, Below w.heap.size w wx → Row wx B z (colsL l) → Calls Try.prog 75 #[.slice A2 cols.length c2, z] wx fun e w' => e = .returned (.bool b) ∧ wx = w') := fun b hb B z wx hx hz => by
    have := YcI.all_any (.slice A2 cols.length c2) z cols (colsL l) wx S (seg B wx.heap.size) (LAt.below keepsStr HC.out hx hS) (hz.lat (cols_lens l hl60.out)) (fun y hy => Nat.lt_of_lt_of_le (hS y hy) hx.size) (fun y hy => hy.2)
    rw [all_sees, hb] at this
    exact this
  cases hse : sees l cols with
  | false =>
    have CS := CA false hse
    have RF : Hid (RB = false) := by show _ = _; rw [R2.out, hse]; rfl
    have RZ := Seg.hid (NO.out RF.out)
    clear CA hse
    go_enter Try.func39, Try.ntmps39
    go_wp2_with (first | (go_at_call 74; refine CC.out.mono ?_; rintro e w1 ⟨rfl, b1⟩; have B1 := Seg.hid b1; clear b1) | (go_at_call 76; refine (CO.out _ B1.out).mono ?_; rintro e w2 ⟨v2, rfl, r2, b2⟩; have RW := Seg.hid r2; have B2 := Seg.hid (chain B1.out b2); clear r2 b2) | (go_at_call 75; refine (CS.out _ _ _ B2.out RW.out).mono ?_; rintro e w3 ⟨rfl, rfl⟩))
    go_ret2
    exact ⟨by rw [RF.out, RZ.out]; rfl, B2.out⟩
  | true =>
  have CS := CA true hse
  have R3 : Hid (RB = row.all inM) := by show _ = _; rw [R2.out, hse]; rfl
  have HSE := Seg.hid hse
  clear CA hse R2
  have CR : ∀ b, row.all inM = b → Hid (∀ wx, Below w.heap.size w wx → Calls Try.prog 77 #[.slice A3 row.length c3] wx fun e w' => e = .returned (.bool b) ∧ wx = w') := fun b hb wx hx => by
    have := RrI.row_any (.slice A3 row.length c3) row wx S (LAt.below keepsI HR.out hx hS) (fun y hy => Nat.lt_of_lt_of_le (hS y hy) hx.size)
    rw [hb] at this
    exact this
  cases hra : row.all inM with
  | false =>
    have CW := CR false hra
    have RF : Hid (RB = false) := by show _ = _; rw [R3.out, hra]
    have RZ := Seg.hid (NO.out RF.out)
    clear CR hra
    go_enter Try.func39, Try.ntmps39
    go_wp2_with (first | (go_at_call 74; refine CC.out.mono ?_; rintro e w1 ⟨rfl, b1⟩; have B1 := Seg.hid b1; clear b1) | (go_at_call 76; refine (CO.out _ B1.out).mono ?_; rintro e w2 ⟨v2, rfl, r2, b2⟩; have RW := Seg.hid r2; have B2 := Seg.hid (chain B1.out b2); clear r2 b2) | (go_at_call 75; refine (CS.out _ _ _ B2.out RW.out).mono ?_; rintro e w3 ⟨rfl, rfl⟩) | (go_at_call 77; refine (CW.out _ B2.out).mono ?_; rintro e w3 ⟨rfl, rfl⟩))
    go_ret2
    exact ⟨by rw [RF.out, RZ.out]; rfl, B2.out⟩
  | true =>
  have CW := CR true hra
  have RF : Hid (RB = true) := by show _ = _; rw [R3.out, hra]
  have HRA := Seg.hid hra
  clear CR hra
  obtain ⟨f, hex⟩ := ex_of HSO.out HSE.out
  have HEX := Seg.hid hex
  have RV : Hid (RI = f row) := by show _ = _; rw [← HI.out, RF.out, if_pos rfl, ex_run hex]; simp
  clear hex
  have CK : Hid (∀ wx, Below w.heap.size w wx → Calls Try.prog 78 #[.slice A l.length c, .slice A2 cols.length c2] wx fun e w' => ∃ v, e = .returned v ∧ Ev wx.heap.size cols.length w' v f ∧ Below wx.heap.size wx w') := fun wx hx => rk_any A c A2 c2 l cols f wx S (LAt.below keepsStp HV.out hx hS) (LAt.below keepsStr HC.out hx hS) (fun y hy => Nat.lt_of_lt_of_le (hS y hy) hx.size) hl60.out HEX.out
  go_enter Try.func39, Try.ntmps39
  go_wp2_with (first | (go_at_call 74; refine CC.out.mono ?_; rintro e w1 ⟨rfl, b1⟩; have B1 := Seg.hid b1; clear b1) | (go_at_call 76; refine (CO.out _ B1.out).mono ?_; rintro e w2 ⟨v2, rfl, r2, b2⟩; have RW := Seg.hid r2; have B2 := Seg.hid (chain B1.out b2); clear r2 b2) | (go_at_call 75; refine (CS.out _ _ _ B2.out RW.out).mono ?_; rintro e w3 ⟨rfl, rfl⟩) | (go_at_call 77; refine (CW.out _ B2.out).mono ?_; rintro e w3 ⟨rfl, rfl⟩) | (go_at_call 78; refine (CK.out _ B2.out).mono ?_; rintro e w4 ⟨v4, rfl, hev, b4⟩; obtain ⟨nf, caps, rfl, en, hc4⟩ := hev; have B4 := Seg.hid (chain B2.out b4); have en' : ∀ (args : Array Value) (w : World), (callFunc nf args).run Try.prog w = .ok (.enter nf args) w := en; have CF := Seg.hid (hc4 w4 (Kp.refl _ _) A3 c3 row S (LAt.below keepsI HR.out B4.out hS) (fun y hy => Nat.lt_of_lt_of_le (hS y hy) B4.out.size) HLE.out.symm HRA.out); clear b4 hc4 en) | (go_at_fn nf; refine CF.out.mono ?_; rintro e w5 ⟨rfl, q, rfl⟩))
  go_ret2
  exact ⟨by rw [RF.out, RV.out]; rfl, ⟨B4.out.os, B4.out.tape, B4.out.output, B4.out.size, B4.out.block⟩⟩
end Go.Proofs.Ytekhidflncfeiaa.RnR
