/- The model's RowOk; The model's Resolve. -/
import Derived.Deep.RegionHeld3
import Derived.Deep.RegionLaw
import Derived.Test.YtdhicmbfknagjaaJRO16
import Derived.Test.YtdhicmbfknagjaaJRO21
import Derived.Test.YtdhicmbfknagjaaJRO20
import Derived.Test.YtdhicmbfknagjaaJRO25
import Derived.Test.YtdhicmbfknagjaaJRO24
namespace Go.Proofs.Ytdhicmbfknagjaa.RoS
set_option maxRecDepth 8000
open Go.RowKit
open Ls Lp VkP VkR ScP ScI ScS RoP
open Recs (hsz below1 below2 below3 chain chainD)
set_option linter.unusedVariables false
open RoI (vlu_at)
set_option maxHeartbeats 6400000 in
theorem spec_any (x y : Value) (s : Sch) (us : List Vlu) (w : World) (S : Nat → Prop) (hx : SchAt w S x s) (hy : LAt 5 EVlu w S y us) (hS : ∀ g, S g → g < w.heap.size) (hfs : szSch s ≤ 1048576) (hfu : szL szVlu us ≤ 1048576) :
    Calls Try.prog 54 #[x, y] w fun e w' => e = .returned (.bool (rowOk s us)) ∧ Below w.heap.size w w' := by
  have HX := Seg.hid hx
  obtain ⟨A0, c0, rfl, hl⟩ := formS hx
  obtain ⟨A, c, g, o, F, e, OP, hn⟩ := opn hl hS
  cases e
  obtain ⟨A2, c2, g2, o2, F2, rfl, OP2, hn2⟩ := opn hy hS
  have HO := Seg.hid OP
  have HO2 := Seg.hid OP2
  have HU := Seg.hid hfu
  have C1 : Hid (∀ wx, Below w.heap.size w wx → Calls Try.prog 46 #[.agg (srow s A0 c0)] wx fun e w' => e = .returned (.bool (sok s)) ∧ Below wx.heap.size wx w') := fun wx b => ScS.first_any _ s wx S (HX.out.below b hS) (fun g hg => Nat.lt_of_lt_of_le (hS g hg) b.size) hfs
  have R0 : Hid (rowOk s us = (sok s && (decide (us.length = s.fields.length) && rowL s.fields us s.fields.length))) := rfl
  clear hx hy hl OP OP2 hfs hfu
  go_enter Try.func54, Try.ntmps54
  go_wp2_with fail
  refine (C1.out _ (below1 w _)).mono ?_
  rintro e w1 ⟨rfl, b1⟩
  have B1 := Seg.hid (chain (below1 w _) b1)
  have P1 : Hid (w1.heap[w.heap.size]? = some (.cells (srow s A0 c0) 43 (0, 0))) := (b1.block w.heap.size (by rw [hsz]; omega)).trans (heap_alloc_new w _)
  have s1 : w.heap.size < w1.heap.size := (Array.getElem?_eq_some_iff.1 P1.out).1
  have p1 : w1.cell? ⟨w.heap.size, 1, none⟩ = some (.slice A0 s.fields.length c0) := cell_of_row w1 _ 1 _ _ (0, 0) P1.out
  clear b1 C1 HX
  cases h1 : sok s with
  | false =>
    have R : Hid (rowOk s us = false) := by show _ = _; rw [R0.out, h1]; rfl
    clear h1
    go_wp2
    go_ret
    exact ⟨by rw [R.out]; rfl, B1.out⟩
  | true =>
  by_cases hlen : us.length = s.fields.length
  case neg =>
    have R : Hid (rowOk s us = false) := by show _ = _; rw [R0.out, h1, decide_eq_false hlen]; rfl
    have hne : ((us.length : Int) != (s.fields.length : Int)) = true := by simp; omega
    clear h1 hlen
    go_wp2
    go_ret
    exact ⟨by rw [R.out]; rfl, B1.out⟩
  case pos =>
  have R : Hid (rowOk s us = rowL s.fields us s.fields.length) := by show _ = _; rw [R0.out, h1, decide_eq_true hlen]; rfl
  have hne : ((us.length : Int) != (s.fields.length : Int)) = false := by simp; omega
  have HL := Seg.hid hlen
  clear h1 hlen
  go_wp2
  clear hne
  go_loopw [5] (fun i wr => ∃ k : Nat, k ≤ s.fields.length ∧ i = .int .i64 k ∧ Hid (Below w1.heap.size w1 wr ∧ rowL s.fields us k = true)) (fun i _ => s.fields.length - (intOf i).toNat)
  case atStart => exact ⟨0, Nat.zero_le _, rfl, Below.refl _ _, rowL_zero _ _⟩
  case round =>
    obtain ⟨k, hk, rfl, HG⟩ := hrel
    by_cases hlt : k < s.fields.length
    · obtain ⟨ea, hc, hgw⟩ := HO.out.addr.resolve_left (by omega)
      subst ea
      have hltu : k < us.length := by have := HL.out; omega
      obtain ⟨ea, hc2, hgw2⟩ := HO2.out.addr.resolve_left (by omega)
      subst ea
      have BW : Hid (Below w.heap.size w wr) := chain B1.out HG.out.1
      obtain ⟨A', c', B', d', hfl, q1, q2, q3, q4, q5, q6, q7, q8, q9, q10, q11⟩ := fld_at HO.out hS BW.out hlt
      obtain ⟨A4, c4, hvl, q12, q13, q14, q15, q16⟩ := vlu_at HO2.out hS BW.out hltu
      have h0 : (0 : Int) ≤ (k : Int) := by omega
      have h1 : (k : Int) < (s.fields.length : Int) := by omega
      have h2 : (k : Int) < (us.length : Int) := by omega
      have SU : Hid (szVlu (us.getD k default) ≤ 1048576) := szL_one szVlu HU.out hltu
      have NX : Hid (oneAt s.fields us k = true → rowL s.fields us (k + 1) = true) := rowL_next HG.out.2
      have BX : Hid (oneAt s.fields us k = false → rowL s.fields us s.fields.length = false) := rowL_bad hlt
      have OD : Hid (oneAt s.fields us k = vof (s.fields.getD k default).kind (s.fields.getD k default).lst (s.fields.getD k default).may (us.getD k default)) := rfl
      have N1 := Seg.hid HG.out.1
      have q0 : wr.cell? ⟨w.heap.size, 1, none⟩ = some (.slice (some ⟨g, o, none⟩) s.fields.length c0) := (N1.out.cell (p := ⟨w.heap.size, 1, none⟩) s1).trans p1
      have HFL := Seg.hid hfl
      have HVL := Seg.hid hvl
      clear HG hfl hvl
      generalize s.fields.getD k default = f at *
      generalize us.getD k default = u at *
      obtain ⟨b, hb⟩ : ∃ b, oneAt s.fields us k = b := ⟨_, rfl⟩
      rw [hb] at NX BX OD
      clear hb
      have CV : Hid (∀ wx, Below wr.heap.size wr wx → Calls Try.prog 83 #[.agg (frow f A' c' B' d'), .agg (vrow u A4 c4)] wx fun e w' => e = .returned (.bool b) ∧ Below wx.heap.size wx w') := fun wx bx => by
        have h := VkS.of_any _ _ f u wx S (HFL.out.below bx (fun g hg => Nat.lt_of_lt_of_le (hS g hg) BW.out.size)) (HVL.out.below bx (fun g hg => Nat.lt_of_lt_of_le (hS g hg) BW.out.size)) (fun g hg => Nat.lt_of_lt_of_le (hS g hg) (Nat.le_trans BW.out.size bx.size)) SU.out
        rw [← OD.out] at h
        exact h
      clear OD
      have y5 : g2 < wr.heap.size := by have := BW.out.size; omega
      have z5 : w.heap.size < wr.heap.size := by have := N1.out.size; omega
      have y4 : g < wr.heap.size := by have := BW.out.size; omega
      go_wp2_with fail
      go_region_held3 (fun w' => w'.cell? ⟨w.heap.size, 1, none⟩ = some (.slice (some ⟨g, o, none⟩) s.fields.length c0) ∧ w'.cell? ⟨g, o + k * 11, none⟩ = some (.string f.name) ∧ w'.cell? ⟨g, o + k * 11 + 1, none⟩ = some (.int .i64 f.kind) ∧ w'.cell? ⟨g, o + k * 11 + 2, none⟩ = some (.bool f.lst) ∧ w'.cell? ⟨g, o + k * 11 + 3, none⟩ = some (.bool f.may) ∧ w'.cell? ⟨g, o + k * 11 + 4, none⟩ = some (.slice A' f.was.length c') ∧ w'.cell? ⟨g, o + k * 11 + 5, none⟩ = some (.bool f.fixd) ∧ w'.cell? ⟨g, o + k * 11 + 6, none⟩ = some (.int .i64 f.vk) ∧ w'.cell? ⟨g, o + k * 11 + 7, none⟩ = some (.int .i64 f.vn) ∧ w'.cell? ⟨g, o + k * 11 + 8, none⟩ = some (.string f.vt) ∧ w'.cell? ⟨g, o + k * 11 + 9, none⟩ = some (.bool f.vl) ∧ w'.cell? ⟨g, o + k * 11 + 10, none⟩ = some (.slice B' f.vi.length d') ∧ w'.cell? ⟨g2, o2 + k * 5, none⟩ = some (.int .i64 u.kind) ∧ w'.cell? ⟨g2, o2 + k * 5 + 1, none⟩ = some (.int .i64 u.num) ∧ w'.cell? ⟨g2, o2 + k * 5 + 2, none⟩ = some (.string u.text) ∧ w'.cell? ⟨g2, o2 + k * 5 + 3, none⟩ = some (.bool u.lst) ∧ w'.cell? ⟨g2, o2 + k * 5 + 4, none⟩ = some (.slice A4 u.items.length c4)) (first | exact ⟨q0, q1, q2, q3, q4, q5, q6, q7, q8, q9, q10, q11, q12, q13, q14, q15, q16⟩ | exact ⟨r0, r1, r2, r3, r4, r5, r6, r7, r8, r9, r10, r11, r12, r13, r14, r15, r16⟩ | go_keep) (first | (go_at_call 83; refine (CV.out _ ((Below.refl _ _).drew)).mono ?_; rintro e w8 ⟨rfl, b8⟩; have B8 : Hid (Below wr.heap.size wr w8) := ⟨b8.os, b8.tape, b8.output, b8.size, b8.block⟩; clear b8; have r0 := (B8.out.cell (p := ⟨w.heap.size, 1, none⟩) z5).trans q0; have r1 := (B8.out.cell (p := ⟨g, o + k * 11, none⟩) y4).trans q1; have r2 := (B8.out.cell (p := ⟨g, o + k * 11 + 1, none⟩) y4).trans q2; have r3 := (B8.out.cell (p := ⟨g, o + k * 11 + 2, none⟩) y4).trans q3; have r4 := (B8.out.cell (p := ⟨g, o + k * 11 + 3, none⟩) y4).trans q4; have r5 := (B8.out.cell (p := ⟨g, o + k * 11 + 4, none⟩) y4).trans q5; have r6 := (B8.out.cell (p := ⟨g, o + k * 11 + 5, none⟩) y4).trans q6; have r7 := (B8.out.cell (p := ⟨g, o + k * 11 + 6, none⟩) y4).trans q7; have r8 := (B8.out.cell (p := ⟨g, o + k * 11 + 7, none⟩) y4).trans q8; have r9 := (B8.out.cell (p := ⟨g, o + k * 11 + 8, none⟩) y4).trans q9; have r10 := (B8.out.cell (p := ⟨g, o + k * 11 + 9, none⟩) y4).trans q10; have r11 := (B8.out.cell (p := ⟨g, o + k * 11 + 10, none⟩) y4).trans q11; have r12 := (B8.out.cell (p := ⟨g2, o2 + k * 5, none⟩) y5).trans q12; have r13 := (B8.out.cell (p := ⟨g2, o2 + k * 5 + 1, none⟩) y5).trans q13; have r14 := (B8.out.cell (p := ⟨g2, o2 + k * 5 + 2, none⟩) y5).trans q14; have r15 := (B8.out.cell (p := ⟨g2, o2 + k * 5 + 3, none⟩) y5).trans q15; have r16 := (B8.out.cell (p := ⟨g2, o2 + k * 5 + 4, none⟩) y5).trans q16))
      clear r0 r1 r2 r3 r4 r5 r6 r7 r8 r9 r10 r11 r12 r13 r14 r15 r16
      cases b with
      | true =>
        go_wp2
        go_roundw
        case rel => exact ⟨k + 1, by omega, by go_num, chain N1.out B8.out, NX.out (by simp)⟩
        case measure => simp [intOf]; omega
      | false =>
        go_wp2
        go_ret
        exact ⟨by rw [R.out, BX.out (by simp)]; rfl, chain BW.out B8.out⟩
    · obtain rfl : k = s.fields.length := by omega
      have RF : Hid (rowL s.fields us s.fields.length = true) := HG.out.2
      have hEQ := HL.out
      go_wp2
      go_ret
      exact ⟨by rw [R.out, RF.out]; rfl, chain B1.out HG.out.1⟩
end Go.Proofs.Ytdhicmbfknagjaa.RoS
namespace Go.Proofs.Ytdhicmbfknagjaa.RvS
set_option maxRecDepth 8000
open Go.RowKit
open Ls Lp VkP VkR ScP ScI ScS MaP CrP RoP RoI RvP ClI RvL
open Recs
set_option linter.unusedVariables false
set_option maxHeartbeats 12800000 in
theorem spec_any (x y z : Value) (r s : Sch) (us : List Vlu) (w : World) (S : Nat → Prop) (hx : SchAt w S x r) (hy : SchAt w S y s) (hz : LAt 5 EVlu w S z us) (hS : ∀ g, S g → g < w.heap.size) (hfr : szSch r ≤ 1048576) (hfs : szSch s ≤ 1048576) (hfu : szL szVlu us ≤ 1048576) :
    Calls Try.prog 30 #[x, y, z] w fun e w' => ∃ v, e = .returned (.tuple #[v, .bool (resOk r s us)]) ∧ Ow.VlusOwn w' (seg w.heap.size w'.heap.size) v (resL r s us) ∧ Below w.heap.size w w' := by
  have HX := Seg.hid hx
  have HY := Seg.hid hy
  have HZ := Seg.hid hz
  obtain ⟨A0, c0, rfl, hl⟩ := formS hx
  obtain ⟨A, c, g, o, F, e, OP, hn⟩ := opn hl hS
  cases e
  obtain ⟨A2, c2, rfl, -⟩ := formS hy
  obtain ⟨A3, c3, g2, o2, F2, rfl, OP2, hn2⟩ := opn hz hS
  have HO := Seg.hid OP
  have HO2 := Seg.hid OP2
  have HU := Seg.hid hfu
  have HF := Seg.hid (sz_fields hfr)
  have hSx : ∀ wx : World, Below w.heap.size w wx → ∀ g, S g → g < wx.heap.size := fun wx b g hg => Nat.lt_of_lt_of_le (hS g hg) b.size
  have C1 : Hid (∀ wx, Below w.heap.size w wx → Calls Try.prog 64 #[.agg (srow r A0 c0), .agg (srow s A2 c2)] wx fun e w' => e = .returned (.bool (canR r s)) ∧ Below wx.heap.size wx w') := fun wx b => CrS.spec_any _ _ r s wx S (HX.out.below b hS) (HY.out.below b hS) (hSx wx b) hfr hfs
  have C2 : Hid (∀ wx, Below w.heap.size w wx → Calls Try.prog 54 #[.agg (srow s A2 c2), .slice A3 us.length c3] wx fun e w' => e = .returned (.bool (rowOk s us)) ∧ Below wx.heap.size wx w') := fun wx b => RoS.spec_any _ _ s us wx S (HY.out.below b hS) (LAt.below keepsVlu HZ.out b hS) (hSx wx b) hfs hfu
  have C3 : Hid (sok r = true → sok s = true → ∀ wx, Below w.heap.size w wx → Calls Try.prog 13 #[.agg (srow r A0 c0), .agg (srow s A2 c2)] wx fun e w' => ∃ v, e = .returned v ∧ MaI.IRow w' wx.heap.size v (mtch r s) ∧ Below wx.heap.size wx w') := fun h1 h2 wx b => by
      have h := MaS.spec_any _ _ r s wx S (HX.out.below b hS) (HY.out.below b hS) (hSx wx b) hfr hfs
      rw [show matchL r s = mtch r s by unfold matchL; rw [h1, h2]; rfl] at h
      exact h
  clear hx hy hz hl OP OP2 hfr hfs hfu
  obtain ⟨R, hR⟩ : ∃ R, resL r s us = R := ⟨_, rfl⟩
  obtain ⟨Q, hQ⟩ : ∃ Q, resOk r s us = Q := ⟨_, rfl⟩
  rw [hR, hQ]
  have HR := Seg.hid hR
  have HQ := Seg.hid hQ
  clear hR hQ
  go_enter Try.func30, Try.ntmps30
  go_upto_region 2 with fail
  obtain ⟨w1, hw1⟩ : ∃ w1, ((w.alloc (.cells (srow r A0 c0) 43 (0, 0))).alloc (.cells (srow s A2 c2) 43 (0, 0))).alloc (.cells #[] 84 (0, 0)) = w1 := ⟨_, rfl⟩
  have B1 : Hid (Below w.heap.size w w1) := by show Below _ _ _; rw [← hw1]; exact below3 w _ _ _
  have P1 : Hid (w1.heap[w.heap.size]? = some (.cells (srow r A0 c0) 43 (0, 0))) := by show _ = _; rw [← hw1]; exact at3z w _ _ _
  have P2 : Hid (w1.heap[w.heap.size + 1]? = some (.cells (srow s A2 c2) 43 (0, 0))) := by show _ = _; rw [← hw1]; exact at3 w _ _ _
  have O1 : Hid (w1.ownsRow (w.heap.size + 2) 84 5 (.slice (some ⟨w.heap.size + 2, 0, none⟩) 0 0) 0 []) := by
    have := empty_own ((w.alloc (.cells (srow r A0 c0) 43 (0, 0))).alloc (.cells (srow s A2 c2) 43 (0, 0))) 84 5
    rw [hsz, hsz] at this
    show World.ownsRow _ _ _ _ _ _ _
    rw [← hw1]
    exact this
  have s1 : w.heap.size + 3 ≤ w1.heap.size := by rw [← hw1, hsz, hsz, hsz]; omega
  try rw [hw1]
  clear hw1
  have a0 := cell_of_row w1 _ 0 _ _ (0, 0) P1.out
  have a1 := cell_of_row w1 _ 1 _ _ (0, 0) P1.out
  have a2 := cell_of_row w1 _ 0 _ _ (0, 0) P2.out
  have a3 := cell_of_row w1 _ 1 _ _ (0, 0) P2.out
  go_wp2_with fail
  refine (C1.out _ B1.out).mono ?_
  rintro e w2 ⟨rfl, b2⟩
  have B2 := Seg.hid (chain B1.out b2)
  have N2 := Seg.hid b2
  have s2 : w1.heap.size ≤ w2.heap.size := b2.size
  have a2' := (b2.cell (p := ⟨w.heap.size + 1, 0, none⟩) (by show w.heap.size + 1 < w1.heap.size; omega)).trans a2
  have a3' := (b2.cell (p := ⟨w.heap.size + 1, 1, none⟩) (by show w.heap.size + 1 < w1.heap.size; omega)).trans a3
  clear b2 C1 a0 a1 a2 a3
  cases h1 : canR r s with
  | false =>
    have QF : Hid (Q = false) := by show _ = _; rw [← HQ.out, resOk, h1]; rfl
    have RF : Hid (R = []) := by show _ = _; rw [← HR.out, resL, HQ.out, QF.out]; rfl
    clear h1
    go_wp2
    go_ret2
    exact ⟨_, by rw [QF.out]; rfl, by rw [RF.out]; exact Ow.LOwn.nil _ _ _ _, B2.out⟩
  | true =>
  obtain ⟨hor, hos⟩ := canR_sok h1
  have C4 := Seg.hid (C3.out hor hos)
  have hrl := (MaP.sok_dst hor).2.1
  have hrl1 : 1 ≤ r.fields.length := by
    simp only [sok, Bool.and_eq_true] at hor
    have := inR_true hor.1.2
    omega
  clear C3 hos hor
  go_wp2_with fail
  refine (C2.out _ B2.out).mono ?_
  rintro e w3 ⟨rfl, b3⟩
  have B3 := Seg.hid (chain B2.out b3)
  have N3 := Seg.hid (chain N2.out b3)
  have s3 : w1.heap.size ≤ w3.heap.size := N3.out.size
  clear b3 C2 a2' a3'
  cases h2 : rowOk s us with
  | false =>
    have QF : Hid (Q = false) := by show _ = _; rw [← HQ.out, resOk, h1, h2]; rfl
    have RF : Hid (R = []) := by show _ = _; rw [← HR.out, resL, HQ.out, QF.out]; rfl
    clear h1 h2
    go_wp2
    go_ret2
    exact ⟨_, by rw [QF.out]; rfl, by rw [RF.out]; exact Ow.LOwn.nil _ _ _ _, B3.out⟩
  | true =>
  have QT : Hid (Q = true) := by show _ = _; rw [← HQ.out, resOk, h1, h2]; rfl
  have RT : Hid (R = outL r.fields us (mtch r s) r.fields.length) := by show _ = _; rw [← HR.out, resL, HQ.out, QT.out]; rfl
  have hul : us.length = s.fields.length := by
    simp only [rowOk, Bool.and_eq_true, decide_eq_true_eq] at h2
    exact h2.2.1
  have HL := Seg.hid hul
  clear h1 h2 HR HQ hul
  have a0 := (N3.out.cell (p := ⟨w.heap.size, 0, none⟩) (by show w.heap.size < w1.heap.size; omega)).trans (cell_of_row w1 _ 0 _ _ (0, 0) P1.out)
  have a1 := (N3.out.cell (p := ⟨w.heap.size, 1, none⟩) (by show w.heap.size < w1.heap.size; omega)).trans (cell_of_row w1 _ 1 _ _ (0, 0) P1.out)
  have a2 := (N3.out.cell (p := ⟨w.heap.size + 1, 0, none⟩) (by show w.heap.size + 1 < w1.heap.size; omega)).trans (cell_of_row w1 _ 0 _ _ (0, 0) P2.out)
  have a3 := (N3.out.cell (p := ⟨w.heap.size + 1, 1, none⟩) (by show w.heap.size + 1 < w1.heap.size; omega)).trans (cell_of_row w1 _ 1 _ _ (0, 0) P2.out)
  go_wp2_with fail
  refine (C4.out _ B3.out).mono ?_
  rintro e w4 ⟨vm, rfl, hm, b4⟩
  have N4 := Seg.hid (chain N3.out b4)
  have B4 := Seg.hid (chain B3.out b4)
  have s4 : w3.heap.size ≤ w4.heap.size := b4.size
  have P4 : Hid (w4.heap[w.heap.size]? = some (.cells (srow r A0 c0) 43 (0, 0))) := (N4.out.block _ (by omega)).trans P1.out
  have O4 : Hid (w4.ownsRow (w.heap.size + 2) 84 5 (.slice (some ⟨w.heap.size + 2, 0, none⟩) 0 0) 0 []) := Seg.owns_below O1.out N4.out
  have hml : (mtch r s).length = r.fields.length := mtch_len r s
  have hmI := ints_row hm (by omega)
  obtain ⟨Am, cm, gm, om, Fm, rfl, OM, hnm⟩ := opn hmI (fun g hg => hg.2)
  obtain ⟨em, hcm, hgm⟩ := OM.addr.resolve_left (by omega)
  subst em
  have hgm3 : w3.heap.size ≤ gm := (own_in hmI rfl (by omega)).1
  have HM := Seg.hid OM
  have MA : Hid (∀ k, k < r.fields.length → (mtch r s).getD k default = -1 ∨ (0 ≤ (mtch r s).getD k default ∧ (mtch r s).getD k default < s.fields.length)) := fun k h => by
    rw [mtch_at h]
    rcases plc_range s.fields (nms (r.fields.getD k default)) with h | ⟨h, h', _⟩
    · exact .inl h
    · exact .inr ⟨h, h'⟩
  clear b4 OM hm hmI C4 a0 a1 a2 a3 O1 P1 P2
  generalize mtch r s = ms at *
  have hgm4 : w.heap.size + 2 ≠ gm := by omega
  go_wp2
  go_loopw [8, 10] (fun v i wr => ∃ k : Nat, i = .int .i64 k ∧ Rn w4 wr (w.heap.size + 2) r.fields us ms gm k v) (fun _ i _ => r.fields.length - (intOf i).toNat)
  case atStart => exact ⟨0, rfl, RvL.start (t := 0) O4.out hgm4⟩
  case round =>
    clear O4
    obtain ⟨k, rfl, RN⟩ := hrel
    have hk := RN.le
    obtain ⟨Fl, Pl, LG0⟩ := RN.ls
    have LG := Seg.hid LG0
    have RNE := Seg.hid RN.ne
    have RMH := Seg.hid RN.mh
    have RB := Seg.hid RN.bel
    have BW : Hid (Below w.heap.size w wr) := B4.out.trans (RN.bel.mono (by omega))
    have s9 : w4.heap.size ≤ wr.heap.size := RN.bel.size
    clear RN LG0
    by_cases hlt : k < r.fields.length
    · obtain ⟨ea, hc, hgw⟩ := HO.out.addr.resolve_left (by omega)
      subst ea
      obtain ⟨A', c', B', d', hfl, d0, d1, d2, d3, d4, d5, d6, d7, d8, d9, d10⟩ := fld_at HO.out hS BW.out hlt
      have mc := int_cell HM.out RMH.out (show k < ms.length by omega)
      have PR := Seg.hid (MA.out k hlt)
      have OD : Hid (outAt r.fields us ms k = resV (r.fields.getD k default) us (ms.getD k default)) := rfl
      have SZ : Hid (szFld (r.fields.getD k default) ≤ 1048576) := szL_one szFld HF.out hlt
      obtain ⟨A9, c9, B9, d9', hv9, -, hB⟩ := form hfl
      simp only [Value.agg.injEq, Array.mk.injEq, List.cons.injEq, and_true, true_and, Value.slice.injEq] at hv9
      obtain ⟨⟨rfl, rfl⟩, rfl, rfl⟩ := hv9
      have HB := Seg.hid hB
      have h0 : (0 : Int) ≤ (k : Int) := by omega
      have h1 : (k : Int) < (r.fields.length : Int) := by omega
      have h1m : (k : Int) < (ms.length : Int) := by omega
      have hpr : wr.cell? ⟨w.heap.size, 1, none⟩ = some (.slice (some ⟨g, o, none⟩) r.fields.length c0) := cell_of_row wr _ 1 _ _ (0, 0) ((RB.out.block _ (by omega)).trans P4.out)
      have AL : Hid ((outL r.fields us ms k).length ≤ 20) := by show _ ≤ _; rw [outL_len]; omega
      clear hfl hB
      generalize r.fields.getD k default = f at *
      obtain ⟨p, hp⟩ : ∃ p, ms.getD k default = p := ⟨_, rfl⟩
      rw [hp] at mc PR OD
      clear hp
      have KS : Hid (szVlu (vluOf f) ≤ 1048576) := sz_inner f SZ.out
      obtain ⟨w5, hw5⟩ : ∃ w5, wr.alloc (.cells #[.string f.name, .int .i64 f.kind, .bool f.lst, .bool f.may, .slice A' f.was.length c', .bool f.fixd, .int .i64 f.vk, .int .i64 f.vn, .string f.vt, .bool f.vl, .slice B' f.vi.length d'] 86 (0, 0)) = w5 := ⟨_, rfl⟩
      have T5 : Hid (w5.heap[wr.heap.size]? = some (.cells (frow f A' c' B' d') 86 (0, 0))) := by show _ = _; rw [← hw5]; exact heap_alloc_new _ _
      have N5 : Hid (Below wr.heap.size wr w5) := by show Below _ _ _; rw [← hw5]; exact below1 _ _
      have s5 : w5.heap.size = wr.heap.size + 1 := by rw [← hw5, hsz]
      have S5 := Seg.hid s5
      clear s5
      go_upto_region 9 with fail
      try rw [hw5]
      clear hw5 d0 d1 d2 d3 d4 d5 d6 d7 d8 d9 d10 hpr
      obtain ⟨q0, q1, q2, q3, q4, q5, q6, q7, q8, q9, q10⟩ := cells11 T5.out
      obtain ⟨w6, hw6⟩ : ∃ w6, w5.alloc (.cells #[.int .i64 f.vk, .int .i64 f.vn, .string f.vt, .bool f.vl, .slice B' f.vi.length d'] 84 (0, 0)) = w6 := ⟨_, rfl⟩
      have T6 : Hid (w6.heap[w5.heap.size]? = some (.cells (vrow (vluOf f) B' d') 84 (0, 0))) := by show _ = _; rw [← hw6]; exact heap_alloc_new _ _
      have N6 : Hid (Below w5.heap.size w5 w6) := by show Below _ _ _; rw [← hw6]; exact below1 _ _
      have s6 : w5.heap.size < w6.heap.size := (Array.getElem?_eq_some_iff.1 T6.out).1
      have s65 : wr.heap.size < w6.heap.size := by have := S5.out; omega
      go_upto_region 10 with fail
      try rw [hw6]
      clear hw6 q0 q1 q2 q3 q4 q5 q6 q7 q8 q9 q10
      have N56 := Seg.hid (chain N5.out N6.out)
      have T56 : Hid (w6.heap[wr.heap.size]? = some (.cells (frow f A' c' B' d') 86 (0, 0))) := (N6.out.block _ (by have := S5.out; omega)).trans T5.out
      have mc6 : w6.cell? ⟨gm, om + k, none⟩ = some (.int .i64 p) := (N56.out.cell (p := ⟨gm, om + k, none⟩) (show gm < wr.heap.size by omega)).trans mc
      clear T5 N5 N6 mc
      by_cases hpm : p = -1
      · obtain ⟨v, hv8⟩ : ∃ v, v = u8 := ⟨_, rfl⟩
        rw [← hv8] at LG RNE ⊢
        clear hv8
        subst hpm
        have RIL : Hid ((outAt r.fields us ms k).items.length ≤ 1048576) := by show _ ≤ _; rw [OD.out]; exact res_items SZ.out HU.out (.inl rfl)
        clear PR
        go_upto_region 14 with fail
        clear mc6
        have HU1 : Hid (outAt r.fields us ms k = vluOf f) := by show _ = _; rw [OD.out, resV, if_pos rfl]
        have IL : Hid ((vluOf f).items.length ≤ 1048576) := by show _ ≤ _; rw [← HU1.out]; exact RIL.out
        have IT : Hid (LAt 2 EItm w6 S (.slice B' (vluOf f).items.length d') (vluOf f).items) := LAt.below keepsItm HB.out N56.out (fun z hz => Nat.lt_of_lt_of_le (hS z hz) BW.out.size)
        clear OD RIL
        obtain ⟨U, hU⟩ : ∃ U, vluOf f = U := ⟨_, rfl⟩
        rw [hU] at HU1 IL IT T6
        have e4 : w6.cell? ⟨w5.heap.size, 4, none⟩ = some (.slice B' U.items.length d') := cell_of_row w6 _ 4 _ _ (0, 0) T6.out
        have il := IL.out
        have hSw : ∀ g, S g → g < w6.heap.size := fun g hg => by have := hS g hg; have := BW.out.size; have := N56.out.size; omega
        clear hU
        obtain ⟨e0, e1, e2, e3, e4x⟩ := five3 T6.out
        clear e4
        go_wp2_with fail
        refine (RvJ.copy_any U B' d' w6 S IT.out hSw il).mono ?_
        rintro e w8 ⟨A7, c7, rfl, o7, b7⟩
        have O8 := Seg.hid o7
        have N8 := Seg.hid (chain N56.out b7)
        have z7 : w6.heap.size ≤ w8.heap.size := b7.size
        clear o7 b7 e0 e1 e2 e3 e4x T6 IT
        have hbs : w.heap.size + 2 ≤ wr.heap.size := by omega
        have hgmr : gm < wr.heap.size := by omega
        have zz8 : wr.heap.size ≤ w8.heap.size := N8.out.size
        have al := AL.out
        have OWN : Hid (∀ ob, (w8.alloc ob).ownsRow (w.heap.size + 2) 84 5 v (outL r.fields us ms k).length ((List.range ((outL r.fields us ms k).length * 5)).map Fl)) := fun ob => (Ow.LGr.keep Ow.keepsOVlu LG.out (chain N8.out (below1 w8 ob)).size (fun y _ hy => (chain N8.out (below1 w8 ob)).block y hy)).own
        have OI : Hid (∀ ob, Ow.ItmsOwn (w8.alloc ob) (seg wr.heap.size (w8.alloc ob).heap.size) (.slice A7 U.items.length c7) U.items) := fun ob => Ow.LOwn.mono (Ow.LOwn.belowO Ow.keepsOItm O8.out (below1 w8 ob) (fun y hy => hy.2)) (fun y hy => ⟨by have := hy.1; have := N56.out.size; omega, by rw [hsz]; have := hy.2; omega⟩)
        obtain ⟨i0, hi, hz0, hz1, hz2⟩ := info_parts infoVluZ
        go_wp2_with (at_builtin; (refine wpList_append_lies _ rfl _ _ 54 rfl (w.heap.size + 2) 84 i0 _ 5 64 Try.underlying54 hi hz0 hz1 hz2 rfl (by decide) v (outL r.fields us ms k).length ((List.range ((outL r.fields us ms k).length * 5)).map Fl) rfl (OWN.out _) ⟨w8.heap.size, 0, none⟩ 1 1 (vrow U A7 c7).toList rfl rfl (World.news_of_block (cs := vrow U A7 c7) (heap_alloc_new _ _)) (by simp [Value.oneCell']) (by decide) (by unfold maxLen; omega) (by omega) (by rw [hsz]; omega) (w8.heap.size + 1) (by rw [hsz]) ?_; intro g9 cap9 w9 hown9 gr9 hat9 hlt9; have NX := Seg.hid (nx hlt LG.out RNE.out RMH.out RB.out hgmr hbs (chain N8.out (below1 w8 _)) (OI.out _) HU1.out hown9 gr9 (by rw [hsz]; exact hat9)); clear hown9 gr9 hat9 hlt9))
        go_roundw
        case rel => exact ⟨k + 1, by go_num, NX.out⟩
        case measure => simp [intOf]; omega
      · obtain ⟨v, hv8⟩ : ∃ v, v = u8 := ⟨_, rfl⟩
        rw [← hv8] at LG RNE ⊢
        clear hv8
        obtain ⟨j, hj⟩ : ∃ j : Nat, p = j := ⟨p.toNat, by rcases PR.out with h | ⟨h, _⟩ <;> omega⟩
        subst hj
        have hjl : j < us.length := by have := HL.out; rcases PR.out with h | ⟨_, h⟩ <;> omega
        obtain ⟨ea, hc2, hgw2⟩ := HO2.out.addr.resolve_left (by omega)
        subst ea
        have RIL : Hid ((outAt r.fields us ms k).items.length ≤ 1048576) := by show _ ≤ _; rw [OD.out]; exact res_items SZ.out HU.out (.inr (by simpa using hjl))
        have OD2 : Hid (outAt r.fields us ms k = seenV f.kind (us.getD j default)) := by show _ = _; rw [OD.out, resV, if_neg hpm]; rfl
        obtain ⟨A4, c4, hvl, v0, v1, v2, v3, v4⟩ := vlu_at HO2.out hS BW.out hjl
        obtain ⟨A9, c9, hv9, hit⟩ := formV hvl
        simp only [Value.agg.injEq, Array.mk.injEq, List.cons.injEq, and_true, true_and, Value.slice.injEq] at hv9
        obtain ⟨rfl, rfl⟩ := hv9
        have HIT := Seg.hid hit
        clear hvl hit PR OD
        generalize us.getD j default = u at *
        have hq : decide ((0 : Int) ≤ (j : Int)) = true := by simp
        have j0 : (0 : Int) ≤ (j : Int) := by omega
        have j1 : (j : Int) < (us.length : Int) := by omega
        have y5w : g2 < wr.heap.size := by have := BW.out.size; omega
        have q0 := (N56.out.cell (p := ⟨g2, o2 + j * 5, none⟩) y5w).trans v0
        have q1 := (N56.out.cell (p := ⟨g2, o2 + j * 5 + 1, none⟩) y5w).trans v1
        have q2 := (N56.out.cell (p := ⟨g2, o2 + j * 5 + 2, none⟩) y5w).trans v2
        have q3 := (N56.out.cell (p := ⟨g2, o2 + j * 5 + 3, none⟩) y5w).trans v3
        have q4 := (N56.out.cell (p := ⟨g2, o2 + j * 5 + 4, none⟩) y5w).trans v4
        have TH := Seg.hid (Cells.there_of T6.out)
        clear v0 v1 v2 v3 v4 hpm
        go_upto_region 12 with (refine wpList_store_mid rfl 84 _ _ rfl w5.heap.size 0 (vrow u A4 c4) rfl rfl TH.out infoVlu (by simp [Value.oneCell']) ?_)
        obtain ⟨wx, hwx⟩ : ∃ wx, w6.setCells w5.heap.size 0 (vrow u A4 c4).toList = wx := ⟨_, rfl⟩
        have TX : Hid (wx.heap[w5.heap.size]? = some (.cells (vrow u A4 c4) 84 (0, 0))) := by show _ = _; rw [← hwx]; exact Cells.whole T6.out rfl
        have TF : Hid (wx.heap[wr.heap.size]? = some (.cells (frow f A' c' B' d') 86 (0, 0))) := by show _ = _; rw [← hwx]; exact (Cells.heap_setCells_other _ _ (by have := S5.out; omega)).trans T56.out
        have NX6 : Hid (Below wr.heap.size wr wx) := by show Below _ _ _; rw [← hwx]; exact Cells.below_setCells (g := w5.heap.size) (by have := S5.out; omega) _ 0 _ _ N56.out
        try rw [hwx]
        clear hwx TH T6 T56 N56 q0 q1 q2 q3 q4 mc6 s6 s65
        have x0 : wx.cell? ⟨w5.heap.size, 0, none⟩ = some (.int .i64 u.kind) := cell_of_row wx _ 0 _ _ (0, 0) TX.out
        by_cases hk0 : u.kind = 0
        · have hk1 : (u.kind != 0) = false := by simp [hk0]
          have OD : Hid (outAt r.fields us ms k = u) := by show _ = _; rw [OD2.out, seen_zero hk0]
          clear OD2 hk0
          go_upto_region 14 with fail
          clear x0 hk1
          have HU1 : Hid (outAt r.fields us ms k = u) := OD.out
          have IL : Hid ((u).items.length ≤ 1048576) := by show _ ≤ _; rw [← HU1.out]; exact RIL.out
          have IT : Hid (LAt 2 EItm wx S (.slice A4 (u).items.length c4) (u).items) := LAt.below keepsItm HIT.out NX6.out (fun z hz => Nat.lt_of_lt_of_le (hS z hz) BW.out.size)
          clear OD RIL
          obtain ⟨U, hU⟩ : ∃ U, u = U := ⟨_, rfl⟩
          rw [hU] at HU1 IL IT TX
          have e4 : wx.cell? ⟨w5.heap.size, 4, none⟩ = some (.slice A4 U.items.length c4) := cell_of_row wx _ 4 _ _ (0, 0) TX.out
          have il := IL.out
          have hSw : ∀ g, S g → g < wx.heap.size := fun g hg => by have := hS g hg; have := BW.out.size; have := NX6.out.size; omega
          clear hU
          obtain ⟨e0, e1, e2, e3, e4x⟩ := five3 TX.out
          clear e4
          go_wp2_with fail
          refine (RvJ.copy_any U A4 c4 wx S IT.out hSw il).mono ?_
          rintro e w8 ⟨A7, c7, rfl, o7, b7⟩
          have O8 := Seg.hid o7
          have N8 := Seg.hid (chain NX6.out b7)
          have z7 : wx.heap.size ≤ w8.heap.size := b7.size
          clear o7 b7 e0 e1 e2 e3 e4x TX IT
          have hbs : w.heap.size + 2 ≤ wr.heap.size := by omega
          have hgmr : gm < wr.heap.size := by omega
          have zz8 : wr.heap.size ≤ w8.heap.size := N8.out.size
          have al := AL.out
          have OWN : Hid (∀ ob, (w8.alloc ob).ownsRow (w.heap.size + 2) 84 5 v (outL r.fields us ms k).length ((List.range ((outL r.fields us ms k).length * 5)).map Fl)) := fun ob => (Ow.LGr.keep Ow.keepsOVlu LG.out (chain N8.out (below1 w8 ob)).size (fun y _ hy => (chain N8.out (below1 w8 ob)).block y hy)).own
          have OI : Hid (∀ ob, Ow.ItmsOwn (w8.alloc ob) (seg wr.heap.size (w8.alloc ob).heap.size) (.slice A7 U.items.length c7) U.items) := fun ob => Ow.LOwn.mono (Ow.LOwn.belowO Ow.keepsOItm O8.out (below1 w8 ob) (fun y hy => hy.2)) (fun y hy => ⟨by have := hy.1; have := NX6.out.size; omega, by rw [hsz]; have := hy.2; omega⟩)
          obtain ⟨i0, hi, hz0, hz1, hz2⟩ := info_parts infoVluZ
          go_wp2_with (at_builtin; (refine wpList_append_lies _ rfl _ _ 54 rfl (w.heap.size + 2) 84 i0 _ 5 64 Try.underlying54 hi hz0 hz1 hz2 rfl (by decide) v (outL r.fields us ms k).length ((List.range ((outL r.fields us ms k).length * 5)).map Fl) rfl (OWN.out _) ⟨w8.heap.size, 0, none⟩ 1 1 (vrow U A7 c7).toList rfl rfl (World.news_of_block (cs := vrow U A7 c7) (heap_alloc_new _ _)) (by simp [Value.oneCell']) (by decide) (by unfold maxLen; omega) (by omega) (by rw [hsz]; omega) (w8.heap.size + 1) (by rw [hsz]) ?_; intro g9 cap9 w9 hown9 gr9 hat9 hlt9; have NX := Seg.hid (nx hlt LG.out RNE.out RMH.out RB.out hgmr hbs (chain N8.out (below1 w8 _)) (OI.out _) HU1.out hown9 gr9 (by rw [hsz]; exact hat9)); clear hown9 gr9 hat9 hlt9))
          go_roundw
          case rel => exact ⟨k + 1, by go_num, NX.out⟩
          case measure => simp [intOf]; omega
        · have hk1 : (u.kind != 0) = true := by simp [hk0]
          have OD : Hid (outAt r.fields us ms k = ⟨f.kind, u.num, u.text, u.lst, u.items⟩) := by show _ = _; rw [OD2.out, seen_kind hk0]
          clear OD2 hk0
          have x1 : wx.cell? ⟨wr.heap.size, 1, none⟩ = some (.int .i64 f.kind) := cell_of_row wx _ 1 _ _ (0, 0) TF.out
          have pf : wx.frozen? ⟨w5.heap.size, 0, none⟩ = false := frozen_of_row wx _ 0 _ _ TX.out
          go_upto_region 14 with fail
          obtain ⟨wy, hwy⟩ : ∃ wy, wx.setCell ⟨w5.heap.size, 0, none⟩ (.int .i64 f.kind) = wy := ⟨_, rfl⟩
          have TY : Hid (wy.heap[w5.heap.size]? = some (.cells (vrow ⟨f.kind, u.num, u.text, u.lst, u.items⟩ A4 c4) 84 (0, 0))) := by show _ = _; rw [← hwy]; exact heap_setCell_same wx w5.heap.size 0 _ _ (.int .i64 f.kind) TX.out
          have NY6 : Hid (Below wr.heap.size wr wy) := by show Below _ _ _; rw [← hwy]; exact NX6.out.setCell (p := ⟨w5.heap.size, 0, none⟩) (by show wr.heap.size ≤ w5.heap.size; have := S5.out; omega) _
          try rw [hwy]
          clear hwy x0 x1 hk1 pf TX TF NX6
          have HU1 : Hid (outAt r.fields us ms k = (⟨f.kind, u.num, u.text, u.lst, u.items⟩ : Vlu)) := OD.out
          have IL : Hid (((⟨f.kind, u.num, u.text, u.lst, u.items⟩ : Vlu)).items.length ≤ 1048576) := by show _ ≤ _; rw [← HU1.out]; exact RIL.out
          have IT : Hid (LAt 2 EItm wy S (.slice A4 ((⟨f.kind, u.num, u.text, u.lst, u.items⟩ : Vlu)).items.length c4) ((⟨f.kind, u.num, u.text, u.lst, u.items⟩ : Vlu)).items) := LAt.below keepsItm HIT.out NY6.out (fun z hz => Nat.lt_of_lt_of_le (hS z hz) BW.out.size)
          clear OD RIL
          obtain ⟨U, hU⟩ : ∃ U, (⟨f.kind, u.num, u.text, u.lst, u.items⟩ : Vlu) = U := ⟨_, rfl⟩
          rw [hU] at HU1 IL IT TY
          have e4 : wy.cell? ⟨w5.heap.size, 4, none⟩ = some (.slice A4 U.items.length c4) := cell_of_row wy _ 4 _ _ (0, 0) TY.out
          have il := IL.out
          have hSw : ∀ g, S g → g < wy.heap.size := fun g hg => by have := hS g hg; have := BW.out.size; have := NY6.out.size; omega
          clear hU
          obtain ⟨e0, e1, e2, e3, e4x⟩ := five3 TY.out
          clear e4
          go_wp2_with fail
          refine (RvJ.copy_any U A4 c4 wy S IT.out hSw il).mono ?_
          rintro e w8 ⟨A7, c7, rfl, o7, b7⟩
          have O8 := Seg.hid o7
          have N8 := Seg.hid (chain NY6.out b7)
          have z7 : wy.heap.size ≤ w8.heap.size := b7.size
          clear o7 b7 e0 e1 e2 e3 e4x TY IT
          have hbs : w.heap.size + 2 ≤ wr.heap.size := by omega
          have hgmr : gm < wr.heap.size := by omega
          have zz8 : wr.heap.size ≤ w8.heap.size := N8.out.size
          have al := AL.out
          have OWN : Hid (∀ ob, (w8.alloc ob).ownsRow (w.heap.size + 2) 84 5 v (outL r.fields us ms k).length ((List.range ((outL r.fields us ms k).length * 5)).map Fl)) := fun ob => (Ow.LGr.keep Ow.keepsOVlu LG.out (chain N8.out (below1 w8 ob)).size (fun y _ hy => (chain N8.out (below1 w8 ob)).block y hy)).own
          have OI : Hid (∀ ob, Ow.ItmsOwn (w8.alloc ob) (seg wr.heap.size (w8.alloc ob).heap.size) (.slice A7 U.items.length c7) U.items) := fun ob => Ow.LOwn.mono (Ow.LOwn.belowO Ow.keepsOItm O8.out (below1 w8 ob) (fun y hy => hy.2)) (fun y hy => ⟨by have := hy.1; have := NY6.out.size; omega, by rw [hsz]; have := hy.2; omega⟩)
          obtain ⟨i0, hi, hz0, hz1, hz2⟩ := info_parts infoVluZ
          go_wp2_with (at_builtin; (refine wpList_append_lies _ rfl _ _ 54 rfl (w.heap.size + 2) 84 i0 _ 5 64 Try.underlying54 hi hz0 hz1 hz2 rfl (by decide) v (outL r.fields us ms k).length ((List.range ((outL r.fields us ms k).length * 5)).map Fl) rfl (OWN.out _) ⟨w8.heap.size, 0, none⟩ 1 1 (vrow U A7 c7).toList rfl rfl (World.news_of_block (cs := vrow U A7 c7) (heap_alloc_new _ _)) (by simp [Value.oneCell']) (by decide) (by unfold maxLen; omega) (by omega) (by rw [hsz]; omega) (w8.heap.size + 1) (by rw [hsz]) ?_; intro g9 cap9 w9 hown9 gr9 hat9 hlt9; have NX := Seg.hid (nx hlt LG.out RNE.out RMH.out RB.out hgmr hbs (chain N8.out (below1 w8 _)) (OI.out _) HU1.out hown9 gr9 (by rw [hsz]; exact hat9)); clear hown9 gr9 hat9 hlt9))
          go_roundw
          case rel => exact ⟨k + 1, by go_num, NX.out⟩
          case measure => simp [intOf]; omega
    · have hkl : k = r.fields.length := by omega
      have HE : Hid (R = outL r.fields us ms k) := by show _ = _; rw [RT.out, hkl]
      have LO : Hid (Ow.VlusOwn wr (seg (w.heap.size + 2) wr.heap.size) u8 (outL r.fields us ms k)) := Ow.LGrow.own ⟨Fl, Pl, LG.out⟩ (by rw [outL_len]; omega)
      have hx1 : ¬ (k : Int) < (ms.length : Int) := by omega
      have hx2 : ¬ k < ms.length := by omega
      clear hkl
      go_wp2
      go_ret2
      exact ⟨_, by rw [QT.out]; rfl, by rw [HE.out]; exact Ow.LOwn.mono LO.out (fun y hy => ⟨by have := hy.1; omega, hy.2⟩), BW.out⟩
end Go.Proofs.Ytdhicmbfknagjaa.RvS
