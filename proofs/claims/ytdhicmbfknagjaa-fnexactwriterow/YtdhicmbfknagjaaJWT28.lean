/- The program's RowOk; The model's RowOk. -/
import Derived.Deep.RegionHeld3
import Derived.Deep.RegionLaw
import Derived.Test.YtdhicmbfknagjaaJWT20
import Derived.Test.YtdhicmbfknagjaaJWT26
import Derived.Test.YtdhicmbfknagjaaJWT23
import Derived.Test.YtdhicmbfknagjaaJWT27
namespace Go.Proofs.Ytdhicmbfknagjaa.RoI
set_option maxRecDepth 8000
open Go.RowKit
open Ls Lp VkP VkR ScP ScI ScS RoP
open Recs (hsz below1 below2 below3 chain chainD)
set_option linter.unusedVariables false
/-- The cells of one value of a row. -/
theorem vlu_at {w w' : World} {S : Nat → Prop} {A : Option Addr} {c : Nat} {us : List Vlu} {g o : Nat} {F : Nat → Nat → Value} (h : Opn 5 EVlu w S A c us g o F) (hS : ∀ g, S g → g < w.heap.size) (hb : Below w.heap.size w w') {k : Nat} (hk : k < us.length) : ∃ A' c', VluAt w' S (.agg (vrow (us.getD k default) A' c')) (us.getD k default) ∧ w'.cell? ⟨g, o + k * 5, none⟩ = some (.int .i64 (us.getD k default).kind) ∧ w'.cell? ⟨g, o + k * 5 + 1, none⟩ = some (.int .i64 (us.getD k default).num) ∧ w'.cell? ⟨g, o + k * 5 + 2, none⟩ = some (.string (us.getD k default).text) ∧ w'.cell? ⟨g, o + k * 5 + 3, none⟩ = some (.bool (us.getD k default).lst) ∧ w'.cell? ⟨g, o + k * 5 + 4, none⟩ = some (.slice A' (us.getD k default).items.length c') := by
  have OL := h.later keepsVlu hS hb
  have e := OL.el k hk
  have cc := OL.cells k hk
  obtain ⟨A', c', hv, -⟩ := formV (v := .agg (arrVlu (F k))) ⟨F k, rfl, e⟩
  have hv' : arrVlu (F k) = vrow (us.getD k default) A' c' := by injection hv
  simp only [arrVlu, vrow, Array.mk.injEq, List.cons.injEq, and_true] at hv'
  obtain ⟨e0, e1, e2, e3, e4⟩ := hv'
  refine ⟨A', c', by rw [← hv]; exact ⟨F k, rfl, e⟩, ?_, ?_, ?_, ?_, ?_⟩
  · rw [← e0]; exact cc 0 (by omega)
  · rw [← e1]; exact cc 1 (by omega)
  · rw [← e2]; exact cc 2 (by omega)
  · rw [← e3]; exact cc 3 (by omega)
  · rw [← e4]; exact cc 4 (by omega)
set_option maxHeartbeats 6400000 in
theorem impl_any (x y : Value) (s : Sch) (us : List Vlu) (w : World) (S : Nat → Prop) (hx : SchAt w S x s) (hy : LAt 5 EVlu w S y us) (hS : ∀ g, S g → g < w.heap.size) (hfs : szSch s ≤ 1048576) (hfu : szL szVlu us ≤ 1048576) :
    Calls Try.prog 58 #[x, y] w fun e w' => e = .returned (.bool (rowOk s us)) ∧ Below w.heap.size w w' := by
  have HX := Seg.hid hx
  obtain ⟨A0, c0, rfl, hl⟩ := formS hx
  obtain ⟨A, c, g, o, F, e, OP, hn⟩ := opn hl hS
  cases e
  obtain ⟨A2, c2, g2, o2, F2, rfl, OP2, hn2⟩ := opn hy hS
  have HO := Seg.hid OP
  have HO2 := Seg.hid OP2
  have HU := Seg.hid hfu
  have C1 : Hid (∀ wx, Below w.heap.size w wx → Calls Try.prog 49 #[.agg (srow s A0 c0)] wx fun e w' => e = .returned (.bool (sok s)) ∧ Below wx.heap.size wx w') := fun wx b => ScI.impl_any _ s wx S (HX.out.below b hS) (fun g hg => Nat.lt_of_lt_of_le (hS g hg) b.size) hfs
  have R0 : Hid (rowOk s us = (sok s && (decide (us.length = s.fields.length) && rowL s.fields us s.fields.length))) := rfl
  clear hx hy hl OP OP2 hfs hfu
  go_enter Try.func58, Try.ntmps58
  go_wp2_with fail
  refine (C1.out _ (below1 w _)).mono ?_
  rintro e w1 ⟨rfl, b1⟩
  have B1 := Seg.hid (chain (below1 w _) b1)
  have P1 : Hid (w1.heap[w.heap.size]? = some (.cells (srow s A0 c0) 43 (0, 0))) := (b1.block w.heap.size (by rw [hsz]; omega)).trans (heap_alloc_new w _)
  have s1 : w.heap.size < w1.heap.size := (Array.getElem?_eq_some_iff.1 P1.out).1
  have p1 : w1.cell? ⟨w.heap.size, 1, none⟩ = some (.slice A0 s.fields.length c0) := cell_of_row w1 _ 1 _ _ (0, 0) P1.out
  clear b1 C1 HX
  cases h1 : sok s with
  | false =>
    have R : Hid (rowOk s us = false) := by show _ = _; rw [R0.out, h1]; rfl
    clear h1
    go_wp2
    go_ret
    exact ⟨by rw [R.out]; rfl, B1.out⟩
  | true =>
  by_cases hlen : us.length = s.fields.length
  case neg =>
    have R : Hid (rowOk s us = false) := by show _ = _; rw [R0.out, h1, decide_eq_false hlen]; rfl
    have hne : ((us.length : Int) != (s.fields.length : Int)) = true := by simp; omega
    clear h1 hlen
    go_wp2
    go_ret
    exact ⟨by rw [R.out]; rfl, B1.out⟩
  case pos =>
  have R : Hid (rowOk s us = rowL s.fields us s.fields.length) := by show _ = _; rw [R0.out, h1, decide_eq_true hlen]; rfl
  have hne : ((us.length : Int) != (s.fields.length : Int)) = false := by simp; omega
  have HL := Seg.hid hlen
  clear h1 hlen
  go_wp2
  clear hne
  go_loopw [21] (fun i wr => ∃ k : Nat, k ≤ s.fields.length ∧ i = .int .i64 k ∧ Hid (Below w1.heap.size w1 wr ∧ rowL s.fields us k = true)) (fun i _ => s.fields.length - (intOf i).toNat)
  case atStart => exact ⟨0, Nat.zero_le _, rfl, Below.refl _ _, rowL_zero _ _⟩
  case round =>
    obtain ⟨k, hk, rfl, HG⟩ := hrel
    by_cases hlt : k < s.fields.length
    · obtain ⟨ea, hc, hgw⟩ := HO.out.addr.resolve_left (by omega)
      subst ea
      have hltu : k < us.length := by have := HL.out; omega
      obtain ⟨ea, hc2, hgw2⟩ := HO2.out.addr.resolve_left (by omega)
      subst ea
      have BW : Hid (Below w.heap.size w wr) := chain B1.out HG.out.1
      obtain ⟨A', c', B', d', hfl, d0, d1, d2, d3, d4, d5, d6, d7, d8, d9, d10⟩ := fld_at HO.out hS BW.out hlt
      obtain ⟨A4, c4, hvl, q11, q12, q13, q14, q15⟩ := vlu_at HO2.out hS BW.out hltu
      have h0 : (0 : Int) ≤ (k : Int) := by omega
      have h1 : (k : Int) < (s.fields.length : Int) := by omega
      have h2 : (k : Int) < (us.length : Int) := by omega
      have SU : Hid (szVlu (us.getD k default) ≤ 1048576) := szL_one szVlu HU.out hltu
      have NX : Hid (oneAt s.fields us k = true → rowL s.fields us (k + 1) = true) := rowL_next HG.out.2
      have BX : Hid (oneAt s.fields us k = false → rowL s.fields us s.fields.length = false) := rowL_bad hlt
      have OD : Hid (oneAt s.fields us k = vof (s.fields.getD k default).kind (s.fields.getD k default).lst (s.fields.getD k default).may (us.getD k default)) := rfl
      have N1 := Seg.hid HG.out.1
      have HFL := Seg.hid hfl
      have HVL := Seg.hid hvl
      clear HG hfl hvl
      generalize s.fields.getD k default = f at *
      generalize us.getD k default = u at *
      obtain ⟨b, hb⟩ : ∃ b, oneAt s.fields us k = b := ⟨_, rfl⟩
      rw [hb] at NX BX OD
      clear hb
      have CV : Hid (∀ wx, Below wr.heap.size wr wx → Calls Try.prog 96 #[.agg (frow f A' c' B' d'), .agg (vrow u A4 c4)] wx fun e w' => e = .returned (.bool b) ∧ Below wx.heap.size wx w') := fun wx bx => by
        have h := VoI.impl_any _ _ f u wx S (HFL.out.below bx (fun g hg => Nat.lt_of_lt_of_le (hS g hg) BW.out.size)) (HVL.out.below bx (fun g hg => Nat.lt_of_lt_of_le (hS g hg) BW.out.size)) (fun g hg => Nat.lt_of_lt_of_le (hS g hg) (Nat.le_trans BW.out.size bx.size)) SU.out
        rw [← OD.out] at h
        exact h
      clear OD
      have y5 : g2 < wr.heap.size := by have := BW.out.size; omega
      obtain ⟨w5, hw5⟩ : ∃ w5, wr.alloc (.cells #[.string f.name, .int .i64 f.kind, .bool f.lst, .bool f.may, .slice A' f.was.length c', .bool f.fixd, .int .i64 f.vk, .int .i64 f.vn, .string f.vt, .bool f.vl, .slice B' f.vi.length d'] 86 (0, 0)) = w5 := ⟨_, rfl⟩
      have T5 : Hid (w5.heap[wr.heap.size]? = some (.cells (frow f A' c' B' d') 86 (0, 0))) := by show _ = _; rw [← hw5]; exact heap_alloc_new _ _
      have N5 : Hid (Below wr.heap.size wr w5) := by show Below _ _ _; rw [← hw5]; exact below1 _ _
      have s5 : wr.heap.size < w5.heap.size := (Array.getElem?_eq_some_iff.1 T5.out).1
      go_upto_region 6 with fail
      try rw [hw5]
      clear hw5 d0 d1 d2 d3 d4 d5 d6 d7 d8 d9 d10
      obtain ⟨q0, q1, q2, q3, q4, q5, q6, q7, q8, q9, q10⟩ := cells11 T5.out
      have q11 := (N5.out.cell (p := ⟨g2, o2 + k * 5, none⟩) y5).trans q11
      have q12 := (N5.out.cell (p := ⟨g2, o2 + k * 5 + 1, none⟩) y5).trans q12
      have q13 := (N5.out.cell (p := ⟨g2, o2 + k * 5 + 2, none⟩) y5).trans q13
      have q14 := (N5.out.cell (p := ⟨g2, o2 + k * 5 + 3, none⟩) y5).trans q14
      have q15 := (N5.out.cell (p := ⟨g2, o2 + k * 5 + 4, none⟩) y5).trans q15
      have y5 : g2 < w5.heap.size := by omega
      go_wp2_with fail
      go_region_held3 (fun w' => w'.cell? ⟨wr.heap.size, 0, none⟩ = some (.string f.name) ∧ w'.cell? ⟨wr.heap.size, 1, none⟩ = some (.int .i64 f.kind) ∧ w'.cell? ⟨wr.heap.size, 2, none⟩ = some (.bool f.lst) ∧ w'.cell? ⟨wr.heap.size, 3, none⟩ = some (.bool f.may) ∧ w'.cell? ⟨wr.heap.size, 4, none⟩ = some (.slice A' f.was.length c') ∧ w'.cell? ⟨wr.heap.size, 5, none⟩ = some (.bool f.fixd) ∧ w'.cell? ⟨wr.heap.size, 6, none⟩ = some (.int .i64 f.vk) ∧ w'.cell? ⟨wr.heap.size, 7, none⟩ = some (.int .i64 f.vn) ∧ w'.cell? ⟨wr.heap.size, 8, none⟩ = some (.string f.vt) ∧ w'.cell? ⟨wr.heap.size, 9, none⟩ = some (.bool f.vl) ∧ w'.cell? ⟨wr.heap.size, 10, none⟩ = some (.slice B' f.vi.length d') ∧ w'.cell? ⟨g2, o2 + k * 5, none⟩ = some (.int .i64 u.kind) ∧ w'.cell? ⟨g2, o2 + k * 5 + 1, none⟩ = some (.int .i64 u.num) ∧ w'.cell? ⟨g2, o2 + k * 5 + 2, none⟩ = some (.string u.text) ∧ w'.cell? ⟨g2, o2 + k * 5 + 3, none⟩ = some (.bool u.lst) ∧ w'.cell? ⟨g2, o2 + k * 5 + 4, none⟩ = some (.slice A4 u.items.length c4)) (first | exact ⟨q0, q1, q2, q3, q4, q5, q6, q7, q8, q9, q10, q11, q12, q13, q14, q15⟩ | exact ⟨r0, r1, r2, r3, r4, r5, r6, r7, r8, r9, r10, r11, r12, r13, r14, r15⟩ | go_keep) (first | (go_at_call 96; refine (CV.out _ (N5.out.drew)).mono ?_; rintro e w8 ⟨rfl, b8⟩; have B8 : Hid (Below w5.heap.size w5 w8) := ⟨b8.os, b8.tape, b8.output, b8.size, b8.block⟩; clear b8; have r0 := (B8.out.cell (p := ⟨wr.heap.size, 0, none⟩) s5).trans q0; have r1 := (B8.out.cell (p := ⟨wr.heap.size, 1, none⟩) s5).trans q1; have r2 := (B8.out.cell (p := ⟨wr.heap.size, 2, none⟩) s5).trans q2; have r3 := (B8.out.cell (p := ⟨wr.heap.size, 3, none⟩) s5).trans q3; have r4 := (B8.out.cell (p := ⟨wr.heap.size, 4, none⟩) s5).trans q4; have r5 := (B8.out.cell (p := ⟨wr.heap.size, 5, none⟩) s5).trans q5; have r6 := (B8.out.cell (p := ⟨wr.heap.size, 6, none⟩) s5).trans q6; have r7 := (B8.out.cell (p := ⟨wr.heap.size, 7, none⟩) s5).trans q7; have r8 := (B8.out.cell (p := ⟨wr.heap.size, 8, none⟩) s5).trans q8; have r9 := (B8.out.cell (p := ⟨wr.heap.size, 9, none⟩) s5).trans q9; have r10 := (B8.out.cell (p := ⟨wr.heap.size, 10, none⟩) s5).trans q10; have r11 := (B8.out.cell (p := ⟨g2, o2 + k * 5, none⟩) y5).trans q11; have r12 := (B8.out.cell (p := ⟨g2, o2 + k * 5 + 1, none⟩) y5).trans q12; have r13 := (B8.out.cell (p := ⟨g2, o2 + k * 5 + 2, none⟩) y5).trans q13; have r14 := (B8.out.cell (p := ⟨g2, o2 + k * 5 + 3, none⟩) y5).trans q14; have r15 := (B8.out.cell (p := ⟨g2, o2 + k * 5 + 4, none⟩) y5).trans q15))
      clear r0 r1 r2 r3 r4 r5 r6 r7 r8 r9 r10 r11 r12 r13 r14 r15
      cases b with
      | true =>
        go_wp2
        go_roundw
        case rel => exact ⟨k + 1, by omega, by go_num, chain N1.out (chain N5.out B8.out), NX.out (by simp)⟩
        case measure => simp [intOf]; omega
      | false =>
        go_wp2
        go_ret
        exact ⟨by rw [R.out, BX.out (by simp)]; rfl, chain BW.out (chain N5.out B8.out)⟩
    · obtain rfl : k = s.fields.length := by omega
      have RF : Hid (rowL s.fields us s.fields.length = true) := HG.out.2
      go_wp2
      go_ret
      exact ⟨by rw [R.out, RF.out]; rfl, chain B1.out HG.out.1⟩
end Go.Proofs.Ytdhicmbfknagjaa.RoI
namespace Go.Proofs.Ytdhicmbfknagjaa.RoS
set_option maxRecDepth 8000
open Go.RowKit
open Ls Lp VkP VkR ScP ScI ScS RoP
open Recs (hsz below1 below2 below3 chain chainD)
set_option linter.unusedVariables false
open RoI (vlu_at)
set_option maxHeartbeats 6400000 in
theorem spec_any (x y : Value) (s : Sch) (us : List Vlu) (w : World) (S : Nat → Prop) (hx : SchAt w S x s) (hy : LAt 5 EVlu w S y us) (hS : ∀ g, S g → g < w.heap.size) (hfs : szSch s ≤ 1048576) (hfu : szL szVlu us ≤ 1048576) :
    Calls Try.prog 54 #[x, y] w fun e w' => e = .returned (.bool (rowOk s us)) ∧ Below w.heap.size w w' := by
  have HX := Seg.hid hx
  obtain ⟨A0, c0, rfl, hl⟩ := formS hx
  obtain ⟨A, c, g, o, F, e, OP, hn⟩ := opn hl hS
  cases e
  obtain ⟨A2, c2, g2, o2, F2, rfl, OP2, hn2⟩ := opn hy hS
  have HO := Seg.hid OP
  have HO2 := Seg.hid OP2
  have HU := Seg.hid hfu
  have C1 : Hid (∀ wx, Below w.heap.size w wx → Calls Try.prog 46 #[.agg (srow s A0 c0)] wx fun e w' => e = .returned (.bool (sok s)) ∧ Below wx.heap.size wx w') := fun wx b => ScS.first_any _ s wx S (HX.out.below b hS) (fun g hg => Nat.lt_of_lt_of_le (hS g hg) b.size) hfs
  have R0 : Hid (rowOk s us = (sok s && (decide (us.length = s.fields.length) && rowL s.fields us s.fields.length))) := rfl
  clear hx hy hl OP OP2 hfs hfu
  go_enter Try.func54, Try.ntmps54
  go_wp2_with fail
  refine (C1.out _ (below1 w _)).mono ?_
  rintro e w1 ⟨rfl, b1⟩
  have B1 := Seg.hid (chain (below1 w _) b1)
  have P1 : Hid (w1.heap[w.heap.size]? = some (.cells (srow s A0 c0) 43 (0, 0))) := (b1.block w.heap.size (by rw [hsz]; omega)).trans (heap_alloc_new w _)
  have s1 : w.heap.size < w1.heap.size := (Array.getElem?_eq_some_iff.1 P1.out).1
  have p1 : w1.cell? ⟨w.heap.size, 1, none⟩ = some (.slice A0 s.fields.length c0) := cell_of_row w1 _ 1 _ _ (0, 0) P1.out
  clear b1 C1 HX
  cases h1 : sok s with
  | false =>
    have R : Hid (rowOk s us = false) := by show _ = _; rw [R0.out, h1]; rfl
    clear h1
    go_wp2
    go_ret
    exact ⟨by rw [R.out]; rfl, B1.out⟩
  | true =>
  by_cases hlen : us.length = s.fields.length
  case neg =>
    have R : Hid (rowOk s us = false) := by show _ = _; rw [R0.out, h1, decide_eq_false hlen]; rfl
    have hne : ((us.length : Int) != (s.fields.length : Int)) = true := by simp; omega
    clear h1 hlen
    go_wp2
    go_ret
    exact ⟨by rw [R.out]; rfl, B1.out⟩
  case pos =>
  have R : Hid (rowOk s us = rowL s.fields us s.fields.length) := by show _ = _; rw [R0.out, h1, decide_eq_true hlen]; rfl
  have hne : ((us.length : Int) != (s.fields.length : Int)) = false := by simp; omega
  have HL := Seg.hid hlen
  clear h1 hlen
  go_wp2
  clear hne
  go_loopw [5] (fun i wr => ∃ k : Nat, k ≤ s.fields.length ∧ i = .int .i64 k ∧ Hid (Below w1.heap.size w1 wr ∧ rowL s.fields us k = true)) (fun i _ => s.fields.length - (intOf i).toNat)
  case atStart => exact ⟨0, Nat.zero_le _, rfl, Below.refl _ _, rowL_zero _ _⟩
  case round =>
    obtain ⟨k, hk, rfl, HG⟩ := hrel
    by_cases hlt : k < s.fields.length
    · obtain ⟨ea, hc, hgw⟩ := HO.out.addr.resolve_left (by omega)
      subst ea
      have hltu : k < us.length := by have := HL.out; omega
      obtain ⟨ea, hc2, hgw2⟩ := HO2.out.addr.resolve_left (by omega)
      subst ea
      have BW : Hid (Below w.heap.size w wr) := chain B1.out HG.out.1
      obtain ⟨A', c', B', d', hfl, q1, q2, q3, q4, q5, q6, q7, q8, q9, q10, q11⟩ := fld_at HO.out hS BW.out hlt
      obtain ⟨A4, c4, hvl, q12, q13, q14, q15, q16⟩ := vlu_at HO2.out hS BW.out hltu
      have h0 : (0 : Int) ≤ (k : Int) := by omega
      have h1 : (k : Int) < (s.fields.length : Int) := by omega
      have h2 : (k : Int) < (us.length : Int) := by omega
      have SU : Hid (szVlu (us.getD k default) ≤ 1048576) := szL_one szVlu HU.out hltu
      have NX : Hid (oneAt s.fields us k = true → rowL s.fields us (k + 1) = true) := rowL_next HG.out.2
      have BX : Hid (oneAt s.fields us k = false → rowL s.fields us s.fields.length = false) := rowL_bad hlt
      have OD : Hid (oneAt s.fields us k = vof (s.fields.getD k default).kind (s.fields.getD k default).lst (s.fields.getD k default).may (us.getD k default)) := rfl
      have N1 := Seg.hid HG.out.1
      have q0 : wr.cell? ⟨w.heap.size, 1, none⟩ = some (.slice (some ⟨g, o, none⟩) s.fields.length c0) := (N1.out.cell (p := ⟨w.heap.size, 1, none⟩) s1).trans p1
      have HFL := Seg.hid hfl
      have HVL := Seg.hid hvl
      clear HG hfl hvl
      generalize s.fields.getD k default = f at *
      generalize us.getD k default = u at *
      obtain ⟨b, hb⟩ : ∃ b, oneAt s.fields us k = b := ⟨_, rfl⟩
      rw [hb] at NX BX OD
      clear hb
      have CV : Hid (∀ wx, Below wr.heap.size wr wx → Calls Try.prog 83 #[.agg (frow f A' c' B' d'), .agg (vrow u A4 c4)] wx fun e w' => e = .returned (.bool b) ∧ Below wx.heap.size wx w') := fun wx bx => by
        have h := VkS.of_any _ _ f u wx S (HFL.out.below bx (fun g hg => Nat.lt_of_lt_of_le (hS g hg) BW.out.size)) (HVL.out.below bx (fun g hg => Nat.lt_of_lt_of_le (hS g hg) BW.out.size)) (fun g hg => Nat.lt_of_lt_of_le (hS g hg) (Nat.le_trans BW.out.size bx.size)) SU.out
        rw [← OD.out] at h
        exact h
      clear OD
      have y5 : g2 < wr.heap.size := by have := BW.out.size; omega
      have z5 : w.heap.size < wr.heap.size := by have := N1.out.size; omega
      have y4 : g < wr.heap.size := by have := BW.out.size; omega
      go_wp2_with fail
      go_region_held3 (fun w' => w'.cell? ⟨w.heap.size, 1, none⟩ = some (.slice (some ⟨g, o, none⟩) s.fields.length c0) ∧ w'.cell? ⟨g, o + k * 11, none⟩ = some (.string f.name) ∧ w'.cell? ⟨g, o + k * 11 + 1, none⟩ = some (.int .i64 f.kind) ∧ w'.cell? ⟨g, o + k * 11 + 2, none⟩ = some (.bool f.lst) ∧ w'.cell? ⟨g, o + k * 11 + 3, none⟩ = some (.bool f.may) ∧ w'.cell? ⟨g, o + k * 11 + 4, none⟩ = some (.slice A' f.was.length c') ∧ w'.cell? ⟨g, o + k * 11 + 5, none⟩ = some (.bool f.fixd) ∧ w'.cell? ⟨g, o + k * 11 + 6, none⟩ = some (.int .i64 f.vk) ∧ w'.cell? ⟨g, o + k * 11 + 7, none⟩ = some (.int .i64 f.vn) ∧ w'.cell? ⟨g, o + k * 11 + 8, none⟩ = some (.string f.vt) ∧ w'.cell? ⟨g, o + k * 11 + 9, none⟩ = some (.bool f.vl) ∧ w'.cell? ⟨g, o + k * 11 + 10, none⟩ = some (.slice B' f.vi.length d') ∧ w'.cell? ⟨g2, o2 + k * 5, none⟩ = some (.int .i64 u.kind) ∧ w'.cell? ⟨g2, o2 + k * 5 + 1, none⟩ = some (.int .i64 u.num) ∧ w'.cell? ⟨g2, o2 + k * 5 + 2, none⟩ = some (.string u.text) ∧ w'.cell? ⟨g2, o2 + k * 5 + 3, none⟩ = some (.bool u.lst) ∧ w'.cell? ⟨g2, o2 + k * 5 + 4, none⟩ = some (.slice A4 u.items.length c4)) (first | exact ⟨q0, q1, q2, q3, q4, q5, q6, q7, q8, q9, q10, q11, q12, q13, q14, q15, q16⟩ | exact ⟨r0, r1, r2, r3, r4, r5, r6, r7, r8, r9, r10, r11, r12, r13, r14, r15, r16⟩ | go_keep) (first | (go_at_call 83; refine (CV.out _ ((Below.refl _ _).drew)).mono ?_; rintro e w8 ⟨rfl, b8⟩; have B8 : Hid (Below wr.heap.size wr w8) := ⟨b8.os, b8.tape, b8.output, b8.size, b8.block⟩; clear b8; have r0 := (B8.out.cell (p := ⟨w.heap.size, 1, none⟩) z5).trans q0; have r1 := (B8.out.cell (p := ⟨g, o + k * 11, none⟩) y4).trans q1; have r2 := (B8.out.cell (p := ⟨g, o + k * 11 + 1, none⟩) y4).trans q2; have r3 := (B8.out.cell (p := ⟨g, o + k * 11 + 2, none⟩) y4).trans q3; have r4 := (B8.out.cell (p := ⟨g, o + k * 11 + 3, none⟩) y4).trans q4; have r5 := (B8.out.cell (p := ⟨g, o + k * 11 + 4, none⟩) y4).trans q5; have r6 := (B8.out.cell (p := ⟨g, o + k * 11 + 5, none⟩) y4).trans q6; have r7 := (B8.out.cell (p := ⟨g, o + k * 11 + 6, none⟩) y4).trans q7; have r8 := (B8.out.cell (p := ⟨g, o + k * 11 + 7, none⟩) y4).trans q8; have r9 := (B8.out.cell (p := ⟨g, o + k * 11 + 8, none⟩) y4).trans q9; have r10 := (B8.out.cell (p := ⟨g, o + k * 11 + 9, none⟩) y4).trans q10; have r11 := (B8.out.cell (p := ⟨g, o + k * 11 + 10, none⟩) y4).trans q11; have r12 := (B8.out.cell (p := ⟨g2, o2 + k * 5, none⟩) y5).trans q12; have r13 := (B8.out.cell (p := ⟨g2, o2 + k * 5 + 1, none⟩) y5).trans q13; have r14 := (B8.out.cell (p := ⟨g2, o2 + k * 5 + 2, none⟩) y5).trans q14; have r15 := (B8.out.cell (p := ⟨g2, o2 + k * 5 + 3, none⟩) y5).trans q15; have r16 := (B8.out.cell (p := ⟨g2, o2 + k * 5 + 4, none⟩) y5).trans q16))
      clear r0 r1 r2 r3 r4 r5 r6 r7 r8 r9 r10 r11 r12 r13 r14 r15 r16
      cases b with
      | true =>
        go_wp2
        go_roundw
        case rel => exact ⟨k + 1, by omega, by go_num, chain N1.out B8.out, NX.out (by simp)⟩
        case measure => simp [intOf]; omega
      | false =>
        go_wp2
        go_ret
        exact ⟨by rw [R.out, BX.out (by simp)]; rfl, chain BW.out B8.out⟩
    · obtain rfl : k = s.fields.length := by omega
      have RF : Hid (rowL s.fields us s.fields.length = true) := HG.out.2
      have hEQ := HL.out
      go_wp2
      go_ret
      exact ⟨by rw [R.out, RF.out]; rfl, chain B1.out HG.out.1⟩
end Go.Proofs.Ytdhicmbfknagjaa.RoS
