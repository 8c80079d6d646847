/- The program's WriteRow. -/
import Derived.Test.YtikfffeiemlnoabJWR38
import Derived.Test.YtikfffeiemlnoabJWR32
import Derived.Test.YtikfffeiemlnoabJWR35
import Derived.Test.YtikfffeiemlnoabJWR31
namespace Go.Proofs.Ytikfffeiemlnoab.WwK
set_option maxRecDepth 8000
open Go.RowKit
open Ls Lp VkP VkR ScP ScI ScS RoP RoI WwP
open SqP (Out app)
open Nums (put)
open PuI (Ext below_grown out_below out_lt out_cell)
open Recs (hsz below1 below2 below3 chain chainD)
set_option linter.unusedVariables false
/-- A row's fields up to the k-th are written. -/
structure Wr (w2 wr : World) (base : Nat) (fs : List Fld) (us : List Vlu) (id : Int) (k : Nat) (v : Value) : Prop where
  le : k ≤ fs.length
  ro : ∃ gx cap cur, v = .slice (some ⟨gx, 0, none⟩) cur.length cap ∧ Out wr base gx cap cur ∧ cur = put id ++ rowB fs us k
  bel : Below base w2 wr
theorem none_own (w wx : World) (hb : Below w.heap.size w wx) (c : Nat) (A : Option Addr) : Ow.YsOwn wx (seg w.heap.size wx.heap.size) (.slice A 0 c) [] := Ow.LOwn.nil _ _ _ _
theorem ext_next {w2 wx w' : World} {base gx : Nat} {l : List Int} {e : Ending} (hb : Below base w2 wx) (hs : base ≤ wx.heap.size) (hg : base ≤ gx) (E : Ext wx w' base gx l e) : Below base w2 w' :=
  hb.grown E.gr hs (fun k hk => by cases hk; exact hg)
set_option maxHeartbeats 6400000 in
theorem impl_any (id : Int) (x y : Value) (s : Sch) (us : List Vlu) (w : World) (S : Nat → Prop) (hx : SchAt w S x s) (hy : LAt 5 EVlu w S y us) (hS : ∀ g, S g → g < w.heap.size) (hfs : szSch s ≤ 1048576) (hfu : szL szVlu us ≤ 1048576) :
    Calls Try.prog 15 #[.int .i64 id, x, y] w fun e w' => ∃ v, e = .returned v ∧ Ow.YsOwn w' (seg w.heap.size w'.heap.size) v (wrow id s us) ∧ Below w.heap.size w w' := by
  have HX := Seg.hid hx
  have HY := Seg.hid hy
  obtain ⟨A0, c0, rfl, hl⟩ := formS hx
  obtain ⟨A, c, g, o, F, e, OP, hn⟩ := opn hl hS
  cases e
  obtain ⟨A2, c2, g2, o2, F2, rfl, OP2, hn2⟩ := opn hy hS
  have HO := Seg.hid OP
  have HO2 := Seg.hid OP2
  have C1 : Hid (∀ wx, Below w.heap.size w wx → Calls Try.prog 11 #[.agg (srow s A0 c0), .slice A2 us.length c2] wx fun e w' => e = .returned (.bool (rowOk s us)) ∧ Below wx.heap.size wx w') := fun wx b => RoI.impl_any _ _ s us wx S (HX.out.below b hS) (LAt.below keepsVlu HY.out b hS) (fun g hg => Nat.lt_of_lt_of_le (hS g hg) b.size) hfs hfu
  clear hx hy hl OP OP2 hfs hfu
  obtain ⟨R, hR⟩ : ∃ R, wrow id s us = R := ⟨_, rfl⟩
  rw [hR]
  have HR := Seg.hid hR
  clear hR
  go_enter Try.func15, Try.ntmps15
  cases hin : inR 0 id 1000000000 with
  | false =>
    have RF : Hid (R = []) := by show _ = _; rw [← HR.out, wrow, hin]; rfl
    have HB := Seg.hid hin
    clear hin
    go_wp2_with (go_at_call 37; refine (InB.within_b _ _ _ _ HB.out _).mono ?_; rintro e w5 ⟨rfl, rfl⟩)
    go_ret
    exact ⟨_, rfl, by rw [RF.out]; exact Ow.LOwn.nil _ _ _ _, below2 _ _ _⟩
  | true =>
  have HB := Seg.hid hin
  go_wp2_with (first | (go_at_call 37; refine (InB.within_b _ _ _ _ HB.out _).mono ?_; rintro e w5 ⟨rfl, rfl⟩) | fail)
  refine (C1.out _ (below1 w _)).mono ?_
  rintro e w1 ⟨rfl, b1⟩
  have B1 := Seg.hid (chain (below1 w _) b1)
  have P1 : Hid (w1.heap[w.heap.size]? = some (.cells (srow s A0 c0) 31 (0, 0))) := (b1.block w.heap.size (by rw [hsz]; omega)).trans (heap_alloc_new w _)
  have s1 : w.heap.size < w1.heap.size := (Array.getElem?_eq_some_iff.1 P1.out).1
  clear b1 C1
  cases h1 : rowOk s us with
  | false =>
    have RF : Hid (R = []) := by show _ = _; rw [← HR.out, wrow, hin, h1]; rfl
    clear hin h1
    go_wp2
    go_ret
    exact ⟨_, rfl, by rw [RF.out]; exact Ow.LOwn.nil _ _ _ _, chain B1.out (below1 _ _)⟩
  | true =>
  have hid := inR_true hin
  have RF : Hid (R = put id ++ rowB s.fields us s.fields.length) := by show _ = _; rw [← HR.out, wrow, hin, h1]; rfl
  have RL : Hid (R.length ≤ 100000) := by show _ ≤ _; rw [← HR.out]; exact wrow_len _ _ _
  simp only [rowOk, Bool.and_eq_true, decide_eq_true_eq] at h1
  have HROW : Hid (rowL s.fields us s.fields.length = true) := h1.2.2
  have HL : Hid (us.length = s.fields.length) := h1.2.1
  have h20 : s.fields.length ≤ 20 := (MaP.sok_dst h1.1).2.1
  have p1 : w1.cell? ⟨w.heap.size, 1, none⟩ = some (.slice A0 s.fields.length c0) := cell_of_row w1 _ 1 _ _ (0, 0) P1.out
  have hpl := put10 (n := id) (by omega)
  clear h1 hin HR HB
  go_wp2_with fail
  refine (Put.impl_any id w1 (by omega) (by omega)).mono ?_
  rintro e w2 ⟨gp, cp, rfl, op, b2⟩
  have OP2 := Seg.hid op
  have B2 := Seg.hid b2
  have s2 : w1.heap.size ≤ w2.heap.size := b2.size
  have p2 : w2.cell? ⟨w.heap.size, 1, none⟩ = some (.slice A0 s.fields.length c0) := (b2.cell (p := ⟨w.heap.size, 1, none⟩) s1).trans p1
  clear op b2 p1 P1
  go_wp2
  go_loopw [7, 25] (fun v i wr => ∃ k : Nat, i = .int .i64 k ∧ Wr w2 wr w1.heap.size s.fields us id k v) (fun _ i _ => s.fields.length - (intOf i).toNat)
  case atStart => exact ⟨0, rfl, Nat.zero_le _, ⟨gp, cp, put id, rfl, OP2.out, by rw [rowB_zero, List.append_nil]⟩, Below.refl _ _⟩
  case round =>
    clear OP2
    obtain ⟨k, rfl, WR⟩ := hrel
    have hk := WR.le
    obtain ⟨gx, cx, cur, rfl, ox, hcur⟩ := WR.ro
    have OX := Seg.hid ox
    have HC := Seg.hid hcur
    have BX : Hid (Below w1.heap.size w1 wr) := B2.out.trans WR.bel
    have BR := Seg.hid WR.bel
    clear WR ox hcur
    by_cases hlt : k < s.fields.length
    · obtain ⟨ea, hc, hgw⟩ := HO.out.addr.resolve_left (by omega)
      subst ea
      have hltu : k < us.length := by have := HL.out; omega
      obtain ⟨ea, hc2, hgw2⟩ := HO2.out.addr.resolve_left (by omega)
      subst ea
      have BW : Hid (Below w.heap.size w wr) := B1.out.trans (BX.out.mono (by omega))
      obtain ⟨A', c', B', d', hfl, d0, d1, d2, d3, d4, d5, d6, d7, d8, d9, d10⟩ := fld_at HO.out hS BW.out hlt
      obtain ⟨A4, c4, hvl, q11, q12, q13, q14, q15⟩ := vlu_at HO2.out hS BW.out hltu
      have h0 : (0 : Int) ≤ (k : Int) := by omega
      have h1 : (k : Int) < (s.fields.length : Int) := by omega
      have h2 : (k : Int) < (us.length : Int) := by omega
      have OK1 : Hid (vok (us.getD k default) = true) := (one_vok (rowL_at hlt HROW.out)).1
      have NX : Hid (rowB s.fields us (k + 1) = rowB s.fields us k ++ valB (s.fields.getD k default).may (us.getD k default)) := rowB_next _ _ _
      have CL : Hid (cur.length ≤ 100000) := by
        show _ ≤ _
        have := rowB_len HROW.out k hk
        rw [HC.out, List.length_append]
        omega
      obtain ⟨A9, c9, hv9, hit⟩ := formV hvl
      simp only [Value.agg.injEq, Array.mk.injEq, List.cons.injEq, and_true, true_and, Value.slice.injEq] at hv9
      obtain ⟨rfl, rfl⟩ := hv9
      have HIT := Seg.hid hit
      clear hfl hvl hit
      generalize s.fields.getD k default = f at *
      generalize us.getD k default = u at *
      have CV : Hid (∀ wx, Below wr.heap.size wr wx → Calls Try.prog 39 #[.slice (some ⟨gx, 0, none⟩) cur.length cx, .agg (frow f A' c' B' d'), .agg (vrow u A4 c4)] wx fun e w' => Ext wx w' w1.heap.size gx (cur ++ valB f.may u) e) := fun wx bx =>
        WwI.value_w f u A4 A' B' c4 c' d' gx cx w1.heap.size cur wx S (LAt.below keepsItm HIT.out bx (fun g hg => Nat.lt_of_lt_of_le (hS g hg) BW.out.size)) (fun z hz => Nat.lt_trans (hS z hz) s1) OK1.out (by have := CL.out; omega) (out_below OX.out bx) (Nat.le_trans BX.out.size bx.size)
      have y5 : g2 < wr.heap.size := by have := BW.out.size; omega
      obtain ⟨w5, hw5⟩ : ∃ w5, wr.alloc (.cells #[.string f.name, .int .i64 f.kind, .bool f.lst, .bool f.may, .slice A' f.was.length c', .bool f.fixd, .int .i64 f.vk, .int .i64 f.vn, .string f.vt, .bool f.vl, .slice B' f.vi.length d'] 60 (0, 0)) = w5 := ⟨_, rfl⟩
      have T5 : Hid (w5.heap[wr.heap.size]? = some (.cells (frow f A' c' B' d') 60 (0, 0))) := by show _ = _; rw [← hw5]; exact heap_alloc_new _ _
      have N5 : Hid (Below wr.heap.size wr w5) := by show Below _ _ _; rw [← hw5]; exact below1 _ _
      have s5 : wr.heap.size < w5.heap.size := (Array.getElem?_eq_some_iff.1 T5.out).1
      go_upto_region 7 with fail
      try rw [hw5]
      clear hw5 d0 d1 d2 d3 d4 d5 d6 d7 d8 d9 d10
      obtain ⟨q0, q1, q2, q3, q4, q5, q6, q7, q8, q9, q10⟩ := cells11 T5.out
      have q11 := (N5.out.cell (p := ⟨g2, o2 + k * 5, none⟩) y5).trans q11
      have q12 := (N5.out.cell (p := ⟨g2, o2 + k * 5 + 1, none⟩) y5).trans q12
      have q13 := (N5.out.cell (p := ⟨g2, o2 + k * 5 + 2, none⟩) y5).trans q13
      have q14 := (N5.out.cell (p := ⟨g2, o2 + k * 5 + 3, none⟩) y5).trans q14
      have q15 := (N5.out.cell (p := ⟨g2, o2 + k * 5 + 4, none⟩) y5).trans q15
      have y5 : g2 < w5.heap.size := by omega
      obtain ⟨l5, hl5⟩ : ∃ l5, cur ++ valB f.may u = l5 := ⟨_, rfl⟩
      rw [hl5] at CV
      have H5 : Hid (l5 = put id ++ rowB s.fields us (k + 1)) := by show _ = _; rw [← hl5, HC.out, NX.out, List.append_assoc]
      clear hl5 HC NX
      have hgx := (out_lt OX.out).1
      have hn1 : wr.heap.size ≠ gx := by have := (out_lt OX.out).2; omega
      have hn2 : g2 ≠ gx := by omega
      go_wp2_with fail
      go_region_held3 (fun w' => w'.cell? ⟨wr.heap.size, 0, none⟩ = some (.string f.name) ∧ w'.cell? ⟨wr.heap.size, 1, none⟩ = some (.int .i64 f.kind) ∧ w'.cell? ⟨wr.heap.size, 2, none⟩ = some (.bool f.lst) ∧ w'.cell? ⟨wr.heap.size, 3, none⟩ = some (.bool f.may) ∧ w'.cell? ⟨wr.heap.size, 4, none⟩ = some (.slice A' f.was.length c') ∧ w'.cell? ⟨wr.heap.size, 5, none⟩ = some (.bool f.fixd) ∧ w'.cell? ⟨wr.heap.size, 6, none⟩ = some (.int .i64 f.vk) ∧ w'.cell? ⟨wr.heap.size, 7, none⟩ = some (.int .i64 f.vn) ∧ w'.cell? ⟨wr.heap.size, 8, none⟩ = some (.string f.vt) ∧ w'.cell? ⟨wr.heap.size, 9, none⟩ = some (.bool f.vl) ∧ w'.cell? ⟨wr.heap.size, 10, none⟩ = some (.slice B' f.vi.length d') ∧ w'.cell? ⟨g2, o2 + k * 5, none⟩ = some (.int .i64 u.kind) ∧ w'.cell? ⟨g2, o2 + k * 5 + 1, none⟩ = some (.int .i64 u.num) ∧ w'.cell? ⟨g2, o2 + k * 5 + 2, none⟩ = some (.string u.text) ∧ w'.cell? ⟨g2, o2 + k * 5 + 3, none⟩ = some (.bool u.lst) ∧ w'.cell? ⟨g2, o2 + k * 5 + 4, none⟩ = some (.slice A4 u.items.length c4)) (first | exact ⟨q0, q1, q2, q3, q4, q5, q6, q7, q8, q9, q10, q11, q12, q13, q14, q15⟩ | exact ⟨r0, r1, r2, r3, r4, r5, r6, r7, r8, r9, r10, r11, r12, r13, r14, r15⟩ | go_keep) (first | (go_at_call 39; refine (CV.out _ N5.out.drew).mono ?_; rintro e w8 hE; have gr5 : w5.grownBy w8 (some gx) := ⟨hE.gr.os, hE.gr.tape, hE.gr.output, hE.gr.size, hE.gr.block⟩; have r0 := WwI.kept1 q0 gr5 hn1; have r1 := WwI.kept1 q1 gr5 hn1; have r2 := WwI.kept1 q2 gr5 hn1; have r3 := WwI.kept1 q3 gr5 hn1; have r4 := WwI.kept1 q4 gr5 hn1; have r5 := WwI.kept1 q5 gr5 hn1; have r6 := WwI.kept1 q6 gr5 hn1; have r7 := WwI.kept1 q7 gr5 hn1; have r8 := WwI.kept1 q8 gr5 hn1; have r9 := WwI.kept1 q9 gr5 hn1; have r10 := WwI.kept1 q10 gr5 hn1; have r11 := WwI.kept1 q11 gr5 hn2; have r12 := WwI.kept1 q12 gr5 hn2; have r13 := WwI.kept1 q13 gr5 hn2; have r14 := WwI.kept1 q14 gr5 hn2; have r15 := WwI.kept1 q15 gr5 hn2; clear gr5; have B8 : Hid (Below w1.heap.size w2 w8) := ext_next (w2 := w2) (BR.out.trans (N5.out.drew.mono (by have := BX.out.size; omega))) (by show _ ≤ w5.heap.size; have := BX.out.size; omega) hgx hE; obtain ⟨⟨g8, c8, rfl, o8, a8⟩, gr8⟩ := hE; have O8 := Seg.hid o8; clear o8 a8 gr8))
      all_goals
        clear r0 r1 r2 r3 r4 r5 r6 r7 r8 r9 r10 r11 r12 r13 r14 r15
        go_wp2
        go_roundw
        case rel => exact ⟨k + 1, by go_num, by omega, ⟨g8, c8, l5, rfl, O8.out, H5.out⟩, B8.out⟩
        case measure => simp [intOf]; omega
    · have hkl : k = s.fields.length := by omega
      have HE : Hid (cur = R) := by show _ = _; rw [HC.out, RF.out, hkl]
      have hgx := out_lt OX.out
      clear hkl
      go_wp2
      go_ret
      rw [← HE.out]
      exact ⟨_, rfl, Ow.bytes_own OX.out rfl (by have := RL.out; rw [← HE.out] at this; omega) ⟨by omega, hgx.2⟩, B1.out.trans (BX.out.mono (by omega))⟩
end Go.Proofs.Ytikfffeiemlnoab.WwK
