/- The program's Resolve; The law's marks on a list of texts of the call's own. -/
import Derived.Test.YtdhicmbfknagjaaJRO24
import Derived.Test.YtdhicmbfknagjaaJRO27
import Derived.Test.YtdhicmbfknagjaaJRO25
import Derived.Test.YtdhicmbfknagjaaJRO05
import Derived.Test.YtdhicmbfknagjaaJRO12
namespace Go.Proofs.Ytdhicmbfknagjaa.RvI
set_option maxRecDepth 8000
open Go.RowKit
open Ls Lp VkP VkR ScP ScI ScS MaP CrP RoP RoI RvP ClI RvL
open Recs
set_option linter.unusedVariables false
set_option maxHeartbeats 12800000 in
theorem impl_any (x y z : Value) (r s : Sch) (us : List Vlu) (w : World) (S : Nat → Prop) (hx : SchAt w S x r) (hy : SchAt w S y s) (hz : LAt 5 EVlu w S z us) (hS : ∀ g, S g → g < w.heap.size) (hfr : szSch r ≤ 1048576) (hfs : szSch s ≤ 1048576) (hfu : szL szVlu us ≤ 1048576) :
    Calls Try.prog 31 #[x, y, z] w fun e w' => ∃ v, e = .returned (.tuple #[v, .bool (resOk r s us)]) ∧ Ow.VlusOwn w' (seg w.heap.size w'.heap.size) v (resL r s us) ∧ Below w.heap.size w w' := by
  have HX := Seg.hid hx
  have HY := Seg.hid hy
  have HZ := Seg.hid hz
  obtain ⟨A0, c0, rfl, hl⟩ := formS hx
  obtain ⟨A, c, g, o, F, e, OP, hn⟩ := opn hl hS
  cases e
  obtain ⟨A2, c2, rfl, -⟩ := formS hy
  obtain ⟨A3, c3, g2, o2, F2, rfl, OP2, hn2⟩ := opn hz hS
  have HO := Seg.hid OP
  have HO2 := Seg.hid OP2
  have HU := Seg.hid hfu
  have HF := Seg.hid (sz_fields hfr)
  have hSx : ∀ wx : World, Below w.heap.size w wx → ∀ g, S g → g < wx.heap.size := fun wx b g hg => Nat.lt_of_lt_of_le (hS g hg) b.size
  have C1 : Hid (∀ wx, Below w.heap.size w wx → Calls Try.prog 66 #[.agg (srow r A0 c0), .agg (srow s A2 c2)] wx fun e w' => e = .returned (.bool (canR r s)) ∧ Below wx.heap.size wx w') := fun wx b => CrI.impl_any _ _ r s wx S (HX.out.below b hS) (HY.out.below b hS) (hSx wx b) hfr hfs
  have C2 : Hid (∀ wx, Below w.heap.size w wx → Calls Try.prog 58 #[.agg (srow s A2 c2), .slice A3 us.length c3] wx fun e w' => e = .returned (.bool (rowOk s us)) ∧ Below wx.heap.size wx w') := fun wx b => RoI.impl_any _ _ s us wx S (HY.out.below b hS) (LAt.below keepsVlu HZ.out b hS) (hSx wx b) hfs hfu
  have C3 : Hid (sok r = true → sok s = true → ∀ wx, Below w.heap.size w wx → Calls Try.prog 50 #[.agg (srow r A0 c0), .agg (srow s A2 c2)] wx fun e w' => ∃ v, e = .returned v ∧ MaI.IRow w' wx.heap.size v (mtch r s) ∧ Below wx.heap.size wx w') := fun h1 h2 wx b => MaI.matches_any _ _ r s wx S (HX.out.below b hS) (HY.out.below b hS) (hSx wx b) hfr hfs h1 h2
  clear hx hy hz hl OP OP2 hfr hfs hfu
  obtain ⟨R, hR⟩ : ∃ R, resL r s us = R := ⟨_, rfl⟩
  obtain ⟨Q, hQ⟩ : ∃ Q, resOk r s us = Q := ⟨_, rfl⟩
  rw [hR, hQ]
  have HR := Seg.hid hR
  have HQ := Seg.hid hQ
  clear hR hQ
  go_enter Try.func31, Try.ntmps31
  go_upto_region 2 with fail
  obtain ⟨w1, hw1⟩ : ∃ w1, ((w.alloc (.cells (srow r A0 c0) 43 (0, 0))).alloc (.cells (srow s A2 c2) 43 (0, 0))).alloc (.cells #[] 84 (0, 0)) = w1 := ⟨_, rfl⟩
  have B1 : Hid (Below w.heap.size w w1) := by show Below _ _ _; rw [← hw1]; exact below3 w _ _ _
  have P1 : Hid (w1.heap[w.heap.size]? = some (.cells (srow r A0 c0) 43 (0, 0))) := by show _ = _; rw [← hw1]; exact at3z w _ _ _
  have P2 : Hid (w1.heap[w.heap.size + 1]? = some (.cells (srow s A2 c2) 43 (0, 0))) := by show _ = _; rw [← hw1]; exact at3 w _ _ _
  have O1 : Hid (w1.ownsRow (w.heap.size + 2) 84 5 (.slice (some ⟨w.heap.size + 2, 0, none⟩) 0 0) 0 []) := by
    have := empty_own ((w.alloc (.cells (srow r A0 c0) 43 (0, 0))).alloc (.cells (srow s A2 c2) 43 (0, 0))) 84 5
    rw [hsz, hsz] at this
    show World.ownsRow _ _ _ _ _ _ _
    rw [← hw1]
    exact this
  have s1 : w.heap.size + 3 ≤ w1.heap.size := by rw [← hw1, hsz, hsz, hsz]; omega
  try rw [hw1]
  clear hw1
  have a0 := cell_of_row w1 _ 0 _ _ (0, 0) P1.out
  have a1 := cell_of_row w1 _ 1 _ _ (0, 0) P1.out
  have a2 := cell_of_row w1 _ 0 _ _ (0, 0) P2.out
  have a3 := cell_of_row w1 _ 1 _ _ (0, 0) P2.out
  go_wp2_with fail
  refine (C1.out _ B1.out).mono ?_
  rintro e w2 ⟨rfl, b2⟩
  have B2 := Seg.hid (chain B1.out b2)
  have N2 := Seg.hid b2
  have s2 : w1.heap.size ≤ w2.heap.size := b2.size
  have a2' := (b2.cell (p := ⟨w.heap.size + 1, 0, none⟩) (by show w.heap.size + 1 < w1.heap.size; omega)).trans a2
  have a3' := (b2.cell (p := ⟨w.heap.size + 1, 1, none⟩) (by show w.heap.size + 1 < w1.heap.size; omega)).trans a3
  clear b2 C1 a0 a1 a2 a3
  cases h1 : canR r s with
  | false =>
    have QF : Hid (Q = false) := by show _ = _; rw [← HQ.out, resOk, h1]; rfl
    have RF : Hid (R = []) := by show _ = _; rw [← HR.out, resL, HQ.out, QF.out]; rfl
    clear h1
    go_wp2
    go_ret2
    exact ⟨_, by rw [QF.out]; rfl, by rw [RF.out]; exact Ow.LOwn.nil _ _ _ _, B2.out⟩
  | true =>
  obtain ⟨hor, hos⟩ := canR_sok h1
  have C4 := Seg.hid (C3.out hor hos)
  have hrl := (MaP.sok_dst hor).2.1
  have hrl1 : 1 ≤ r.fields.length := by
    simp only [sok, Bool.and_eq_true] at hor
    have := inR_true hor.1.2
    omega
  clear C3 hos hor
  go_wp2_with fail
  refine (C2.out _ B2.out).mono ?_
  rintro e w3 ⟨rfl, b3⟩
  have B3 := Seg.hid (chain B2.out b3)
  have N3 := Seg.hid (chain N2.out b3)
  have s3 : w1.heap.size ≤ w3.heap.size := N3.out.size
  clear b3 C2 a2' a3'
  cases h2 : rowOk s us with
  | false =>
    have QF : Hid (Q = false) := by show _ = _; rw [← HQ.out, resOk, h1, h2]; rfl
    have RF : Hid (R = []) := by show _ = _; rw [← HR.out, resL, HQ.out, QF.out]; rfl
    clear h1 h2
    go_wp2
    go_ret2
    exact ⟨_, by rw [QF.out]; rfl, by rw [RF.out]; exact Ow.LOwn.nil _ _ _ _, B3.out⟩
  | true =>
  have QT : Hid (Q = true) := by show _ = _; rw [← HQ.out, resOk, h1, h2]; rfl
  have RT : Hid (R = outL r.fields us (mtch r s) r.fields.length) := by show _ = _; rw [← HR.out, resL, HQ.out, QT.out]; rfl
  have hul : us.length = s.fields.length := by
    simp only [rowOk, Bool.and_eq_true, decide_eq_true_eq] at h2
    exact h2.2.1
  have HL := Seg.hid hul
  clear h1 h2 HR HQ hul
  have a0 := (N3.out.cell (p := ⟨w.heap.size, 0, none⟩) (by show w.heap.size < w1.heap.size; omega)).trans (cell_of_row w1 _ 0 _ _ (0, 0) P1.out)
  have a1 := (N3.out.cell (p := ⟨w.heap.size, 1, none⟩) (by show w.heap.size < w1.heap.size; omega)).trans (cell_of_row w1 _ 1 _ _ (0, 0) P1.out)
  have a2 := (N3.out.cell (p := ⟨w.heap.size + 1, 0, none⟩) (by show w.heap.size + 1 < w1.heap.size; omega)).trans (cell_of_row w1 _ 0 _ _ (0, 0) P2.out)
  have a3 := (N3.out.cell (p := ⟨w.heap.size + 1, 1, none⟩) (by show w.heap.size + 1 < w1.heap.size; omega)).trans (cell_of_row w1 _ 1 _ _ (0, 0) P2.out)
  go_wp2_with fail
  refine (C4.out _ B3.out).mono ?_
  rintro e w4 ⟨vm, rfl, hm, b4⟩
  have N4 := Seg.hid (chain N3.out b4)
  have B4 := Seg.hid (chain B3.out b4)
  have s4 : w3.heap.size ≤ w4.heap.size := b4.size
  have P4 : Hid (w4.heap[w.heap.size]? = some (.cells (srow r A0 c0) 43 (0, 0))) := (N4.out.block _ (by omega)).trans P1.out
  have O4 : Hid (w4.ownsRow (w.heap.size + 2) 84 5 (.slice (some ⟨w.heap.size + 2, 0, none⟩) 0 0) 0 []) := Seg.owns_below O1.out N4.out
  have hml : (mtch r s).length = r.fields.length := mtch_len r s
  have hmI := ints_row hm (by omega)
  obtain ⟨Am, cm, gm, om, Fm, rfl, OM, hnm⟩ := opn hmI (fun g hg => hg.2)
  obtain ⟨em, hcm, hgm⟩ := OM.addr.resolve_left (by omega)
  subst em
  have hgm3 : w3.heap.size ≤ gm := (own_in hmI rfl (by omega)).1
  have HM := Seg.hid OM
  have MA : Hid (∀ k, k < r.fields.length → (mtch r s).getD k default = -1 ∨ (0 ≤ (mtch r s).getD k default ∧ (mtch r s).getD k default < s.fields.length)) := fun k h => by
    rw [mtch_at h]
    rcases plc_range s.fields (nms (r.fields.getD k default)) with h | ⟨h, h', _⟩
    · exact .inl h
    · exact .inr ⟨h, h'⟩
  clear b4 OM hm hmI C4 a0 a1 a2 a3 O1 P1 P2
  generalize mtch r s = ms at *
  have hgm4 : w.heap.size + 2 ≠ gm := by omega
  go_wp2
  go_loopw [8, 29] (fun v i wr => ∃ k : Nat, i = .int .i64 k ∧ Rn w4 wr (w.heap.size + 2) r.fields us ms gm k v) (fun _ i _ => r.fields.length - (intOf i).toNat)
  case atStart => exact ⟨0, rfl, RvL.start (t := 0) O4.out hgm4⟩
  case round =>
    clear O4
    obtain ⟨k, rfl, RN⟩ := hrel
    have hk := RN.le
    obtain ⟨Fl, Pl, LG0⟩ := RN.ls
    have LG := Seg.hid LG0
    have RNE := Seg.hid RN.ne
    have RMH := Seg.hid RN.mh
    have RB := Seg.hid RN.bel
    have BW : Hid (Below w.heap.size w wr) := B4.out.trans (RN.bel.mono (by omega))
    have s9 : w4.heap.size ≤ wr.heap.size := RN.bel.size
    clear RN LG0
    by_cases hlt : k < r.fields.length
    · obtain ⟨ea, hc, hgw⟩ := HO.out.addr.resolve_left (by omega)
      subst ea
      obtain ⟨A', c', B', d', hfl, d0, d1, d2, d3, d4, d5, d6, d7, d8, d9, d10⟩ := fld_at HO.out hS BW.out hlt
      have mc := int_cell HM.out RMH.out (show k < ms.length by omega)
      have PR := Seg.hid (MA.out k hlt)
      have OD : Hid (outAt r.fields us ms k = resV (r.fields.getD k default) us (ms.getD k default)) := rfl
      have SZ : Hid (szFld (r.fields.getD k default) ≤ 1048576) := szL_one szFld HF.out hlt
      obtain ⟨A9, c9, B9, d9', hv9, -, hB⟩ := form hfl
      simp only [Value.agg.injEq, Array.mk.injEq, List.cons.injEq, and_true, true_and, Value.slice.injEq] at hv9
      obtain ⟨⟨rfl, rfl⟩, rfl, rfl⟩ := hv9
      have HB := Seg.hid hB
      have h0 : (0 : Int) ≤ (k : Int) := by omega
      have h1 : (k : Int) < (r.fields.length : Int) := by omega
      have h1m : (k : Int) < (ms.length : Int) := by omega
      have hpr : wr.cell? ⟨w.heap.size, 1, none⟩ = some (.slice (some ⟨g, o, none⟩) r.fields.length c0) := cell_of_row wr _ 1 _ _ (0, 0) ((RB.out.block _ (by omega)).trans P4.out)
      have AL : Hid ((outL r.fields us ms k).length ≤ 20) := by show _ ≤ _; rw [outL_len]; omega
      clear hfl hB
      generalize r.fields.getD k default = f at *
      obtain ⟨p, hp⟩ : ∃ p, ms.getD k default = p := ⟨_, rfl⟩
      rw [hp] at mc PR OD
      clear hp
      have KS : Hid (szVlu (vluOf f) ≤ 1048576) := sz_inner f SZ.out
      obtain ⟨w5, hw5⟩ : ∃ w5, wr.alloc (.cells #[.string f.name, .int .i64 f.kind, .bool f.lst, .bool f.may, .slice A' f.was.length c', .bool f.fixd, .int .i64 f.vk, .int .i64 f.vn, .string f.vt, .bool f.vl, .slice B' f.vi.length d'] 86 (0, 0)) = w5 := ⟨_, rfl⟩
      have T5 : Hid (w5.heap[wr.heap.size]? = some (.cells (frow f A' c' B' d') 86 (0, 0))) := by show _ = _; rw [← hw5]; exact heap_alloc_new _ _
      have N5 : Hid (Below wr.heap.size wr w5) := by show Below _ _ _; rw [← hw5]; exact below1 _ _
      have s5 : w5.heap.size = wr.heap.size + 1 := by rw [← hw5, hsz]
      have S5 := Seg.hid s5
      clear s5
      go_upto_region 8 with fail
      try rw [hw5]
      clear hw5 d0 d1 d2 d3 d4 d5 d6 d7 d8 d9 d10 mc hpr
      obtain ⟨q0, q1, q2, q3, q4, q5, q6, q7, q8, q9, q10⟩ := cells11 T5.out
      obtain ⟨w6, hw6⟩ : ∃ w6, w5.alloc (.cells #[.int .i64 f.vk, .int .i64 f.vn, .string f.vt, .bool f.vl, .slice B' f.vi.length d'] 84 (0, 0)) = w6 := ⟨_, rfl⟩
      have T6 : Hid (w6.heap[w5.heap.size]? = some (.cells (vrow (vluOf f) B' d') 84 (0, 0))) := by show _ = _; rw [← hw6]; exact heap_alloc_new _ _
      have N6 : Hid (Below w5.heap.size w5 w6) := by show Below _ _ _; rw [← hw6]; exact below1 _ _
      have s6 : w5.heap.size < w6.heap.size := (Array.getElem?_eq_some_iff.1 T6.out).1
      have s65 : wr.heap.size < w6.heap.size := by have := S5.out; omega
      go_upto_region 9 with fail
      try rw [hw6]
      clear hw6 q0 q1 q2 q3 q4 q5 q6 q7 q8 q9 q10
      have N56 := Seg.hid (chain N5.out N6.out)
      have T56 : Hid (w6.heap[wr.heap.size]? = some (.cells (frow f A' c' B' d') 86 (0, 0))) := (N6.out.block _ (by have := S5.out; omega)).trans T5.out
      clear T5 N5 N6
      by_cases hpm : p = -1
      · obtain ⟨v, hv8⟩ : ∃ v, v = u8 := ⟨_, rfl⟩
        rw [← hv8] at LG RNE ⊢
        clear hv8
        subst hpm
        have RIL : Hid ((outAt r.fields us ms k).items.length ≤ 1048576) := by show _ ≤ _; rw [OD.out]; exact res_items SZ.out HU.out (.inl rfl)
        clear PR
        have HU1 : Hid (outAt r.fields us ms k = vluOf f) := by show _ = _; rw [OD.out, resV, if_pos rfl]
        have IL : Hid ((vluOf f).items.length ≤ 1048576) := by show _ ≤ _; rw [← HU1.out]; exact RIL.out
        have IT : Hid (LAt 2 EItm w6 S (.slice B' (vluOf f).items.length d') (vluOf f).items) := LAt.below keepsItm HB.out N56.out (fun z hz => Nat.lt_of_lt_of_le (hS z hz) BW.out.size)
        clear OD RIL
        obtain ⟨U, hU⟩ : ∃ U, vluOf f = U := ⟨_, rfl⟩
        rw [hU] at HU1 IL IT T6
        have e4 : w6.cell? ⟨w5.heap.size, 4, none⟩ = some (.slice B' U.items.length d') := cell_of_row w6 _ 4 _ _ (0, 0) T6.out
        have il := IL.out
        have hSw : ∀ g, S g → g < w6.heap.size := fun g hg => by have := hS g hg; have := BW.out.size; have := N56.out.size; omega
        clear hU
        go_wp2_with fail
        refine (ClI.clone_any B' d' U.items w6 S IT.out hSw il).mono ?_
        rintro e w7 ⟨v7, rfl, o7, b7⟩
        have O7 := Seg.hid o7
        have T7 := Seg.hid ((b7.block _ (Array.getElem?_eq_some_iff.1 T6.out).1).trans T6.out)
        have N7 := Seg.hid (chain N56.out b7)
        have z7 : w6.heap.size ≤ w7.heap.size := b7.size
        have zx : w5.heap.size < w6.heap.size := (Array.getElem?_eq_some_iff.1 T6.out).1
        obtain ⟨A7, c7, e7⟩ := Ow.LOwn.form o7
        subst e7
        have pf : w7.frozen? ⟨w5.heap.size, 4, none⟩ = false := frozen_of_row w7 _ 4 _ _ T7.out
        have pc : w7.cell? ⟨w5.heap.size, 4, none⟩ = some (.slice B' U.items.length d') := cell_of_row w7 _ 4 _ _ (0, 0) T7.out
        clear o7 b7 e4 T6 IT
        go_upto_region 12 with fail
        obtain ⟨w8, hw8⟩ : ∃ w8, w7.setCell ⟨w5.heap.size, 4, none⟩ (.slice A7 U.items.length c7) = w8 := ⟨_, rfl⟩
        have T8 : Hid (w8.heap[w5.heap.size]? = some (.cells (vrow U A7 c7) 84 (0, 0))) := by show _ = _; rw [← hw8]; exact box_put T7.out
        have z8 : w8.heap.size = w7.heap.size := by rw [← hw8]; simp
        have N8 : Hid (Below wr.heap.size wr w8) := by show Below _ _ _; rw [← hw8]; exact N7.out.setCell (p := ⟨w5.heap.size, 4, none⟩) (by show wr.heap.size ≤ w5.heap.size; have := S5.out; omega) _
        have O8 : Hid (Ow.ItmsOwn w8 (seg w6.heap.size w8.heap.size) (.slice A7 U.items.length c7) U.items) := by
          show Ow.LOwn _ _ _ _ _ _ _
          rw [z8, ← hw8]
          exact Ow.LOwn.set Ow.keepsOItm O7.out 4 (fun y hy => by have := hy.1; omega) _
        have Z8 := Seg.hid z8
        try rw [hw8]
        clear hw8 T7 N7 O7 pf pc z8
        obtain ⟨e0, e1, e2, e3, e4⟩ := five3 T8.out
        have hbs : w.heap.size + 2 ≤ wr.heap.size := by omega
        have hgmr : gm < wr.heap.size := by omega
        have zz8 : wr.heap.size ≤ w8.heap.size := N8.out.size
        have al := AL.out
        have OWN : Hid (∀ ob, (w8.alloc ob).ownsRow (w.heap.size + 2) 84 5 v (outL r.fields us ms k).length ((List.range ((outL r.fields us ms k).length * 5)).map Fl)) := fun ob => (Ow.LGr.keep Ow.keepsOVlu LG.out (chain N8.out (below1 w8 ob)).size (fun y _ hy => (chain N8.out (below1 w8 ob)).block y hy)).own
        have OI : Hid (∀ ob, Ow.ItmsOwn (w8.alloc ob) (seg wr.heap.size (w8.alloc ob).heap.size) (.slice A7 U.items.length c7) U.items) := fun ob => Ow.LOwn.mono (Ow.LOwn.belowO Ow.keepsOItm O8.out (below1 w8 ob) (fun y hy => hy.2)) (fun y hy => ⟨by have := hy.1; have := N56.out.size; omega, by rw [hsz]; have := hy.2; omega⟩)
        obtain ⟨i0, hi, hz0, hz1, hz2⟩ := info_parts infoVluZ
        go_wp2_with (at_builtin; (refine wpList_append_lies _ rfl _ _ 54 rfl (w.heap.size + 2) 84 i0 _ 5 64 Try.underlying54 hi hz0 hz1 hz2 rfl (by decide) v (outL r.fields us ms k).length ((List.range ((outL r.fields us ms k).length * 5)).map Fl) rfl (OWN.out _) ⟨w8.heap.size, 0, none⟩ 1 1 (vrow U A7 c7).toList rfl rfl (World.news_of_block (cs := vrow U A7 c7) (heap_alloc_new _ _)) (by simp [Value.oneCell']) (by decide) (by unfold maxLen; omega) (by omega) (by rw [hsz]; omega) (w8.heap.size + 1) (by rw [hsz]) ?_; intro g9 cap9 w9 hown9 gr9 hat9 hlt9; have NX := Seg.hid (nx hlt LG.out RNE.out RMH.out RB.out hgmr hbs (chain N8.out (below1 w8 _)) (OI.out _) HU1.out hown9 gr9 (by rw [hsz]; exact hat9)); clear hown9 gr9 hat9 hlt9))
        go_roundw
        case rel => exact ⟨k + 1, by go_num, NX.out⟩
        case measure => simp [intOf]; omega
      · obtain ⟨v, hv8⟩ : ∃ v, v = u8 := ⟨_, rfl⟩
        rw [← hv8] at LG RNE ⊢
        clear hv8
        obtain ⟨j, hj⟩ : ∃ j : Nat, p = j := ⟨p.toNat, by rcases PR.out with h | ⟨h, _⟩ <;> omega⟩
        subst hj
        have hjl : j < us.length := by have := HL.out; rcases PR.out with h | ⟨_, h⟩ <;> omega
        obtain ⟨ea, hc2, hgw2⟩ := HO2.out.addr.resolve_left (by omega)
        subst ea
        have RIL : Hid ((outAt r.fields us ms k).items.length ≤ 1048576) := by show _ ≤ _; rw [OD.out]; exact res_items SZ.out HU.out (.inr (by simpa using hjl))
        have OD2 : Hid (outAt r.fields us ms k = seenV f.kind (us.getD j default)) := by show _ = _; rw [OD.out, resV, if_neg hpm]; rfl
        obtain ⟨A4, c4, hvl, v0, v1, v2, v3, v4⟩ := vlu_at HO2.out hS BW.out hjl
        obtain ⟨A9, c9, hv9, hit⟩ := formV hvl
        simp only [Value.agg.injEq, Array.mk.injEq, List.cons.injEq, and_true, true_and, Value.slice.injEq] at hv9
        obtain ⟨rfl, rfl⟩ := hv9
        have HIT := Seg.hid hit
        clear hvl hit PR OD
        generalize us.getD j default = u at *
        have hq : ((j : Int) != -1) = true := by simp
        have j0 : (0 : Int) ≤ (j : Int) := by omega
        have j1 : (j : Int) < (us.length : Int) := by omega
        have y5w : g2 < wr.heap.size := by have := BW.out.size; omega
        have y5 : g2 < w6.heap.size := by omega
        obtain ⟨q0, q1, q2, q3, q4, q5, q6, q7, q8, q9, q10⟩ := cells11 T56.out
        have q11 := (N56.out.cell (p := ⟨g2, o2 + j * 5, none⟩) y5w).trans v0
        have q12 := (N56.out.cell (p := ⟨g2, o2 + j * 5 + 1, none⟩) y5w).trans v1
        have q13 := (N56.out.cell (p := ⟨g2, o2 + j * 5 + 2, none⟩) y5w).trans v2
        have q14 := (N56.out.cell (p := ⟨g2, o2 + j * 5 + 3, none⟩) y5w).trans v3
        have q15 := (N56.out.cell (p := ⟨g2, o2 + j * 5 + 4, none⟩) y5w).trans v4
        have ne1 : wr.heap.size ≠ w5.heap.size := by have := S5.out; omega
        have ne2 : g2 ≠ w5.heap.size := by have := S5.out; omega
        clear v0 v1 v2 v3 v4 hpm
        go_upto_region 10 with fail
        refine wp_region_held_drew (S := (fun w' => w'.cell? ⟨wr.heap.size, 0, none⟩ = some (.string f.name) ∧ w'.cell? ⟨wr.heap.size, 1, none⟩ = some (.int .i64 f.kind) ∧ w'.cell? ⟨wr.heap.size, 2, none⟩ = some (.bool f.lst) ∧ w'.cell? ⟨wr.heap.size, 3, none⟩ = some (.bool f.may) ∧ w'.cell? ⟨wr.heap.size, 4, none⟩ = some (.slice A' f.was.length c') ∧ w'.cell? ⟨wr.heap.size, 5, none⟩ = some (.bool f.fixd) ∧ w'.cell? ⟨wr.heap.size, 6, none⟩ = some (.int .i64 f.vk) ∧ w'.cell? ⟨wr.heap.size, 7, none⟩ = some (.int .i64 f.vn) ∧ w'.cell? ⟨wr.heap.size, 8, none⟩ = some (.string f.vt) ∧ w'.cell? ⟨wr.heap.size, 9, none⟩ = some (.bool f.vl) ∧ w'.cell? ⟨wr.heap.size, 10, none⟩ = some (.slice B' f.vi.length d') ∧ w'.cell? ⟨g2, o2 + j * 5, none⟩ = some (.int .i64 u.kind) ∧ w'.cell? ⟨g2, o2 + j * 5 + 1, none⟩ = some (.int .i64 u.num) ∧ w'.cell? ⟨g2, o2 + j * 5 + 2, none⟩ = some (.string u.text) ∧ w'.cell? ⟨g2, o2 + j * 5 + 3, none⟩ = some (.bool u.lst) ∧ w'.cell? ⟨g2, o2 + j * 5 + 4, none⟩ = some (.slice A4 u.items.length c4))) (by kernel_rfl) ⟨q0, q1, q2, q3, q4, q5, q6, q7, q8, q9, q10, q11, q12, q13, q14, q15⟩ (fun hHeld => ?_)
        refine HdK.tke 0 (some 43) (.agg (frow f A' c' B' d')) rfl rfl ?_
        try simp only [Act.put, List.setIfInBounds_toArray, List.set_cons_zero, List.set_cons_succ]
        refine HdK.tke 1 (some 44) (.slice (some ⟨g2, o2, none⟩) us.length c3) rfl rfl ?_
        try simp only [Act.put, List.setIfInBounds_toArray, List.set_cons_zero, List.set_cons_succ]
        refine HdK.tke 2 (some 45) (.int .i64 (j : Int)) rfl rfl ?_
        try simp only [Act.put, List.setIfInBounds_toArray, List.set_cons_zero, List.set_cons_succ]
        refine HdK.tke 3 (some 46) (.pointer (some ⟨g2, o2 + j * 5, none⟩)) rfl rfl ?_
        try simp only [Act.put, List.setIfInBounds_toArray, List.set_cons_zero, List.set_cons_succ]
        refine HdK.tke 4 (some 47) (.agg (vrow u A4 c4)) rfl rfl ?_
        try simp only [Act.put, List.setIfInBounds_toArray, List.set_cons_zero, List.set_cons_succ]
        refine wpAnyH_ready (rs := [5]) (by kernel_rfl) (by simp) ?_
        refine AllReadyH.cons rfl (fun K hK => ?_) AllReadyH.nil
        (go_simp; go_at_call 67; refine (RvJ.seen_any f u A' B' A4 c' d' c4 w6.drew).mono ?_; rintro e w7 ⟨rfl, b7⟩; have B8 : Hid (Below w6.heap.size w6 w7) := ⟨b7.os, b7.tape, b7.output, b7.size, b7.block⟩; clear b7; have r0 := (B8.out.cell (p := ⟨wr.heap.size, 0, none⟩) s65).trans q0; have r1 := (B8.out.cell (p := ⟨wr.heap.size, 1, none⟩) s65).trans q1; have r2 := (B8.out.cell (p := ⟨wr.heap.size, 2, none⟩) s65).trans q2; have r3 := (B8.out.cell (p := ⟨wr.heap.size, 3, none⟩) s65).trans q3; have r4 := (B8.out.cell (p := ⟨wr.heap.size, 4, none⟩) s65).trans q4; have r5 := (B8.out.cell (p := ⟨wr.heap.size, 5, none⟩) s65).trans q5; have r6 := (B8.out.cell (p := ⟨wr.heap.size, 6, none⟩) s65).trans q6; have r7 := (B8.out.cell (p := ⟨wr.heap.size, 7, none⟩) s65).trans q7; have r8 := (B8.out.cell (p := ⟨wr.heap.size, 8, none⟩) s65).trans q8; have r9 := (B8.out.cell (p := ⟨wr.heap.size, 9, none⟩) s65).trans q9; have r10 := (B8.out.cell (p := ⟨wr.heap.size, 10, none⟩) s65).trans q10; have r11 := (B8.out.cell (p := ⟨g2, o2 + j * 5, none⟩) y5).trans q11; have r12 := (B8.out.cell (p := ⟨g2, o2 + j * 5 + 1, none⟩) y5).trans q12; have r13 := (B8.out.cell (p := ⟨g2, o2 + j * 5 + 2, none⟩) y5).trans q13; have r14 := (B8.out.cell (p := ⟨g2, o2 + j * 5 + 3, none⟩) y5).trans q14; have r15 := (B8.out.cell (p := ⟨g2, o2 + j * 5 + 4, none⟩) y5).trans q15; have T7 := Seg.hid ((B8.out.block _ s6).trans T6.out); have TH := Seg.hid (Cells.there_of T7.out); try (go_wp2_with fail))
        refine hK.out _ _ ⟨r0, r1, r2, r3, r4, r5, r6, r7, r8, r9, r10, r11, r12, r13, r14, r15⟩ (fun hHeld => ?_)
        clear hK K
        try simp only [Act.put, List.setIfInBounds_toArray, List.set_cons_zero, List.set_cons_succ]
        refine wpAnyH_ready (rs := [6]) (by kernel_rfl) (by simp) ?_
        refine AllReadyH.cons rfl (fun K hK => ?_) AllReadyH.nil
        refine HdK.step_store_mid rfl 84 _ _ rfl w5.heap.size 0 (vrow (seenV f.kind u) A4 c4) rfl rfl TH.out infoVlu (by simp [Value.oneCell']) ?_
        have t0 : (w7.setCells w5.heap.size 0 (vrow (seenV f.kind u) A4 c4).toList).cell? ⟨wr.heap.size, 0, none⟩ = some (.string f.name) := (World.cell?_of_block (w := w7) (a := ⟨wr.heap.size, 0, none⟩) (Cells.heap_setCells_other _ _ ne1)).trans r0
        have t1 : (w7.setCells w5.heap.size 0 (vrow (seenV f.kind u) A4 c4).toList).cell? ⟨wr.heap.size, 1, none⟩ = some (.int .i64 f.kind) := (World.cell?_of_block (w := w7) (a := ⟨wr.heap.size, 1, none⟩) (Cells.heap_setCells_other _ _ ne1)).trans r1
        have t2 : (w7.setCells w5.heap.size 0 (vrow (seenV f.kind u) A4 c4).toList).cell? ⟨wr.heap.size, 2, none⟩ = some (.bool f.lst) := (World.cell?_of_block (w := w7) (a := ⟨wr.heap.size, 2, none⟩) (Cells.heap_setCells_other _ _ ne1)).trans r2
        have t3 : (w7.setCells w5.heap.size 0 (vrow (seenV f.kind u) A4 c4).toList).cell? ⟨wr.heap.size, 3, none⟩ = some (.bool f.may) := (World.cell?_of_block (w := w7) (a := ⟨wr.heap.size, 3, none⟩) (Cells.heap_setCells_other _ _ ne1)).trans r3
        have t4 : (w7.setCells w5.heap.size 0 (vrow (seenV f.kind u) A4 c4).toList).cell? ⟨wr.heap.size, 4, none⟩ = some (.slice A' f.was.length c') := (World.cell?_of_block (w := w7) (a := ⟨wr.heap.size, 4, none⟩) (Cells.heap_setCells_other _ _ ne1)).trans r4
        have t5 : (w7.setCells w5.heap.size 0 (vrow (seenV f.kind u) A4 c4).toList).cell? ⟨wr.heap.size, 5, none⟩ = some (.bool f.fixd) := (World.cell?_of_block (w := w7) (a := ⟨wr.heap.size, 5, none⟩) (Cells.heap_setCells_other _ _ ne1)).trans r5
        have t6 : (w7.setCells w5.heap.size 0 (vrow (seenV f.kind u) A4 c4).toList).cell? ⟨wr.heap.size, 6, none⟩ = some (.int .i64 f.vk) := (World.cell?_of_block (w := w7) (a := ⟨wr.heap.size, 6, none⟩) (Cells.heap_setCells_other _ _ ne1)).trans r6
        have t7 : (w7.setCells w5.heap.size 0 (vrow (seenV f.kind u) A4 c4).toList).cell? ⟨wr.heap.size, 7, none⟩ = some (.int .i64 f.vn) := (World.cell?_of_block (w := w7) (a := ⟨wr.heap.size, 7, none⟩) (Cells.heap_setCells_other _ _ ne1)).trans r7
        have t8 : (w7.setCells w5.heap.size 0 (vrow (seenV f.kind u) A4 c4).toList).cell? ⟨wr.heap.size, 8, none⟩ = some (.string f.vt) := (World.cell?_of_block (w := w7) (a := ⟨wr.heap.size, 8, none⟩) (Cells.heap_setCells_other _ _ ne1)).trans r8
        have t9 : (w7.setCells w5.heap.size 0 (vrow (seenV f.kind u) A4 c4).toList).cell? ⟨wr.heap.size, 9, none⟩ = some (.bool f.vl) := (World.cell?_of_block (w := w7) (a := ⟨wr.heap.size, 9, none⟩) (Cells.heap_setCells_other _ _ ne1)).trans r9
        have t10 : (w7.setCells w5.heap.size 0 (vrow (seenV f.kind u) A4 c4).toList).cell? ⟨wr.heap.size, 10, none⟩ = some (.slice B' f.vi.length d') := (World.cell?_of_block (w := w7) (a := ⟨wr.heap.size, 10, none⟩) (Cells.heap_setCells_other _ _ ne1)).trans r10
        have t11 : (w7.setCells w5.heap.size 0 (vrow (seenV f.kind u) A4 c4).toList).cell? ⟨g2, o2 + j * 5, none⟩ = some (.int .i64 u.kind) := (World.cell?_of_block (w := w7) (a := ⟨g2, o2 + j * 5, none⟩) (Cells.heap_setCells_other _ _ ne2)).trans r11
        have t12 : (w7.setCells w5.heap.size 0 (vrow (seenV f.kind u) A4 c4).toList).cell? ⟨g2, o2 + j * 5 + 1, none⟩ = some (.int .i64 u.num) := (World.cell?_of_block (w := w7) (a := ⟨g2, o2 + j * 5 + 1, none⟩) (Cells.heap_setCells_other _ _ ne2)).trans r12
        have t13 : (w7.setCells w5.heap.size 0 (vrow (seenV f.kind u) A4 c4).toList).cell? ⟨g2, o2 + j * 5 + 2, none⟩ = some (.string u.text) := (World.cell?_of_block (w := w7) (a := ⟨g2, o2 + j * 5 + 2, none⟩) (Cells.heap_setCells_other _ _ ne2)).trans r13
        have t14 : (w7.setCells w5.heap.size 0 (vrow (seenV f.kind u) A4 c4).toList).cell? ⟨g2, o2 + j * 5 + 3, none⟩ = some (.bool u.lst) := (World.cell?_of_block (w := w7) (a := ⟨g2, o2 + j * 5 + 3, none⟩) (Cells.heap_setCells_other _ _ ne2)).trans r14
        have t15 : (w7.setCells w5.heap.size 0 (vrow (seenV f.kind u) A4 c4).toList).cell? ⟨g2, o2 + j * 5 + 4, none⟩ = some (.slice A4 u.items.length c4) := (World.cell?_of_block (w := w7) (a := ⟨g2, o2 + j * 5 + 4, none⟩) (Cells.heap_setCells_other _ _ ne2)).trans r15
        refine hK.out _ _ ⟨t0, t1, t2, t3, t4, t5, t6, t7, t8, t9, t10, t11, t12, t13, t14, t15⟩ (fun hHeld => ?_)
        clear hK K
        refine wpAnyH_done (by kernel_rfl) ?_ _
        all_goals
          obtain ⟨wx, hwx⟩ : ∃ wx, w7.setCells w5.heap.size 0 (vrow (seenV f.kind u) A4 c4).toList = wx := ⟨_, rfl⟩
          have TX : Hid (wx.heap[w5.heap.size]? = some (.cells (vrow (seenV f.kind u) A4 c4) 84 (0, 0))) := by show _ = _; rw [← hwx]; exact Cells.whole T7.out rfl
          have NX6 : Hid (Below wr.heap.size wr wx) := by show Below _ _ _; rw [← hwx]; exact Cells.below_setCells (g := w5.heap.size) (by have := S5.out; omega) _ 0 _ _ (chain N56.out B8.out)
          try rw [hwx]
          clear hwx T7 TH r0 r1 r2 r3 r4 r5 r6 r7 r8 r9 r10 r11 r12 r13 r14 r15 t0 t1 t2 t3 t4 t5 t6 t7 t8 t9 t10 t11 t12 t13 t14 t15 q0 q1 q2 q3 q4 q5 q6 q7 q8 q9 q10 q11 q12 q13 q14 q15 T6 T56 B8
          have OD := OD2
          clear OD2
          have HU1 : Hid (outAt r.fields us ms k = seenV f.kind u) := OD.out
          have IL : Hid ((seenV f.kind u).items.length ≤ 1048576) := by show _ ≤ _; rw [← HU1.out]; exact RIL.out
          have IT : Hid (LAt 2 EItm wx S (.slice A4 (seenV f.kind u).items.length c4) (seenV f.kind u).items) := by rw [seen_items]; exact LAt.below keepsItm HIT.out NX6.out (fun z hz => Nat.lt_of_lt_of_le (hS z hz) BW.out.size)
          clear OD RIL
          obtain ⟨U, hU⟩ : ∃ U, seenV f.kind u = U := ⟨_, rfl⟩
          rw [hU] at HU1 IL IT TX
          have e4 : wx.cell? ⟨w5.heap.size, 4, none⟩ = some (.slice A4 U.items.length c4) := cell_of_row wx _ 4 _ _ (0, 0) TX.out
          have il := IL.out
          have hSw : ∀ g, S g → g < wx.heap.size := fun g hg => by have := hS g hg; have := BW.out.size; have := NX6.out.size; omega
          clear hU
          go_wp2_with fail
          refine (ClI.clone_any A4 c4 U.items wx S IT.out hSw il).mono ?_
          rintro e w7 ⟨v7, rfl, o7, b7⟩
          have O7 := Seg.hid o7
          have T7 := Seg.hid ((b7.block _ (Array.getElem?_eq_some_iff.1 TX.out).1).trans TX.out)
          have N7 := Seg.hid (chain NX6.out b7)
          have z7 : wx.heap.size ≤ w7.heap.size := b7.size
          have zx : w5.heap.size < wx.heap.size := (Array.getElem?_eq_some_iff.1 TX.out).1
          obtain ⟨A7, c7, e7⟩ := Ow.LOwn.form o7
          subst e7
          have pf : w7.frozen? ⟨w5.heap.size, 4, none⟩ = false := frozen_of_row w7 _ 4 _ _ T7.out
          have pc : w7.cell? ⟨w5.heap.size, 4, none⟩ = some (.slice A4 U.items.length c4) := cell_of_row w7 _ 4 _ _ (0, 0) T7.out
          clear o7 b7 e4 TX IT
          go_upto_region 12 with fail
          obtain ⟨w8, hw8⟩ : ∃ w8, w7.setCell ⟨w5.heap.size, 4, none⟩ (.slice A7 U.items.length c7) = w8 := ⟨_, rfl⟩
          have T8 : Hid (w8.heap[w5.heap.size]? = some (.cells (vrow U A7 c7) 84 (0, 0))) := by show _ = _; rw [← hw8]; exact box_put T7.out
          have z8 : w8.heap.size = w7.heap.size := by rw [← hw8]; simp
          have N8 : Hid (Below wr.heap.size wr w8) := by show Below _ _ _; rw [← hw8]; exact N7.out.setCell (p := ⟨w5.heap.size, 4, none⟩) (by show wr.heap.size ≤ w5.heap.size; have := S5.out; omega) _
          have O8 : Hid (Ow.ItmsOwn w8 (seg wx.heap.size w8.heap.size) (.slice A7 U.items.length c7) U.items) := by
            show Ow.LOwn _ _ _ _ _ _ _
            rw [z8, ← hw8]
            exact Ow.LOwn.set Ow.keepsOItm O7.out 4 (fun y hy => by have := hy.1; omega) _
          have Z8 := Seg.hid z8
          try rw [hw8]
          clear hw8 T7 N7 O7 pf pc z8
          obtain ⟨e0, e1, e2, e3, e4⟩ := five3 T8.out
          have hbs : w.heap.size + 2 ≤ wr.heap.size := by omega
          have hgmr : gm < wr.heap.size := by omega
          have zz8 : wr.heap.size ≤ w8.heap.size := N8.out.size
          have al := AL.out
          have OWN : Hid (∀ ob, (w8.alloc ob).ownsRow (w.heap.size + 2) 84 5 v (outL r.fields us ms k).length ((List.range ((outL r.fields us ms k).length * 5)).map Fl)) := fun ob => (Ow.LGr.keep Ow.keepsOVlu LG.out (chain N8.out (below1 w8 ob)).size (fun y _ hy => (chain N8.out (below1 w8 ob)).block y hy)).own
          have OI : Hid (∀ ob, Ow.ItmsOwn (w8.alloc ob) (seg wr.heap.size (w8.alloc ob).heap.size) (.slice A7 U.items.length c7) U.items) := fun ob => Ow.LOwn.mono (Ow.LOwn.belowO Ow.keepsOItm O8.out (below1 w8 ob) (fun y hy => hy.2)) (fun y hy => ⟨by have := hy.1; have := NX6.out.size; omega, by rw [hsz]; have := hy.2; omega⟩)
          obtain ⟨i0, hi, hz0, hz1, hz2⟩ := info_parts infoVluZ
          go_wp2_with (at_builtin; (refine wpList_append_lies _ rfl _ _ 54 rfl (w.heap.size + 2) 84 i0 _ 5 64 Try.underlying54 hi hz0 hz1 hz2 rfl (by decide) v (outL r.fields us ms k).length ((List.range ((outL r.fields us ms k).length * 5)).map Fl) rfl (OWN.out _) ⟨w8.heap.size, 0, none⟩ 1 1 (vrow U A7 c7).toList rfl rfl (World.news_of_block (cs := vrow U A7 c7) (heap_alloc_new _ _)) (by simp [Value.oneCell']) (by decide) (by unfold maxLen; omega) (by omega) (by rw [hsz]; omega) (w8.heap.size + 1) (by rw [hsz]) ?_; intro g9 cap9 w9 hown9 gr9 hat9 hlt9; have NX := Seg.hid (nx hlt LG.out RNE.out RMH.out RB.out hgmr hbs (chain N8.out (below1 w8 _)) (OI.out _) HU1.out hown9 gr9 (by rw [hsz]; exact hat9)); clear hown9 gr9 hat9 hlt9))
          go_roundw
          case rel => exact ⟨k + 1, by go_num, NX.out⟩
          case measure => simp [intOf]; omega
    · have hkl : k = r.fields.length := by omega
      have HE : Hid (R = outL r.fields us ms k) := by show _ = _; rw [RT.out, hkl]
      have LO : Hid (Ow.VlusOwn wr (seg (w.heap.size + 2) wr.heap.size) u8 (outL r.fields us ms k)) := Ow.LGrow.own ⟨Fl, Pl, LG.out⟩ (by rw [outL_len]; omega)
      clear hkl
      go_wp2
      go_ret2
      exact ⟨_, by rw [QT.out]; rfl, by rw [HE.out]; exact Ow.LOwn.mono LO.out (fun y hy => ⟨by have := hy.1; omega, hy.2⟩), BW.out⟩
end Go.Proofs.Ytdhicmbfknagjaa.RvI
namespace Go.Proofs.Ytdhicmbfknagjaa.Ow
set_option maxRecDepth 8000
open Go.RowKit
open Recs
open Ls
set_option linter.unusedVariables false
def mX (k : Nat) (_ : ByteArray) : ByteArray := mt k
def nX (_ : ByteArray) : Nat := 1
theorem nX_tot : ∀ ns : List ByteArray, tot nX ns = ns.length
  | [] => rfl
  | _ :: r => by simp only [tot, nX_tot r, nX, List.length_cons]; omega
abbrev StrsOwn := LOwn 9 1 EStr
theorem keepsOStr : KeepsO 1 EStr := keepsO_of keepsStr
theorem markStringS_none (A : Option Addr) (c : Nat) (k : Int) (w : World) : Calls Try.prog 92 #[.slice A 0 c, .int .i64 k] w fun e w' => e = .returned (.int .i64 k) ∧ w = w' := by
  go_enter Try.func92, Try.ntmps92
  go_wp2
  go_loop [1, 5] (fun x i => i = .int .i64 0 ∧ x = .int .i64 k) (fun _ _ => 0)
  case atStart => exact ⟨rfl, rfl⟩
  case round =>
    obtain ⟨rfl, rfl⟩ := hrel
    go_wp2
    go_ret
    exact ⟨rfl, rfl⟩
set_option maxHeartbeats 800000 in
theorem markStringS_core (g n c k : Nat) (S : Nat → Prop) (P : Nat → Nat → Prop) (F0 : Nat → Value) (ns : List ByteArray) (w : World) (hn : n ≤ 1048576) (hk : 0 < k) (hk1 : k + tot nX ns ≤ 4000000000000000000) (hSg : S g) (ho : LOpen 9 1 EStr w g n c F0 P ns) :
    Calls Try.prog 92 #[.slice (some ⟨g, 0, none⟩) n c, .int .i64 k] w fun e w' => ∃ F, e = .returned (.int .i64 ((k + tot nX ns : Nat) : Int)) ∧ LOpen 9 1 EStr w' g n c F P (mL mX nX k ns) ∧ Foot w w' S := by
  have hc := ho.mine.le
  have hlen := Seg.hid ho.len
  have HM : Hid (LOpen 9 1 EStr w g n c F0 P (mid mX nX k 0 ns) ∧ Foot w w S) := ⟨by rw [mid_zero]; exact ho, Foot.refl _ _⟩
  have HSG := Seg.hid hSg
  have hkn : k + n ≤ 4000000000000000000 := by rw [nX_tot, hlen.out] at hk1; exact hk1
  have KT : Hid (∀ j, j ≤ n → tot nX (ns.take j) = j) := fun j hj => by rw [nX_tot, List.length_take, hlen.out]; omega
  have KE : Hid (tot nX ns = n) := by show _ = _; rw [nX_tot, hlen.out]
  clear ho hSg hk1
  go_enter Try.func92, Try.ntmps92
  go_wp2
  go_loopw [1, 5] (fun x i wr => ∃ (j : Nat) (F : Nat → Value), j ≤ n ∧ i = .int .i64 j ∧ x = .int .i64 ((k : Int) + j) ∧ Hid (LOpen 9 1 EStr wr g n c F P (mid mX nX k j ns) ∧ Foot w wr S)) (fun _ i _ => n - (intOf i).toNat)
  case atStart => exact ⟨0, F0, Nat.zero_le _, rfl, by simp, HM.out⟩
  case round =>
    clear HM
    obtain ⟨j, F, hj, rfl, rfl, HR⟩ := hrel
    by_cases hlt : j < n
    · have h0 : (0 : Int) ≤ (j : Int) := by omega
      have h1 : (j : Int) < (n : Int) := by omega
      have R0 : Hid (Rnd 9 1 g n c (P j) w wr wr S F j [F (j * 1 + 0)]) := Rnd.start HR.out.1.mine HR.out.2 rfl (fun q hq => by
        match q, hq with
        | 0, _ => rfl)
      go_wp2_with fail
      refine (markText_at _ (k + j) (by omega) wr (by omega) (by omega)).mono ?_
      rintro e w1 ⟨rfl, b1⟩
      have R1 : Hid (Rnd 9 1 g n c (P j) w wr w1 S F j [F (j * 1 + 0)]) := R0.out.below b1
      clear b1
      have d0 : w1.cell? ⟨g, j, none⟩ = some (F j) := by have := R1.out.cell hlt 0 (by omega); simp only [Nat.mul_one, Nat.add_zero] at this; exact this
      have f0 : w1.frozen? ⟨g, j, none⟩ = false := R1.out.frozen _
      have R2 : Hid (Rnd 9 1 g n c (P j) w wr (w1.setCell ⟨g, j, none⟩ (.string (mt (k + j)))) S F j [.string (mt (k + j))]) := by
        have := R1.out.set HSG.out 0 (by omega) (.string (mt (k + j)))
        simp only [Nat.mul_one, Nat.add_zero] at this
        exact this
      obtain ⟨F', L', F2⟩ := Rnd.done keepsOStr (t := mX (k + tot nX (ns.take j)) (ns.getD j default)) HR.out.1 hlt R2.out (by show Value.string _ = .string _; rw [KT.out j hj, mX])
      rw [mid_step mX nX (by rw [hlen.out]; exact hlt)] at L'
      have L2 := Seg.hid L'
      have F3 := Seg.hid F2
      clear L' F2
      go_wp2
      go_roundw
      case rel => exact ⟨j + 1, F', by omega, by go_num, by go_num, L2.out, F3.out⟩
      case measure => simp [intOf]; omega
    · have : j = n := by omega
      subst this
      have E := HR.out
      rw [show mid mX nX k j ns = mL mX nX k ns by rw [← hlen.out]; exact mid_all _ _ _ _] at E
      have EH' := Seg.hid E
      clear E
      go_wp2
      go_ret
      exact ⟨F, Seg.ret_int (by have := KE.out; omega), EH'.out⟩
theorem markStringS_own (x : Int) (k : Nat) (hx : x = (k : Int)) (S : Nat → Prop) (ns : List ByteArray) (w : World) {v : Value} (hk : 0 < k) (hk1 : k + tot nX ns ≤ 4000000000000000000) (hv : StrsOwn w S v ns) :
    Calls Try.prog 92 #[v, .int .i64 x] w fun e w' => e = .returned (.int .i64 ((k + tot nX ns : Nat) : Int)) ∧ StrsOwn w' S v (mL mX nX k ns) ∧ Foot w w' S := by
  subst hx
  obtain ⟨h0, A, c, rfl, h⟩ := hv
  by_cases hz : ns.length = 0
  · obtain rfl := List.length_eq_zero_iff.1 hz
    exact (markStringS_none A c k w).mono fun e w' ⟨h1, h2⟩ => by
      subst h2
      exact ⟨by rw [h1]; rfl, LOwn.nil _ _ _ _, Foot.refl _ _⟩
  obtain ⟨g, F, P, rfl, h3, h4, h5⟩ := h.resolve_left hz
  refine (markStringS_core g ns.length c k S P F ns w h0 hk hk1 h3 h5).mono fun e w' ⟨F', a1, a2, a3⟩ => ⟨a1, ⟨by rw [mL_len]; exact h0, _, c, by rw [mL_len], .inr ⟨g, F', P, rfl, h3, fun i hi => h4 i (by rw [mL_len] at hi; exact hi), ?_⟩⟩, a3⟩
  rw [mL_len]
  exact a2
end Go.Proofs.Ytdhicmbfknagjaa.Ow
