/- The model's WriteRow; What the program's kinds write. -/
import Derived.Deep.RegionHeld3
import Derived.Deep.RegionLaw
import Derived.Test.YtdhicmbfknagjaaJWT21
import Derived.Test.YtdhicmbfknagjaaJWT28
import Derived.Test.YtdhicmbfknagjaaJWT30
import Derived.Test.YtdhicmbfknagjaaJWT27
import Derived.Test.YtdhicmbfknagjaaJWT10
import Derived.Test.YtdhicmbfknagjaaJWT22
namespace Go.Proofs.Ytdhicmbfknagjaa.WwT
set_option maxRecDepth 8000
open Go.RowKit
open Ls Lp VkP VkR ScP ScI ScS RoP RoI WwP
open SqP (Out app)
open Nums (put)
open PuI (Ext below_grown out_below out_lt out_cell)
open Recs (hsz below1 below2 below3 chain chainD)
set_option linter.unusedVariables false
theorem kept1 {w w' : World} {g gb q : Nat} {x : Value} (h : w.cell? ⟨gb, q, none⟩ = some x) (gr : w.grownBy w' (some g)) (hne : gb ≠ g) : w'.cell? ⟨gb, q, none⟩ = some x := gr.cell h (by simpa using hne)
/-- A row's fields up to the k-th are written. -/
structure Wr (w2 wr : World) (base : Nat) (fs : List Fld) (us : List Vlu) (id : Int) (k : Nat) (v : Value) : Prop where
  le : k ≤ fs.length
  ro : ∃ gx cap cur, v = .slice (some ⟨gx, 0, none⟩) cur.length cap ∧ Out wr base gx cap cur ∧ cur = put id ++ rowB fs us k
  bel : Below base w2 wr
/-- A row that is written while a box lies behind the world wr. -/
structure Mo (w2 wr wx : World) (base : Nat) (l : List Int) (gx cap : Nat) : Prop where
  out : Out wx base gx cap l
  bel : Below base w2 wx
  ne : wr.heap.size ≠ gx
  sz : wr.heap.size < wx.heap.size
  hb : base ≤ wr.heap.size
theorem Mo.step {w2 wr wx w' : World} {base gx cap : Nat} {l l' : List Int} {e : Ending} (h : Mo w2 wr wx base l gx cap) (E : Ext wx w' base gx l' e) : ∃ g' cap', e = .returned (.slice (some ⟨g', 0, none⟩) l'.length cap') ∧ Mo w2 wr w' base l' g' cap' := by
  obtain ⟨⟨g', cap', rfl, o, h1⟩, gr⟩ := E
  have s1 := h.sz
  have s2 := h.ne
  have s3 := gr.size
  have s4 := h.hb
  have s5 := (out_lt h.out).1
  exact ⟨g', cap', rfl, o, h.bel.grown gr (by omega) (fun k hk => by cases hk; exact s5), by omega, by omega, h.hb⟩
theorem own_lt {T : Type} [Inhabited T] {nf : Nat} {E : Elt T} {w : World} {S : Nat → Prop} {v : Value} {us : List T} {B g o n c : Nat} (h : LAt nf E w S v us) (hS : ∀ g, S g → g < B) (e : v = .slice (some ⟨g, o, none⟩) n c) (hz : 0 < us.length) : g < B := by
  obtain ⟨_, A, c1, h1, h2⟩ := h
  obtain ⟨g1, o1, F, ea, hg, _⟩ := h2.resolve_left (by omega)
  rw [h1, ea] at e
  cases e
  exact hS _ hg
theorem ext_drew {wx w' : World} {base g : Nat} {l : List Int} {e : Ending} (h : Ext wx.drew w' base g l e) : Ext wx w' base g l e := ⟨h.ex, h.gr.os, h.gr.tape, h.gr.output, h.gr.size, h.gr.block⟩
theorem five2 {w1 : World} {gb : Nat} {u : Vlu} {A : Option Addr} {c : Nat} (h : w1.heap[gb]? = some (.cells (vrow u A c) 84 (0, 0))) : w1.cell? ⟨gb, 0, none⟩ = some (.int .i64 u.kind) ∧ w1.cell? ⟨gb, 1, none⟩ = some (.int .i64 u.num) ∧ w1.cell? ⟨gb, 2, none⟩ = some (.string u.text) ∧ w1.cell? ⟨gb, 3, none⟩ = some (.bool u.lst) ∧ w1.cell? ⟨gb, 4, none⟩ = some (.slice A u.items.length c) :=
  ⟨cell_of_row w1 _ 0 _ _ (0, 0) h, cell_of_row w1 _ 1 _ _ (0, 0) h, cell_of_row w1 _ 2 _ _ (0, 0) h, cell_of_row w1 _ 3 _ _ (0, 0) h, cell_of_row w1 _ 4 _ _ (0, 0) h⟩
/-- Of a list the first j items are written. -/
structure It (w2 wr wx : World) (base : Nat) (u : Vlu) (A : Option Addr) (c : Nat) (l2 : List Int) (j : Nat) (v : Value) : Prop where
  le : j ≤ u.items.length
  ro : ∃ gx cap cur, v = .slice (some ⟨gx, 0, none⟩) cur.length cap ∧ Mo w2 wr wx base cur gx cap ∧ cur = l2 ++ itsB u.kind (u.items.take j)
  box : wx.heap[wr.heap.size]? = some (.cells (vrow u A c) 84 (0, 0))
set_option maxHeartbeats 12800000 in
theorem spec_any (id : Int) (x y : Value) (s : Sch) (us : List Vlu) (w : World) (S : Nat → Prop) (hx : SchAt w S x s) (hy : LAt 5 EVlu w S y us) (hS : ∀ g, S g → g < w.heap.size) (hfs : szSch s ≤ 1048576) (hfu : szL szVlu us ≤ 1048576) :
    Calls Try.prog 22 #[.int .i64 id, x, y] w fun e w' => ∃ v, e = .returned v ∧ Ow.YsOwn w' (seg w.heap.size w'.heap.size) v (wrow id s us) ∧ Below w.heap.size w w' := by
  have HX := Seg.hid hx
  have HY := Seg.hid hy
  obtain ⟨A0, c0, rfl, hl⟩ := formS hx
  obtain ⟨A, c, g, o, F, e, OP, hn⟩ := opn hl hS
  cases e
  obtain ⟨A2, c2, g2, o2, F2, rfl, OP2, hn2⟩ := opn hy hS
  have HO := Seg.hid OP
  have HO2 := Seg.hid OP2
  have C1 : Hid (∀ wx, Below w.heap.size w wx → Calls Try.prog 54 #[.agg (srow s A0 c0), .slice A2 us.length c2] wx fun e w' => e = .returned (.bool (rowOk s us)) ∧ Below wx.heap.size wx w') := fun wx b => RoS.spec_any _ _ s us wx S (HX.out.below b hS) (LAt.below keepsVlu HY.out b hS) (fun g hg => Nat.lt_of_lt_of_le (hS g hg) b.size) hfs hfu
  clear hx hy hl OP OP2 hfs hfu
  obtain ⟨R, hR⟩ : ∃ R, wrow id s us = R := ⟨_, rfl⟩
  rw [hR]
  have HR := Seg.hid hR
  clear hR
  go_enter Try.func22, Try.ntmps22
  cases hin : inR 0 id 1000000000 with
  | false =>
    have RF : Hid (R = []) := by show _ = _; rw [← HR.out, wrow, hin]; rfl
    have HB := Seg.hid hin
    clear hin
    go_wp2_with (go_at_call 35; refine (InB.l1In_b _ _ _ _ HB.out _).mono ?_; rintro e w5 ⟨rfl, rfl⟩)
    go_ret
    exact ⟨_, rfl, by rw [RF.out]; exact Ow.LOwn.nil _ _ _ _, below2 _ _ _⟩
  | true =>
  have HB := Seg.hid hin
  go_wp2_with (first | (go_at_call 35; refine (InB.l1In_b _ _ _ _ HB.out _).mono ?_; rintro e w5 ⟨rfl, rfl⟩) | fail)
  refine (C1.out _ (below1 w _)).mono ?_
  rintro e w1 ⟨rfl, b1⟩
  have B1 := Seg.hid (chain (below1 w _) b1)
  have P1 : Hid (w1.heap[w.heap.size]? = some (.cells (srow s A0 c0) 43 (0, 0))) := (b1.block w.heap.size (by rw [hsz]; omega)).trans (heap_alloc_new w _)
  have s1 : w.heap.size < w1.heap.size := (Array.getElem?_eq_some_iff.1 P1.out).1
  clear b1 C1
  cases h1 : rowOk s us with
  | false =>
    have RF : Hid (R = []) := by show _ = _; rw [← HR.out, wrow, hin, h1]; rfl
    clear hin h1
    go_wp2
    go_ret
    exact ⟨_, rfl, by rw [RF.out]; exact Ow.LOwn.nil _ _ _ _, chain B1.out (below1 _ _)⟩
  | true =>
  have hid := inR_true hin
  have RF : Hid (R = put id ++ rowB s.fields us s.fields.length) := by show _ = _; rw [← HR.out, wrow, hin, h1]; rfl
  have RL : Hid (R.length ≤ 100000) := by show _ ≤ _; rw [← HR.out]; exact wrow_len _ _ _
  simp only [rowOk, Bool.and_eq_true, decide_eq_true_eq] at h1
  have HROW : Hid (rowL s.fields us s.fields.length = true) := h1.2.2
  have HL : Hid (us.length = s.fields.length) := h1.2.1
  have h20 : s.fields.length ≤ 20 := (MaP.sok_dst h1.1).2.1
  have p1 : w1.cell? ⟨w.heap.size, 1, none⟩ = some (.slice A0 s.fields.length c0) := cell_of_row w1 _ 1 _ _ (0, 0) P1.out
  have hpl := put10 (n := id) (by omega)
  clear h1 hin HR HB
  go_wp2_with fail
  refine (Put.spec_any id w1 (by omega) (by omega)).mono ?_
  rintro e w2 ⟨gp, cp, rfl, op, b2⟩
  have OP2 := Seg.hid op
  have B2 := Seg.hid b2
  have s2 : w1.heap.size ≤ w2.heap.size := b2.size
  have PB : Hid (w2.cell? ⟨w.heap.size, 1, none⟩ = some (.slice A0 s.fields.length c0)) := (b2.cell (p := ⟨w.heap.size, 1, none⟩) s1).trans p1
  clear op b2 p1 P1 hpl
  go_wp2
  go_loopw [7, 8] (fun v i wr => ∃ k : Nat, i = .int .i64 k ∧ Wr w2 wr w1.heap.size s.fields us id k v) (fun _ i _ => s.fields.length - (intOf i).toNat)
  case atStart => exact ⟨0, rfl, Nat.zero_le _, ⟨gp, cp, put id, rfl, OP2.out, by rw [rowB_zero, List.append_nil]⟩, Below.refl _ _⟩
  case round =>
    clear OP2
    obtain ⟨k, rfl, WR⟩ := hrel
    have hk := WR.le
    obtain ⟨gx, cx, cur, rfl, ox, hcur⟩ := WR.ro
    have OX := Seg.hid ox
    have HC := Seg.hid hcur
    have BX : Hid (Below w1.heap.size w1 wr) := B2.out.trans WR.bel
    have BR := Seg.hid WR.bel
    clear WR ox hcur
    by_cases hlt : k < s.fields.length
    · obtain ⟨ea, hc, hgw⟩ := HO.out.addr.resolve_left (by omega)
      subst ea
      have hltu : k < us.length := by have := HL.out; omega
      obtain ⟨ea, hc2, hgw2⟩ := HO2.out.addr.resolve_left (by omega)
      subst ea
      have BW : Hid (Below w.heap.size w wr) := B1.out.trans (BX.out.mono (by omega))
      obtain ⟨A', c', B', d', hfl, d0, d1, d2, d3, d4, d5, d6, d7, d8, d9, d10⟩ := fld_at HO.out hS BW.out hlt
      obtain ⟨A4, c4, hvl, q0, q1, q2, q3, q4⟩ := vlu_at HO2.out hS BW.out hltu
      have h0 : (0 : Int) ≤ (k : Int) := by omega
      have h1 : (k : Int) < (s.fields.length : Int) := by omega
      have h2 : (k : Int) < (us.length : Int) := by omega
      have OK3 := Seg.hid (one_vok (rowL_at hlt HROW.out))
      have NX : Hid (rowB s.fields us (k + 1) = rowB s.fields us k ++ valB (s.fields.getD k default).may (us.getD k default)) := rowB_next _ _ _
      have CL : Hid (cur.length ≤ 100000) := by
        show _ ≤ _
        have := rowB_len HROW.out k hk
        have := put10 (n := id) (by omega)
        rw [HC.out, List.length_append]
        omega
      obtain ⟨A9, c9, hv9, hit⟩ := formV hvl
      simp only [Value.agg.injEq, Array.mk.injEq, List.cons.injEq, and_true, true_and, Value.slice.injEq] at hv9
      obtain ⟨rfl, rfl⟩ := hv9
      have HIT := Seg.hid hit
      have hpb : wr.cell? ⟨w.heap.size, 1, none⟩ = some (.slice (some ⟨g, o, none⟩) s.fields.length c0) := (BR.out.cell (p := ⟨w.heap.size, 1, none⟩) s1).trans PB.out
      clear hfl hvl hit d0 d1 d2 d4 d5 d6 d7 d8 d9 d10
      generalize s.fields.getD k default = f at *
      generalize us.getD k default = u at *
      have H5 : Hid (put id ++ rowB s.fields us (k + 1) = cur ++ valB f.may u) := by show _ = _; rw [HC.out, NX.out, List.append_assoc]
      clear HC NX
      have hgx := out_lt OX.out
      have hbw : w1.heap.size ≤ wr.heap.size := BX.out.size
      have y4 : g < wr.heap.size := by omega
      obtain ⟨w5, hw5⟩ : ∃ w5, wr.alloc (.cells #[.int .i64 u.kind, .int .i64 u.num, .string u.text, .bool u.lst, .slice A4 u.items.length c4] 84 (0, 0)) = w5 := ⟨_, rfl⟩
      have T5 : Hid (w5.heap[wr.heap.size]? = some (.cells (vrow u A4 c4) 84 (0, 0))) := by show _ = _; rw [← hw5]; exact heap_alloc_new _ _
      have N5 : Hid (Below wr.heap.size wr w5) := by show Below _ _ _; rw [← hw5]; exact below1 _ _
      have s5 : wr.heap.size < w5.heap.size := (Array.getElem?_eq_some_iff.1 T5.out).1
      go_upto_region 8 with fail
      try rw [hw5]
      clear hw5 q0 q1 q2 q3 q4
      have hpb5 := (N5.out.cell (p := ⟨w.heap.size, 1, none⟩) (show w.heap.size < wr.heap.size by omega)).trans hpb
      have d35 := (N5.out.cell (p := ⟨g, o + k * 11 + 3, none⟩) y4).trans d3
      have M5 : Hid (Mo w2 wr w5 w1.heap.size cur gx cx) := ⟨out_below OX.out N5.out, BR.out.trans (N5.out.mono (by omega)), by omega, s5, hbw⟩
      have hne : wr.heap.size ≠ gx := by omega
      obtain ⟨e0, e1, e2, e3, e4⟩ := five2 T5.out
      clear hpb d3 OX N5
      cases hm : f.may with
      | true =>
        rw [hm] at d35
        by_cases hz : u.kind = 0
        · have HZ : Hid (put id ++ rowB s.fields us (k + 1) = cur ++ [0]) := by show _ = _; rw [H5.out, valB, hz]; rfl
          rw [hz] at e0
          clear hz hm H5
          go_wp2_with (at_builtin; refine app rfl (.tmp 42) (.tmp 43) rfl w1.heap.size gx cx cur [0] ?zzs ?zzo ⟨w5.heap.size, 0, none⟩ 1 ?zzx ?zzn ?zzm ?zzb ?zzba ?_; (case zzs => rfl); (case zzo => exact World.ownsRow.alloc M5.out.out _); (case zzx => rfl); (case zzn => exact SqP.one_new w5 _ _); (case zzm => decide); (case zzb => have := CL.out; simp; omega); (case zzba => simp; omega); intro g7 c7 w7 o7 gr7 at7; have E7 : Hid (Ext w5 w7 w1.heap.size gx (cur ++ [0]) (.returned (.slice (some ⟨g7, 0, none⟩) (cur ++ [0]).length c7))) := PuT.Ext.more (below_grown (below1 w5 _) (some gx)) (.inl rfl) o7 gr7 at7 rfl; clear o7 gr7 at7)
          have T7 := Seg.hid (PuT.kept T5.out E7.out.gr hne)
          have M7 : Hid (Mo w2 wr w7 w1.heap.size (cur ++ [0]) g7 c7) := by
            obtain ⟨ga, ca, ea, h⟩ := M5.out.step E7.out
            simp only [Ending.returned.injEq, Value.slice.injEq, Option.some.injEq, Addr.mk.injEq, and_true, true_and] at ea
            obtain ⟨rfl, rfl⟩ := ea
            exact h
          clear E7 M5 T5
          rw [← HZ.out] at M7
          have hll : cur.length + 1 = (put id ++ rowB s.fields us (k + 1)).length := by rw [HZ.out]; simp
          go_roundw
          case rel => exact ⟨k + 1, by go_num, by omega, ⟨g7, c7, _, by rw [← hll], M7.out.out, rfl⟩, M7.out.bel⟩
          case measure => simp [intOf]; omega
        · have hko := OK3.out.2.2 hz
          have HZ0 : Hid (put id ++ rowB s.fields us (k + 1) = (cur ++ [1]) ++ vaB u) := by show _ = _; rw [H5.out, valB, if_pos hko, if_pos hm, List.append_assoc]
          have hz1 : (u.kind == 0) = false := by simpa using hz
          clear hz hm H5
          cases hl : u.lst with
          | false =>
            rw [hl] at e3
            go_upto_region 12 with (at_builtin; refine app rfl (.tmp 45) (.tmp 46) rfl w1.heap.size gx cx cur [1] ?zzs ?zzo ⟨w5.heap.size, 0, none⟩ 1 ?zzx ?zzn ?zzm ?zzb ?zzba ?_; (case zzs => rfl); (case zzo => exact World.ownsRow.alloc M5.out.out _); (case zzx => rfl); (case zzn => exact SqP.one_new w5 _ _); (case zzm => decide); (case zzb => have := CL.out; simp; omega); (case zzba => simp; omega); intro g7 c7 w7 o7 gr7 at7; have E7 : Hid (Ext w5 w7 w1.heap.size gx (cur ++ [1]) (.returned (.slice (some ⟨g7, 0, none⟩) (cur ++ [1]).length c7))) := PuT.Ext.more (below_grown (below1 w5 _) (some gx)) (.inl rfl) o7 gr7 at7 rfl; clear o7 gr7 at7)
            have T7 := Seg.hid (PuT.kept T5.out E7.out.gr hne)
            have M7 : Hid (Mo w2 wr w7 w1.heap.size (cur ++ [1]) g7 c7) := by
              obtain ⟨ga, ca, ea, h⟩ := M5.out.step E7.out
              simp only [Ending.returned.injEq, Value.slice.injEq, Option.some.injEq, Addr.mk.injEq, and_true, true_and] at ea
              obtain ⟨rfl, rfl⟩ := ea
              exact h
            clear E7 M5 T5
            obtain ⟨l7, hl7⟩ : ∃ l7, cur ++ [1] = l7 := ⟨_, rfl⟩
            have hll : cur.length + 1 = l7.length := by rw [← hl7]; simp
            rw [hl7] at M7 HZ0
            have HZ := HZ0
            try rw [hll]
            have CL7 : Hid (l7.length ≤ 100001) := by show _ ≤ _; have := CL.out; omega
            clear hll hl7 CL HZ0 e0 e1 e2 e3 e4 hpb5 d35 hne
            have CL := CL7
            clear CL7
            have HH := Seg.hid (vok_one hko hl OK3.out.1)
            obtain ⟨e0, e1, e2, e3, e4⟩ := five2 T7.out
            rw [hl] at e3
            have HQ : Hid (put id ++ rowB s.fields us (k + 1) = l7 ++ itB u.kind u.num u.text) := by show _ = _; rw [HZ.out, vaB, hl]; rfl
            clear hl HZ OK3 hko
            go_wp2_with fail
            refine (WwS.write_any u.kind u.num u.text g7 c7 w1.heap.size l7 w7 HH.out (by have := CL.out; omega) M7.out.out (by have := M7.out.sz; omega)).mono ?_
            rintro e w8 hE
            rw [← HQ.out] at hE
            obtain ⟨g8, c8, rfl, m8⟩ := M7.out.step hE
            have M8 := Seg.hid m8
            clear hE m8
            go_wp2
            go_roundw
            case rel => exact ⟨k + 1, by go_num, by omega, ⟨g8, c8, _, by rw [List.length_append], M8.out.out, rfl⟩, M8.out.bel⟩
            case measure => simp [intOf]; omega
          | true =>
            rw [hl] at e3
            go_upto_region 12 with (at_builtin; refine app rfl (.tmp 45) (.tmp 46) rfl w1.heap.size gx cx cur [1] ?zzs ?zzo ⟨w5.heap.size, 0, none⟩ 1 ?zzx ?zzn ?zzm ?zzb ?zzba ?_; (case zzs => rfl); (case zzo => exact World.ownsRow.alloc M5.out.out _); (case zzx => rfl); (case zzn => exact SqP.one_new w5 _ _); (case zzm => decide); (case zzb => have := CL.out; simp; omega); (case zzba => simp; omega); intro g7 c7 w7 o7 gr7 at7; have E7 : Hid (Ext w5 w7 w1.heap.size gx (cur ++ [1]) (.returned (.slice (some ⟨g7, 0, none⟩) (cur ++ [1]).length c7))) := PuT.Ext.more (below_grown (below1 w5 _) (some gx)) (.inl rfl) o7 gr7 at7 rfl; clear o7 gr7 at7)
            have T7 := Seg.hid (PuT.kept T5.out E7.out.gr hne)
            have M7 : Hid (Mo w2 wr w7 w1.heap.size (cur ++ [1]) g7 c7) := by
              obtain ⟨ga, ca, ea, h⟩ := M5.out.step E7.out
              simp only [Ending.returned.injEq, Value.slice.injEq, Option.some.injEq, Addr.mk.injEq, and_true, true_and] at ea
              obtain ⟨rfl, rfl⟩ := ea
              exact h
            clear E7 M5 T5
            obtain ⟨l7, hl7⟩ : ∃ l7, cur ++ [1] = l7 := ⟨_, rfl⟩
            have hll : cur.length + 1 = l7.length := by rw [← hl7]; simp
            rw [hl7] at M7 HZ0
            have HZ := HZ0
            try rw [hll]
            have CL7 : Hid (l7.length ≤ 100001) := by show _ ≤ _; have := CL.out; omega
            clear hll hl7 CL HZ0 e0 e1 e2 e3 e4 hpb5 d35 hne
            have CL := CL7
            clear CL7
            obtain ⟨h30, hall⟩ := vok_list hko hl OK3.out.1
            have HALL := Seg.hid hall
            obtain ⟨e0, e1, e2, e3, e4⟩ := five2 T7.out
            rw [hl] at e3
            have HQ : Hid (put id ++ rowB s.fields us (k + 1) = (l7 ++ put (u.items.length : Int)) ++ itsB u.kind u.items) := by show _ = _; rw [HZ.out, vaB, if_pos hl, List.append_assoc]
            clear hl HZ OK3 hko hall
            go_wp2_with fail
            refine (Put.spec_any (u.items.length : Int) w7 (by omega) (by omega)).mono ?_
            rintro e w8 ⟨g8, c8, rfl, o8, b8⟩
            obtain ⟨xx, hxx⟩ : ∃ xx : Int, (u.items.length : Int) = xx := ⟨_, rfl⟩
            have hpl := put10 (n := xx) (by omega)
            have hpl2 : (put (u.items.length : Int)).length = (put xx).length := by rw [hxx]
            rw [hpl2]
            rw [hxx] at o8 HQ
            have O8 := Seg.hid o8
            have B8 := Seg.hid b8
            have z8 := b8.size
            have zM := M7.out.sz
            clear o8 b8 hxx hpl2
            go_upto_region 15 with (at_builtin; refine app rfl (.tmp 60) (.tmp 64) rfl w1.heap.size g7 c7 l7 (put xx) ?zzs ?zzo ⟨g8, 0, none⟩ c8 ?zzx ?zzn ?zzm ?zzb ?zzba ?_; (case zzs => rfl); (case zzo => exact out_below M7.out.out B8.out); (case zzx => rfl); (case zzn => exact fun j hj => out_cell (l := put xx) O8.out j hj); (case zzm => exact Nums.put_pos xx); (case zzb => have := CL.out; omega); (case zzba => omega); intro g9 c9 w9 o9 gr9 at9; have E9 := Seg.hid (WxS.num_ext B8.out o9 gr9 at9); clear o9 gr9 at9)
            obtain ⟨l2, hl2⟩ : ∃ l2, l7 ++ put xx = l2 := ⟨_, rfl⟩
            have T9 := Seg.hid (PuT.kept T7.out E9.out.gr M7.out.ne)
            have hll : l7.length + (put xx).length = l2.length := by rw [← hl2, List.length_append]
            rw [hl2] at E9 HQ
            rw [hll] at E9
            try rw [hll]
            have M9 : Hid (Mo w2 wr w9 w1.heap.size l2 g9 c9) := by
              obtain ⟨ga, ca, ea, h⟩ := M7.out.step E9.out
              simp only [Ending.returned.injEq, Value.slice.injEq, Option.some.injEq, Addr.mk.injEq, and_true, true_and] at ea
              obtain ⟨rfl, rfl⟩ := ea
              exact h
            have hl2l : Hid (l2.length ≤ 100020) := by show _ ≤ _; have := CL.out; omega
            clear E9 M7 T7 hl2 hll O8 B8 z8 zM hpl e0 e1 e2 e3 e4
            go_wp2
            obtain ⟨wo, hwo⟩ : ∃ wo, wo = wr := ⟨wr, rfl⟩
            subst hwo
            go_loopw [7, 10] (fun v i wx => ∃ j : Nat, i = .int .i64 j ∧ It w2 wo wx w1.heap.size u A4 c4 l2 j v) (fun _ i _ => u.items.length - (intOf i).toNat)
            case atStart => exact ⟨0, rfl, Nat.zero_le _, ⟨g9, c9, l2, rfl, M9.out, by rw [itsB_zero, List.append_nil]⟩, T9.out⟩
            case round =>
              clear M9 T9
              obtain ⟨j, rfl, IT⟩ := hrel
              have hj := IT.le
              obtain ⟨gy, cy, cuy, rfl, my, hcy⟩ := IT.ro
              have MY := Seg.hid my
              have HY2 := Seg.hid hcy
              have TY := Seg.hid IT.box
              have hzy := my.sz
              have hby : w1.heap.size ≤ wr.heap.size := by omega
              clear IT my hcy
              obtain ⟨e0, e1, e2, e3, e4⟩ := five2 TY.out
              by_cases hjt : j < u.items.length
              · have hb9 : Below w1.heap.size wo wr := ⟨(MY.out.bel.os).trans BR.out.os.symm, (MY.out.bel.tape).trans BR.out.tape.symm, (MY.out.bel.output).trans BR.out.output.symm, by omega, fun z hz => (MY.out.bel.block z hz).trans (BR.out.block z hz).symm⟩
                have hIr := LAt.below keepsItm HIT.out hb9 (fun z hz => Nat.lt_trans (hS z hz) s1)
                obtain ⟨A9, c9', gi, oi, F9, e9, OPI, hn9⟩ := opn hIr (fun z hz => by have := hS z hz; omega)
                simp only [Value.slice.injEq, true_and] at e9
                obtain ⟨rfl, rfl⟩ := e9
                obtain ⟨ea, hcc, hgi⟩ := OPI.addr.resolve_left (by omega)
                subst ea
                have IGI := own_lt HIT.out hS rfl (by omega)
                obtain ⟨i0, i1⟩ := itm_at OPI (fun z hz => by have := hS z hz; omega) (Below.refl _ _) hjt
                have HX2 : Hid (has u.kind (u.items.getD j default).num (u.items.getD j default).text = true) := by
                  show _ = true
                  have := List.all_eq_true.1 HALL.out u.items[j] (List.getElem_mem hjt)
                  simpa [hjt, hasI] using this
                have NX2 := Seg.hid (itsB_next (k := u.kind) hjt)
                have CL2 : Hid (cuy.length ≤ 104000) := by
                  show _ ≤ _
                  have := itsB_len HALL.out j hj
                  have := hl2l.out
                  rw [HY2.out, List.length_append]
                  omega
                have gi1 : gi ≠ gy := by have := (out_lt MY.out.out).1; omega
                have gb1 : wo.heap.size ≠ gy := MY.out.ne
                have j0 : (0 : Int) ≤ (j : Int) := by omega
                have j1 : (j : Int) < (u.items.length : Int) := by omega
                clear hIr OPI hn9 hb9
                generalize u.items.getD j default = it at *
                go_wp2_with fail
                go_region_held3 (fun w' => w'.cell? ⟨wo.heap.size, 0, none⟩ = some (.int .i64 u.kind) ∧ w'.cell? ⟨wo.heap.size, 4, none⟩ = some (.slice (some ⟨gi, oi, none⟩) u.items.length c4) ∧ w'.cell? ⟨gi, oi + j * 2, none⟩ = some (.int .i64 it.num) ∧ w'.cell? ⟨gi, oi + j * 2 + 1, none⟩ = some (.string it.text)) (first | exact ⟨e0, e4, i0, i1⟩ | exact ⟨x0, x4, x5, x6⟩ | go_keep) (first | (go_at_call 56; refine (WwS.write_any u.kind it.num it.text gy cy w1.heap.size cuy wr.drew HX2.out (by have := CL2.out; omega) MY.out.out hby).mono ?_; rintro e w8 hE0; have hE := ext_drew hE0; have gr8 := hE.gr; have x0 := kept1 e0 gr8 gb1; have x4 := kept1 e4 gr8 gb1; have x5 := kept1 i0 gr8 gi1; have x6 := kept1 i1 gr8 gi1; have T8 := Seg.hid (PuT.kept TY.out gr8 gb1); obtain ⟨l8, hl8⟩ : ∃ l8, cuy ++ itB u.kind it.num it.text = l8 := ⟨_, rfl⟩; rw [hl8] at hE; have H8 : Hid (l8 = l2 ++ itsB u.kind (u.items.take (j + 1))) := (by show _ = _; rw [← hl8, HY2.out, NX2.out, List.append_assoc]); have hM := MY.out.step hE; clear hE0 hE gr8 hl8; obtain ⟨g8, c8, rfl, m8⟩ := hM; have M8 := Seg.hid m8; clear m8))
                all_goals
                  clear x0 x4 x5 x6
                  go_wp2
                  go_roundw
                  case rel => exact ⟨j + 1, by go_num, by omega, ⟨g8, c8, l8, rfl, M8.out, H8.out⟩, T8.out⟩
                  case measure => simp [intOf]; omega
              · have hjl : j = u.items.length := by omega
                have HE : Hid (cuy = put id ++ rowB s.fields us (k + 1)) := by show _ = _; rw [HY2.out, HQ.out, hjl, List.take_length]
                clear hjl HY2
                go_wp2
                go_roundw
                case rel => exact ⟨k + 1, by go_num, by omega, ⟨gy, cy, cuy, rfl, MY.out.out, HE.out⟩, MY.out.bel⟩
                case measure => simp [intOf]; omega
      | false =>
        rw [hm] at d35
        have hz : ¬ u.kind = 0 := fun h => by have := OK3.out.2.1 h; rw [hm] at this; cases this
        have hko := OK3.out.2.2 hz
        have HZ : Hid (put id ++ rowB s.fields us (k + 1) = cur ++ vaB u) := by show _ = _; rw [H5.out, valB, if_pos hko, hm]; rfl
        clear hz hm H5
        cases hl : u.lst with
        | false =>
          rw [hl] at e3
          go_upto_region 13 with fail
          clear e0 e1 e2 e3 e4 hpb5 d35 hne
          have HH := Seg.hid (vok_one hko hl OK3.out.1)
          obtain ⟨e0, e1, e2, e3, e4⟩ := five2 T5.out
          rw [hl] at e3
          have HQ : Hid (put id ++ rowB s.fields us (k + 1) = cur ++ itB u.kind u.num u.text) := by show _ = _; rw [HZ.out, vaB, hl]; rfl
          clear hl HZ OK3 hko
          go_wp2_with fail
          refine (WwS.write_any u.kind u.num u.text gx cx w1.heap.size cur w5 HH.out (by have := CL.out; omega) M5.out.out (by have := M5.out.sz; omega)).mono ?_
          rintro e w8 hE
          rw [← HQ.out] at hE
          obtain ⟨g8, c8, rfl, m8⟩ := M5.out.step hE
          have M8 := Seg.hid m8
          clear hE m8
          go_wp2
          go_roundw
          case rel => exact ⟨k + 1, by go_num, by omega, ⟨g8, c8, _, by rw [List.length_append], M8.out.out, rfl⟩, M8.out.bel⟩
          case measure => simp [intOf]; omega
        | true =>
          rw [hl] at e3
          go_upto_region 14 with fail
          clear e0 e1 e2 e3 e4 hpb5 d35 hne
          obtain ⟨h30, hall⟩ := vok_list hko hl OK3.out.1
          have HALL := Seg.hid hall
          obtain ⟨e0, e1, e2, e3, e4⟩ := five2 T5.out
          rw [hl] at e3
          have HQ : Hid (put id ++ rowB s.fields us (k + 1) = (cur ++ put (u.items.length : Int)) ++ itsB u.kind u.items) := by show _ = _; rw [HZ.out, vaB, if_pos hl, List.append_assoc]
          clear hl HZ OK3 hko hall
          go_wp2_with fail
          refine (Put.spec_any (u.items.length : Int) w5 (by omega) (by omega)).mono ?_
          rintro e w8 ⟨g8, c8, rfl, o8, b8⟩
          obtain ⟨xx, hxx⟩ : ∃ xx : Int, (u.items.length : Int) = xx := ⟨_, rfl⟩
          have hpl := put10 (n := xx) (by omega)
          have hpl2 : (put (u.items.length : Int)).length = (put xx).length := by rw [hxx]
          rw [hpl2]
          rw [hxx] at o8 HQ
          have O8 := Seg.hid o8
          have B8 := Seg.hid b8
          have z8 := b8.size
          have zM := M5.out.sz
          clear o8 b8 hxx hpl2
          go_upto_region 15 with (at_builtin; refine app rfl (.tmp 60) (.tmp 64) rfl w1.heap.size gx cx cur (put xx) ?zzs ?zzo ⟨g8, 0, none⟩ c8 ?zzx ?zzn ?zzm ?zzb ?zzba ?_; (case zzs => rfl); (case zzo => exact out_below M5.out.out B8.out); (case zzx => rfl); (case zzn => exact fun j hj => out_cell (l := put xx) O8.out j hj); (case zzm => exact Nums.put_pos xx); (case zzb => have := CL.out; omega); (case zzba => omega); intro g9 c9 w9 o9 gr9 at9; have E9 := Seg.hid (WxS.num_ext B8.out o9 gr9 at9); clear o9 gr9 at9)
          obtain ⟨l2, hl2⟩ : ∃ l2, cur ++ put xx = l2 := ⟨_, rfl⟩
          have T9 := Seg.hid (PuT.kept T5.out E9.out.gr M5.out.ne)
          have hll : cur.length + (put xx).length = l2.length := by rw [← hl2, List.length_append]
          rw [hl2] at E9 HQ
          rw [hll] at E9
          try rw [hll]
          have M9 : Hid (Mo w2 wr w9 w1.heap.size l2 g9 c9) := by
            obtain ⟨ga, ca, ea, h⟩ := M5.out.step E9.out
            simp only [Ending.returned.injEq, Value.slice.injEq, Option.some.injEq, Addr.mk.injEq, and_true, true_and] at ea
            obtain ⟨rfl, rfl⟩ := ea
            exact h
          have hl2l : Hid (l2.length ≤ 100020) := by show _ ≤ _; have := CL.out; omega
          clear E9 M5 T5 hl2 hll O8 B8 z8 zM hpl e0 e1 e2 e3 e4
          go_wp2
          obtain ⟨wo, hwo⟩ : ∃ wo, wo = wr := ⟨wr, rfl⟩
          subst hwo
          go_loopw [7, 10] (fun v i wx => ∃ j : Nat, i = .int .i64 j ∧ It w2 wo wx w1.heap.size u A4 c4 l2 j v) (fun _ i _ => u.items.length - (intOf i).toNat)
          case atStart => exact ⟨0, rfl, Nat.zero_le _, ⟨g9, c9, l2, rfl, M9.out, by rw [itsB_zero, List.append_nil]⟩, T9.out⟩
          case round =>
            clear M9 T9
            obtain ⟨j, rfl, IT⟩ := hrel
            have hj := IT.le
            obtain ⟨gy, cy, cuy, rfl, my, hcy⟩ := IT.ro
            have MY := Seg.hid my
            have HY2 := Seg.hid hcy
            have TY := Seg.hid IT.box
            have hzy := my.sz
            have hby : w1.heap.size ≤ wr.heap.size := by omega
            clear IT my hcy
            obtain ⟨e0, e1, e2, e3, e4⟩ := five2 TY.out
            by_cases hjt : j < u.items.length
            · have hb9 : Below w1.heap.size wo wr := ⟨(MY.out.bel.os).trans BR.out.os.symm, (MY.out.bel.tape).trans BR.out.tape.symm, (MY.out.bel.output).trans BR.out.output.symm, by omega, fun z hz => (MY.out.bel.block z hz).trans (BR.out.block z hz).symm⟩
              have hIr := LAt.below keepsItm HIT.out hb9 (fun z hz => Nat.lt_trans (hS z hz) s1)
              obtain ⟨A9, c9', gi, oi, F9, e9, OPI, hn9⟩ := opn hIr (fun z hz => by have := hS z hz; omega)
              simp only [Value.slice.injEq, true_and] at e9
              obtain ⟨rfl, rfl⟩ := e9
              obtain ⟨ea, hcc, hgi⟩ := OPI.addr.resolve_left (by omega)
              subst ea
              have IGI := own_lt HIT.out hS rfl (by omega)
              obtain ⟨i0, i1⟩ := itm_at OPI (fun z hz => by have := hS z hz; omega) (Below.refl _ _) hjt
              have HX2 : Hid (has u.kind (u.items.getD j default).num (u.items.getD j default).text = true) := by
                show _ = true
                have := List.all_eq_true.1 HALL.out u.items[j] (List.getElem_mem hjt)
                simpa [hjt, hasI] using this
              have NX2 := Seg.hid (itsB_next (k := u.kind) hjt)
              have CL2 : Hid (cuy.length ≤ 104000) := by
                show _ ≤ _
                have := itsB_len HALL.out j hj
                have := hl2l.out
                rw [HY2.out, List.length_append]
                omega
              have gi1 : gi ≠ gy := by have := (out_lt MY.out.out).1; omega
              have gb1 : wo.heap.size ≠ gy := MY.out.ne
              have j0 : (0 : Int) ≤ (j : Int) := by omega
              have j1 : (j : Int) < (u.items.length : Int) := by omega
              clear hIr OPI hn9 hb9
              generalize u.items.getD j default = it at *
              go_wp2_with fail
              go_region_held3 (fun w' => w'.cell? ⟨wo.heap.size, 0, none⟩ = some (.int .i64 u.kind) ∧ w'.cell? ⟨wo.heap.size, 4, none⟩ = some (.slice (some ⟨gi, oi, none⟩) u.items.length c4) ∧ w'.cell? ⟨gi, oi + j * 2, none⟩ = some (.int .i64 it.num) ∧ w'.cell? ⟨gi, oi + j * 2 + 1, none⟩ = some (.string it.text)) (first | exact ⟨e0, e4, i0, i1⟩ | exact ⟨x0, x4, x5, x6⟩ | go_keep) (first | (go_at_call 56; refine (WwS.write_any u.kind it.num it.text gy cy w1.heap.size cuy wr.drew HX2.out (by have := CL2.out; omega) MY.out.out hby).mono ?_; rintro e w8 hE0; have hE := ext_drew hE0; have gr8 := hE.gr; have x0 := kept1 e0 gr8 gb1; have x4 := kept1 e4 gr8 gb1; have x5 := kept1 i0 gr8 gi1; have x6 := kept1 i1 gr8 gi1; have T8 := Seg.hid (PuT.kept TY.out gr8 gb1); obtain ⟨l8, hl8⟩ : ∃ l8, cuy ++ itB u.kind it.num it.text = l8 := ⟨_, rfl⟩; rw [hl8] at hE; have H8 : Hid (l8 = l2 ++ itsB u.kind (u.items.take (j + 1))) := (by show _ = _; rw [← hl8, HY2.out, NX2.out, List.append_assoc]); have hM := MY.out.step hE; clear hE0 hE gr8 hl8; obtain ⟨g8, c8, rfl, m8⟩ := hM; have M8 := Seg.hid m8; clear m8))
              all_goals
                clear x0 x4 x5 x6
                go_wp2
                go_roundw
                case rel => exact ⟨j + 1, by go_num, by omega, ⟨g8, c8, l8, rfl, M8.out, H8.out⟩, T8.out⟩
                case measure => simp [intOf]; omega
            · have hjl : j = u.items.length := by omega
              have HE : Hid (cuy = put id ++ rowB s.fields us (k + 1)) := by show _ = _; rw [HY2.out, HQ.out, hjl, List.take_length]
              clear hjl HY2
              go_wp2
              go_roundw
              case rel => exact ⟨k + 1, by go_num, by omega, ⟨gy, cy, cuy, rfl, MY.out.out, HE.out⟩, MY.out.bel⟩
              case measure => simp [intOf]; omega
    · have hkl : k = s.fields.length := by omega
      have hEQ := HL.out
      have HE : Hid (cur = R) := by show _ = _; rw [HC.out, RF.out, hkl]
      have hgx := out_lt OX.out
      clear hkl
      go_wp2
      go_ret
      rw [← HE.out]
      exact ⟨_, rfl, Ow.bytes_own OX.out rfl (by have := RL.out; rw [← HE.out] at this; omega) ⟨by omega, hgx.2⟩, B1.out.trans (BX.out.mono (by omega))⟩
end Go.Proofs.Ytdhicmbfknagjaa.WwT
namespace Go.Proofs.Ytdhicmbfknagjaa.WwI
set_option maxRecDepth 8000
open Go.RowKit
open Ls Lp VkP VkR VkI WwP
open SqP (Out app)
open Nums (put)
open PuI (Ext below_grown out_below out_lt out_cell)
open PuT (ints_new nums1 one_in)
open WrP (txt txt_len numsB)
open Recs (hsz below1 below2 below3 chain chainD)
set_option linter.unusedVariables false
theorem kept1 {w w' : World} {g gb q : Nat} {x : Value} (h : w.cell? ⟨gb, q, none⟩ = some x) (gr : w.grownBy w' (some g)) (hne : gb ≠ g) : w'.cell? ⟨gb, q, none⟩ = some x := gr.cell h (by simpa using hne)
set_option maxHeartbeats 1600000 in
theorem flagW (n : Int) (t : ByteArray) (g cap base : Nat) (out : List Int) (w : World) (hn : 0 ≤ n ∧ n ≤ 1) (ho1 : out.length ≤ 900000) (ho : Out w base g cap out) (hbase : base ≤ w.heap.size) :
    Calls Try.prog 183 #[.agg #[], .slice (some ⟨g, 0, none⟩) out.length cap, .agg #[.int .i64 n, .string t]] w fun e w' => Ext w w' base g (out ++ [n]) e := by
  have HO := Seg.hid ho
  clear ho
  go_enter Try.func183, Try.ntmps183
  go_upto_region 1 with fail
  obtain ⟨w2, hw2⟩ : ∃ w2, (w.alloc (.cells #[] 179 (0, 0))).alloc (.cells #[.int .i64 n, .string t] 99 (0, 0)) = w2 := ⟨_, rfl⟩
  have B2 : Hid (Below w.heap.size w w2) := by show Below _ _ _; rw [← hw2]; exact below2 _ _ _
  have O2 : Hid (Out w2 base g cap out) := by show Out _ _ _ _ _; rw [← hw2]; exact World.ownsRow.alloc (World.ownsRow.alloc HO.out _) _
  have c1 : w2.cell? ⟨w.heap.size + 1, 0, none⟩ = some (.int .i64 n) := by rw [← hw2]; exact cell_of_row _ _ 0 _ _ (0, 0) (at2y w _ _)
  have hb2 : base ≤ w2.heap.size := by have := B2.out.size; omega
  try rw [hw2]
  clear hw2
  rcases (show n = 0 ∨ n = 1 by omega) with rfl | rfl
  · go_wp2_with (at_builtin; refine app rfl (.tmp 7) (.tmp 11) rfl base g cap out [0] ?zzs ?zzo ⟨w2.heap.size, 0, none⟩ 1 ?zzx ?zzn ?zzm ?zzb ?zzba ?_; (case zzs => rfl); (case zzo => exact World.ownsRow.alloc O2.out _); (case zzx => rfl); (case zzn => exact SqP.one_new w2 _ _); (case zzm => decide); (case zzb => simp; omega); (case zzba => simp; omega); intro g3 cap3 w3 o3 gr3 at3; have EX : Hid (Ext w w3 base g (out ++ [0]) (.returned (.slice (some ⟨g3, 0, none⟩) (out.length + 1) cap3))) := PuT.Ext.from B2.out (PuT.Ext.more (below_grown (below1 w2 _) (some g)) (.inl rfl) o3 gr3 at3 (by simp)); clear o3 gr3 at3)
    go_ret
    exact EX.out
  · go_wp2_with (at_builtin; refine app rfl (.tmp 7) (.tmp 11) rfl base g cap out [1] ?zzs ?zzo ⟨w2.heap.size, 0, none⟩ 1 ?zzx ?zzn ?zzm ?zzb ?zzba ?_; (case zzs => rfl); (case zzo => exact World.ownsRow.alloc O2.out _); (case zzx => rfl); (case zzn => exact SqP.one_new w2 _ _); (case zzm => decide); (case zzb => simp; omega); (case zzba => simp; omega); intro g3 cap3 w3 o3 gr3 at3; have EX : Hid (Ext w w3 base g (out ++ [1]) (.returned (.slice (some ⟨g3, 0, none⟩) (out.length + 1) cap3))) := PuT.Ext.from B2.out (PuT.Ext.more (below_grown (below1 w2 _) (some g)) (.inl rfl) o3 gr3 at3 (by simp)); clear o3 gr3 at3)
    go_ret
    exact EX.out
set_option maxHeartbeats 1600000 in
theorem numW (lo hi n : Int) (t : ByteArray) (g cap base : Nat) (out : List Int) (w : World) (hn : -1000000000000000 ≤ n ∧ n ≤ 1000000000000000) (ho1 : out.length ≤ 900000) (ho : Out w base g cap out) (hbase : base ≤ w.heap.size) :
    Calls Try.prog 178 #[.agg #[.int .i64 lo, .int .i64 hi], .slice (some ⟨g, 0, none⟩) out.length cap, .agg #[.int .i64 n, .string t]] w fun e w' => Ext w w' base g (out ++ put n) e := by
  have HO := Seg.hid ho
  clear ho
  obtain ⟨l1, hl1⟩ : ∃ l1, out ++ put n = l1 := ⟨_, rfl⟩
  rw [hl1]
  have HL1 := Seg.hid hl1
  clear hl1
  go_enter Try.func178, Try.ntmps178
  go_wp2_with fail
  refine (ints_new g cap base out [n] ((w.alloc _).alloc _) 3 _ (by rw [hsz, hsz]) (by simp) (by omega) (one_in (by omega)) (World.ownsRow.alloc (World.ownsRow.alloc HO.out _) _) (by rw [hsz, hsz]; omega)).mono ?_
  rintro e w1 hE
  rw [nums1, HL1.out] at hE
  have HE := Seg.hid (PuT.Ext.from (below2 w _ _) hE)
  obtain ⟨⟨g1, cap1, rfl, o1, h1⟩, gr⟩ := hE
  clear o1 h1 gr
  go_wp2
  go_ret
  exact HE.out
set_option maxHeartbeats 3200000 in
theorem textW (n : Int) (t : ByteArray) (g cap base : Nat) (out : List Int) (w : World) (ht : t.size ≤ 1000) (ho1 : out.length ≤ 900000) (ho : Out w base g cap out) (hbase : base ≤ w.heap.size) :
    Calls Try.prog 188 #[.agg #[], .slice (some ⟨g, 0, none⟩) out.length cap, .agg #[.int .i64 n, .string t]] w fun e w' => Ext w w' base g (out ++ (put (t.size : Int) ++ txt t)) e := by
  have HO := Seg.hid ho
  have hgl := (out_lt ho).2
  clear ho
  go_enter Try.func188, Try.ntmps188
  go_upto_region 1 with fail
  obtain ⟨w2, hw2⟩ : ∃ w2, (w.alloc (.cells #[] 180 (0, 0))).alloc (.cells #[.int .i64 n, .string t] 99 (0, 0)) = w2 := ⟨_, rfl⟩
  have B2 : Hid (Below w.heap.size w w2) := by show Below _ _ _; rw [← hw2]; exact below2 _ _ _
  have O2 : Hid (Out w2 base g cap out) := by show Out _ _ _ _ _; rw [← hw2]; exact World.ownsRow.alloc (World.ownsRow.alloc HO.out _) _
  have c1 : w2.cell? ⟨w.heap.size + 1, 1, none⟩ = some (.string t) := by rw [← hw2]; exact cell_of_row _ _ 1 _ _ (0, 0) (at2y w _ _)
  have s2 : w2.heap.size = w.heap.size + 2 := by rw [← hw2, hsz, hsz]
  have S2 := Seg.hid s2
  have hb2 : base ≤ w2.heap.size := by omega
  have hbl : w.heap.size + 1 < w2.heap.size := by omega
  have hbg : w.heap.size + 1 ≠ g := by omega
  clear s2
  try rw [hw2]
  clear hw2
  have hpl := WrP.put_le (t.size : Int) (by omega)
  obtain ⟨l1, hl1⟩ : ∃ l1, out ++ put (t.size : Int) = l1 := ⟨_, rfl⟩
  have hll : l1.length ≤ 900010 := by rw [← hl1, List.length_append]; omega
  have HL1 := Seg.hid hl1
  clear hl1 hpl
  go_region_held3 (fun w' => w'.cell? ⟨w.heap.size + 1, 1, none⟩ = some (.string t)) (first | exact c1 | exact d1 | exact e1 | go_keep) (first | (go_at_call 100; refine (ints_new g cap base out [(t.size : Int)] w2.drew 3 _ rfl (by simp) (by omega) (one_in (by omega)) O2.out hb2).mono ?_; rintro e w5 hE; rw [nums1, HL1.out] at hE; obtain ⟨⟨g1, cap1, rfl, o1, h1⟩, gr⟩ := hE; have O5 := Seg.hid o1; have A5 : Hid (g1 = g ∨ w2.heap.size ≤ g1) := h1; have G5 : Hid (w2.grownBy w5 (some g)) := ⟨gr.os, gr.tape, gr.output, gr.size, gr.block⟩; have z5 : w2.heap.size ≤ w5.heap.size := G5.out.size; have d1 := kept1 c1 G5.out hbg; have hb5 : base ≤ w5.heap.size := Nat.le_trans hb2 z5; clear o1 h1 gr) | (refine WxS.step_appS (by rfl) (.tmp 12) (.tmp 14) (by rfl) base g1 cap1 l1 t ?zzs ?zzo ?zzx ?zzb ?zzba ?_; (case zzs => rfl); (case zzo => exact O5.out); (case zzx => rfl); (case zzb => omega); (case zzba => exact hb5); intro g3 cap3 w6 o3 gr3 at3; replace gr3 : w5.grownBy w6 (some g1) := ⟨gr3.os, gr3.tape, gr3.output, gr3.size, gr3.block⟩; replace at3 : g3 = g1 ∨ g3 = w5.heap.size := at3; have e1 := kept1 d1 gr3 (by have := A5.out; omega); have EX : Hid (Ext w w6 base g (out ++ (put (t.size : Int) ++ txt t)) (.returned (.slice (some ⟨g3, 0, none⟩) (l1.length + t.size) cap3))) := PuT.Ext.from B2.out (PuT.Ext.more G5.out A5.out (by rw [← List.append_assoc, HL1.out]; exact o3) gr3 at3 (by rw [← HL1.out]; simp [txt_len, Nat.add_assoc])); clear o3 gr3 at3))
  go_wp2
  go_ret
  exact EX.out
end Go.Proofs.Ytdhicmbfknagjaa.WwI
