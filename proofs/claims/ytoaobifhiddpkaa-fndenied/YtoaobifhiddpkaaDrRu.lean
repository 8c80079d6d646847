/- A rule, drawn. -/
import Derived.Test.YtoaobifhiddpkaaDrawP
import Derived.Test.YtoaobifhiddpkaaDrawQ
import Derived.Test.YtoaobifhiddpkaaDrawB
import Derived.Test.YtoaobifhiddpkaaRuP
import Derived.Test.YtoaobifhiddpkaaCells
namespace Go.Proofs.Ytoaobifhiddpkaa.DrRu
set_option maxRecDepth 8000
open Go.RowKit
open Ls Lp RuP
open Draw (Cur Lft Bytes)
open Recs (hsz below1 below2 chain)
set_option linter.unusedVariables false
/-- A rule whose texts are short. -/
def Sm (r : Rul) : Prop := r.who.size ≤ 10 ∧ r.name.size ≤ 10
abbrev zeroR : Rul := ⟨false, ⟨#[]⟩, 0, 0, ⟨#[]⟩, false⟩
structure R0 (w wr : World) (b : Nat) (A : Option Addr) (n c : Nat) : Prop where
  lft : Lft w wr b A n c
  res : wr.heap[w.heap.size]? = some (.cells (rrow zeroR) 30 (0, 0))
structure RD (w wr : World) (b : Nat) (A : Option Addr) (n c q : Nat) (R : Rul) : Prop where
  d : R0 w wr b A n c
  var : wr.heap[q]? = some (.cells (rrow R) 30 (0, 0))
  hq : w.heap.size < q
  sm : Sm R
theorem R0.next {w wr w' : World} {b : Nat} {A : Option Addr} {n c : Nat} (h : R0 w wr b A n c) (hb : b < w.heap.size) (l : Lft wr w' b A n c) : R0 w w' b A n c :=
  ⟨h.lft.trans l, (l.grown.block _ (Array.getElem?_eq_some_iff.1 h.res).1 (by simp; omega)).trans h.res⟩
theorem R0.alloc {w wr : World} {b : Nat} {A : Option Addr} {n c : Nat} (h : R0 w wr b A n c) (hb : b < w.heap.size) (o : Obj) : R0 w (wr.alloc o) b A n c := h.next hb ⟨h.lft.cur.alloc o, World.grownBy_alloc _ _ _⟩
theorem RD.next {w wr w' : World} {b : Nat} {A : Option Addr} {n c q : Nat} {R : Rul} (h : RD w wr b A n c q R) (hb : b < w.heap.size) (l : Lft wr w' b A n c) : RD w w' b A n c q R :=
  ⟨h.d.next hb l, (l.grown.block _ (Array.getElem?_eq_some_iff.1 h.var).1 (by have := h.hq; simp; omega)).trans h.var, h.hq, h.sm⟩
theorem RD.set {w wr : World} {b : Nat} {A : Option Addr} {n c q : Nat} {R : Rul} (h0 : Cur w b A n c) (h : RD w wr b A n c q R) (j : Nat) (v : Value) (R' : Rul) (hR : (rrow R).setIfInBounds j v = rrow R') (hs : Sm R') : RD w (wr.setCell ⟨q, j, none⟩ v) b A n c q R' := by
  have hq := h.hq
  refine ⟨⟨DrawB.Lft.above h0 h.d.lft (Draw.grown_setCell wr q j v) (fun k e => by cases e; omega), ?_⟩, ?_, hq, hs⟩
  · rw [heap_setCell_other _ _ _ _ (by show w.heap.size ≠ q; omega)]; exact h.d.res
  · have := heap_setCell_same wr q j _ _ v h.var
    rw [hR] at this
    exact this
theorem grown_cells (g : Nat) : ∀ (vs : List Value) (o : Nat) (w : World), w.grownBy (w.setCells g o vs) (some g)
  | [], _, w => World.grownBy.refl _ _
  | v :: r, o, w => (Draw.grown_setCell w g o v).trans (grown_cells g r (o + 1) _)
theorem RD.put {w wr : World} {b : Nat} {A : Option Addr} {n c q : Nat} {R : Rul} (h0 : Cur w b A n c) (h : RD w wr b A n c q R) : (wr.setCells w.heap.size 0 (rrow R).toList).heap[w.heap.size]? = some (.cells (rrow R) 30 (0, 0)) ∧ Lft w (wr.setCells w.heap.size 0 (rrow R).toList) b A n c :=
  ⟨Cells.whole (vs := rrow R) h.d.res rfl, DrawB.Lft.above h0 h.d.lft (grown_cells w.heap.size _ 0 wr) (fun k e => by cases e; exact Nat.le_refl _)⟩
theorem sixR {w : World} {g ty : Nat} {a b c d e f : Value} (h : w.heap[g]? = some (.cells #[a, b, c, d, e, f] ty (0, 0))) : (w.cell? ⟨g, 0, none⟩ = some a ∧ w.cell? ⟨g, 1, none⟩ = some b ∧ w.cell? ⟨g, 2, none⟩ = some c ∧ w.cell? ⟨g, 3, none⟩ = some d ∧ w.cell? ⟨g, 4, none⟩ = some e ∧ w.cell? ⟨g, 5, none⟩ = some f) ∧ w.frozen? ⟨g, 0, none⟩ = false ∧ w.frozen? ⟨g, 1, none⟩ = false ∧ w.frozen? ⟨g, 2, none⟩ = false ∧ w.frozen? ⟨g, 3, none⟩ = false ∧ w.frozen? ⟨g, 4, none⟩ = false ∧ w.frozen? ⟨g, 5, none⟩ = false :=
  ⟨⟨cell_of_row w g 0 _ _ (0, 0) h, cell_of_row w g 1 _ _ (0, 0) h, cell_of_row w g 2 _ _ (0, 0) h, cell_of_row w g 3 _ _ (0, 0) h, cell_of_row w g 4 _ _ (0, 0) h, cell_of_row w g 5 _ _ (0, 0) h⟩, frozen_of_row w g 0 _ _ h, frozen_of_row w g 1 _ _ h, frozen_of_row w g 2 _ _ h, frozen_of_row w g 3 _ _ h, frozen_of_row w g 4 _ _ h, frozen_of_row w g 5 _ _ h⟩
theorem pick_new {w : World} {b : Nat} {A : Option Addr} {n c : Nat} (l : List Int) (hc : Cur w b A n c) (hl0 : 0 < l.length) (hl1 : l.length ≤ 1000) (cs : Array Value) (hcs : cs = (l.map (Value.int .i64)).toArray) :
    Calls Try.prog 15 #[.pointer (some ⟨b, 0, none⟩), .slice (some ⟨w.heap.size, 0, none⟩) l.length l.length] (w.alloc (.cells cs 3 (0, 0))) fun e w' => (∃ x : Int, e = .returned (.int .i64 x)) ∧ Lft w w' b A n c := by
  subst hcs
  refine (Draw.pickInt_any b A n c w.heap.size l.length (fun i => l.getD i 0) _ (hc.alloc _) hl0 hl1 (by rw [hsz]; omega) (by have := hc.lt; omega) (fun i hi => ?_)).mono ?_
  · rw [cell_of_row _ _ i _ _ (0, 0) (heap_alloc_new _ _)]
    simp [hi]
  · rintro e w' ⟨⟨i, _, rfl⟩, L⟩
    exact ⟨⟨_, rfl⟩, ⟨L.cur, (World.grownBy_alloc _ _ _).trans L.grown⟩⟩
theorem pickS_new {w : World} {b : Nat} {A : Option Addr} {n c : Nat} (l : List ByteArray) (hc : Cur w b A n c) (hl0 : 0 < l.length) (hl1 : l.length ≤ 1000) (hz : ∀ x ∈ l, x.size ≤ 10) (cs : Array Value) (hcs : cs = (l.map Value.string).toArray) :
    Calls Try.prog 16 #[.pointer (some ⟨b, 0, none⟩), .slice (some ⟨w.heap.size, 0, none⟩) l.length l.length] (w.alloc (.cells cs 9 (0, 0))) fun e w' => (∃ x : ByteArray, x.size ≤ 10 ∧ e = .returned (.string x)) ∧ Lft w w' b A n c := by
  subst hcs
  refine (Draw.pick_any b A n c w.heap.size l.length (fun i => l.getD i ⟨#[]⟩) _ (hc.alloc _) hl0 hl1 (by rw [hsz]; omega) (by have := hc.lt; omega) (fun i hi => ?_)).mono ?_
  · rw [cell_of_row _ _ i _ _ (0, 0) (heap_alloc_new _ _)]
    simp [hi]
  · rintro e w' ⟨⟨i, hi, rfl⟩, L⟩
    refine ⟨⟨_, hz _ ?_, rfl⟩, ⟨L.cur, (World.grownBy_alloc _ _ _).trans L.grown⟩⟩
    rw [List.getD_eq_getElem?_getD, List.getElem?_eq_getElem hi]; exact List.getElem_mem hi
theorem info6 : (Try.prog.info? 30).map (·.size) = some 6 := by kernel_rfl
structure An (w : World) (b : Nat) (A : Option Addr) (n c : Nat) (e : Ending) (w' : World) : Prop where
  ex : ∃ R, e = .returned (.agg (rrow R)) ∧ Sm R
  lft : Lft w w' b A n c
set_option maxHeartbeats 12800000 in
theorem drawn_any (b : Nat) (A : Option Addr) (n c : Nat) (w : World) (hc : Cur w b A n c) :
    Calls Try.prog 12 #[.pointer (some ⟨b, 0, none⟩)] w fun e w' => An w b A n c e w' := by
  have HC := Seg.hid hc
  have hb := hc.lt
  clear hc
  have D0 : Hid (R0 w (w.alloc (.cells (rrow zeroR) 30 (0, 0))) b A n c) := ⟨⟨HC.out.alloc _, World.grownBy_alloc _ _ _⟩, heap_alloc_new _ _⟩
  go_enter Try.func12, Try.ntmps12
  go_upto_region 1 with fail
  obtain ⟨w0, hw0⟩ : ∃ w0, w.alloc (.cells (rrow zeroR) 30 (0, 0)) = w0 := ⟨_, rfl⟩
  rw [hw0]
  rw [hw0] at D0
  clear hw0
  go_wp2_with fail
  refine (Draw.once_any b A n c 3 w0 D0.out.lft.cur (by decide) (by decide)).mono ?_
  rintro e w1 ⟨⟨x1, rfl⟩, L1⟩
  have D1 := Seg.hid (D0.out.next hb L1)
  clear L1 D0
  go_wp2_with fail
  refine (pickS_new [⟨#[97, 110, 110]⟩, ⟨#[98, 111, 98]⟩, ⟨#[42]⟩, ⟨#[99, 121]⟩] D1.out.lft.cur (by decide) (by decide) (by decide) _ rfl).mono ?_
  rintro e w2 ⟨⟨s2, z2, rfl⟩, L2⟩
  have D2 := Seg.hid (D1.out.next hb L2)
  clear L2 D1
  go_wp2_with fail
  refine (Draw.below_any b A n c 4 w2 D2.out.lft.cur (by decide) (by decide)).mono ?_
  rintro e w3 ⟨⟨y3, y30, y31, rfl⟩, L3⟩
  have D3 := Seg.hid (D2.out.next hb L3)
  clear L3 D2
  have q3 : IntKind.i64.wrap (1 + y3) = 1 + y3 := by rw [IntKind.wrap_i64] <;> omega
  go_wp2_with fail
  refine (Draw.below_any b A n c 2 w3 D3.out.lft.cur (by decide) (by decide)).mono ?_
  rintro e w4 ⟨⟨y4, y40, y41, rfl⟩, L4⟩
  have D4 := Seg.hid (D3.out.next hb L4)
  clear L4 D3
  have q4 : IntKind.i64.wrap (1 + y4) = 1 + y4 := by rw [IntKind.wrap_i64] <;> omega
  go_wp2_with fail
  refine (pickS_new [⟨#[111, 114, 100, 101, 114, 115]⟩, ⟨#[111, 114]⟩, ⟨#[97]⟩, ⟨#[117, 115, 101, 114, 115]⟩] D4.out.lft.cur (by decide) (by decide) (by decide) _ rfl).mono ?_
  rintro e w5 ⟨⟨s5, z5, rfl⟩, L5⟩
  have D5 := Seg.hid (D4.out.next hb L5)
  clear L5 D4
  go_wp2_with fail
  refine (Draw.once_any b A n c 3 w5 D5.out.lft.cur (by decide) (by decide)).mono ?_
  rintro e w6 ⟨⟨x6, rfl⟩, L6⟩
  have D6 := Seg.hid (D5.out.next hb L6)
  clear L6 D5
  have s6 := (Array.getElem?_eq_some_iff.1 D6.out.res).1
  go_upto_region 2 with fail
  obtain ⟨q, hq⟩ : ∃ q, w6.heap.size = q := ⟨_, rfl⟩
  obtain ⟨w7, hw7⟩ : ∃ w7, w6.alloc (.cells (rrow ⟨x1, s2, 1 + y3, 1 + y4, s5, x6⟩) 30 (0, 0)) = w7 := ⟨_, rfl⟩
  rw [hw7, hq]
  have D7 : Hid (RD w w7 b A n c q ⟨x1, s2, 1 + y3, 1 + y4, s5, x6⟩) := by
    show RD _ _ _ _ _ _ _ _
    rw [← hw7, ← hq]
    exact ⟨D6.out.alloc hb _, heap_alloc_new _ _, s6, z2, z5⟩
  clear hw7 hq D6 s6 q3 q4
  obtain ⟨⟨c0, c1, c2, c3, c4, c5⟩, k0, k1, k2, k3, k4, k5⟩ := sixR D7.out.var
  have lq7 := (Array.getElem?_eq_some_iff.1 D7.out.var).1
  cases x6 with
  | false =>
    go_upto_region 4 with fail
    clear c0 c1 c2 c3 c4 c5 k0 k1 k2 k3 k4 k5 lq7
    go_wp2_with fail
    refine (Draw.once_any b A n c 25 _ D7.out.d.lft.cur (by decide) (by decide)).mono ?_
    rintro e w8 ⟨⟨x8, rfl⟩, L8⟩
    have D8 := Seg.hid (D7.out.next hb L8)
    clear L8 D7
    cases x8 with
    | false =>
      have D9 := D8
      clear D8
      obtain ⟨⟨c0, c1, c2, c3, c4, c5⟩, _⟩ := sixR D9.out.var
      obtain ⟨⟨n0, n1, n2, n3, n4, n5⟩, f0, f1, f2, f3, f4, f5⟩ := sixR D9.out.d.res
      have lq := (Array.getElem?_eq_some_iff.1 D9.out.var).1
      have l0 := (Array.getElem?_eq_some_iff.1 D9.out.d.res).1
      have P9 := Seg.hid (D9.out.put HC.out)
      have AN : Hid (An w b A n c (.returned (.agg (rrow ⟨x1, s2, (1 + y3), (1 + y4), s5, false⟩))) _) := ⟨⟨⟨x1, s2, (1 + y3), (1 + y4), s5, false⟩, rfl, D9.out.sm⟩, P9.out.2⟩
      go_wp2_with fail
      exact bodyPost_ret (v := .agg (rrow ⟨x1, s2, (1 + y3), (1 + y4), s5, false⟩)) (results_cell_row rfl _ _ w.heap.size _ (rrow ⟨x1, s2, (1 + y3), (1 + y4), s5, false⟩) _ _ rfl P9.out.1 Try.underlying30 rfl info6) rfl AN.out
    | true =>
      go_wp2_with fail
      refine (Draw.below_any b A n c 5 w8 D8.out.d.lft.cur (by decide) (by decide)).mono ?_
      rintro e wc ⟨⟨y, y0, y1, rfl⟩, Lc⟩
      have DX := Seg.hid (D8.out.next hb Lc)
      clear Lc D8
      have D8 := DX
      clear DX
      have hy : y = 0 ∨ y = 1 ∨ y = 2 ∨ 3 ≤ y := by omega
      rcases hy with rfl | rfl | rfl | hy
      · skip
        have lqd := (Array.getElem?_eq_some_iff.1 D8.out.var).1
        go_wp2_with fail
        refine (pickS_new [⟨#[]⟩, ⟨#[57]⟩, ⟨#[42, 42]⟩] D8.out.d.lft.cur (by decide) (by decide) (by decide) _ rfl).mono ?_
        rintro e wp ⟨⟨sp, zp, rfl⟩, Lp⟩
        have DP := Seg.hid (D8.out.next hb Lp)
        clear Lp D8 lqd
        obtain ⟨⟨c0, c1, c2, c3, c4, c5⟩, k0, k1, k2, k3, k4, k5⟩ := sixR DP.out.var
        have lqp := (Array.getElem?_eq_some_iff.1 DP.out.var).1
        go_upto_region 13 with fail
        obtain ⟨w9, hw9⟩ : ∃ w9, wp.setCell ⟨q, 1, none⟩ (.string sp) = w9 := ⟨_, rfl⟩
        rw [hw9]
        have D9 : Hid (RD w w9 b A n c q ⟨x1, sp, (1 + y3), (1 + y4), s5, false⟩) := by show RD _ _ _ _ _ _ _ _; rw [← hw9]; exact DP.out.set HC.out 1 (.string sp) ⟨x1, sp, (1 + y3), (1 + y4), s5, false⟩ rfl ⟨zp, DP.out.sm.2⟩
        clear hw9 c0 c1 c2 c3 c4 c5 k0 k1 k2 k3 k4 k5 lqp DP
        obtain ⟨⟨c0, c1, c2, c3, c4, c5⟩, _⟩ := sixR D9.out.var
        obtain ⟨⟨n0, n1, n2, n3, n4, n5⟩, f0, f1, f2, f3, f4, f5⟩ := sixR D9.out.d.res
        have lq := (Array.getElem?_eq_some_iff.1 D9.out.var).1
        have l0 := (Array.getElem?_eq_some_iff.1 D9.out.d.res).1
        have P9 := Seg.hid (D9.out.put HC.out)
        have AN : Hid (An w b A n c (.returned (.agg (rrow ⟨x1, sp, (1 + y3), (1 + y4), s5, false⟩))) _) := ⟨⟨⟨x1, sp, (1 + y3), (1 + y4), s5, false⟩, rfl, D9.out.sm⟩, P9.out.2⟩
        go_wp2_with fail
        exact bodyPost_ret (v := .agg (rrow ⟨x1, sp, (1 + y3), (1 + y4), s5, false⟩)) (results_cell_row rfl _ _ w.heap.size _ (rrow ⟨x1, sp, (1 + y3), (1 + y4), s5, false⟩) _ _ rfl P9.out.1 Try.underlying30 rfl info6) rfl AN.out
      · skip
        have lqd := (Array.getElem?_eq_some_iff.1 D8.out.var).1
        go_wp2_with fail
        refine (pick_new [0, 5] D8.out.d.lft.cur (by decide) (by decide) _ rfl).mono ?_
        rintro e wp ⟨⟨rp, rfl⟩, Lp⟩
        have DP := Seg.hid (D8.out.next hb Lp)
        clear Lp D8 lqd
        obtain ⟨⟨c0, c1, c2, c3, c4, c5⟩, k0, k1, k2, k3, k4, k5⟩ := sixR DP.out.var
        have lqp := (Array.getElem?_eq_some_iff.1 DP.out.var).1
        go_upto_region 13 with fail
        obtain ⟨w9, hw9⟩ : ∃ w9, wp.setCell ⟨q, 2, none⟩ (.int .i64 rp) = w9 := ⟨_, rfl⟩
        rw [hw9]
        have D9 : Hid (RD w w9 b A n c q ⟨x1, s2, rp, (1 + y4), s5, false⟩) := by show RD _ _ _ _ _ _ _ _; rw [← hw9]; exact DP.out.set HC.out 2 (.int .i64 rp) ⟨x1, s2, rp, (1 + y4), s5, false⟩ rfl DP.out.sm
        clear hw9 c0 c1 c2 c3 c4 c5 k0 k1 k2 k3 k4 k5 lqp DP
        obtain ⟨⟨c0, c1, c2, c3, c4, c5⟩, _⟩ := sixR D9.out.var
        obtain ⟨⟨n0, n1, n2, n3, n4, n5⟩, f0, f1, f2, f3, f4, f5⟩ := sixR D9.out.d.res
        have lq := (Array.getElem?_eq_some_iff.1 D9.out.var).1
        have l0 := (Array.getElem?_eq_some_iff.1 D9.out.d.res).1
        have P9 := Seg.hid (D9.out.put HC.out)
        have AN : Hid (An w b A n c (.returned (.agg (rrow ⟨x1, s2, rp, (1 + y4), s5, false⟩))) _) := ⟨⟨⟨x1, s2, rp, (1 + y4), s5, false⟩, rfl, D9.out.sm⟩, P9.out.2⟩
        go_wp2_with fail
        exact bodyPost_ret (v := .agg (rrow ⟨x1, s2, rp, (1 + y4), s5, false⟩)) (results_cell_row rfl _ _ w.heap.size _ (rrow ⟨x1, s2, rp, (1 + y4), s5, false⟩) _ _ rfl P9.out.1 Try.underlying30 rfl info6) rfl AN.out
      · skip
        have lqd := (Array.getElem?_eq_some_iff.1 D8.out.var).1
        go_wp2_with fail
        refine (pick_new [0, 3] D8.out.d.lft.cur (by decide) (by decide) _ rfl).mono ?_
        rintro e wp ⟨⟨rp, rfl⟩, Lp⟩
        have DP := Seg.hid (D8.out.next hb Lp)
        clear Lp D8 lqd
        obtain ⟨⟨c0, c1, c2, c3, c4, c5⟩, k0, k1, k2, k3, k4, k5⟩ := sixR DP.out.var
        have lqp := (Array.getElem?_eq_some_iff.1 DP.out.var).1
        go_upto_region 13 with fail
        obtain ⟨w9, hw9⟩ : ∃ w9, wp.setCell ⟨q, 3, none⟩ (.int .i64 rp) = w9 := ⟨_, rfl⟩
        rw [hw9]
        have D9 : Hid (RD w w9 b A n c q ⟨x1, s2, (1 + y3), rp, s5, false⟩) := by show RD _ _ _ _ _ _ _ _; rw [← hw9]; exact DP.out.set HC.out 3 (.int .i64 rp) ⟨x1, s2, (1 + y3), rp, s5, false⟩ rfl DP.out.sm
        clear hw9 c0 c1 c2 c3 c4 c5 k0 k1 k2 k3 k4 k5 lqp DP
        obtain ⟨⟨c0, c1, c2, c3, c4, c5⟩, _⟩ := sixR D9.out.var
        obtain ⟨⟨n0, n1, n2, n3, n4, n5⟩, f0, f1, f2, f3, f4, f5⟩ := sixR D9.out.d.res
        have lq := (Array.getElem?_eq_some_iff.1 D9.out.var).1
        have l0 := (Array.getElem?_eq_some_iff.1 D9.out.d.res).1
        have P9 := Seg.hid (D9.out.put HC.out)
        have AN : Hid (An w b A n c (.returned (.agg (rrow ⟨x1, s2, (1 + y3), rp, s5, false⟩))) _) := ⟨⟨⟨x1, s2, (1 + y3), rp, s5, false⟩, rfl, D9.out.sm⟩, P9.out.2⟩
        go_wp2_with fail
        exact bodyPost_ret (v := .agg (rrow ⟨x1, s2, (1 + y3), rp, s5, false⟩)) (results_cell_row rfl _ _ w.heap.size _ (rrow ⟨x1, s2, (1 + y3), rp, s5, false⟩) _ _ rfl P9.out.1 Try.underlying30 rfl info6) rfl AN.out
      · have q0 : (y == 0) = false := by rw [beq_eq_false_iff_ne]; omega
        have q1 : (y == 1) = false := by rw [beq_eq_false_iff_ne]; omega
        have q2 : (y == 2) = false := by rw [beq_eq_false_iff_ne]; omega
        have lqd := (Array.getElem?_eq_some_iff.1 D8.out.var).1
        go_wp2_with fail
        refine (pickS_new [⟨#[]⟩, ⟨#[57]⟩, ⟨#[97, 32, 98]⟩, ⟨#[120, 42]⟩] D8.out.d.lft.cur (by decide) (by decide) (by decide) _ rfl).mono ?_
        rintro e wp ⟨⟨sp, zp, rfl⟩, Lp⟩
        have DP := Seg.hid (D8.out.next hb Lp)
        clear Lp D8 lqd
        obtain ⟨⟨c0, c1, c2, c3, c4, c5⟩, k0, k1, k2, k3, k4, k5⟩ := sixR DP.out.var
        have lqp := (Array.getElem?_eq_some_iff.1 DP.out.var).1
        go_upto_region 13 with fail
        obtain ⟨w9, hw9⟩ : ∃ w9, wp.setCell ⟨q, 4, none⟩ (.string sp) = w9 := ⟨_, rfl⟩
        rw [hw9]
        have D9 : Hid (RD w w9 b A n c q ⟨x1, s2, (1 + y3), (1 + y4), sp, false⟩) := by show RD _ _ _ _ _ _ _ _; rw [← hw9]; exact DP.out.set HC.out 4 (.string sp) ⟨x1, s2, (1 + y3), (1 + y4), sp, false⟩ rfl ⟨DP.out.sm.1, zp⟩
        clear hw9 c0 c1 c2 c3 c4 c5 k0 k1 k2 k3 k4 k5 lqp DP
        obtain ⟨⟨c0, c1, c2, c3, c4, c5⟩, _⟩ := sixR D9.out.var
        obtain ⟨⟨n0, n1, n2, n3, n4, n5⟩, f0, f1, f2, f3, f4, f5⟩ := sixR D9.out.d.res
        have lq := (Array.getElem?_eq_some_iff.1 D9.out.var).1
        have l0 := (Array.getElem?_eq_some_iff.1 D9.out.d.res).1
        have P9 := Seg.hid (D9.out.put HC.out)
        have AN : Hid (An w b A n c (.returned (.agg (rrow ⟨x1, s2, (1 + y3), (1 + y4), sp, false⟩))) _) := ⟨⟨⟨x1, s2, (1 + y3), (1 + y4), sp, false⟩, rfl, D9.out.sm⟩, P9.out.2⟩
        go_wp2_with fail
        exact bodyPost_ret (v := .agg (rrow ⟨x1, s2, (1 + y3), (1 + y4), sp, false⟩)) (results_cell_row rfl _ _ w.heap.size _ (rrow ⟨x1, s2, (1 + y3), (1 + y4), sp, false⟩) _ _ rfl P9.out.1 Try.underlying30 rfl info6) rfl AN.out
  | true =>
  go_wp2_with fail
  refine (Draw.once_any b A n c 3 w7 D7.out.d.lft.cur (by decide) (by decide)).mono ?_
  rintro e wy ⟨⟨xy, rfl⟩, Ly⟩
  have DY := Seg.hid (D7.out.next hb Ly)
  clear Ly D7 c0 c1 c2 c3 c4 c5 k0 k1 k2 k3 k4 k5 lq7
  obtain ⟨⟨c0, c1, c2, c3, c4, c5⟩, k0, k1, k2, k3, k4, k5⟩ := sixR DY.out.var
  have lqy := (Array.getElem?_eq_some_iff.1 DY.out.var).1
  cases xy with
  | false =>
    have D7 := DY
    clear DY
    go_upto_region 4 with fail
    clear c0 c1 c2 c3 c4 c5 k0 k1 k2 k3 k4 k5 lqy
    go_wp2_with fail
    refine (Draw.once_any b A n c 25 _ D7.out.d.lft.cur (by decide) (by decide)).mono ?_
    rintro e w8 ⟨⟨x8, rfl⟩, L8⟩
    have D8 := Seg.hid (D7.out.next hb L8)
    clear L8 D7
    cases x8 with
    | false =>
      have D9 := D8
      clear D8
      obtain ⟨⟨c0, c1, c2, c3, c4, c5⟩, _⟩ := sixR D9.out.var
      obtain ⟨⟨n0, n1, n2, n3, n4, n5⟩, f0, f1, f2, f3, f4, f5⟩ := sixR D9.out.d.res
      have lq := (Array.getElem?_eq_some_iff.1 D9.out.var).1
      have l0 := (Array.getElem?_eq_some_iff.1 D9.out.d.res).1
      have P9 := Seg.hid (D9.out.put HC.out)
      have AN : Hid (An w b A n c (.returned (.agg (rrow ⟨x1, s2, (1 + y3), (1 + y4), s5, true⟩))) _) := ⟨⟨⟨x1, s2, (1 + y3), (1 + y4), s5, true⟩, rfl, D9.out.sm⟩, P9.out.2⟩
      go_wp2_with fail
      exact bodyPost_ret (v := .agg (rrow ⟨x1, s2, (1 + y3), (1 + y4), s5, true⟩)) (results_cell_row rfl _ _ w.heap.size _ (rrow ⟨x1, s2, (1 + y3), (1 + y4), s5, true⟩) _ _ rfl P9.out.1 Try.underlying30 rfl info6) rfl AN.out
    | true =>
      go_wp2_with fail
      refine (Draw.below_any b A n c 5 w8 D8.out.d.lft.cur (by decide) (by decide)).mono ?_
      rintro e wc ⟨⟨y, y0, y1, rfl⟩, Lc⟩
      have DX := Seg.hid (D8.out.next hb Lc)
      clear Lc D8
      have D8 := DX
      clear DX
      have hy : y = 0 ∨ y = 1 ∨ y = 2 ∨ 3 ≤ y := by omega
      rcases hy with rfl | rfl | rfl | hy
      · skip
        have lqd := (Array.getElem?_eq_some_iff.1 D8.out.var).1
        go_wp2_with fail
        refine (pickS_new [⟨#[]⟩, ⟨#[57]⟩, ⟨#[42, 42]⟩] D8.out.d.lft.cur (by decide) (by decide) (by decide) _ rfl).mono ?_
        rintro e wp ⟨⟨sp, zp, rfl⟩, Lp⟩
        have DP := Seg.hid (D8.out.next hb Lp)
        clear Lp D8 lqd
        obtain ⟨⟨c0, c1, c2, c3, c4, c5⟩, k0, k1, k2, k3, k4, k5⟩ := sixR DP.out.var
        have lqp := (Array.getElem?_eq_some_iff.1 DP.out.var).1
        go_upto_region 13 with fail
        obtain ⟨w9, hw9⟩ : ∃ w9, wp.setCell ⟨q, 1, none⟩ (.string sp) = w9 := ⟨_, rfl⟩
        rw [hw9]
        have D9 : Hid (RD w w9 b A n c q ⟨x1, sp, (1 + y3), (1 + y4), s5, true⟩) := by show RD _ _ _ _ _ _ _ _; rw [← hw9]; exact DP.out.set HC.out 1 (.string sp) ⟨x1, sp, (1 + y3), (1 + y4), s5, true⟩ rfl ⟨zp, DP.out.sm.2⟩
        clear hw9 c0 c1 c2 c3 c4 c5 k0 k1 k2 k3 k4 k5 lqp DP
        obtain ⟨⟨c0, c1, c2, c3, c4, c5⟩, _⟩ := sixR D9.out.var
        obtain ⟨⟨n0, n1, n2, n3, n4, n5⟩, f0, f1, f2, f3, f4, f5⟩ := sixR D9.out.d.res
        have lq := (Array.getElem?_eq_some_iff.1 D9.out.var).1
        have l0 := (Array.getElem?_eq_some_iff.1 D9.out.d.res).1
        have P9 := Seg.hid (D9.out.put HC.out)
        have AN : Hid (An w b A n c (.returned (.agg (rrow ⟨x1, sp, (1 + y3), (1 + y4), s5, true⟩))) _) := ⟨⟨⟨x1, sp, (1 + y3), (1 + y4), s5, true⟩, rfl, D9.out.sm⟩, P9.out.2⟩
        go_wp2_with fail
        exact bodyPost_ret (v := .agg (rrow ⟨x1, sp, (1 + y3), (1 + y4), s5, true⟩)) (results_cell_row rfl _ _ w.heap.size _ (rrow ⟨x1, sp, (1 + y3), (1 + y4), s5, true⟩) _ _ rfl P9.out.1 Try.underlying30 rfl info6) rfl AN.out
      · skip
        have lqd := (Array.getElem?_eq_some_iff.1 D8.out.var).1
        go_wp2_with fail
        refine (pick_new [0, 5] D8.out.d.lft.cur (by decide) (by decide) _ rfl).mono ?_
        rintro e wp ⟨⟨rp, rfl⟩, Lp⟩
        have DP := Seg.hid (D8.out.next hb Lp)
        clear Lp D8 lqd
        obtain ⟨⟨c0, c1, c2, c3, c4, c5⟩, k0, k1, k2, k3, k4, k5⟩ := sixR DP.out.var
        have lqp := (Array.getElem?_eq_some_iff.1 DP.out.var).1
        go_upto_region 13 with fail
        obtain ⟨w9, hw9⟩ : ∃ w9, wp.setCell ⟨q, 2, none⟩ (.int .i64 rp) = w9 := ⟨_, rfl⟩
        rw [hw9]
        have D9 : Hid (RD w w9 b A n c q ⟨x1, s2, rp, (1 + y4), s5, true⟩) := by show RD _ _ _ _ _ _ _ _; rw [← hw9]; exact DP.out.set HC.out 2 (.int .i64 rp) ⟨x1, s2, rp, (1 + y4), s5, true⟩ rfl DP.out.sm
        clear hw9 c0 c1 c2 c3 c4 c5 k0 k1 k2 k3 k4 k5 lqp DP
        obtain ⟨⟨c0, c1, c2, c3, c4, c5⟩, _⟩ := sixR D9.out.var
        obtain ⟨⟨n0, n1, n2, n3, n4, n5⟩, f0, f1, f2, f3, f4, f5⟩ := sixR D9.out.d.res
        have lq := (Array.getElem?_eq_some_iff.1 D9.out.var).1
        have l0 := (Array.getElem?_eq_some_iff.1 D9.out.d.res).1
        have P9 := Seg.hid (D9.out.put HC.out)
        have AN : Hid (An w b A n c (.returned (.agg (rrow ⟨x1, s2, rp, (1 + y4), s5, true⟩))) _) := ⟨⟨⟨x1, s2, rp, (1 + y4), s5, true⟩, rfl, D9.out.sm⟩, P9.out.2⟩
        go_wp2_with fail
        exact bodyPost_ret (v := .agg (rrow ⟨x1, s2, rp, (1 + y4), s5, true⟩)) (results_cell_row rfl _ _ w.heap.size _ (rrow ⟨x1, s2, rp, (1 + y4), s5, true⟩) _ _ rfl P9.out.1 Try.underlying30 rfl info6) rfl AN.out
      · skip
        have lqd := (Array.getElem?_eq_some_iff.1 D8.out.var).1
        go_wp2_with fail
        refine (pick_new [0, 3] D8.out.d.lft.cur (by decide) (by decide) _ rfl).mono ?_
        rintro e wp ⟨⟨rp, rfl⟩, Lp⟩
        have DP := Seg.hid (D8.out.next hb Lp)
        clear Lp D8 lqd
        obtain ⟨⟨c0, c1, c2, c3, c4, c5⟩, k0, k1, k2, k3, k4, k5⟩ := sixR DP.out.var
        have lqp := (Array.getElem?_eq_some_iff.1 DP.out.var).1
        go_upto_region 13 with fail
        obtain ⟨w9, hw9⟩ : ∃ w9, wp.setCell ⟨q, 3, none⟩ (.int .i64 rp) = w9 := ⟨_, rfl⟩
        rw [hw9]
        have D9 : Hid (RD w w9 b A n c q ⟨x1, s2, (1 + y3), rp, s5, true⟩) := by show RD _ _ _ _ _ _ _ _; rw [← hw9]; exact DP.out.set HC.out 3 (.int .i64 rp) ⟨x1, s2, (1 + y3), rp, s5, true⟩ rfl DP.out.sm
        clear hw9 c0 c1 c2 c3 c4 c5 k0 k1 k2 k3 k4 k5 lqp DP
        obtain ⟨⟨c0, c1, c2, c3, c4, c5⟩, _⟩ := sixR D9.out.var
        obtain ⟨⟨n0, n1, n2, n3, n4, n5⟩, f0, f1, f2, f3, f4, f5⟩ := sixR D9.out.d.res
        have lq := (Array.getElem?_eq_some_iff.1 D9.out.var).1
        have l0 := (Array.getElem?_eq_some_iff.1 D9.out.d.res).1
        have P9 := Seg.hid (D9.out.put HC.out)
        have AN : Hid (An w b A n c (.returned (.agg (rrow ⟨x1, s2, (1 + y3), rp, s5, true⟩))) _) := ⟨⟨⟨x1, s2, (1 + y3), rp, s5, true⟩, rfl, D9.out.sm⟩, P9.out.2⟩
        go_wp2_with fail
        exact bodyPost_ret (v := .agg (rrow ⟨x1, s2, (1 + y3), rp, s5, true⟩)) (results_cell_row rfl _ _ w.heap.size _ (rrow ⟨x1, s2, (1 + y3), rp, s5, true⟩) _ _ rfl P9.out.1 Try.underlying30 rfl info6) rfl AN.out
      · have q0 : (y == 0) = false := by rw [beq_eq_false_iff_ne]; omega
        have q1 : (y == 1) = false := by rw [beq_eq_false_iff_ne]; omega
        have q2 : (y == 2) = false := by rw [beq_eq_false_iff_ne]; omega
        have lqd := (Array.getElem?_eq_some_iff.1 D8.out.var).1
        go_wp2_with fail
        refine (pickS_new [⟨#[]⟩, ⟨#[57]⟩, ⟨#[97, 32, 98]⟩, ⟨#[120, 42]⟩] D8.out.d.lft.cur (by decide) (by decide) (by decide) _ rfl).mono ?_
        rintro e wp ⟨⟨sp, zp, rfl⟩, Lp⟩
        have DP := Seg.hid (D8.out.next hb Lp)
        clear Lp D8 lqd
        obtain ⟨⟨c0, c1, c2, c3, c4, c5⟩, k0, k1, k2, k3, k4, k5⟩ := sixR DP.out.var
        have lqp := (Array.getElem?_eq_some_iff.1 DP.out.var).1
        go_upto_region 13 with fail
        obtain ⟨w9, hw9⟩ : ∃ w9, wp.setCell ⟨q, 4, none⟩ (.string sp) = w9 := ⟨_, rfl⟩
        rw [hw9]
        have D9 : Hid (RD w w9 b A n c q ⟨x1, s2, (1 + y3), (1 + y4), sp, true⟩) := by show RD _ _ _ _ _ _ _ _; rw [← hw9]; exact DP.out.set HC.out 4 (.string sp) ⟨x1, s2, (1 + y3), (1 + y4), sp, true⟩ rfl ⟨DP.out.sm.1, zp⟩
        clear hw9 c0 c1 c2 c3 c4 c5 k0 k1 k2 k3 k4 k5 lqp DP
        obtain ⟨⟨c0, c1, c2, c3, c4, c5⟩, _⟩ := sixR D9.out.var
        obtain ⟨⟨n0, n1, n2, n3, n4, n5⟩, f0, f1, f2, f3, f4, f5⟩ := sixR D9.out.d.res
        have lq := (Array.getElem?_eq_some_iff.1 D9.out.var).1
        have l0 := (Array.getElem?_eq_some_iff.1 D9.out.d.res).1
        have P9 := Seg.hid (D9.out.put HC.out)
        have AN : Hid (An w b A n c (.returned (.agg (rrow ⟨x1, s2, (1 + y3), (1 + y4), sp, true⟩))) _) := ⟨⟨⟨x1, s2, (1 + y3), (1 + y4), sp, true⟩, rfl, D9.out.sm⟩, P9.out.2⟩
        go_wp2_with fail
        exact bodyPost_ret (v := .agg (rrow ⟨x1, s2, (1 + y3), (1 + y4), sp, true⟩)) (results_cell_row rfl _ _ w.heap.size _ (rrow ⟨x1, s2, (1 + y3), (1 + y4), sp, true⟩) _ _ rfl P9.out.1 Try.underlying30 rfl info6) rfl AN.out
  | true =>
    go_upto_region 4 with fail
    obtain ⟨wz, hwz⟩ : ∃ wz, wy.setCell ⟨q, 4, none⟩ (.string ⟨#[]⟩) = wz := ⟨_, rfl⟩
    rw [hwz]
    have D7 : Hid (RD w wz b A n c q ⟨x1, s2, 1 + y3, 1 + y4, ⟨#[]⟩, true⟩) := by show RD _ _ _ _ _ _ _ _; rw [← hwz]; exact DY.out.set HC.out 4 (.string ⟨#[]⟩) ⟨x1, s2, 1 + y3, 1 + y4, ⟨#[]⟩, true⟩ rfl ⟨z2, Nat.zero_le _⟩
    clear hwz DY c0 c1 c2 c3 c4 c5 k0 k1 k2 k3 k4 k5 lqy
    go_wp2_with fail
    refine (Draw.once_any b A n c 25 _ D7.out.d.lft.cur (by decide) (by decide)).mono ?_
    rintro e w8 ⟨⟨x8, rfl⟩, L8⟩
    have D8 := Seg.hid (D7.out.next hb L8)
    clear L8 D7
    cases x8 with
    | false =>
      have D9 := D8
      clear D8
      obtain ⟨⟨c0, c1, c2, c3, c4, c5⟩, _⟩ := sixR D9.out.var
      obtain ⟨⟨n0, n1, n2, n3, n4, n5⟩, f0, f1, f2, f3, f4, f5⟩ := sixR D9.out.d.res
      have lq := (Array.getElem?_eq_some_iff.1 D9.out.var).1
      have l0 := (Array.getElem?_eq_some_iff.1 D9.out.d.res).1
      have P9 := Seg.hid (D9.out.put HC.out)
      have AN : Hid (An w b A n c (.returned (.agg (rrow ⟨x1, s2, (1 + y3), (1 + y4), ⟨#[]⟩, true⟩))) _) := ⟨⟨⟨x1, s2, (1 + y3), (1 + y4), ⟨#[]⟩, true⟩, rfl, D9.out.sm⟩, P9.out.2⟩
      go_wp2_with fail
      exact bodyPost_ret (v := .agg (rrow ⟨x1, s2, (1 + y3), (1 + y4), ⟨#[]⟩, true⟩)) (results_cell_row rfl _ _ w.heap.size _ (rrow ⟨x1, s2, (1 + y3), (1 + y4), ⟨#[]⟩, true⟩) _ _ rfl P9.out.1 Try.underlying30 rfl info6) rfl AN.out
    | true =>
      go_wp2_with fail
      refine (Draw.below_any b A n c 5 w8 D8.out.d.lft.cur (by decide) (by decide)).mono ?_
      rintro e wc ⟨⟨y, y0, y1, rfl⟩, Lc⟩
      have DX := Seg.hid (D8.out.next hb Lc)
      clear Lc D8
      have D8 := DX
      clear DX
      have hy : y = 0 ∨ y = 1 ∨ y = 2 ∨ 3 ≤ y := by omega
      rcases hy with rfl | rfl | rfl | hy
      · skip
        have lqd := (Array.getElem?_eq_some_iff.1 D8.out.var).1
        go_wp2_with fail
        refine (pickS_new [⟨#[]⟩, ⟨#[57]⟩, ⟨#[42, 42]⟩] D8.out.d.lft.cur (by decide) (by decide) (by decide) _ rfl).mono ?_
        rintro e wp ⟨⟨sp, zp, rfl⟩, Lp⟩
        have DP := Seg.hid (D8.out.next hb Lp)
        clear Lp D8 lqd
        obtain ⟨⟨c0, c1, c2, c3, c4, c5⟩, k0, k1, k2, k3, k4, k5⟩ := sixR DP.out.var
        have lqp := (Array.getElem?_eq_some_iff.1 DP.out.var).1
        go_upto_region 13 with fail
        obtain ⟨w9, hw9⟩ : ∃ w9, wp.setCell ⟨q, 1, none⟩ (.string sp) = w9 := ⟨_, rfl⟩
        rw [hw9]
        have D9 : Hid (RD w w9 b A n c q ⟨x1, sp, (1 + y3), (1 + y4), ⟨#[]⟩, true⟩) := by show RD _ _ _ _ _ _ _ _; rw [← hw9]; exact DP.out.set HC.out 1 (.string sp) ⟨x1, sp, (1 + y3), (1 + y4), ⟨#[]⟩, true⟩ rfl ⟨zp, DP.out.sm.2⟩
        clear hw9 c0 c1 c2 c3 c4 c5 k0 k1 k2 k3 k4 k5 lqp DP
        obtain ⟨⟨c0, c1, c2, c3, c4, c5⟩, _⟩ := sixR D9.out.var
        obtain ⟨⟨n0, n1, n2, n3, n4, n5⟩, f0, f1, f2, f3, f4, f5⟩ := sixR D9.out.d.res
        have lq := (Array.getElem?_eq_some_iff.1 D9.out.var).1
        have l0 := (Array.getElem?_eq_some_iff.1 D9.out.d.res).1
        have P9 := Seg.hid (D9.out.put HC.out)
        have AN : Hid (An w b A n c (.returned (.agg (rrow ⟨x1, sp, (1 + y3), (1 + y4), ⟨#[]⟩, true⟩))) _) := ⟨⟨⟨x1, sp, (1 + y3), (1 + y4), ⟨#[]⟩, true⟩, rfl, D9.out.sm⟩, P9.out.2⟩
        go_wp2_with fail
        exact bodyPost_ret (v := .agg (rrow ⟨x1, sp, (1 + y3), (1 + y4), ⟨#[]⟩, true⟩)) (results_cell_row rfl _ _ w.heap.size _ (rrow ⟨x1, sp, (1 + y3), (1 + y4), ⟨#[]⟩, true⟩) _ _ rfl P9.out.1 Try.underlying30 rfl info6) rfl AN.out
      · skip
        have lqd := (Array.getElem?_eq_some_iff.1 D8.out.var).1
        go_wp2_with fail
        refine (pick_new [0, 5] D8.out.d.lft.cur (by decide) (by decide) _ rfl).mono ?_
        rintro e wp ⟨⟨rp, rfl⟩, Lp⟩
        have DP := Seg.hid (D8.out.next hb Lp)
        clear Lp D8 lqd
        obtain ⟨⟨c0, c1, c2, c3, c4, c5⟩, k0, k1, k2, k3, k4, k5⟩ := sixR DP.out.var
        have lqp := (Array.getElem?_eq_some_iff.1 DP.out.var).1
        go_upto_region 13 with fail
        obtain ⟨w9, hw9⟩ : ∃ w9, wp.setCell ⟨q, 2, none⟩ (.int .i64 rp) = w9 := ⟨_, rfl⟩
        rw [hw9]
        have D9 : Hid (RD w w9 b A n c q ⟨x1, s2, rp, (1 + y4), ⟨#[]⟩, true⟩) := by show RD _ _ _ _ _ _ _ _; rw [← hw9]; exact DP.out.set HC.out 2 (.int .i64 rp) ⟨x1, s2, rp, (1 + y4), ⟨#[]⟩, true⟩ rfl DP.out.sm
        clear hw9 c0 c1 c2 c3 c4 c5 k0 k1 k2 k3 k4 k5 lqp DP
        obtain ⟨⟨c0, c1, c2, c3, c4, c5⟩, _⟩ := sixR D9.out.var
        obtain ⟨⟨n0, n1, n2, n3, n4, n5⟩, f0, f1, f2, f3, f4, f5⟩ := sixR D9.out.d.res
        have lq := (Array.getElem?_eq_some_iff.1 D9.out.var).1
        have l0 := (Array.getElem?_eq_some_iff.1 D9.out.d.res).1
        have P9 := Seg.hid (D9.out.put HC.out)
        have AN : Hid (An w b A n c (.returned (.agg (rrow ⟨x1, s2, rp, (1 + y4), ⟨#[]⟩, true⟩))) _) := ⟨⟨⟨x1, s2, rp, (1 + y4), ⟨#[]⟩, true⟩, rfl, D9.out.sm⟩, P9.out.2⟩
        go_wp2_with fail
        exact bodyPost_ret (v := .agg (rrow ⟨x1, s2, rp, (1 + y4), ⟨#[]⟩, true⟩)) (results_cell_row rfl _ _ w.heap.size _ (rrow ⟨x1, s2, rp, (1 + y4), ⟨#[]⟩, true⟩) _ _ rfl P9.out.1 Try.underlying30 rfl info6) rfl AN.out
      · skip
        have lqd := (Array.getElem?_eq_some_iff.1 D8.out.var).1
        go_wp2_with fail
        refine (pick_new [0, 3] D8.out.d.lft.cur (by decide) (by decide) _ rfl).mono ?_
        rintro e wp ⟨⟨rp, rfl⟩, Lp⟩
        have DP := Seg.hid (D8.out.next hb Lp)
        clear Lp D8 lqd
        obtain ⟨⟨c0, c1, c2, c3, c4, c5⟩, k0, k1, k2, k3, k4, k5⟩ := sixR DP.out.var
        have lqp := (Array.getElem?_eq_some_iff.1 DP.out.var).1
        go_upto_region 13 with fail
        obtain ⟨w9, hw9⟩ : ∃ w9, wp.setCell ⟨q, 3, none⟩ (.int .i64 rp) = w9 := ⟨_, rfl⟩
        rw [hw9]
        have D9 : Hid (RD w w9 b A n c q ⟨x1, s2, (1 + y3), rp, ⟨#[]⟩, true⟩) := by show RD _ _ _ _ _ _ _ _; rw [← hw9]; exact DP.out.set HC.out 3 (.int .i64 rp) ⟨x1, s2, (1 + y3), rp, ⟨#[]⟩, true⟩ rfl DP.out.sm
        clear hw9 c0 c1 c2 c3 c4 c5 k0 k1 k2 k3 k4 k5 lqp DP
        obtain ⟨⟨c0, c1, c2, c3, c4, c5⟩, _⟩ := sixR D9.out.var
        obtain ⟨⟨n0, n1, n2, n3, n4, n5⟩, f0, f1, f2, f3, f4, f5⟩ := sixR D9.out.d.res
        have lq := (Array.getElem?_eq_some_iff.1 D9.out.var).1
        have l0 := (Array.getElem?_eq_some_iff.1 D9.out.d.res).1
        have P9 := Seg.hid (D9.out.put HC.out)
        have AN : Hid (An w b A n c (.returned (.agg (rrow ⟨x1, s2, (1 + y3), rp, ⟨#[]⟩, true⟩))) _) := ⟨⟨⟨x1, s2, (1 + y3), rp, ⟨#[]⟩, true⟩, rfl, D9.out.sm⟩, P9.out.2⟩
        go_wp2_with fail
        exact bodyPost_ret (v := .agg (rrow ⟨x1, s2, (1 + y3), rp, ⟨#[]⟩, true⟩)) (results_cell_row rfl _ _ w.heap.size _ (rrow ⟨x1, s2, (1 + y3), rp, ⟨#[]⟩, true⟩) _ _ rfl P9.out.1 Try.underlying30 rfl info6) rfl AN.out
      · have q0 : (y == 0) = false := by rw [beq_eq_false_iff_ne]; omega
        have q1 : (y == 1) = false := by rw [beq_eq_false_iff_ne]; omega
        have q2 : (y == 2) = false := by rw [beq_eq_false_iff_ne]; omega
        have lqd := (Array.getElem?_eq_some_iff.1 D8.out.var).1
        go_wp2_with fail
        refine (pickS_new [⟨#[]⟩, ⟨#[57]⟩, ⟨#[97, 32, 98]⟩, ⟨#[120, 42]⟩] D8.out.d.lft.cur (by decide) (by decide) (by decide) _ rfl).mono ?_
        rintro e wp ⟨⟨sp, zp, rfl⟩, Lp⟩
        have DP := Seg.hid (D8.out.next hb Lp)
        clear Lp D8 lqd
        obtain ⟨⟨c0, c1, c2, c3, c4, c5⟩, k0, k1, k2, k3, k4, k5⟩ := sixR DP.out.var
        have lqp := (Array.getElem?_eq_some_iff.1 DP.out.var).1
        go_upto_region 13 with fail
        obtain ⟨w9, hw9⟩ : ∃ w9, wp.setCell ⟨q, 4, none⟩ (.string sp) = w9 := ⟨_, rfl⟩
        rw [hw9]
        have D9 : Hid (RD w w9 b A n c q ⟨x1, s2, (1 + y3), (1 + y4), sp, true⟩) := by show RD _ _ _ _ _ _ _ _; rw [← hw9]; exact DP.out.set HC.out 4 (.string sp) ⟨x1, s2, (1 + y3), (1 + y4), sp, true⟩ rfl ⟨DP.out.sm.1, zp⟩
        clear hw9 c0 c1 c2 c3 c4 c5 k0 k1 k2 k3 k4 k5 lqp DP
        obtain ⟨⟨c0, c1, c2, c3, c4, c5⟩, _⟩ := sixR D9.out.var
        obtain ⟨⟨n0, n1, n2, n3, n4, n5⟩, f0, f1, f2, f3, f4, f5⟩ := sixR D9.out.d.res
        have lq := (Array.getElem?_eq_some_iff.1 D9.out.var).1
        have l0 := (Array.getElem?_eq_some_iff.1 D9.out.d.res).1
        have P9 := Seg.hid (D9.out.put HC.out)
        have AN : Hid (An w b A n c (.returned (.agg (rrow ⟨x1, s2, (1 + y3), (1 + y4), sp, true⟩))) _) := ⟨⟨⟨x1, s2, (1 + y3), (1 + y4), sp, true⟩, rfl, D9.out.sm⟩, P9.out.2⟩
        go_wp2_with fail
        exact bodyPost_ret (v := .agg (rrow ⟨x1, s2, (1 + y3), (1 + y4), sp, true⟩)) (results_cell_row rfl _ _ w.heap.size _ (rrow ⟨x1, s2, (1 + y3), (1 + y4), sp, true⟩) _ _ rfl P9.out.1 Try.underlying30 rfl info6) rfl AN.out
end Go.Proofs.Ytoaobifhiddpkaa.DrRu
