/- A Bucket, a time and units, drawn. -/
import Derived.Test.YtmkkdladgoilmaaDrawP
import Derived.Test.YtmkkdladgoilmaaDrawB
import Derived.Test.YtmkkdladgoilmaaChI
namespace Go.Proofs.Ytmkkdladgoilmaa.DrCh
set_option maxRecDepth 8000
open Go.RowKit
open Ls Lp ChP
open ChI (bag brow zrow fourB)
open Draw (Cur Lft Bytes)
open Recs (hsz below1 below2 chain)
set_option linter.unusedVariables false
/-- The cursor and the answer's block. -/
structure D0 (w wr : World) (A : Option Addr) (n c : Nat) : Prop where
  cur : Cur wr (w.heap.size + 1) A n c
  res : wr.heap[w.heap.size]? = some (.cells zrow 25 (0, 0))
  bel : Below w.heap.size w wr
/-- And the Bucket's. -/
structure DC (w wr : World) (A : Option Addr) (n c q : Nat) (B : Bkt) : Prop where
  d : D0 w wr A n c
  var : wr.heap[q]? = some (.cells (brow B) 25 (0, 0))
  hq : w.heap.size + 1 < q
theorem D0.next {w wr w' : World} {A : Option Addr} {n c : Nat} (h : D0 w wr A n c) (l : Lft wr w' (w.heap.size + 1) A n c) : D0 w w' A n c :=
  ⟨l.cur, (l.grown.block _ (by have := h.cur.lt; omega) (by simp)).trans h.res, ⟨l.grown.os.trans h.bel.os, l.grown.tape.trans h.bel.tape, l.grown.output.trans h.bel.output, Nat.le_trans h.bel.size l.grown.size, fun k hk => (l.grown.block k (by have := h.bel.size; omega) (by simp; omega)).trans (h.bel.block k hk)⟩⟩
theorem D0.alloc {w wr : World} {A : Option Addr} {n c : Nat} (h : D0 w wr A n c) (o : Obj) : D0 w (wr.alloc o) A n c := h.next ⟨h.cur.alloc o, World.grownBy_alloc _ _ _⟩
theorem DC.next {w wr w' : World} {A : Option Addr} {n c q : Nat} {B : Bkt} (h : DC w wr A n c q B) (l : Lft wr w' (w.heap.size + 1) A n c) : DC w w' A n c q B :=
  ⟨h.d.next l, (l.grown.block _ (Array.getElem?_eq_some_iff.1 h.var).1 (by have := h.hq; simp; omega)).trans h.var, h.hq⟩
theorem DC.alloc {w wr : World} {A : Option Addr} {n c q : Nat} {B : Bkt} (h : DC w wr A n c q B) (o : Obj) : DC w (wr.alloc o) A n c q B := h.next ⟨h.d.cur.alloc o, World.grownBy_alloc _ _ _⟩
theorem DC.drew {w wr : World} {A : Option Addr} {n c q : Nat} {B : Bkt} (h : DC w wr A n c q B) : DC w wr.drew A n c q B := ⟨⟨h.d.cur.drew, h.d.res, h.d.bel.drew⟩, h.var, h.hq⟩
theorem cur_set {w : World} {b q j : Nat} {A : Option Addr} {n c : Nat} (h : Cur w b A n c) (hq : q ≠ b) (hv : q < w.heap.size) (hB : ∀ g o, A = some ⟨g, o, none⟩ → n = 0 ∨ g ≠ q) (v : Value) : Cur (w.setCell ⟨q, j, none⟩ v) b A n c := by
  have e : (w.setCell ⟨q, j, none⟩ v).heap[b]? = w.heap[b]? := heap_setCell_other _ _ _ _ (by show b ≠ q; omega)
  obtain ⟨i, hi, hci⟩ := h.i
  obtain ⟨x, hx⟩ := h.h
  refine ⟨by simpa using h.lt, h.le, ?_, ⟨i, hi, ?_⟩, ⟨x, ?_⟩, ?_, ?_, ?_⟩
  · rw [World.cell?_of_block (a := ⟨b, 0, none⟩) e]; exact h.s
  · rw [World.cell?_of_block (a := ⟨b, 1, none⟩) e]; exact hci
  · rw [World.cell?_of_block (a := ⟨b, 2, none⟩) e]; exact hx
  · rw [World.frozen?_of_block (a := ⟨b, 1, none⟩) e]; exact h.f1
  · rw [World.frozen?_of_block (a := ⟨b, 2, none⟩) e]; exact h.f2
  · rcases h.by_ with h0 | ⟨g, o, h1, h2, h3, h4, h5⟩
    · exact .inl h0
    · rcases hB g o h1 with h0 | h0
      · exact .inl h0
      · refine .inr ⟨g, o, h1, h2, by simpa using h3, h4, fun k hk => ?_⟩
        obtain ⟨y, hy, hcy⟩ := h5 k hk
        refine ⟨y, hy, ?_⟩
        rw [World.cell?_of_block (a := ⟨g, o + k, none⟩) (heap_setCell_other _ _ _ _ (by show g ≠ q; exact h0))]
        exact hcy
/-- The bytes lie below all that the draw makes. -/
def Low (w : World) (A : Option Addr) (n : Nat) : Prop := ∀ g o, A = some ⟨g, o, none⟩ → n = 0 ∨ g < w.heap.size
theorem DC.set {w wr : World} {A : Option Addr} {n c q : Nat} {B : Bkt} (h : DC w wr A n c q B) (hl : Low w A n) (j : Nat) (x : Int) (B' : Bkt) (hB : (brow B).setIfInBounds j (.int .i64 x) = brow B') : DC w (wr.setCell ⟨q, j, none⟩ (.int .i64 x)) A n c q B' := by
  have hq := h.hq
  have hlt := (Array.getElem?_eq_some_iff.1 h.var).1
  refine ⟨⟨cur_set h.d.cur (by omega) hlt (fun g o e => (hl g o e).imp id (by omega)) _, ?_, h.d.bel.setCell (by show w.heap.size ≤ q; omega) _⟩, ?_, hq⟩
  · rw [heap_setCell_other _ _ _ _ (by show w.heap.size ≠ q; omega)]; exact h.d.res
  · have := heap_setCell_same wr q j _ _ (.int .i64 x) h.var
    rw [hB] at this
    exact this
/-- What the draw answers. -/
structure An (w : World) (e : Ending) (w' : World) : Prop where
  ex : ∃ (B : Bkt) (x y : Int), e = .returned (.tuple #[bag B, .int .i64 x, .int .i64 y])
  bel : Below w.heap.size w w'
theorem DC.put {w wr : World} {A : Option Addr} {n c q : Nat} {B : Bkt} (h : DC w wr A n c q B) : (wr.setCells w.heap.size 0 (brow B).toList).heap[w.heap.size]? = some (.cells (brow B) 25 (0, 0)) ∧ Below w.heap.size w (wr.setCells w.heap.size 0 (brow B).toList) :=
  ⟨Cells.whole (vs := brow B) h.d.res rfl, Cells.below_setCells (Nat.le_refl _) _ _ _ _ h.d.bel⟩
/-- One of two or three numbers in a row just made. -/
theorem pick_new {w : World} {b : Nat} {A : Option Addr} {n c : Nat} (l : List Int) (hc : Cur w b A n c) (hl0 : 0 < l.length) (hl1 : l.length ≤ 1000) (cs : Array Value) (hcs : cs = (l.map (Value.int .i64)).toArray) :
    Calls Try.prog 14 #[.pointer (some ⟨b, 0, none⟩), .slice (some ⟨w.heap.size, 0, none⟩) l.length l.length] (w.alloc (.cells cs 3 (0, 0))) fun e w' => (∃ x : Int, e = .returned (.int .i64 x)) ∧ Lft w w' b A n c := by
  subst hcs
  refine (Draw.pickInt_any b A n c w.heap.size l.length (fun i => l.getD i 0) _ (hc.alloc _) hl0 hl1 (by rw [hsz]; omega) (by have := hc.lt; omega) (fun i hi => ?_)).mono ?_
  · rw [cell_of_row _ _ i _ _ (0, 0) (heap_alloc_new _ _)]
    simp [hi]
  · rintro e w' ⟨⟨i, _, rfl⟩, L⟩
    exact ⟨⟨_, rfl⟩, ⟨L.cur, (World.grownBy_alloc _ _ _).trans L.grown⟩⟩
set_option maxHeartbeats 6400000 in
theorem draw_any (A : Option Addr) (n c : Nat) (w : World) (hn : n ≤ 1048576) (hb : Bytes w w.heap.size A n c) :
    Calls Try.prog 6 #[.slice A n c] w fun e w' => An w e w' := by
  have LW : Hid (Low w A n) := fun g o e => by
    rcases hb with h0 | ⟨g', o', h1, _, h3, _⟩
    · exact .inl h0
    · rw [h1] at e; cases e; exact .inr h3
  have NB : Hid (∀ o1, Bytes (w.alloc o1) (w.alloc o1).heap.size A n c) := fun o1 => by
    rcases hb with h0 | ⟨g, o, h1, h2, h3, h4, h5⟩
    · exact .inl h0
    · refine .inr ⟨g, o, h1, by rw [hsz]; omega, by rw [hsz]; omega, h4, fun j hj => ?_⟩
      obtain ⟨x, hx, hcx⟩ := h5 j hj
      exact ⟨x, hx, ((below1 w o1).cell (p := ⟨g, o + j, none⟩) h3).trans hcx⟩
  have FIN : Hid (∀ (wx : World) (q : Nat) (B : Bkt) (x y : Int), DC w wx A n c q B → An w (.returned (.tuple #[bag B, .int .i64 x, .int .i64 y])) (wx.setCells w.heap.size 0 (brow B).toList)) := fun wx q B x y h => ⟨⟨B, x, y, rfl⟩, h.put.2⟩
  clear hb
  go_enter Try.func6, Try.ntmps6
  go_wp2_with fail
  refine (Draw.new_any A n c _ hn (NB.out _)).mono ?_
  rintro e w1 ⟨h, rfl, hw1⟩
  have D1 : Hid (D0 w w1 A n c) := by
    subst hw1
    refine ⟨?_, ?_, below2 _ _ _⟩
    · have := Draw.cur_new hn (NB.out (.cells zrow 25 (0, 0))) h 56
      rwa [hsz] at this
    · rw [(below1 (w.alloc _) _).block _ (by rw [hsz]; omega)]
      exact heap_alloc_new _ _
  have e1 : (w.alloc (.cells zrow 25 (0, 0))).heap.size = w.heap.size + 1 := hsz _ _
  rw [e1]
  clear hw1 NB e1
  go_wp2_with fail
  refine (pick_new [1, 3, 10, 1000, 1000000] D1.out.cur (by decide) (by decide) _ rfl).mono ?_
  rintro e w2 ⟨⟨r0, rfl⟩, L2⟩
  have D2 := Seg.hid (D1.out.next L2)
  clear L2 D1
  go_wp2_with fail
  refine (pick_new [0, 5, 100, 1000000] D2.out.cur (by decide) (by decide) _ rfl).mono ?_
  rintro e w3 ⟨⟨r1, rfl⟩, L3⟩
  have D3 := Seg.hid (D2.out.next L3)
  clear L3 D2
  go_wp2_with fail
  refine (pick_new [0, 100, 5, 1000000000000] D3.out.cur (by decide) (by decide) _ rfl).mono ?_
  rintro e w4 ⟨⟨r3, rfl⟩, L4⟩
  have D4 := Seg.hid (D3.out.next L4)
  clear L4 D3
  have s4 := D4.out.cur.lt
  go_upto_region 3 with fail
  obtain ⟨q, hq⟩ : ∃ q, w4.heap.size = q := ⟨_, rfl⟩
  obtain ⟨w5, hw5⟩ : ∃ w5, w4.alloc (.cells #[.int .i64 r0, .int .i64 r1, .int .i64 0, .int .i64 r3] 25 (0, 0)) = w5 := ⟨_, rfl⟩
  rw [hw5, hq]
  have D5 : Hid (DC w w5 A n c q ⟨r0, r1, 0, r3⟩) := by
    show DC _ _ _ _ _ _ _
    rw [← hw5, ← hq]
    exact ⟨D4.out.alloc _, heap_alloc_new _ _, s4⟩
  clear hw5 hq D4 s4
  obtain ⟨c0, c1, c2, c3, _, _, g2, _⟩ := fourB D5.out.var
  have lq5 := (Array.getElem?_eq_some_iff.1 D5.out.var).1
  go_region_held3 (fun w' => w'.cell? ⟨q, 1, none⟩ = some (.int .i64 r1)) (first | exact c1 | exact c1' | exact (World.cell?_setCell_other _ _ _ _ (by simp)).trans c1' | go_keep)
    (first | (go_at_call 15; refine (Draw.below_any (w.heap.size + 1) A n c 200 _ D5.out.drew.d.cur (by decide) (by decide)).mono ?_; rintro e w6 ⟨⟨x6, x60, x61, rfl⟩, L6⟩; have D6 : Hid (DC w w6 A n c q ⟨r0, r1, 0, r3⟩) := D5.out.drew.next L6; clear L6; obtain ⟨_, c1', c2', _, _, _, g2', _⟩ := fourB D6.out.var; have lq6 := (Array.getElem?_eq_some_iff.1 D6.out.var).1))
  obtain ⟨r2, hr2⟩ : ∃ r2, IntKind.i64.wrap (r1 - x6) = r2 := ⟨_, rfl⟩
  rw [hr2]
  obtain ⟨w7, hw7⟩ : ∃ w7, w6.setCell ⟨q, 2, none⟩ (.int .i64 r2) = w7 := ⟨_, rfl⟩
  rw [hw7]
  have D7 : Hid (DC w w7 A n c q ⟨r0, r1, r2, r3⟩) := by show DC _ _ _ _ _ _ _; rw [← hw7]; exact D6.out.set LW.out 2 r2 ⟨r0, r1, r2, r3⟩ rfl
  clear hw7 hr2 D6 D5 c0 c1 c2 c3 c1' c2' g2 g2' lq5 lq6
  obtain ⟨_, _, _, c3, _, _, _, _⟩ := fourB D7.out.var
  have lq7 := (Array.getElem?_eq_some_iff.1 D7.out.var).1
  go_wp2_with fail
  go_region_held3 (fun w' => w'.cell? ⟨q, 3, none⟩ = some (.int .i64 r3)) (first | exact c3 | exact c3' | go_keep)
    (first | (go_at_call 15; refine (Draw.below_any (w.heap.size + 1) A n c 30 _ D7.out.drew.d.cur (by decide) (by decide)).mono ?_; rintro e wa ⟨⟨xa, xa0, xa1, rfl⟩, La⟩; have DA : Hid (DC w wa A n c q ⟨r0, r1, r2, r3⟩) := D7.out.drew.next La; clear La; obtain ⟨_, _, _, c3', _, _, _, _⟩ := fourB DA.out.var; have lqa := (Array.getElem?_eq_some_iff.1 DA.out.var).1))
  obtain ⟨x7, hx7⟩ : ∃ x7, IntKind.i64.wrap (r3 + xa) = x7 := ⟨_, rfl⟩
  rw [hx7]
  clear hx7 c3 c3' D7 lq7 lqa
  go_wp2_with fail
  refine (pick_new [0, 1, 7, 50, 500, 1000000] DA.out.d.cur (by decide) (by decide) _ rfl).mono ?_
  rintro e wb ⟨⟨u8, rfl⟩, Lb⟩
  have DB := Seg.hid (DA.out.next Lb)
  clear Lb DA
  go_wp2_with fail
  refine (Draw.below_any (w.heap.size + 1) A n c 14 wb DB.out.d.cur (by decide) (by decide)).mono ?_
  rintro e wc ⟨⟨y, y0, y1, rfl⟩, Lc⟩
  have D8 := Seg.hid (DB.out.next Lc)
  clear Lc DB
  have hy : y = 0 ∨ y = 1 ∨ y = 2 ∨ y = 3 ∨ y = 4 ∨ 5 ≤ y := by omega
  rcases hy with rfl | rfl | rfl | rfl | rfl | hy
  · obtain ⟨c0, c1, c2, c3, k0, k1, k2, k3⟩ := fourB D8.out.var
    have lq8 := (Array.getElem?_eq_some_iff.1 D8.out.var).1
    go_wp2_with fail
    refine (pick_new [0, 1000001] D8.out.d.cur (by simp) (by simp) _ rfl).mono ?_
    rintro e wp ⟨⟨rp, rfl⟩, Lp⟩
    have DP := Seg.hid (D8.out.next Lp)
    clear Lp D8 c0 c1 c2 c3 k0 k1 k2 k3
    obtain ⟨c0, c1, c2, c3, k0, k1, k2, k3⟩ := fourB DP.out.var
    have lqp := (Array.getElem?_eq_some_iff.1 DP.out.var).1
    go_upto_region 17 with fail
    obtain ⟨w9, hw9⟩ : ∃ w9, wp.setCell ⟨q, 0, none⟩ (.int .i64 rp) = w9 := ⟨_, rfl⟩
    rw [hw9]
    have D9 : Hid (DC w w9 A n c q ⟨rp, r1, r2, r3⟩) := by show DC _ _ _ _ _ _ _; rw [← hw9]; exact DP.out.set LW.out 0 rp ⟨rp, r1, r2, r3⟩ rfl
    clear hw9 c0 c1 c2 c3 k0 k1 k2 k3 lqp lq8 DP
    obtain ⟨c0, c1, c2, c3, _, _, _, _⟩ := fourB D9.out.var
    obtain ⟨n0, n1, n2, n3, f0, f1, f2, f3⟩ := fourB D9.out.d.res
    have lq := (Array.getElem?_eq_some_iff.1 D9.out.var).1
    have l0 := (Array.getElem?_eq_some_iff.1 D9.out.d.res).1
    have P9 := Seg.hid D9.out.put
    go_wp2_with fail
    exact bodyPost_ret (v := .tuple #[bag ⟨rp, r1, r2, r3⟩, .int .i64 x7, .int .i64 u8]) (R3.results_row_tmp2 rfl _ _ w.heap.size 25 (brow ⟨rp, r1, r2, r3⟩) (0, 0) _ _ _ rfl rfl rfl P9.out.1 Try.underlying25 rfl infoBkt) rfl (FIN.out _ _ _ _ _ D9.out)
  · obtain ⟨c0, c1, c2, c3, k0, k1, k2, k3⟩ := fourB D8.out.var
    have lq8 := (Array.getElem?_eq_some_iff.1 D8.out.var).1
    go_wp2_with fail
    refine (pick_new [-1, 1000001] D8.out.d.cur (by simp) (by simp) _ rfl).mono ?_
    rintro e wp ⟨⟨rp, rfl⟩, Lp⟩
    have DP := Seg.hid (D8.out.next Lp)
    clear Lp D8 c0 c1 c2 c3 k0 k1 k2 k3
    obtain ⟨c0, c1, c2, c3, k0, k1, k2, k3⟩ := fourB DP.out.var
    have lqp := (Array.getElem?_eq_some_iff.1 DP.out.var).1
    go_upto_region 17 with fail
    obtain ⟨w9, hw9⟩ : ∃ w9, wp.setCell ⟨q, 1, none⟩ (.int .i64 rp) = w9 := ⟨_, rfl⟩
    rw [hw9]
    have D9 : Hid (DC w w9 A n c q ⟨r0, rp, r2, r3⟩) := by show DC _ _ _ _ _ _ _; rw [← hw9]; exact DP.out.set LW.out 1 rp ⟨r0, rp, r2, r3⟩ rfl
    clear hw9 c0 c1 c2 c3 k0 k1 k2 k3 lqp lq8 DP
    obtain ⟨c0, c1, c2, c3, _, _, _, _⟩ := fourB D9.out.var
    obtain ⟨n0, n1, n2, n3, f0, f1, f2, f3⟩ := fourB D9.out.d.res
    have lq := (Array.getElem?_eq_some_iff.1 D9.out.var).1
    have l0 := (Array.getElem?_eq_some_iff.1 D9.out.d.res).1
    have P9 := Seg.hid D9.out.put
    go_wp2_with fail
    exact bodyPost_ret (v := .tuple #[bag ⟨r0, rp, r2, r3⟩, .int .i64 x7, .int .i64 u8]) (R3.results_row_tmp2 rfl _ _ w.heap.size 25 (brow ⟨r0, rp, r2, r3⟩) (0, 0) _ _ _ rfl rfl rfl P9.out.1 Try.underlying25 rfl infoBkt) rfl (FIN.out _ _ _ _ _ D9.out)
  · obtain ⟨c0, c1, c2, c3, k0, k1, k2, k3⟩ := fourB D8.out.var
    have lq8 := (Array.getElem?_eq_some_iff.1 D8.out.var).1
    go_wp2_with fail
    refine (pick_new [-1000000000000, -1000000000001, _] D8.out.d.cur (by simp) (by simp) _ rfl).mono ?_
    rintro e wp ⟨⟨rp, rfl⟩, Lp⟩
    have DP := Seg.hid (D8.out.next Lp)
    clear Lp D8 c0 c1 c2 c3 k0 k1 k2 k3
    obtain ⟨c0, c1, c2, c3, k0, k1, k2, k3⟩ := fourB DP.out.var
    have lqp := (Array.getElem?_eq_some_iff.1 DP.out.var).1
    go_upto_region 17 with fail
    obtain ⟨w9, hw9⟩ : ∃ w9, wp.setCell ⟨q, 2, none⟩ (.int .i64 rp) = w9 := ⟨_, rfl⟩
    rw [hw9]
    have D9 : Hid (DC w w9 A n c q ⟨r0, r1, rp, r3⟩) := by show DC _ _ _ _ _ _ _; rw [← hw9]; exact DP.out.set LW.out 2 rp ⟨r0, r1, rp, r3⟩ rfl
    clear hw9 c0 c1 c2 c3 k0 k1 k2 k3 lqp lq8 DP
    obtain ⟨c0, c1, c2, c3, _, _, _, _⟩ := fourB D9.out.var
    obtain ⟨n0, n1, n2, n3, f0, f1, f2, f3⟩ := fourB D9.out.d.res
    have lq := (Array.getElem?_eq_some_iff.1 D9.out.var).1
    have l0 := (Array.getElem?_eq_some_iff.1 D9.out.d.res).1
    have P9 := Seg.hid D9.out.put
    go_wp2_with fail
    exact bodyPost_ret (v := .tuple #[bag ⟨r0, r1, rp, r3⟩, .int .i64 x7, .int .i64 u8]) (R3.results_row_tmp2 rfl _ _ w.heap.size 25 (brow ⟨r0, r1, rp, r3⟩) (0, 0) _ _ _ rfl rfl rfl P9.out.1 Try.underlying25 rfl infoBkt) rfl (FIN.out _ _ _ _ _ D9.out)
  · obtain ⟨c0, c1, c2, c3, k0, k1, k2, k3⟩ := fourB D8.out.var
    have lq8 := (Array.getElem?_eq_some_iff.1 D8.out.var).1
    go_wp2_with fail
    refine (pick_new [_, 1000000000000, 1000000000001] D8.out.d.cur (by simp) (by simp) _ rfl).mono ?_
    rintro e wp ⟨⟨rp, rfl⟩, Lp⟩
    have D9 := Seg.hid (D8.out.next Lp)
    clear Lp D8 c0 c1 c2 c3 k0 k1 k2 k3 lq8
    obtain ⟨c0, c1, c2, c3, _, _, _, _⟩ := fourB D9.out.var
    obtain ⟨n0, n1, n2, n3, f0, f1, f2, f3⟩ := fourB D9.out.d.res
    have lq := (Array.getElem?_eq_some_iff.1 D9.out.var).1
    have l0 := (Array.getElem?_eq_some_iff.1 D9.out.d.res).1
    have P9 := Seg.hid D9.out.put
    go_wp2_with fail
    exact bodyPost_ret (v := .tuple #[bag ⟨r0, r1, r2, r3⟩, .int .i64 rp, .int .i64 u8]) (R3.results_row_tmp2 rfl _ _ w.heap.size 25 (brow ⟨r0, r1, r2, r3⟩) (0, 0) _ _ _ rfl rfl rfl P9.out.1 Try.underlying25 rfl infoBkt) rfl (FIN.out _ _ _ _ _ D9.out)
  · obtain ⟨c0, c1, c2, c3, k0, k1, k2, k3⟩ := fourB D8.out.var
    have lq8 := (Array.getElem?_eq_some_iff.1 D8.out.var).1
    go_wp2_with fail
    refine (pick_new [-1, 1000001] D8.out.d.cur (by simp) (by simp) _ rfl).mono ?_
    rintro e wp ⟨⟨rp, rfl⟩, Lp⟩
    have D9 := Seg.hid (D8.out.next Lp)
    clear Lp D8 c0 c1 c2 c3 k0 k1 k2 k3 lq8
    obtain ⟨c0, c1, c2, c3, _, _, _, _⟩ := fourB D9.out.var
    obtain ⟨n0, n1, n2, n3, f0, f1, f2, f3⟩ := fourB D9.out.d.res
    have lq := (Array.getElem?_eq_some_iff.1 D9.out.var).1
    have l0 := (Array.getElem?_eq_some_iff.1 D9.out.d.res).1
    have P9 := Seg.hid D9.out.put
    go_wp2_with fail
    exact bodyPost_ret (v := .tuple #[bag ⟨r0, r1, r2, r3⟩, .int .i64 x7, .int .i64 rp]) (R3.results_row_tmp2 rfl _ _ w.heap.size 25 (brow ⟨r0, r1, r2, r3⟩) (0, 0) _ _ _ rfl rfl rfl P9.out.1 Try.underlying25 rfl infoBkt) rfl (FIN.out _ _ _ _ _ D9.out)
  · have q0 : (y == 0) = false := by rw [beq_eq_false_iff_ne]; omega
    have q1 : (y == 1) = false := by rw [beq_eq_false_iff_ne]; omega
    have q2 : (y == 2) = false := by rw [beq_eq_false_iff_ne]; omega
    have q3 : (y == 3) = false := by rw [beq_eq_false_iff_ne]; omega
    have q4 : (y == 4) = false := by rw [beq_eq_false_iff_ne]; omega
    have D9 := D8
    clear D8
    obtain ⟨c0, c1, c2, c3, _, _, _, _⟩ := fourB D9.out.var
    obtain ⟨n0, n1, n2, n3, f0, f1, f2, f3⟩ := fourB D9.out.d.res
    have lq := (Array.getElem?_eq_some_iff.1 D9.out.var).1
    have l0 := (Array.getElem?_eq_some_iff.1 D9.out.d.res).1
    have P9 := Seg.hid D9.out.put
    go_wp2_with fail
    exact bodyPost_ret (v := .tuple #[bag ⟨r0, r1, r2, r3⟩, .int .i64 x7, .int .i64 u8]) (R3.results_row_tmp2 rfl _ _ w.heap.size 25 (brow ⟨r0, r1, r2, r3⟩) (0, 0) _ _ _ rfl rfl rfl P9.out.1 Try.underlying25 rfl infoBkt) rfl (FIN.out _ _ _ _ _ D9.out)
end Go.Proofs.Ytmkkdladgoilmaa.DrCh
