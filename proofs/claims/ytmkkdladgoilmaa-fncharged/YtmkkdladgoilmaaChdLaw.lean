/- The law that whoever waits as told uses no more than a bucket gives, out of the contracts. -/
import Derived.Test.YtmkkdladgoilmaaDrCh
import Derived.Test.YtmkkdladgoilmaaChdP
import Derived.Test.YtmkkdladgoilmaaChS
import Derived.Test.YtmkkdladgoilmaaLawH
import Derived.Test.YtmkkdladgoilmaaDrawA
namespace Go.Proofs.Ytmkkdladgoilmaa.ChdLaw
set_option maxRecDepth 8000
open Go.RowKit
open Ls Lp ChP ChdP
open ChI (bag brow zrow fourB)
open Draw (Cur Lft Bytes)
open Recs (hsz below1 below2 chain)
set_option linter.unusedVariables false
/-- The two Buckets of the law: the one that is used, the one with which one began. -/
structure CW (w wr : World) (p q : Nat) (B G : Bkt) : Prop where
  one : wr.heap[p]? = some (.cells (brow B) 25 (0, 0))
  two : wr.heap[q]? = some (.cells (brow G) 25 (0, 0))
  ne : p ≠ q
  hp : w.heap.size ≤ p
  bel : Below w.heap.size w wr
theorem CW.next {w wr w' : World} {p q : Nat} {B G : Bkt} (h : CW w wr p q B G) (b : Below wr.heap.size wr w') : CW w w' p q B G :=
  ⟨(b.block _ (Array.getElem?_eq_some_iff.1 h.one).1).trans h.one, (b.block _ (Array.getElem?_eq_some_iff.1 h.two).1).trans h.two, h.ne, h.hp, chain h.bel b⟩
theorem CW.put {w wr : World} {p q : Nat} {B G : Bkt} (h : CW w wr p q B G) (C : Bkt) : CW w (wr.setCells p 0 (brow C).toList) p q C G :=
  ⟨Cells.whole (vs := brow C) h.one rfl, (Cells.heap_setCells_other _ wr (Ne.symm h.ne)).trans h.two, h.ne, h.hp, Cells.below_setCells h.hp _ _ _ _ h.bel⟩
theorem be_of {B : Bkt} (h : fine B B.time 0 = true) (ht : ¬ 500000000000 < B.time) (hl : ¬ B.level < -1000000) : Be B := by
  simp only [fine, ok, inR, Bool.and_eq_true, decide_eq_true_eq] at h
  exact ⟨by omega, by omega, by omega, by omega, by omega, by omega, by omega, by omega⟩
theorem be_toy : Be ⟨3, 10, 10, 0⟩ := ⟨by decide, by decide, by decide, by decide, by decide, by decide, by decide, by decide⟩
set_option maxHeartbeats 800000 in
theorem walk_big0 (A A' : Option Addr) (n c n' c' : Nat) (w : World) (hb : 1048576 < n) :
    Calls Try.prog 3 #[.slice A n c, .slice A' n' c'] w fun e w' => e = .returned (.bool true) ∧ Below w.heap.size w w' := by
  have hd : decide (1048576 < (n : Int)) = true := decide_eq_true (by omega)
  go_enter Try.func3, Try.ntmps3
  go_wp2
  go_ret
  exact ⟨rfl, Below.refl _ _⟩
set_option maxHeartbeats 800000 in
theorem walk_big1 (A A' : Option Addr) (n c n' c' : Nat) (w : World) (h0 : n ≤ 1048576) (hb : 1048576 < n') :
    Calls Try.prog 3 #[.slice A n c, .slice A' n' c'] w fun e w' => e = .returned (.bool true) ∧ Below w.heap.size w w' := by
  have hd : decide (1048576 < (n : Int)) = false := decide_eq_false (by omega)
  have hd' : decide (1048576 < (n' : Int)) = true := decide_eq_true (by omega)
  go_enter Try.func3, Try.ntmps3
  go_wp2
  go_ret
  exact ⟨rfl, Below.refl _ _⟩
set_option maxHeartbeats 12800000 in
theorem walk (A A' : Option Addr) (n c n' c' : Nat) (w : World) (hn : n ≤ 1048576) (hn' : n' ≤ 1048576) (hb : Bytes w w.heap.size A n c) (hb' : Bytes w w.heap.size A' n' c') :
    Calls Try.prog 3 #[.slice A n c, .slice A' n' c'] w fun e w' => e = .returned (.bool true) ∧ Below w.heap.size w w' := by
  have HB := Seg.hid hb
  have hd : decide (1048576 < (n : Int)) = false := decide_eq_false (by omega)
  have hd' : decide (1048576 < (n' : Int)) = false := decide_eq_false (by omega)
  have CG : Hid (∀ wx, Calls Try.prog 5 #[.slice A n c] wx fun e w' => e = .returned (.bool false) ∧ wx = w') := fun wx => by have := LawH.big_any A n c wx (by omega); rw [hd] at this; exact this
  have CG' : Hid (∀ wx, Calls Try.prog 5 #[.slice A' n' c'] wx fun e w' => e = .returned (.bool false) ∧ wx = w') := fun wx => by have := LawH.big_any A' n' c' wx (by omega); rw [hd'] at this; exact this
  have AT : Hid (∀ (wx : World) (x : Int), 0 ≤ x → x ≤ 1000 → Below w.heap.size w wx → Calls Try.prog 8 #[.slice A' n' c', .int .i64 x] wx fun e w' => (∃ y : Nat, y < 256 ∧ e = .returned (.int .i64 y)) ∧ wx = w') := fun wx x h0 h1 bx => by
    obtain ⟨k, rfl⟩ := Int.eq_ofNat_of_zero_le h0
    refine DrawC.at_any A' n' c' w.heap.size k wx hn' ?_ (by omega)
    rcases hb' with h | ⟨g, o, h1, h2, h3, h4, h5⟩
    · exact .inl h
    · refine .inr ⟨g, o, h1, h2, Nat.lt_of_lt_of_le h3 bx.size, h4, fun j hj => ?_⟩
      obtain ⟨y, hy, hcy⟩ := h5 j hj
      exact ⟨y, hy, (bx.cell (p := ⟨g, o + j, none⟩) h3).trans hcy⟩
  clear hd hd' hb hb'
  go_enter Try.func3, Try.ntmps3
  go_upto_region 3 with (first | (go_at_call 5; (with_reducible refine (CG.out _).mono ?_); rintro e w' ⟨rfl, rfl⟩) | (go_at_call 5; (with_reducible refine (CG'.out _).mono ?_); rintro e w' ⟨rfl, rfl⟩))
  clear CG CG'
  go_wp2_with fail
  refine (DrCh.draw_any A n c w hn HB.out).mono ?_
  rintro e w1 ⟨⟨B0, x0, y0, rfl⟩, b1⟩
  have B1 := Seg.hid b1
  have z1 := b1.size
  clear b1
  go_upto_region 4 with fail
  obtain ⟨p, hp⟩ : ∃ p, w1.heap.size = p := ⟨_, rfl⟩
  obtain ⟨w2, hw2⟩ : ∃ w2, w1.alloc (.cells (brow B0) 25 (0, 0)) = w2 := ⟨_, rfl⟩
  rw [hw2, hp]
  have R2 : Hid (w2.heap[p]? = some (.cells (brow B0) 25 (0, 0))) := by show _ = _; rw [← hw2, ← hp]; exact heap_alloc_new _ _
  have B2 : Hid (Below w.heap.size w w2) := by show Below _ _ _; rw [← hw2]; exact chain B1.out (below1 _ _)
  have hpw : w.heap.size ≤ p := by omega
  clear hw2 hp B1 z1
  obtain ⟨c0, c1, c2, c3, _, _, _, _⟩ := fourB R2.out
  have l2 := (Array.getElem?_eq_some_iff.1 R2.out).1
  obtain ⟨fl, hfl⟩ : ∃ fl, fine B0 B0.time 0 = fl := ⟨_, rfl⟩
  have HF := Seg.hid hfl
  have CS : Hid (∀ wx, Calls Try.prog 7 #[bag B0, .int .i64 B0.time, .int .i64 0] wx fun e w' => (∃ (C : Bkt) (q : Int), e = .returned (.tuple #[bag C, .int .i64 q, .bool fl])) ∧ Below wx.heap.size wx w') := fun wx => (ChS.spec_any B0 B0.time 0 wx).mono fun e w' ⟨h1, h2⟩ => ⟨⟨chg B0 B0.time 0, wt B0 B0.time 0, by rw [h1, ans, hfl]⟩, h2⟩
  clear hfl
  go_upto_region 5 with (first | (go_at_call 7; refine (CS.out _).mono ?_; rintro e w3 ⟨⟨C3, q3, rfl⟩, b3⟩; have B3 := Seg.hid b3; clear b3))
  obtain ⟨w4, hw4⟩ : ∃ w4, w3.alloc (.cells (brow C3) 25 (0, 0)) = w4 := ⟨_, rfl⟩
  rw [hw4]
  have R4 : Hid (w4.heap[p]? = some (.cells (brow B0) 25 (0, 0))) := by show _ = _; rw [← hw4, (below1 w3 _).block _ (Nat.lt_of_lt_of_le l2 B3.out.size), B3.out.block _ l2]; exact R2.out
  have B4 : Hid (Below w.heap.size w w4) := by show Below _ _ _; rw [← hw4]; exact chain (chain B2.out B3.out) (below1 _ _)
  clear hw4 R2 B2 B3 c0 c1 c2 c3 l2 CS
  obtain ⟨c0, c1, c2, c3, g0, g1, g2, g3⟩ := fourB R4.out
  have l4 := (Array.getElem?_eq_some_iff.1 R4.out).1
  by_cases hgo : fl = true ∧ ¬ 500000000000 < B0.time ∧ ¬ B0.level < -1000000
  · obtain ⟨rfl, h1, h2⟩ := hgo
    have BE := Seg.hid (be_of HF.out h1 h2)
    clear HF
    go_upto_region 7 with fail
    obtain ⟨wg, hwg⟩ : ∃ wg, wg = w4 := ⟨w4, rfl⟩
    obtain ⟨G, hG⟩ : ∃ G, G = B0 := ⟨B0, rfl⟩
    rw [← hG] at BE R4 c0 c1 c2 c3
    rw [← hwg] at R4 B4 c0 c1 c2 c3 g0 g1 g2 g3 l4
    rw [← hwg]
    clear hwg hG h1 h2
    have lg := l4
    go_upto_region 8 with fail
    obtain ⟨q, hq⟩ : ∃ q, wg.heap.size = q := ⟨_, rfl⟩
    obtain ⟨wh, hwh⟩ : ∃ wh, wg.alloc (.cells (brow G) 25 (0, 0)) = wh := ⟨_, rfl⟩
    rw [hwh, hq]
    have C0 : Hid (CW w wh p q G G) := by
      show CW _ _ _ _ _ _
      rw [← hwh, ← hq]
      exact ⟨((below1 wg _).block _ l4).trans R4.out, heap_alloc_new _ _, by omega, hpw, chain B4.out (below1 _ _)⟩
    clear hwh hq R4 B4 c0 c1 c2 c3 g0 g1 g2 g3 l4 lg
    obtain ⟨_, _, _, c3, _, _, _, _⟩ := fourB C0.out.one
    have l5 := (Array.getElem?_eq_some_iff.1 C0.out.one).1
    go_wp2_with fail
    go_loopw [12, 13, 15] (fun vn vu vi wr => ∃ (now used : Int) (i : Nat) (B : Bkt), i ≤ 12 ∧ vn = .int .i64 now ∧ vu = .int .i64 used ∧ vi = .int .i64 i ∧ Hid (CW w wr p q B G ∧ Iv G B now used i)) (fun _ _ vi _ => 12 - (intOf vi).toNat)
    case atStart => exact ⟨G.time, 0, 0, G, by omega, rfl, rfl, rfl, C0.out, Iv.start BE.out⟩
    case round =>
      clear C0 c3 l5
      obtain ⟨now, used, i, B, hi, rfl, rfl, rfl, HR⟩ := hrel
      by_cases hlt : i < 12
      · have f0 : (i : Int) < 12 := by omega
        have wi : IntKind.i64.wrap ((i : Int) + 20) = (i : Int) + 20 := by rw [IntKind.wrap_i64] <;> omega
        have wi2 : IntKind.i64.wrap ((i : Int) + 40) = (i : Int) + 40 := by rw [IntKind.wrap_i64] <;> omega
        have CC := Seg.hid HR.out.1
        have IV := Seg.hid HR.out.2
        clear HR
        go_wp2_with fail
        refine (AT.out wr (i : Int) (by omega) (by omega) CC.out.bel).mono ?_
        rintro e wx ⟨⟨y1, hy1, rfl⟩, rfl⟩
        go_wp2_with fail
        refine (AT.out wr ((i : Int) + 20) (by omega) (by omega) CC.out.bel).mono ?_
        rintro e wx ⟨⟨y2, hy2, rfl⟩, rfl⟩
        go_upto_region 14 with fail
        have hm0 : (0 : Int) ≤ (y1 : Int) * (1 + (y2 : Int) % 9) := Int.mul_nonneg (by omega) (by omega)
        have hm1 : (y1 : Int) * (1 + (y2 : Int) % 9) ≤ 255 * 9 := Int.mul_le_mul (by omega) (by omega) (by omega) (by omega)
        generalize (y1 : Int) * (1 + (y2 : Int) % 9) = units at *
        rw [show wrap64 units = units by unfold wrap64; omega]
        have nl : -1000000000000 ≤ now ∧ now ≤ 600000000000 := by have := IV.out.far; have := BE.out.t0; have := BE.out.t1; have := IV.out.time; have := IV.out.nw; omega
        go_wp2_with fail
        refine (AT.out wr ((i : Int) + 40) (by omega) (by omega) CC.out.bel).mono ?_
        rintro e wx ⟨⟨y3, hy3, rfl⟩, rfl⟩
        go_upto_region 15 with fail
        obtain ⟨d, hd⟩ : ∃ d : Int, (y3 : Int) % 5 = d := ⟨_, rfl⟩
        have hd0 : 0 ≤ d ∧ d ≤ 4 := by omega
        rw [hd]
        clear hd hy1 hy2 hy3 wi wi2
        have U := Seg.hid (use BE.out IV.out hlt hm0 (by omega) hd0.1 hd0.2)
        have nx : ∃ nw, now + d = nw := ⟨_, rfl⟩
        obtain ⟨nw, hnw⟩ := nx
        rw [hnw] at U ⊢
        have CI : Hid (∀ wx, Calls Try.prog 9 #[bag B, .int .i64 nw, .int .i64 units] wx fun e w' => e = .returned (.tuple #[bag ⟨B.rate, B.burst, lev B nw units, nw⟩, .int .i64 (wait (lev B nw units) B.rate), .bool true]) ∧ Below wx.heap.size wx w') := fun wx => (ChI.impl_any B nw units wx).mono fun e w' ⟨h1, h2⟩ => ⟨by rw [h1, ans_yes U.out.fi], h2⟩
        have nb : nw ≤ 1000000000000 := U.out.far
        clear hnw nl
        obtain ⟨L, hL⟩ : ∃ L, lev B nw units = L := ⟨_, rfl⟩
        rw [hL] at U CI
        obtain ⟨V, hV⟩ : ∃ V, wait L B.rate = V := ⟨_, rfl⟩
        rw [hV] at U CI
        have v0 := U.out.w0
        have v1 := U.out.w1
        have v2 := U.out.neg
        have v3 := U.out.top
        clear hL hV
        obtain ⟨b0, b1, b2, b3, _, _, _, _⟩ := fourB CC.out.one
        have lp := (Array.getElem?_eq_some_iff.1 CC.out.one).1
        go_upto_region 18 with (first | (go_at_call 9; refine (CI.out _).mono ?_; rintro e w7 ⟨rfl, b7⟩; have C7 := Seg.hid (CC.out.next b7); clear b7))
        obtain ⟨s, hs⟩ : ∃ s, w7.heap.size = s := ⟨_, rfl⟩
        obtain ⟨w8, hw8⟩ : ∃ w8, w7.alloc (.cells (brow ⟨B.rate, B.burst, L, nw⟩) 25 (0, 0)) = w8 := ⟨_, rfl⟩
        rw [hw8, hs]
        have R8 : Hid (w8.heap[s]? = some (.cells (brow ⟨B.rate, B.burst, L, nw⟩) 25 (0, 0))) := by show _ = _; rw [← hw8, ← hs]; exact heap_alloc_new _ _
        have C8 : Hid (CW w w8 p q B G) := by show CW _ _ _ _ _ _; rw [← hw8]; exact C7.out.next (below1 _ _)
        have hps : p ≠ s := by have := (Array.getElem?_eq_some_iff.1 C7.out.one).1; omega
        clear hw8 hs C7 CC CI b0 b1 b2 b3 lp
        have l8 := (Array.getElem?_eq_some_iff.1 R8.out).1
        obtain ⟨d0, d1, d2, d3, _, _, _, _⟩ := fourB R8.out
        have t1 : ¬ V < 0 := by omega
        have t2 : ¬ B.burst < L := by omega
        have C9 := Seg.hid (C8.out.put ⟨B.rate, B.burst, L, nw⟩)
        obtain ⟨e0, e1, e2, e3, k0, k1, k2, k3⟩ := fourB C8.out.one
        have lp8 := (Array.getElem?_eq_some_iff.1 C8.out.one).1
        by_cases hv : 0 < V
        · have t3 : ¬ 0 ≤ L := by have := v2 hv; omega
          go_upto_region 21 with fail
          obtain ⟨w9, hw9⟩ : ∃ w9, (((w8.setCell ⟨p, 0, none⟩ (.int .i64 B.rate)).setCell ⟨p, 1, none⟩ (.int .i64 B.burst)).setCell ⟨p, 2, none⟩ (.int .i64 L)).setCell ⟨p, 3, none⟩ (.int .i64 nw) = w9 := ⟨_, rfl⟩
          rw [hw9]
          have CN : Hid (CW w w9 p q ⟨B.rate, B.burst, L, nw⟩ G) := by show CW _ _ _ _ _ _; rw [← hw9]; exact C9.out
          clear hw9 C9 C8 R8 e0 e1 e2 e3 k0 k1 k2 k3 d0 d1 d2 d3 lp8 l8
          obtain ⟨g0, g1, g2, g3, _, _, _, _⟩ := fourB CN.out.two
          have lq := (Array.getElem?_eq_some_iff.1 CN.out.two).1
          have NX := Seg.hid U.out.next
          have TO := Seg.hid U.out.told
          obtain ⟨M, hM⟩ : ∃ M, G.rate * (nw - G.time) = M := ⟨_, rfl⟩
          have m0 := U.out.m0
          have m1 := U.out.m1
          rw [hM] at m0 m1 TO
          have gt0 := BE.out.t0
          have gt1 := BE.out.t1
          have gl0 := BE.out.l0
          have gl1 := BE.out.l1
          have gu1 := BE.out.u1
          have us0 := IV.out.u0
          have us1 := IV.out.u1
          have nt : G.time ≤ nw := Int.le_trans IV.out.time (by have := U.out.next.nw; have := U.out.fi; simp only [fine, ok, inR, Bool.and_eq_true, decide_eq_true_eq] at this; omega)
          clear U IV
          have q1 : IntKind.i64.wrap (used + units) = used + units := by rw [IntKind.wrap_i64] <;> omega
          have q2 : IntKind.i64.wrap (nw - G.time) = nw - G.time := by rw [IntKind.wrap_i64] <;> omega
          have q3' : IntKind.i64.wrap M = M := by rw [IntKind.wrap_i64] <;> omega
          have q4 : IntKind.i64.wrap (G.level + M) = G.level + M := by rw [IntKind.wrap_i64] <;> omega
          have q5 : IntKind.i64.wrap (G.level + M + units) = G.level + M + units := by rw [IntKind.wrap_i64] <;> omega
          have q6 : IntKind.i64.wrap (nw + V) = nw + V := by rw [IntKind.wrap_i64] <;> omega
          by_cases ht : G.level + M + units < used + units
          · have hgl : ¬ 0 ≤ G.level := fun h => by have := TO.out h; omega
            clear TO
            go_wp2_with fail
            go_roundw
            case rel => exact ⟨nw + V, used + units, i + 1, _, by omega, by first | rfl | go_num, by first | rfl | go_num, by go_num, CN.out, NX.out⟩
            case measure => simp [intOf]; omega
          · clear TO
            go_wp2_with fail
            go_roundw
            case rel => exact ⟨nw + V, used + units, i + 1, _, by omega, by first | rfl | go_num, by first | rfl | go_num, by go_num, CN.out, NX.out⟩
            case measure => simp [intOf]; omega
        · go_upto_region 21 with fail
          obtain ⟨w9, hw9⟩ : ∃ w9, (((w8.setCell ⟨p, 0, none⟩ (.int .i64 B.rate)).setCell ⟨p, 1, none⟩ (.int .i64 B.burst)).setCell ⟨p, 2, none⟩ (.int .i64 L)).setCell ⟨p, 3, none⟩ (.int .i64 nw) = w9 := ⟨_, rfl⟩
          rw [hw9]
          have CN : Hid (CW w w9 p q ⟨B.rate, B.burst, L, nw⟩ G) := by show CW _ _ _ _ _ _; rw [← hw9]; exact C9.out
          clear hw9 C9 C8 R8 e0 e1 e2 e3 k0 k1 k2 k3 d0 d1 d2 d3 lp8 l8
          obtain ⟨g0, g1, g2, g3, _, _, _, _⟩ := fourB CN.out.two
          have lq := (Array.getElem?_eq_some_iff.1 CN.out.two).1
          have NX := Seg.hid U.out.next
          have TO := Seg.hid U.out.told
          obtain ⟨M, hM⟩ : ∃ M, G.rate * (nw - G.time) = M := ⟨_, rfl⟩
          have m0 := U.out.m0
          have m1 := U.out.m1
          rw [hM] at m0 m1 TO
          have gt0 := BE.out.t0
          have gt1 := BE.out.t1
          have gl0 := BE.out.l0
          have gl1 := BE.out.l1
          have gu1 := BE.out.u1
          have us0 := IV.out.u0
          have us1 := IV.out.u1
          have nt : G.time ≤ nw := Int.le_trans IV.out.time (by have := U.out.next.nw; have := U.out.fi; simp only [fine, ok, inR, Bool.and_eq_true, decide_eq_true_eq] at this; omega)
          clear U IV
          have q1 : IntKind.i64.wrap (used + units) = used + units := by rw [IntKind.wrap_i64] <;> omega
          have q2 : IntKind.i64.wrap (nw - G.time) = nw - G.time := by rw [IntKind.wrap_i64] <;> omega
          have q3' : IntKind.i64.wrap M = M := by rw [IntKind.wrap_i64] <;> omega
          have q4 : IntKind.i64.wrap (G.level + M) = G.level + M := by rw [IntKind.wrap_i64] <;> omega
          have q5 : IntKind.i64.wrap (G.level + M + units) = G.level + M + units := by rw [IntKind.wrap_i64] <;> omega
          have q6 : IntKind.i64.wrap (nw + V) = nw + V := by rw [IntKind.wrap_i64] <;> omega
          by_cases ht : G.level + M + units < used + units
          · have hgl : ¬ 0 ≤ G.level := fun h => by have := TO.out h; omega
            clear TO
            go_wp2_with fail
            go_roundw
            case rel => exact ⟨nw + V, used + units, i + 1, _, by omega, by first | rfl | go_num, by first | rfl | go_num, by go_num, CN.out, NX.out⟩
            case measure => simp [intOf]; omega
          · clear TO
            go_wp2_with fail
            go_roundw
            case rel => exact ⟨nw + V, used + units, i + 1, _, by omega, by first | rfl | go_num, by first | rfl | go_num, by go_num, CN.out, NX.out⟩
            case measure => simp [intOf]; omega
      · go_wp2_with fail
        go_ret
        exact ⟨rfl, HR.out.1.bel⟩
  by_cases h3 : fl = false
  · subst h3
    go_upto_region 7 with fail
    obtain ⟨wg, hwg⟩ : ∃ wg, (((w4.setCell ⟨p, 0, none⟩ (.int .i64 3)).setCell ⟨p, 1, none⟩ (.int .i64 10)).setCell ⟨p, 2, none⟩ (.int .i64 10)).setCell ⟨p, 3, none⟩ (.int .i64 0) = wg := ⟨_, rfl⟩
    rw [hwg]
    obtain ⟨G, hG⟩ : ∃ G : Bkt, G = ⟨3, 10, 10, 0⟩ := ⟨_, rfl⟩
    have BE : Hid (Be G) := by show Be G; rw [hG]; exact be_toy
    have R5 : Hid (wg.heap[p]? = some (.cells (brow G) 25 (0, 0))) := by show _ = _; rw [← hwg, hG]; exact Cells.whole (vs := brow ⟨3, 10, 10, 0⟩) R4.out rfl
    have B5 : Hid (Below w.heap.size w wg) := by show Below _ _ _; rw [← hwg]; exact Cells.below_setCells hpw (brow ⟨3, 10, 10, 0⟩).toList 0 _ _ B4.out
    clear hwg hG R4 B4 c0 c1 c2 c3 g0 g1 g2 g3 l4
    have R4 := R5
    have B4 := B5
    clear R5 B5
    obtain ⟨c0, c1, c2, c3, g0, g1, g2, g3⟩ := fourB R4.out
    have l4 := (Array.getElem?_eq_some_iff.1 R4.out).1
    have lg := l4
    go_upto_region 8 with fail
    obtain ⟨q, hq⟩ : ∃ q, wg.heap.size = q := ⟨_, rfl⟩
    obtain ⟨wh, hwh⟩ : ∃ wh, wg.alloc (.cells (brow G) 25 (0, 0)) = wh := ⟨_, rfl⟩
    rw [hwh, hq]
    have C0 : Hid (CW w wh p q G G) := by
      show CW _ _ _ _ _ _
      rw [← hwh, ← hq]
      exact ⟨((below1 wg _).block _ l4).trans R4.out, heap_alloc_new _ _, by omega, hpw, chain B4.out (below1 _ _)⟩
    clear hwh hq R4 B4 c0 c1 c2 c3 g0 g1 g2 g3 l4 lg
    obtain ⟨_, _, _, c3, _, _, _, _⟩ := fourB C0.out.one
    have l5 := (Array.getElem?_eq_some_iff.1 C0.out.one).1
    go_wp2_with fail
    go_loopw [12, 13, 15] (fun vn vu vi wr => ∃ (now used : Int) (i : Nat) (B : Bkt), i ≤ 12 ∧ vn = .int .i64 now ∧ vu = .int .i64 used ∧ vi = .int .i64 i ∧ Hid (CW w wr p q B G ∧ Iv G B now used i)) (fun _ _ vi _ => 12 - (intOf vi).toNat)
    case atStart => exact ⟨G.time, 0, 0, G, by omega, rfl, rfl, rfl, C0.out, Iv.start BE.out⟩
    case round =>
      clear C0 c3 l5
      obtain ⟨now, used, i, B, hi, rfl, rfl, rfl, HR⟩ := hrel
      by_cases hlt : i < 12
      · have f0 : (i : Int) < 12 := by omega
        have wi : IntKind.i64.wrap ((i : Int) + 20) = (i : Int) + 20 := by rw [IntKind.wrap_i64] <;> omega
        have wi2 : IntKind.i64.wrap ((i : Int) + 40) = (i : Int) + 40 := by rw [IntKind.wrap_i64] <;> omega
        have CC := Seg.hid HR.out.1
        have IV := Seg.hid HR.out.2
        clear HR
        go_wp2_with fail
        refine (AT.out wr (i : Int) (by omega) (by omega) CC.out.bel).mono ?_
        rintro e wx ⟨⟨y1, hy1, rfl⟩, rfl⟩
        go_wp2_with fail
        refine (AT.out wr ((i : Int) + 20) (by omega) (by omega) CC.out.bel).mono ?_
        rintro e wx ⟨⟨y2, hy2, rfl⟩, rfl⟩
        go_upto_region 14 with fail
        have hm0 : (0 : Int) ≤ (y1 : Int) * (1 + (y2 : Int) % 9) := Int.mul_nonneg (by omega) (by omega)
        have hm1 : (y1 : Int) * (1 + (y2 : Int) % 9) ≤ 255 * 9 := Int.mul_le_mul (by omega) (by omega) (by omega) (by omega)
        generalize (y1 : Int) * (1 + (y2 : Int) % 9) = units at *
        rw [show wrap64 units = units by unfold wrap64; omega]
        have nl : -1000000000000 ≤ now ∧ now ≤ 600000000000 := by have := IV.out.far; have := BE.out.t0; have := BE.out.t1; have := IV.out.time; have := IV.out.nw; omega
        go_wp2_with fail
        refine (AT.out wr ((i : Int) + 40) (by omega) (by omega) CC.out.bel).mono ?_
        rintro e wx ⟨⟨y3, hy3, rfl⟩, rfl⟩
        go_upto_region 15 with fail
        obtain ⟨d, hd⟩ : ∃ d : Int, (y3 : Int) % 5 = d := ⟨_, rfl⟩
        have hd0 : 0 ≤ d ∧ d ≤ 4 := by omega
        rw [hd]
        clear hd hy1 hy2 hy3 wi wi2
        have U := Seg.hid (use BE.out IV.out hlt hm0 (by omega) hd0.1 hd0.2)
        have nx : ∃ nw, now + d = nw := ⟨_, rfl⟩
        obtain ⟨nw, hnw⟩ := nx
        rw [hnw] at U ⊢
        have CI : Hid (∀ wx, Calls Try.prog 9 #[bag B, .int .i64 nw, .int .i64 units] wx fun e w' => e = .returned (.tuple #[bag ⟨B.rate, B.burst, lev B nw units, nw⟩, .int .i64 (wait (lev B nw units) B.rate), .bool true]) ∧ Below wx.heap.size wx w') := fun wx => (ChI.impl_any B nw units wx).mono fun e w' ⟨h1, h2⟩ => ⟨by rw [h1, ans_yes U.out.fi], h2⟩
        have nb : nw ≤ 1000000000000 := U.out.far
        clear hnw nl
        obtain ⟨L, hL⟩ : ∃ L, lev B nw units = L := ⟨_, rfl⟩
        rw [hL] at U CI
        obtain ⟨V, hV⟩ : ∃ V, wait L B.rate = V := ⟨_, rfl⟩
        rw [hV] at U CI
        have v0 := U.out.w0
        have v1 := U.out.w1
        have v2 := U.out.neg
        have v3 := U.out.top
        clear hL hV
        obtain ⟨b0, b1, b2, b3, _, _, _, _⟩ := fourB CC.out.one
        have lp := (Array.getElem?_eq_some_iff.1 CC.out.one).1
        go_upto_region 18 with (first | (go_at_call 9; refine (CI.out _).mono ?_; rintro e w7 ⟨rfl, b7⟩; have C7 := Seg.hid (CC.out.next b7); clear b7))
        obtain ⟨s, hs⟩ : ∃ s, w7.heap.size = s := ⟨_, rfl⟩
        obtain ⟨w8, hw8⟩ : ∃ w8, w7.alloc (.cells (brow ⟨B.rate, B.burst, L, nw⟩) 25 (0, 0)) = w8 := ⟨_, rfl⟩
        rw [hw8, hs]
        have R8 : Hid (w8.heap[s]? = some (.cells (brow ⟨B.rate, B.burst, L, nw⟩) 25 (0, 0))) := by show _ = _; rw [← hw8, ← hs]; exact heap_alloc_new _ _
        have C8 : Hid (CW w w8 p q B G) := by show CW _ _ _ _ _ _; rw [← hw8]; exact C7.out.next (below1 _ _)
        have hps : p ≠ s := by have := (Array.getElem?_eq_some_iff.1 C7.out.one).1; omega
        clear hw8 hs C7 CC CI b0 b1 b2 b3 lp
        have l8 := (Array.getElem?_eq_some_iff.1 R8.out).1
        obtain ⟨d0, d1, d2, d3, _, _, _, _⟩ := fourB R8.out
        have t1 : ¬ V < 0 := by omega
        have t2 : ¬ B.burst < L := by omega
        have C9 := Seg.hid (C8.out.put ⟨B.rate, B.burst, L, nw⟩)
        obtain ⟨e0, e1, e2, e3, k0, k1, k2, k3⟩ := fourB C8.out.one
        have lp8 := (Array.getElem?_eq_some_iff.1 C8.out.one).1
        by_cases hv : 0 < V
        · have t3 : ¬ 0 ≤ L := by have := v2 hv; omega
          go_upto_region 21 with fail
          obtain ⟨w9, hw9⟩ : ∃ w9, (((w8.setCell ⟨p, 0, none⟩ (.int .i64 B.rate)).setCell ⟨p, 1, none⟩ (.int .i64 B.burst)).setCell ⟨p, 2, none⟩ (.int .i64 L)).setCell ⟨p, 3, none⟩ (.int .i64 nw) = w9 := ⟨_, rfl⟩
          rw [hw9]
          have CN : Hid (CW w w9 p q ⟨B.rate, B.burst, L, nw⟩ G) := by show CW _ _ _ _ _ _; rw [← hw9]; exact C9.out
          clear hw9 C9 C8 R8 e0 e1 e2 e3 k0 k1 k2 k3 d0 d1 d2 d3 lp8 l8
          obtain ⟨g0, g1, g2, g3, _, _, _, _⟩ := fourB CN.out.two
          have lq := (Array.getElem?_eq_some_iff.1 CN.out.two).1
          have NX := Seg.hid U.out.next
          have TO := Seg.hid U.out.told
          obtain ⟨M, hM⟩ : ∃ M, G.rate * (nw - G.time) = M := ⟨_, rfl⟩
          have m0 := U.out.m0
          have m1 := U.out.m1
          rw [hM] at m0 m1 TO
          have gt0 := BE.out.t0
          have gt1 := BE.out.t1
          have gl0 := BE.out.l0
          have gl1 := BE.out.l1
          have gu1 := BE.out.u1
          have us0 := IV.out.u0
          have us1 := IV.out.u1
          have nt : G.time ≤ nw := Int.le_trans IV.out.time (by have := U.out.next.nw; have := U.out.fi; simp only [fine, ok, inR, Bool.and_eq_true, decide_eq_true_eq] at this; omega)
          clear U IV
          have q1 : IntKind.i64.wrap (used + units) = used + units := by rw [IntKind.wrap_i64] <;> omega
          have q2 : IntKind.i64.wrap (nw - G.time) = nw - G.time := by rw [IntKind.wrap_i64] <;> omega
          have q3' : IntKind.i64.wrap M = M := by rw [IntKind.wrap_i64] <;> omega
          have q4 : IntKind.i64.wrap (G.level + M) = G.level + M := by rw [IntKind.wrap_i64] <;> omega
          have q5 : IntKind.i64.wrap (G.level + M + units) = G.level + M + units := by rw [IntKind.wrap_i64] <;> omega
          have q6 : IntKind.i64.wrap (nw + V) = nw + V := by rw [IntKind.wrap_i64] <;> omega
          by_cases ht : G.level + M + units < used + units
          · have hgl : ¬ 0 ≤ G.level := fun h => by have := TO.out h; omega
            clear TO
            go_wp2_with fail
            go_roundw
            case rel => exact ⟨nw + V, used + units, i + 1, _, by omega, by first | rfl | go_num, by first | rfl | go_num, by go_num, CN.out, NX.out⟩
            case measure => simp [intOf]; omega
          · clear TO
            go_wp2_with fail
            go_roundw
            case rel => exact ⟨nw + V, used + units, i + 1, _, by omega, by first | rfl | go_num, by first | rfl | go_num, by go_num, CN.out, NX.out⟩
            case measure => simp [intOf]; omega
        · go_upto_region 21 with fail
          obtain ⟨w9, hw9⟩ : ∃ w9, (((w8.setCell ⟨p, 0, none⟩ (.int .i64 B.rate)).setCell ⟨p, 1, none⟩ (.int .i64 B.burst)).setCell ⟨p, 2, none⟩ (.int .i64 L)).setCell ⟨p, 3, none⟩ (.int .i64 nw) = w9 := ⟨_, rfl⟩
          rw [hw9]
          have CN : Hid (CW w w9 p q ⟨B.rate, B.burst, L, nw⟩ G) := by show CW _ _ _ _ _ _; rw [← hw9]; exact C9.out
          clear hw9 C9 C8 R8 e0 e1 e2 e3 k0 k1 k2 k3 d0 d1 d2 d3 lp8 l8
          obtain ⟨g0, g1, g2, g3, _, _, _, _⟩ := fourB CN.out.two
          have lq := (Array.getElem?_eq_some_iff.1 CN.out.two).1
          have NX := Seg.hid U.out.next
          have TO := Seg.hid U.out.told
          obtain ⟨M, hM⟩ : ∃ M, G.rate * (nw - G.time) = M := ⟨_, rfl⟩
          have m0 := U.out.m0
          have m1 := U.out.m1
          rw [hM] at m0 m1 TO
          have gt0 := BE.out.t0
          have gt1 := BE.out.t1
          have gl0 := BE.out.l0
          have gl1 := BE.out.l1
          have gu1 := BE.out.u1
          have us0 := IV.out.u0
          have us1 := IV.out.u1
          have nt : G.time ≤ nw := Int.le_trans IV.out.time (by have := U.out.next.nw; have := U.out.fi; simp only [fine, ok, inR, Bool.and_eq_true, decide_eq_true_eq] at this; omega)
          clear U IV
          have q1 : IntKind.i64.wrap (used + units) = used + units := by rw [IntKind.wrap_i64] <;> omega
          have q2 : IntKind.i64.wrap (nw - G.time) = nw - G.time := by rw [IntKind.wrap_i64] <;> omega
          have q3' : IntKind.i64.wrap M = M := by rw [IntKind.wrap_i64] <;> omega
          have q4 : IntKind.i64.wrap (G.level + M) = G.level + M := by rw [IntKind.wrap_i64] <;> omega
          have q5 : IntKind.i64.wrap (G.level + M + units) = G.level + M + units := by rw [IntKind.wrap_i64] <;> omega
          have q6 : IntKind.i64.wrap (nw + V) = nw + V := by rw [IntKind.wrap_i64] <;> omega
          by_cases ht : G.level + M + units < used + units
          · have hgl : ¬ 0 ≤ G.level := fun h => by have := TO.out h; omega
            clear TO
            go_wp2_with fail
            go_roundw
            case rel => exact ⟨nw + V, used + units, i + 1, _, by omega, by first | rfl | go_num, by first | rfl | go_num, by go_num, CN.out, NX.out⟩
            case measure => simp [intOf]; omega
          · clear TO
            go_wp2_with fail
            go_roundw
            case rel => exact ⟨nw + V, used + units, i + 1, _, by omega, by first | rfl | go_num, by first | rfl | go_num, by go_num, CN.out, NX.out⟩
            case measure => simp [intOf]; omega
      · go_wp2_with fail
        go_ret
        exact ⟨rfl, HR.out.1.bel⟩
  have h4 : fl = true := by cases fl <;> simp_all
  subst h4
  by_cases h5 : 500000000000 < B0.time
  · skip
    go_upto_region 7 with fail
    obtain ⟨wg, hwg⟩ : ∃ wg, (((w4.setCell ⟨p, 0, none⟩ (.int .i64 3)).setCell ⟨p, 1, none⟩ (.int .i64 10)).setCell ⟨p, 2, none⟩ (.int .i64 10)).setCell ⟨p, 3, none⟩ (.int .i64 0) = wg := ⟨_, rfl⟩
    rw [hwg]
    obtain ⟨G, hG⟩ : ∃ G : Bkt, G = ⟨3, 10, 10, 0⟩ := ⟨_, rfl⟩
    have BE : Hid (Be G) := by show Be G; rw [hG]; exact be_toy
    have R5 : Hid (wg.heap[p]? = some (.cells (brow G) 25 (0, 0))) := by show _ = _; rw [← hwg, hG]; exact Cells.whole (vs := brow ⟨3, 10, 10, 0⟩) R4.out rfl
    have B5 : Hid (Below w.heap.size w wg) := by show Below _ _ _; rw [← hwg]; exact Cells.below_setCells hpw (brow ⟨3, 10, 10, 0⟩).toList 0 _ _ B4.out
    clear hwg hG R4 B4 c0 c1 c2 c3 g0 g1 g2 g3 l4
    have R4 := R5
    have B4 := B5
    clear R5 B5
    obtain ⟨c0, c1, c2, c3, g0, g1, g2, g3⟩ := fourB R4.out
    have l4 := (Array.getElem?_eq_some_iff.1 R4.out).1
    have lg := l4
    go_upto_region 8 with fail
    obtain ⟨q, hq⟩ : ∃ q, wg.heap.size = q := ⟨_, rfl⟩
    obtain ⟨wh, hwh⟩ : ∃ wh, wg.alloc (.cells (brow G) 25 (0, 0)) = wh := ⟨_, rfl⟩
    rw [hwh, hq]
    have C0 : Hid (CW w wh p q G G) := by
      show CW _ _ _ _ _ _
      rw [← hwh, ← hq]
      exact ⟨((below1 wg _).block _ l4).trans R4.out, heap_alloc_new _ _, by omega, hpw, chain B4.out (below1 _ _)⟩
    clear hwh hq R4 B4 c0 c1 c2 c3 g0 g1 g2 g3 l4 lg
    obtain ⟨_, _, _, c3, _, _, _, _⟩ := fourB C0.out.one
    have l5 := (Array.getElem?_eq_some_iff.1 C0.out.one).1
    go_wp2_with fail
    go_loopw [12, 13, 15] (fun vn vu vi wr => ∃ (now used : Int) (i : Nat) (B : Bkt), i ≤ 12 ∧ vn = .int .i64 now ∧ vu = .int .i64 used ∧ vi = .int .i64 i ∧ Hid (CW w wr p q B G ∧ Iv G B now used i)) (fun _ _ vi _ => 12 - (intOf vi).toNat)
    case atStart => exact ⟨G.time, 0, 0, G, by omega, rfl, rfl, rfl, C0.out, Iv.start BE.out⟩
    case round =>
      clear C0 c3 l5
      obtain ⟨now, used, i, B, hi, rfl, rfl, rfl, HR⟩ := hrel
      by_cases hlt : i < 12
      · have f0 : (i : Int) < 12 := by omega
        have wi : IntKind.i64.wrap ((i : Int) + 20) = (i : Int) + 20 := by rw [IntKind.wrap_i64] <;> omega
        have wi2 : IntKind.i64.wrap ((i : Int) + 40) = (i : Int) + 40 := by rw [IntKind.wrap_i64] <;> omega
        have CC := Seg.hid HR.out.1
        have IV := Seg.hid HR.out.2
        clear HR
        go_wp2_with fail
        refine (AT.out wr (i : Int) (by omega) (by omega) CC.out.bel).mono ?_
        rintro e wx ⟨⟨y1, hy1, rfl⟩, rfl⟩
        go_wp2_with fail
        refine (AT.out wr ((i : Int) + 20) (by omega) (by omega) CC.out.bel).mono ?_
        rintro e wx ⟨⟨y2, hy2, rfl⟩, rfl⟩
        go_upto_region 14 with fail
        have hm0 : (0 : Int) ≤ (y1 : Int) * (1 + (y2 : Int) % 9) := Int.mul_nonneg (by omega) (by omega)
        have hm1 : (y1 : Int) * (1 + (y2 : Int) % 9) ≤ 255 * 9 := Int.mul_le_mul (by omega) (by omega) (by omega) (by omega)
        generalize (y1 : Int) * (1 + (y2 : Int) % 9) = units at *
        rw [show wrap64 units = units by unfold wrap64; omega]
        have nl : -1000000000000 ≤ now ∧ now ≤ 600000000000 := by have := IV.out.far; have := BE.out.t0; have := BE.out.t1; have := IV.out.time; have := IV.out.nw; omega
        go_wp2_with fail
        refine (AT.out wr ((i : Int) + 40) (by omega) (by omega) CC.out.bel).mono ?_
        rintro e wx ⟨⟨y3, hy3, rfl⟩, rfl⟩
        go_upto_region 15 with fail
        obtain ⟨d, hd⟩ : ∃ d : Int, (y3 : Int) % 5 = d := ⟨_, rfl⟩
        have hd0 : 0 ≤ d ∧ d ≤ 4 := by omega
        rw [hd]
        clear hd hy1 hy2 hy3 wi wi2
        have U := Seg.hid (use BE.out IV.out hlt hm0 (by omega) hd0.1 hd0.2)
        have nx : ∃ nw, now + d = nw := ⟨_, rfl⟩
        obtain ⟨nw, hnw⟩ := nx
        rw [hnw] at U ⊢
        have CI : Hid (∀ wx, Calls Try.prog 9 #[bag B, .int .i64 nw, .int .i64 units] wx fun e w' => e = .returned (.tuple #[bag ⟨B.rate, B.burst, lev B nw units, nw⟩, .int .i64 (wait (lev B nw units) B.rate), .bool true]) ∧ Below wx.heap.size wx w') := fun wx => (ChI.impl_any B nw units wx).mono fun e w' ⟨h1, h2⟩ => ⟨by rw [h1, ans_yes U.out.fi], h2⟩
        have nb : nw ≤ 1000000000000 := U.out.far
        clear hnw nl
        obtain ⟨L, hL⟩ : ∃ L, lev B nw units = L := ⟨_, rfl⟩
        rw [hL] at U CI
        obtain ⟨V, hV⟩ : ∃ V, wait L B.rate = V := ⟨_, rfl⟩
        rw [hV] at U CI
        have v0 := U.out.w0
        have v1 := U.out.w1
        have v2 := U.out.neg
        have v3 := U.out.top
        clear hL hV
        obtain ⟨b0, b1, b2, b3, _, _, _, _⟩ := fourB CC.out.one
        have lp := (Array.getElem?_eq_some_iff.1 CC.out.one).1
        go_upto_region 18 with (first | (go_at_call 9; refine (CI.out _).mono ?_; rintro e w7 ⟨rfl, b7⟩; have C7 := Seg.hid (CC.out.next b7); clear b7))
        obtain ⟨s, hs⟩ : ∃ s, w7.heap.size = s := ⟨_, rfl⟩
        obtain ⟨w8, hw8⟩ : ∃ w8, w7.alloc (.cells (brow ⟨B.rate, B.burst, L, nw⟩) 25 (0, 0)) = w8 := ⟨_, rfl⟩
        rw [hw8, hs]
        have R8 : Hid (w8.heap[s]? = some (.cells (brow ⟨B.rate, B.burst, L, nw⟩) 25 (0, 0))) := by show _ = _; rw [← hw8, ← hs]; exact heap_alloc_new _ _
        have C8 : Hid (CW w w8 p q B G) := by show CW _ _ _ _ _ _; rw [← hw8]; exact C7.out.next (below1 _ _)
        have hps : p ≠ s := by have := (Array.getElem?_eq_some_iff.1 C7.out.one).1; omega
        clear hw8 hs C7 CC CI b0 b1 b2 b3 lp
        have l8 := (Array.getElem?_eq_some_iff.1 R8.out).1
        obtain ⟨d0, d1, d2, d3, _, _, _, _⟩ := fourB R8.out
        have t1 : ¬ V < 0 := by omega
        have t2 : ¬ B.burst < L := by omega
        have C9 := Seg.hid (C8.out.put ⟨B.rate, B.burst, L, nw⟩)
        obtain ⟨e0, e1, e2, e3, k0, k1, k2, k3⟩ := fourB C8.out.one
        have lp8 := (Array.getElem?_eq_some_iff.1 C8.out.one).1
        by_cases hv : 0 < V
        · have t3 : ¬ 0 ≤ L := by have := v2 hv; omega
          go_upto_region 21 with fail
          obtain ⟨w9, hw9⟩ : ∃ w9, (((w8.setCell ⟨p, 0, none⟩ (.int .i64 B.rate)).setCell ⟨p, 1, none⟩ (.int .i64 B.burst)).setCell ⟨p, 2, none⟩ (.int .i64 L)).setCell ⟨p, 3, none⟩ (.int .i64 nw) = w9 := ⟨_, rfl⟩
          rw [hw9]
          have CN : Hid (CW w w9 p q ⟨B.rate, B.burst, L, nw⟩ G) := by show CW _ _ _ _ _ _; rw [← hw9]; exact C9.out
          clear hw9 C9 C8 R8 e0 e1 e2 e3 k0 k1 k2 k3 d0 d1 d2 d3 lp8 l8
          obtain ⟨g0, g1, g2, g3, _, _, _, _⟩ := fourB CN.out.two
          have lq := (Array.getElem?_eq_some_iff.1 CN.out.two).1
          have NX := Seg.hid U.out.next
          have TO := Seg.hid U.out.told
          obtain ⟨M, hM⟩ : ∃ M, G.rate * (nw - G.time) = M := ⟨_, rfl⟩
          have m0 := U.out.m0
          have m1 := U.out.m1
          rw [hM] at m0 m1 TO
          have gt0 := BE.out.t0
          have gt1 := BE.out.t1
          have gl0 := BE.out.l0
          have gl1 := BE.out.l1
          have gu1 := BE.out.u1
          have us0 := IV.out.u0
          have us1 := IV.out.u1
          have nt : G.time ≤ nw := Int.le_trans IV.out.time (by have := U.out.next.nw; have := U.out.fi; simp only [fine, ok, inR, Bool.and_eq_true, decide_eq_true_eq] at this; omega)
          clear U IV
          have q1 : IntKind.i64.wrap (used + units) = used + units := by rw [IntKind.wrap_i64] <;> omega
          have q2 : IntKind.i64.wrap (nw - G.time) = nw - G.time := by rw [IntKind.wrap_i64] <;> omega
          have q3' : IntKind.i64.wrap M = M := by rw [IntKind.wrap_i64] <;> omega
          have q4 : IntKind.i64.wrap (G.level + M) = G.level + M := by rw [IntKind.wrap_i64] <;> omega
          have q5 : IntKind.i64.wrap (G.level + M + units) = G.level + M + units := by rw [IntKind.wrap_i64] <;> omega
          have q6 : IntKind.i64.wrap (nw + V) = nw + V := by rw [IntKind.wrap_i64] <;> omega
          by_cases ht : G.level + M + units < used + units
          · have hgl : ¬ 0 ≤ G.level := fun h => by have := TO.out h; omega
            clear TO
            go_wp2_with fail
            go_roundw
            case rel => exact ⟨nw + V, used + units, i + 1, _, by omega, by first | rfl | go_num, by first | rfl | go_num, by go_num, CN.out, NX.out⟩
            case measure => simp [intOf]; omega
          · clear TO
            go_wp2_with fail
            go_roundw
            case rel => exact ⟨nw + V, used + units, i + 1, _, by omega, by first | rfl | go_num, by first | rfl | go_num, by go_num, CN.out, NX.out⟩
            case measure => simp [intOf]; omega
        · go_upto_region 21 with fail
          obtain ⟨w9, hw9⟩ : ∃ w9, (((w8.setCell ⟨p, 0, none⟩ (.int .i64 B.rate)).setCell ⟨p, 1, none⟩ (.int .i64 B.burst)).setCell ⟨p, 2, none⟩ (.int .i64 L)).setCell ⟨p, 3, none⟩ (.int .i64 nw) = w9 := ⟨_, rfl⟩
          rw [hw9]
          have CN : Hid (CW w w9 p q ⟨B.rate, B.burst, L, nw⟩ G) := by show CW _ _ _ _ _ _; rw [← hw9]; exact C9.out
          clear hw9 C9 C8 R8 e0 e1 e2 e3 k0 k1 k2 k3 d0 d1 d2 d3 lp8 l8
          obtain ⟨g0, g1, g2, g3, _, _, _, _⟩ := fourB CN.out.two
          have lq := (Array.getElem?_eq_some_iff.1 CN.out.two).1
          have NX := Seg.hid U.out.next
          have TO := Seg.hid U.out.told
          obtain ⟨M, hM⟩ : ∃ M, G.rate * (nw - G.time) = M := ⟨_, rfl⟩
          have m0 := U.out.m0
          have m1 := U.out.m1
          rw [hM] at m0 m1 TO
          have gt0 := BE.out.t0
          have gt1 := BE.out.t1
          have gl0 := BE.out.l0
          have gl1 := BE.out.l1
          have gu1 := BE.out.u1
          have us0 := IV.out.u0
          have us1 := IV.out.u1
          have nt : G.time ≤ nw := Int.le_trans IV.out.time (by have := U.out.next.nw; have := U.out.fi; simp only [fine, ok, inR, Bool.and_eq_true, decide_eq_true_eq] at this; omega)
          clear U IV
          have q1 : IntKind.i64.wrap (used + units) = used + units := by rw [IntKind.wrap_i64] <;> omega
          have q2 : IntKind.i64.wrap (nw - G.time) = nw - G.time := by rw [IntKind.wrap_i64] <;> omega
          have q3' : IntKind.i64.wrap M = M := by rw [IntKind.wrap_i64] <;> omega
          have q4 : IntKind.i64.wrap (G.level + M) = G.level + M := by rw [IntKind.wrap_i64] <;> omega
          have q5 : IntKind.i64.wrap (G.level + M + units) = G.level + M + units := by rw [IntKind.wrap_i64] <;> omega
          have q6 : IntKind.i64.wrap (nw + V) = nw + V := by rw [IntKind.wrap_i64] <;> omega
          by_cases ht : G.level + M + units < used + units
          · have hgl : ¬ 0 ≤ G.level := fun h => by have := TO.out h; omega
            clear TO
            go_wp2_with fail
            go_roundw
            case rel => exact ⟨nw + V, used + units, i + 1, _, by omega, by first | rfl | go_num, by first | rfl | go_num, by go_num, CN.out, NX.out⟩
            case measure => simp [intOf]; omega
          · clear TO
            go_wp2_with fail
            go_roundw
            case rel => exact ⟨nw + V, used + units, i + 1, _, by omega, by first | rfl | go_num, by first | rfl | go_num, by go_num, CN.out, NX.out⟩
            case measure => simp [intOf]; omega
      · go_wp2_with fail
        go_ret
        exact ⟨rfl, HR.out.1.bel⟩
  have h6 : B0.level < -1000000 := by
    rcases Int.lt_or_le B0.level (-1000000) with h | h
    · exact h
    · exact absurd ⟨rfl, h5, by omega⟩ hgo
  · skip
    go_upto_region 7 with fail
    obtain ⟨wg, hwg⟩ : ∃ wg, (((w4.setCell ⟨p, 0, none⟩ (.int .i64 3)).setCell ⟨p, 1, none⟩ (.int .i64 10)).setCell ⟨p, 2, none⟩ (.int .i64 10)).setCell ⟨p, 3, none⟩ (.int .i64 0) = wg := ⟨_, rfl⟩
    rw [hwg]
    obtain ⟨G, hG⟩ : ∃ G : Bkt, G = ⟨3, 10, 10, 0⟩ := ⟨_, rfl⟩
    have BE : Hid (Be G) := by show Be G; rw [hG]; exact be_toy
    have R5 : Hid (wg.heap[p]? = some (.cells (brow G) 25 (0, 0))) := by show _ = _; rw [← hwg, hG]; exact Cells.whole (vs := brow ⟨3, 10, 10, 0⟩) R4.out rfl
    have B5 : Hid (Below w.heap.size w wg) := by show Below _ _ _; rw [← hwg]; exact Cells.below_setCells hpw (brow ⟨3, 10, 10, 0⟩).toList 0 _ _ B4.out
    clear hwg hG R4 B4 c0 c1 c2 c3 g0 g1 g2 g3 l4
    have R4 := R5
    have B4 := B5
    clear R5 B5
    obtain ⟨c0, c1, c2, c3, g0, g1, g2, g3⟩ := fourB R4.out
    have l4 := (Array.getElem?_eq_some_iff.1 R4.out).1
    have lg := l4
    go_upto_region 8 with fail
    obtain ⟨q, hq⟩ : ∃ q, wg.heap.size = q := ⟨_, rfl⟩
    obtain ⟨wh, hwh⟩ : ∃ wh, wg.alloc (.cells (brow G) 25 (0, 0)) = wh := ⟨_, rfl⟩
    rw [hwh, hq]
    have C0 : Hid (CW w wh p q G G) := by
      show CW _ _ _ _ _ _
      rw [← hwh, ← hq]
      exact ⟨((below1 wg _).block _ l4).trans R4.out, heap_alloc_new _ _, by omega, hpw, chain B4.out (below1 _ _)⟩
    clear hwh hq R4 B4 c0 c1 c2 c3 g0 g1 g2 g3 l4 lg
    obtain ⟨_, _, _, c3, _, _, _, _⟩ := fourB C0.out.one
    have l5 := (Array.getElem?_eq_some_iff.1 C0.out.one).1
    go_wp2_with fail
    go_loopw [12, 13, 15] (fun vn vu vi wr => ∃ (now used : Int) (i : Nat) (B : Bkt), i ≤ 12 ∧ vn = .int .i64 now ∧ vu = .int .i64 used ∧ vi = .int .i64 i ∧ Hid (CW w wr p q B G ∧ Iv G B now used i)) (fun _ _ vi _ => 12 - (intOf vi).toNat)
    case atStart => exact ⟨G.time, 0, 0, G, by omega, rfl, rfl, rfl, C0.out, Iv.start BE.out⟩
    case round =>
      clear C0 c3 l5
      obtain ⟨now, used, i, B, hi, rfl, rfl, rfl, HR⟩ := hrel
      by_cases hlt : i < 12
      · have f0 : (i : Int) < 12 := by omega
        have wi : IntKind.i64.wrap ((i : Int) + 20) = (i : Int) + 20 := by rw [IntKind.wrap_i64] <;> omega
        have wi2 : IntKind.i64.wrap ((i : Int) + 40) = (i : Int) + 40 := by rw [IntKind.wrap_i64] <;> omega
        have CC := Seg.hid HR.out.1
        have IV := Seg.hid HR.out.2
        clear HR
        go_wp2_with fail
        refine (AT.out wr (i : Int) (by omega) (by omega) CC.out.bel).mono ?_
        rintro e wx ⟨⟨y1, hy1, rfl⟩, rfl⟩
        go_wp2_with fail
        refine (AT.out wr ((i : Int) + 20) (by omega) (by omega) CC.out.bel).mono ?_
        rintro e wx ⟨⟨y2, hy2, rfl⟩, rfl⟩
        go_upto_region 14 with fail
        have hm0 : (0 : Int) ≤ (y1 : Int) * (1 + (y2 : Int) % 9) := Int.mul_nonneg (by omega) (by omega)
        have hm1 : (y1 : Int) * (1 + (y2 : Int) % 9) ≤ 255 * 9 := Int.mul_le_mul (by omega) (by omega) (by omega) (by omega)
        generalize (y1 : Int) * (1 + (y2 : Int) % 9) = units at *
        rw [show wrap64 units = units by unfold wrap64; omega]
        have nl : -1000000000000 ≤ now ∧ now ≤ 600000000000 := by have := IV.out.far; have := BE.out.t0; have := BE.out.t1; have := IV.out.time; have := IV.out.nw; omega
        go_wp2_with fail
        refine (AT.out wr ((i : Int) + 40) (by omega) (by omega) CC.out.bel).mono ?_
        rintro e wx ⟨⟨y3, hy3, rfl⟩, rfl⟩
        go_upto_region 15 with fail
        obtain ⟨d, hd⟩ : ∃ d : Int, (y3 : Int) % 5 = d := ⟨_, rfl⟩
        have hd0 : 0 ≤ d ∧ d ≤ 4 := by omega
        rw [hd]
        clear hd hy1 hy2 hy3 wi wi2
        have U := Seg.hid (use BE.out IV.out hlt hm0 (by omega) hd0.1 hd0.2)
        have nx : ∃ nw, now + d = nw := ⟨_, rfl⟩
        obtain ⟨nw, hnw⟩ := nx
        rw [hnw] at U ⊢
        have CI : Hid (∀ wx, Calls Try.prog 9 #[bag B, .int .i64 nw, .int .i64 units] wx fun e w' => e = .returned (.tuple #[bag ⟨B.rate, B.burst, lev B nw units, nw⟩, .int .i64 (wait (lev B nw units) B.rate), .bool true]) ∧ Below wx.heap.size wx w') := fun wx => (ChI.impl_any B nw units wx).mono fun e w' ⟨h1, h2⟩ => ⟨by rw [h1, ans_yes U.out.fi], h2⟩
        have nb : nw ≤ 1000000000000 := U.out.far
        clear hnw nl
        obtain ⟨L, hL⟩ : ∃ L, lev B nw units = L := ⟨_, rfl⟩
        rw [hL] at U CI
        obtain ⟨V, hV⟩ : ∃ V, wait L B.rate = V := ⟨_, rfl⟩
        rw [hV] at U CI
        have v0 := U.out.w0
        have v1 := U.out.w1
        have v2 := U.out.neg
        have v3 := U.out.top
        clear hL hV
        obtain ⟨b0, b1, b2, b3, _, _, _, _⟩ := fourB CC.out.one
        have lp := (Array.getElem?_eq_some_iff.1 CC.out.one).1
        go_upto_region 18 with (first | (go_at_call 9; refine (CI.out _).mono ?_; rintro e w7 ⟨rfl, b7⟩; have C7 := Seg.hid (CC.out.next b7); clear b7))
        obtain ⟨s, hs⟩ : ∃ s, w7.heap.size = s := ⟨_, rfl⟩
        obtain ⟨w8, hw8⟩ : ∃ w8, w7.alloc (.cells (brow ⟨B.rate, B.burst, L, nw⟩) 25 (0, 0)) = w8 := ⟨_, rfl⟩
        rw [hw8, hs]
        have R8 : Hid (w8.heap[s]? = some (.cells (brow ⟨B.rate, B.burst, L, nw⟩) 25 (0, 0))) := by show _ = _; rw [← hw8, ← hs]; exact heap_alloc_new _ _
        have C8 : Hid (CW w w8 p q B G) := by show CW _ _ _ _ _ _; rw [← hw8]; exact C7.out.next (below1 _ _)
        have hps : p ≠ s := by have := (Array.getElem?_eq_some_iff.1 C7.out.one).1; omega
        clear hw8 hs C7 CC CI b0 b1 b2 b3 lp
        have l8 := (Array.getElem?_eq_some_iff.1 R8.out).1
        obtain ⟨d0, d1, d2, d3, _, _, _, _⟩ := fourB R8.out
        have t1 : ¬ V < 0 := by omega
        have t2 : ¬ B.burst < L := by omega
        have C9 := Seg.hid (C8.out.put ⟨B.rate, B.burst, L, nw⟩)
        obtain ⟨e0, e1, e2, e3, k0, k1, k2, k3⟩ := fourB C8.out.one
        have lp8 := (Array.getElem?_eq_some_iff.1 C8.out.one).1
        by_cases hv : 0 < V
        · have t3 : ¬ 0 ≤ L := by have := v2 hv; omega
          go_upto_region 21 with fail
          obtain ⟨w9, hw9⟩ : ∃ w9, (((w8.setCell ⟨p, 0, none⟩ (.int .i64 B.rate)).setCell ⟨p, 1, none⟩ (.int .i64 B.burst)).setCell ⟨p, 2, none⟩ (.int .i64 L)).setCell ⟨p, 3, none⟩ (.int .i64 nw) = w9 := ⟨_, rfl⟩
          rw [hw9]
          have CN : Hid (CW w w9 p q ⟨B.rate, B.burst, L, nw⟩ G) := by show CW _ _ _ _ _ _; rw [← hw9]; exact C9.out
          clear hw9 C9 C8 R8 e0 e1 e2 e3 k0 k1 k2 k3 d0 d1 d2 d3 lp8 l8
          obtain ⟨g0, g1, g2, g3, _, _, _, _⟩ := fourB CN.out.two
          have lq := (Array.getElem?_eq_some_iff.1 CN.out.two).1
          have NX := Seg.hid U.out.next
          have TO := Seg.hid U.out.told
          obtain ⟨M, hM⟩ : ∃ M, G.rate * (nw - G.time) = M := ⟨_, rfl⟩
          have m0 := U.out.m0
          have m1 := U.out.m1
          rw [hM] at m0 m1 TO
          have gt0 := BE.out.t0
          have gt1 := BE.out.t1
          have gl0 := BE.out.l0
          have gl1 := BE.out.l1
          have gu1 := BE.out.u1
          have us0 := IV.out.u0
          have us1 := IV.out.u1
          have nt : G.time ≤ nw := Int.le_trans IV.out.time (by have := U.out.next.nw; have := U.out.fi; simp only [fine, ok, inR, Bool.and_eq_true, decide_eq_true_eq] at this; omega)
          clear U IV
          have q1 : IntKind.i64.wrap (used + units) = used + units := by rw [IntKind.wrap_i64] <;> omega
          have q2 : IntKind.i64.wrap (nw - G.time) = nw - G.time := by rw [IntKind.wrap_i64] <;> omega
          have q3' : IntKind.i64.wrap M = M := by rw [IntKind.wrap_i64] <;> omega
          have q4 : IntKind.i64.wrap (G.level + M) = G.level + M := by rw [IntKind.wrap_i64] <;> omega
          have q5 : IntKind.i64.wrap (G.level + M + units) = G.level + M + units := by rw [IntKind.wrap_i64] <;> omega
          have q6 : IntKind.i64.wrap (nw + V) = nw + V := by rw [IntKind.wrap_i64] <;> omega
          by_cases ht : G.level + M + units < used + units
          · have hgl : ¬ 0 ≤ G.level := fun h => by have := TO.out h; omega
            clear TO
            go_wp2_with fail
            go_roundw
            case rel => exact ⟨nw + V, used + units, i + 1, _, by omega, by first | rfl | go_num, by first | rfl | go_num, by go_num, CN.out, NX.out⟩
            case measure => simp [intOf]; omega
          · clear TO
            go_wp2_with fail
            go_roundw
            case rel => exact ⟨nw + V, used + units, i + 1, _, by omega, by first | rfl | go_num, by first | rfl | go_num, by go_num, CN.out, NX.out⟩
            case measure => simp [intOf]; omega
        · go_upto_region 21 with fail
          obtain ⟨w9, hw9⟩ : ∃ w9, (((w8.setCell ⟨p, 0, none⟩ (.int .i64 B.rate)).setCell ⟨p, 1, none⟩ (.int .i64 B.burst)).setCell ⟨p, 2, none⟩ (.int .i64 L)).setCell ⟨p, 3, none⟩ (.int .i64 nw) = w9 := ⟨_, rfl⟩
          rw [hw9]
          have CN : Hid (CW w w9 p q ⟨B.rate, B.burst, L, nw⟩ G) := by show CW _ _ _ _ _ _; rw [← hw9]; exact C9.out
          clear hw9 C9 C8 R8 e0 e1 e2 e3 k0 k1 k2 k3 d0 d1 d2 d3 lp8 l8
          obtain ⟨g0, g1, g2, g3, _, _, _, _⟩ := fourB CN.out.two
          have lq := (Array.getElem?_eq_some_iff.1 CN.out.two).1
          have NX := Seg.hid U.out.next
          have TO := Seg.hid U.out.told
          obtain ⟨M, hM⟩ : ∃ M, G.rate * (nw - G.time) = M := ⟨_, rfl⟩
          have m0 := U.out.m0
          have m1 := U.out.m1
          rw [hM] at m0 m1 TO
          have gt0 := BE.out.t0
          have gt1 := BE.out.t1
          have gl0 := BE.out.l0
          have gl1 := BE.out.l1
          have gu1 := BE.out.u1
          have us0 := IV.out.u0
          have us1 := IV.out.u1
          have nt : G.time ≤ nw := Int.le_trans IV.out.time (by have := U.out.next.nw; have := U.out.fi; simp only [fine, ok, inR, Bool.and_eq_true, decide_eq_true_eq] at this; omega)
          clear U IV
          have q1 : IntKind.i64.wrap (used + units) = used + units := by rw [IntKind.wrap_i64] <;> omega
          have q2 : IntKind.i64.wrap (nw - G.time) = nw - G.time := by rw [IntKind.wrap_i64] <;> omega
          have q3' : IntKind.i64.wrap M = M := by rw [IntKind.wrap_i64] <;> omega
          have q4 : IntKind.i64.wrap (G.level + M) = G.level + M := by rw [IntKind.wrap_i64] <;> omega
          have q5 : IntKind.i64.wrap (G.level + M + units) = G.level + M + units := by rw [IntKind.wrap_i64] <;> omega
          have q6 : IntKind.i64.wrap (nw + V) = nw + V := by rw [IntKind.wrap_i64] <;> omega
          by_cases ht : G.level + M + units < used + units
          · have hgl : ¬ 0 ≤ G.level := fun h => by have := TO.out h; omega
            clear TO
            go_wp2_with fail
            go_roundw
            case rel => exact ⟨nw + V, used + units, i + 1, _, by omega, by first | rfl | go_num, by first | rfl | go_num, by go_num, CN.out, NX.out⟩
            case measure => simp [intOf]; omega
          · clear TO
            go_wp2_with fail
            go_roundw
            case rel => exact ⟨nw + V, used + units, i + 1, _, by omega, by first | rfl | go_num, by first | rfl | go_num, by go_num, CN.out, NX.out⟩
            case measure => simp [intOf]; omega
      · go_wp2_with fail
        go_ret
        exact ⟨rfl, HR.out.1.bel⟩
theorem walk_any (A : Option Addr) (len cap : Nat) (zs : List Int) (A' : Option Addr) (len' cap' : Nat) (zs' : List Int) (w : World)
    (h : (A = none ∧ len = 0 ∧ cap = 0 ∧ zs = []) ∨ ∃ x, A = some x ∧ len ≤ cap ∧ cap ≤ maxLen ∧ zs.length = cap ∧ (∀ i, i < zs.length → w.cell? (x.add i) = some (.int .u8 (zs.getD i 0))) ∧ ∀ n ∈ zs, (Lit.int .u8 n).wf = true)
    (h' : (A' = none ∧ len' = 0 ∧ cap' = 0 ∧ zs' = []) ∨ ∃ x, A' = some x ∧ len' ≤ cap' ∧ cap' ≤ maxLen ∧ zs'.length = cap' ∧ (∀ i, i < zs'.length → w.cell? (x.add i) = some (.int .u8 (zs'.getD i 0))) ∧ ∀ n ∈ zs', (Lit.int .u8 n).wf = true) :
    Calls Try.prog 3 #[.slice A len cap, .slice A' len' cap'] w fun e w' => e = .returned (.bool true) ∧ Below w.heap.size w w' := by
  by_cases hb : 1048576 < len
  · exact walk_big0 A A' len cap len' cap' w hb
  · by_cases hb' : 1048576 < len'
    · exact walk_big1 A A' len cap len' cap' w (by omega) hb'
    · exact walk A A' len cap len' cap' w (by omega) (by omega) (LawH.row_bytes w A len cap zs h (by omega)) (LawH.row_bytes w A' len' cap' zs' h' (by omega))
end Go.Proofs.Ytmkkdladgoilmaa.ChdLaw
