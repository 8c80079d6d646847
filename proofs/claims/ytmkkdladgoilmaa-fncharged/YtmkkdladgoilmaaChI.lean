/- Charge of the program. -/
import Derived.Test.YtmkkdladgoilmaaChH
import Derived.Deep.RegionHeld3
namespace Go.Proofs.Ytmkkdladgoilmaa.ChI
set_option maxRecDepth 8000
open Go.RowKit
open Ls Lp ChP
open Recs (hsz below1 below2 chain chainD)
set_option linter.unusedVariables false
abbrev brow (b : Bkt) : Array Value := #[.int .i64 b.rate, .int .i64 b.burst, .int .i64 b.level, .int .i64 b.time]
abbrev zrow : Array Value := #[.int .i64 0, .int .i64 0, .int .i64 0, .int .i64 0]
theorem fourB {w : World} {g ty : Nat} {a b c d : Value} (h : w.heap[g]? = some (.cells #[a, b, c, d] ty (0, 0))) : w.cell? ⟨g, 0, none⟩ = some a ∧ w.cell? ⟨g, 1, none⟩ = some b ∧ w.cell? ⟨g, 2, none⟩ = some c ∧ w.cell? ⟨g, 3, none⟩ = some d ∧ w.frozen? ⟨g, 0, none⟩ = false ∧ w.frozen? ⟨g, 1, none⟩ = false ∧ w.frozen? ⟨g, 2, none⟩ = false ∧ w.frozen? ⟨g, 3, none⟩ = false :=
  ⟨cell_of_row w g 0 _ _ (0, 0) h, cell_of_row w g 1 _ _ (0, 0) h, cell_of_row w g 2 _ _ (0, 0) h, cell_of_row w g 3 _ _ (0, 0) h, frozen_of_row w g 0 _ _ h, frozen_of_row w g 1 _ _ h, frozen_of_row w g 2 _ _ h, frozen_of_row w g 3 _ _ h⟩
/-- The variables' blocks: the Bucket that came and the one that is answered. -/
structure Two (w wx : World) (b : Bkt) : Prop where
  one : wx.heap[w.heap.size]? = some (.cells (brow b) 25 (0, 0))
  two : wx.heap[w.heap.size + 1]? = some (.cells zrow 25 (0, 0))
  bel : Below w.heap.size w wx
theorem Two.lt {w wx : World} {b : Bkt} (h : Two w wx b) : w.heap.size + 1 < wx.heap.size := (Array.getElem?_eq_some_iff.1 h.two).1
theorem Two.later {w wx wy : World} {b : Bkt} (h : Two w wx b) (hb : Below wx.heap.size wx wy) : Two w wy b :=
  ⟨(hb.block _ (by have := h.lt; omega)).trans h.one, (hb.block _ h.lt).trans h.two, chain h.bel hb⟩
theorem two_new (w : World) (b : Bkt) : Two w ((w.alloc (.cells (brow b) 25 (0, 0))).alloc (.cells zrow 25 (0, 0))) b := by
  refine ⟨?_, ?_, below2 _ _ _⟩
  · rw [(below1 (w.alloc (.cells (brow b) 25 (0, 0))) _).block _ (by rw [hsz]; omega)]
    exact heap_alloc_new _ _
  · have := heap_alloc_new (w.alloc (.cells (brow b) 25 (0, 0))) (.cells zrow 25 (0, 0))
    rwa [hsz] at this
/-- The answer's block is written whole: what stands then. -/
theorem Two.put {w wx : World} {b : Bkt} (h : Two w wx b) (r : Bkt) : (wx.setCells (w.heap.size + 1) 0 (brow r).toList).heap[w.heap.size + 1]? = some (.cells (brow r) 25 (0, 0)) ∧ Below w.heap.size w (wx.setCells (w.heap.size + 1) 0 (brow r).toList) :=
  ⟨Cells.whole (vs := brow r) h.two rfl, Cells.below_setCells (by omega) _ _ _ _ h.bel⟩
set_option maxHeartbeats 6400000 in
theorem no_core (b : Bkt) (now units : Int) (w : World) (q0 q1 q2 : Bool) (h0 : okB b = q0) (h1 : inR b.time now 1000000000000 = q1) (h2 : inR 0 units 1000000 = q2) (hn : (q0 && q1 && q2) = false) :
    Calls Try.prog 9 #[bag b, .int .i64 now, .int .i64 units] w fun e w' => e = .returned (ans b now units) ∧ Below w.heap.size w w' := by
  have Z : Hid (fine b now units = false) := by
    show _ = _
    have : ok b now units = (okB b && inR b.time now 1000000000000 && inR 0 units 1000000) := by simp only [ok, okB, Bool.and_assoc]
    rw [fine, this, h0, h1, h2, hn]; rfl
  have CO : Hid (∀ wx, Calls Try.prog 18 #[bag b] wx fun e w' => e = .returned (.bool q0) ∧ Below wx.heap.size wx w') := fun wx => by rw [← h0]; exact ok_any b wx
  have C1 : Hid (∀ wx, Calls Try.prog 19 #[.int .i64 now, .int .i64 b.time, .int .i64 1000000000000] wx fun e w' => e = .returned (.bool q1) ∧ wx = w') := fun wx => by rw [← h1]; exact InB.within_any _ _ _ wx
  have C2 : Hid (∀ wx, Calls Try.prog 19 #[.int .i64 units, .int .i64 0, .int .i64 1000000] wx fun e w' => e = .returned (.bool q2) ∧ wx = w') := fun wx => by rw [← h2]; exact InB.within_any _ _ _ wx
  clear h0 h1 h2
  go_enter Try.func9, Try.ntmps9
  go_upto_region 1 with fail
  obtain ⟨w1, hw1⟩ : ∃ w1, (w.alloc (.cells (brow b) 25 (0, 0))).alloc (.cells zrow 25 (0, 0)) = w1 := ⟨_, rfl⟩
  rw [hw1]
  have T1 : Hid (Two w w1 b) := hw1 ▸ two_new w b
  clear hw1
  obtain ⟨c0, c1, c2, c3, _, _, _, _⟩ := fourB T1.out.one
  have l0 : w.heap.size < w1.heap.size := by have := T1.out.lt; omega
  cases q0
  all_goals cases q1
  all_goals cases q2
  all_goals first
    | (exact absurd hn (by decide))
    | skip
  all_goals clear hn
  all_goals go_upto_region 2 with (first | (go_at_call 18; (with_reducible refine (CO.out _).mono ?_); rintro e w2 ⟨rfl, b2⟩; have T2 := Seg.hid (T1.out.later b2); clear b2; obtain ⟨d0, d1, d2, d3, _, _, _, _⟩ := fourB T2.out.one) | (go_at_call 19; (with_reducible refine (C1.out _).mono ?_); rintro e w' ⟨rfl, rfl⟩) | (go_at_call 19; (with_reducible refine (C2.out _).mono ?_); rintro e w' ⟨rfl, rfl⟩))
  all_goals
    obtain ⟨n0, n1, n2, n3, f0, f1, f2, f3⟩ := fourB T2.out.two
    have l2 := T2.out.lt
    have P2 := Seg.hid (T2.out.put ⟨0, 0, 0, 0⟩)
    go_wp2_with fail
    exact bodyPost_ret (v := .tuple #[.agg zrow, .int .i64 0, .bool false]) (R3.results_row_tmp2 rfl _ _ (w.heap.size + 1) 25 zrow (0, 0) _ _ _ rfl rfl rfl P2.out.1 Try.underlying25 rfl infoBkt) rfl ⟨by rw [ans_no Z.out], P2.out.2⟩
theorem Two.set {w wx : World} {b : Bkt} (h : Two w wx b) (l t : Int) : Two w ((wx.setCell ⟨w.heap.size, 2, none⟩ (.int .i64 l)).setCell ⟨w.heap.size, 3, none⟩ (.int .i64 t)) ⟨b.rate, b.burst, l, t⟩ := by
  refine ⟨?_, ?_, (h.bel.setCell (Nat.le_refl _) _).setCell (Nat.le_refl _) _⟩
  · exact heap_setCell_same _ _ 3 _ _ _ (heap_setCell_same wx _ 2 _ _ _ h.one)
  · rw [heap_setCell_other _ _ _ _ (by show w.heap.size + 1 ≠ w.heap.size; omega), heap_setCell_other _ _ _ _ (by show w.heap.size + 1 ≠ w.heap.size; omega)]
    exact h.two
set_option maxHeartbeats 6400000 in
theorem yes_core (b : Bkt) (now units : Int) (w : World) (h0 : okB b = true) (h1 : inR b.time now 1000000000000 = true) (h2 : inR 0 units 1000000 = true) :
    Calls Try.prog 9 #[bag b, .int .i64 now, .int .i64 units] w fun e w' => e = .returned (ans b now units) ∧ Below w.heap.size w w' := by
  have OK : Hid (ok b now units = true) := by
    show _ = _
    have : ok b now units = (okB b && inR b.time now 1000000000000 && inR 0 units 1000000) := by simp only [ok, okB, Bool.and_assoc]
    rw [this, h0, h1, h2]; rfl
  have CO : Hid (∀ wx, Calls Try.prog 18 #[bag b] wx fun e w' => e = .returned (.bool true) ∧ Below wx.heap.size wx w') := fun wx => by rw [← h0]; exact ok_any b wx
  have C1 : Hid (∀ wx, Calls Try.prog 19 #[.int .i64 now, .int .i64 b.time, .int .i64 1000000000000] wx fun e w' => e = .returned (.bool true) ∧ wx = w') := fun wx => by rw [← h1]; exact InB.within_any _ _ _ wx
  have C2 : Hid (∀ wx, Calls Try.prog 19 #[.int .i64 units, .int .i64 0, .int .i64 1000000] wx fun e w' => e = .returned (.bool true) ∧ wx = w') := fun wx => by rw [← h2]; exact InB.within_any _ _ _ wx
  clear h0 h1 h2
  obtain ⟨d, N⟩ := nu OK.out
  have NU := Seg.hid N
  have hd : b.rate * (now - b.time) = d := by rw [Int.mul_comm]; exact N.hd
  have w1' : IntKind.i64.wrap (now - b.time) = now - b.time := by have := N.t0; have := N.n0; have := N.n1; rw [IntKind.wrap_i64] <;> omega
  have w2' : IntKind.i64.wrap d = d := by have := N.d0; have := N.d1; rw [IntKind.wrap_i64] <;> omega
  have w3' : IntKind.i64.wrap (b.level + d) = b.level + d := by have := N.d0; have := N.d1; have := N.l0; have := N.l1; have := N.u1; rw [IntKind.wrap_i64] <;> omega
  have LV : Hid (∀ wx, Calls Try.prog 20 #[bag b, .int .i64 (now - b.time)] wx fun e w' => e = .returned (.int .i64 (least (b.level + d) b.burst)) ∧ Below wx.heap.size wx w') := fun wx => lev_any b _ d hd w2' w3' wx
  obtain ⟨q, hq⟩ : ∃ q, least (b.level + d) b.burst = q := ⟨_, rfl⟩
  have q0 : -1000000000000 ≤ q ∧ q ≤ 1000000 ∧ q ≤ b.burst := by have := N.d0; have := N.l0; have := N.u0; have := N.u1; have := N.l1; rw [← hq]; unfold least; split <;> omega
  obtain ⟨lv, hlv⟩ : ∃ lv, q - units = lv := ⟨_, rfl⟩
  have w4' : IntKind.i64.wrap (q - units) = lv := by have := N.s0; have := N.s1; rw [IntKind.wrap_i64] <;> omega
  have HL : Hid (lev b now units = lv) := by show _ = _; unfold lev; rw [N.hd, hq, hlv]
  have NB : Hid (-1000000000000 ≤ lv → Nb ⟨b.rate, b.burst, lv, now⟩) := fun h => ⟨N.r0, N.r1, N.u0, N.u1, h, by have := N.s0; show lv ≤ b.burst; omega⟩
  have b0 : -1000001000000 ≤ lv ∧ lv ≤ 1000000 := by have := N.s0; have := N.s1; omega
  rw [hq] at LV
  clear N hq w2' w3' hd q0 hlv
  go_enter Try.func9, Try.ntmps9
  go_upto_region 1 with fail
  obtain ⟨w1, hw1⟩ : ∃ w1, (w.alloc (.cells (brow b) 25 (0, 0))).alloc (.cells zrow 25 (0, 0)) = w1 := ⟨_, rfl⟩
  rw [hw1]
  have T1 : Hid (Two w w1 b) := hw1 ▸ two_new w b
  clear hw1
  obtain ⟨c0, c1, c2, c3, _, _, _, _⟩ := fourB T1.out.one
  have l0 : w.heap.size < w1.heap.size := by have := T1.out.lt; omega
  go_upto_region 5 with (first | (go_at_call 18; (with_reducible refine (CO.out _).mono ?_); rintro e w2 ⟨rfl, b2⟩; have T2 := Seg.hid (T1.out.later b2); clear b2; obtain ⟨d0, d1, d2, d3, _, _, _, _⟩ := fourB T2.out.one) | (go_at_call 19; (with_reducible refine (C1.out _).mono ?_); rintro e w' ⟨rfl, rfl⟩) | (go_at_call 19; (with_reducible refine (C2.out _).mono ?_); rintro e w' ⟨rfl, rfl⟩) | (go_at_call 20; (with_reducible refine (LV.out _).mono ?_); rintro e w3 ⟨rfl, b3⟩; have T3 := Seg.hid (T2.out.later b3); clear b3; obtain ⟨e0, e1, e2, e3, g0, g1, g2, g3⟩ := fourB T3.out.one; have l3 : w.heap.size < w3.heap.size := by have := T3.out.lt; omega))
  obtain ⟨w4, hw4⟩ : ∃ w4, (w3.setCell ⟨w.heap.size, 2, none⟩ (.int .i64 lv)).setCell ⟨w.heap.size, 3, none⟩ (.int .i64 now) = w4 := ⟨_, rfl⟩
  rw [hw4]
  have T4 : Hid (Two w w4 ⟨b.rate, b.burst, lv, now⟩) := hw4 ▸ T3.out.set lv now
  clear hw4 e0 e1 e2 e3 g0 g1 g2 g3 l3 T3 T2 T1 d0 d1 d2 d3 c0 c1 c2 c3 l0 LV CO C1 C2 w1' w4'
  obtain ⟨c0, c1, c2, c3, _, _, _, _⟩ := fourB T4.out.one
  obtain ⟨n0, n1, n2, n3, f0, f1, f2, f3⟩ := fourB T4.out.two
  have l2 := T4.out.lt
  by_cases hc : lv < -1000000000000
  · have Z : Hid (fine b now units = false) := by show _ = _; simp only [fine, HL.out, Bool.and_eq_false_iff]; exact .inr (decide_eq_false (by omega))
    have P2 := Seg.hid (T4.out.put ⟨0, 0, 0, 0⟩)
    go_wp2_with fail
    exact bodyPost_ret (v := .tuple #[.agg zrow, .int .i64 0, .bool false]) (R3.results_row_tmp2 rfl _ _ (w.heap.size + 1) 25 zrow (0, 0) _ _ _ rfl rfl rfl P2.out.1 Try.underlying25 rfl infoBkt) rfl ⟨by rw [ans_no Z.out], P2.out.2⟩
  have Z : Hid (fine b now units = true) := by show _ = _; simp only [fine, HL.out, OK.out, Bool.true_and]; exact decide_eq_true (by omega)
  have NN := Seg.hid (NB.out (by omega))
  have SE : Hid (∀ wx, Calls Try.prog 21 #[.int .i64 1000000000000, .func (.func 22) #[bag ⟨b.rate, b.burst, lv, now⟩] #[]] wx fun e w' => e = .returned (.int .i64 (wait lv b.rate)) ∧ Below wx.heap.size wx w') := fun wx => (search_any NN.out wx).mono fun e w' ⟨r, h1, h2, h3⟩ => ⟨by rw [h1, found NN.out h2], h3⟩
  have AY : Hid (ans b now units = .tuple #[.agg (brow ⟨b.rate, b.burst, lv, now⟩), .int .i64 (wait lv b.rate), .bool true]) := by show _ = _; rw [ans_yes Z.out, HL.out]
  generalize wait lv b.rate = wt at *
  have PA := Seg.hid (T4.out.put ⟨b.rate, b.burst, lv, now⟩)
  have PB : Hid (∀ wx, Below w4.heap.size w4 wx → Two w wx ⟨b.rate, b.burst, lv, now⟩) := fun wx h => T4.out.later h
  go_wp2_with fail
  go_region_with (first | (go_at_call 21; (with_reducible refine (SE.out _).mono ?_); rintro e w8 ⟨rfl, b8⟩; (first | (have T8 : Hid (Two w w8 ⟨b.rate, b.burst, lv, now⟩) := PB.out w8 ⟨b8.os, b8.tape, b8.output, b8.size, b8.block⟩; have P8 := Seg.hid (T8.out.put ⟨b.rate, b.burst, lv, now⟩); obtain ⟨m0, m1, m2, m3, k0, k1, k2, k3⟩ := fourB T8.out.two; obtain ⟨o0, o1, o2, o3, _, _, _, _⟩ := fourB T8.out.one; have l8 := T8.out.lt; clear b8) | (have P8 := Seg.hid (And.intro ((b8.block _ (by simpa using l2)).trans PA.out.1) (chain PA.out.2 b8)); clear b8))))
  all_goals
    go_wp2_with fail
    exact bodyPost_ret (v := .tuple #[.agg (brow ⟨b.rate, b.burst, lv, now⟩), .int .i64 wt, .bool true]) (R3.results_row_tmp2 rfl _ _ (w.heap.size + 1) 25 (brow ⟨b.rate, b.burst, lv, now⟩) (0, 0) _ _ _ rfl rfl rfl P8.out.1 Try.underlying25 rfl infoBkt) rfl ⟨by rw [AY.out], P8.out.2⟩
theorem impl_any (b : Bkt) (now units : Int) (w : World) : Calls Try.prog 9 #[.agg #[.int .i64 b.rate, .int .i64 b.burst, .int .i64 b.level, .int .i64 b.time], .int .i64 now, .int .i64 units] w fun e w' => e = .returned (ans b now units) ∧ Below w.heap.size w w' := by
  cases hn : (okB b && inR b.time now 1000000000000 && inR 0 units 1000000) with
  | false => exact no_core b now units w _ _ _ rfl rfl rfl hn
  | true =>
    simp only [Bool.and_eq_true] at hn
    exact yes_core b now units w hn.1.1 hn.1.2 hn.2
end Go.Proofs.Ytmkkdladgoilmaa.ChI
