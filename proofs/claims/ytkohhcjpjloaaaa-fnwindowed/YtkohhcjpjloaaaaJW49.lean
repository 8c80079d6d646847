/- The helpers that all the laws over drawn bytes share; The law that each time lies in a window, out of the contracts. -/
import Derived.Deep.Cut
import Derived.Deep.CutRange
import Derived.BigQuiet
import Derived.Test.YtkohhcjpjloaaaaJW01
import Derived.Test.YtkohhcjpjloaaaaJW26
import Derived.Test.YtkohhcjpjloaaaaJW44
import Derived.Test.YtkohhcjpjloaaaaJW48
import Derived.Test.YtkohhcjpjloaaaaJW20
namespace Go.Proofs.Ytkohhcjpjloaaaa.LawH
set_option maxRecDepth 8000
open Go.RowKit
open Draw (Bytes)
set_option linter.unusedVariables false

theorem big_any (A : Option Addr) (n c : Nat) (w : World) (hn : n ≤ 140737488355328) : Calls Try.prog 4 #[.slice A n c] w fun e w' => e = .returned (.bool (decide (1048576 < (n : Int)))) ∧ w = w' := by
  go_enter Try.func4, Try.ntmps4
  go_wp2
  go_ret
  exact ⟨by simp, rfl⟩

/-- What the frame tells of a slice that came in, as the draw wants it. -/
theorem row_bytes (w : World) (a : Option Addr) (len cap : Nat) (zs : List Int)
    (h : (a = none ∧ len = 0 ∧ cap = 0 ∧ zs = []) ∨ ∃ x, a = some x ∧ len ≤ cap ∧ cap ≤ maxLen ∧ zs.length = cap ∧ (∀ i, i < zs.length → w.cell? (x.add i) = some (.int .u8 (zs.getD i 0))) ∧ ∀ n ∈ zs, (Lit.int .u8 n).wf = true)
    (hl : len ≤ 140737488355328) : Bytes w w.heap.size a len cap := by
  obtain ⟨l, h1, h2, h3, h4⟩ := Seg.row_seg w a len cap zs h hl
  by_cases hz : len = 0
  · exact .inl hz
  · obtain ⟨_, h2⟩ := h2
    rcases h2 with ⟨A, c, e, rfl⟩ | ⟨g, o, cap', e, h5, h6, h7⟩
    · exact .inl h1.symm
    · cases e
      refine .inr ⟨g, o, rfl, ?_, ?_, by omega, fun j hj => ?_⟩
      · have := (h4.resolve_left hz) g rfl
        omega
      · exact (h4.resolve_left hz) g rfl
      · have hb := h3 j
        exact ⟨(l.getD j 0).toNat, by omega, by rw [h7 j (by omega), Int.toNat_of_nonneg hb.1]⟩

end Go.Proofs.Ytkohhcjpjloaaaa.LawH
namespace Go.Proofs.Ytkohhcjpjloaaaa.WdL
set_option maxRecDepth 8000
open Go.RowKit
open Ls Lp QtP DsP QsP DwQ DwG RkP DsD DwH WiI WdP WdQ WdR
open Draw (Cur Lft Bytes)
open Recs (hsz below1 below2 chain)
set_option linter.unusedVariables false
theorem lat_i2 {w w' : World} {v : Value} {l : List (List Int)} (h : LAt 1 EI2 w (Hp w) v l) (b : Below w.heap.size w w') : LAt 1 EI2 w' (Hp w') v l := LAt.mono growsI2 (LAt.below keepsI2 h b (fun g hg => hg)) (fun g hg => Nat.lt_of_lt_of_le hg b.size)
theorem qry_later {w w' : World} {v : Value} {q : Qry} (h : QryAt w (Hp w) v q) (b : Below w.heap.size w w') : QryAt w' (Hp w') v q := (h.below b (fun g hg => hg)).mono (fun g hg => Nat.lt_of_lt_of_le hg b.size)
theorem told_i2 {w w' : World} {v : Value} {l : List (List Int)} (h : Ow.I2sOwn w' (seg w.heap.size w'.heap.size) v l) : LAt 1 EI2 w' (Hp w') v l := LAt.mono growsI2 (Ow.LOwn.lat growsI2 Ow.atOI2 h) (fun g hg => hg.2)
set_option maxHeartbeats 800000 in
theorem walk_big (A : Option Addr) (n c : Nat) (w : World) (hb : 1048576 < n) :
    Calls Try.prog 3 #[.slice A n c] w fun e w' => e = .returned (.bool true) ∧ Below w.heap.size w w' := by
  have hd : decide (1048576 < (n : Int)) = true := decide_eq_true (by omega)
  go_enter Try.func3, Try.ntmps3
  go_wp2
  go_ret
  exact ⟨rfl, Below.refl _ _⟩
set_option maxHeartbeats 25600000 in
theorem walk (A : Option Addr) (n c : Nat) (w : World) (hn : n ≤ 1048576) (hb : Bytes w w.heap.size A n c) :
    Calls Try.prog 3 #[.slice A n c] w fun e w' => e = .returned (.bool true) ∧ Below w.heap.size w w' := by
  have HB := Seg.hid hb
  clear hb
  have CG : Hid (∀ wx, Calls Try.prog 4 #[.slice A n c] wx fun e w' => e = .returned (.bool false) ∧ wx = w') := fun wx => by have := LawH.big_any A n c wx (by omega); rw [decide_eq_false (by omega : ¬ 1048576 < (n : Int))] at this; exact this
  go_enter Try.func3, Try.ntmps3
  go_upto_region 3 with (go_at_call 4; refine (CG.out _).mono ?_; rintro e w' ⟨rfl, rfl⟩)
  clear CG
  go_upto_region 4 with (go_at_call 5; refine (DwW.draw_any A n c w hn HB.out).mono ?_; rintro e w1 ⟨x, y, q, ts, rfl, hq, hz, ht, hl, b1⟩; obtain ⟨A5, c5, A6, c6, A10, c10, ex⟩ := FQry.form hq; subst ex; obtain ⟨_, At, ct, et, _⟩ := id ht; subst et; have HQ := Seg.hid hq; have HT := Seg.hid ht; have HZ := Seg.hid hz; have HL := Seg.hid hl; have B1 := Seg.hid b1; clear hq hz ht hl b1)
  obtain ⟨w2, hw2⟩ : ∃ z, w1.alloc (.cells (qv q (.slice A5 q.wh.length c5) (.slice A6 q.gps.length c6) (.slice A10 q.gets.length c10)) 28 (0, 0)) = z := ⟨_, rfl⟩
  have HQ2 : Hid (QryAt w2 (Hp w2) (.agg (qv q (.slice A5 q.wh.length c5) (.slice A6 q.gps.length c6) (.slice A10 q.gets.length c10))) q) := by show QryAt _ _ _ _; rw [← hw2]; exact qry_later HQ.out (below1 _ _)
  have HT2 : Hid (LAt 1 EI w2 (Hp w2) (.slice At ts.length ct) ts) := by show LAt _ _ _ _ _ _; rw [← hw2]; exact lat_int HT.out (below1 _ _)
  have B2 : Hid (Below w.heap.size w w2) := by show Below _ _ _; rw [← hw2]; exact chain B1.out (below1 _ _)
  have VAR : Hid (w2.heap[w1.heap.size]? = some (.cells (qv q (.slice A5 q.wh.length c5) (.slice A6 q.gps.length c6) (.slice A10 q.gets.length c10)) 28 (0, 0)) ∧ w1.heap.size < w2.heap.size) := by show _ ∧ _; rw [← hw2, hsz]; exact ⟨heap_alloc_new _ _, Nat.lt_succ_self _⟩
  try rw [hw2]
  clear hw2 HQ HT B1 HB
  generalize w1.heap.size = gq at *
  obtain ⟨W, hW⟩ : ∃ W, winsW q ts = W := ⟨_, rfl⟩
  have OK := Seg.hid (wins_ok q ts)
  have TWO := Seg.hid (wins_two q ts)
  have CI : Hid (∀ wx x y, QryAt wx (Hp wx) x q → LAt 1 EI wx (Hp wx) y ts → Calls Try.prog 6 #[x, y] wx fun e w' => ∃ A c, e = .returned (.slice A W.length c) ∧ W.length ≤ 1048576 ∧ LAt 1 EI2 w' (Hp w') (.slice A W.length c) W ∧ Below wx.heap.size wx w') := fun wx x y h1 h2 => (WoO.impl_own x y q ts wx (Hp wx) h1 h2 (fun g hg => hg) HZ.out (by have := HL.out; omega)).mono fun e w' ⟨v, h3, h4, h5⟩ => by
    rw [hW] at h4
    have h6 := told_i2 h4
    obtain ⟨_, A', c', e', _⟩ := id h6
    subst e'
    exact ⟨A', c', h3, h4.1, h6, h5⟩
  have CS : Hid (∀ wx x y, QryAt wx (Hp wx) x q → LAt 1 EI wx (Hp wx) y ts → Calls Try.prog 7 #[x, y] wx fun e w' => ∃ A c, e = .returned (.slice A W.length c) ∧ Below wx.heap.size wx w') := fun wx x y h1 h2 => (WsO.spec_own x y q ts wx (Hp wx) h1 h2 (fun g hg => hg) HZ.out (by have := HL.out; omega)).mono fun e w' ⟨v, h3, h4, h5⟩ => by
    rw [hW] at h4
    obtain ⟨_, A', c', e', _⟩ := id (told_i2 h4)
    subst e'
    exact ⟨A', c', h3, h5⟩
  rw [hW] at OK TWO
  clear hW HZ
  have V2 := Seg.hid VAR.out.1
  go_upto_region 5 with (first | (refine wpList_load_row rfl 28 _ rfl gq rfl _ _ _ _ V2.out Try.underlying28 rfl infoQ ?_) | (go_at_call 6; refine (CI.out w2 _ _ HQ2.out HT2.out).mono ?_; rintro e w3 ⟨A3, c3, rfl, hwl, h3, b3⟩; have WL := Seg.hid hwl; clear hwl; have W3 := Seg.hid h3; have B3 := Seg.hid b3; clear h3 b3))
  have HQ3 := Seg.hid (qry_later HQ2.out B3.out)
  have HT3 := Seg.hid (lat_int HT2.out B3.out)
  have V3 : Hid (w3.heap[gq]? = some (.cells (qv q (.slice A5 q.wh.length c5) (.slice A6 q.gps.length c6) (.slice A10 q.gets.length c10)) 28 (0, 0)) ∧ gq < w3.heap.size) := ⟨(B3.out.block gq VAR.out.2).trans VAR.out.1, Nat.lt_of_lt_of_le VAR.out.2 B3.out.size⟩
  have BB3 := Seg.hid (chain B2.out B3.out)
  clear V2 VAR HQ2 HT2 B2 B3 CI
  have V3a := Seg.hid V3.out.1
  have hne : ((W.length : Int) != (W.length : Int)) = false := by simp
  go_upto_region 7 with (first | (refine wpList_load_row rfl 28 _ rfl gq rfl _ _ _ _ V3a.out Try.underlying28 rfl infoQ ?_) | (go_at_call 7; refine (CS.out w3 _ _ HQ3.out HT3.out).mono ?_; rintro e w4 ⟨A4, c4, rfl, b4⟩; have B4 := Seg.hid b4; clear b4))
  have HT4 := Seg.hid (lat_int HT3.out B4.out)
  have W4 := Seg.hid (lat_i2 W3.out B4.out)
  have C7 : Hid (w4.cell? ⟨gq, 7, none⟩ = some (.int .i64 q.win) ∧ gq < w4.heap.size) := ⟨(qcells ((B4.out.block gq V3.out.2).trans V3.out.1)).2.2.2.2.2.2.2.1, Nat.lt_of_lt_of_le V3.out.2 B4.out.size⟩
  have BB4 := Seg.hid (chain BB3.out B4.out)
  clear V3 V3a HQ3 HT3 W3 BB3 B4 CS hne HL
  go_upto_region 8 with fail
  go_loopw [6] (fun i wr => ∃ k : Nat, k ≤ W.length ∧ i = .int .i64 k ∧ Hid (Below w4.heap.size w4 wr)) (fun i _ => W.length - (intOf i).toNat)
  case atStart => exact ⟨0, by omega, rfl, Seg.hid (Below.refl _ _)⟩
  case round =>
    obtain ⟨k, hk, rfl, HB⟩ := hrel
    by_cases hlt : k < W.length
    · have hWL := W4.out.1
      have d0 : decide ((k : Int) < (W.length : Int)) = true := by rw [decide_eq_true_iff]; omega
      obtain ⟨g, o, c, G, O, C, e3, hc, hg, hG, hR⟩ := wr_of W4.out TWO.out (by omega)
      simp only [Value.slice.injEq, true_and] at e3
      obtain ⟨rfl, rfl⟩ := e3
      have R := Seg.hid (hR.below hg hG HB.out)
      have Bk := Seg.hid HB.out
      clear hR hG hg
      have r0 := R.out.row k hlt
      have r1 := R.out.fst k hlt
      have r2 := R.out.snd k hlt
      have r3 := R.out.c2 k hlt
      have q1 := asc_at OK.out.1 hlt
      have z2 : ((2 : Int) != 2) = false := rfl
      by_cases hk0 : 0 < k
      · have d1 : decide (0 < (k : Int)) = true := by rw [decide_eq_true_iff]; omega
        have d1' : decide (0 < k) = true := by rw [decide_eq_true_iff]; omega
        have wk : IntKind.i64.wrap ((k : Int) - 1) = ((k - 1 : Nat) : Int) := by rw [IntKind.wrap_i64] <;> omega
        have s0 := R.out.row (k - 1) (by omega)
        have s1 := R.out.fst (k - 1) (by omega)
        have s3 := R.out.c2 (k - 1) (by omega)
        have q2 := asc_two OK.out.1 hk0 hlt
        generalize lo (W.getD k default) = lk at r1 q1 q2
        generalize hi (W.getD k default) = hk9 at r2 q1
        generalize lo (W.getD (k - 1) default) = lm at s1 q2
        have a1 : decide (hk9 ≤ lk) = false := by rw [decide_eq_false_iff_not]; omega
        have a2 : decide (lk ≤ lm) = false := by rw [decide_eq_false_iff_not]; omega
        have hk1 : k - 1 < W.length := by omega
        have i1 : ((k - 1 : Nat) : Int) < (W.length : Int) := by omega
        have ik : (0 : Int) ≤ (k : Int) := by omega
        go_upto_region 10 with fail
        refine wp_region_held_drew (S := (fun w' => w'.cell? ⟨g, o + k, none⟩ = some (.slice (some ⟨G k, O k, none⟩) 2 (C k)) ∧ w'.cell? ⟨G k, O k, none⟩ = some (.int .i64 lk) ∧ w'.cell? ⟨G k, O k + 1, none⟩ = some (.int .i64 hk9) ∧ w'.cell? ⟨g, o + (k - 1), none⟩ = some (.slice (some ⟨G (k - 1), O (k - 1), none⟩) 2 (C (k - 1))) ∧ w'.cell? ⟨G (k - 1), O (k - 1), none⟩ = some (.int .i64 lm))) (by kernel_rfl) ⟨r0, r1, r2, s0, s1⟩ (fun hHeld => ?_)
        refine HdK.tke 0 (some 35) (.slice (some ⟨g, o, none⟩) W.length c3) rfl rfl ?_
        try simp only [Act.put, List.setIfInBounds_toArray, List.set_cons_zero, List.set_cons_succ]
        refine HdK.tke 1 (some 36) (.int .i64 (k : Int)) rfl rfl ?_
        try simp only [Act.put, List.setIfInBounds_toArray, List.set_cons_zero, List.set_cons_succ]
        refine HdK.tke 2 (some 37) (.pointer (some ⟨g, o + k, none⟩)) rfl rfl ?_
        try simp only [Act.put, List.setIfInBounds_toArray, List.set_cons_zero, List.set_cons_succ]
        refine HdK.tke 3 (some 38) (.slice (some ⟨G k, O k, none⟩) 2 (C k)) rfl rfl ?_
        try simp only [Act.put, List.setIfInBounds_toArray, List.set_cons_zero, List.set_cons_succ]
        refine HdK.tke 4 (some 39) (.int .i64 2) rfl rfl ?_
        try simp only [Act.put, List.setIfInBounds_toArray, List.set_cons_zero, List.set_cons_succ]
        refine HdK.tke 5 (some 40) (.bool false) rfl rfl ?_
        try simp only [Act.put, List.setIfInBounds_toArray, List.set_cons_zero, List.set_cons_succ]
        refine HdK.tke 6 (some 41) (.bool false) rfl rfl ?_
        try simp only [Act.put, List.setIfInBounds_toArray, List.set_cons_zero, List.set_cons_succ]
        refine HdK.tke 7 (some 42) (.slice (some ⟨g, o, none⟩) W.length c3) rfl rfl ?_
        try simp only [Act.put, List.setIfInBounds_toArray, List.set_cons_zero, List.set_cons_succ]
        refine HdK.tke 8 (some 43) (.int .i64 (k : Int)) rfl rfl ?_
        try simp only [Act.put, List.setIfInBounds_toArray, List.set_cons_zero, List.set_cons_succ]
        refine HdK.tke 9 (some 44) (.pointer (some ⟨g, o + k, none⟩)) rfl rfl ?_
        try simp only [Act.put, List.setIfInBounds_toArray, List.set_cons_zero, List.set_cons_succ]
        refine HdK.tke 10 (some 45) (.slice (some ⟨G k, O k, none⟩) 2 (C k)) rfl rfl ?_
        try simp only [Act.put, List.setIfInBounds_toArray, List.set_cons_zero, List.set_cons_succ]
        refine HdK.tke 11 (some 46) (.pointer (some ⟨G k, O k, none⟩)) rfl rfl ?_
        try simp only [Act.put, List.setIfInBounds_toArray, List.set_cons_zero, List.set_cons_succ]
        refine HdK.tke 12 (some 47) (.int .i64 lk) rfl rfl ?_
        try simp only [Act.put, List.setIfInBounds_toArray, List.set_cons_zero, List.set_cons_succ]
        refine HdK.tke 13 (some 48) (.slice (some ⟨g, o, none⟩) W.length c3) rfl rfl ?_
        try simp only [Act.put, List.setIfInBounds_toArray, List.set_cons_zero, List.set_cons_succ]
        refine HdK.tke 14 (some 49) (.int .i64 (k : Int)) rfl rfl ?_
        try simp only [Act.put, List.setIfInBounds_toArray, List.set_cons_zero, List.set_cons_succ]
        refine HdK.tke 15 (some 50) (.pointer (some ⟨g, o + k, none⟩)) rfl rfl ?_
        try simp only [Act.put, List.setIfInBounds_toArray, List.set_cons_zero, List.set_cons_succ]
        refine HdK.tke 16 (some 51) (.slice (some ⟨G k, O k, none⟩) 2 (C k)) rfl rfl ?_
        try simp only [Act.put, List.setIfInBounds_toArray, List.set_cons_zero, List.set_cons_succ]
        refine HdK.tke 17 (some 52) (.pointer (some ⟨G k, O k + 1, none⟩)) rfl rfl ?_
        try simp only [Act.put, List.setIfInBounds_toArray, List.set_cons_zero, List.set_cons_succ]
        refine HdK.tke 18 (some 53) (.int .i64 hk9) rfl rfl ?_
        try simp only [Act.put, List.setIfInBounds_toArray, List.set_cons_zero, List.set_cons_succ]
        refine HdK.tke 19 (some 54) (.bool false) rfl rfl ?_
        try simp only [Act.put, List.setIfInBounds_toArray, List.set_cons_zero, List.set_cons_succ]
        refine HdK.tke 20 (some 55) (.bool false) rfl rfl ?_
        try simp only [Act.put, List.setIfInBounds_toArray, List.set_cons_zero, List.set_cons_succ]
        refine HdK.tke 21 (some 56) (.bool false) rfl rfl ?_
        try simp only [Act.put, List.setIfInBounds_toArray, List.set_cons_zero, List.set_cons_succ]
        refine HdK.tke 22 (some 57) (.int .i64 (k : Int)) rfl rfl ?_
        try simp only [Act.put, List.setIfInBounds_toArray, List.set_cons_zero, List.set_cons_succ]
        refine HdK.tke 23 (some 58) (.bool true) rfl rfl ?_
        try simp only [Act.put, List.setIfInBounds_toArray, List.set_cons_zero, List.set_cons_succ]
        refine HdK.tke 24 (some 59) (.bool true) rfl rfl ?_
        try simp only [Act.put, List.setIfInBounds_toArray, List.set_cons_zero, List.set_cons_succ]
        refine HdK.tke 25 (some 60) (.slice (some ⟨g, o, none⟩) W.length c3) rfl rfl ?_
        try simp only [Act.put, List.setIfInBounds_toArray, List.set_cons_zero, List.set_cons_succ]
        refine HdK.tke 26 (some 61) (.int .i64 (k : Int)) rfl rfl ?_
        try simp only [Act.put, List.setIfInBounds_toArray, List.set_cons_zero, List.set_cons_succ]
        refine HdK.tke 27 (some 62) (.int .i64 ((k - 1 : Nat) : Int)) rfl rfl ?_
        try simp only [Act.put, List.setIfInBounds_toArray, List.set_cons_zero, List.set_cons_succ]
        refine HdK.tke 28 (some 63) (.pointer (some ⟨g, o + (k - 1), none⟩)) rfl rfl ?_
        try simp only [Act.put, List.setIfInBounds_toArray, List.set_cons_zero, List.set_cons_succ]
        refine HdK.tke 29 (some 64) (.slice (some ⟨G (k - 1), O (k - 1), none⟩) 2 (C (k - 1))) rfl rfl ?_
        try simp only [Act.put, List.setIfInBounds_toArray, List.set_cons_zero, List.set_cons_succ]
        refine HdK.tke 30 (some 65) (.pointer (some ⟨G (k - 1), O (k - 1), none⟩)) rfl rfl ?_
        try simp only [Act.put, List.setIfInBounds_toArray, List.set_cons_zero, List.set_cons_succ]
        refine HdK.tke 31 (some 66) (.int .i64 lm) rfl rfl ?_
        try simp only [Act.put, List.setIfInBounds_toArray, List.set_cons_zero, List.set_cons_succ]
        refine HdK.tke 32 (some 67) (.slice (some ⟨g, o, none⟩) W.length c3) rfl rfl ?_
        try simp only [Act.put, List.setIfInBounds_toArray, List.set_cons_zero, List.set_cons_succ]
        refine HdK.tke 33 (some 68) (.int .i64 (k : Int)) rfl rfl ?_
        try simp only [Act.put, List.setIfInBounds_toArray, List.set_cons_zero, List.set_cons_succ]
        refine HdK.tke 34 (some 69) (.pointer (some ⟨g, o + k, none⟩)) rfl rfl ?_
        try simp only [Act.put, List.setIfInBounds_toArray, List.set_cons_zero, List.set_cons_succ]
        refine HdK.tke 35 (some 70) (.slice (some ⟨G k, O k, none⟩) 2 (C k)) rfl rfl ?_
        try simp only [Act.put, List.setIfInBounds_toArray, List.set_cons_zero, List.set_cons_succ]
        refine HdK.tke 36 (some 71) (.pointer (some ⟨G k, O k, none⟩)) rfl rfl ?_
        try simp only [Act.put, List.setIfInBounds_toArray, List.set_cons_zero, List.set_cons_succ]
        refine HdK.tke 37 (some 72) (.int .i64 lk) rfl rfl ?_
        try simp only [Act.put, List.setIfInBounds_toArray, List.set_cons_zero, List.set_cons_succ]
        refine HdK.tke 38 (some 73) (.bool false) rfl rfl ?_
        try simp only [Act.put, List.setIfInBounds_toArray, List.set_cons_zero, List.set_cons_succ]
        refine HdK.tke 39 (some 74) (.bool false) rfl rfl ?_
        try simp only [Act.put, List.setIfInBounds_toArray, List.set_cons_zero, List.set_cons_succ]
        refine HdK.tke 40 (some 75) (.bool false) rfl rfl ?_
        try simp only [Act.put, List.setIfInBounds_toArray, List.set_cons_zero, List.set_cons_succ]
        refine wpAnyH_done (by kernel_rfl) ?_ _
        try (go_wp2_with fail)
        go_roundw
        case rel => exact ⟨k + 1, by omega, by go_num, Seg.hid Bk.out.drew⟩
        case measure => simp [intOf]; omega
      · have d1 : decide (0 < (k : Int)) = false := by rw [decide_eq_false_iff_not]; omega
        have d1' : decide (0 < k) = false := by rw [decide_eq_false_iff_not]; omega
        have ik : (0 : Int) ≤ (k : Int) := by omega
        generalize lo (W.getD k default) = lk at r1 q1
        generalize hi (W.getD k default) = hk9 at r2 q1
        have a1 : decide (hk9 ≤ lk) = false := by rw [decide_eq_false_iff_not]; omega
        go_upto_region 10 with fail
        refine wp_region_held_drew (S := (fun w' => w'.cell? ⟨g, o + k, none⟩ = some (.slice (some ⟨G k, O k, none⟩) 2 (C k)) ∧ w'.cell? ⟨G k, O k, none⟩ = some (.int .i64 lk) ∧ w'.cell? ⟨G k, O k + 1, none⟩ = some (.int .i64 hk9))) (by kernel_rfl) ⟨r0, r1, r2⟩ (fun hHeld => ?_)
        refine HdK.tke 0 (some 35) (.slice (some ⟨g, o, none⟩) W.length c3) rfl rfl ?_
        try simp only [Act.put, List.setIfInBounds_toArray, List.set_cons_zero, List.set_cons_succ]
        refine HdK.tke 1 (some 36) (.int .i64 (k : Int)) rfl rfl ?_
        try simp only [Act.put, List.setIfInBounds_toArray, List.set_cons_zero, List.set_cons_succ]
        refine HdK.tke 2 (some 37) (.pointer (some ⟨g, o + k, none⟩)) rfl rfl ?_
        try simp only [Act.put, List.setIfInBounds_toArray, List.set_cons_zero, List.set_cons_succ]
        refine HdK.tke 3 (some 38) (.slice (some ⟨G k, O k, none⟩) 2 (C k)) rfl rfl ?_
        try simp only [Act.put, List.setIfInBounds_toArray, List.set_cons_zero, List.set_cons_succ]
        refine HdK.tke 4 (some 39) (.int .i64 2) rfl rfl ?_
        try simp only [Act.put, List.setIfInBounds_toArray, List.set_cons_zero, List.set_cons_succ]
        refine HdK.tke 5 (some 40) (.bool false) rfl rfl ?_
        try simp only [Act.put, List.setIfInBounds_toArray, List.set_cons_zero, List.set_cons_succ]
        refine HdK.tke 6 (some 41) (.bool false) rfl rfl ?_
        try simp only [Act.put, List.setIfInBounds_toArray, List.set_cons_zero, List.set_cons_succ]
        refine HdK.tke 7 (some 42) (.slice (some ⟨g, o, none⟩) W.length c3) rfl rfl ?_
        try simp only [Act.put, List.setIfInBounds_toArray, List.set_cons_zero, List.set_cons_succ]
        refine HdK.tke 8 (some 43) (.int .i64 (k : Int)) rfl rfl ?_
        try simp only [Act.put, List.setIfInBounds_toArray, List.set_cons_zero, List.set_cons_succ]
        refine HdK.tke 9 (some 44) (.pointer (some ⟨g, o + k, none⟩)) rfl rfl ?_
        try simp only [Act.put, List.setIfInBounds_toArray, List.set_cons_zero, List.set_cons_succ]
        refine HdK.tke 10 (some 45) (.slice (some ⟨G k, O k, none⟩) 2 (C k)) rfl rfl ?_
        try simp only [Act.put, List.setIfInBounds_toArray, List.set_cons_zero, List.set_cons_succ]
        refine HdK.tke 11 (some 46) (.pointer (some ⟨G k, O k, none⟩)) rfl rfl ?_
        try simp only [Act.put, List.setIfInBounds_toArray, List.set_cons_zero, List.set_cons_succ]
        refine HdK.tke 12 (some 47) (.int .i64 lk) rfl rfl ?_
        try simp only [Act.put, List.setIfInBounds_toArray, List.set_cons_zero, List.set_cons_succ]
        refine HdK.tke 13 (some 48) (.slice (some ⟨g, o, none⟩) W.length c3) rfl rfl ?_
        try simp only [Act.put, List.setIfInBounds_toArray, List.set_cons_zero, List.set_cons_succ]
        refine HdK.tke 14 (some 49) (.int .i64 (k : Int)) rfl rfl ?_
        try simp only [Act.put, List.setIfInBounds_toArray, List.set_cons_zero, List.set_cons_succ]
        refine HdK.tke 15 (some 50) (.pointer (some ⟨g, o + k, none⟩)) rfl rfl ?_
        try simp only [Act.put, List.setIfInBounds_toArray, List.set_cons_zero, List.set_cons_succ]
        refine HdK.tke 16 (some 51) (.slice (some ⟨G k, O k, none⟩) 2 (C k)) rfl rfl ?_
        try simp only [Act.put, List.setIfInBounds_toArray, List.set_cons_zero, List.set_cons_succ]
        refine HdK.tke 17 (some 52) (.pointer (some ⟨G k, O k + 1, none⟩)) rfl rfl ?_
        try simp only [Act.put, List.setIfInBounds_toArray, List.set_cons_zero, List.set_cons_succ]
        refine HdK.tke 18 (some 53) (.int .i64 hk9) rfl rfl ?_
        try simp only [Act.put, List.setIfInBounds_toArray, List.set_cons_zero, List.set_cons_succ]
        refine HdK.tke 19 (some 54) (.bool false) rfl rfl ?_
        try simp only [Act.put, List.setIfInBounds_toArray, List.set_cons_zero, List.set_cons_succ]
        refine HdK.tke 20 (some 55) (.bool false) rfl rfl ?_
        try simp only [Act.put, List.setIfInBounds_toArray, List.set_cons_zero, List.set_cons_succ]
        refine HdK.tke 21 (some 56) (.bool false) rfl rfl ?_
        try simp only [Act.put, List.setIfInBounds_toArray, List.set_cons_zero, List.set_cons_succ]
        refine HdK.tke 22 (some 57) (.int .i64 (k : Int)) rfl rfl ?_
        try simp only [Act.put, List.setIfInBounds_toArray, List.set_cons_zero, List.set_cons_succ]
        refine HdK.tke 23 (some 58) (.bool false) rfl rfl ?_
        try simp only [Act.put, List.setIfInBounds_toArray, List.set_cons_zero, List.set_cons_succ]
        refine HdK.tke 24 (some 59) (.bool false) rfl rfl ?_
        try simp only [Act.put, List.setIfInBounds_toArray, List.set_cons_zero, List.set_cons_succ]
        refine HdK.skp 25 (some 60) rfl rfl ?_
        try simp only [Act.put, List.setIfInBounds_toArray, List.set_cons_zero, List.set_cons_succ]
        refine HdK.skp 26 (some 61) rfl rfl ?_
        try simp only [Act.put, List.setIfInBounds_toArray, List.set_cons_zero, List.set_cons_succ]
        refine HdK.skp 27 (some 62) rfl rfl ?_
        try simp only [Act.put, List.setIfInBounds_toArray, List.set_cons_zero, List.set_cons_succ]
        refine HdK.skp 28 (some 63) rfl rfl ?_
        try simp only [Act.put, List.setIfInBounds_toArray, List.set_cons_zero, List.set_cons_succ]
        refine HdK.skp 29 (some 64) rfl rfl ?_
        try simp only [Act.put, List.setIfInBounds_toArray, List.set_cons_zero, List.set_cons_succ]
        refine HdK.skp 30 (some 65) rfl rfl ?_
        try simp only [Act.put, List.setIfInBounds_toArray, List.set_cons_zero, List.set_cons_succ]
        refine HdK.skp 31 (some 66) rfl rfl ?_
        try simp only [Act.put, List.setIfInBounds_toArray, List.set_cons_zero, List.set_cons_succ]
        refine HdK.skp 32 (some 67) rfl rfl ?_
        try simp only [Act.put, List.setIfInBounds_toArray, List.set_cons_zero, List.set_cons_succ]
        refine HdK.skp 33 (some 68) rfl rfl ?_
        try simp only [Act.put, List.setIfInBounds_toArray, List.set_cons_zero, List.set_cons_succ]
        refine HdK.skp 34 (some 69) rfl rfl ?_
        try simp only [Act.put, List.setIfInBounds_toArray, List.set_cons_zero, List.set_cons_succ]
        refine HdK.skp 35 (some 70) rfl rfl ?_
        try simp only [Act.put, List.setIfInBounds_toArray, List.set_cons_zero, List.set_cons_succ]
        refine HdK.skp 36 (some 71) rfl rfl ?_
        try simp only [Act.put, List.setIfInBounds_toArray, List.set_cons_zero, List.set_cons_succ]
        refine HdK.skp 37 (some 72) rfl rfl ?_
        try simp only [Act.put, List.setIfInBounds_toArray, List.set_cons_zero, List.set_cons_succ]
        refine HdK.skp 38 (some 73) rfl rfl ?_
        try simp only [Act.put, List.setIfInBounds_toArray, List.set_cons_zero, List.set_cons_succ]
        refine HdK.tke 39 (some 74) (.bool false) rfl rfl ?_
        try simp only [Act.put, List.setIfInBounds_toArray, List.set_cons_zero, List.set_cons_succ]
        refine HdK.tke 40 (some 75) (.bool false) rfl rfl ?_
        try simp only [Act.put, List.setIfInBounds_toArray, List.set_cons_zero, List.set_cons_succ]
        refine wpAnyH_done (by kernel_rfl) ?_ _
        try (go_wp2_with fail)
        go_roundw
        case rel => exact ⟨k + 1, by omega, by go_num, Seg.hid Bk.out.drew⟩
        case measure => simp [intOf]; omega
    have d0 : decide ((k : Int) < (W.length : Int)) = false := by rw [decide_eq_false_iff_not]; omega
    go_upto_region 13 with fail
    clear d0 hlt
    rename World => wA
    go_loopw [7] (fun i wr => ∃ k : Nat, k ≤ ts.length ∧ i = .int .i64 k ∧ Hid (Below w4.heap.size w4 wr)) (fun i _ => ts.length - (intOf i).toNat)
    case atStart => exact ⟨0, by omega, rfl, HB⟩
    case round =>
      clear HB
      obtain ⟨k, hk, rfl, HB⟩ := hrel
      go_upto_region 13 with fail
      go_cut [84] from 76 to 84 (fun v wx => ∃ z, v = .bool z ∧ (z = true → k < ts.length ∧ 0 < W.length) ∧ Below w4.heap.size w4 wx)
      case first =>
        by_cases h1 : k < ts.length
        · have d1 : decide ((k : Int) < (ts.length : Int)) = true := by rw [decide_eq_true_iff]; omega
          by_cases h2 : 0 < W.length
          · have d2 : decide (0 < (W.length : Int)) = true := by rw [decide_eq_true_iff]; omega
            have d2' : decide (0 < W.length) = true := by rw [decide_eq_true_iff]; omega
            go_wp2
            go_meet
            exact ⟨true, rfl, fun _ => ⟨h1, h2⟩, HB.out⟩
          · have d2 : decide (0 < (W.length : Int)) = false := by rw [decide_eq_false_iff_not]; omega
            have d2' : decide (0 < W.length) = false := by rw [decide_eq_false_iff_not]; omega
            go_wp2
            go_meet
            exact ⟨false, rfl, by simp, HB.out⟩
        · have d1 : decide ((k : Int) < (ts.length : Int)) = false := by rw [decide_eq_false_iff_not]; omega
          go_wp2
          go_meet
          exact ⟨false, rfl, by simp, HB.out⟩
      case rest =>
      obtain ⟨z, hz, hz1, hQ⟩ := hcut
      subst hz
      clear HB
      have HB := Seg.hid hQ
      clear hQ
      cases z with
      | true =>
        obtain ⟨hkt, hW0⟩ := hz1 rfl
        clear hz1
        obtain ⟨g, o, c, G, O, C, e3, hc, hg, hG, hR⟩ := wr_of W4.out TWO.out hW0
        simp only [Value.slice.injEq, true_and] at e3
        obtain ⟨rfl, rfl⟩ := e3
        obtain ⟨gt, ot, cT, et, hct, hgt, hT⟩ := ints_of HT4.out (by omega)
        simp only [Value.slice.injEq, true_and] at et
        obtain ⟨rfl, rfl⟩ := et
        have RR : Hid (∀ wx, Below w4.heap.size w4 wx → WR wx g o W G O C) := fun wx b => hR.below hg hG b
        have TT : Hid (∀ wx, Below w4.heap.size w4 wx → wx.cell? ⟨gt, ot + k, none⟩ = some (.int .i64 (ts.getD k default))) := fun wx b => by rw [b.cell (p := ⟨gt, ot + k, none⟩) hgt]; exact hT k hkt
        have ONE := Seg.hid (OK.out.2 (by omega) (ts.getD k default) (by rw [List.getD_eq_getElem?_getD, List.getElem?_eq_getElem hkt]; exact List.getElem_mem hkt))
        have CC : Hid (∀ wx, Below w4.heap.size w4 wx → wx.cell? ⟨gq, 7, none⟩ = some (.int .i64 q.win)) := fun wx b => by rw [b.cell (p := ⟨gq, 7, none⟩) C7.out.2]; exact C7.out.1
        clear hR hG hT hg hgt
        obtain ⟨t, ht⟩ : ∃ t, ts.getD k default = t := ⟨_, rfl⟩
        rw [ht] at ONE TT
        clear ht
        have ik : (0 : Int) ≤ (k : Int) := by omega
        have hkT : (k : Int) < (ts.length : Int) := by omega
        go_upto_region 17 with fail
        go_loopw [8, 9] (fun nv iv wr => ∃ (j : Nat), j ≤ W.length ∧ iv = .int .i64 j ∧ nv = .int .i64 (cntW (W.take j) t : Int) ∧ Hid (Below w4.heap.size w4 wr)) (fun _ iv _ => W.length - (intOf iv).toNat)
        case atStart => exact ⟨0, by omega, rfl, by rw [List.take_zero]; rfl, HB⟩
        case round =>
          clear HB
          obtain ⟨j, hj, rfl, rfl, HB⟩ := hrel
          by_cases hlt : j < W.length
          · have d0 : decide ((j : Int) < (W.length : Int)) = true := by rw [decide_eq_true_iff]; omega
            have Bk := Seg.hid HB.out
            have r0 := (RR.out _ HB.out).row j hlt
            have r1 := (RR.out _ HB.out).fst j hlt
            have r2 := (RR.out _ HB.out).snd j hlt
            have r3 := (RR.out _ HB.out).c2 j hlt
            have t0 := TT.out _ HB.out
            have ij : (0 : Int) ≤ (j : Int) := by omega
            have hjW : (j : Int) < (W.length : Int) := by omega
            have NX := Seg.hid (cnt_next (t := t) hlt)
            have hcl : cntW (W.take j) t ≤ W.length := Nat.le_trans (List.length_filter_le _ _) (by rw [List.length_take]; omega)
            have hwl := WL.out
            have wn : IntKind.i64.wrap ((cntW (W.take j) t : Int) + 1) = ((cntW (W.take j) t + 1 : Nat) : Int) := by rw [IntKind.wrap_i64] <;> omega
            generalize cntW (W.take j) t = cj at *
            by_cases c1 : lo (W.getD j default) ≤ t
            · have f1 : decide (lo (W.getD j default) ≤ t) = true := decide_eq_true c1
              by_cases c2 : t < hi (W.getD j default)
              · have f2 : decide (t < hi (W.getD j default)) = true := decide_eq_true c2
                have NY : Hid (cntW (W.take (j + 1)) t = cj + 1) := by show _ = _; rw [NX.out, if_pos (by unfold inW; rw [f1, f2]; rfl)]
                clear NX c1 c2
                generalize lo (W.getD j default) = lk at r1 f1
                generalize hi (W.getD j default) = hk9 at r2 f2
                go_upto_region 19 with fail
                refine wp_region_held_drew (S := (fun w' => w'.cell? ⟨g, o + j, none⟩ = some (.slice (some ⟨G j, O j, none⟩) 2 (C j)) ∧ w'.cell? ⟨G j, O j, none⟩ = some (.int .i64 lk) ∧ w'.cell? ⟨G j, O j + 1, none⟩ = some (.int .i64 hk9) ∧ w'.cell? ⟨gt, ot + k, none⟩ = some (.int .i64 t))) (by kernel_rfl) ⟨r0, r1, r2, t0⟩ (fun hHeld => ?_)
                refine HdK.tke 0 (some 93) (.slice (some ⟨g, o, none⟩) W.length c3) rfl rfl ?_
                try simp only [Act.put, List.setIfInBounds_toArray, List.set_cons_zero, List.set_cons_succ]
                refine HdK.tke 1 (some 94) (.int .i64 (j : Int)) rfl rfl ?_
                try simp only [Act.put, List.setIfInBounds_toArray, List.set_cons_zero, List.set_cons_succ]
                refine HdK.tke 2 (some 95) (.pointer (some ⟨g, o + j, none⟩)) rfl rfl ?_
                try simp only [Act.put, List.setIfInBounds_toArray, List.set_cons_zero, List.set_cons_succ]
                refine HdK.tke 3 (some 96) (.slice (some ⟨G j, O j, none⟩) 2 (C j)) rfl rfl ?_
                try simp only [Act.put, List.setIfInBounds_toArray, List.set_cons_zero, List.set_cons_succ]
                refine HdK.tke 4 (some 97) (.pointer (some ⟨G j, O j, none⟩)) rfl rfl ?_
                try simp only [Act.put, List.setIfInBounds_toArray, List.set_cons_zero, List.set_cons_succ]
                refine HdK.tke 5 (some 98) (.int .i64 lk) rfl rfl ?_
                try simp only [Act.put, List.setIfInBounds_toArray, List.set_cons_zero, List.set_cons_succ]
                refine HdK.tke 6 (some 99) (.slice (some ⟨gt, ot, none⟩) ts.length ct) rfl rfl ?_
                try simp only [Act.put, List.setIfInBounds_toArray, List.set_cons_zero, List.set_cons_succ]
                refine HdK.tke 7 (some 100) (.int .i64 (k : Int)) rfl rfl ?_
                try simp only [Act.put, List.setIfInBounds_toArray, List.set_cons_zero, List.set_cons_succ]
                refine HdK.tke 8 (some 101) (.pointer (some ⟨gt, ot + k, none⟩)) rfl rfl ?_
                try simp only [Act.put, List.setIfInBounds_toArray, List.set_cons_zero, List.set_cons_succ]
                refine HdK.tke 9 (some 102) (.int .i64 t) rfl rfl ?_
                try simp only [Act.put, List.setIfInBounds_toArray, List.set_cons_zero, List.set_cons_succ]
                refine HdK.tke 10 (some 103) (.bool true) rfl rfl ?_
                try simp only [Act.put, List.setIfInBounds_toArray, List.set_cons_zero, List.set_cons_succ]
                refine HdK.tke 11 (some 104) (.bool true) rfl rfl ?_
                try simp only [Act.put, List.setIfInBounds_toArray, List.set_cons_zero, List.set_cons_succ]
                refine HdK.tke 12 (some 105) (.slice (some ⟨gt, ot, none⟩) ts.length ct) rfl rfl ?_
                try simp only [Act.put, List.setIfInBounds_toArray, List.set_cons_zero, List.set_cons_succ]
                refine HdK.tke 13 (some 106) (.int .i64 (k : Int)) rfl rfl ?_
                try simp only [Act.put, List.setIfInBounds_toArray, List.set_cons_zero, List.set_cons_succ]
                refine HdK.tke 14 (some 107) (.pointer (some ⟨gt, ot + k, none⟩)) rfl rfl ?_
                try simp only [Act.put, List.setIfInBounds_toArray, List.set_cons_zero, List.set_cons_succ]
                refine HdK.tke 15 (some 108) (.int .i64 t) rfl rfl ?_
                try simp only [Act.put, List.setIfInBounds_toArray, List.set_cons_zero, List.set_cons_succ]
                refine HdK.tke 16 (some 109) (.slice (some ⟨g, o, none⟩) W.length c3) rfl rfl ?_
                try simp only [Act.put, List.setIfInBounds_toArray, List.set_cons_zero, List.set_cons_succ]
                refine HdK.tke 17 (some 110) (.int .i64 (j : Int)) rfl rfl ?_
                try simp only [Act.put, List.setIfInBounds_toArray, List.set_cons_zero, List.set_cons_succ]
                refine HdK.tke 18 (some 111) (.pointer (some ⟨g, o + j, none⟩)) rfl rfl ?_
                try simp only [Act.put, List.setIfInBounds_toArray, List.set_cons_zero, List.set_cons_succ]
                refine HdK.tke 19 (some 112) (.slice (some ⟨G j, O j, none⟩) 2 (C j)) rfl rfl ?_
                try simp only [Act.put, List.setIfInBounds_toArray, List.set_cons_zero, List.set_cons_succ]
                refine HdK.tke 20 (some 113) (.pointer (some ⟨G j, O j + 1, none⟩)) rfl rfl ?_
                try simp only [Act.put, List.setIfInBounds_toArray, List.set_cons_zero, List.set_cons_succ]
                refine HdK.tke 21 (some 114) (.int .i64 hk9) rfl rfl ?_
                try simp only [Act.put, List.setIfInBounds_toArray, List.set_cons_zero, List.set_cons_succ]
                refine HdK.tke 22 (some 115) (.bool true) rfl rfl ?_
                try simp only [Act.put, List.setIfInBounds_toArray, List.set_cons_zero, List.set_cons_succ]
                refine HdK.tke 23 (some 116) (.bool true) rfl rfl ?_
                try simp only [Act.put, List.setIfInBounds_toArray, List.set_cons_zero, List.set_cons_succ]
                refine wpAnyH_done (by kernel_rfl) ?_ _
                try (go_wp2_with fail)
                go_roundw
                case rel => exact ⟨j + 1, by omega, by go_num, by rw [NY.out]; go_num, Seg.hid Bk.out.drew⟩
                case measure => simp [intOf]; omega
              · have f2 : decide (t < hi (W.getD j default)) = false := decide_eq_false c2
                have NY : Hid (cntW (W.take (j + 1)) t = cj) := by show _ = _; rw [NX.out, if_neg (by unfold inW; rw [f1, f2]; simp)]; rfl
                clear NX c1 c2
                generalize lo (W.getD j default) = lk at r1 f1
                generalize hi (W.getD j default) = hk9 at r2 f2
                go_upto_region 19 with fail
                refine wp_region_held_drew (S := (fun w' => w'.cell? ⟨g, o + j, none⟩ = some (.slice (some ⟨G j, O j, none⟩) 2 (C j)) ∧ w'.cell? ⟨G j, O j, none⟩ = some (.int .i64 lk) ∧ w'.cell? ⟨G j, O j + 1, none⟩ = some (.int .i64 hk9) ∧ w'.cell? ⟨gt, ot + k, none⟩ = some (.int .i64 t))) (by kernel_rfl) ⟨r0, r1, r2, t0⟩ (fun hHeld => ?_)
                refine HdK.tke 0 (some 93) (.slice (some ⟨g, o, none⟩) W.length c3) rfl rfl ?_
                try simp only [Act.put, List.setIfInBounds_toArray, List.set_cons_zero, List.set_cons_succ]
                refine HdK.tke 1 (some 94) (.int .i64 (j : Int)) rfl rfl ?_
                try simp only [Act.put, List.setIfInBounds_toArray, List.set_cons_zero, List.set_cons_succ]
                refine HdK.tke 2 (some 95) (.pointer (some ⟨g, o + j, none⟩)) rfl rfl ?_
                try simp only [Act.put, List.setIfInBounds_toArray, List.set_cons_zero, List.set_cons_succ]
                refine HdK.tke 3 (some 96) (.slice (some ⟨G j, O j, none⟩) 2 (C j)) rfl rfl ?_
                try simp only [Act.put, List.setIfInBounds_toArray, List.set_cons_zero, List.set_cons_succ]
                refine HdK.tke 4 (some 97) (.pointer (some ⟨G j, O j, none⟩)) rfl rfl ?_
                try simp only [Act.put, List.setIfInBounds_toArray, List.set_cons_zero, List.set_cons_succ]
                refine HdK.tke 5 (some 98) (.int .i64 lk) rfl rfl ?_
                try simp only [Act.put, List.setIfInBounds_toArray, List.set_cons_zero, List.set_cons_succ]
                refine HdK.tke 6 (some 99) (.slice (some ⟨gt, ot, none⟩) ts.length ct) rfl rfl ?_
                try simp only [Act.put, List.setIfInBounds_toArray, List.set_cons_zero, List.set_cons_succ]
                refine HdK.tke 7 (some 100) (.int .i64 (k : Int)) rfl rfl ?_
                try simp only [Act.put, List.setIfInBounds_toArray, List.set_cons_zero, List.set_cons_succ]
                refine HdK.tke 8 (some 101) (.pointer (some ⟨gt, ot + k, none⟩)) rfl rfl ?_
                try simp only [Act.put, List.setIfInBounds_toArray, List.set_cons_zero, List.set_cons_succ]
                refine HdK.tke 9 (some 102) (.int .i64 t) rfl rfl ?_
                try simp only [Act.put, List.setIfInBounds_toArray, List.set_cons_zero, List.set_cons_succ]
                refine HdK.tke 10 (some 103) (.bool true) rfl rfl ?_
                try simp only [Act.put, List.setIfInBounds_toArray, List.set_cons_zero, List.set_cons_succ]
                refine HdK.tke 11 (some 104) (.bool true) rfl rfl ?_
                try simp only [Act.put, List.setIfInBounds_toArray, List.set_cons_zero, List.set_cons_succ]
                refine HdK.tke 12 (some 105) (.slice (some ⟨gt, ot, none⟩) ts.length ct) rfl rfl ?_
                try simp only [Act.put, List.setIfInBounds_toArray, List.set_cons_zero, List.set_cons_succ]
                refine HdK.tke 13 (some 106) (.int .i64 (k : Int)) rfl rfl ?_
                try simp only [Act.put, List.setIfInBounds_toArray, List.set_cons_zero, List.set_cons_succ]
                refine HdK.tke 14 (some 107) (.pointer (some ⟨gt, ot + k, none⟩)) rfl rfl ?_
                try simp only [Act.put, List.setIfInBounds_toArray, List.set_cons_zero, List.set_cons_succ]
                refine HdK.tke 15 (some 108) (.int .i64 t) rfl rfl ?_
                try simp only [Act.put, List.setIfInBounds_toArray, List.set_cons_zero, List.set_cons_succ]
                refine HdK.tke 16 (some 109) (.slice (some ⟨g, o, none⟩) W.length c3) rfl rfl ?_
                try simp only [Act.put, List.setIfInBounds_toArray, List.set_cons_zero, List.set_cons_succ]
                refine HdK.tke 17 (some 110) (.int .i64 (j : Int)) rfl rfl ?_
                try simp only [Act.put, List.setIfInBounds_toArray, List.set_cons_zero, List.set_cons_succ]
                refine HdK.tke 18 (some 111) (.pointer (some ⟨g, o + j, none⟩)) rfl rfl ?_
                try simp only [Act.put, List.setIfInBounds_toArray, List.set_cons_zero, List.set_cons_succ]
                refine HdK.tke 19 (some 112) (.slice (some ⟨G j, O j, none⟩) 2 (C j)) rfl rfl ?_
                try simp only [Act.put, List.setIfInBounds_toArray, List.set_cons_zero, List.set_cons_succ]
                refine HdK.tke 20 (some 113) (.pointer (some ⟨G j, O j + 1, none⟩)) rfl rfl ?_
                try simp only [Act.put, List.setIfInBounds_toArray, List.set_cons_zero, List.set_cons_succ]
                refine HdK.tke 21 (some 114) (.int .i64 hk9) rfl rfl ?_
                try simp only [Act.put, List.setIfInBounds_toArray, List.set_cons_zero, List.set_cons_succ]
                refine HdK.tke 22 (some 115) (.bool false) rfl rfl ?_
                try simp only [Act.put, List.setIfInBounds_toArray, List.set_cons_zero, List.set_cons_succ]
                refine HdK.tke 23 (some 116) (.bool false) rfl rfl ?_
                try simp only [Act.put, List.setIfInBounds_toArray, List.set_cons_zero, List.set_cons_succ]
                refine wpAnyH_done (by kernel_rfl) ?_ _
                try (go_wp2_with fail)
                go_roundw
                case rel => exact ⟨j + 1, by omega, by go_num, by rw [NY.out], Seg.hid Bk.out.drew⟩
                case measure => simp [intOf]; omega
            · have f1 : decide (lo (W.getD j default) ≤ t) = false := decide_eq_false c1
              have NY : Hid (cntW (W.take (j + 1)) t = cj) := by show _ = _; rw [NX.out, if_neg (by unfold inW; rw [f1]; simp)]; rfl
              clear NX c1
              generalize lo (W.getD j default) = lk at r1 f1
              generalize hi (W.getD j default) = hk9 at r2
              go_upto_region 19 with fail
              refine wp_region_held_drew (S := (fun w' => w'.cell? ⟨g, o + j, none⟩ = some (.slice (some ⟨G j, O j, none⟩) 2 (C j)) ∧ w'.cell? ⟨G j, O j, none⟩ = some (.int .i64 lk) ∧ w'.cell? ⟨G j, O j + 1, none⟩ = some (.int .i64 hk9) ∧ w'.cell? ⟨gt, ot + k, none⟩ = some (.int .i64 t))) (by kernel_rfl) ⟨r0, r1, r2, t0⟩ (fun hHeld => ?_)
              refine HdK.tke 0 (some 93) (.slice (some ⟨g, o, none⟩) W.length c3) rfl rfl ?_
              try simp only [Act.put, List.setIfInBounds_toArray, List.set_cons_zero, List.set_cons_succ]
              refine HdK.tke 1 (some 94) (.int .i64 (j : Int)) rfl rfl ?_
              try simp only [Act.put, List.setIfInBounds_toArray, List.set_cons_zero, List.set_cons_succ]
              refine HdK.tke 2 (some 95) (.pointer (some ⟨g, o + j, none⟩)) rfl rfl ?_
              try simp only [Act.put, List.setIfInBounds_toArray, List.set_cons_zero, List.set_cons_succ]
              refine HdK.tke 3 (some 96) (.slice (some ⟨G j, O j, none⟩) 2 (C j)) rfl rfl ?_
              try simp only [Act.put, List.setIfInBounds_toArray, List.set_cons_zero, List.set_cons_succ]
              refine HdK.tke 4 (some 97) (.pointer (some ⟨G j, O j, none⟩)) rfl rfl ?_
              try simp only [Act.put, List.setIfInBounds_toArray, List.set_cons_zero, List.set_cons_succ]
              refine HdK.tke 5 (some 98) (.int .i64 lk) rfl rfl ?_
              try simp only [Act.put, List.setIfInBounds_toArray, List.set_cons_zero, List.set_cons_succ]
              refine HdK.tke 6 (some 99) (.slice (some ⟨gt, ot, none⟩) ts.length ct) rfl rfl ?_
              try simp only [Act.put, List.setIfInBounds_toArray, List.set_cons_zero, List.set_cons_succ]
              refine HdK.tke 7 (some 100) (.int .i64 (k : Int)) rfl rfl ?_
              try simp only [Act.put, List.setIfInBounds_toArray, List.set_cons_zero, List.set_cons_succ]
              refine HdK.tke 8 (some 101) (.pointer (some ⟨gt, ot + k, none⟩)) rfl rfl ?_
              try simp only [Act.put, List.setIfInBounds_toArray, List.set_cons_zero, List.set_cons_succ]
              refine HdK.tke 9 (some 102) (.int .i64 t) rfl rfl ?_
              try simp only [Act.put, List.setIfInBounds_toArray, List.set_cons_zero, List.set_cons_succ]
              refine HdK.tke 10 (some 103) (.bool false) rfl rfl ?_
              try simp only [Act.put, List.setIfInBounds_toArray, List.set_cons_zero, List.set_cons_succ]
              refine HdK.tke 11 (some 104) (.bool false) rfl rfl ?_
              try simp only [Act.put, List.setIfInBounds_toArray, List.set_cons_zero, List.set_cons_succ]
              refine HdK.skp 12 (some 105) rfl rfl ?_
              try simp only [Act.put, List.setIfInBounds_toArray, List.set_cons_zero, List.set_cons_succ]
              refine HdK.skp 13 (some 106) rfl rfl ?_
              try simp only [Act.put, List.setIfInBounds_toArray, List.set_cons_zero, List.set_cons_succ]
              refine HdK.skp 14 (some 107) rfl rfl ?_
              try simp only [Act.put, List.setIfInBounds_toArray, List.set_cons_zero, List.set_cons_succ]
              refine HdK.skp 15 (some 108) rfl rfl ?_
              try simp only [Act.put, List.setIfInBounds_toArray, List.set_cons_zero, List.set_cons_succ]
              refine HdK.skp 16 (some 109) rfl rfl ?_
              try simp only [Act.put, List.setIfInBounds_toArray, List.set_cons_zero, List.set_cons_succ]
              refine HdK.skp 17 (some 110) rfl rfl ?_
              try simp only [Act.put, List.setIfInBounds_toArray, List.set_cons_zero, List.set_cons_succ]
              refine HdK.skp 18 (some 111) rfl rfl ?_
              try simp only [Act.put, List.setIfInBounds_toArray, List.set_cons_zero, List.set_cons_succ]
              refine HdK.skp 19 (some 112) rfl rfl ?_
              try simp only [Act.put, List.setIfInBounds_toArray, List.set_cons_zero, List.set_cons_succ]
              refine HdK.skp 20 (some 113) rfl rfl ?_
              try simp only [Act.put, List.setIfInBounds_toArray, List.set_cons_zero, List.set_cons_succ]
              refine HdK.skp 21 (some 114) rfl rfl ?_
              try simp only [Act.put, List.setIfInBounds_toArray, List.set_cons_zero, List.set_cons_succ]
              refine HdK.skp 22 (some 115) rfl rfl ?_
              try simp only [Act.put, List.setIfInBounds_toArray, List.set_cons_zero, List.set_cons_succ]
              refine HdK.tke 23 (some 116) (.bool false) rfl rfl ?_
              try simp only [Act.put, List.setIfInBounds_toArray, List.set_cons_zero, List.set_cons_succ]
              refine wpAnyH_done (by kernel_rfl) ?_ _
              try (go_wp2_with fail)
              go_roundw
              case rel => exact ⟨j + 1, by omega, by go_num, by rw [NY.out], Seg.hid Bk.out.drew⟩
              case measure => simp [intOf]; omega
          have hjW : j = W.length := by omega
          subst hjW
          have d0 : decide ((W.length : Int) < (W.length : Int)) = false := by rw [decide_eq_false_iff_not]; omega
          rw [List.take_length]
          have w7 := CC.out _ HB.out
          obtain ⟨nn, hnn⟩ : ∃ nn, cntW W t = nn := ⟨_, rfl⟩
          rw [hnn] at ONE ⊢
          have n0 : ((nn : Int) == 0) = false := by rw [beq_eq_false_iff_ne]; have := ONE.out.1; omega
          have Bk := Seg.hid HB.out
          by_cases c2 : q.win = 2
          · have f2 : (q.win != 2) = false := by rw [c2]; rfl
            go_upto_region 14 with fail
            go_wp2_with fail
            go_roundw
            case rel => exact ⟨k + 1, by omega, by go_num, Bk⟩
            case measure => simp [intOf]; omega
          · have f2 : (q.win != 2) = true := by simpa using c2
            have n1 : ((nn : Int) != 1) = false := by rw [bne_eq_false_iff_eq]; have := ONE.out.2 c2; omega
            go_upto_region 14 with fail
            go_wp2_with fail
            go_roundw
            case rel => exact ⟨k + 1, by omega, by go_num, Bk⟩
            case measure => simp [intOf]; omega
      | false =>
        clear hz1
        rename World => wB
        have CT : Hid (Calls Try.prog 6 #[.agg (toyV wB.heap.size), .slice (some ⟨wB.heap.size + 3, 0, none⟩) 1 1] (toyY wB) fun e w' => ∃ g o c G O C, e = .returned (.slice (some ⟨g, o, none⟩) 1 c) ∧ 1 ≤ c ∧ WR w' g o [[5, 10]] G O C ∧ Below wB.heap.size wB w') := (WoO.impl_own _ _ toyQ [7] (toyY wB) (Hp (toyY wB)) (toy_qry wB) (toy_ints wB) (fun g hg => hg) (sz_qry toy_sb rfl) (by decide)).mono fun e w' ⟨v, h3, h4, h5⟩ => by
          rw [toy_wins] at h4
          obtain ⟨g, o, c, G, O, C, e3, hc, hg, hG, hR⟩ := wr_of (told_i2 h4) (fun u hu => ⟨5, 10, List.mem_singleton.1 hu⟩) (by decide)
          subst e3
          exact ⟨g, o, c, G, O, C, h3, hc, hR, chain (toy_below wB) h5⟩
        have VT := Seg.hid (toy_var wB)
        go_upto_region 25 with (first | (refine wpList_load_row rfl 28 _ rfl (wB.heap.size + 2) rfl _ _ _ _ VT.out Try.underlying28 rfl infoQ ?_) | (go_at_call 6; refine CT.out.mono ?_; rintro e wC ⟨g, o, c, G, O, C, rfl, hc, hR, b5⟩; have RC := Seg.hid hR; have BC := Seg.hid b5; clear hR b5))
        have r0 : wC.cell? ⟨g, o, none⟩ = some (.slice (some ⟨G 0, O 0, none⟩) 2 (C 0)) := RC.out.row 0 (by decide)
        have r1 : wC.cell? ⟨G 0, O 0, none⟩ = some (.int .i64 5) := RC.out.fst 0 (by decide)
        have r3 := RC.out.c2 0 (by decide)
        have z5 : ((5 : Int) == 5) = true := rfl
        have z1 : ((1 : Int) == 1) = true := rfl
        go_wp2_with fail
        go_ret
        exact ⟨rfl, (BB4.out.trans (HB.out.mono BB4.out.size)).trans (BC.out.mono (Nat.le_trans BB4.out.size HB.out.size))⟩
theorem walk_any (A : Option Addr) (len cap : Nat) (zs : List Int) (w : World)
    (h : (A = none ∧ len = 0 ∧ cap = 0 ∧ zs = []) ∨ ∃ x, A = some x ∧ len ≤ cap ∧ cap ≤ maxLen ∧ zs.length = cap ∧ (∀ i, i < zs.length → w.cell? (x.add i) = some (.int .u8 (zs.getD i 0))) ∧ ∀ n ∈ zs, (Lit.int .u8 n).wf = true) :
    Calls Try.prog 3 #[.slice A len cap] w fun e w' => e = .returned (.bool true) ∧ Below w.heap.size w w' := by
  by_cases hb : 1048576 < len
  · exact walk_big A len cap w hb
  · exact walk A len cap w (by omega) (LawH.row_bytes w A len cap zs h (by omega))
end Go.Proofs.Ytkohhcjpjloaaaa.WdL
