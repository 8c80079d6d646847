/- The search among versions by their Key. -/
import Derived.Test.YtmkkdladgoilmaaAgH
import Derived.BigQuiet
namespace Go.Proofs.Ytmkkdladgoilmaa.AgI
set_option maxRecDepth 8000
open Go.RowKit
open Ls Lp AgP
open Recs (hsz below1 below2 chain)
set_option linter.unusedVariables false
/-- Where k stands among the Keys. -/
structure Fs (s : List Apx) (k : Int) (r : Nat) : Prop where
  le : r ≤ s.length
  lo : ∀ y, y < r → (s.getD y default).key < k
  hi : ∀ y, r ≤ y → y < s.length → k ≤ (s.getD y default).key
structure An (s : List Apx) (a : Apx) (w : World) (e : Ending) (w' : World) : Prop where
  ex : ∃ (r : Nat), e = .returned (.tuple #[.int .i64 r, .bool (decide (r < s.length) && decide ((s.getD r default).key = a.key))]) ∧ Fs s a.key r ∧ Below w.heap.size w w'
abbrev arow (a : Apx) : Array Value := #[.int .i64 a.key, .int .i64 a.least, .int .i64 a.most]
theorem cmpK_lt (x y : Int) : decide (cmpK x y < 0) = decide (x < y) := by
  unfold cmpK
  by_cases h : x < y
  · simp [h]
  · by_cases h2 : y < x <;> simp [h, h2]
theorem cmpK_eq (x y : Int) : (cmpK x y == 0) = decide (x = y) := by
  unfold cmpK
  by_cases h : x < y
  · simp [h]; omega
  · by_cases h2 : y < x
    · simp [h, h2]; omega
    · have : x = y := by omega
      subst this
      simp
set_option maxHeartbeats 3200000 in
theorem bin_any (x : Value) (s : List Apx) (a : Apx) (w : World) (S : Nat → Prop) (hv : LAt 3 EApx w S x s) (hS : ∀ g, S g → g < w.heap.size) (hn : s.length ≤ 40)
    (hm : ∀ i j, i ≤ j → j < s.length → (s.getD i default).key ≤ (s.getD j default).key) :
    Calls Try.prog 25 #[x, .agg (arow a), .func (.func 26) #[] #[]] w fun e w' => An s a w e w' := by
  obtain ⟨A, c, g, o, F, rfl, OA, n3⟩ := opn hv hS
  have HA := Seg.hid OA
  have HM := Seg.hid hm
  clear hv OA hm
  go_enter Try.func25, Try.ntmps25
  go_upto_region 2 with fail
  obtain ⟨w1, hw1⟩ : ∃ w1, w.alloc (.cells (arow a) 38 (0, 0)) = w1 := ⟨_, rfl⟩
  rw [hw1]
  have R1 : Hid (w1.heap[w.heap.size]? = some (.cells (arow a) 38 (0, 0))) := by show _ = _; rw [← hw1]; exact heap_alloc_new _ _
  have B1 : Hid (Below w.heap.size w w1) := by show Below _ _ _; rw [← hw1]; exact below1 w _
  have hl1 : w.heap.size < w1.heap.size := (Array.getElem?_eq_some_iff.1 R1.out).1
  clear hw1
  have KA : Hid (∀ wx, Below w1.heap.size w1 wx → wx.cell? ⟨w.heap.size, 0, none⟩ = some (.int .i64 a.key) ∧ wx.cell? ⟨w.heap.size, 1, none⟩ = some (.int .i64 a.least) ∧ wx.cell? ⟨w.heap.size, 2, none⟩ = some (.int .i64 a.most)) := fun wx b => by
    have hR : wx.heap[w.heap.size]? = some (.cells (arow a) 38 (0, 0)) := by rw [b.block _ hl1]; exact R1.out
    exact ⟨cell_of_row wx _ 0 _ _ (0, 0) hR, cell_of_row wx _ 1 _ _ (0, 0) hR, cell_of_row wx _ 2 _ _ (0, 0) hR⟩
  go_wp2_with fail
  go_loopw [9, 10] (fun vi vj wr => ∃ (i j : Nat), i ≤ j ∧ j ≤ s.length ∧ vi = .int .i64 i ∧ vj = .int .i64 j ∧ Hid ((∀ y, y < i → (s.getD y default).key < a.key) ∧ (∀ y, j ≤ y → y < s.length → a.key ≤ (s.getD y default).key) ∧ Below w1.heap.size w1 wr)) (fun vi vj _ => (intOf vj).toNat - (intOf vi).toNat)
  case atStart => exact ⟨0, s.length, Nat.zero_le _, Nat.le_refl _, rfl, rfl, fun y hy => absurd hy (by omega), fun y hy hy2 => absurd hy (by omega), Below.refl _ _⟩
  case round =>
    obtain ⟨i, j, hij, hjn, rfl, rfl, HW⟩ := hrel
    by_cases hlt : i < j
    · have q0 : (i : Int) < (j : Int) := by omega
      obtain ⟨ea, hc, hga⟩ := HA.out.addr.resolve_left (by omega)
      go_upto_region 5 with fail
      obtain ⟨m, hmd⟩ : ∃ m : Nat, ((i : Int) + (j : Int)) / 2 = (m : Int) := ⟨(i + j) / 2, by omega⟩
      have m1 : i ≤ m := by omega
      have m2 : m < j := by omega
      try rw [hmd]
      clear hmd
      have bw := HW.out.2.2
      have OL := HA.out.later keepsApx hS (chain B1.out bw)
      obtain ⟨d0, d1, d2⟩ := apx_cells (i := m) (fun j hj => OL.cells m (by omega) j hj) (OL.el m (by omega))
      obtain ⟨d3, d4, d5⟩ := KA.out wr bw
      have hgr : g < wr.heap.size := by have := bw.size; have := B1.out.size; omega
      have hgt : w.heap.size < wr.heap.size := by have := bw.size; omega
      have h0 : (0 : Int) ≤ (m : Int) := by omega
      have h1 : (m : Int) < (s.length : Int) := by omega
      have CQ : Hid (∀ wx, Calls Try.prog 26 #[.agg (arow (s.getD m default)), .agg (arow a)] wx fun e w' => e = .returned (.int .i64 (cmpA (s.getD m default) a)) ∧ Below wx.heap.size wx w') := fun wx => cmpA_any _ _ wx
      have QL : Hid (decide (cmpA (s.getD m default) a < 0) = decide ((s.getD m default).key < a.key)) := cmpK_lt _ _
      have NL : Hid ((s.getD m default).key < a.key → ∀ y, y < m + 1 → (s.getD y default).key < a.key) := fun hp y hy => Int.lt_of_le_of_lt (HM.out y m (by omega) (by omega)) hp
      have NG : Hid (¬ (s.getD m default).key < a.key → ∀ y, m ≤ y → y < s.length → a.key ≤ (s.getD y default).key) := fun hp y hy hy2 => by have := HM.out m y hy hy2; omega
      clear OL bw
      subst ea
      generalize cmpA (s.getD m default) a = q at *
      generalize s.getD m default = tm at *
      go_region_held3 (fun w' => w'.cell? ⟨g, o + m * 3, none⟩ = some (.int .i64 tm.key) ∧ w'.cell? ⟨g, o + m * 3 + 1, none⟩ = some (.int .i64 tm.least) ∧ w'.cell? ⟨g, o + m * 3 + 2, none⟩ = some (.int .i64 tm.most) ∧ w'.cell? ⟨w.heap.size, 0, none⟩ = some (.int .i64 a.key) ∧ w'.cell? ⟨w.heap.size, 1, none⟩ = some (.int .i64 a.least) ∧ w'.cell? ⟨w.heap.size, 2, none⟩ = some (.int .i64 a.most)) (first | exact ⟨d0, d1, d2, d3, d4, d5⟩ | exact ⟨r0, r1, r2, r3, r4, r5⟩ | go_keep)
        (first | (go_at_call 26; refine (CQ.out _).mono ?_; rintro e w8 ⟨rfl, b8⟩; have B8 : Hid (Below wr.heap.size wr w8) := ⟨b8.os, b8.tape, b8.output, b8.size, b8.block⟩; clear b8; have r0 := (B8.out.cell (p := ⟨g, o + m * 3, none⟩) hgr).trans d0; have r1 := (B8.out.cell (p := ⟨g, o + m * 3 + 1, none⟩) hgr).trans d1; have r2 := (B8.out.cell (p := ⟨g, o + m * 3 + 2, none⟩) hgr).trans d2; have r3 := (B8.out.cell (p := ⟨w.heap.size, 0, none⟩) hgt).trans d3; have r4 := (B8.out.cell (p := ⟨w.heap.size, 1, none⟩) hgt).trans d4; have r5 := (B8.out.cell (p := ⟨w.heap.size, 2, none⟩) hgt).trans d5))
      by_cases hp : tm.key < a.key
      · have N1 := Seg.hid (NL.out hp)
        rw [show decide (q < 0) = true by rw [QL.out]; exact decide_eq_true hp]
        clear hp NL NG
        go_wp2
        go_roundw
        case rel => exact ⟨m + 1, j, by omega, hjn, by go_num, rfl, N1.out, HW.out.2.1, chain HW.out.2.2 B8.out⟩
        case measure => simp [intOf]; omega
      · have N1 := Seg.hid (NG.out (by omega))
        rw [show decide (q < 0) = false by rw [QL.out]; exact decide_eq_false hp]
        clear hp NL NG
        go_wp2
        go_roundw
        case rel => exact ⟨i, m, by omega, by omega, rfl, rfl, HW.out.1, N1.out, chain HW.out.2.2 B8.out⟩
        case measure => simp [intOf]; omega
    · have q0 : ¬ (i : Int) < (j : Int) := by omega
      have hje : j = i := by omega
      subst hje
      have FD : Hid (Fs s a.key j) := ⟨by omega, HW.out.1, HW.out.2.1⟩
      have bw := HW.out.2.2
      have BF := Seg.hid (chain B1.out bw)
      by_cases hl : j < s.length
      · obtain ⟨ea, hc, hga⟩ := HA.out.addr.resolve_left (by omega)
        have OL := HA.out.later keepsApx hS (chain B1.out bw)
        obtain ⟨d0, d1, d2⟩ := apx_cells (i := j) (fun i hi => OL.cells j hl i hi) (OL.el j hl)
        obtain ⟨d3, d4, d5⟩ := KA.out wr bw
        have hgr : g < wr.heap.size := by have := bw.size; have := B1.out.size; omega
        have hgt : w.heap.size < wr.heap.size := by have := bw.size; omega
        have h0 : (0 : Int) ≤ (j : Int) := by omega
        have h1 : (j : Int) < (s.length : Int) := by omega
        have CQ : Hid (∀ wx, Calls Try.prog 26 #[.agg (arow (s.getD j default)), .agg (arow a)] wx fun e w' => e = .returned (.int .i64 (cmpA (s.getD j default) a)) ∧ Below wx.heap.size wx w') := fun wx => cmpA_any _ _ wx
        have QL : Hid ((cmpA (s.getD j default) a == 0) = (decide (j < s.length) && decide ((s.getD j default).key = a.key))) := by show _ = _; rw [decide_eq_true hl, Bool.true_and]; exact cmpK_eq _ _
        obtain ⟨fl, hfl⟩ : ∃ fl, (decide (j < s.length) && decide ((s.getD j default).key = a.key)) = fl := ⟨_, rfl⟩
        have FL := Seg.hid hfl
        rw [hfl] at QL
        clear OL bw HW hfl
        subst ea
        generalize cmpA (s.getD j default) a = q at *
        generalize hT : s.getD j default = tm at *
        have HT := Seg.hid hT
        clear hT
        go_upto_region 8 with fail
        go_region_held3 (fun w' => w'.cell? ⟨g, o + j * 3, none⟩ = some (.int .i64 tm.key) ∧ w'.cell? ⟨g, o + j * 3 + 1, none⟩ = some (.int .i64 tm.least) ∧ w'.cell? ⟨g, o + j * 3 + 2, none⟩ = some (.int .i64 tm.most) ∧ w'.cell? ⟨w.heap.size, 0, none⟩ = some (.int .i64 a.key) ∧ w'.cell? ⟨w.heap.size, 1, none⟩ = some (.int .i64 a.least) ∧ w'.cell? ⟨w.heap.size, 2, none⟩ = some (.int .i64 a.most)) (first | exact ⟨d0, d1, d2, d3, d4, d5⟩ | exact ⟨r0, r1, r2, r3, r4, r5⟩ | go_keep)
          (first | (go_at_call 26; refine (CQ.out _).mono ?_; rintro e w8 ⟨rfl, b8⟩; have B8 : Hid (Below wr.heap.size wr w8) := ⟨b8.os, b8.tape, b8.output, b8.size, b8.block⟩; clear b8; have r0 := (B8.out.cell (p := ⟨g, o + j * 3, none⟩) hgr).trans d0; have r1 := (B8.out.cell (p := ⟨g, o + j * 3 + 1, none⟩) hgr).trans d1; have r2 := (B8.out.cell (p := ⟨g, o + j * 3 + 2, none⟩) hgr).trans d2; have r3 := (B8.out.cell (p := ⟨w.heap.size, 0, none⟩) hgt).trans d3; have r4 := (B8.out.cell (p := ⟨w.heap.size, 1, none⟩) hgt).trans d4; have r5 := (B8.out.cell (p := ⟨w.heap.size, 2, none⟩) hgt).trans d5))
        go_wp2
        go_ret2
        exact ⟨j, by rw [HT.out, FL.out, ← QL.out]; rfl, FD.out, chain BF.out B8.out⟩
      · have h1 : ¬ (j : Int) < (s.length : Int) := by omega
        have FL : Hid ((decide (j < s.length) && decide ((s.getD j default).key = a.key)) = false) := by show _ = _; rw [decide_eq_false hl]; rfl
        have h2 : decide ((j : Int) < (s.length : Int)) = false := decide_eq_false h1
        have h3 : decide (j < s.length) = false := decide_eq_false hl
        clear bw HW
        go_upto_region 8 with fail
        go_quiet (fail)
        go_wp2
        go_ret2
        exact ⟨j, by rw [FL.out]; rfl, FD.out, ⟨BF.out.os, BF.out.tape, BF.out.output, BF.out.size, BF.out.block⟩⟩
end Go.Proofs.Ytmkkdladgoilmaa.AgI
