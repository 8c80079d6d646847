/- A line that has a rule's words, read by the program. -/
import Derived.Test.YtaninhajnfgkkaaDoorPaR
import Derived.Deep.RegionLaw
namespace Go.Proofs.YtaninhajnfgkkaaDoor.PaI
set_option maxRecDepth 8000
open Go.RowKit
open Ls Lp RuP TxP PrP PaP
open Recs (hsz below1 below2 chain)
set_option linter.unusedVariables false
theorem Wd.set {w wx : World} {ws : List (List UInt8)} (h : Wd w wx ws) {g : Nat} (hg : w.heap.size + 1 < g) (j : Nat) (v : Value) : Wd w (wx.setCell ⟨g, j, none⟩ v) ws :=
  ⟨(heap_setCell_other _ _ _ _ (by show w.heap.size ≠ g; omega)).trans h.zero, (heap_setCell_other _ _ _ _ (by show w.heap.size + 1 ≠ g; omega)).trans h.words, h.bel.setCell (by show w.heap.size ≤ g; omega) _⟩
set_option maxHeartbeats 12800000 in
theorem yes_any (s : ByteArray) (m : Int) (w : World) (hs : s.size ≤ 1048576) (hm : w.cell? ⟨0, 0, none⟩ = some (.int .i64 m)) (hn : wsOk (cutF 32 s.toList []) = true) :
    Calls Tryd.prog 20 #[.string s] w fun e w' => e = .returned (.tuple #[.agg (rrow (rdR (cutF 32 s.toList []))), .bool (rdOk (cutF 32 s.toList []))]) ∧ Below w.heap.size w w' := by
  have Z : Hid (rdR (cutF 32 s.toList []) = mkI (cutF 32 s.toList []) ∧ rdOk (cutF 32 s.toList []) = okR (mkI (cutF 32 s.toList []))) := by
    refine ⟨?_, ?_⟩
    · rw [rdR, if_pos hn]
    · rw [rdOk, hn]; rfl
  have CS : Hid (∀ o1, Calls Tryd.prog 21 #[.string s, .string ⟨#[32]⟩] (w.alloc o1) fun e w' => e = .returned (.slice (some ⟨(w.alloc o1).heap.size, 0, none⟩) (cutF 32 s.toList []).length (cutF 32 s.toList []).length) ∧ w' = (w.alloc o1).alloc (.cells ((cutF 32 s.toList []).map fun u => Value.string (bsOf u)).toArray 9)) := fun o1 => split_any s m (w.alloc o1) hs (by rw [← hm]; exact (below1 w o1).cell (cell_pos hm))
  have LE : Hid (∀ j, (wd (cutF 32 s.toList []) j).length ≤ 1048576) := fun j => by
    by_cases hj : j < (cutF 32 s.toList []).length
    · have := cut_le 32 s.toList [] (wd (cutF 32 s.toList []) j) (by unfold wd; rw [List.getD_eq_getElem?_getD, List.getElem?_eq_getElem hj]; exact List.getElem_mem hj)
      rw [size_list] at this
      simp at this
      omega
    · unfold wd
      rw [List.getD_eq_getElem?_getD, List.getElem?_eq_none (by omega)]
      simp
  have h5 : (cutF 32 s.toList []).length = 5 := by simp only [wsOk, Bool.and_eq_true, decide_eq_true_eq] at hn; exact hn.1
  have h6 : ((wd (cutF 32 s.toList []) 0 == [97, 108, 108, 111, 119]) || (wd (cutF 32 s.toList []) 0 == [100, 101, 110, 121])) = true := by simp only [wsOk, Bool.and_eq_true] at hn; exact hn.2
  clear hn
  rw [h5] at CS
  generalize cutF 32 s.toList [] = ws at *
  obtain ⟨ba, x0⟩ : ∃ ba, ((bsOf (wd ws 0)).toList == [97, 108, 108, 111, 119]) = ba := ⟨_, rfl⟩
  obtain ⟨bd, x1⟩ : ∃ bd, ((bsOf (wd ws 0)).toList == [100, 101, 110, 121]) = bd := ⟨_, rfl⟩
  have h7 : (ba || bd) = true := by rw [← x0, ← x1, bs_toList]; exact h6
  have MK : Hid (mkI ws = ⟨bd, bsOf (wd ws 1), idx mayL (wd ws 2), idx onL (wd ws 3), if star (wd ws 4) = true then bsOf (wd ws 4).dropLast else bsOf (wd ws 4), star (wd ws 4)⟩) := by show _ = _; rw [← x1, bs_toList]; rfl
  clear h6
  go_enter Tryd.func20, Tryd.ntmps20
  go_upto_region 2 with (go_at_call 21; refine (CS.out _).mono ?_; rintro e w2 ⟨rfl, hw2⟩; have T2 := Seg.hid (wd_of hw2); clear hw2)
  have l2 := T2.out.lt
  have KC : Hid (∀ wx, Below w2.heap.size w2 wx → wx.cell? ⟨w.heap.size + 1, 0, none⟩ = some (.string (bsOf (wd ws 0))) ∧ wx.cell? ⟨w.heap.size + 1, 1, none⟩ = some (.string (bsOf (wd ws 1))) ∧ wx.cell? ⟨w.heap.size + 1, 2, none⟩ = some (.string (bsOf (wd ws 2))) ∧ wx.cell? ⟨w.heap.size + 1, 3, none⟩ = some (.string (bsOf (wd ws 3))) ∧ wx.cell? ⟨w.heap.size + 1, 4, none⟩ = some (.string (bsOf (wd ws 4)))) := fun wx b => ⟨(T2.out.later b).cell (by omega), (T2.out.later b).cell (by omega), (T2.out.later b).cell (by omega), (T2.out.later b).cell (by omega), (T2.out.later b).cell (by omega)⟩
  obtain ⟨c0, c1, c2, c3, c4⟩ := KC.out w2 (Below.refl _ _)
  have HL := Seg.hid h5
  clear CS hm h5
  cases bd <;> cases ba
  · cases h7
  all_goals clear h7
  all_goals go_upto_region 4 with fail
  all_goals go_region_held3 (fun w' => w'.cell? ⟨w.heap.size + 1, 0, none⟩ = some (.string (bsOf (wd ws 0))) ∧ w'.cell? ⟨w.heap.size + 1, 1, none⟩ = some (.string (bsOf (wd ws 1)))) (first | exact ⟨c0, c1⟩ | go_keep) (fail)
  · obtain ⟨w4, hw4⟩ : ∃ w4, (w2.alloc (.cells #[.bool false, .string (bsOf (wd ws 1)), .int .i64 0, .int .i64 0, .string ⟨#[]⟩, .bool false] 33 (0, 0))).drew = w4 := ⟨_, rfl⟩
    rw [hw4]
    have R4 : Hid (w4.heap[w2.heap.size]? = some (.cells #[.bool false, .string (bsOf (wd ws 1)), .int .i64 0, .int .i64 0, .string ⟨#[]⟩, .bool false] 33 (0, 0))) := by show _ = _; rw [← hw4]; exact heap_alloc_new _ _
    have B4 : Hid (Below w2.heap.size w2 w4) := by show Below _ _ _; rw [← hw4]; exact (below1 w2 _).drew
    clear hw4 c0 c1 c2 c3 c4
    have l4 : w2.heap.size < w4.heap.size := (Array.getElem?_eq_some_iff.1 R4.out).1
    obtain ⟨_, _, c2, c3, c4⟩ := KC.out w4 B4.out
    have KK : Hid (∀ wx, Below w4.heap.size w4 wx → wx.cell? ⟨w.heap.size + 1, 2, none⟩ = some (.string (bsOf (wd ws 2))) ∧ wx.cell? ⟨w.heap.size + 1, 3, none⟩ = some (.string (bsOf (wd ws 3)))) := fun wx b => ⟨(KC.out wx (chain B4.out b)).2.2.1, (KC.out wx (chain B4.out b)).2.2.2.1⟩
    have CM : Hid (∀ wx, Calls Tryd.prog 23 #[] wx fun e w' => e = .returned (.slice (some ⟨wx.heap.size, 0, none⟩) 5 5) ∧ (∀ j, j < 5 → w'.cell? ⟨wx.heap.size, j, none⟩ = some (.string (mayL.getD j ⟨#[]⟩))) ∧ wx.heap.size < w'.heap.size ∧ Below wx.heap.size wx w') := fun wx => RuI.may_any wx
    have CO : Hid (∀ wx, Calls Tryd.prog 24 #[] wx fun e w' => e = .returned (.slice (some ⟨wx.heap.size, 0, none⟩) 3 3) ∧ (∀ j, j < 3 → w'.cell? ⟨wx.heap.size, j, none⟩ = some (.string (onL.getD j ⟨#[]⟩))) ∧ wx.heap.size < w'.heap.size ∧ Below wx.heap.size wx w') := fun wx => RuI.on_any wx
    have C1 : Hid (∀ (g : Nat) wx, (∀ j, j < 5 → wx.cell? ⟨g, j, none⟩ = some (.string (mayL.getD j ⟨#[]⟩))) → g < wx.heap.size → Calls Tryd.prog 22 #[.slice (some ⟨g, 0, none⟩) 5 5, .string (bsOf (wd ws 2))] wx fun e w' => e = .returned (.int .i64 (idx mayL (wd ws 2))) ∧ wx = w') := fun g wx h1 h2 => by have := idx_any mayL (bsOf (wd ws 2)) g wx h1 h2 (by decide); rw [bs_toList] at this; exact this
    have C2 : Hid (∀ (g : Nat) wx, (∀ j, j < 3 → wx.cell? ⟨g, j, none⟩ = some (.string (onL.getD j ⟨#[]⟩))) → g < wx.heap.size → Calls Tryd.prog 22 #[.slice (some ⟨g, 0, none⟩) 3 3, .string (bsOf (wd ws 3))] wx fun e w' => e = .returned (.int .i64 (idx onL (wd ws 3))) ∧ wx = w') := fun g wx h1 h2 => by have := idx_any onL (bsOf (wd ws 3)) g wx h1 h2 (by decide); rw [bs_toList] at this; exact this
    have RR : Hid (∀ wx, Below w4.heap.size w4 wx → wx.heap[w2.heap.size]? = some (.cells #[.bool false, .string (bsOf (wd ws 1)), .int .i64 0, .int .i64 0, .string ⟨#[]⟩, .bool false] 33 (0, 0))) := fun wx b => (b.block _ l4).trans R4.out
    have SN : Hid (∀ (wx : World) (v : Value) (j : Nat), (wx.cell? ⟨w.heap.size + 1, 2, none⟩ = some (.string (bsOf (wd ws 2))) ∧ wx.cell? ⟨w.heap.size + 1, 3, none⟩ = some (.string (bsOf (wd ws 3)))) → ((wx.setCell ⟨w2.heap.size, j, none⟩ v).cell? ⟨w.heap.size + 1, 2, none⟩ = some (.string (bsOf (wd ws 2))) ∧ (wx.setCell ⟨w2.heap.size, j, none⟩ v).cell? ⟨w.heap.size + 1, 3, none⟩ = some (.string (bsOf (wd ws 3))))) := fun wx v j ⟨h1, h2⟩ => by
      have e : (wx.setCell ⟨w2.heap.size, j, none⟩ v).heap[w.heap.size + 1]? = wx.heap[w.heap.size + 1]? := heap_setCell_other _ _ _ _ (by show w.heap.size + 1 ≠ w2.heap.size; omega)
      exact ⟨(World.cell?_of_block (a := ⟨w.heap.size + 1, 2, none⟩) e).trans h1, (World.cell?_of_block (a := ⟨w.heap.size + 1, 3, none⟩) e).trans h2⟩
    generalize idx mayL (wd ws 2) = im at *
    generalize idx onL (wd ws 3) = io at *
    go_wp2_with fail
    go_region_held3 (fun w' => w'.cell? ⟨w.heap.size + 1, 2, none⟩ = some (.string (bsOf (wd ws 2))) ∧ w'.cell? ⟨w.heap.size + 1, 3, none⟩ = some (.string (bsOf (wd ws 3)))) (first | exact ⟨c2, c3⟩ | exact ⟨c2', c3'⟩ | exact ⟨c2'', c3''⟩ | exact SN.out _ _ _ ⟨c2'', c3''⟩ | exact SN.out _ _ _ (SN.out _ _ _ ⟨c2'', c3''⟩) | go_keep)
      (first | (go_at_call 23; refine (CM.out _).mono ?_; rintro e w8 ⟨rfl, x8, l8, b8⟩; have X8 : Hid (∀ j, j < 5 → w8.cell? ⟨w4.heap.size, j, none⟩ = some (.string (mayL.getD j ⟨#[]⟩))) := x8; have L8 : Hid (w4.heap.size < w8.heap.size) := l8; have B8 : Hid (Below w4.heap.size w4 w8) := ⟨b8.os, b8.tape, b8.output, b8.size, b8.block⟩; clear x8 l8 b8; obtain ⟨c2', c3'⟩ := KK.out w8 B8.out) | (go_at_call 22; (with_reducible refine (C1.out w4.heap.size w8 X8.out L8.out).mono ?_); rintro e w' ⟨rfl, rfl⟩) | (go_at_call 24; refine (CO.out _).mono ?_; rintro e w9 ⟨rfl, x9, l9, b9⟩; have X9 : Hid (∀ j, j < 3 → w9.cell? ⟨w8.heap.size, j, none⟩ = some (.string (onL.getD j ⟨#[]⟩))) := x9; have L9 : Hid (w8.heap.size < w9.heap.size) := l9; have B9 : Hid (Below w4.heap.size w4 w9) := chain B8.out ⟨b9.os, b9.tape, b9.output, b9.size, b9.block⟩; clear x9 l9 b9; obtain ⟨c2'', c3''⟩ := KK.out w9 B9.out; obtain ⟨⟨o0, o1, o2, o3, o4, o5⟩, p0, p1, p2, p3, p4, p5⟩ := sixR (RR.out w9 B9.out); have l9' : w2.heap.size < w9.heap.size := Nat.lt_of_lt_of_le l4 B9.out.size) | (go_at_call 22; (with_reducible refine (C2.out w8.heap.size w9 X9.out L9.out).mono ?_); rintro e w' ⟨rfl, rfl⟩))
    obtain ⟨w10, hw10⟩ : ∃ w10, (w9.setCell ⟨w2.heap.size, 2, none⟩ (.int .i64 im)).setCell ⟨w2.heap.size, 3, none⟩ (.int .i64 io) = w10 := ⟨_, rfl⟩
    rw [hw10]
    have R10 : Hid (w10.heap[w2.heap.size]? = some (.cells #[.bool false, .string (bsOf (wd ws 1)), .int .i64 im, .int .i64 io, .string ⟨#[]⟩, .bool false] 33 (0, 0))) := by
      show _ = _
      rw [← hw10]
      exact heap_setCell_same _ _ 3 _ _ _ (heap_setCell_same w9 _ 2 _ _ _ (RR.out w9 B9.out))
    have T10 : Hid (Wd w w10 ws) := by
      show Wd _ _ _
      rw [← hw10]
      exact ((T2.out.later (chain B4.out B9.out)).set (by omega) 2 _).set (by omega) 3 _
    have s10 : w9.heap.size = w10.heap.size := by rw [← hw10]; simp
    clear hw10 c2 c3 c4 c2' c3' c2'' c3'' o0 o1 o2 o3 o4 o5 p0 p1 p2 p3 p4 p5 KK CM CO C1 C2 RR SN X8 X9 L8 L9 R4 KC
    have l10 : w2.heap.size < w10.heap.size := by omega
    clear l9' l4 s10 B8 B9 B4
    have d4 := T10.out.cell (j := 4) (by rw [HL.out]; omega)
    obtain ⟨⟨o0, o1, o2, o3, o4, o5⟩, p0, p1, p2, p3, p4, p5⟩ := sixR R10.out
    have CC : Hid (∀ wx, Calls Tryd.prog 25 #[.string (bsOf (wd ws 4)), .string ⟨#[42]⟩] wx fun e w' => e = .returned (.tuple #[.string (if star (wd ws 4) = true then bsOf (wd ws 4).dropLast else bsOf (wd ws 4)), .bool (star (wd ws 4))]) ∧ wx = w') := fun wx => by
      have := cutS_any (bsOf (wd ws 4)) wx (by have := LE.out 4; rw [← size_list, bs_toList]; exact this)
      rw [bs_toList] at this
      exact this
    have OKC : Hid (∀ wx, Calls Tryd.prog 26 #[.agg (rrow (mkI ws))] wx fun e w' => e = .returned (.bool (rdOk ws)) ∧ Below wx.heap.size wx w') := fun wx => by
      rw [Z.out.2]
      refine RuI.ok_any (mkI ws) wx ?_ ?_
      · have := LE.out 1
        show (bsOf (wd ws 1)).size ≤ maxLen
        rw [← size_list, bs_toList]; unfold maxLen; omega
      · have := LE.out 4
        show (if star (wd ws 4) = true then bsOf (wd ws 4).dropLast else bsOf (wd ws 4)).size ≤ maxLen
        split
        · rw [← size_list, bs_toList, List.length_dropLast]; unfold maxLen; omega
        · rw [← size_list, bs_toList]; unfold maxLen; omega
    rw [MK.out] at OKC
    have ZR : Hid (rdR ws = ⟨false, bsOf (wd ws 1), im, io, if star (wd ws 4) = true then bsOf (wd ws 4).dropLast else bsOf (wd ws 4), star (wd ws 4)⟩) := by show _ = _; rw [Z.out.1, MK.out]
    clear Z MK LE
    generalize (if star (wd ws 4) = true then bsOf (wd ws 4).dropLast else bsOf (wd ws 4)) = nm at *
    generalize star (wd ws 4) = bg at *
    generalize bsOf (wd ws 4) = a4 at *
    generalize bsOf (wd ws 1) = a1 at *
    generalize hfl : rdOk ws = fl at *
    have FL := Seg.hid hfl
    clear hfl
    go_upto_region 7 with (go_at_call 25; refine (CC.out _).mono ?_; rintro e w' ⟨rfl, rfl⟩)
    obtain ⟨w12, hw12⟩ : ∃ w12, (w10.setCell ⟨w2.heap.size, 4, none⟩ (.string nm)).setCell ⟨w2.heap.size, 5, none⟩ (.bool bg) = w12 := ⟨_, rfl⟩
    rw [hw12]
    have R12 : Hid (w12.heap[w2.heap.size]? = some (.cells #[.bool false, .string a1, .int .i64 im, .int .i64 io, .string nm, .bool bg] 33 (0, 0))) := by
      show _ = _
      rw [← hw12]
      exact heap_setCell_same _ _ 5 _ _ _ (heap_setCell_same w10 _ 4 _ _ _ R10.out)
    have T12 : Hid (Wd w w12 ws) := by
      show Wd _ _ _
      rw [← hw12]
      exact (T10.out.set (by omega) 4 _).set (by omega) 5 _
    clear hw12 o0 o1 o2 o3 o4 o5 p0 p1 p2 p3 p4 p5 d4 R10 T10 l10 CC
    have l12 : w2.heap.size < w12.heap.size := (Array.getElem?_eq_some_iff.1 R12.out).1
    have l13 : w.heap.size < w12.heap.size := by have := T12.out.lt; omega
    obtain ⟨⟨o0, o1, o2, o3, o4, o5⟩, _⟩ := sixR R12.out
    obtain ⟨⟨n0, n1, n2, n3, n4, n5⟩, f0, f1, f2, f3, f4, f5⟩ := sixR T12.out.zero
    have PA := Seg.hid (T12.out.put ⟨false, a1, im, io, nm, bg⟩)
    have PB : Hid (∀ wx, Below w12.heap.size w12 wx → Wd w wx ws) := fun wx h => T12.out.later h
    go_region_with (first | (go_at_call 26; (with_reducible refine (OKC.out _).mono ?_); rintro e w13 ⟨rfl, b8⟩; (first | (have T8 : Hid (Wd w w13 ws) := PB.out w13 ⟨b8.os, b8.tape, b8.output, b8.size, b8.block⟩; have P8 := Seg.hid (T8.out.put ⟨false, a1, im, io, nm, bg⟩); obtain ⟨⟨m0, m1, m2, m3, m4, m5⟩, k0, k1, k2, k3, k4, k5⟩ := sixR T8.out.zero; have l8 : w.heap.size < w13.heap.size := (by have := T8.out.lt; omega); have r13 : w13.heap[w2.heap.size]? = some (.cells #[.bool false, .string a1, .int .i64 im, .int .i64 io, .string nm, .bool bg] 33 (0, 0)) := (b8.block _ l12).trans R12.out; obtain ⟨⟨q0, q1, q2, q3, q4, q5⟩, _⟩ := sixR r13; have l14 : w2.heap.size < w13.heap.size := Nat.lt_of_lt_of_le l12 b8.size; clear b8) | (have P8 := Seg.hid (And.intro ((b8.block _ (by simpa using l13)).trans PA.out.1) (chain PA.out.2 b8)); clear b8))))
    all_goals
      go_wp2_with fail
      exact bodyPost_ret (v := .tuple #[.agg (rrow ⟨false, a1, im, io, nm, bg⟩), .bool fl]) (R2.results_row_tmp rfl _ _ w.heap.size 33 (rrow ⟨false, a1, im, io, nm, bg⟩) (0, 0) _ _ rfl rfl P8.out.1 Tryd.underlying33 rfl info6) rfl ⟨by rw [ZR.out, FL.out], P8.out.2⟩
  · obtain ⟨w4, hw4⟩ : ∃ w4, (w2.alloc (.cells #[.bool true, .string (bsOf (wd ws 1)), .int .i64 0, .int .i64 0, .string ⟨#[]⟩, .bool false] 33 (0, 0))).drew = w4 := ⟨_, rfl⟩
    rw [hw4]
    have R4 : Hid (w4.heap[w2.heap.size]? = some (.cells #[.bool true, .string (bsOf (wd ws 1)), .int .i64 0, .int .i64 0, .string ⟨#[]⟩, .bool false] 33 (0, 0))) := by show _ = _; rw [← hw4]; exact heap_alloc_new _ _
    have B4 : Hid (Below w2.heap.size w2 w4) := by show Below _ _ _; rw [← hw4]; exact (below1 w2 _).drew
    clear hw4 c0 c1 c2 c3 c4
    have l4 : w2.heap.size < w4.heap.size := (Array.getElem?_eq_some_iff.1 R4.out).1
    obtain ⟨_, _, c2, c3, c4⟩ := KC.out w4 B4.out
    have KK : Hid (∀ wx, Below w4.heap.size w4 wx → wx.cell? ⟨w.heap.size + 1, 2, none⟩ = some (.string (bsOf (wd ws 2))) ∧ wx.cell? ⟨w.heap.size + 1, 3, none⟩ = some (.string (bsOf (wd ws 3)))) := fun wx b => ⟨(KC.out wx (chain B4.out b)).2.2.1, (KC.out wx (chain B4.out b)).2.2.2.1⟩
    have CM : Hid (∀ wx, Calls Tryd.prog 23 #[] wx fun e w' => e = .returned (.slice (some ⟨wx.heap.size, 0, none⟩) 5 5) ∧ (∀ j, j < 5 → w'.cell? ⟨wx.heap.size, j, none⟩ = some (.string (mayL.getD j ⟨#[]⟩))) ∧ wx.heap.size < w'.heap.size ∧ Below wx.heap.size wx w') := fun wx => RuI.may_any wx
    have CO : Hid (∀ wx, Calls Tryd.prog 24 #[] wx fun e w' => e = .returned (.slice (some ⟨wx.heap.size, 0, none⟩) 3 3) ∧ (∀ j, j < 3 → w'.cell? ⟨wx.heap.size, j, none⟩ = some (.string (onL.getD j ⟨#[]⟩))) ∧ wx.heap.size < w'.heap.size ∧ Below wx.heap.size wx w') := fun wx => RuI.on_any wx
    have C1 : Hid (∀ (g : Nat) wx, (∀ j, j < 5 → wx.cell? ⟨g, j, none⟩ = some (.string (mayL.getD j ⟨#[]⟩))) → g < wx.heap.size → Calls Tryd.prog 22 #[.slice (some ⟨g, 0, none⟩) 5 5, .string (bsOf (wd ws 2))] wx fun e w' => e = .returned (.int .i64 (idx mayL (wd ws 2))) ∧ wx = w') := fun g wx h1 h2 => by have := idx_any mayL (bsOf (wd ws 2)) g wx h1 h2 (by decide); rw [bs_toList] at this; exact this
    have C2 : Hid (∀ (g : Nat) wx, (∀ j, j < 3 → wx.cell? ⟨g, j, none⟩ = some (.string (onL.getD j ⟨#[]⟩))) → g < wx.heap.size → Calls Tryd.prog 22 #[.slice (some ⟨g, 0, none⟩) 3 3, .string (bsOf (wd ws 3))] wx fun e w' => e = .returned (.int .i64 (idx onL (wd ws 3))) ∧ wx = w') := fun g wx h1 h2 => by have := idx_any onL (bsOf (wd ws 3)) g wx h1 h2 (by decide); rw [bs_toList] at this; exact this
    have RR : Hid (∀ wx, Below w4.heap.size w4 wx → wx.heap[w2.heap.size]? = some (.cells #[.bool true, .string (bsOf (wd ws 1)), .int .i64 0, .int .i64 0, .string ⟨#[]⟩, .bool false] 33 (0, 0))) := fun wx b => (b.block _ l4).trans R4.out
    have SN : Hid (∀ (wx : World) (v : Value) (j : Nat), (wx.cell? ⟨w.heap.size + 1, 2, none⟩ = some (.string (bsOf (wd ws 2))) ∧ wx.cell? ⟨w.heap.size + 1, 3, none⟩ = some (.string (bsOf (wd ws 3)))) → ((wx.setCell ⟨w2.heap.size, j, none⟩ v).cell? ⟨w.heap.size + 1, 2, none⟩ = some (.string (bsOf (wd ws 2))) ∧ (wx.setCell ⟨w2.heap.size, j, none⟩ v).cell? ⟨w.heap.size + 1, 3, none⟩ = some (.string (bsOf (wd ws 3))))) := fun wx v j ⟨h1, h2⟩ => by
      have e : (wx.setCell ⟨w2.heap.size, j, none⟩ v).heap[w.heap.size + 1]? = wx.heap[w.heap.size + 1]? := heap_setCell_other _ _ _ _ (by show w.heap.size + 1 ≠ w2.heap.size; omega)
      exact ⟨(World.cell?_of_block (a := ⟨w.heap.size + 1, 2, none⟩) e).trans h1, (World.cell?_of_block (a := ⟨w.heap.size + 1, 3, none⟩) e).trans h2⟩
    generalize idx mayL (wd ws 2) = im at *
    generalize idx onL (wd ws 3) = io at *
    go_wp2_with fail
    go_region_held3 (fun w' => w'.cell? ⟨w.heap.size + 1, 2, none⟩ = some (.string (bsOf (wd ws 2))) ∧ w'.cell? ⟨w.heap.size + 1, 3, none⟩ = some (.string (bsOf (wd ws 3)))) (first | exact ⟨c2, c3⟩ | exact ⟨c2', c3'⟩ | exact ⟨c2'', c3''⟩ | exact SN.out _ _ _ ⟨c2'', c3''⟩ | exact SN.out _ _ _ (SN.out _ _ _ ⟨c2'', c3''⟩) | go_keep)
      (first | (go_at_call 23; refine (CM.out _).mono ?_; rintro e w8 ⟨rfl, x8, l8, b8⟩; have X8 : Hid (∀ j, j < 5 → w8.cell? ⟨w4.heap.size, j, none⟩ = some (.string (mayL.getD j ⟨#[]⟩))) := x8; have L8 : Hid (w4.heap.size < w8.heap.size) := l8; have B8 : Hid (Below w4.heap.size w4 w8) := ⟨b8.os, b8.tape, b8.output, b8.size, b8.block⟩; clear x8 l8 b8; obtain ⟨c2', c3'⟩ := KK.out w8 B8.out) | (go_at_call 22; (with_reducible refine (C1.out w4.heap.size w8 X8.out L8.out).mono ?_); rintro e w' ⟨rfl, rfl⟩) | (go_at_call 24; refine (CO.out _).mono ?_; rintro e w9 ⟨rfl, x9, l9, b9⟩; have X9 : Hid (∀ j, j < 3 → w9.cell? ⟨w8.heap.size, j, none⟩ = some (.string (onL.getD j ⟨#[]⟩))) := x9; have L9 : Hid (w8.heap.size < w9.heap.size) := l9; have B9 : Hid (Below w4.heap.size w4 w9) := chain B8.out ⟨b9.os, b9.tape, b9.output, b9.size, b9.block⟩; clear x9 l9 b9; obtain ⟨c2'', c3''⟩ := KK.out w9 B9.out; obtain ⟨⟨o0, o1, o2, o3, o4, o5⟩, p0, p1, p2, p3, p4, p5⟩ := sixR (RR.out w9 B9.out); have l9' : w2.heap.size < w9.heap.size := Nat.lt_of_lt_of_le l4 B9.out.size) | (go_at_call 22; (with_reducible refine (C2.out w8.heap.size w9 X9.out L9.out).mono ?_); rintro e w' ⟨rfl, rfl⟩))
    obtain ⟨w10, hw10⟩ : ∃ w10, (w9.setCell ⟨w2.heap.size, 2, none⟩ (.int .i64 im)).setCell ⟨w2.heap.size, 3, none⟩ (.int .i64 io) = w10 := ⟨_, rfl⟩
    rw [hw10]
    have R10 : Hid (w10.heap[w2.heap.size]? = some (.cells #[.bool true, .string (bsOf (wd ws 1)), .int .i64 im, .int .i64 io, .string ⟨#[]⟩, .bool false] 33 (0, 0))) := by
      show _ = _
      rw [← hw10]
      exact heap_setCell_same _ _ 3 _ _ _ (heap_setCell_same w9 _ 2 _ _ _ (RR.out w9 B9.out))
    have T10 : Hid (Wd w w10 ws) := by
      show Wd _ _ _
      rw [← hw10]
      exact ((T2.out.later (chain B4.out B9.out)).set (by omega) 2 _).set (by omega) 3 _
    have s10 : w9.heap.size = w10.heap.size := by rw [← hw10]; simp
    clear hw10 c2 c3 c4 c2' c3' c2'' c3'' o0 o1 o2 o3 o4 o5 p0 p1 p2 p3 p4 p5 KK CM CO C1 C2 RR SN X8 X9 L8 L9 R4 KC
    have l10 : w2.heap.size < w10.heap.size := by omega
    clear l9' l4 s10 B8 B9 B4
    have d4 := T10.out.cell (j := 4) (by rw [HL.out]; omega)
    obtain ⟨⟨o0, o1, o2, o3, o4, o5⟩, p0, p1, p2, p3, p4, p5⟩ := sixR R10.out
    have CC : Hid (∀ wx, Calls Tryd.prog 25 #[.string (bsOf (wd ws 4)), .string ⟨#[42]⟩] wx fun e w' => e = .returned (.tuple #[.string (if star (wd ws 4) = true then bsOf (wd ws 4).dropLast else bsOf (wd ws 4)), .bool (star (wd ws 4))]) ∧ wx = w') := fun wx => by
      have := cutS_any (bsOf (wd ws 4)) wx (by have := LE.out 4; rw [← size_list, bs_toList]; exact this)
      rw [bs_toList] at this
      exact this
    have OKC : Hid (∀ wx, Calls Tryd.prog 26 #[.agg (rrow (mkI ws))] wx fun e w' => e = .returned (.bool (rdOk ws)) ∧ Below wx.heap.size wx w') := fun wx => by
      rw [Z.out.2]
      refine RuI.ok_any (mkI ws) wx ?_ ?_
      · have := LE.out 1
        show (bsOf (wd ws 1)).size ≤ maxLen
        rw [← size_list, bs_toList]; unfold maxLen; omega
      · have := LE.out 4
        show (if star (wd ws 4) = true then bsOf (wd ws 4).dropLast else bsOf (wd ws 4)).size ≤ maxLen
        split
        · rw [← size_list, bs_toList, List.length_dropLast]; unfold maxLen; omega
        · rw [← size_list, bs_toList]; unfold maxLen; omega
    rw [MK.out] at OKC
    have ZR : Hid (rdR ws = ⟨true, bsOf (wd ws 1), im, io, if star (wd ws 4) = true then bsOf (wd ws 4).dropLast else bsOf (wd ws 4), star (wd ws 4)⟩) := by show _ = _; rw [Z.out.1, MK.out]
    clear Z MK LE
    generalize (if star (wd ws 4) = true then bsOf (wd ws 4).dropLast else bsOf (wd ws 4)) = nm at *
    generalize star (wd ws 4) = bg at *
    generalize bsOf (wd ws 4) = a4 at *
    generalize bsOf (wd ws 1) = a1 at *
    generalize hfl : rdOk ws = fl at *
    have FL := Seg.hid hfl
    clear hfl
    go_upto_region 7 with (go_at_call 25; refine (CC.out _).mono ?_; rintro e w' ⟨rfl, rfl⟩)
    obtain ⟨w12, hw12⟩ : ∃ w12, (w10.setCell ⟨w2.heap.size, 4, none⟩ (.string nm)).setCell ⟨w2.heap.size, 5, none⟩ (.bool bg) = w12 := ⟨_, rfl⟩
    rw [hw12]
    have R12 : Hid (w12.heap[w2.heap.size]? = some (.cells #[.bool true, .string a1, .int .i64 im, .int .i64 io, .string nm, .bool bg] 33 (0, 0))) := by
      show _ = _
      rw [← hw12]
      exact heap_setCell_same _ _ 5 _ _ _ (heap_setCell_same w10 _ 4 _ _ _ R10.out)
    have T12 : Hid (Wd w w12 ws) := by
      show Wd _ _ _
      rw [← hw12]
      exact (T10.out.set (by omega) 4 _).set (by omega) 5 _
    clear hw12 o0 o1 o2 o3 o4 o5 p0 p1 p2 p3 p4 p5 d4 R10 T10 l10 CC
    have l12 : w2.heap.size < w12.heap.size := (Array.getElem?_eq_some_iff.1 R12.out).1
    have l13 : w.heap.size < w12.heap.size := by have := T12.out.lt; omega
    obtain ⟨⟨o0, o1, o2, o3, o4, o5⟩, _⟩ := sixR R12.out
    obtain ⟨⟨n0, n1, n2, n3, n4, n5⟩, f0, f1, f2, f3, f4, f5⟩ := sixR T12.out.zero
    have PA := Seg.hid (T12.out.put ⟨true, a1, im, io, nm, bg⟩)
    have PB : Hid (∀ wx, Below w12.heap.size w12 wx → Wd w wx ws) := fun wx h => T12.out.later h
    go_region_with (first | (go_at_call 26; (with_reducible refine (OKC.out _).mono ?_); rintro e w13 ⟨rfl, b8⟩; (first | (have T8 : Hid (Wd w w13 ws) := PB.out w13 ⟨b8.os, b8.tape, b8.output, b8.size, b8.block⟩; have P8 := Seg.hid (T8.out.put ⟨true, a1, im, io, nm, bg⟩); obtain ⟨⟨m0, m1, m2, m3, m4, m5⟩, k0, k1, k2, k3, k4, k5⟩ := sixR T8.out.zero; have l8 : w.heap.size < w13.heap.size := (by have := T8.out.lt; omega); have r13 : w13.heap[w2.heap.size]? = some (.cells #[.bool true, .string a1, .int .i64 im, .int .i64 io, .string nm, .bool bg] 33 (0, 0)) := (b8.block _ l12).trans R12.out; obtain ⟨⟨q0, q1, q2, q3, q4, q5⟩, _⟩ := sixR r13; have l14 : w2.heap.size < w13.heap.size := Nat.lt_of_lt_of_le l12 b8.size; clear b8) | (have P8 := Seg.hid (And.intro ((b8.block _ (by simpa using l13)).trans PA.out.1) (chain PA.out.2 b8)); clear b8))))
    all_goals
      go_wp2_with fail
      exact bodyPost_ret (v := .tuple #[.agg (rrow ⟨true, a1, im, io, nm, bg⟩), .bool fl]) (R2.results_row_tmp rfl _ _ w.heap.size 33 (rrow ⟨true, a1, im, io, nm, bg⟩) (0, 0) _ _ rfl rfl P8.out.1 Tryd.underlying33 rfl info6) rfl ⟨by rw [ZR.out, FL.out], P8.out.2⟩
  · obtain ⟨w4, hw4⟩ : ∃ w4, (w2.alloc (.cells #[.bool true, .string (bsOf (wd ws 1)), .int .i64 0, .int .i64 0, .string ⟨#[]⟩, .bool false] 33 (0, 0))).drew = w4 := ⟨_, rfl⟩
    rw [hw4]
    have R4 : Hid (w4.heap[w2.heap.size]? = some (.cells #[.bool true, .string (bsOf (wd ws 1)), .int .i64 0, .int .i64 0, .string ⟨#[]⟩, .bool false] 33 (0, 0))) := by show _ = _; rw [← hw4]; exact heap_alloc_new _ _
    have B4 : Hid (Below w2.heap.size w2 w4) := by show Below _ _ _; rw [← hw4]; exact (below1 w2 _).drew
    clear hw4 c0 c1 c2 c3 c4
    have l4 : w2.heap.size < w4.heap.size := (Array.getElem?_eq_some_iff.1 R4.out).1
    obtain ⟨_, _, c2, c3, c4⟩ := KC.out w4 B4.out
    have KK : Hid (∀ wx, Below w4.heap.size w4 wx → wx.cell? ⟨w.heap.size + 1, 2, none⟩ = some (.string (bsOf (wd ws 2))) ∧ wx.cell? ⟨w.heap.size + 1, 3, none⟩ = some (.string (bsOf (wd ws 3)))) := fun wx b => ⟨(KC.out wx (chain B4.out b)).2.2.1, (KC.out wx (chain B4.out b)).2.2.2.1⟩
    have CM : Hid (∀ wx, Calls Tryd.prog 23 #[] wx fun e w' => e = .returned (.slice (some ⟨wx.heap.size, 0, none⟩) 5 5) ∧ (∀ j, j < 5 → w'.cell? ⟨wx.heap.size, j, none⟩ = some (.string (mayL.getD j ⟨#[]⟩))) ∧ wx.heap.size < w'.heap.size ∧ Below wx.heap.size wx w') := fun wx => RuI.may_any wx
    have CO : Hid (∀ wx, Calls Tryd.prog 24 #[] wx fun e w' => e = .returned (.slice (some ⟨wx.heap.size, 0, none⟩) 3 3) ∧ (∀ j, j < 3 → w'.cell? ⟨wx.heap.size, j, none⟩ = some (.string (onL.getD j ⟨#[]⟩))) ∧ wx.heap.size < w'.heap.size ∧ Below wx.heap.size wx w') := fun wx => RuI.on_any wx
    have C1 : Hid (∀ (g : Nat) wx, (∀ j, j < 5 → wx.cell? ⟨g, j, none⟩ = some (.string (mayL.getD j ⟨#[]⟩))) → g < wx.heap.size → Calls Tryd.prog 22 #[.slice (some ⟨g, 0, none⟩) 5 5, .string (bsOf (wd ws 2))] wx fun e w' => e = .returned (.int .i64 (idx mayL (wd ws 2))) ∧ wx = w') := fun g wx h1 h2 => by have := idx_any mayL (bsOf (wd ws 2)) g wx h1 h2 (by decide); rw [bs_toList] at this; exact this
    have C2 : Hid (∀ (g : Nat) wx, (∀ j, j < 3 → wx.cell? ⟨g, j, none⟩ = some (.string (onL.getD j ⟨#[]⟩))) → g < wx.heap.size → Calls Tryd.prog 22 #[.slice (some ⟨g, 0, none⟩) 3 3, .string (bsOf (wd ws 3))] wx fun e w' => e = .returned (.int .i64 (idx onL (wd ws 3))) ∧ wx = w') := fun g wx h1 h2 => by have := idx_any onL (bsOf (wd ws 3)) g wx h1 h2 (by decide); rw [bs_toList] at this; exact this
    have RR : Hid (∀ wx, Below w4.heap.size w4 wx → wx.heap[w2.heap.size]? = some (.cells #[.bool true, .string (bsOf (wd ws 1)), .int .i64 0, .int .i64 0, .string ⟨#[]⟩, .bool false] 33 (0, 0))) := fun wx b => (b.block _ l4).trans R4.out
    have SN : Hid (∀ (wx : World) (v : Value) (j : Nat), (wx.cell? ⟨w.heap.size + 1, 2, none⟩ = some (.string (bsOf (wd ws 2))) ∧ wx.cell? ⟨w.heap.size + 1, 3, none⟩ = some (.string (bsOf (wd ws 3)))) → ((wx.setCell ⟨w2.heap.size, j, none⟩ v).cell? ⟨w.heap.size + 1, 2, none⟩ = some (.string (bsOf (wd ws 2))) ∧ (wx.setCell ⟨w2.heap.size, j, none⟩ v).cell? ⟨w.heap.size + 1, 3, none⟩ = some (.string (bsOf (wd ws 3))))) := fun wx v j ⟨h1, h2⟩ => by
      have e : (wx.setCell ⟨w2.heap.size, j, none⟩ v).heap[w.heap.size + 1]? = wx.heap[w.heap.size + 1]? := heap_setCell_other _ _ _ _ (by show w.heap.size + 1 ≠ w2.heap.size; omega)
      exact ⟨(World.cell?_of_block (a := ⟨w.heap.size + 1, 2, none⟩) e).trans h1, (World.cell?_of_block (a := ⟨w.heap.size + 1, 3, none⟩) e).trans h2⟩
    generalize idx mayL (wd ws 2) = im at *
    generalize idx onL (wd ws 3) = io at *
    go_wp2_with fail
    go_region_held3 (fun w' => w'.cell? ⟨w.heap.size + 1, 2, none⟩ = some (.string (bsOf (wd ws 2))) ∧ w'.cell? ⟨w.heap.size + 1, 3, none⟩ = some (.string (bsOf (wd ws 3)))) (first | exact ⟨c2, c3⟩ | exact ⟨c2', c3'⟩ | exact ⟨c2'', c3''⟩ | exact SN.out _ _ _ ⟨c2'', c3''⟩ | exact SN.out _ _ _ (SN.out _ _ _ ⟨c2'', c3''⟩) | go_keep)
      (first | (go_at_call 23; refine (CM.out _).mono ?_; rintro e w8 ⟨rfl, x8, l8, b8⟩; have X8 : Hid (∀ j, j < 5 → w8.cell? ⟨w4.heap.size, j, none⟩ = some (.string (mayL.getD j ⟨#[]⟩))) := x8; have L8 : Hid (w4.heap.size < w8.heap.size) := l8; have B8 : Hid (Below w4.heap.size w4 w8) := ⟨b8.os, b8.tape, b8.output, b8.size, b8.block⟩; clear x8 l8 b8; obtain ⟨c2', c3'⟩ := KK.out w8 B8.out) | (go_at_call 22; (with_reducible refine (C1.out w4.heap.size w8 X8.out L8.out).mono ?_); rintro e w' ⟨rfl, rfl⟩) | (go_at_call 24; refine (CO.out _).mono ?_; rintro e w9 ⟨rfl, x9, l9, b9⟩; have X9 : Hid (∀ j, j < 3 → w9.cell? ⟨w8.heap.size, j, none⟩ = some (.string (onL.getD j ⟨#[]⟩))) := x9; have L9 : Hid (w8.heap.size < w9.heap.size) := l9; have B9 : Hid (Below w4.heap.size w4 w9) := chain B8.out ⟨b9.os, b9.tape, b9.output, b9.size, b9.block⟩; clear x9 l9 b9; obtain ⟨c2'', c3''⟩ := KK.out w9 B9.out; obtain ⟨⟨o0, o1, o2, o3, o4, o5⟩, p0, p1, p2, p3, p4, p5⟩ := sixR (RR.out w9 B9.out); have l9' : w2.heap.size < w9.heap.size := Nat.lt_of_lt_of_le l4 B9.out.size) | (go_at_call 22; (with_reducible refine (C2.out w8.heap.size w9 X9.out L9.out).mono ?_); rintro e w' ⟨rfl, rfl⟩))
    obtain ⟨w10, hw10⟩ : ∃ w10, (w9.setCell ⟨w2.heap.size, 2, none⟩ (.int .i64 im)).setCell ⟨w2.heap.size, 3, none⟩ (.int .i64 io) = w10 := ⟨_, rfl⟩
    rw [hw10]
    have R10 : Hid (w10.heap[w2.heap.size]? = some (.cells #[.bool true, .string (bsOf (wd ws 1)), .int .i64 im, .int .i64 io, .string ⟨#[]⟩, .bool false] 33 (0, 0))) := by
      show _ = _
      rw [← hw10]
      exact heap_setCell_same _ _ 3 _ _ _ (heap_setCell_same w9 _ 2 _ _ _ (RR.out w9 B9.out))
    have T10 : Hid (Wd w w10 ws) := by
      show Wd _ _ _
      rw [← hw10]
      exact ((T2.out.later (chain B4.out B9.out)).set (by omega) 2 _).set (by omega) 3 _
    have s10 : w9.heap.size = w10.heap.size := by rw [← hw10]; simp
    clear hw10 c2 c3 c4 c2' c3' c2'' c3'' o0 o1 o2 o3 o4 o5 p0 p1 p2 p3 p4 p5 KK CM CO C1 C2 RR SN X8 X9 L8 L9 R4 KC
    have l10 : w2.heap.size < w10.heap.size := by omega
    clear l9' l4 s10 B8 B9 B4
    have d4 := T10.out.cell (j := 4) (by rw [HL.out]; omega)
    obtain ⟨⟨o0, o1, o2, o3, o4, o5⟩, p0, p1, p2, p3, p4, p5⟩ := sixR R10.out
    have CC : Hid (∀ wx, Calls Tryd.prog 25 #[.string (bsOf (wd ws 4)), .string ⟨#[42]⟩] wx fun e w' => e = .returned (.tuple #[.string (if star (wd ws 4) = true then bsOf (wd ws 4).dropLast else bsOf (wd ws 4)), .bool (star (wd ws 4))]) ∧ wx = w') := fun wx => by
      have := cutS_any (bsOf (wd ws 4)) wx (by have := LE.out 4; rw [← size_list, bs_toList]; exact this)
      rw [bs_toList] at this
      exact this
    have OKC : Hid (∀ wx, Calls Tryd.prog 26 #[.agg (rrow (mkI ws))] wx fun e w' => e = .returned (.bool (rdOk ws)) ∧ Below wx.heap.size wx w') := fun wx => by
      rw [Z.out.2]
      refine RuI.ok_any (mkI ws) wx ?_ ?_
      · have := LE.out 1
        show (bsOf (wd ws 1)).size ≤ maxLen
        rw [← size_list, bs_toList]; unfold maxLen; omega
      · have := LE.out 4
        show (if star (wd ws 4) = true then bsOf (wd ws 4).dropLast else bsOf (wd ws 4)).size ≤ maxLen
        split
        · rw [← size_list, bs_toList, List.length_dropLast]; unfold maxLen; omega
        · rw [← size_list, bs_toList]; unfold maxLen; omega
    rw [MK.out] at OKC
    have ZR : Hid (rdR ws = ⟨true, bsOf (wd ws 1), im, io, if star (wd ws 4) = true then bsOf (wd ws 4).dropLast else bsOf (wd ws 4), star (wd ws 4)⟩) := by show _ = _; rw [Z.out.1, MK.out]
    clear Z MK LE
    generalize (if star (wd ws 4) = true then bsOf (wd ws 4).dropLast else bsOf (wd ws 4)) = nm at *
    generalize star (wd ws 4) = bg at *
    generalize bsOf (wd ws 4) = a4 at *
    generalize bsOf (wd ws 1) = a1 at *
    generalize hfl : rdOk ws = fl at *
    have FL := Seg.hid hfl
    clear hfl
    go_upto_region 7 with (go_at_call 25; refine (CC.out _).mono ?_; rintro e w' ⟨rfl, rfl⟩)
    obtain ⟨w12, hw12⟩ : ∃ w12, (w10.setCell ⟨w2.heap.size, 4, none⟩ (.string nm)).setCell ⟨w2.heap.size, 5, none⟩ (.bool bg) = w12 := ⟨_, rfl⟩
    rw [hw12]
    have R12 : Hid (w12.heap[w2.heap.size]? = some (.cells #[.bool true, .string a1, .int .i64 im, .int .i64 io, .string nm, .bool bg] 33 (0, 0))) := by
      show _ = _
      rw [← hw12]
      exact heap_setCell_same _ _ 5 _ _ _ (heap_setCell_same w10 _ 4 _ _ _ R10.out)
    have T12 : Hid (Wd w w12 ws) := by
      show Wd _ _ _
      rw [← hw12]
      exact (T10.out.set (by omega) 4 _).set (by omega) 5 _
    clear hw12 o0 o1 o2 o3 o4 o5 p0 p1 p2 p3 p4 p5 d4 R10 T10 l10 CC
    have l12 : w2.heap.size < w12.heap.size := (Array.getElem?_eq_some_iff.1 R12.out).1
    have l13 : w.heap.size < w12.heap.size := by have := T12.out.lt; omega
    obtain ⟨⟨o0, o1, o2, o3, o4, o5⟩, _⟩ := sixR R12.out
    obtain ⟨⟨n0, n1, n2, n3, n4, n5⟩, f0, f1, f2, f3, f4, f5⟩ := sixR T12.out.zero
    have PA := Seg.hid (T12.out.put ⟨true, a1, im, io, nm, bg⟩)
    have PB : Hid (∀ wx, Below w12.heap.size w12 wx → Wd w wx ws) := fun wx h => T12.out.later h
    go_region_with (first | (go_at_call 26; (with_reducible refine (OKC.out _).mono ?_); rintro e w13 ⟨rfl, b8⟩; (first | (have T8 : Hid (Wd w w13 ws) := PB.out w13 ⟨b8.os, b8.tape, b8.output, b8.size, b8.block⟩; have P8 := Seg.hid (T8.out.put ⟨true, a1, im, io, nm, bg⟩); obtain ⟨⟨m0, m1, m2, m3, m4, m5⟩, k0, k1, k2, k3, k4, k5⟩ := sixR T8.out.zero; have l8 : w.heap.size < w13.heap.size := (by have := T8.out.lt; omega); have r13 : w13.heap[w2.heap.size]? = some (.cells #[.bool true, .string a1, .int .i64 im, .int .i64 io, .string nm, .bool bg] 33 (0, 0)) := (b8.block _ l12).trans R12.out; obtain ⟨⟨q0, q1, q2, q3, q4, q5⟩, _⟩ := sixR r13; have l14 : w2.heap.size < w13.heap.size := Nat.lt_of_lt_of_le l12 b8.size; clear b8) | (have P8 := Seg.hid (And.intro ((b8.block _ (by simpa using l13)).trans PA.out.1) (chain PA.out.2 b8)); clear b8))))
    all_goals
      go_wp2_with fail
      exact bodyPost_ret (v := .tuple #[.agg (rrow ⟨true, a1, im, io, nm, bg⟩), .bool fl]) (R2.results_row_tmp rfl _ _ w.heap.size 33 (rrow ⟨true, a1, im, io, nm, bg⟩) (0, 0) _ _ rfl rfl P8.out.1 Tryd.underlying33 rfl info6) rfl ⟨by rw [ZR.out, FL.out], P8.out.2⟩
theorem read_any (s : ByteArray) (m : Int) (w : World) (hs : s.size ≤ 1048576) (hm : w.cell? ⟨0, 0, none⟩ = some (.int .i64 m)) :
    Calls Tryd.prog 20 #[.string s] w fun e w' => e = .returned (.tuple #[.agg (rrow (rdR (cutF 32 s.toList []))), .bool (rdOk (cutF 32 s.toList []))]) ∧ Below w.heap.size w w' := by
  cases hn : wsOk (cutF 32 s.toList []) with
  | true => exact yes_any s m w hs hm hn
  | false =>
    by_cases h5 : (cutF 32 s.toList []).length = 5
    · exact no_word s m w hs hm hn h5
    · exact no_len s m w hs hm hn h5
end Go.Proofs.YtaninhajnfgkkaaDoor.PaI
