/- A line read as a rule, of the program. -/
import Derived.Test.YtaninhajnfgkkaaDoorPaX
import Derived.Test.YtaninhajnfgkkaaDoorRuK
import Derived.Test.YtaninhajnfgkkaaDoorR2
import Derived.Test.YtaninhajnfgkkaaDoorHdK
import Derived.Test.YtaninhajnfgkkaaDoorTxS
namespace Go.Proofs.YtaninhajnfgkkaaDoor.PaI
set_option maxRecDepth 8000
open Go.RowKit
open Ls Lp RuP TxP PrP PaP
open Recs (hsz below1 below2 chain)
set_option linter.unusedVariables false
/-- What stands when a line is cut: the answer's block, the words. -/
structure Wd (w wx : World) (ws : List (List UInt8)) : Prop where
  zero : wx.heap[w.heap.size]? = some (.cells (rrow zeroR) 33 (0, 0))
  words : wx.heap[w.heap.size + 1]? = some (.cells (ws.map fun u => Value.string (bsOf u)).toArray 9 (0, 0))
  bel : Below w.heap.size w wx
theorem Wd.lt {w wx : World} {ws : List (List UInt8)} (h : Wd w wx ws) : w.heap.size + 1 < wx.heap.size := (Array.getElem?_eq_some_iff.1 h.words).1
theorem Wd.later {w wx wy : World} {ws : List (List UInt8)} (h : Wd w wx ws) (hb : Below wx.heap.size wx wy) : Wd w wy ws :=
  ⟨(hb.block _ (by have := h.lt; omega)).trans h.zero, (hb.block _ h.lt).trans h.words, chain h.bel hb⟩
theorem Wd.cell {w wx : World} {ws : List (List UInt8)} (h : Wd w wx ws) {j : Nat} (hj : j < ws.length) : wx.cell? ⟨w.heap.size + 1, j, none⟩ = some (.string (bsOf (wd ws j))) := by
  rw [cell_of_row wx _ j _ _ (0, 0) h.words]
  simp [wd, hj]
theorem sixR {w : World} {g ty : Nat} {a b c d e f : Value} (h : w.heap[g]? = some (.cells #[a, b, c, d, e, f] ty (0, 0))) : (w.cell? ⟨g, 0, none⟩ = some a ∧ w.cell? ⟨g, 1, none⟩ = some b ∧ w.cell? ⟨g, 2, none⟩ = some c ∧ w.cell? ⟨g, 3, none⟩ = some d ∧ w.cell? ⟨g, 4, none⟩ = some e ∧ w.cell? ⟨g, 5, none⟩ = some f) ∧ w.frozen? ⟨g, 0, none⟩ = false ∧ w.frozen? ⟨g, 1, none⟩ = false ∧ w.frozen? ⟨g, 2, none⟩ = false ∧ w.frozen? ⟨g, 3, none⟩ = false ∧ w.frozen? ⟨g, 4, none⟩ = false ∧ w.frozen? ⟨g, 5, none⟩ = false :=
  ⟨⟨cell_of_row w g 0 _ _ (0, 0) h, cell_of_row w g 1 _ _ (0, 0) h, cell_of_row w g 2 _ _ (0, 0) h, cell_of_row w g 3 _ _ (0, 0) h, cell_of_row w g 4 _ _ (0, 0) h, cell_of_row w g 5 _ _ (0, 0) h⟩, frozen_of_row w g 0 _ _ h, frozen_of_row w g 1 _ _ h, frozen_of_row w g 2 _ _ h, frozen_of_row w g 3 _ _ h, frozen_of_row w g 4 _ _ h, frozen_of_row w g 5 _ _ h⟩
/-- The answer's block is written whole. -/
theorem Wd.put {w wx : World} {ws : List (List UInt8)} (h : Wd w wx ws) (r : Rul) : (wx.setCells w.heap.size 0 (rrow r).toList).heap[w.heap.size]? = some (.cells (rrow r) 33 (0, 0)) ∧ Below w.heap.size w (wx.setCells w.heap.size 0 (rrow r).toList) :=
  ⟨Cells.whole (vs := rrow r) h.zero rfl, Cells.below_setCells (Nat.le_refl _) _ _ _ _ h.bel⟩
theorem info6 : (Tryd.prog.info? 33).map (·.size) = some 6 := by kernel_rfl
theorem wd_of {w w2 : World} {ws : List (List UInt8)} (h : w2 = (w.alloc (.cells (rrow zeroR) 33 (0, 0))).alloc (.cells (ws.map fun u => Value.string (bsOf u)).toArray 9 (0, 0))) : Wd w w2 ws := by
  subst h
  refine ⟨?_, ?_, below2 _ _ _⟩
  · rw [(below1 (w.alloc _) _).block _ (by rw [hsz]; omega)]
    exact heap_alloc_new _ _
  · have := heap_alloc_new (w.alloc (.cells (rrow zeroR) 33 (0, 0))) (.cells (ws.map fun u => Value.string (bsOf u)).toArray 9 (0, 0))
    rwa [hsz] at this
theorem cell_pos {w : World} {m : Value} (hm : w.cell? ⟨0, 0, none⟩ = some m) : (⟨0, 0, none⟩ : Addr).block < w.heap.size := by
  show 0 < _
  rcases Nat.eq_zero_or_pos w.heap.size with h0 | h0
  · exfalso
    simp [World.cell?, h0] at hm
  · exact h0
set_option maxHeartbeats 1600000 in
theorem no_len (s : ByteArray) (m : Int) (w : World) (hs : s.size ≤ 1048576) (hm : w.cell? ⟨0, 0, none⟩ = some (.int .i64 m)) (hn : wsOk (cutF 32 s.toList []) = false) (h5 : ¬ (cutF 32 s.toList []).length = 5) :
    Calls Tryd.prog 20 #[.string s] w fun e w' => e = .returned (.tuple #[.agg (rrow (rdR (cutF 32 s.toList []))), .bool (rdOk (cutF 32 s.toList []))]) ∧ Below w.heap.size w w' := by
  have Z : Hid (rdR (cutF 32 s.toList []) = zeroR ∧ rdOk (cutF 32 s.toList []) = false) := by
    refine ⟨?_, ?_⟩
    · rw [rdR, if_neg (by rw [hn]; decide)]
    · rw [rdOk, hn]; rfl
  have CS : Hid (∀ o1, Calls Tryd.prog 21 #[.string s, .string ⟨#[32]⟩] (w.alloc o1) fun e w' => e = .returned (.slice (some ⟨(w.alloc o1).heap.size, 0, none⟩) (cutF 32 s.toList []).length (cutF 32 s.toList []).length) ∧ w' = (w.alloc o1).alloc (.cells ((cutF 32 s.toList []).map fun u => Value.string (bsOf u)).toArray 9)) := fun o1 => split_any s m (w.alloc o1) hs (by rw [← hm]; exact (below1 w o1).cell (cell_pos hm))
  have hl : (cutF 32 s.toList []).length ≤ 1048577 := by have := TxS.cut_len 32 s.toList []; rw [size_list] at this; omega
  generalize cutF 32 s.toList [] = ws at *
  go_enter Tryd.func20, Tryd.ntmps20
  go_upto_region 2 with (go_at_call 21; refine (CS.out _).mono ?_; rintro e w2 ⟨rfl, hw2⟩; have T2 := Seg.hid (wd_of hw2); clear hw2)
  have P2 := Seg.hid (T2.out.put zeroR)
  obtain ⟨⟨n0, n1, n2, n3, n4, n5⟩, f0, f1, f2, f3, f4, f5⟩ := sixR T2.out.zero
  have l2 := T2.out.lt
  have l3 : w.heap.size < w2.heap.size := by omega
  clear CS hm
  have q1 : ((ws.length : Int) == 5) = false := by rw [beq_eq_false_iff_ne]; omega
  have q2 : ((ws.length : Int) != 5) = true := by simp only [bne, q1]; rfl
  have q3 : ¬ (ws.length : Int) = 5 := by omega
  clear hn
  go_wp2_with fail
  exact bodyPost_ret (v := .tuple #[.agg (rrow zeroR), .bool false]) (R2.results_row_tmp rfl _ _ w.heap.size 33 (rrow zeroR) (0, 0) _ _ rfl rfl P2.out.1 Tryd.underlying33 rfl info6) rfl ⟨by rw [Z.out.1, Z.out.2], P2.out.2⟩
set_option maxHeartbeats 1600000 in
theorem no_word (s : ByteArray) (m : Int) (w : World) (hs : s.size ≤ 1048576) (hm : w.cell? ⟨0, 0, none⟩ = some (.int .i64 m)) (hn : wsOk (cutF 32 s.toList []) = false) (h5 : (cutF 32 s.toList []).length = 5) :
    Calls Tryd.prog 20 #[.string s] w fun e w' => e = .returned (.tuple #[.agg (rrow (rdR (cutF 32 s.toList []))), .bool (rdOk (cutF 32 s.toList []))]) ∧ Below w.heap.size w w' := by
  have Z : Hid (rdR (cutF 32 s.toList []) = zeroR ∧ rdOk (cutF 32 s.toList []) = false) := by
    refine ⟨?_, ?_⟩
    · rw [rdR, if_neg (by rw [hn]; decide)]
    · rw [rdOk, hn]; rfl
  have CS : Hid (∀ o1, Calls Tryd.prog 21 #[.string s, .string ⟨#[32]⟩] (w.alloc o1) fun e w' => e = .returned (.slice (some ⟨(w.alloc o1).heap.size, 0, none⟩) (cutF 32 s.toList []).length (cutF 32 s.toList []).length) ∧ w' = (w.alloc o1).alloc (.cells ((cutF 32 s.toList []).map fun u => Value.string (bsOf u)).toArray 9)) := fun o1 => split_any s m (w.alloc o1) hs (by rw [← hm]; exact (below1 w o1).cell (cell_pos hm))
  rw [h5] at CS
  generalize cutF 32 s.toList [] = ws at *
  go_enter Tryd.func20, Tryd.ntmps20
  go_upto_region 2 with (go_at_call 21; refine (CS.out _).mono ?_; rintro e w2 ⟨rfl, hw2⟩; have T2 := Seg.hid (wd_of hw2); clear hw2)
  have P2 := Seg.hid (T2.out.put zeroR)
  obtain ⟨⟨n0, n1, n2, n3, n4, n5⟩, f0, f1, f2, f3, f4, f5⟩ := sixR T2.out.zero
  have l2 := T2.out.lt
  have l3 : w.heap.size < w2.heap.size := by omega
  clear CS hm
  have x0 : ((bsOf (wd ws 0)).toList == [97, 108, 108, 111, 119]) = false := by
    rw [bs_toList]
    cases hb : (wd ws 0 == [97, 108, 108, 111, 119]) with
    | false => rfl
    | true => simp [wsOk, h5, hb] at hn
  have x1 : ((bsOf (wd ws 0)).toList == [100, 101, 110, 121]) = false := by
    rw [bs_toList]
    cases hb : (wd ws 0 == [100, 101, 110, 121]) with
    | false => rfl
    | true => simp [wsOk, h5, hb] at hn
  have c0 := T2.out.cell (j := 0) (by omega)
  clear hn h5
  generalize bsOf (wd ws 0) = a0 at *
  go_wp2_with fail
  exact bodyPost_ret (v := .tuple #[.agg (rrow zeroR), .bool false]) (R2.results_row_tmp rfl _ _ w.heap.size 33 (rrow zeroR) (0, 0) _ _ rfl rfl P2.out.1 Tryd.underlying33 rfl info6) rfl ⟨by rw [Z.out.1, Z.out.2], P2.out.2⟩
end Go.Proofs.YtaninhajnfgkkaaDoor.PaI
