/- Arrival: how it lies in memory; what the law's measure and copier answer; Lists of Arrival: what the law's helpers answer. -/
import Derived.Test.YtkibaimemomjpaaJE03
namespace Go.Proofs.Ytkibaimemomjpaa.Ls
set_option maxRecDepth 8000
open Go.RowKit
open Recs
set_option linter.unusedVariables false
structure Arr where
  time : Int
  row : List Int
  gone : Bool
  deriving Inhabited
def EArr : Elt Arr := fun w S f u => f 0 = .int .i64 u.time ∧ IntsAt w S (f 1) u.row ∧ f 2 = .bool u.gone
theorem keepsArr : Keeps 3 EArr := fun w w' S f f' t h hk hf => by
  obtain ⟨h0, h1, h2⟩ := h
  exact ⟨by rw [hf 0 (by omega)]; exact h0, by rw [hf 1 (by omega)]; exact h1.keep keepsI hk, by rw [hf 2 (by omega)]; exact h2⟩
theorem growsArr : Grows EArr := fun w S S' f t h hs => by
  obtain ⟨h0, h1, h2⟩ := h
  exact ⟨h0, h1.mono growsI hs, h2⟩
def arrArr (f : Nat → Value) : Array Value := #[f 0, f 1, f 2]
theorem oneArr {w : World} {S : Nat → Prop} {f : Nat → Value} {u : Arr} (h : EArr w S f u) : (arrArr f).all (·.oneCell') = true := by
  obtain ⟨h0, h1, h2⟩ := h
  have o0 : (f 0).oneCell' = true := by rw [h0]; rfl
  have o1 : (f 1).oneCell' = true := h1.one
  have o2 : (f 2).oneCell' = true := by rw [h2]; rfl
  simp [arrArr, o0, o1, o2]
def ArrAt (w : World) (S : Nat → Prop) (v : Value) (u : Arr) : Prop := ∃ f, v = .agg (arrArr f) ∧ EArr w S f u
abbrev ArrsAt := LAt 3 EArr
theorem ArrAt.keep {w w' : World} {S : Nat → Prop} {v : Value} {u : Arr} (h : ArrAt w S v u) (hk : ∀ g, S g → w'.heap[g]? = w.heap[g]?) : ArrAt w' S v u := by
  obtain ⟨f, h1, h2⟩ := h
  exact ⟨f, h1, keepsArr _ _ _ _ _ _ h2 hk (fun _ _ => rfl)⟩
theorem ArrAt.mono {w : World} {S S' : Nat → Prop} {v : Value} {u : Arr} (h : ArrAt w S v u) (hs : ∀ g, S g → S' g) : ArrAt w S' v u := by
  obtain ⟨f, h1, h2⟩ := h
  exact ⟨f, h1, growsArr _ _ _ _ _ h2 hs⟩
theorem ArrAt.below {w w' : World} {B : Nat} {S : Nat → Prop} {v : Value} {u : Arr} (h : ArrAt w S v u) (hb : Below B w w') (hs : ∀ g, S g → g < B) : ArrAt w' S v u := h.keep fun g hg => hb.block g (hs g hg)
def szArr (u : Arr) : Nat := (u.row).length
def FineArr (u : Arr) : Prop := I64 u.time ∧ FineL I64 u.row ∧ True
theorem infoArr : (Try.prog.info? 88).map (·.size) = some 3 := by kernel_rfl
theorem infoLArr : (Try.prog.info? 129).map (·.size) = some 3 := by kernel_rfl
theorem infoZArr : (Try.prog.info? 88).map (fun i => (i.zero, i.size, i.bytes)) = some (some (.agg #[.int .i64 0, .slice none 0 0, .bool false]), 3, 40) := by kernel_rfl
set_option maxHeartbeats 800000 in
theorem szArrival_any (v : Value) (u : Arr) (l : Int) (w : World) (S : Nat → Prop) (h3 : -1 ≤ l) (h4 : l ≤ 1048576) (hv : ArrAt w S v u) (hS : ∀ g, S g → g < w.heap.size) (hf : FineArr u) :
    Calls Try.prog 89 #[v, .int .i64 l] w fun e w' => ∃ q, e = .returned (.int .i64 q) ∧ -1 ≤ q ∧ q ≤ l ∧ Lf l (szArr u) q ∧ Below w.heap.size w w' := by
  obtain ⟨f, rfl, y0, y1, y2⟩ := hv
  try simp only [arrArr]
  rw [show f 0 = _ from y0]
  clear y0
  obtain ⟨A1, c1, g1⟩ := y1.form
  rw [g1] at y1 ⊢
  have H1 := Seg.hid y1
  clear y1 g1
  rw [show f 2 = _ from y2]
  clear y2
  obtain ⟨z0, z1, z2⟩ := hf
  have Z1 := Seg.hid z1
  clear z0 z1 z2
  go_enter Try.func89, Try.ntmps89
  go_wp2_with fail
  refine (szIntS_any _ u.row _ (w.alloc _) S (by omega) (by omega) (H1.out.below keepsI (below1 w _) hS)).mono ?_
  rintro e w1 ⟨q1, rfl, a1, b1, L1', d1⟩
  have B1 := Seg.hid (chain (below1 w _) d1)
  have L1 := Seg.hid L1'
  clear d1 L1'
  by_cases k1 : q1 < 0
  · go_wp2
    go_ret
    exact ⟨_, rfl, by omega, by omega, by have m0 := L1.out.2 (by omega); simp only [szArr]; exact ⟨fun _ => by omega, fun _ => by omega⟩, B1.out⟩
  go_wp2
  go_ret
  exact ⟨_, rfl, by omega, by omega, by have m0 := L1.out.1 (by omega); simp only [szArr]; exact ⟨fun _ => by omega, fun _ => by omega⟩, B1.out⟩
set_option maxHeartbeats 1600000 in
theorem toArrival_any (v : Value) (u : Arr) (w : World) (S : Nat → Prop) (hv : ArrAt w S v u) (hS : ∀ g, S g → g < w.heap.size) (hf : szArr u ≤ 1048576) :
    Calls Try.prog 91 #[v] w fun e w' => ∃ v', e = .returned v' ∧ ArrAt w' (seg w.heap.size w'.heap.size) v' u ∧ Below w.heap.size w w' := by
  obtain ⟨f, rfl, y0, y1, y2⟩ := hv
  try simp only [arrArr]
  rw [show f 0 = _ from y0]
  clear y0
  obtain ⟨A1, c1, g1⟩ := y1.form
  rw [g1] at y1 ⊢
  have H1 := Seg.hid y1
  clear y1 g1
  rw [show f 2 = _ from y2]
  clear y2
  unfold szArr at hf
  go_enter Try.func91, Try.ntmps91
  go_wp2_with fail
  refine (toIntS_any _ u.row (((w.alloc _).alloc _).alloc _) S (H1.out.below keepsI (below3 w _ _ _) hS) (fun g hg => by rw [hsz, hsz, hsz]; have := hS g hg; omega) (by omega)).mono ?_
  rintro e w1 ⟨v1, rfl, l1, b1⟩
  have B1 := Seg.hid (chain (below3 w _ _ _) b1)
  have Ta1 : Hid (w1.heap[w.heap.size]? = some (.cells #[.int .i64 u.time, .slice A1 u.row.length c1, .bool u.gone] 129 (0, 0))) := (b1.block w.heap.size (by rw [hsz, hsz, hsz]; omega)).trans (at3z w _ _ _)
  have Tr1 : Hid (w1.heap[w.heap.size + 1]? = some (.cells #[.int .i64 0, .slice none 0 0, .bool false] 88 (0, 0))) := (b1.block (w.heap.size + 1) (by rw [hsz, hsz, hsz]; omega)).trans (at3 w _ _ _)
  have To1 : Hid (w1.heap[w.heap.size + 1 + 1]? = some (.cells #[.int .i64 u.time, .slice none 0 0, .bool false] 88 (0, 0))) := (b1.block (w.heap.size + 1 + 1) (by rw [hsz, hsz, hsz]; omega)).trans (Cells.at3' w _ _ _)
  have s1 : w.heap.size + 3 ≤ w1.heap.size := by have := b1.size; rw [hsz, hsz, hsz] at this; omega
  have M1 : Hid (IntsAt w1 (seg (w.heap.size + 3) w1.heap.size) v1 u.row) := by
    rw [hsz, hsz, hsz] at l1
    exact l1
  obtain ⟨Y1, x1, r1⟩ := M1.out.form
  subst r1
  clear b1 l1
  have N11 := M1
  have pa12 : w1.cell? ⟨w.heap.size, 2, none⟩ = some (.bool u.gone) := cell_of_row w1 _ 2 _ _ (0, 0) Ta1.out
  have po11 : (w1).cell? ⟨w.heap.size + 1 + 1, 1, none⟩ = some (.slice none 0 0) := cell_of_row (w1) _ 1 _ _ (0, 0) (To1.out)
  have pf11 : (w1).frozen? ⟨w.heap.size + 1 + 1, 1, none⟩ = false := frozen_of_row (w1) _ 1 _ _ (To1.out)
  have qo11 : Hid (((w1.setCell ⟨w.heap.size + 1 + 1, 1, none⟩ (.slice Y1 u.row.length x1))).heap[w.heap.size + 1 + 1]? = some (.cells #[.int .i64 u.time, .slice Y1 u.row.length x1, .bool false] 88 (0, 0))) := heap_setCell_same (w1) (w.heap.size + 1 + 1) 1 _ _ (.slice Y1 u.row.length x1) (To1.out)
  have po12 : ((w1.setCell ⟨w.heap.size + 1 + 1, 1, none⟩ (.slice Y1 u.row.length x1))).cell? ⟨w.heap.size + 1 + 1, 2, none⟩ = some (.bool false) := cell_of_row ((w1.setCell ⟨w.heap.size + 1 + 1, 1, none⟩ (.slice Y1 u.row.length x1))) _ 2 _ _ (0, 0) (qo11.out)
  have pf12 : ((w1.setCell ⟨w.heap.size + 1 + 1, 1, none⟩ (.slice Y1 u.row.length x1))).frozen? ⟨w.heap.size + 1 + 1, 2, none⟩ = false := frozen_of_row ((w1.setCell ⟨w.heap.size + 1 + 1, 1, none⟩ (.slice Y1 u.row.length x1))) _ 2 _ _ (qo11.out)
  have qo12 : Hid ((((w1.setCell ⟨w.heap.size + 1 + 1, 1, none⟩ (.slice Y1 u.row.length x1)).setCell ⟨w.heap.size + 1 + 1, 2, none⟩ (.bool u.gone))).heap[w.heap.size + 1 + 1]? = some (.cells #[.int .i64 u.time, .slice Y1 u.row.length x1, .bool u.gone] 88 (0, 0))) := heap_setCell_same ((w1.setCell ⟨w.heap.size + 1 + 1, 1, none⟩ (.slice Y1 u.row.length x1))) (w.heap.size + 1 + 1) 2 _ _ (.bool u.gone) (qo11.out)
  have Uo1 := Seg.hid (qo12.out)
  have Ur1 := Seg.hid ((heap_setCell_other ((w1.setCell ⟨w.heap.size + 1 + 1, 1, none⟩ (.slice Y1 u.row.length x1))) ⟨w.heap.size + 1 + 1, 2, none⟩ (w.heap.size + 1) (.bool u.gone) (by simp)).trans ((heap_setCell_other (w1) ⟨w.heap.size + 1 + 1, 1, none⟩ (w.heap.size + 1) (.slice Y1 u.row.length x1) (by simp)).trans (Tr1.out)))
  have Ua1 := Seg.hid ((heap_setCell_other ((w1.setCell ⟨w.heap.size + 1 + 1, 1, none⟩ (.slice Y1 u.row.length x1))) ⟨w.heap.size + 1 + 1, 2, none⟩ w.heap.size (.bool u.gone) (by simp; omega)).trans ((heap_setCell_other (w1) ⟨w.heap.size + 1 + 1, 1, none⟩ w.heap.size (.slice Y1 u.row.length x1) (by simp; omega)).trans (Ta1.out)))
  have D1 : Hid (Below w.heap.size w ((w1.setCell ⟨w.heap.size + 1 + 1, 1, none⟩ (.slice Y1 u.row.length x1)).setCell ⟨w.heap.size + 1 + 1, 2, none⟩ (.bool u.gone))) := ((B1.out).setCell (p := ⟨w.heap.size + 1 + 1, 1, none⟩) (by simp; omega) (.slice Y1 u.row.length x1)).setCell (p := ⟨w.heap.size + 1 + 1, 2, none⟩) (by simp; omega) (.bool u.gone)
  have N11' : Hid (IntsAt ((w1.setCell ⟨w.heap.size + 1 + 1, 1, none⟩ (.slice Y1 u.row.length x1)).setCell ⟨w.heap.size + 1 + 1, 2, none⟩ (.bool u.gone)) (seg (w.heap.size + 3) w1.heap.size) (.slice Y1 u.row.length x1) u.row) := N11.out.keep keepsI (fun g hg => by have := hg.1; rw [heap_setCell_other _ _ _ _ (by show _ ≠ w.heap.size + 1 + 1; omega), heap_setCell_other _ _ _ _ (by show _ ≠ w.heap.size + 1 + 1; omega)])
  obtain ⟨fx, hfx⟩ : ∃ fx : Nat → Value, fx = (fun q => if q = 0 then .int .i64 u.time else if q = 1 then .slice Y1 u.row.length x1 else .bool u.gone) := ⟨_, rfl⟩
  have HX := Seg.hid hfx
  have Uz : Hid (((w1.setCell ⟨w.heap.size + 1 + 1, 1, none⟩ (.slice Y1 u.row.length x1)).setCell ⟨w.heap.size + 1 + 1, 2, none⟩ (.bool u.gone)).heap[w.heap.size + 1 + 1]? = some (.cells (arrArr fx) 88 (0, 0))) := by
    show _ = _
    rw [hfx]
    exact Uo1.out
  clear hfx
  have H5a := Cells.there_of Ur1.out
  have H5 : Hid (((w1.setCell ⟨w.heap.size + 1 + 1, 1, none⟩ (.slice Y1 u.row.length x1)).setCell ⟨w.heap.size + 1 + 1, 2, none⟩ (.bool u.gone)).there (w.heap.size + 1) 0 (arrArr fx).size) := H5a
  clear H5a
  have H4 := Seg.hid (Cells.whole (vs := arrArr fx) Ur1.out rfl)
  have B9 := Seg.hid (Cells.below_setCells (g := w.heap.size + 1) (by omega) (arrArr fx).toList 0 _ _ D1.out)
  have F1 : Hid (IntsAt (((w1.setCell ⟨w.heap.size + 1 + 1, 1, none⟩ (.slice Y1 u.row.length x1)).setCell ⟨w.heap.size + 1 + 1, 2, none⟩ (.bool u.gone)).setCells (w.heap.size + 1) 0 (arrArr fx).toList) (seg w.heap.size (((w1.setCell ⟨w.heap.size + 1 + 1, 1, none⟩ (.slice Y1 u.row.length x1)).setCell ⟨w.heap.size + 1 + 1, 2, none⟩ (.bool u.gone)).setCells (w.heap.size + 1) 0 (arrArr fx).toList).heap.size) (fx 1) u.row) := by
    show IntsAt _ _ _ _
    rw [show fx 1 = .slice Y1 u.row.length x1 by rw [HX.out]; rfl]
    refine (N11'.out.keep keepsI (fun g hg => ?_)).mono growsI (fun g hg => ⟨by have := hg.1; omega, ?_⟩)
    · have := hg.1
      rw [Cells.heap_setCells_other _ _ (by omega)]
    · rw [Cells.size_setCells]
      have := hg.2
      simpa using this
  have EX : Hid (EArr (((w1.setCell ⟨w.heap.size + 1 + 1, 1, none⟩ (.slice Y1 u.row.length x1)).setCell ⟨w.heap.size + 1 + 1, 2, none⟩ (.bool u.gone)).setCells (w.heap.size + 1) 0 (arrArr fx).toList) (seg w.heap.size (((w1.setCell ⟨w.heap.size + 1 + 1, 1, none⟩ (.slice Y1 u.row.length x1)).setCell ⟨w.heap.size + 1 + 1, 2, none⟩ (.bool u.gone)).setCells (w.heap.size + 1) 0 (arrArr fx).toList).heap.size) fx u) := ⟨by rw [HX.out]; rfl, F1.out, by rw [HX.out]; rfl⟩
  have ON := Seg.hid (oneArr EX.out)
  clear Ta1 Tr1 To1 Ua1 M1
  go_upto_region 5 with fail
  clear po11 pf11 po12 pf12
  generalize ((w1.setCell ⟨w.heap.size + 1 + 1, 1, none⟩ (.slice Y1 u.row.length x1)).setCell ⟨w.heap.size + 1 + 1, 2, none⟩ (.bool u.gone)) = wz at *
  go_wp2_with (first | (refine wpList_load_row rfl 88 _ rfl (w.heap.size + 1 + 1) rfl _ _ _ _ Uz.out Try.underlying88 rfl infoArr ?_) | (refine wpList_store_mid rfl 88 _ _ rfl (w.heap.size + 1) 0 (arrArr fx) rfl rfl H5.out infoArr ON.out ?_))
  exact bodyPost_ret (v := .agg (arrArr fx)) (results_cell_row rfl _ _ (w.heap.size + 1) _ _ _ _ rfl H4.out Try.underlying88 rfl infoArr) rfl ⟨_, rfl, ⟨fx, rfl, EX.out⟩, B9.out⟩
set_option maxHeartbeats 1600000 in
theorem eqArrival_any (v v' : Value) (u : Arr) (w : World) (S S' : Nat → Prop) (hv : ArrAt w S v u) (hv' : ArrAt w S' v' u) (hS : ∀ g, S g → g < w.heap.size) (hS' : ∀ g, S' g → g < w.heap.size) :
    Calls Try.prog 98 #[v, v'] w fun e w' => e = .returned (.bool true) ∧ Below w.heap.size w w' := by
  obtain ⟨f, rfl, y0, y1, y2⟩ := hv
  obtain ⟨f', rfl, y0', y1', y2'⟩ := hv'
  try simp only [arrArr]
  rw [show f 0 = _ from y0]
  clear y0
  obtain ⟨A1, c1, g1⟩ := y1.form
  rw [g1] at y1 ⊢
  have H1 := Seg.hid y1
  clear y1 g1
  rw [show f 2 = _ from y2]
  clear y2
  try simp only [arrArr]
  rw [show f' 0 = _ from y0']
  clear y0'
  obtain ⟨A1', c1', g1'⟩ := y1'.form
  rw [g1'] at y1' ⊢
  have H1' := Seg.hid y1'
  clear y1' g1'
  rw [show f' 2 = _ from y2']
  clear y2'
  go_enter Try.func98, Try.ntmps98
  go_wp2_with fail
  refine (eqIntS_any _ _ u.row ((w.alloc _).alloc _) S S' (H1.out.below keepsI (below2 w _ _) hS) (H1'.out.below keepsI (below2 w _ _) hS') (fun g hg => by rw [hsz, hsz]; have := hS g hg; omega) (fun g hg => by rw [hsz, hsz]; have := hS' g hg; omega)).mono ?_
  rintro e w1 ⟨rfl, b1⟩
  have B1 := Seg.hid (chain (below2 w _ _) b1)
  have Ta1 : Hid (w1.heap[w.heap.size]? = some (.cells #[.int .i64 u.time, .slice A1 u.row.length c1, .bool u.gone] 88 (0, 0))) := (b1.block w.heap.size (by rw [hsz, hsz]; omega)).trans (at2z w _ _)
  have Tb1 : Hid (w1.heap[w.heap.size + 1]? = some (.cells #[.int .i64 u.time, .slice A1' u.row.length c1', .bool u.gone] 88 (0, 0))) := (b1.block (w.heap.size + 1) (by rw [hsz, hsz]; omega)).trans (at2y w _ _)
  have s1 : w.heap.size + 1 < w1.heap.size := (Array.getElem?_eq_some_iff.1 Tb1.out).1
  have pa12 : w1.cell? ⟨w.heap.size, 2, none⟩ = some (.bool u.gone) := cell_of_row w1 _ 2 _ _ (0, 0) Ta1.out
  have pb12 : w1.cell? ⟨w.heap.size + 1, 2, none⟩ = some (.bool u.gone) := cell_of_row w1 _ 2 _ _ (0, 0) Tb1.out
  clear b1
  go_wp2
  go_ret
  exact ⟨rfl, B1.out⟩
end Go.Proofs.Ytkibaimemomjpaa.Ls
namespace Go.Proofs.Ytkibaimemomjpaa.Ls
set_option maxRecDepth 8000
open Go.RowKit
open Recs
set_option linter.unusedVariables false
theorem szArrivalS_none (A : Option Addr) (c : Nat) (l : Int) (w : World) (h3 : -1 ≤ l) (h4 : l ≤ 1048576) :
    Calls Try.prog 52 #[.slice A 0 c, .int .i64 l] w fun e w' => ∃ q, e = .returned (.int .i64 q) ∧ -1 ≤ q ∧ q ≤ l ∧ Lf l 0 q ∧ Below w.heap.size w w' := by
  go_enter Try.func52, Try.ntmps52
  by_cases hlt : l < 0
  · go_wp2
    go_ret
    exact ⟨_, rfl, by omega, by omega, ⟨fun _ => by omega, fun _ => by omega⟩, Below.refl _ _⟩
  go_wp2
  go_loop [1, 5] (fun x i => i = .int .i64 0 ∧ x = .int .i64 l) (fun _ _ => 0)
  case atStart => exact ⟨rfl, by go_num⟩
  case round =>
    obtain ⟨rfl, rfl⟩ := hrel
    go_wp2
    go_ret
    exact ⟨_, rfl, by omega, by omega, ⟨fun _ => by omega, fun _ => by omega⟩, Below.refl _ _⟩

set_option maxHeartbeats 800000 in
theorem szArrivalS_core (g o n c : Nat) (us : List Arr) (F : Nat → Nat → Value) (l : Int) (w : World) (S : Nat → Prop) (h3 : -1 ≤ l) (h4 : l ≤ 1048576) (hn : n ≤ 9223372036854775807) (hc : n ≤ c) (hg : g < w.heap.size) (hS : ∀ g, S g → g < w.heap.size) (hnl : us.length = n)
    (hf : ∀ i, i < n → FineArr (us.getD i default)) (he : ∀ i, i < n → EArr w S (F i) (us.getD i default))
    (ha : ∀ i, i < n → ∀ j, j < 3 → w.cell? ⟨g, o + i * 3 + j, none⟩ = some (F i j)) :
    Calls Try.prog 52 #[.slice (some ⟨g, o, none⟩) n c, .int .i64 l] w fun e w' => ∃ q, e = .returned (.int .i64 q) ∧ -1 ≤ q ∧ q ≤ l ∧ Lf l (szL szArr us) q ∧ Below w.heap.size w w' := by
  have HA := Seg.hid ha
  have HK := Seg.hid hf
  have HH := Seg.hid he
  have HN := Seg.hid hnl
  clear ha hf he hnl
  go_enter Try.func52, Try.ntmps52
  by_cases hlt : l - (n : Int) < 0
  · go_wp2
    go_ret
    exact ⟨_, rfl, by omega, by omega, ⟨fun h => absurd h (by omega), fun _ => by unfold szL; rw [HN.out]; omega⟩, Below.refl _ _⟩
  go_wp2
  go_loopw [1, 5] (fun x i wr => ∃ (k : Nat) (r : Int), k ≤ n ∧ x = .int .i64 r ∧ i = .int .i64 k ∧ 0 ≤ r ∧ r ≤ l ∧ Hid (Below w.heap.size w wr ∧ r = l - n - tot szArr (us.take k))) (fun _ i _ => n - (intOf i).toNat)
  case atStart => exact ⟨0, l - n, Nat.zero_le _, rfl, rfl, by omega, by omega, Below.refl _ _, by simp [tot]⟩
  case round =>
    obtain ⟨k, r, hk, rfl, rfl, hr0, hr1, HB⟩ := hrel
    by_cases hlt2 : k < n
    · have CL := cells_later HA.out HB.out.1 hg
      have c0 : wr.cell? ⟨g, o + k * 3, none⟩ = some (F k 0) := CL k ‹k < n› 0 (by omega)
      have c1 : wr.cell? ⟨g, o + k * 3 + 1, none⟩ = some (F k 1) := CL k ‹k < n› 1 (by omega)
      have c2 : wr.cell? ⟨g, o + k * 3 + 2, none⟩ = some (F k 2) := CL k ‹k < n› 2 (by omega)
      clear CL
      have RA : Hid (ArrAt wr S (.agg (arrArr (F k))) (us.getD k default)) := ⟨_, rfl, keepsArr _ _ _ _ _ _ (HH.out k hlt2) (fun g hg => HB.out.1.block g (hS g hg)) (fun _ _ => rfl)⟩
      have h0 : (0 : Int) ≤ (k : Int) := by omega
      have h1 : (k : Int) < (n : Int) := by omega
      have hbr : Hid (∀ g, S g → g < wr.heap.size) := fun g hg => Nat.lt_of_lt_of_le (hS g hg) HB.out.1.size
      have TK := Seg.hid (tot_take szArr (ts := us) (j := k) (by rw [HN.out]; exact hlt2))
      have TL := Seg.hid (tot_le szArr us (k + 1))
      have FK := Seg.hid (HK.out k hlt2)
      generalize us.getD k default = uk at *
      go_wp2_with fail
      refine (szArrival_any _ uk r wr S (by omega) (by omega) RA.out hbr.out FK.out).mono ?_
      rintro e w1 ⟨r1, rfl, hr2, hr3, hlf, b1⟩
      have B1 := Seg.hid (chain HB.out.1 b1)
      have FW := Seg.hid hlf
      clear b1 hlf
      by_cases hneg : r1 < 0
      · go_wp2
        go_ret
        refine ⟨-1, rfl, by omega, by omega, ⟨fun h => absurd h (by omega), fun _ => ?_⟩, B1.out⟩
        have m1 := FW.out.2 hneg; have m2 := HB.out.2; have m3 := TK.out; have m4 := TL.out
        unfold szL; rw [HN.out]; omega
      · go_wp2
        go_roundw
        case rel =>
          refine ⟨k + 1, r1, by omega, rfl, by go_num, by omega, by omega, B1.out, ?_⟩
          have m1 := FW.out.1 (by omega); have m2 := HB.out.2; have m3 := TK.out
          omega
        case measure => simp [intOf]; omega
    · have : k = n := by omega
      subst this
      go_wp2
      go_ret
      refine ⟨r, rfl, by omega, by omega, ⟨fun _ => ?_, fun h => absurd h (by omega)⟩, HB.out.1⟩
      have m2 := HB.out.2
      rw [← HN.out, List.take_length, HN.out] at m2
      unfold szL; rw [HN.out]; omega
theorem szArrivalS_any (v : Value) (us : List Arr) (l : Int) (w : World) (S : Nat → Prop) (h3 : -1 ≤ l) (h4 : l ≤ 1048576) (hv : LAt 3 EArr w S v us) (hS : ∀ g, S g → g < w.heap.size) (hf : FineL FineArr us) :
    Calls Try.prog 52 #[v, .int .i64 l] w fun e w' => ∃ q, e = .returned (.int .i64 q) ∧ -1 ≤ q ∧ q ≤ l ∧ Lf l (szL szArr us) q ∧ Below w.heap.size w w' := by
  obtain ⟨hn, A, c, rfl, h⟩ := hv
  by_cases hz : us.length = 0
  · obtain rfl := List.length_eq_zero_iff.1 hz
    exact szArrivalS_none A c l w h3 h4
  obtain ⟨g, o, F, rfl, hg, hc, hcell, hel⟩ := h.resolve_left hz
  exact szArrivalS_core g o us.length c us F l w S h3 h4 hn hc (hS g hg) hS rfl hf.2 hel hcell
set_option maxHeartbeats 400000 in
theorem toArrivalS_none (A : Option Addr) (c : Nat) (w : World) :
    Calls Try.prog 58 #[.slice A 0 c] w fun e w' => ∃ v, e = .returned v ∧ (∃ A c, v = .slice A 0 c) ∧ Below w.heap.size w w' := by
  obtain ⟨i0, hi, hz0, hz1, hz2⟩ := info_parts infoZArr
  go_enter Try.func58, Try.ntmps58
  go_wp2_with (at_make; refine wpList_make_full _ rfl _ _ 85 rfl w.heap.size 88 i0 _ 3 Try.underlying85 hi hz0 hz1 .i64 .i64 _ _ 0 rfl rfl rfl rfl (by omega) (by unfold maxLen; omega) (Nat.le_refl _) ?_; intro w1 hown hgr)
  have hb1 := (Below.refl w.heap.size w).grown hgr (Nat.le_refl _) (fun k hk => by cases hk)
  have HB := Seg.hid hb1
  clear hown hgr hb1 hi hz0 hz1 hz2
  go_loop [4] (fun i => i = .int .i64 0) (fun i => 0)
  case atStart => rfl
  case round =>
    subst hrel
    go_wp2
    go_ret
    exact ⟨_, rfl, ⟨_, _, rfl⟩, HB.out⟩
set_option maxHeartbeats 800000 in
theorem toArrivalS_core (g o n c : Nat) (us : List Arr) (F0 : Nat → Nat → Value) (w : World) (S : Nat → Prop) (hn : n ≤ 1048576) (hc : n ≤ c) (hg : g < w.heap.size) (hS : ∀ g, S g → g < w.heap.size)
    (hf : ∀ i, i < n → szArr (us.getD i default) ≤ 1048576) (he : ∀ i, i < n → EArr w S (F0 i) (us.getD i default))
    (ha : ∀ i, i < n → ∀ j, j < 3 → w.cell? ⟨g, o + i * 3 + j, none⟩ = some (F0 i j)) :
    Calls Try.prog 58 #[.slice (some ⟨g, o, none⟩) n c] w fun e w' => ∃ F, e = .returned (.slice (some ⟨w.heap.size, 0, none⟩) n n) ∧ Done 88 3 EArr w w' us n n F := by
  obtain ⟨i0, hi, hz0, hz1, hz2⟩ := info_parts infoZArr
  have HA := Seg.hid ha; have HK := Seg.hid hf; have HH := Seg.hid he
  clear ha hf he
  go_enter Try.func58, Try.ntmps58
  go_wp2_with (at_make; refine wpList_make_full _ rfl _ _ 85 rfl w.heap.size 88 i0 _ 3 Try.underlying85 hi hz0 hz1 .i64 .i64 _ _ n rfl rfl rfl rfl (by rw [hz2]; omega) (by unfold maxLen; omega) (Nat.le_refl _) ?_; intro w1 hown hgr)
  have hb1 := (Below.refl w.heap.size w).grown hgr (Nat.le_refl _) (fun k hk => by cases hk)
  have HM := Seg.hid (Mine.of_made hown hown.1)
  have HB := Seg.hid hb1
  clear hown hgr hb1 hi hz0 hz1 hz2
  go_loopw [4] (fun i wr => ∃ (j : Nat) (F : Nat → Value), j ≤ n ∧ i = .int .i64 j ∧ Done 88 3 EArr w wr us n j F) (fun i _ => n - (intOf i).toNat)
  case atStart => exact ⟨0, _, Nat.zero_le _, rfl, HM.out, HB.out, fun i hi => absurd hi (by omega)⟩
  case round =>
    clear HM HB
    obtain ⟨j, F, hj, rfl, HR⟩ := hrel
    by_cases hlt : j < n
    · have CL := cells_later HA.out HR.bel hg
      have c0 : wr.cell? ⟨g, o + j * 3, none⟩ = some (F0 j 0) := CL j ‹j < n› 0 (by omega)
      have c1 : wr.cell? ⟨g, o + j * 3 + 1, none⟩ = some (F0 j 1) := CL j ‹j < n› 1 (by omega)
      have c2 : wr.cell? ⟨g, o + j * 3 + 2, none⟩ = some (F0 j 2) := CL j ‹j < n› 2 (by omega)
      clear CL
      have RA : Hid (ArrAt wr S (.agg (arrArr (F0 j))) (us.getD j default)) := ⟨_, rfl, keepsArr _ _ _ _ _ _ (HH.out j hlt) (fun g hg => HR.bel.block g (hS g hg)) (fun _ _ => rfl)⟩
      have FW := Seg.hid (HK.out j hlt)
      have hbr : Hid (∀ g, S g → g < wr.heap.size) := fun g hg => Nat.lt_of_lt_of_le (hS g hg) HR.bel.size
      have ST := Seg.hid (fun w1 vs hv b1 he => Done.step keepsArr growsArr (w1 := w1) HR vs hv b1 he)
      have HM := Seg.hid HR.mine
      have h0 : (0 : Int) ≤ (j : Int) := by omega
      have h1 : (j : Int) < (n : Int) := by omega
      clear HR
      generalize us.getD j default = uj at *
      go_wp2_with fail
      refine (toArrival_any _ uj wr S RA.out hbr.out FW.out).mono ?_
      rintro e w1 ⟨v1, rfl, ⟨f1, rfl, he1⟩, b1⟩
      have S1 := Seg.hid (ST.out w1 (arrArr f1).toList rfl b1 (keepsArr _ _ _ _ _ _ he1 (fun _ _ => rfl) (fun q hq => by
        match q, hq with
        | 0, _ => rfl
        | 1, _ => rfl
        | 2, _ => rfl
        )))
      have M1 : Hid (w1.there w.heap.size (j * 3) (arrArr f1).size) := Own.mine_there (o := j * 3) (m := 3) (HM.out.below b1 HM.out.lt) (by omega)
      have ON := Seg.hid (oneArr he1)
      clear b1 he1
      go_wp2_with (refine wpList_store_mid rfl 88 _ _ rfl w.heap.size (j * 3) (arrArr f1) rfl rfl ?ht infoArr ON.out ?_; case ht => exact M1.out)
      go_roundw
      case rel => exact ⟨j + 1, _, by omega, by go_num, S1.out⟩
      case measure => simp [intOf]; omega
    · have : j = n := by omega
      subst this
      go_wp2
      go_ret
      exact ⟨F, rfl, HR⟩
theorem toArrivalS_any (v : Value) (us : List Arr) (w : World) (S : Nat → Prop) (hv : LAt 3 EArr w S v us) (hS : ∀ g, S g → g < w.heap.size) (hf : szL szArr us ≤ 1048576) :
    Calls Try.prog 58 #[v] w fun e w' => ∃ v', e = .returned v' ∧ LAt 3 EArr w' (seg w.heap.size w'.heap.size) v' us ∧ Below w.heap.size w w' := by
  obtain ⟨hn, A, c, rfl, h⟩ := hv
  by_cases hz : us.length = 0
  · obtain rfl := List.length_eq_zero_iff.1 hz
    refine (toArrivalS_none A c w).mono fun e w' ⟨v', a1, ⟨A', c', a2⟩, a3⟩ => ⟨v', a1, ?_, a3⟩
    rw [a2]
    exact LAt.nil _ _ _ _
  obtain ⟨g, o, F, rfl, hg, hc, hcell, hel⟩ := h.resolve_left hz
  exact (toArrivalS_core g o us.length c us F w S (szL_len _ hf) hc (hS g hg) hS (fun i hi => szL_one _ hf hi) hel hcell).mono fun e w' ⟨F, a1, a2⟩ => ⟨_, a1, a2.all growsArr hn, a2.bel⟩
theorem eqArrivalS_none (A A' : Option Addr) (c c' : Nat) (w : World) :
    Calls Try.prog 66 #[.slice A 0 c, .slice A' 0 c'] w fun e w' => e = .returned (.bool true) ∧ Below w.heap.size w w' := by
  go_enter Try.func66, Try.ntmps66
  go_wp2
  go_loop [5] (fun i => i = .int .i64 0) (fun _ => 0)
  case atStart => rfl
  case round =>
    subst hrel
    go_wp2
    go_ret
    exact ⟨rfl, Below.refl _ _⟩
set_option maxHeartbeats 1600000 in
theorem eqArrivalS_core (g o g' o' n c c' : Nat) (us : List Arr) (F F' : Nat → Nat → Value) (w : World) (S S' : Nat → Prop) (hn : n ≤ 9223372036854775807) (hc : n ≤ c) (hc' : n ≤ c') (hg : g < w.heap.size) (hg' : g' < w.heap.size) (hS : ∀ g, S g → g < w.heap.size) (hS' : ∀ g, S' g → g < w.heap.size)
    (he : ∀ i, i < n → EArr w S (F i) (us.getD i default)) (he' : ∀ i, i < n → EArr w S' (F' i) (us.getD i default))
    (ha : ∀ i, i < n → ∀ j, j < 3 → w.cell? ⟨g, o + i * 3 + j, none⟩ = some (F i j)) (ha' : ∀ i, i < n → ∀ j, j < 3 → w.cell? ⟨g', o' + i * 3 + j, none⟩ = some (F' i j)) :
    Calls Try.prog 66 #[.slice (some ⟨g, o, none⟩) n c, .slice (some ⟨g', o', none⟩) n c'] w fun e w' => e = .returned (.bool true) ∧ Below w.heap.size w w' := by
  have HA := Seg.hid ha; have HA' := Seg.hid ha'; have HH := Seg.hid he; have HH' := Seg.hid he'
  clear ha ha' he he'
  go_enter Try.func66, Try.ntmps66
  go_wp2
  go_loopw [5] (fun i wr => ∃ (k : Nat), k ≤ n ∧ i = .int .i64 k ∧ Hid (Below w.heap.size w wr)) (fun i _ => n - (intOf i).toNat)
  case atStart => exact ⟨0, Nat.zero_le _, rfl, Below.refl _ _⟩
  case round =>
    obtain ⟨k, hk, rfl, HB⟩ := hrel
    by_cases hlt2 : k < n
    · have CL := cells_later HA.out HB.out hg
      have CL' := cells_later HA'.out HB.out hg'
      have c0 : wr.cell? ⟨g, o + k * 3, none⟩ = some (F k 0) := CL k ‹k < n› 0 (by omega)
      have c1 : wr.cell? ⟨g, o + k * 3 + 1, none⟩ = some (F k 1) := CL k ‹k < n› 1 (by omega)
      have c2 : wr.cell? ⟨g, o + k * 3 + 2, none⟩ = some (F k 2) := CL k ‹k < n› 2 (by omega)
      have d0 : wr.cell? ⟨g', o' + k * 3, none⟩ = some (F' k 0) := CL' k ‹k < n› 0 (by omega)
      have d1 : wr.cell? ⟨g', o' + k * 3 + 1, none⟩ = some (F' k 1) := CL' k ‹k < n› 1 (by omega)
      have d2 : wr.cell? ⟨g', o' + k * 3 + 2, none⟩ = some (F' k 2) := CL' k ‹k < n› 2 (by omega)
      clear CL CL'
      have RA : Hid (ArrAt wr.drew S (.agg (arrArr (F k))) (us.getD k default)) := ⟨_, rfl, keepsArr _ _ _ _ _ _ (HH.out k hlt2) (fun g hg => HB.out.drew.block g (hS g hg)) (fun _ _ => rfl)⟩
      have RB : Hid (ArrAt wr.drew S' (.agg (arrArr (F' k))) (us.getD k default)) := ⟨_, rfl, keepsArr _ _ _ _ _ _ (HH'.out k hlt2) (fun g hg => HB.out.drew.block g (hS' g hg)) (fun _ _ => rfl)⟩
      have hbr : Hid (∀ g, S g → g < wr.drew.heap.size) := fun g hg => Nat.lt_of_lt_of_le (hS g hg) HB.out.size
      have hbr' : Hid (∀ g, S' g → g < wr.drew.heap.size) := fun g hg => Nat.lt_of_lt_of_le (hS' g hg) HB.out.size
      have h0 : (0 : Int) ≤ (k : Int) := by omega
      have h1 : (k : Int) < (n : Int) := by omega
      generalize us.getD k default = uk at *
      go_wp2_with fail
      go_region_with (go_at_call 98; refine (eqArrival_any _ _ uk wr.drew S S' RA.out RB.out hbr.out hbr'.out).mono ?_; rintro e w1 ⟨rfl, b1⟩; have B1 : Hid (Below w.heap.size w w1) := chainD HB.out b1; clear b1)
      all_goals
        go_wp2
        go_roundw
        case rel => exact ⟨k + 1, by omega, by go_num, B1.out⟩
        case measure => simp [intOf]; omega
    · have : k = n := by omega
      subst this
      go_wp2
      go_ret
      exact ⟨rfl, HB.out⟩
theorem eqArrivalS_any (v v' : Value) (us : List Arr) (w : World) (S S' : Nat → Prop) (hv : LAt 3 EArr w S v us) (hv' : LAt 3 EArr w S' v' us) (hS : ∀ g, S g → g < w.heap.size) (hS' : ∀ g, S' g → g < w.heap.size) :
    Calls Try.prog 66 #[v, v'] w fun e w' => e = .returned (.bool true) ∧ Below w.heap.size w w' := by
  obtain ⟨hn, A, c, rfl, h⟩ := hv
  obtain ⟨_, A', c', rfl, h'⟩ := hv'
  by_cases hz : us.length = 0
  · rw [hz]
    exact eqArrivalS_none A A' c c' w
  obtain ⟨g, o, F, rfl, hg, hc, hcell, hel⟩ := h.resolve_left hz
  obtain ⟨g', o', F', rfl, hg', hc', hcell', hel'⟩ := h'.resolve_left hz
  exact eqArrivalS_core g o g' o' us.length c c' us F F' w S S' hn hc hc' (hS g hg) (hS' g' hg') hS hS' hel hel' hcell hcell'
end Go.Proofs.Ytkibaimemomjpaa.Ls
