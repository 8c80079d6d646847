/- Seen: how it lies in memory; what the law's measure and copier answer. -/
import Derived.Test.YtjdhpampfnilaaaTRcts
namespace Go.Proofs.Ytjdhpampfnilaaa.Ls
set_option maxRecDepth 8000
open Go.RowKit
open Recs
set_option linter.unusedVariables false
structure Sen where
  producer : Int
  turn : Int
  next : Int
  recent : List Rct
  deriving Inhabited
def ESen : Elt Sen := fun w S f u => f 0 = .int .i64 u.producer ∧ f 1 = .int .i64 u.turn ∧ f 2 = .int .i64 u.next ∧ LAt 3 ERct w S (f 3) u.recent
theorem keepsSen : Keeps 4 ESen := fun w w' S f f' t h hk hf => by
  obtain ⟨h0, h1, h2, h3⟩ := h
  exact ⟨by rw [hf 0 (by omega)]; exact h0, by rw [hf 1 (by omega)]; exact h1, by rw [hf 2 (by omega)]; exact h2, by rw [hf 3 (by omega)]; exact h3.keep keepsRct hk⟩
theorem growsSen : Grows ESen := fun w S S' f t h hs => by
  obtain ⟨h0, h1, h2, h3⟩ := h
  exact ⟨h0, h1, h2, h3.mono growsRct hs⟩
def arrSen (f : Nat → Value) : Array Value := #[f 0, f 1, f 2, f 3]
theorem oneSen {w : World} {S : Nat → Prop} {f : Nat → Value} {u : Sen} (h : ESen w S f u) : (arrSen f).all (·.oneCell') = true := by
  obtain ⟨h0, h1, h2, h3⟩ := h
  have o0 : (f 0).oneCell' = true := by rw [h0]; rfl
  have o1 : (f 1).oneCell' = true := by rw [h1]; rfl
  have o2 : (f 2).oneCell' = true := by rw [h2]; rfl
  have o3 : (f 3).oneCell' = true := h3.one
  simp [arrSen, o0, o1, o2, o3]
def SenAt (w : World) (S : Nat → Prop) (v : Value) (u : Sen) : Prop := ∃ f, v = .agg (arrSen f) ∧ ESen w S f u
abbrev SensAt := LAt 4 ESen
theorem SenAt.keep {w w' : World} {S : Nat → Prop} {v : Value} {u : Sen} (h : SenAt w S v u) (hk : ∀ g, S g → w'.heap[g]? = w.heap[g]?) : SenAt w' S v u := by
  obtain ⟨f, h1, h2⟩ := h
  exact ⟨f, h1, keepsSen _ _ _ _ _ _ h2 hk (fun _ _ => rfl)⟩
theorem SenAt.mono {w : World} {S S' : Nat → Prop} {v : Value} {u : Sen} (h : SenAt w S v u) (hs : ∀ g, S g → S' g) : SenAt w S' v u := by
  obtain ⟨f, h1, h2⟩ := h
  exact ⟨f, h1, growsSen _ _ _ _ _ h2 hs⟩
theorem SenAt.below {w w' : World} {B : Nat} {S : Nat → Prop} {v : Value} {u : Sen} (h : SenAt w S v u) (hb : Below B w w') (hs : ∀ g, S g → g < B) : SenAt w' S v u := h.keep fun g hg => hb.block g (hs g hg)
def szSen (u : Sen) : Nat := szL szRct (u.recent)
def FineSen (u : Sen) : Prop := I64 u.producer ∧ I64 u.turn ∧ I64 u.next ∧ FineL FineRct u.recent
theorem infoSen : (Try.prog.info? 35).map (·.size) = some 4 := by kernel_rfl
theorem infoLSen : (Try.prog.info? 32).map (·.size) = some 4 := by kernel_rfl
theorem infoZSen : (Try.prog.info? 35).map (fun i => (i.zero, i.size, i.bytes)) = some (some (.agg #[.int .i64 0, .int .i64 0, .int .i64 0, .slice none 0 0]), 4, 48) := by kernel_rfl
set_option maxHeartbeats 800000 in
theorem szSeen_any (v : Value) (u : Sen) (l : Int) (w : World) (S : Nat → Prop) (h3 : -1 ≤ l) (h4 : l ≤ 1048576) (hv : SenAt w S v u) (hS : ∀ g, S g → g < w.heap.size) (hf : FineSen u) :
    Calls Try.prog 9 #[v, .int .i64 l] w fun e w' => ∃ q, e = .returned (.int .i64 q) ∧ -1 ≤ q ∧ q ≤ l ∧ Lf l (szSen u) q ∧ Below w.heap.size w w' := by
  obtain ⟨f, rfl, y0, y1, y2, y3⟩ := hv
  try simp only [arrSen]
  rw [show f 0 = _ from y0]
  clear y0
  rw [show f 1 = _ from y1]
  clear y1
  rw [show f 2 = _ from y2]
  clear y2
  obtain ⟨A3, c3, g3⟩ := y3.form
  rw [g3] at y3 ⊢
  have H3 := Seg.hid y3
  clear y3 g3
  obtain ⟨z0, z1, z2, z3⟩ := hf
  have Z3 := Seg.hid z3
  clear z0 z1 z2 z3
  go_enter Try.func9, Try.ntmps9
  go_wp2_with fail
  refine (szRecentS_any _ u.recent _ (w.alloc _) S (by omega) (by omega) (H3.out.below keepsRct (below1 w _) hS) (fun g hg => by rw [hsz]; have := hS g hg; omega) Z3.out).mono ?_
  rintro e w1 ⟨q1, rfl, a1, b1, L1', d1⟩
  have B1 := Seg.hid (chain (below1 w _) d1)
  have L1 := Seg.hid L1'
  clear d1 L1'
  by_cases k3 : q1 < 0
  · go_wp2
    go_ret
    exact ⟨_, rfl, by omega, by omega, by have m0 := L1.out.2 (by omega); simp only [szSen]; exact ⟨fun _ => by omega, fun _ => by omega⟩, B1.out⟩
  go_wp2
  go_ret
  exact ⟨_, rfl, by omega, by omega, by have m0 := L1.out.1 (by omega); simp only [szSen]; exact ⟨fun _ => by omega, fun _ => by omega⟩, B1.out⟩
set_option maxHeartbeats 1600000 in
theorem toSeen_any (v : Value) (u : Sen) (w : World) (S : Nat → Prop) (hv : SenAt w S v u) (hS : ∀ g, S g → g < w.heap.size) (hf : szSen u ≤ 1048576) :
    Calls Try.prog 11 #[v] w fun e w' => ∃ v', e = .returned v' ∧ SenAt w' (seg w.heap.size w'.heap.size) v' u ∧ Below w.heap.size w w' := by
  obtain ⟨f, rfl, y0, y1, y2, y3⟩ := hv
  try simp only [arrSen]
  rw [show f 0 = _ from y0]
  clear y0
  rw [show f 1 = _ from y1]
  clear y1
  rw [show f 2 = _ from y2]
  clear y2
  obtain ⟨A3, c3, g3⟩ := y3.form
  rw [g3] at y3 ⊢
  have H3 := Seg.hid y3
  clear y3 g3
  unfold szSen at hf
  go_enter Try.func11, Try.ntmps11
  go_wp2_with fail
  refine (toRecentS_any _ u.recent (((w.alloc _).alloc _).alloc _) S (H3.out.below keepsRct (below3 w _ _ _) hS) (fun g hg => by rw [hsz, hsz, hsz]; have := hS g hg; omega) (by omega)).mono ?_
  rintro e w1 ⟨v1, rfl, l1, b1⟩
  have B1 := Seg.hid (chain (below3 w _ _ _) b1)
  have Ta1 : Hid (w1.heap[w.heap.size]? = some (.cells #[.int .i64 u.producer, .int .i64 u.turn, .int .i64 u.next, .slice A3 u.recent.length c3] 32 (0, 0))) := (b1.block w.heap.size (by rw [hsz, hsz, hsz]; omega)).trans (at3z w _ _ _)
  have Tr1 : Hid (w1.heap[w.heap.size + 1]? = some (.cells #[.int .i64 0, .int .i64 0, .int .i64 0, .slice none 0 0] 35 (0, 0))) := (b1.block (w.heap.size + 1) (by rw [hsz, hsz, hsz]; omega)).trans (at3 w _ _ _)
  have To1 : Hid (w1.heap[w.heap.size + 1 + 1]? = some (.cells #[.int .i64 u.producer, .int .i64 u.turn, .int .i64 u.next, .slice none 0 0] 35 (0, 0))) := (b1.block (w.heap.size + 1 + 1) (by rw [hsz, hsz, hsz]; omega)).trans (Cells.at3' w _ _ _)
  have s1 : w.heap.size + 3 ≤ w1.heap.size := by have := b1.size; rw [hsz, hsz, hsz] at this; omega
  have M1 : Hid (LAt 3 ERct w1 (seg (w.heap.size + 3) w1.heap.size) v1 u.recent) := by
    rw [hsz, hsz, hsz] at l1
    exact l1
  obtain ⟨Y1, x1, r1⟩ := M1.out.form
  subst r1
  clear b1 l1
  have N11 := M1
  have po13 : (w1).cell? ⟨w.heap.size + 1 + 1, 3, none⟩ = some (.slice none 0 0) := cell_of_row (w1) _ 3 _ _ (0, 0) (To1.out)
  have pf13 : (w1).frozen? ⟨w.heap.size + 1 + 1, 3, none⟩ = false := frozen_of_row (w1) _ 3 _ _ (To1.out)
  have qo13 : Hid (((w1.setCell ⟨w.heap.size + 1 + 1, 3, none⟩ (.slice Y1 u.recent.length x1))).heap[w.heap.size + 1 + 1]? = some (.cells #[.int .i64 u.producer, .int .i64 u.turn, .int .i64 u.next, .slice Y1 u.recent.length x1] 35 (0, 0))) := heap_setCell_same (w1) (w.heap.size + 1 + 1) 3 _ _ (.slice Y1 u.recent.length x1) (To1.out)
  have Uo1 := Seg.hid (qo13.out)
  have Ur1 := Seg.hid ((heap_setCell_other (w1) ⟨w.heap.size + 1 + 1, 3, none⟩ (w.heap.size + 1) (.slice Y1 u.recent.length x1) (by simp)).trans (Tr1.out))
  have Ua1 := Seg.hid ((heap_setCell_other (w1) ⟨w.heap.size + 1 + 1, 3, none⟩ w.heap.size (.slice Y1 u.recent.length x1) (by simp; omega)).trans (Ta1.out))
  have D1 : Hid (Below w.heap.size w (w1.setCell ⟨w.heap.size + 1 + 1, 3, none⟩ (.slice Y1 u.recent.length x1))) := (B1.out).setCell (p := ⟨w.heap.size + 1 + 1, 3, none⟩) (by simp; omega) (.slice Y1 u.recent.length x1)
  have N11' : Hid (LAt 3 ERct (w1.setCell ⟨w.heap.size + 1 + 1, 3, none⟩ (.slice Y1 u.recent.length x1)) (seg (w.heap.size + 3) w1.heap.size) (.slice Y1 u.recent.length x1) u.recent) := N11.out.keep keepsRct (fun g hg => by have := hg.1; rw [heap_setCell_other _ _ _ _ (by show _ ≠ w.heap.size + 1 + 1; omega)])
  obtain ⟨fx, hfx⟩ : ∃ fx : Nat → Value, fx = (fun q => if q = 0 then .int .i64 u.producer else if q = 1 then .int .i64 u.turn else if q = 2 then .int .i64 u.next else .slice Y1 u.recent.length x1) := ⟨_, rfl⟩
  have HX := Seg.hid hfx
  have Uz : Hid ((w1.setCell ⟨w.heap.size + 1 + 1, 3, none⟩ (.slice Y1 u.recent.length x1)).heap[w.heap.size + 1 + 1]? = some (.cells (arrSen fx) 35 (0, 0))) := by
    show _ = _
    rw [hfx]
    exact Uo1.out
  clear hfx
  have H5a := Cells.there_of Ur1.out
  have H5 : Hid ((w1.setCell ⟨w.heap.size + 1 + 1, 3, none⟩ (.slice Y1 u.recent.length x1)).there (w.heap.size + 1) 0 (arrSen fx).size) := H5a
  clear H5a
  have H4 := Seg.hid (Cells.whole (vs := arrSen fx) Ur1.out rfl)
  have B9 := Seg.hid (Cells.below_setCells (g := w.heap.size + 1) (by omega) (arrSen fx).toList 0 _ _ D1.out)
  have F1 : Hid (LAt 3 ERct ((w1.setCell ⟨w.heap.size + 1 + 1, 3, none⟩ (.slice Y1 u.recent.length x1)).setCells (w.heap.size + 1) 0 (arrSen fx).toList) (seg w.heap.size ((w1.setCell ⟨w.heap.size + 1 + 1, 3, none⟩ (.slice Y1 u.recent.length x1)).setCells (w.heap.size + 1) 0 (arrSen fx).toList).heap.size) (fx 3) u.recent) := by
    show LAt 3 ERct _ _ _ _
    rw [show fx 3 = .slice Y1 u.recent.length x1 by rw [HX.out]; rfl]
    refine (N11'.out.keep keepsRct (fun g hg => ?_)).mono growsRct (fun g hg => ⟨by have := hg.1; omega, ?_⟩)
    · have := hg.1
      rw [Cells.heap_setCells_other _ _ (by omega)]
    · rw [Cells.size_setCells]
      have := hg.2
      simpa using this
  have EX : Hid (ESen ((w1.setCell ⟨w.heap.size + 1 + 1, 3, none⟩ (.slice Y1 u.recent.length x1)).setCells (w.heap.size + 1) 0 (arrSen fx).toList) (seg w.heap.size ((w1.setCell ⟨w.heap.size + 1 + 1, 3, none⟩ (.slice Y1 u.recent.length x1)).setCells (w.heap.size + 1) 0 (arrSen fx).toList).heap.size) fx u) := ⟨by rw [HX.out]; rfl, by rw [HX.out]; rfl, by rw [HX.out]; rfl, F1.out⟩
  have ON := Seg.hid (oneSen EX.out)
  clear Ta1 Tr1 To1 Ua1 M1
  go_upto_region 6 with fail
  clear po13 pf13
  generalize (w1.setCell ⟨w.heap.size + 1 + 1, 3, none⟩ (.slice Y1 u.recent.length x1)) = wz at *
  go_wp2_with (first | (refine wpList_load_row rfl 35 _ rfl (w.heap.size + 1 + 1) rfl _ _ _ _ Uz.out Try.underlying35 rfl infoSen ?_) | (refine wpList_store_mid rfl 35 _ _ rfl (w.heap.size + 1) 0 (arrSen fx) rfl rfl H5.out infoSen ON.out ?_))
  exact bodyPost_ret (v := .agg (arrSen fx)) (results_cell_row rfl _ _ (w.heap.size + 1) _ _ _ _ rfl H4.out Try.underlying35 rfl infoSen) rfl ⟨_, rfl, ⟨fx, rfl, EX.out⟩, B9.out⟩
set_option maxHeartbeats 1600000 in
theorem eqSeen_any (v v' : Value) (u : Sen) (w : World) (S S' : Nat → Prop) (hv : SenAt w S v u) (hv' : SenAt w S' v' u) (hS : ∀ g, S g → g < w.heap.size) (hS' : ∀ g, S' g → g < w.heap.size) :
    Calls Try.prog 14 #[v, v'] w fun e w' => e = .returned (.bool true) ∧ Below w.heap.size w w' := by
  obtain ⟨f, rfl, y0, y1, y2, y3⟩ := hv
  obtain ⟨f', rfl, y0', y1', y2', y3'⟩ := hv'
  try simp only [arrSen]
  rw [show f 0 = _ from y0]
  clear y0
  rw [show f 1 = _ from y1]
  clear y1
  rw [show f 2 = _ from y2]
  clear y2
  obtain ⟨A3, c3, g3⟩ := y3.form
  rw [g3] at y3 ⊢
  have H3 := Seg.hid y3
  clear y3 g3
  try simp only [arrSen]
  rw [show f' 0 = _ from y0']
  clear y0'
  rw [show f' 1 = _ from y1']
  clear y1'
  rw [show f' 2 = _ from y2']
  clear y2'
  obtain ⟨A3', c3', g3'⟩ := y3'.form
  rw [g3'] at y3' ⊢
  have H3' := Seg.hid y3'
  clear y3' g3'
  go_enter Try.func14, Try.ntmps14
  go_wp2_with fail
  refine (eqRecentS_any _ _ u.recent ((w.alloc _).alloc _) S S' (H3.out.below keepsRct (below2 w _ _) hS) (H3'.out.below keepsRct (below2 w _ _) hS') (fun g hg => by rw [hsz, hsz]; have := hS g hg; omega) (fun g hg => by rw [hsz, hsz]; have := hS' g hg; omega)).mono ?_
  rintro e w1 ⟨rfl, b1⟩
  have B1 := Seg.hid (chain (below2 w _ _) b1)
  clear b1
  go_wp2
  go_ret
  exact ⟨rfl, B1.out⟩
end Go.Proofs.Ytjdhpampfnilaaa.Ls
