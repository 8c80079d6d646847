/- Segment: how it lies in memory; what the law's measure and copier answer. -/
import Derived.Test.YtdhicmbfknagjaaTBats
import Derived.Test.YtdhicmbfknagjaaSegW
namespace Go.Proofs.Ytdhicmbfknagjaa.Ls
set_option maxRecDepth 8000
open Go.RowKit
open Recs
open SegW (Sg)
set_option linter.unusedVariables false
def ESg : Elt Sg := fun w S f u => f 0 = .int .i64 u.base ∧ LAt 7 EBat w S (f 1) u.bats
theorem keepsSg : Keeps 2 ESg := fun w w' S f f' t h hk hf => by
  obtain ⟨h0, h1⟩ := h
  exact ⟨by rw [hf 0 (by omega)]; exact h0, by rw [hf 1 (by omega)]; exact h1.keep keepsBat hk⟩
theorem growsSg : Grows ESg := fun w S S' f t h hs => by
  obtain ⟨h0, h1⟩ := h
  exact ⟨h0, h1.mono growsBat hs⟩
def arrSg (f : Nat → Value) : Array Value := #[f 0, f 1]
theorem oneSg {w : World} {S : Nat → Prop} {f : Nat → Value} {u : Sg} (h : ESg w S f u) : (arrSg f).all (·.oneCell') = true := by
  obtain ⟨h0, h1⟩ := h
  have o0 : (f 0).oneCell' = true := by rw [h0]; rfl
  have o1 : (f 1).oneCell' = true := h1.one
  simp [arrSg, o0, o1]
def SgAt (w : World) (S : Nat → Prop) (v : Value) (u : Sg) : Prop := ∃ f, v = .agg (arrSg f) ∧ ESg w S f u
abbrev SgsAt := LAt 2 ESg
theorem SgAt.keep {w w' : World} {S : Nat → Prop} {v : Value} {u : Sg} (h : SgAt w S v u) (hk : ∀ g, S g → w'.heap[g]? = w.heap[g]?) : SgAt w' S v u := by
  obtain ⟨f, h1, h2⟩ := h
  exact ⟨f, h1, keepsSg _ _ _ _ _ _ h2 hk (fun _ _ => rfl)⟩
theorem SgAt.mono {w : World} {S S' : Nat → Prop} {v : Value} {u : Sg} (h : SgAt w S v u) (hs : ∀ g, S g → S' g) : SgAt w S' v u := by
  obtain ⟨f, h1, h2⟩ := h
  exact ⟨f, h1, growsSg _ _ _ _ _ h2 hs⟩
theorem SgAt.below {w w' : World} {B : Nat} {S : Nat → Prop} {v : Value} {u : Sg} (h : SgAt w S v u) (hb : Below B w w') (hs : ∀ g, S g → g < B) : SgAt w' S v u := h.keep fun g hg => hb.block g (hs g hg)
def szSg (u : Sg) : Nat := szL szBat (u.bats)
def FineSg (u : Sg) : Prop := I64 u.base ∧ FineL FineBat u.bats
theorem infoSg : (Try.prog.info? 115).map (·.size) = some 2 := by kernel_rfl
theorem infoLSg : (Try.prog.info? 186).map (·.size) = some 2 := by kernel_rfl
theorem infoZSg : (Try.prog.info? 115).map (fun i => (i.zero, i.size, i.bytes)) = some (some (.agg #[.int .i64 0, .slice none 0 0]), 2, 32) := by kernel_rfl
set_option maxHeartbeats 800000 in
theorem szSegment_any (v : Value) (u : Sg) (l : Int) (w : World) (S : Nat → Prop) (h3 : -1 ≤ l) (h4 : l ≤ 1048576) (hv : SgAt w S v u) (hS : ∀ g, S g → g < w.heap.size) (hf : FineSg u) :
    Calls Try.prog 127 #[v, .int .i64 l] w fun e w' => ∃ q, e = .returned (.int .i64 q) ∧ -1 ≤ q ∧ q ≤ l ∧ Lf l (szSg u) q ∧ Below w.heap.size w w' := by
  obtain ⟨f, rfl, y0, y1⟩ := hv
  try simp only [arrSg]
  rw [show f 0 = _ from y0]
  clear y0
  obtain ⟨A1, c1, g1⟩ := y1.form
  rw [g1] at y1 ⊢
  have H1 := Seg.hid y1
  clear y1 g1
  obtain ⟨z0, z1⟩ := hf
  have Z1 := Seg.hid z1
  clear z0 z1
  go_enter Try.func127, Try.ntmps127
  go_wp2_with fail
  refine (szBatchS_any _ u.bats _ (w.alloc _) S (by omega) (by omega) (H1.out.below keepsBat (below1 w _) hS) (fun g hg => by rw [hsz]; have := hS g hg; omega) Z1.out).mono ?_
  rintro e w1 ⟨q1, rfl, a1, b1, L1', d1⟩
  have B1 := Seg.hid (chain (below1 w _) d1)
  have L1 := Seg.hid L1'
  clear d1 L1'
  by_cases k1 : q1 < 0
  · go_wp2
    go_ret
    exact ⟨_, rfl, by omega, by omega, by have m0 := L1.out.2 (by omega); simp only [szSg]; exact ⟨fun _ => by omega, fun _ => by omega⟩, B1.out⟩
  go_wp2
  go_ret
  exact ⟨_, rfl, by omega, by omega, by have m0 := L1.out.1 (by omega); simp only [szSg]; exact ⟨fun _ => by omega, fun _ => by omega⟩, B1.out⟩
set_option maxHeartbeats 1600000 in
theorem toSegment_any (v : Value) (u : Sg) (w : World) (S : Nat → Prop) (hv : SgAt w S v u) (hS : ∀ g, S g → g < w.heap.size) (hf : szSg u ≤ 1048576) :
    Calls Try.prog 128 #[v] w fun e w' => ∃ v', e = .returned v' ∧ SgAt w' (seg w.heap.size w'.heap.size) v' u ∧ Below w.heap.size w w' := by
  obtain ⟨f, rfl, y0, y1⟩ := hv
  try simp only [arrSg]
  rw [show f 0 = _ from y0]
  clear y0
  obtain ⟨A1, c1, g1⟩ := y1.form
  rw [g1] at y1 ⊢
  have H1 := Seg.hid y1
  clear y1 g1
  unfold szSg at hf
  go_enter Try.func128, Try.ntmps128
  go_wp2_with fail
  refine (toBatchS_any _ u.bats (((w.alloc _).alloc _).alloc _) S (H1.out.below keepsBat (below3 w _ _ _) hS) (fun g hg => by rw [hsz, hsz, hsz]; have := hS g hg; omega) (by omega)).mono ?_
  rintro e w1 ⟨v1, rfl, l1, b1⟩
  have B1 := Seg.hid (chain (below3 w _ _ _) b1)
  have Ta1 : Hid (w1.heap[w.heap.size]? = some (.cells #[.int .i64 u.base, .slice A1 u.bats.length c1] 186 (0, 0))) := (b1.block w.heap.size (by rw [hsz, hsz, hsz]; omega)).trans (at3z w _ _ _)
  have Tr1 : Hid (w1.heap[w.heap.size + 1]? = some (.cells #[.int .i64 0, .slice none 0 0] 115 (0, 0))) := (b1.block (w.heap.size + 1) (by rw [hsz, hsz, hsz]; omega)).trans (at3 w _ _ _)
  have To1 : Hid (w1.heap[w.heap.size + 1 + 1]? = some (.cells #[.int .i64 u.base, .slice none 0 0] 115 (0, 0))) := (b1.block (w.heap.size + 1 + 1) (by rw [hsz, hsz, hsz]; omega)).trans (Cells.at3' w _ _ _)
  have s1 : w.heap.size + 3 ≤ w1.heap.size := by have := b1.size; rw [hsz, hsz, hsz] at this; omega
  have M1 : Hid (LAt 7 EBat w1 (seg (w.heap.size + 3) w1.heap.size) v1 u.bats) := by
    rw [hsz, hsz, hsz] at l1
    exact l1
  obtain ⟨Y1, x1, r1⟩ := M1.out.form
  subst r1
  clear b1 l1
  have N11 := M1
  have po11 : (w1).cell? ⟨w.heap.size + 1 + 1, 1, none⟩ = some (.slice none 0 0) := cell_of_row (w1) _ 1 _ _ (0, 0) (To1.out)
  have pf11 : (w1).frozen? ⟨w.heap.size + 1 + 1, 1, none⟩ = false := frozen_of_row (w1) _ 1 _ _ (To1.out)
  have qo11 : Hid (((w1.setCell ⟨w.heap.size + 1 + 1, 1, none⟩ (.slice Y1 u.bats.length x1))).heap[w.heap.size + 1 + 1]? = some (.cells #[.int .i64 u.base, .slice Y1 u.bats.length x1] 115 (0, 0))) := heap_setCell_same (w1) (w.heap.size + 1 + 1) 1 _ _ (.slice Y1 u.bats.length x1) (To1.out)
  have Uo1 := Seg.hid (qo11.out)
  have Ur1 := Seg.hid ((heap_setCell_other (w1) ⟨w.heap.size + 1 + 1, 1, none⟩ (w.heap.size + 1) (.slice Y1 u.bats.length x1) (by simp)).trans (Tr1.out))
  have Ua1 := Seg.hid ((heap_setCell_other (w1) ⟨w.heap.size + 1 + 1, 1, none⟩ w.heap.size (.slice Y1 u.bats.length x1) (by simp; omega)).trans (Ta1.out))
  have D1 : Hid (Below w.heap.size w (w1.setCell ⟨w.heap.size + 1 + 1, 1, none⟩ (.slice Y1 u.bats.length x1))) := (B1.out).setCell (p := ⟨w.heap.size + 1 + 1, 1, none⟩) (by simp; omega) (.slice Y1 u.bats.length x1)
  have N11' : Hid (LAt 7 EBat (w1.setCell ⟨w.heap.size + 1 + 1, 1, none⟩ (.slice Y1 u.bats.length x1)) (seg (w.heap.size + 3) w1.heap.size) (.slice Y1 u.bats.length x1) u.bats) := N11.out.keep keepsBat (fun g hg => by have := hg.1; rw [heap_setCell_other _ _ _ _ (by show _ ≠ w.heap.size + 1 + 1; omega)])
  obtain ⟨fx, hfx⟩ : ∃ fx : Nat → Value, fx = (fun q => if q = 0 then .int .i64 u.base else .slice Y1 u.bats.length x1) := ⟨_, rfl⟩
  have HX := Seg.hid hfx
  have Uz : Hid ((w1.setCell ⟨w.heap.size + 1 + 1, 1, none⟩ (.slice Y1 u.bats.length x1)).heap[w.heap.size + 1 + 1]? = some (.cells (arrSg fx) 115 (0, 0))) := by
    show _ = _
    rw [hfx]
    exact Uo1.out
  clear hfx
  have H5a := Cells.there_of Ur1.out
  have H5 : Hid ((w1.setCell ⟨w.heap.size + 1 + 1, 1, none⟩ (.slice Y1 u.bats.length x1)).there (w.heap.size + 1) 0 (arrSg fx).size) := H5a
  clear H5a
  have H4 := Seg.hid (Cells.whole (vs := arrSg fx) Ur1.out rfl)
  have B9 := Seg.hid (Cells.below_setCells (g := w.heap.size + 1) (by omega) (arrSg fx).toList 0 _ _ D1.out)
  have F1 : Hid (LAt 7 EBat ((w1.setCell ⟨w.heap.size + 1 + 1, 1, none⟩ (.slice Y1 u.bats.length x1)).setCells (w.heap.size + 1) 0 (arrSg fx).toList) (seg w.heap.size ((w1.setCell ⟨w.heap.size + 1 + 1, 1, none⟩ (.slice Y1 u.bats.length x1)).setCells (w.heap.size + 1) 0 (arrSg fx).toList).heap.size) (fx 1) u.bats) := by
    show LAt 7 EBat _ _ _ _
    rw [show fx 1 = .slice Y1 u.bats.length x1 by rw [HX.out]; rfl]
    refine (N11'.out.keep keepsBat (fun g hg => ?_)).mono growsBat (fun g hg => ⟨by have := hg.1; omega, ?_⟩)
    · have := hg.1
      rw [Cells.heap_setCells_other _ _ (by omega)]
    · rw [Cells.size_setCells]
      have := hg.2
      simpa using this
  have EX : Hid (ESg ((w1.setCell ⟨w.heap.size + 1 + 1, 1, none⟩ (.slice Y1 u.bats.length x1)).setCells (w.heap.size + 1) 0 (arrSg fx).toList) (seg w.heap.size ((w1.setCell ⟨w.heap.size + 1 + 1, 1, none⟩ (.slice Y1 u.bats.length x1)).setCells (w.heap.size + 1) 0 (arrSg fx).toList).heap.size) fx u) := ⟨by rw [HX.out]; rfl, F1.out⟩
  have ON := Seg.hid (oneSg EX.out)
  clear Ta1 Tr1 To1 Ua1 M1
  go_upto_region 4 with fail
  clear po11 pf11
  generalize (w1.setCell ⟨w.heap.size + 1 + 1, 1, none⟩ (.slice Y1 u.bats.length x1)) = wz at *
  go_wp2_with (first | (refine wpList_load_row rfl 115 _ rfl (w.heap.size + 1 + 1) rfl _ _ _ _ Uz.out Try.underlying115 rfl infoSg ?_) | (refine wpList_store_mid rfl 115 _ _ rfl (w.heap.size + 1) 0 (arrSg fx) rfl rfl H5.out infoSg ON.out ?_))
  exact bodyPost_ret (v := .agg (arrSg fx)) (results_cell_row rfl _ _ (w.heap.size + 1) _ _ _ _ rfl H4.out Try.underlying115 rfl infoSg) rfl ⟨_, rfl, ⟨fx, rfl, EX.out⟩, B9.out⟩
set_option maxHeartbeats 1600000 in
theorem eqSegment_any (v v' : Value) (u : Sg) (w : World) (S S' : Nat → Prop) (hv : SgAt w S v u) (hv' : SgAt w S' v' u) (hS : ∀ g, S g → g < w.heap.size) (hS' : ∀ g, S' g → g < w.heap.size) :
    Calls Try.prog 134 #[v, v'] w fun e w' => e = .returned (.bool true) ∧ Below w.heap.size w w' := by
  obtain ⟨f, rfl, y0, y1⟩ := hv
  obtain ⟨f', rfl, y0', y1'⟩ := hv'
  try simp only [arrSg]
  rw [show f 0 = _ from y0]
  clear y0
  obtain ⟨A1, c1, g1⟩ := y1.form
  rw [g1] at y1 ⊢
  have H1 := Seg.hid y1
  clear y1 g1
  try simp only [arrSg]
  rw [show f' 0 = _ from y0']
  clear y0'
  obtain ⟨A1', c1', g1'⟩ := y1'.form
  rw [g1'] at y1' ⊢
  have H1' := Seg.hid y1'
  clear y1' g1'
  go_enter Try.func134, Try.ntmps134
  go_wp2_with fail
  refine (eqBatchS_any _ _ u.bats ((w.alloc _).alloc _) S S' (H1.out.below keepsBat (below2 w _ _) hS) (H1'.out.below keepsBat (below2 w _ _) hS') (fun g hg => by rw [hsz, hsz]; have := hS g hg; omega) (fun g hg => by rw [hsz, hsz]; have := hS' g hg; omega)).mono ?_
  rintro e w1 ⟨rfl, b1⟩
  have B1 := Seg.hid (chain (below2 w _ _) b1)
  clear b1
  go_wp2
  go_ret
  exact ⟨rfl, B1.out⟩
end Go.Proofs.Ytdhicmbfknagjaa.Ls
