/- Group: how it lies in memory; what the law's measure and copier answer. -/
import Derived.Test.YtfdfhhiaalbfiaaTTpcs
import Derived.Test.YtfdfhhiaalbfiaaTMbrs
namespace Go.Proofs.Ytfdfhhiaalbfiaa.Ls
set_option maxRecDepth 8000
open Go.RowKit
open Recs
set_option linter.unusedVariables false
structure Grp where
  kind : Int
  timeout : Int
  now : Int
  round : Int
  topics : List Tpc
  members : List Mbr
  deriving Inhabited
def EGrp : Elt Grp := fun w S f u => f 0 = .int .i64 u.kind ∧ f 1 = .int .i64 u.timeout ∧ f 2 = .int .i64 u.now ∧ f 3 = .int .i64 u.round ∧ LAt 2 ETpc w S (f 4) u.topics ∧ LAt 7 EMbr w S (f 5) u.members
theorem keepsGrp : Keeps 6 EGrp := fun w w' S f f' t h hk hf => by
  obtain ⟨h0, h1, h2, h3, h4, h5⟩ := h
  exact ⟨by rw [hf 0 (by omega)]; exact h0, by rw [hf 1 (by omega)]; exact h1, by rw [hf 2 (by omega)]; exact h2, by rw [hf 3 (by omega)]; exact h3, by rw [hf 4 (by omega)]; exact h4.keep keepsTpc hk, by rw [hf 5 (by omega)]; exact h5.keep keepsMbr hk⟩
theorem growsGrp : Grows EGrp := fun w S S' f t h hs => by
  obtain ⟨h0, h1, h2, h3, h4, h5⟩ := h
  exact ⟨h0, h1, h2, h3, h4.mono growsTpc hs, h5.mono growsMbr hs⟩
def arrGrp (f : Nat → Value) : Array Value := #[f 0, f 1, f 2, f 3, f 4, f 5]
theorem oneGrp {w : World} {S : Nat → Prop} {f : Nat → Value} {u : Grp} (h : EGrp w S f u) : (arrGrp f).all (·.oneCell') = true := by
  obtain ⟨h0, h1, h2, h3, h4, h5⟩ := h
  have o0 : (f 0).oneCell' = true := by rw [h0]; rfl
  have o1 : (f 1).oneCell' = true := by rw [h1]; rfl
  have o2 : (f 2).oneCell' = true := by rw [h2]; rfl
  have o3 : (f 3).oneCell' = true := by rw [h3]; rfl
  have o4 : (f 4).oneCell' = true := h4.one
  have o5 : (f 5).oneCell' = true := h5.one
  simp [arrGrp, o0, o1, o2, o3, o4, o5]
def GrpAt (w : World) (S : Nat → Prop) (v : Value) (u : Grp) : Prop := ∃ f, v = .agg (arrGrp f) ∧ EGrp w S f u
abbrev GrpsAt := LAt 6 EGrp
theorem GrpAt.keep {w w' : World} {S : Nat → Prop} {v : Value} {u : Grp} (h : GrpAt w S v u) (hk : ∀ g, S g → w'.heap[g]? = w.heap[g]?) : GrpAt w' S v u := by
  obtain ⟨f, h1, h2⟩ := h
  exact ⟨f, h1, keepsGrp _ _ _ _ _ _ h2 hk (fun _ _ => rfl)⟩
theorem GrpAt.mono {w : World} {S S' : Nat → Prop} {v : Value} {u : Grp} (h : GrpAt w S v u) (hs : ∀ g, S g → S' g) : GrpAt w S' v u := by
  obtain ⟨f, h1, h2⟩ := h
  exact ⟨f, h1, growsGrp _ _ _ _ _ h2 hs⟩
theorem GrpAt.below {w w' : World} {B : Nat} {S : Nat → Prop} {v : Value} {u : Grp} (h : GrpAt w S v u) (hb : Below B w w') (hs : ∀ g, S g → g < B) : GrpAt w' S v u := h.keep fun g hg => hb.block g (hs g hg)
def szGrp (u : Grp) : Nat := szL szTpc (u.topics) + szL szMbr (u.members)
def FineGrp (u : Grp) : Prop := I64 u.kind ∧ I64 u.timeout ∧ I64 u.now ∧ I64 u.round ∧ FineL FineTpc u.topics ∧ FineL FineMbr u.members
theorem infoGrp : (Try.prog.info? 31).map (·.size) = some 6 := by kernel_rfl
theorem infoLGrp : (Try.prog.info? 25).map (·.size) = some 6 := by kernel_rfl
theorem infoZGrp : (Try.prog.info? 31).map (fun i => (i.zero, i.size, i.bytes)) = some (some (.agg #[.int .i64 0, .int .i64 0, .int .i64 0, .int .i64 0, .slice none 0 0, .slice none 0 0]), 6, 80) := by kernel_rfl
set_option maxHeartbeats 800000 in
theorem szGroup_any (v : Value) (u : Grp) (l : Int) (w : World) (S : Nat → Prop) (h3 : -1 ≤ l) (h4 : l ≤ 1048576) (hv : GrpAt w S v u) (hS : ∀ g, S g → g < w.heap.size) (hf : FineGrp u) :
    Calls Try.prog 8 #[v, .int .i64 l] w fun e w' => ∃ q, e = .returned (.int .i64 q) ∧ -1 ≤ q ∧ q ≤ l ∧ Lf l (szGrp u) q ∧ Below w.heap.size w w' := by
  obtain ⟨f, rfl, y0, y1, y2, y3, y4, y5⟩ := hv
  try simp only [arrGrp]
  rw [show f 0 = _ from y0]
  clear y0
  rw [show f 1 = _ from y1]
  clear y1
  rw [show f 2 = _ from y2]
  clear y2
  rw [show f 3 = _ from y3]
  clear y3
  obtain ⟨A4, c4, g4⟩ := y4.form
  rw [g4] at y4 ⊢
  have H4 := Seg.hid y4
  clear y4 g4
  obtain ⟨A5, c5, g5⟩ := y5.form
  rw [g5] at y5 ⊢
  have H5 := Seg.hid y5
  clear y5 g5
  obtain ⟨z0, z1, z2, z3, z4, z5⟩ := hf
  have Z4 := Seg.hid z4
  have Z5 := Seg.hid z5
  clear z0 z1 z2 z3 z4 z5
  go_enter Try.func8, Try.ntmps8
  go_wp2_with fail
  refine (szTopicS_any _ u.topics _ (w.alloc _) S (by omega) (by omega) (H4.out.below keepsTpc (below1 w _) hS) (fun g hg => by rw [hsz]; have := hS g hg; omega) Z4.out).mono ?_
  rintro e w1 ⟨q1, rfl, a1, b1, L1', d1⟩
  have B1 := Seg.hid (chain (below1 w _) d1)
  have L1 := Seg.hid L1'
  have T1 : Hid (w1.heap[w.heap.size]? = some (.cells #[.int .i64 u.kind, .int .i64 u.timeout, .int .i64 u.now, .int .i64 u.round, .slice A4 u.topics.length c4, .slice A5 u.members.length c5] 25 (0, 0))) := (d1.block w.heap.size (by rw [hsz]; omega)).trans (heap_alloc_new _ _)
  have s1 : w.heap.size < w1.heap.size := (Array.getElem?_eq_some_iff.1 T1.out).1
  have p15 : w1.cell? ⟨w.heap.size, 5, none⟩ = some (.slice A5 u.members.length c5) := cell_of_row w1 _ 5 _ _ (0, 0) T1.out
  clear d1 L1'
  by_cases k4 : q1 < 0
  · go_wp2
    go_ret
    exact ⟨_, rfl, by omega, by omega, by have m0 := L1.out.2 (by omega); simp only [szGrp]; exact ⟨fun _ => by omega, fun _ => by omega⟩, B1.out⟩
  go_wp2_with fail
  refine (szMemberS_any _ u.members _ w1 S (by omega) (by omega) (H5.out.below keepsMbr B1.out hS) (fun g hg => Nat.lt_of_lt_of_le (hS g hg) B1.out.size) Z5.out).mono ?_
  rintro e w2 ⟨q2, rfl, a2, b2, L2', d2⟩
  have B2 := Seg.hid (chain B1.out d2)
  have L2 := Seg.hid L2'
  clear d2 L2'
  by_cases k5 : q2 < 0
  · go_wp2
    go_ret
    exact ⟨_, rfl, by omega, by omega, by have m0 := L1.out.1 (by omega); have m1 := L2.out.2 (by omega); simp only [szGrp]; exact ⟨fun _ => by omega, fun _ => by omega⟩, B2.out⟩
  go_wp2
  go_ret
  exact ⟨_, rfl, by omega, by omega, by have m0 := L1.out.1 (by omega); have m1 := L2.out.1 (by omega); simp only [szGrp]; exact ⟨fun _ => by omega, fun _ => by omega⟩, B2.out⟩
set_option maxHeartbeats 1600000 in
theorem toGroup_any (v : Value) (u : Grp) (w : World) (S : Nat → Prop) (hv : GrpAt w S v u) (hS : ∀ g, S g → g < w.heap.size) (hf : szGrp u ≤ 1048576) :
    Calls Try.prog 10 #[v] w fun e w' => ∃ v', e = .returned v' ∧ GrpAt w' (seg w.heap.size w'.heap.size) v' u ∧ Below w.heap.size w w' := by
  obtain ⟨f, rfl, y0, y1, y2, y3, y4, y5⟩ := hv
  try simp only [arrGrp]
  rw [show f 0 = _ from y0]
  clear y0
  rw [show f 1 = _ from y1]
  clear y1
  rw [show f 2 = _ from y2]
  clear y2
  rw [show f 3 = _ from y3]
  clear y3
  obtain ⟨A4, c4, g4⟩ := y4.form
  rw [g4] at y4 ⊢
  have H4 := Seg.hid y4
  clear y4 g4
  obtain ⟨A5, c5, g5⟩ := y5.form
  rw [g5] at y5 ⊢
  have H5 := Seg.hid y5
  clear y5 g5
  unfold szGrp at hf
  go_enter Try.func10, Try.ntmps10
  go_wp2_with fail
  refine (toTopicS_any _ u.topics (((w.alloc _).alloc _).alloc _) S (H4.out.below keepsTpc (below3 w _ _ _) hS) (fun g hg => by rw [hsz, hsz, hsz]; have := hS g hg; omega) (by omega)).mono ?_
  rintro e w1 ⟨v1, rfl, l1, b1⟩
  have B1 := Seg.hid (chain (below3 w _ _ _) b1)
  have Ta1 : Hid (w1.heap[w.heap.size]? = some (.cells #[.int .i64 u.kind, .int .i64 u.timeout, .int .i64 u.now, .int .i64 u.round, .slice A4 u.topics.length c4, .slice A5 u.members.length c5] 25 (0, 0))) := (b1.block w.heap.size (by rw [hsz, hsz, hsz]; omega)).trans (at3z w _ _ _)
  have Tr1 : Hid (w1.heap[w.heap.size + 1]? = some (.cells #[.int .i64 0, .int .i64 0, .int .i64 0, .int .i64 0, .slice none 0 0, .slice none 0 0] 31 (0, 0))) := (b1.block (w.heap.size + 1) (by rw [hsz, hsz, hsz]; omega)).trans (at3 w _ _ _)
  have To1 : Hid (w1.heap[w.heap.size + 1 + 1]? = some (.cells #[.int .i64 u.kind, .int .i64 u.timeout, .int .i64 u.now, .int .i64 u.round, .slice none 0 0, .slice none 0 0] 31 (0, 0))) := (b1.block (w.heap.size + 1 + 1) (by rw [hsz, hsz, hsz]; omega)).trans (Cells.at3' w _ _ _)
  have s1 : w.heap.size + 3 ≤ w1.heap.size := by have := b1.size; rw [hsz, hsz, hsz] at this; omega
  have M1 : Hid (LAt 2 ETpc w1 (seg (w.heap.size + 3) w1.heap.size) v1 u.topics) := by
    rw [hsz, hsz, hsz] at l1
    exact l1
  obtain ⟨Y1, x1, r1⟩ := M1.out.form
  subst r1
  clear b1 l1
  have N11 := M1
  have pa15 : w1.cell? ⟨w.heap.size, 5, none⟩ = some (.slice A5 u.members.length c5) := cell_of_row w1 _ 5 _ _ (0, 0) Ta1.out
  have po14 : (w1).cell? ⟨w.heap.size + 1 + 1, 4, none⟩ = some (.slice none 0 0) := cell_of_row (w1) _ 4 _ _ (0, 0) (To1.out)
  have pf14 : (w1).frozen? ⟨w.heap.size + 1 + 1, 4, none⟩ = false := frozen_of_row (w1) _ 4 _ _ (To1.out)
  have qo14 : Hid (((w1.setCell ⟨w.heap.size + 1 + 1, 4, none⟩ (.slice Y1 u.topics.length x1))).heap[w.heap.size + 1 + 1]? = some (.cells #[.int .i64 u.kind, .int .i64 u.timeout, .int .i64 u.now, .int .i64 u.round, .slice Y1 u.topics.length x1, .slice none 0 0] 31 (0, 0))) := heap_setCell_same (w1) (w.heap.size + 1 + 1) 4 _ _ (.slice Y1 u.topics.length x1) (To1.out)
  have Uo1 := Seg.hid (qo14.out)
  have Ur1 := Seg.hid ((heap_setCell_other (w1) ⟨w.heap.size + 1 + 1, 4, none⟩ (w.heap.size + 1) (.slice Y1 u.topics.length x1) (by simp)).trans (Tr1.out))
  have Ua1 := Seg.hid ((heap_setCell_other (w1) ⟨w.heap.size + 1 + 1, 4, none⟩ w.heap.size (.slice Y1 u.topics.length x1) (by simp; omega)).trans (Ta1.out))
  have D1 : Hid (Below w.heap.size w (w1.setCell ⟨w.heap.size + 1 + 1, 4, none⟩ (.slice Y1 u.topics.length x1))) := (B1.out).setCell (p := ⟨w.heap.size + 1 + 1, 4, none⟩) (by simp; omega) (.slice Y1 u.topics.length x1)
  have N11' : Hid (LAt 2 ETpc (w1.setCell ⟨w.heap.size + 1 + 1, 4, none⟩ (.slice Y1 u.topics.length x1)) (seg (w.heap.size + 3) w1.heap.size) (.slice Y1 u.topics.length x1) u.topics) := N11.out.keep keepsTpc (fun g hg => by have := hg.1; rw [heap_setCell_other _ _ _ _ (by show _ ≠ w.heap.size + 1 + 1; omega)])
  go_wp2_with fail
  refine (toMemberS_any _ u.members (w1.setCell ⟨w.heap.size + 1 + 1, 4, none⟩ (.slice Y1 u.topics.length x1)) S (H5.out.below keepsMbr D1.out hS) (fun g hg => Nat.lt_of_lt_of_le (hS g hg) D1.out.size) (by omega)).mono ?_
  rintro e w2 ⟨v2, rfl, l2, b2⟩
  have B2 := Seg.hid (chain D1.out b2)
  have z2 : (w1.setCell ⟨w.heap.size + 1 + 1, 4, none⟩ (.slice Y1 u.topics.length x1)).heap.size = w1.heap.size := by simp
  have Ta2 := Seg.hid ((b2.block w.heap.size (by omega)).trans Ua1.out)
  have Tr2 := Seg.hid ((b2.block (w.heap.size + 1) (by omega)).trans Ur1.out)
  have To2 := Seg.hid ((b2.block (w.heap.size + 1 + 1) (by omega)).trans Uo1.out)
  have s2 : w.heap.size + 3 ≤ w2.heap.size := by have := b2.size; omega
  have M2 : Hid (LAt 7 EMbr w2 (seg (w.heap.size + 3) w2.heap.size) v2 u.members) := l2.mono growsMbr (fun g hg => ⟨by have := hg.1; omega, hg.2⟩)
  have N21 : Hid (LAt 2 ETpc w2 (seg (w.heap.size + 3) w2.heap.size) (.slice Y1 u.topics.length x1) u.topics) := ((N11'.out.keep keepsTpc (fun g hg => b2.block g (by have := hg.2; omega))).mono growsTpc (fun g hg => ⟨hg.1, by have := b2.size; have := hg.2; omega⟩))
  clear z2
  obtain ⟨Y2, x2, r2⟩ := M2.out.form
  subst r2
  clear b2 l2
  have N22 := M2
  have po25 : (w2).cell? ⟨w.heap.size + 1 + 1, 5, none⟩ = some (.slice none 0 0) := cell_of_row (w2) _ 5 _ _ (0, 0) (To2.out)
  have pf25 : (w2).frozen? ⟨w.heap.size + 1 + 1, 5, none⟩ = false := frozen_of_row (w2) _ 5 _ _ (To2.out)
  have qo25 : Hid (((w2.setCell ⟨w.heap.size + 1 + 1, 5, none⟩ (.slice Y2 u.members.length x2))).heap[w.heap.size + 1 + 1]? = some (.cells #[.int .i64 u.kind, .int .i64 u.timeout, .int .i64 u.now, .int .i64 u.round, .slice Y1 u.topics.length x1, .slice Y2 u.members.length x2] 31 (0, 0))) := heap_setCell_same (w2) (w.heap.size + 1 + 1) 5 _ _ (.slice Y2 u.members.length x2) (To2.out)
  have Uo2 := Seg.hid (qo25.out)
  have Ur2 := Seg.hid ((heap_setCell_other (w2) ⟨w.heap.size + 1 + 1, 5, none⟩ (w.heap.size + 1) (.slice Y2 u.members.length x2) (by simp)).trans (Tr2.out))
  have Ua2 := Seg.hid ((heap_setCell_other (w2) ⟨w.heap.size + 1 + 1, 5, none⟩ w.heap.size (.slice Y2 u.members.length x2) (by simp; omega)).trans (Ta2.out))
  have D2 : Hid (Below w.heap.size w (w2.setCell ⟨w.heap.size + 1 + 1, 5, none⟩ (.slice Y2 u.members.length x2))) := (B2.out).setCell (p := ⟨w.heap.size + 1 + 1, 5, none⟩) (by simp; omega) (.slice Y2 u.members.length x2)
  have N21' : Hid (LAt 2 ETpc (w2.setCell ⟨w.heap.size + 1 + 1, 5, none⟩ (.slice Y2 u.members.length x2)) (seg (w.heap.size + 3) w2.heap.size) (.slice Y1 u.topics.length x1) u.topics) := N21.out.keep keepsTpc (fun g hg => by have := hg.1; rw [heap_setCell_other _ _ _ _ (by show _ ≠ w.heap.size + 1 + 1; omega)])
  have N22' : Hid (LAt 7 EMbr (w2.setCell ⟨w.heap.size + 1 + 1, 5, none⟩ (.slice Y2 u.members.length x2)) (seg (w.heap.size + 3) w2.heap.size) (.slice Y2 u.members.length x2) u.members) := N22.out.keep keepsMbr (fun g hg => by have := hg.1; rw [heap_setCell_other _ _ _ _ (by show _ ≠ w.heap.size + 1 + 1; omega)])
  obtain ⟨fx, hfx⟩ : ∃ fx : Nat → Value, fx = (fun q => if q = 0 then .int .i64 u.kind else if q = 1 then .int .i64 u.timeout else if q = 2 then .int .i64 u.now else if q = 3 then .int .i64 u.round else if q = 4 then .slice Y1 u.topics.length x1 else .slice Y2 u.members.length x2) := ⟨_, rfl⟩
  have HX := Seg.hid hfx
  have Uz : Hid ((w2.setCell ⟨w.heap.size + 1 + 1, 5, none⟩ (.slice Y2 u.members.length x2)).heap[w.heap.size + 1 + 1]? = some (.cells (arrGrp fx) 31 (0, 0))) := by
    show _ = _
    rw [hfx]
    exact Uo2.out
  clear hfx
  have H5a := Cells.there_of Ur2.out
  have H5 : Hid ((w2.setCell ⟨w.heap.size + 1 + 1, 5, none⟩ (.slice Y2 u.members.length x2)).there (w.heap.size + 1) 0 (arrGrp fx).size) := H5a
  clear H5a
  have H4 := Seg.hid (Cells.whole (vs := arrGrp fx) Ur2.out rfl)
  have B9 := Seg.hid (Cells.below_setCells (g := w.heap.size + 1) (by omega) (arrGrp fx).toList 0 _ _ D2.out)
  have F1 : Hid (LAt 2 ETpc ((w2.setCell ⟨w.heap.size + 1 + 1, 5, none⟩ (.slice Y2 u.members.length x2)).setCells (w.heap.size + 1) 0 (arrGrp fx).toList) (seg w.heap.size ((w2.setCell ⟨w.heap.size + 1 + 1, 5, none⟩ (.slice Y2 u.members.length x2)).setCells (w.heap.size + 1) 0 (arrGrp fx).toList).heap.size) (fx 4) u.topics) := by
    show LAt 2 ETpc _ _ _ _
    rw [show fx 4 = .slice Y1 u.topics.length x1 by rw [HX.out]; rfl]
    refine (N21'.out.keep keepsTpc (fun g hg => ?_)).mono growsTpc (fun g hg => ⟨by have := hg.1; omega, ?_⟩)
    · have := hg.1
      rw [Cells.heap_setCells_other _ _ (by omega)]
    · rw [Cells.size_setCells]
      have := hg.2
      simpa using this
  have F2 : Hid (LAt 7 EMbr ((w2.setCell ⟨w.heap.size + 1 + 1, 5, none⟩ (.slice Y2 u.members.length x2)).setCells (w.heap.size + 1) 0 (arrGrp fx).toList) (seg w.heap.size ((w2.setCell ⟨w.heap.size + 1 + 1, 5, none⟩ (.slice Y2 u.members.length x2)).setCells (w.heap.size + 1) 0 (arrGrp fx).toList).heap.size) (fx 5) u.members) := by
    show LAt 7 EMbr _ _ _ _
    rw [show fx 5 = .slice Y2 u.members.length x2 by rw [HX.out]; rfl]
    refine (N22'.out.keep keepsMbr (fun g hg => ?_)).mono growsMbr (fun g hg => ⟨by have := hg.1; omega, ?_⟩)
    · have := hg.1
      rw [Cells.heap_setCells_other _ _ (by omega)]
    · rw [Cells.size_setCells]
      have := hg.2
      simpa using this
  have EX : Hid (EGrp ((w2.setCell ⟨w.heap.size + 1 + 1, 5, none⟩ (.slice Y2 u.members.length x2)).setCells (w.heap.size + 1) 0 (arrGrp fx).toList) (seg w.heap.size ((w2.setCell ⟨w.heap.size + 1 + 1, 5, none⟩ (.slice Y2 u.members.length x2)).setCells (w.heap.size + 1) 0 (arrGrp fx).toList).heap.size) fx u) := ⟨by rw [HX.out]; rfl, by rw [HX.out]; rfl, by rw [HX.out]; rfl, by rw [HX.out]; rfl, F1.out, F2.out⟩
  have ON := Seg.hid (oneGrp EX.out)
  clear Ta1 Tr1 To1 Ua1 M1 Ta2 Tr2 To2 Ua2 M2
  go_upto_region 8 with fail
  clear po25 pf25
  generalize (w2.setCell ⟨w.heap.size + 1 + 1, 5, none⟩ (.slice Y2 u.members.length x2)) = wz at *
  go_wp2_with (first | (refine wpList_load_row rfl 31 _ rfl (w.heap.size + 1 + 1) rfl _ _ _ _ Uz.out Try.underlying31 rfl infoGrp ?_) | (refine wpList_store_mid rfl 31 _ _ rfl (w.heap.size + 1) 0 (arrGrp fx) rfl rfl H5.out infoGrp ON.out ?_))
  exact bodyPost_ret (v := .agg (arrGrp fx)) (results_cell_row rfl _ _ (w.heap.size + 1) _ _ _ _ rfl H4.out Try.underlying31 rfl infoGrp) rfl ⟨_, rfl, ⟨fx, rfl, EX.out⟩, B9.out⟩
set_option maxHeartbeats 1600000 in
theorem eqGroup_any (v v' : Value) (u : Grp) (w : World) (S S' : Nat → Prop) (hv : GrpAt w S v u) (hv' : GrpAt w S' v' u) (hS : ∀ g, S g → g < w.heap.size) (hS' : ∀ g, S' g → g < w.heap.size) :
    Calls Try.prog 12 #[v, v'] w fun e w' => e = .returned (.bool true) ∧ Below w.heap.size w w' := by
  obtain ⟨f, rfl, y0, y1, y2, y3, y4, y5⟩ := hv
  obtain ⟨f', rfl, y0', y1', y2', y3', y4', y5'⟩ := hv'
  try simp only [arrGrp]
  rw [show f 0 = _ from y0]
  clear y0
  rw [show f 1 = _ from y1]
  clear y1
  rw [show f 2 = _ from y2]
  clear y2
  rw [show f 3 = _ from y3]
  clear y3
  obtain ⟨A4, c4, g4⟩ := y4.form
  rw [g4] at y4 ⊢
  have H4 := Seg.hid y4
  clear y4 g4
  obtain ⟨A5, c5, g5⟩ := y5.form
  rw [g5] at y5 ⊢
  have H5 := Seg.hid y5
  clear y5 g5
  try simp only [arrGrp]
  rw [show f' 0 = _ from y0']
  clear y0'
  rw [show f' 1 = _ from y1']
  clear y1'
  rw [show f' 2 = _ from y2']
  clear y2'
  rw [show f' 3 = _ from y3']
  clear y3'
  obtain ⟨A4', c4', g4'⟩ := y4'.form
  rw [g4'] at y4' ⊢
  have H4' := Seg.hid y4'
  clear y4' g4'
  obtain ⟨A5', c5', g5'⟩ := y5'.form
  rw [g5'] at y5' ⊢
  have H5' := Seg.hid y5'
  clear y5' g5'
  go_enter Try.func12, Try.ntmps12
  go_wp2_with fail
  refine (eqTopicS_any _ _ u.topics ((w.alloc _).alloc _) S S' (H4.out.below keepsTpc (below2 w _ _) hS) (H4'.out.below keepsTpc (below2 w _ _) hS') (fun g hg => by rw [hsz, hsz]; have := hS g hg; omega) (fun g hg => by rw [hsz, hsz]; have := hS' g hg; omega)).mono ?_
  rintro e w1 ⟨rfl, b1⟩
  have B1 := Seg.hid (chain (below2 w _ _) b1)
  have Ta1 : Hid (w1.heap[w.heap.size]? = some (.cells #[.int .i64 u.kind, .int .i64 u.timeout, .int .i64 u.now, .int .i64 u.round, .slice A4 u.topics.length c4, .slice A5 u.members.length c5] 31 (0, 0))) := (b1.block w.heap.size (by rw [hsz, hsz]; omega)).trans (at2z w _ _)
  have Tb1 : Hid (w1.heap[w.heap.size + 1]? = some (.cells #[.int .i64 u.kind, .int .i64 u.timeout, .int .i64 u.now, .int .i64 u.round, .slice A4' u.topics.length c4', .slice A5' u.members.length c5'] 31 (0, 0))) := (b1.block (w.heap.size + 1) (by rw [hsz, hsz]; omega)).trans (at2y w _ _)
  have s1 : w.heap.size + 1 < w1.heap.size := (Array.getElem?_eq_some_iff.1 Tb1.out).1
  have pa15 : w1.cell? ⟨w.heap.size, 5, none⟩ = some (.slice A5 u.members.length c5) := cell_of_row w1 _ 5 _ _ (0, 0) Ta1.out
  have pb15 : w1.cell? ⟨w.heap.size + 1, 5, none⟩ = some (.slice A5' u.members.length c5') := cell_of_row w1 _ 5 _ _ (0, 0) Tb1.out
  clear b1
  go_wp2_with fail
  refine (eqMemberS_any _ _ u.members w1 S S' (H5.out.below keepsMbr B1.out hS) (H5'.out.below keepsMbr B1.out hS') (fun g hg => Nat.lt_of_lt_of_le (hS g hg) B1.out.size) (fun g hg => Nat.lt_of_lt_of_le (hS' g hg) B1.out.size)).mono ?_
  rintro e w2 ⟨rfl, b2⟩
  have B2 := Seg.hid (chain B1.out b2)
  clear b2
  go_wp2
  go_ret
  exact ⟨rfl, B2.out⟩
end Go.Proofs.Ytfdfhhiaalbfiaa.Ls
