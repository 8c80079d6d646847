/- Log: how it lies in memory; what the law's measure and copier answer; A Log by sets of blocks, as the elder texts tell it by windows; Lists of numbers: what the law's helpers answer. -/
import Derived.Test.YticihnoekffelaaJS22
import Derived.Test.YticihnoekffelaaJS05
import Derived.Test.YticihnoekffelaaJS20
namespace Go.Proofs.Yticihnoekffelaa.Ls
set_option maxRecDepth 8000
open Go.RowKit
open Recs
open SegW (Sg)
open LogW (Lg)
set_option linter.unusedVariables false
def ELg : Elt Lg := fun w S f u => f 0 = .int .i64 u.start ∧ f 1 = .int .i64 u.next ∧ f 2 = .int .i64 u.roll ∧ LAt 2 ESg w S (f 3) u.segs
theorem keepsLg : Keeps 4 ELg := fun w w' S f f' t h hk hf => by
  obtain ⟨h0, h1, h2, h3⟩ := h
  exact ⟨by rw [hf 0 (by omega)]; exact h0, by rw [hf 1 (by omega)]; exact h1, by rw [hf 2 (by omega)]; exact h2, by rw [hf 3 (by omega)]; exact h3.keep keepsSg hk⟩
theorem growsLg : Grows ELg := fun w S S' f t h hs => by
  obtain ⟨h0, h1, h2, h3⟩ := h
  exact ⟨h0, h1, h2, h3.mono growsSg hs⟩
def arrLg (f : Nat → Value) : Array Value := #[f 0, f 1, f 2, f 3]
theorem oneLg {w : World} {S : Nat → Prop} {f : Nat → Value} {u : Lg} (h : ELg w S f u) : (arrLg f).all (·.oneCell') = true := by
  obtain ⟨h0, h1, h2, h3⟩ := h
  have o0 : (f 0).oneCell' = true := by rw [h0]; rfl
  have o1 : (f 1).oneCell' = true := by rw [h1]; rfl
  have o2 : (f 2).oneCell' = true := by rw [h2]; rfl
  have o3 : (f 3).oneCell' = true := h3.one
  simp [arrLg, o0, o1, o2, o3]
def LgAt (w : World) (S : Nat → Prop) (v : Value) (u : Lg) : Prop := ∃ f, v = .agg (arrLg f) ∧ ELg w S f u
abbrev LgsAt := LAt 4 ELg
theorem LgAt.keep {w w' : World} {S : Nat → Prop} {v : Value} {u : Lg} (h : LgAt w S v u) (hk : ∀ g, S g → w'.heap[g]? = w.heap[g]?) : LgAt w' S v u := by
  obtain ⟨f, h1, h2⟩ := h
  exact ⟨f, h1, keepsLg _ _ _ _ _ _ h2 hk (fun _ _ => rfl)⟩
theorem LgAt.mono {w : World} {S S' : Nat → Prop} {v : Value} {u : Lg} (h : LgAt w S v u) (hs : ∀ g, S g → S' g) : LgAt w S' v u := by
  obtain ⟨f, h1, h2⟩ := h
  exact ⟨f, h1, growsLg _ _ _ _ _ h2 hs⟩
theorem LgAt.below {w w' : World} {B : Nat} {S : Nat → Prop} {v : Value} {u : Lg} (h : LgAt w S v u) (hb : Below B w w') (hs : ∀ g, S g → g < B) : LgAt w' S v u := h.keep fun g hg => hb.block g (hs g hg)
def szLg (u : Lg) : Nat := szL szSg (u.segs)
def FineLg (u : Lg) : Prop := I64 u.start ∧ I64 u.next ∧ I64 u.roll ∧ FineL FineSg u.segs
theorem infoLg : (Try.prog.info? 28).map (·.size) = some 4 := by kernel_rfl
theorem infoLLg : (Try.prog.info? 24).map (·.size) = some 4 := by kernel_rfl
theorem infoZLg : (Try.prog.info? 28).map (fun i => (i.zero, i.size, i.bytes)) = some (some (.agg #[.int .i64 0, .int .i64 0, .int .i64 0, .slice none 0 0]), 4, 48) := by kernel_rfl
set_option maxHeartbeats 800000 in
theorem szLog_any (v : Value) (u : Lg) (l : Int) (w : World) (S : Nat → Prop) (h3 : -1 ≤ l) (h4 : l ≤ 1048576) (hv : LgAt w S v u) (hS : ∀ g, S g → g < w.heap.size) (hf : FineLg u) :
    Calls Try.prog 5 #[v, .int .i64 l] w fun e w' => ∃ q, e = .returned (.int .i64 q) ∧ -1 ≤ q ∧ q ≤ l ∧ Lf l (szLg u) q ∧ Below w.heap.size w w' := by
  obtain ⟨f, rfl, y0, y1, y2, y3⟩ := hv
  try simp only [arrLg]
  rw [show f 0 = _ from y0]
  clear y0
  rw [show f 1 = _ from y1]
  clear y1
  rw [show f 2 = _ from y2]
  clear y2
  obtain ⟨A3, c3, g3⟩ := y3.form
  rw [g3] at y3 ⊢
  have H3 := Seg.hid y3
  clear y3 g3
  obtain ⟨z0, z1, z2, z3⟩ := hf
  have Z3 := Seg.hid z3
  clear z0 z1 z2 z3
  go_enter Try.func5, Try.ntmps5
  go_wp2_with fail
  refine (szSegmentS_any _ u.segs _ (w.alloc _) S (by omega) (by omega) (H3.out.below keepsSg (below1 w _) hS) (fun g hg => by rw [hsz]; have := hS g hg; omega) Z3.out).mono ?_
  rintro e w1 ⟨q1, rfl, a1, b1, L1', d1⟩
  have B1 := Seg.hid (chain (below1 w _) d1)
  have L1 := Seg.hid L1'
  clear d1 L1'
  by_cases k3 : q1 < 0
  · go_wp2
    go_ret
    exact ⟨_, rfl, by omega, by omega, by have m0 := L1.out.2 (by omega); simp only [szLg]; exact ⟨fun _ => by omega, fun _ => by omega⟩, B1.out⟩
  go_wp2
  go_ret
  exact ⟨_, rfl, by omega, by omega, by have m0 := L1.out.1 (by omega); simp only [szLg]; exact ⟨fun _ => by omega, fun _ => by omega⟩, B1.out⟩
set_option maxHeartbeats 1600000 in
theorem toLog_any (v : Value) (u : Lg) (w : World) (S : Nat → Prop) (hv : LgAt w S v u) (hS : ∀ g, S g → g < w.heap.size) (hf : szLg u ≤ 1048576) :
    Calls Try.prog 7 #[v] w fun e w' => ∃ v', e = .returned v' ∧ LgAt w' (seg w.heap.size w'.heap.size) v' u ∧ Below w.heap.size w w' := by
  obtain ⟨f, rfl, y0, y1, y2, y3⟩ := hv
  try simp only [arrLg]
  rw [show f 0 = _ from y0]
  clear y0
  rw [show f 1 = _ from y1]
  clear y1
  rw [show f 2 = _ from y2]
  clear y2
  obtain ⟨A3, c3, g3⟩ := y3.form
  rw [g3] at y3 ⊢
  have H3 := Seg.hid y3
  clear y3 g3
  unfold szLg at hf
  go_enter Try.func7, Try.ntmps7
  go_wp2_with fail
  refine (toSegmentS_any _ u.segs (((w.alloc _).alloc _).alloc _) S (H3.out.below keepsSg (below3 w _ _ _) hS) (fun g hg => by rw [hsz, hsz, hsz]; have := hS g hg; omega) (by omega)).mono ?_
  rintro e w1 ⟨v1, rfl, l1, b1⟩
  have B1 := Seg.hid (chain (below3 w _ _ _) b1)
  have Ta1 : Hid (w1.heap[w.heap.size]? = some (.cells #[.int .i64 u.start, .int .i64 u.next, .int .i64 u.roll, .slice A3 u.segs.length c3] 24 (0, 0))) := (b1.block w.heap.size (by rw [hsz, hsz, hsz]; omega)).trans (at3z w _ _ _)
  have Tr1 : Hid (w1.heap[w.heap.size + 1]? = some (.cells #[.int .i64 0, .int .i64 0, .int .i64 0, .slice none 0 0] 28 (0, 0))) := (b1.block (w.heap.size + 1) (by rw [hsz, hsz, hsz]; omega)).trans (at3 w _ _ _)
  have To1 : Hid (w1.heap[w.heap.size + 1 + 1]? = some (.cells #[.int .i64 u.start, .int .i64 u.next, .int .i64 u.roll, .slice none 0 0] 28 (0, 0))) := (b1.block (w.heap.size + 1 + 1) (by rw [hsz, hsz, hsz]; omega)).trans (Cells.at3' w _ _ _)
  have s1 : w.heap.size + 3 ≤ w1.heap.size := by have := b1.size; rw [hsz, hsz, hsz] at this; omega
  have M1 : Hid (LAt 2 ESg w1 (seg (w.heap.size + 3) w1.heap.size) v1 u.segs) := by
    rw [hsz, hsz, hsz] at l1
    exact l1
  obtain ⟨Y1, x1, r1⟩ := M1.out.form
  subst r1
  clear b1 l1
  have N11 := M1
  have po13 : (w1).cell? ⟨w.heap.size + 1 + 1, 3, none⟩ = some (.slice none 0 0) := cell_of_row (w1) _ 3 _ _ (0, 0) (To1.out)
  have pf13 : (w1).frozen? ⟨w.heap.size + 1 + 1, 3, none⟩ = false := frozen_of_row (w1) _ 3 _ _ (To1.out)
  have qo13 : Hid (((w1.setCell ⟨w.heap.size + 1 + 1, 3, none⟩ (.slice Y1 u.segs.length x1))).heap[w.heap.size + 1 + 1]? = some (.cells #[.int .i64 u.start, .int .i64 u.next, .int .i64 u.roll, .slice Y1 u.segs.length x1] 28 (0, 0))) := heap_setCell_same (w1) (w.heap.size + 1 + 1) 3 _ _ (.slice Y1 u.segs.length x1) (To1.out)
  have Uo1 := Seg.hid (qo13.out)
  have Ur1 := Seg.hid ((heap_setCell_other (w1) ⟨w.heap.size + 1 + 1, 3, none⟩ (w.heap.size + 1) (.slice Y1 u.segs.length x1) (by simp)).trans (Tr1.out))
  have Ua1 := Seg.hid ((heap_setCell_other (w1) ⟨w.heap.size + 1 + 1, 3, none⟩ w.heap.size (.slice Y1 u.segs.length x1) (by simp; omega)).trans (Ta1.out))
  have D1 : Hid (Below w.heap.size w (w1.setCell ⟨w.heap.size + 1 + 1, 3, none⟩ (.slice Y1 u.segs.length x1))) := (B1.out).setCell (p := ⟨w.heap.size + 1 + 1, 3, none⟩) (by simp; omega) (.slice Y1 u.segs.length x1)
  have N11' : Hid (LAt 2 ESg (w1.setCell ⟨w.heap.size + 1 + 1, 3, none⟩ (.slice Y1 u.segs.length x1)) (seg (w.heap.size + 3) w1.heap.size) (.slice Y1 u.segs.length x1) u.segs) := N11.out.keep keepsSg (fun g hg => by have := hg.1; rw [heap_setCell_other _ _ _ _ (by show _ ≠ w.heap.size + 1 + 1; omega)])
  obtain ⟨fx, hfx⟩ : ∃ fx : Nat → Value, fx = (fun q => if q = 0 then .int .i64 u.start else if q = 1 then .int .i64 u.next else if q = 2 then .int .i64 u.roll else .slice Y1 u.segs.length x1) := ⟨_, rfl⟩
  have HX := Seg.hid hfx
  have Uz : Hid ((w1.setCell ⟨w.heap.size + 1 + 1, 3, none⟩ (.slice Y1 u.segs.length x1)).heap[w.heap.size + 1 + 1]? = some (.cells (arrLg fx) 28 (0, 0))) := by
    show _ = _
    rw [hfx]
    exact Uo1.out
  clear hfx
  have H5a := Cells.there_of Ur1.out
  have H5 : Hid ((w1.setCell ⟨w.heap.size + 1 + 1, 3, none⟩ (.slice Y1 u.segs.length x1)).there (w.heap.size + 1) 0 (arrLg fx).size) := H5a
  clear H5a
  have H4 := Seg.hid (Cells.whole (vs := arrLg fx) Ur1.out rfl)
  have B9 := Seg.hid (Cells.below_setCells (g := w.heap.size + 1) (by omega) (arrLg fx).toList 0 _ _ D1.out)
  have F1 : Hid (LAt 2 ESg ((w1.setCell ⟨w.heap.size + 1 + 1, 3, none⟩ (.slice Y1 u.segs.length x1)).setCells (w.heap.size + 1) 0 (arrLg fx).toList) (seg w.heap.size ((w1.setCell ⟨w.heap.size + 1 + 1, 3, none⟩ (.slice Y1 u.segs.length x1)).setCells (w.heap.size + 1) 0 (arrLg fx).toList).heap.size) (fx 3) u.segs) := by
    show LAt 2 ESg _ _ _ _
    rw [show fx 3 = .slice Y1 u.segs.length x1 by rw [HX.out]; rfl]
    refine (N11'.out.keep keepsSg (fun g hg => ?_)).mono growsSg (fun g hg => ⟨by have := hg.1; omega, ?_⟩)
    · have := hg.1
      rw [Cells.heap_setCells_other _ _ (by omega)]
    · rw [Cells.size_setCells]
      have := hg.2
      simpa using this
  have EX : Hid (ELg ((w1.setCell ⟨w.heap.size + 1 + 1, 3, none⟩ (.slice Y1 u.segs.length x1)).setCells (w.heap.size + 1) 0 (arrLg fx).toList) (seg w.heap.size ((w1.setCell ⟨w.heap.size + 1 + 1, 3, none⟩ (.slice Y1 u.segs.length x1)).setCells (w.heap.size + 1) 0 (arrLg fx).toList).heap.size) fx u) := ⟨by rw [HX.out]; rfl, by rw [HX.out]; rfl, by rw [HX.out]; rfl, F1.out⟩
  have ON := Seg.hid (oneLg EX.out)
  clear Ta1 Tr1 To1 Ua1 M1
  go_upto_region 6 with fail
  clear po13 pf13
  generalize (w1.setCell ⟨w.heap.size + 1 + 1, 3, none⟩ (.slice Y1 u.segs.length x1)) = wz at *
  go_wp2_with (first | (refine wpList_load_row rfl 28 _ rfl (w.heap.size + 1 + 1) rfl _ _ _ _ Uz.out Try.underlying28 rfl infoLg ?_) | (refine wpList_store_mid rfl 28 _ _ rfl (w.heap.size + 1) 0 (arrLg fx) rfl rfl H5.out infoLg ON.out ?_))
  exact bodyPost_ret (v := .agg (arrLg fx)) (results_cell_row rfl _ _ (w.heap.size + 1) _ _ _ _ rfl H4.out Try.underlying28 rfl infoLg) rfl ⟨_, rfl, ⟨fx, rfl, EX.out⟩, B9.out⟩
set_option maxHeartbeats 1600000 in
theorem eqLog_any (v v' : Value) (u : Lg) (w : World) (S S' : Nat → Prop) (hv : LgAt w S v u) (hv' : LgAt w S' v' u) (hS : ∀ g, S g → g < w.heap.size) (hS' : ∀ g, S' g → g < w.heap.size) :
    Calls Try.prog 9 #[v, v'] w fun e w' => e = .returned (.bool true) ∧ Below w.heap.size w w' := by
  obtain ⟨f, rfl, y0, y1, y2, y3⟩ := hv
  obtain ⟨f', rfl, y0', y1', y2', y3'⟩ := hv'
  try simp only [arrLg]
  rw [show f 0 = _ from y0]
  clear y0
  rw [show f 1 = _ from y1]
  clear y1
  rw [show f 2 = _ from y2]
  clear y2
  obtain ⟨A3, c3, g3⟩ := y3.form
  rw [g3] at y3 ⊢
  have H3 := Seg.hid y3
  clear y3 g3
  try simp only [arrLg]
  rw [show f' 0 = _ from y0']
  clear y0'
  rw [show f' 1 = _ from y1']
  clear y1'
  rw [show f' 2 = _ from y2']
  clear y2'
  obtain ⟨A3', c3', g3'⟩ := y3'.form
  rw [g3'] at y3' ⊢
  have H3' := Seg.hid y3'
  clear y3' g3'
  go_enter Try.func9, Try.ntmps9
  go_wp2_with fail
  refine (eqSegmentS_any _ _ u.segs ((w.alloc _).alloc _) S S' (H3.out.below keepsSg (below2 w _ _) hS) (H3'.out.below keepsSg (below2 w _ _) hS') (fun g hg => by rw [hsz, hsz]; have := hS g hg; omega) (fun g hg => by rw [hsz, hsz]; have := hS' g hg; omega)).mono ?_
  rintro e w1 ⟨rfl, b1⟩
  have B1 := Seg.hid (chain (below2 w _ _) b1)
  clear b1
  go_wp2
  go_ret
  exact ⟨rfl, B1.out⟩
end Go.Proofs.Yticihnoekffelaa.Ls
namespace Go.Proofs.Yticihnoekffelaa.OldL
set_option maxRecDepth 8000
open Go.RowKit
open Recs
open Ls
open Bats SegW Segs LogW
set_option linter.unusedVariables false
section
variable {w : World} {lo b : Nat}
theorem row_of {T : Type} [Inhabited T] {nf : Nat} {E : Elt T} {v : Value} {us : List T} (h : LAt nf E w (seg lo b) v us) : ∃ F : Nat → Nat → Value, Row w lo b nf v us.length F ∧ ∀ i, i < us.length → E w (seg lo b) (F i) (us.getD i default) := by
  obtain ⟨hn, A, c, rfl, h2⟩ := h
  by_cases hz : us.length = 0
  · exact ⟨fun _ _ => default, ⟨hn, A, c, rfl, .inl hz⟩, fun i hi => absurd hi (by omega)⟩
  obtain ⟨g, o, F, rfl, hg, hc, hcell, hel⟩ := h2.resolve_left hz
  exact ⟨F, ⟨hn, _, c, rfl, .inr ⟨g, o, rfl, hg.2, hc, hcell, hg.1⟩⟩, hel⟩
theorem row_eqf {s n : Nat} {v : Value} {f f' : Nat → Nat → Value} (h : Row w lo b s v n f) (he : ∀ i, i < n → ∀ j, j < s → f i j = f' i j) : Row w lo b s v n f' := by
  obtain ⟨h0, A, c, h1, h2⟩ := h
  refine ⟨h0, A, c, h1, h2.imp id ?_⟩
  rintro ⟨g, o, h3, h4, h5, h6, h7⟩
  exact ⟨g, o, h3, h4, h5, fun i hi j hj => by rw [h6 i hi j hj, he i hi j hj], h7⟩
theorem heads {v : Value} {hs : List Hd} (h : LAt 2 EHd w (seg lo b) v hs) : Heads w lo b v hs := by
  obtain ⟨F, hr, he⟩ := row_of h
  exact row_eqf hr fun i hi j hj => by
    obtain ⟨e0, e1⟩ := he i hi
    match j, hj with
    | 0, _ => exact e0
    | 1, _ => exact e1
theorem recs {v : Value} {rs : List Rec} (h : LAt 6 ERec w (seg lo b) v rs) : RecsAt w lo b v rs := by
  obtain ⟨F, hr, he⟩ := row_of h
  refine ⟨fun i => F i 5, row_eqf hr fun i hi j hj => ?_, fun i hi => heads (he i hi).2.2.2.2.2⟩
  obtain ⟨e0, e1, e2, e3, e4, _⟩ := he i hi
  match j, hj with
  | 0, _ => exact e0
  | 1, _ => exact e1
  | 2, _ => exact e2
  | 3, _ => exact e3
  | 4, _ => exact e4
  | 5, _ => rfl
theorem bats {v : Value} {ts : List Bat} (h : LAt 7 EBat w (seg lo b) v ts) : BatsAt w lo b v ts := by
  obtain ⟨F, hr, he⟩ := row_of h
  refine ⟨fun i => F i 6, row_eqf hr fun i hi j hj => ?_, fun i hi => recs (he i hi).2.2.2.2.2.2⟩
  obtain ⟨e0, e1, e2, e3, e4, e5, _⟩ := he i hi
  match j, hj with
  | 0, _ => exact e0
  | 1, _ => exact e1
  | 2, _ => exact e2
  | 3, _ => exact e3
  | 4, _ => exact e4
  | 5, _ => exact e5
  | 6, _ => rfl
theorem segs {v : Value} {ts : List Sg} (h : LAt 2 ESg w (seg lo b) v ts) : SegsAt w lo b v ts := by
  obtain ⟨F, hr, he⟩ := row_of h
  refine ⟨fun i => F i 1, row_eqf hr fun i hi j hj => ?_, fun i hi => bats (he i hi).2⟩
  obtain ⟨e0, _⟩ := he i hi
  match j, hj with
  | 0, _ => exact e0
  | 1, _ => rfl
end
theorem few_rec {r : Rec} (h : szRec r ≤ 1048576) : FewR r := szL_len (l := 1048576) szHd (by unfold szRec at h; omega)
theorem few_bat {t : Bat} (h : szBat t ≤ 1048576) : FewB t := ⟨szL_len (l := 1048576) szRec h, fun i hi => few_rec (szL_one (l := 1048576) szRec h hi)⟩
theorem few_seg {t : Sg} (h : szSg t ≤ 1048576) : FewS t := ⟨szL_len (l := 1048576) szBat h, fun i hi => few_bat (szL_one (l := 1048576) szBat h hi)⟩
theorem tot_segs (ts : List Sg) : ∀ n, n ≤ ts.length → Segs.tot ts n ≤ Ls.tot szSg (ts.take n)
  | 0, _ => Nat.zero_le _
  | n + 1, h => by
    rw [Ls.tot_take szSg (by omega)]
    have := tot_segs ts n (by omega)
    have hb : (ts.getD n default).bats.length ≤ szSg (ts.getD n default) := szL_len szBat (Nat.le_refl _)
    show Segs.tot ts n + (ts.getD n default).bats.length ≤ _
    omega
theorem few_log {t : Lg} (h : szLg t ≤ 1048576) : FewL t := by
  refine ⟨⟨szL_len (l := 1048576) szSg h, fun i hi => few_seg (szL_one (l := 1048576) szSg h hi)⟩, ?_⟩
  have := tot_segs t.segs t.segs.length (Nat.le_refl _)
  rw [List.take_length] at this
  unfold szLg szL at h
  omega
end Go.Proofs.Yticihnoekffelaa.OldL
namespace Go.Proofs.Yticihnoekffelaa.Ls
set_option maxRecDepth 8000
open Go.RowKit
open Recs
set_option linter.unusedVariables false
theorem szIntS_any (v : Value) (ns : List Int) (l : Int) (w : World) (S : Nat → Prop) (h3 : -1 ≤ l) (h4 : l ≤ 1048576) (hv : IntsAt w S v ns) :
    Calls Try.prog 35 #[v, .int .i64 l] w fun e w' => ∃ q, e = .returned (.int .i64 q) ∧ -1 ≤ q ∧ q ≤ l ∧ Lf l ns.length q ∧ Below w.heap.size w w' := by
  obtain ⟨hn, A, c, rfl, _⟩ := hv
  go_enter Try.func35, Try.ntmps35
  by_cases hlt : l - (ns.length : Int) < 0
  · go_wp2
    go_ret
    exact ⟨_, rfl, by omega, by omega, ⟨fun _ => by omega, fun _ => by omega⟩, Below.refl _ _⟩
  · go_wp2
    go_ret
    exact ⟨_, rfl, by omega, by omega, ⟨fun _ => by omega, fun _ => by omega⟩, Below.refl _ _⟩
theorem infoI : (Try.prog.info? 3).map (fun i => (i.zero, i.size, i.bytes)) = some (some (.int .i64 0), 1, 8) := by kernel_rfl
set_option maxHeartbeats 400000 in
theorem toIntS_core (g o n c : Nat) (ns : List Int) (w : World) (hn : n ≤ 1048576) (hc : n ≤ c) (hg : g < w.heap.size) (hnl : ns.length = n)
    (ha : ∀ i, i < n → w.cell? ⟨g, o + i, none⟩ = some (.int .i64 (ns.getD i default))) :
    Calls Try.prog 40 #[.slice (some ⟨g, o, none⟩) n c] w fun e w' => ∃ v, e = .returned v ∧ IntsAt w' (seg w.heap.size w'.heap.size) v ns ∧ Below w.heap.size w w' := by
  obtain ⟨i0, hi, hz0, hz1, hz2⟩ := info_parts infoI
  have HA := Seg.hid ha
  have HN := Seg.hid hnl
  clear ha hnl
  go_enter Try.func40, Try.ntmps40
  go_wp2_with (at_make; refine wpList_make_full _ rfl _ _ 36 rfl w.heap.size 3 i0 _ 1 Try.underlying36 hi hz0 hz1 .i64 .i64 _ _ n rfl rfl rfl rfl (by rw [hz2]; omega) (by unfold maxLen; omega) (Nat.le_refl _) ?_; intro w1 hown hgr)
  have hb1 := (Below.refl w.heap.size w).grown hgr (Nat.le_refl _) (fun k hk => by cases hk)
  have HM := Seg.hid (Mine.of_made hown hown.1)
  have HB := Seg.hid hb1
  clear hown hgr hb1 hi hz0 hz1 hz2
  go_loopw [4] (fun i wr => ∃ (j : Nat) (F : Nat → Value), j ≤ n ∧ i = .int .i64 j ∧ Hid (Mine wr 3 1 w.heap.size n F ∧ Below w.heap.size w wr ∧ ∀ i, i < j → F i = .int .i64 (ns.getD i default))) (fun i _ => n - (intOf i).toNat)
  case atStart => exact ⟨0, _, Nat.zero_le _, rfl, HM.out, HB.out, fun i hi => absurd hi (by omega)⟩
  case round =>
    clear HM HB
    obtain ⟨j, F, hj, rfl, HR⟩ := hrel
    by_cases hlt : j < n
    · have c1 : wr.cell? ⟨g, o + j, none⟩ = some (.int .i64 (ns.getD j default)) := by rw [HR.out.2.1.cell (p := ⟨g, o + j, none⟩) hg]; exact HA.out j hlt
      have h0 : (0 : Int) ≤ (j : Int) := by omega
      have h1 : (j : Int) < (n : Int) := by omega
      have d1 := HR.out.1.cell j (by omega)
      have f1 := HR.out.1.frozen j
      have M2 := Seg.hid (HR.out.1.set j (.int .i64 (ns.getD j default)))
      have B2 := Seg.hid (HR.out.2.1.setCell (p := ⟨w.heap.size, j, none⟩) (Nat.le_refl _) (.int .i64 (ns.getD j default)))
      have R2 : Hid (∀ i, i < j + 1 → (fun i => if i = j then (.int .i64 (ns.getD j default)) else F i) i = Value.int .i64 (ns.getD i default)) := fun i hi => by
        by_cases he : i = j
        · subst he; simp
        · simp [he]; simpa using HR.out.2.2 i (by omega)
      generalize ns.getD j default = nj at *
      go_wp2
      go_roundw
      case rel => exact ⟨j + 1, _, by omega, by go_num, M2.out, B2.out, R2.out⟩
      case measure => simp [intOf]; omega
    · have : j = n := by omega
      subst this
      go_wp2
      go_ret
      refine ⟨.slice (some ⟨w.heap.size, 0, none⟩) j j, rfl, ⟨by rw [HN.out]; omega, _, _, by rw [HN.out], .inr ⟨w.heap.size, 0, fun i q => F (i * 1 + q), rfl, ⟨Nat.le_refl _, HR.out.1.lt⟩, by rw [HN.out]; exact Nat.le_refl _, fun i hi q hq => ?_, fun i hi => ?_⟩⟩, HR.out.2.1⟩
      · rw [HN.out] at hi
        rw [Nat.zero_add]
        exact HR.out.1.cell _ (by omega)
      · rw [HN.out] at hi
        show F (i * 1 + 0) = _
        rw [Nat.mul_one, Nat.add_zero]
        exact HR.out.2.2 i hi
set_option maxHeartbeats 400000 in
theorem toIntS_none (A : Option Addr) (c : Nat) (w : World) :
    Calls Try.prog 40 #[.slice A 0 c] w fun e w' => ∃ v, e = .returned v ∧ (∃ A c, v = .slice A 0 c) ∧ Below w.heap.size w w' := by
  obtain ⟨i0, hi, hz0, hz1, hz2⟩ := info_parts infoI
  go_enter Try.func40, Try.ntmps40
  go_wp2_with (at_make; refine wpList_make_full _ rfl _ _ 36 rfl w.heap.size 3 i0 _ 1 Try.underlying36 hi hz0 hz1 .i64 .i64 _ _ 0 rfl rfl rfl rfl (by omega) (by unfold maxLen; omega) (Nat.le_refl _) ?_; intro w1 hown hgr)
  have hb1 := (Below.refl w.heap.size w).grown hgr (Nat.le_refl _) (fun k hk => by cases hk)
  have HB := Seg.hid hb1
  clear hown hgr hb1 hi hz0 hz1 hz2
  go_loop [4] (fun i => i = .int .i64 0) (fun i => 0)
  case atStart => rfl
  case round =>
    subst hrel
    go_wp2
    go_ret
    exact ⟨_, rfl, ⟨_, _, rfl⟩, HB.out⟩
theorem toIntS_any (v : Value) (ns : List Int) (w : World) (S : Nat → Prop) (hv : IntsAt w S v ns) (hS : ∀ g, S g → g < w.heap.size) (hl : ns.length ≤ 1048576) :
    Calls Try.prog 40 #[v] w fun e w' => ∃ v', e = .returned v' ∧ IntsAt w' (seg w.heap.size w'.heap.size) v' ns ∧ Below w.heap.size w w' := by
  obtain ⟨hn, A, c, rfl, h⟩ := hv
  by_cases hz : ns.length = 0
  · obtain rfl := List.length_eq_zero_iff.1 hz
    refine (toIntS_none A c w).mono fun e w' ⟨v', a1, ⟨A', c', a2⟩, a3⟩ => ⟨v', a1, ?_, a3⟩
    rw [a2]
    exact LAt.nil _ _ _ _
  obtain ⟨g, o, F, rfl, hg, hc, hcell, hel⟩ := h.resolve_left hz
  exact toIntS_core g o ns.length c ns w hl hc (hS g hg) rfl (int_cell hcell hel)
theorem eqIntS_none (A A' : Option Addr) (c c' : Nat) (w : World) :
    Calls Try.prog 45 #[.slice A 0 c, .slice A' 0 c'] w fun e w' => e = .returned (.bool true) ∧ Below w.heap.size w w' := by
  go_enter Try.func45, Try.ntmps45
  go_wp2
  go_loop [5] (fun i => i = .int .i64 0) (fun _ => 0)
  case atStart => rfl
  case round =>
    subst hrel
    go_wp2
    go_ret
    exact ⟨rfl, Below.refl _ _⟩
set_option maxHeartbeats 400000 in
theorem eqIntS_core (g o g' o' n c c' : Nat) (ns : List Int) (w : World) (hn : n ≤ 9223372036854775807) (hc : n ≤ c) (hc' : n ≤ c') (hg : g < w.heap.size) (hg' : g' < w.heap.size)
    (ha : ∀ i, i < n → w.cell? ⟨g, o + i, none⟩ = some (.int .i64 (ns.getD i default))) (ha' : ∀ i, i < n → w.cell? ⟨g', o' + i, none⟩ = some (.int .i64 (ns.getD i default))) :
    Calls Try.prog 45 #[.slice (some ⟨g, o, none⟩) n c, .slice (some ⟨g', o', none⟩) n c'] w fun e w' => e = .returned (.bool true) ∧ Below w.heap.size w w' := by
  have HA := Seg.hid ha; have HA' := Seg.hid ha'
  clear ha ha'
  go_enter Try.func45, Try.ntmps45
  go_wp2
  go_loopw [5] (fun i wr => ∃ k d : Nat, k ≤ n ∧ i = .int .i64 k ∧ wr = w.drewN d) (fun i _ => n - (intOf i).toNat)
  case atStart => exact ⟨0, 0, Nat.zero_le _, rfl, rfl⟩
  case round =>
    obtain ⟨k, d, hk, rfl, rfl⟩ := hrel
    by_cases hlt2 : k < n
    · have c1 := HA.out k hlt2
      have c2 := HA'.out k hlt2
      have h0 : (0 : Int) ≤ (k : Int) := by omega
      have h1 : (k : Int) < (n : Int) := by omega
      generalize ns.getD k default = nk at *
      have hne : (nk != nk) = false := by simp
      go_wp2
      go_region
      go_wp2
      go_roundw
      case rel => exact ⟨k + 1, d + 1, by omega, by go_num, rfl⟩
      case measure => simp [intOf]; omega
    · have : k = n := by omega
      subst this
      go_wp2
      go_ret
      exact ⟨rfl, ⟨rfl, rfl, rfl, Nat.le_refl _, fun _ _ => rfl⟩⟩
theorem eqIntS_any (v v' : Value) (ns : List Int) (w : World) (S S' : Nat → Prop) (hv : IntsAt w S v ns) (hv' : IntsAt w S' v' ns) (hS : ∀ g, S g → g < w.heap.size) (hS' : ∀ g, S' g → g < w.heap.size) :
    Calls Try.prog 45 #[v, v'] w fun e w' => e = .returned (.bool true) ∧ Below w.heap.size w w' := by
  obtain ⟨hn, A, c, rfl, h⟩ := hv
  obtain ⟨_, A', c', rfl, h'⟩ := hv'
  by_cases hz : ns.length = 0
  · rw [hz]
    exact eqIntS_none A A' c c' w
  obtain ⟨g, o, F, rfl, hg, hc, hcell, hel⟩ := h.resolve_left hz
  obtain ⟨g', o', F', rfl, hg', hc', hcell', hel'⟩ := h'.resolve_left hz
  exact eqIntS_core g o g' o' ns.length c c' ns w hn hc hc' (hS g hg) (hS' g' hg') (int_cell hcell hel) (int_cell hcell' hel')
end Go.Proofs.Yticihnoekffelaa.Ls
