/- One Segment: how it lies in memory, and what the law's helpers answer; Segment: how it lies in memory; what the law's measure and copier answer. -/
import Derived.Test.YtimnihaieifkcaaJP09
import Derived.Test.YtimnihaieifkcaaJP06
namespace Go.Proofs.Ytimnihaieifkcaa.SegW
set_option maxRecDepth 8000
open Go.RowKit
open Recs
open Bats
set_option linter.unusedVariables false
structure Sg where
  base : Int
  bats : List Bat
  deriving Inhabited
def FineS (t : Sg) : Prop := (t.bats.length ≤ maxLen ∧ ∀ i, i < t.bats.length → FineB (t.bats.getD i default)) ∧ (-9223372036854775808 ≤ t.base ∧ t.base ≤ 9223372036854775807)
def FewS (t : Sg) : Prop := t.bats.length ≤ 1048576 ∧ ∀ i, i < t.bats.length → FewB (t.bats.getD i default)
def segArr (t : Sg) (hv : Value) : Array Value := #[.int .i64 t.base, hv]
def segVal (t : Sg) (hv : Value) : Value := .agg #[.int .i64 t.base, hv]
def SegAt (w : World) (lo b : Nat) (v : Value) (t : Sg) : Prop := ∃ hv, v = segVal t hv ∧ BatsAt w lo b hv t.bats
section
variable {w w' : World} {lo lo' b b' : Nat} {v : Value} {t : Sg}
theorem SegAt.keep (h : SegAt w lo b v t) (hk : ∀ g, lo ≤ g → g < b → w'.heap[g]? = w.heap[g]?) : SegAt w' lo b v t := by
  obtain ⟨hv, h1, h2⟩ := h
  exact ⟨hv, h1, h2.keep hk⟩
theorem SegAt.below (h : SegAt w lo b v t) (hb : Below b w w') : SegAt w' lo b v t := h.keep fun g _ hg => hb.block g hg
theorem SegAt.mono (h : SegAt w lo b v t) (hl : lo' ≤ lo) (hb : b ≤ b') : SegAt w lo' b' v t := by
  obtain ⟨hv, h1, h2⟩ := h
  exact ⟨hv, h1, h2.mono hl hb⟩
end
theorem segArr_one (t : Sg) (hv : Value) (h : hv.oneCell' = true) : (segArr t hv).all (·.oneCell') = true := by
  simp [segArr, Value.oneCell'] at h ⊢
  exact h
theorem infoN : (Try.prog.info? 61).map (·.size) = some 2 := by kernel_rfl

set_option maxHeartbeats 400000 in
theorem szSegment_any (v : Value) (t : Sg) (l : Int) (w : World) (lo b : Nat) (h3 : -1 ≤ l) (h4 : l ≤ 1048576) (hv : SegAt w lo b v t) (hb : b ≤ w.heap.size) (hf : FineS t) :
    Calls Try.prog 73 #[v, .int .i64 l] w fun e w' => ∃ q, e = .returned (.int .i64 q) ∧ -1 ≤ q ∧ q ≤ l ∧ (0 ≤ q → FewS t ∧ (t.bats.length : Int) + q ≤ l) ∧ Below w.heap.size w w' := by
  obtain ⟨hv, rfl, hh⟩ := hv
  obtain ⟨⟨f1, f2⟩, _⟩ := hf
  have F2 := Seg.hid f2
  have HH := Seg.hid hh
  unfold maxLen at f1
  obtain ⟨H, ⟨hn, A, c, hve, _⟩, _⟩ := id hh
  clear hh f2
  unfold segVal
  subst hve
  go_enter Try.func73, Try.ntmps73
  go_wp2_with fail
  refine (Bats.szBatchS_any _ t.bats _ (w.alloc _) lo b (by omega) (by omega) (HH.out.below ((below1 w _).mono hb)) (by rw [hsz]; omega) F2.out).mono ?_
  rintro e w1 ⟨q, rfl, q1, q2, q3, b1⟩
  have B1 := Seg.hid (chain (below1 w _) b1)
  have Q3 := Seg.hid q3
  clear b1 q3
  by_cases hq : q < 0
  · go_wp2
    go_ret
    exact ⟨_, rfl, by omega, by omega, fun h => absurd h (by omega), B1.out⟩
  · go_wp2
    go_ret
    exact ⟨q, rfl, by omega, by omega, fun h => ⟨⟨by have := (Q3.out h).1; omega, (Q3.out h).2⟩, (Q3.out h).1⟩, B1.out⟩

set_option maxHeartbeats 400000 in
theorem toSegment_any (v : Value) (t : Sg) (w : World) (lo b : Nat) (hv : SegAt w lo b v t) (hb : b ≤ w.heap.size) (hf : FewS t) :
    Calls Try.prog 74 #[v] w fun e w' => ∃ v', e = .returned v' ∧ SegAt w' w.heap.size w'.heap.size v' t ∧ Below w.heap.size w w' := by
  obtain ⟨hv, rfl, hh⟩ := hv
  have HH := Seg.hid hh
  obtain ⟨H, ⟨hn, A, c, hve, _⟩, _⟩ := id hh
  clear hh
  unfold segVal
  subst hve
  go_enter Try.func74, Try.ntmps74
  go_wp2_with fail
  refine (Bats.toBatchS_any _ t.bats (((w.alloc _).alloc _).alloc _) lo b (HH.out.below ((below3 w _ _ _).mono hb)) (by rw [hsz, hsz, hsz]; omega) hf.1 hf.2).mono ?_
  rintro e w1 ⟨v', rfl, hh1, b1⟩
  have B1 := Seg.hid (chain (below3 w _ _ _) b1)
  have T1 := (b1.block (w.heap.size + 1) (by rw [hsz, hsz, hsz]; omega)).trans (at3 w _ _ _)
  have T2 := (b1.block (w.heap.size + 1 + 1) (by rw [hsz, hsz, hsz]; omega)).trans (Cells.at3' w _ _ _)
  have HH1 := Seg.hid hh1
  obtain ⟨H', ⟨_, A', c', hve, _⟩, _⟩ := id hh1
  clear hh1 b1
  subst hve
  have cN := cell_of_row w1 (w.heap.size + 1 + 1) 1 _ _ _ T2
  have zN := frozen_of_row w1 (w.heap.size + 1 + 1) 1 _ _ T2
  have H3 : Hid ((w1.setCell ⟨w.heap.size + 1 + 1, 1, none⟩ (.slice A' t.bats.length c')).heap[w.heap.size + 1 + 1]? = some (.cells (segArr t (.slice A' t.bats.length c')) 61 (0, 0))) := heap_setCell_same w1 (w.heap.size + 1 + 1) 1 _ _ (.slice A' t.bats.length c') T2
  have T4 := (heap_setCell_other w1 ⟨w.heap.size + 1 + 1, 1, none⟩ (w.heap.size + 1) (.slice A' t.bats.length c') (by simp)).trans T1
  have H5 := Seg.hid (Cells.there_of T4)
  have H4 := Seg.hid (Cells.whole (vs := segArr t (.slice A' t.bats.length c')) T4 rfl)
  have B2 := Seg.hid (Cells.below_setCells (g := w.heap.size + 1) (by omega) (segArr t (.slice A' t.bats.length c')).toList 0 _ _ (B1.out.setCell (p := ⟨w.heap.size + 1 + 1, 1, none⟩) (by simp; omega) (.slice A' t.bats.length c')))
  have HF : Hid (BatsAt ((w1.setCell ⟨w.heap.size + 1 + 1, 1, none⟩ (.slice A' t.bats.length c')).setCells (w.heap.size + 1) 0 (segArr t (.slice A' t.bats.length c')).toList) w.heap.size ((w1.setCell ⟨w.heap.size + 1 + 1, 1, none⟩ (.slice A' t.bats.length c')).setCells (w.heap.size + 1) 0 (segArr t (.slice A' t.bats.length c')).toList).heap.size (.slice A' t.bats.length c') t.bats) := by
    refine (BatsAt.keep HH1.out (fun g h1 h2 => ?_)).mono ?_ ?_
    · rw [hsz, hsz, hsz] at h1
      rw [Cells.heap_setCells_other _ _ (by omega), heap_setCell_other _ _ _ _ (by show _ ≠ w.heap.size + 1 + 1; omega)]
    · rw [hsz, hsz, hsz]; omega
    · rw [Cells.size_setCells]; simp
  clear T1 T2 T4
  simp at cN
  go_wp2_with (first | (refine wpList_load_row rfl 61 _ rfl (w.heap.size + 1 + 1) rfl _ _ _ _ H3.out Try.underlying61 rfl infoN ?_) | (refine wpList_store_mid rfl 61 _ _ rfl (w.heap.size + 1) 0 (segArr t (.slice A' t.bats.length c')) rfl rfl H5.out infoN (segArr_one _ _ rfl) ?_))
  exact bodyPost_ret (v := segVal t (.slice A' t.bats.length c')) (results_cell_row rfl _ _ (w.heap.size + 1) _ _ _ _ rfl H4.out Try.underlying61 rfl infoN) rfl ⟨_, rfl, ⟨_, rfl, HF.out⟩, B2.out⟩

set_option maxHeartbeats 400000 in
theorem eqSegment_any (v v' : Value) (t : Sg) (w : World) (lo lo' b : Nat) (hv : SegAt w lo b v t) (hv' : SegAt w lo' b v' t) (hb : b ≤ w.heap.size) :
    Calls Try.prog 80 #[v, v'] w fun e w' => e = .returned (.bool true) ∧ Below w.heap.size w w' := by
  obtain ⟨hv, rfl, hh⟩ := hv
  obtain ⟨hv', rfl, hh'⟩ := hv'
  have HH := Seg.hid hh; have HH' := Seg.hid hh'
  obtain ⟨_, ⟨hn, A, c, hve, _⟩, _⟩ := id hh
  obtain ⟨_, ⟨_, A', c', hve', _⟩, _⟩ := id hh'
  clear hh hh'
  unfold segVal
  subst hve hve'
  go_enter Try.func80, Try.ntmps80
  go_wp2_with fail
  refine (Bats.eqBatchS_any _ _ t.bats ((w.alloc _).alloc _) lo lo' b (HH.out.below ((below2 w _ _).mono hb)) (HH'.out.below ((below2 w _ _).mono hb)) (by rw [hsz, hsz]; omega)).mono ?_
  rintro e w1 ⟨rfl, b1⟩
  have B1 := Seg.hid (chain (below2 w _ _) b1)
  clear b1
  go_wp2
  go_ret
  exact ⟨rfl, B1.out⟩
end Go.Proofs.Ytimnihaieifkcaa.SegW
namespace Go.Proofs.Ytimnihaieifkcaa.Ls
set_option maxRecDepth 8000
open Go.RowKit
open Recs
open SegW (Sg)
set_option linter.unusedVariables false
def ESg : Elt Sg := fun w S f u => f 0 = .int .i64 u.base ∧ LAt 7 EBat w S (f 1) u.bats
theorem keepsSg : Keeps 2 ESg := fun w w' S f f' t h hk hf => by
  obtain ⟨h0, h1⟩ := h
  exact ⟨by rw [hf 0 (by omega)]; exact h0, by rw [hf 1 (by omega)]; exact h1.keep keepsBat hk⟩
theorem growsSg : Grows ESg := fun w S S' f t h hs => by
  obtain ⟨h0, h1⟩ := h
  exact ⟨h0, h1.mono growsBat hs⟩
def arrSg (f : Nat → Value) : Array Value := #[f 0, f 1]
theorem oneSg {w : World} {S : Nat → Prop} {f : Nat → Value} {u : Sg} (h : ESg w S f u) : (arrSg f).all (·.oneCell') = true := by
  obtain ⟨h0, h1⟩ := h
  have o0 : (f 0).oneCell' = true := by rw [h0]; rfl
  have o1 : (f 1).oneCell' = true := h1.one
  simp [arrSg, o0, o1]
def SgAt (w : World) (S : Nat → Prop) (v : Value) (u : Sg) : Prop := ∃ f, v = .agg (arrSg f) ∧ ESg w S f u
abbrev SgsAt := LAt 2 ESg
theorem SgAt.keep {w w' : World} {S : Nat → Prop} {v : Value} {u : Sg} (h : SgAt w S v u) (hk : ∀ g, S g → w'.heap[g]? = w.heap[g]?) : SgAt w' S v u := by
  obtain ⟨f, h1, h2⟩ := h
  exact ⟨f, h1, keepsSg _ _ _ _ _ _ h2 hk (fun _ _ => rfl)⟩
theorem SgAt.mono {w : World} {S S' : Nat → Prop} {v : Value} {u : Sg} (h : SgAt w S v u) (hs : ∀ g, S g → S' g) : SgAt w S' v u := by
  obtain ⟨f, h1, h2⟩ := h
  exact ⟨f, h1, growsSg _ _ _ _ _ h2 hs⟩
theorem SgAt.below {w w' : World} {B : Nat} {S : Nat → Prop} {v : Value} {u : Sg} (h : SgAt w S v u) (hb : Below B w w') (hs : ∀ g, S g → g < B) : SgAt w' S v u := h.keep fun g hg => hb.block g (hs g hg)
def szSg (u : Sg) : Nat := szL szBat (u.bats)
def FineSg (u : Sg) : Prop := I64 u.base ∧ FineL FineBat u.bats
theorem infoSg : (Try.prog.info? 61).map (·.size) = some 2 := by kernel_rfl
theorem infoLSg : (Try.prog.info? 94).map (·.size) = some 2 := by kernel_rfl
theorem infoZSg : (Try.prog.info? 61).map (fun i => (i.zero, i.size, i.bytes)) = some (some (.agg #[.int .i64 0, .slice none 0 0]), 2, 32) := by kernel_rfl
set_option maxHeartbeats 800000 in
theorem szSegment_any (v : Value) (u : Sg) (l : Int) (w : World) (S : Nat → Prop) (h3 : -1 ≤ l) (h4 : l ≤ 1048576) (hv : SgAt w S v u) (hS : ∀ g, S g → g < w.heap.size) (hf : FineSg u) :
    Calls Try.prog 73 #[v, .int .i64 l] w fun e w' => ∃ q, e = .returned (.int .i64 q) ∧ -1 ≤ q ∧ q ≤ l ∧ Lf l (szSg u) q ∧ Below w.heap.size w w' := by
  obtain ⟨f, rfl, y0, y1⟩ := hv
  try simp only [arrSg]
  rw [show f 0 = _ from y0]
  clear y0
  obtain ⟨A1, c1, g1⟩ := y1.form
  rw [g1] at y1 ⊢
  have H1 := Seg.hid y1
  clear y1 g1
  obtain ⟨z0, z1⟩ := hf
  have Z1 := Seg.hid z1
  clear z0 z1
  go_enter Try.func73, Try.ntmps73
  go_wp2_with fail
  refine (szBatchS_any _ u.bats _ (w.alloc _) S (by omega) (by omega) (H1.out.below keepsBat (below1 w _) hS) (fun g hg => by rw [hsz]; have := hS g hg; omega) Z1.out).mono ?_
  rintro e w1 ⟨q1, rfl, a1, b1, L1', d1⟩
  have B1 := Seg.hid (chain (below1 w _) d1)
  have L1 := Seg.hid L1'
  clear d1 L1'
  by_cases k1 : q1 < 0
  · go_wp2
    go_ret
    exact ⟨_, rfl, by omega, by omega, by have m0 := L1.out.2 (by omega); simp only [szSg]; exact ⟨fun _ => by omega, fun _ => by omega⟩, B1.out⟩
  go_wp2
  go_ret
  exact ⟨_, rfl, by omega, by omega, by have m0 := L1.out.1 (by omega); simp only [szSg]; exact ⟨fun _ => by omega, fun _ => by omega⟩, B1.out⟩
set_option maxHeartbeats 1600000 in
theorem toSegment_any (v : Value) (u : Sg) (w : World) (S : Nat → Prop) (hv : SgAt w S v u) (hS : ∀ g, S g → g < w.heap.size) (hf : szSg u ≤ 1048576) :
    Calls Try.prog 74 #[v] w fun e w' => ∃ v', e = .returned v' ∧ SgAt w' (seg w.heap.size w'.heap.size) v' u ∧ Below w.heap.size w w' := by
  obtain ⟨f, rfl, y0, y1⟩ := hv
  try simp only [arrSg]
  rw [show f 0 = _ from y0]
  clear y0
  obtain ⟨A1, c1, g1⟩ := y1.form
  rw [g1] at y1 ⊢
  have H1 := Seg.hid y1
  clear y1 g1
  unfold szSg at hf
  go_enter Try.func74, Try.ntmps74
  go_wp2_with fail
  refine (toBatchS_any _ u.bats (((w.alloc _).alloc _).alloc _) S (H1.out.below keepsBat (below3 w _ _ _) hS) (fun g hg => by rw [hsz, hsz, hsz]; have := hS g hg; omega) (by omega)).mono ?_
  rintro e w1 ⟨v1, rfl, l1, b1⟩
  have B1 := Seg.hid (chain (below3 w _ _ _) b1)
  have Ta1 : Hid (w1.heap[w.heap.size]? = some (.cells #[.int .i64 u.base, .slice A1 u.bats.length c1] 94 (0, 0))) := (b1.block w.heap.size (by rw [hsz, hsz, hsz]; omega)).trans (at3z w _ _ _)
  have Tr1 : Hid (w1.heap[w.heap.size + 1]? = some (.cells #[.int .i64 0, .slice none 0 0] 61 (0, 0))) := (b1.block (w.heap.size + 1) (by rw [hsz, hsz, hsz]; omega)).trans (at3 w _ _ _)
  have To1 : Hid (w1.heap[w.heap.size + 1 + 1]? = some (.cells #[.int .i64 u.base, .slice none 0 0] 61 (0, 0))) := (b1.block (w.heap.size + 1 + 1) (by rw [hsz, hsz, hsz]; omega)).trans (Cells.at3' w _ _ _)
  have s1 : w.heap.size + 3 ≤ w1.heap.size := by have := b1.size; rw [hsz, hsz, hsz] at this; omega
  have M1 : Hid (LAt 7 EBat w1 (seg (w.heap.size + 3) w1.heap.size) v1 u.bats) := by
    rw [hsz, hsz, hsz] at l1
    exact l1
  obtain ⟨Y1, x1, r1⟩ := M1.out.form
  subst r1
  clear b1 l1
  have N11 := M1
  have po11 : (w1).cell? ⟨w.heap.size + 1 + 1, 1, none⟩ = some (.slice none 0 0) := cell_of_row (w1) _ 1 _ _ (0, 0) (To1.out)
  have pf11 : (w1).frozen? ⟨w.heap.size + 1 + 1, 1, none⟩ = false := frozen_of_row (w1) _ 1 _ _ (To1.out)
  have qo11 : Hid (((w1.setCell ⟨w.heap.size + 1 + 1, 1, none⟩ (.slice Y1 u.bats.length x1))).heap[w.heap.size + 1 + 1]? = some (.cells #[.int .i64 u.base, .slice Y1 u.bats.length x1] 61 (0, 0))) := heap_setCell_same (w1) (w.heap.size + 1 + 1) 1 _ _ (.slice Y1 u.bats.length x1) (To1.out)
  have Uo1 := Seg.hid (qo11.out)
  have Ur1 := Seg.hid ((heap_setCell_other (w1) ⟨w.heap.size + 1 + 1, 1, none⟩ (w.heap.size + 1) (.slice Y1 u.bats.length x1) (by simp)).trans (Tr1.out))
  have Ua1 := Seg.hid ((heap_setCell_other (w1) ⟨w.heap.size + 1 + 1, 1, none⟩ w.heap.size (.slice Y1 u.bats.length x1) (by simp; omega)).trans (Ta1.out))
  have D1 : Hid (Below w.heap.size w (w1.setCell ⟨w.heap.size + 1 + 1, 1, none⟩ (.slice Y1 u.bats.length x1))) := (B1.out).setCell (p := ⟨w.heap.size + 1 + 1, 1, none⟩) (by simp; omega) (.slice Y1 u.bats.length x1)
  have N11' : Hid (LAt 7 EBat (w1.setCell ⟨w.heap.size + 1 + 1, 1, none⟩ (.slice Y1 u.bats.length x1)) (seg (w.heap.size + 3) w1.heap.size) (.slice Y1 u.bats.length x1) u.bats) := N11.out.keep keepsBat (fun g hg => by have := hg.1; rw [heap_setCell_other _ _ _ _ (by show _ ≠ w.heap.size + 1 + 1; omega)])
  obtain ⟨fx, hfx⟩ : ∃ fx : Nat → Value, fx = (fun q => if q = 0 then .int .i64 u.base else .slice Y1 u.bats.length x1) := ⟨_, rfl⟩
  have HX := Seg.hid hfx
  have Uz : Hid ((w1.setCell ⟨w.heap.size + 1 + 1, 1, none⟩ (.slice Y1 u.bats.length x1)).heap[w.heap.size + 1 + 1]? = some (.cells (arrSg fx) 61 (0, 0))) := by
    show _ = _
    rw [hfx]
    exact Uo1.out
  clear hfx
  have H5a := Cells.there_of Ur1.out
  have H5 : Hid ((w1.setCell ⟨w.heap.size + 1 + 1, 1, none⟩ (.slice Y1 u.bats.length x1)).there (w.heap.size + 1) 0 (arrSg fx).size) := H5a
  clear H5a
  have H4 := Seg.hid (Cells.whole (vs := arrSg fx) Ur1.out rfl)
  have B9 := Seg.hid (Cells.below_setCells (g := w.heap.size + 1) (by omega) (arrSg fx).toList 0 _ _ D1.out)
  have F1 : Hid (LAt 7 EBat ((w1.setCell ⟨w.heap.size + 1 + 1, 1, none⟩ (.slice Y1 u.bats.length x1)).setCells (w.heap.size + 1) 0 (arrSg fx).toList) (seg w.heap.size ((w1.setCell ⟨w.heap.size + 1 + 1, 1, none⟩ (.slice Y1 u.bats.length x1)).setCells (w.heap.size + 1) 0 (arrSg fx).toList).heap.size) (fx 1) u.bats) := by
    show LAt 7 EBat _ _ _ _
    rw [show fx 1 = .slice Y1 u.bats.length x1 by rw [HX.out]; rfl]
    refine (N11'.out.keep keepsBat (fun g hg => ?_)).mono growsBat (fun g hg => ⟨by have := hg.1; omega, ?_⟩)
    · have := hg.1
      rw [Cells.heap_setCells_other _ _ (by omega)]
    · rw [Cells.size_setCells]
      have := hg.2
      simpa using this
  have EX : Hid (ESg ((w1.setCell ⟨w.heap.size + 1 + 1, 1, none⟩ (.slice Y1 u.bats.length x1)).setCells (w.heap.size + 1) 0 (arrSg fx).toList) (seg w.heap.size ((w1.setCell ⟨w.heap.size + 1 + 1, 1, none⟩ (.slice Y1 u.bats.length x1)).setCells (w.heap.size + 1) 0 (arrSg fx).toList).heap.size) fx u) := ⟨by rw [HX.out]; rfl, F1.out⟩
  have ON := Seg.hid (oneSg EX.out)
  clear Ta1 Tr1 To1 Ua1 M1
  go_upto_region 4 with fail
  clear po11 pf11
  generalize (w1.setCell ⟨w.heap.size + 1 + 1, 1, none⟩ (.slice Y1 u.bats.length x1)) = wz at *
  go_wp2_with (first | (refine wpList_load_row rfl 61 _ rfl (w.heap.size + 1 + 1) rfl _ _ _ _ Uz.out Try.underlying61 rfl infoSg ?_) | (refine wpList_store_mid rfl 61 _ _ rfl (w.heap.size + 1) 0 (arrSg fx) rfl rfl H5.out infoSg ON.out ?_))
  exact bodyPost_ret (v := .agg (arrSg fx)) (results_cell_row rfl _ _ (w.heap.size + 1) _ _ _ _ rfl H4.out Try.underlying61 rfl infoSg) rfl ⟨_, rfl, ⟨fx, rfl, EX.out⟩, B9.out⟩
set_option maxHeartbeats 1600000 in
theorem eqSegment_any (v v' : Value) (u : Sg) (w : World) (S S' : Nat → Prop) (hv : SgAt w S v u) (hv' : SgAt w S' v' u) (hS : ∀ g, S g → g < w.heap.size) (hS' : ∀ g, S' g → g < w.heap.size) :
    Calls Try.prog 80 #[v, v'] w fun e w' => e = .returned (.bool true) ∧ Below w.heap.size w w' := by
  obtain ⟨f, rfl, y0, y1⟩ := hv
  obtain ⟨f', rfl, y0', y1'⟩ := hv'
  try simp only [arrSg]
  rw [show f 0 = _ from y0]
  clear y0
  obtain ⟨A1, c1, g1⟩ := y1.form
  rw [g1] at y1 ⊢
  have H1 := Seg.hid y1
  clear y1 g1
  try simp only [arrSg]
  rw [show f' 0 = _ from y0']
  clear y0'
  obtain ⟨A1', c1', g1'⟩ := y1'.form
  rw [g1'] at y1' ⊢
  have H1' := Seg.hid y1'
  clear y1' g1'
  go_enter Try.func80, Try.ntmps80
  go_wp2_with fail
  refine (eqBatchS_any _ _ u.bats ((w.alloc _).alloc _) S S' (H1.out.below keepsBat (below2 w _ _) hS) (H1'.out.below keepsBat (below2 w _ _) hS') (fun g hg => by rw [hsz, hsz]; have := hS g hg; omega) (fun g hg => by rw [hsz, hsz]; have := hS' g hg; omega)).mono ?_
  rintro e w1 ⟨rfl, b1⟩
  have B1 := Seg.hid (chain (below2 w _ _) b1)
  clear b1
  go_wp2
  go_ret
  exact ⟨rfl, B1.out⟩
end Go.Proofs.Ytimnihaieifkcaa.Ls
