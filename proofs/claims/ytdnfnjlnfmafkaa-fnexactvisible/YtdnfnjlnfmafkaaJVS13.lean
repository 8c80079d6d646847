/- Record: how it lies in memory; what the law's measure and copier answer; Read: how it lies in memory; likeness; What a log shows, on plain data: the program's way and the model's. -/
import Derived.Test.YtdnfnjlnfmafkaaJVS12
import Derived.Test.YtdnfnjlnfmafkaaJVS11
namespace Go.Proofs.Ytdnfnjlnfmafkaa.Ls
set_option maxRecDepth 8000
open Go.RowKit
open Recs
set_option linter.unusedVariables false
def ERec : Elt Rec := fun w S f u => f 0 = .int .i64 u.time ∧ f 1 = .bool u.keyed ∧ f 2 = .string u.key ∧ f 3 = .bool u.gone ∧ f 4 = .string u.val ∧ LAt 2 EHd w S (f 5) u.heads
theorem keepsRec : Keeps 6 ERec := fun w w' S f f' t h hk hf => by
  obtain ⟨h0, h1, h2, h3, h4, h5⟩ := h
  exact ⟨by rw [hf 0 (by omega)]; exact h0, by rw [hf 1 (by omega)]; exact h1, by rw [hf 2 (by omega)]; exact h2, by rw [hf 3 (by omega)]; exact h3, by rw [hf 4 (by omega)]; exact h4, by rw [hf 5 (by omega)]; exact h5.keep keepsHd hk⟩
theorem growsRec : Grows ERec := fun w S S' f t h hs => by
  obtain ⟨h0, h1, h2, h3, h4, h5⟩ := h
  exact ⟨h0, h1, h2, h3, h4, h5.mono growsHd hs⟩
def arrRec (f : Nat → Value) : Array Value := #[f 0, f 1, f 2, f 3, f 4, f 5]
theorem oneRec {w : World} {S : Nat → Prop} {f : Nat → Value} {u : Rec} (h : ERec w S f u) : (arrRec f).all (·.oneCell') = true := by
  obtain ⟨h0, h1, h2, h3, h4, h5⟩ := h
  have o0 : (f 0).oneCell' = true := by rw [h0]; rfl
  have o1 : (f 1).oneCell' = true := by rw [h1]; rfl
  have o2 : (f 2).oneCell' = true := by rw [h2]; rfl
  have o3 : (f 3).oneCell' = true := by rw [h3]; rfl
  have o4 : (f 4).oneCell' = true := by rw [h4]; rfl
  have o5 : (f 5).oneCell' = true := h5.one
  simp [arrRec, o0, o1, o2, o3, o4, o5]
def RecAt (w : World) (S : Nat → Prop) (v : Value) (u : Rec) : Prop := ∃ f, v = .agg (arrRec f) ∧ ERec w S f u
abbrev RecsAt := LAt 6 ERec
theorem RecAt.keep {w w' : World} {S : Nat → Prop} {v : Value} {u : Rec} (h : RecAt w S v u) (hk : ∀ g, S g → w'.heap[g]? = w.heap[g]?) : RecAt w' S v u := by
  obtain ⟨f, h1, h2⟩ := h
  exact ⟨f, h1, keepsRec _ _ _ _ _ _ h2 hk (fun _ _ => rfl)⟩
theorem RecAt.mono {w : World} {S S' : Nat → Prop} {v : Value} {u : Rec} (h : RecAt w S v u) (hs : ∀ g, S g → S' g) : RecAt w S' v u := by
  obtain ⟨f, h1, h2⟩ := h
  exact ⟨f, h1, growsRec _ _ _ _ _ h2 hs⟩
theorem RecAt.below {w w' : World} {B : Nat} {S : Nat → Prop} {v : Value} {u : Rec} (h : RecAt w S v u) (hb : Below B w w') (hs : ∀ g, S g → g < B) : RecAt w' S v u := h.keep fun g hg => hb.block g (hs g hg)
def szRec (u : Rec) : Nat := u.key.size + u.val.size + szL szHd (u.heads)
def FineRec (u : Rec) : Prop := I64 u.time ∧ True ∧ u.key.size ≤ maxLen ∧ True ∧ u.val.size ≤ maxLen ∧ FineL FineHd u.heads
theorem infoRec : (Try.prog.info? 53).map (·.size) = some 6 := by kernel_rfl
theorem infoLRec : (Try.prog.info? 122).map (·.size) = some 6 := by kernel_rfl
theorem infoZRec : (Try.prog.info? 53).map (fun i => (i.zero, i.size, i.bytes)) = some (some (.agg #[.int .i64 0, .bool false, .string ByteArray.empty, .bool false, .string ByteArray.empty, .slice none 0 0]), 6, 80) := by kernel_rfl
set_option maxHeartbeats 800000 in
theorem szRecord_any (v : Value) (u : Rec) (l : Int) (w : World) (S : Nat → Prop) (h3 : -1 ≤ l) (h4 : l ≤ 1048576) (hv : RecAt w S v u) (hS : ∀ g, S g → g < w.heap.size) (hf : FineRec u) :
    Calls Try.prog 78 #[v, .int .i64 l] w fun e w' => ∃ q, e = .returned (.int .i64 q) ∧ -1 ≤ q ∧ q ≤ l ∧ Lf l (szRec u) q ∧ Below w.heap.size w w' := by
  obtain ⟨f, rfl, y0, y1, y2, y3, y4, y5⟩ := hv
  try simp only [arrRec]
  rw [show f 0 = _ from y0]
  clear y0
  rw [show f 1 = _ from y1]
  clear y1
  rw [show f 2 = _ from y2]
  clear y2
  rw [show f 3 = _ from y3]
  clear y3
  rw [show f 4 = _ from y4]
  clear y4
  obtain ⟨A5, c5, g5⟩ := y5.form
  rw [g5] at y5 ⊢
  have H5 := Seg.hid y5
  clear y5 g5
  obtain ⟨z0, z1, z2, z3, z4, z5⟩ := hf
  unfold maxLen at z2
  unfold maxLen at z4
  have Z5 := Seg.hid z5
  clear z0 z1 z3 z5
  go_enter Try.func78, Try.ntmps78
  by_cases k2 : l - (u.key.size : Int) < 0
  · go_wp2
    go_ret
    exact ⟨_, rfl, by omega, by omega, by simp only [szRec]; exact ⟨fun _ => by omega, fun _ => by omega⟩, below1 _ _⟩
  by_cases k4 : (l - (u.key.size : Int)) - (u.val.size : Int) < 0
  · go_wp2
    go_ret
    exact ⟨_, rfl, by omega, by omega, by simp only [szRec]; exact ⟨fun _ => by omega, fun _ => by omega⟩, below1 _ _⟩
  go_wp2_with fail
  refine (szHeadS_any _ u.heads _ (w.alloc _) S (by omega) (by omega) (H5.out.below keepsHd (below1 w _) hS) (fun g hg => by rw [hsz]; have := hS g hg; omega) Z5.out).mono ?_
  rintro e w1 ⟨q1, rfl, a1, b1, L1', d1⟩
  have B1 := Seg.hid (chain (below1 w _) d1)
  have L1 := Seg.hid L1'
  clear d1 L1'
  by_cases k5 : q1 < 0
  · go_wp2
    go_ret
    exact ⟨_, rfl, by omega, by omega, by have m0 := L1.out.2 (by omega); simp only [szRec]; exact ⟨fun _ => by omega, fun _ => by omega⟩, B1.out⟩
  go_wp2
  go_ret
  exact ⟨_, rfl, by omega, by omega, by have m0 := L1.out.1 (by omega); simp only [szRec]; exact ⟨fun _ => by omega, fun _ => by omega⟩, B1.out⟩
set_option maxHeartbeats 1600000 in
theorem toRecord_any (v : Value) (u : Rec) (w : World) (S : Nat → Prop) (hv : RecAt w S v u) (hS : ∀ g, S g → g < w.heap.size) (hf : szRec u ≤ 1048576) :
    Calls Try.prog 79 #[v] w fun e w' => ∃ v', e = .returned v' ∧ RecAt w' (seg w.heap.size w'.heap.size) v' u ∧ Below w.heap.size w w' := by
  obtain ⟨f, rfl, y0, y1, y2, y3, y4, y5⟩ := hv
  try simp only [arrRec]
  rw [show f 0 = _ from y0]
  clear y0
  rw [show f 1 = _ from y1]
  clear y1
  rw [show f 2 = _ from y2]
  clear y2
  rw [show f 3 = _ from y3]
  clear y3
  rw [show f 4 = _ from y4]
  clear y4
  obtain ⟨A5, c5, g5⟩ := y5.form
  rw [g5] at y5 ⊢
  have H5 := Seg.hid y5
  clear y5 g5
  unfold szRec at hf
  go_enter Try.func79, Try.ntmps79
  go_wp2_with fail
  refine (toHeadS_any _ u.heads (((w.alloc _).alloc _).alloc _) S (H5.out.below keepsHd (below3 w _ _ _) hS) (fun g hg => by rw [hsz, hsz, hsz]; have := hS g hg; omega) (by omega)).mono ?_
  rintro e w1 ⟨v1, rfl, l1, b1⟩
  have B1 := Seg.hid (chain (below3 w _ _ _) b1)
  have Ta1 : Hid (w1.heap[w.heap.size]? = some (.cells #[.int .i64 u.time, .bool u.keyed, .string u.key, .bool u.gone, .string u.val, .slice A5 u.heads.length c5] 122 (0, 0))) := (b1.block w.heap.size (by rw [hsz, hsz, hsz]; omega)).trans (at3z w _ _ _)
  have Tr1 : Hid (w1.heap[w.heap.size + 1]? = some (.cells #[.int .i64 0, .bool false, .string ByteArray.empty, .bool false, .string ByteArray.empty, .slice none 0 0] 53 (0, 0))) := (b1.block (w.heap.size + 1) (by rw [hsz, hsz, hsz]; omega)).trans (at3 w _ _ _)
  have To1 : Hid (w1.heap[w.heap.size + 1 + 1]? = some (.cells #[.int .i64 u.time, .bool u.keyed, .string u.key, .bool u.gone, .string u.val, .slice none 0 0] 53 (0, 0))) := (b1.block (w.heap.size + 1 + 1) (by rw [hsz, hsz, hsz]; omega)).trans (Cells.at3' w _ _ _)
  have s1 : w.heap.size + 3 ≤ w1.heap.size := by have := b1.size; rw [hsz, hsz, hsz] at this; omega
  have M1 : Hid (LAt 2 EHd w1 (seg (w.heap.size + 3) w1.heap.size) v1 u.heads) := by
    rw [hsz, hsz, hsz] at l1
    exact l1
  obtain ⟨Y1, x1, r1⟩ := M1.out.form
  subst r1
  clear b1 l1
  have N11 := M1
  have po15 : (w1).cell? ⟨w.heap.size + 1 + 1, 5, none⟩ = some (.slice none 0 0) := cell_of_row (w1) _ 5 _ _ (0, 0) (To1.out)
  have pf15 : (w1).frozen? ⟨w.heap.size + 1 + 1, 5, none⟩ = false := frozen_of_row (w1) _ 5 _ _ (To1.out)
  have qo15 : Hid (((w1.setCell ⟨w.heap.size + 1 + 1, 5, none⟩ (.slice Y1 u.heads.length x1))).heap[w.heap.size + 1 + 1]? = some (.cells #[.int .i64 u.time, .bool u.keyed, .string u.key, .bool u.gone, .string u.val, .slice Y1 u.heads.length x1] 53 (0, 0))) := heap_setCell_same (w1) (w.heap.size + 1 + 1) 5 _ _ (.slice Y1 u.heads.length x1) (To1.out)
  have Uo1 := Seg.hid (qo15.out)
  have Ur1 := Seg.hid ((heap_setCell_other (w1) ⟨w.heap.size + 1 + 1, 5, none⟩ (w.heap.size + 1) (.slice Y1 u.heads.length x1) (by simp)).trans (Tr1.out))
  have Ua1 := Seg.hid ((heap_setCell_other (w1) ⟨w.heap.size + 1 + 1, 5, none⟩ w.heap.size (.slice Y1 u.heads.length x1) (by simp; omega)).trans (Ta1.out))
  have D1 : Hid (Below w.heap.size w (w1.setCell ⟨w.heap.size + 1 + 1, 5, none⟩ (.slice Y1 u.heads.length x1))) := (B1.out).setCell (p := ⟨w.heap.size + 1 + 1, 5, none⟩) (by simp; omega) (.slice Y1 u.heads.length x1)
  have N11' : Hid (LAt 2 EHd (w1.setCell ⟨w.heap.size + 1 + 1, 5, none⟩ (.slice Y1 u.heads.length x1)) (seg (w.heap.size + 3) w1.heap.size) (.slice Y1 u.heads.length x1) u.heads) := N11.out.keep keepsHd (fun g hg => by have := hg.1; rw [heap_setCell_other _ _ _ _ (by show _ ≠ w.heap.size + 1 + 1; omega)])
  obtain ⟨fx, hfx⟩ : ∃ fx : Nat → Value, fx = (fun q => if q = 0 then .int .i64 u.time else if q = 1 then .bool u.keyed else if q = 2 then .string u.key else if q = 3 then .bool u.gone else if q = 4 then .string u.val else .slice Y1 u.heads.length x1) := ⟨_, rfl⟩
  have HX := Seg.hid hfx
  have Uz : Hid ((w1.setCell ⟨w.heap.size + 1 + 1, 5, none⟩ (.slice Y1 u.heads.length x1)).heap[w.heap.size + 1 + 1]? = some (.cells (arrRec fx) 53 (0, 0))) := by
    show _ = _
    rw [hfx]
    exact Uo1.out
  clear hfx
  have H5a := Cells.there_of Ur1.out
  have H5 : Hid ((w1.setCell ⟨w.heap.size + 1 + 1, 5, none⟩ (.slice Y1 u.heads.length x1)).there (w.heap.size + 1) 0 (arrRec fx).size) := H5a
  clear H5a
  have H4 := Seg.hid (Cells.whole (vs := arrRec fx) Ur1.out rfl)
  have B9 := Seg.hid (Cells.below_setCells (g := w.heap.size + 1) (by omega) (arrRec fx).toList 0 _ _ D1.out)
  have F1 : Hid (LAt 2 EHd ((w1.setCell ⟨w.heap.size + 1 + 1, 5, none⟩ (.slice Y1 u.heads.length x1)).setCells (w.heap.size + 1) 0 (arrRec fx).toList) (seg w.heap.size ((w1.setCell ⟨w.heap.size + 1 + 1, 5, none⟩ (.slice Y1 u.heads.length x1)).setCells (w.heap.size + 1) 0 (arrRec fx).toList).heap.size) (fx 5) u.heads) := by
    show LAt 2 EHd _ _ _ _
    rw [show fx 5 = .slice Y1 u.heads.length x1 by rw [HX.out]; rfl]
    refine (N11'.out.keep keepsHd (fun g hg => ?_)).mono growsHd (fun g hg => ⟨by have := hg.1; omega, ?_⟩)
    · have := hg.1
      rw [Cells.heap_setCells_other _ _ (by omega)]
    · rw [Cells.size_setCells]
      have := hg.2
      simpa using this
  have EX : Hid (ERec ((w1.setCell ⟨w.heap.size + 1 + 1, 5, none⟩ (.slice Y1 u.heads.length x1)).setCells (w.heap.size + 1) 0 (arrRec fx).toList) (seg w.heap.size ((w1.setCell ⟨w.heap.size + 1 + 1, 5, none⟩ (.slice Y1 u.heads.length x1)).setCells (w.heap.size + 1) 0 (arrRec fx).toList).heap.size) fx u) := ⟨by rw [HX.out]; rfl, by rw [HX.out]; rfl, by rw [HX.out]; rfl, by rw [HX.out]; rfl, by rw [HX.out]; rfl, F1.out⟩
  have ON := Seg.hid (oneRec EX.out)
  clear Ta1 Tr1 To1 Ua1 M1
  go_upto_region 8 with fail
  clear po15 pf15
  generalize (w1.setCell ⟨w.heap.size + 1 + 1, 5, none⟩ (.slice Y1 u.heads.length x1)) = wz at *
  go_wp2_with (first | (refine wpList_load_row rfl 53 _ rfl (w.heap.size + 1 + 1) rfl _ _ _ _ Uz.out Try.underlying53 rfl infoRec ?_) | (refine wpList_store_mid rfl 53 _ _ rfl (w.heap.size + 1) 0 (arrRec fx) rfl rfl H5.out infoRec ON.out ?_))
  exact bodyPost_ret (v := .agg (arrRec fx)) (results_cell_row rfl _ _ (w.heap.size + 1) _ _ _ _ rfl H4.out Try.underlying53 rfl infoRec) rfl ⟨_, rfl, ⟨fx, rfl, EX.out⟩, B9.out⟩
set_option maxHeartbeats 1600000 in
theorem eqRecord_any (v v' : Value) (u : Rec) (w : World) (S S' : Nat → Prop) (hv : RecAt w S v u) (hv' : RecAt w S' v' u) (hS : ∀ g, S g → g < w.heap.size) (hS' : ∀ g, S' g → g < w.heap.size) :
    Calls Try.prog 50 #[v, v'] w fun e w' => e = .returned (.bool true) ∧ Below w.heap.size w w' := by
  obtain ⟨f, rfl, y0, y1, y2, y3, y4, y5⟩ := hv
  obtain ⟨f', rfl, y0', y1', y2', y3', y4', y5'⟩ := hv'
  try simp only [arrRec]
  rw [show f 0 = _ from y0]
  clear y0
  rw [show f 1 = _ from y1]
  clear y1
  rw [show f 2 = _ from y2]
  clear y2
  rw [show f 3 = _ from y3]
  clear y3
  rw [show f 4 = _ from y4]
  clear y4
  obtain ⟨A5, c5, g5⟩ := y5.form
  rw [g5] at y5 ⊢
  have H5 := Seg.hid y5
  clear y5 g5
  try simp only [arrRec]
  rw [show f' 0 = _ from y0']
  clear y0'
  rw [show f' 1 = _ from y1']
  clear y1'
  rw [show f' 2 = _ from y2']
  clear y2'
  rw [show f' 3 = _ from y3']
  clear y3'
  rw [show f' 4 = _ from y4']
  clear y4'
  obtain ⟨A5', c5', g5'⟩ := y5'.form
  rw [g5'] at y5' ⊢
  have H5' := Seg.hid y5'
  clear y5' g5'
  go_enter Try.func50, Try.ntmps50
  go_wp2_with fail
  refine (eqHeadS_any _ _ u.heads ((w.alloc _).alloc _) S S' (H5.out.below keepsHd (below2 w _ _) hS) (H5'.out.below keepsHd (below2 w _ _) hS') (fun g hg => by rw [hsz, hsz]; have := hS g hg; omega) (fun g hg => by rw [hsz, hsz]; have := hS' g hg; omega)).mono ?_
  rintro e w1 ⟨rfl, b1⟩
  have B1 := Seg.hid (chain (below2 w _ _) b1)
  clear b1
  go_wp2
  go_ret
  exact ⟨rfl, B1.out⟩
end Go.Proofs.Ytdnfnjlnfmafkaa.Ls
namespace Go.Proofs.Ytdnfnjlnfmafkaa.Ls
set_option maxRecDepth 8000
open Go.RowKit
open Recs
set_option linter.unusedVariables false
structure Red where
  offset : Int
  time : Int
  keyed : Bool
  key : ByteArray
  gone : Bool
  val : ByteArray
  heads : List Hd
  deriving Inhabited
def ERed : Elt Red := fun w S f u => f 0 = .int .i64 u.offset ∧ f 1 = .int .i64 u.time ∧ f 2 = .bool u.keyed ∧ f 3 = .string u.key ∧ f 4 = .bool u.gone ∧ f 5 = .string u.val ∧ LAt 2 EHd w S (f 6) u.heads
theorem keepsRed : Keeps 7 ERed := fun w w' S f f' t h hk hf => by
  obtain ⟨h0, h1, h2, h3, h4, h5, h6⟩ := h
  exact ⟨by rw [hf 0 (by omega)]; exact h0, by rw [hf 1 (by omega)]; exact h1, by rw [hf 2 (by omega)]; exact h2, by rw [hf 3 (by omega)]; exact h3, by rw [hf 4 (by omega)]; exact h4, by rw [hf 5 (by omega)]; exact h5, by rw [hf 6 (by omega)]; exact h6.keep keepsHd hk⟩
theorem growsRed : Grows ERed := fun w S S' f t h hs => by
  obtain ⟨h0, h1, h2, h3, h4, h5, h6⟩ := h
  exact ⟨h0, h1, h2, h3, h4, h5, h6.mono growsHd hs⟩
def arrRed (f : Nat → Value) : Array Value := #[f 0, f 1, f 2, f 3, f 4, f 5, f 6]
theorem oneRed {w : World} {S : Nat → Prop} {f : Nat → Value} {u : Red} (h : ERed w S f u) : (arrRed f).all (·.oneCell') = true := by
  obtain ⟨h0, h1, h2, h3, h4, h5, h6⟩ := h
  have o0 : (f 0).oneCell' = true := by rw [h0]; rfl
  have o1 : (f 1).oneCell' = true := by rw [h1]; rfl
  have o2 : (f 2).oneCell' = true := by rw [h2]; rfl
  have o3 : (f 3).oneCell' = true := by rw [h3]; rfl
  have o4 : (f 4).oneCell' = true := by rw [h4]; rfl
  have o5 : (f 5).oneCell' = true := by rw [h5]; rfl
  have o6 : (f 6).oneCell' = true := h6.one
  simp [arrRed, o0, o1, o2, o3, o4, o5, o6]
def RedAt (w : World) (S : Nat → Prop) (v : Value) (u : Red) : Prop := ∃ f, v = .agg (arrRed f) ∧ ERed w S f u
abbrev RedsAt := LAt 7 ERed
theorem RedAt.keep {w w' : World} {S : Nat → Prop} {v : Value} {u : Red} (h : RedAt w S v u) (hk : ∀ g, S g → w'.heap[g]? = w.heap[g]?) : RedAt w' S v u := by
  obtain ⟨f, h1, h2⟩ := h
  exact ⟨f, h1, keepsRed _ _ _ _ _ _ h2 hk (fun _ _ => rfl)⟩
theorem RedAt.mono {w : World} {S S' : Nat → Prop} {v : Value} {u : Red} (h : RedAt w S v u) (hs : ∀ g, S g → S' g) : RedAt w S' v u := by
  obtain ⟨f, h1, h2⟩ := h
  exact ⟨f, h1, growsRed _ _ _ _ _ h2 hs⟩
theorem RedAt.below {w w' : World} {B : Nat} {S : Nat → Prop} {v : Value} {u : Red} (h : RedAt w S v u) (hb : Below B w w') (hs : ∀ g, S g → g < B) : RedAt w' S v u := h.keep fun g hg => hb.block g (hs g hg)
def szRed (u : Red) : Nat := szRec (⟨u.time, u.keyed, u.key, u.gone, u.val, u.heads⟩ : Rec)
def FineRed (u : Red) : Prop := I64 u.offset ∧ I64 u.time ∧ True ∧ u.key.size ≤ maxLen ∧ True ∧ u.val.size ≤ maxLen ∧ FineL FineHd u.heads
theorem infoRed : (Try.prog.info? 55).map (·.size) = some 7 := by kernel_rfl
theorem infoZRed : (Try.prog.info? 55).map (fun i => (i.zero, i.size, i.bytes)) = some (some (.agg #[.int .i64 0, .int .i64 0, .bool false, .string ByteArray.empty, .bool false, .string ByteArray.empty, .slice none 0 0]), 7, 88) := by kernel_rfl
set_option maxHeartbeats 1600000 in
theorem eqRead_any (v v' : Value) (u : Red) (w : World) (S S' : Nat → Prop) (hv : RedAt w S v u) (hv' : RedAt w S' v' u) (hS : ∀ g, S g → g < w.heap.size) (hS' : ∀ g, S' g → g < w.heap.size) :
    Calls Try.prog 26 #[v, v'] w fun e w' => e = .returned (.bool true) ∧ Below w.heap.size w w' := by
  obtain ⟨f, rfl, y0, y1, y2, y3, y4, y5, y6⟩ := hv
  obtain ⟨f', rfl, y0', y1', y2', y3', y4', y5', y6'⟩ := hv'
  try simp only [arrRed]
  rw [show f 0 = _ from y0]
  clear y0
  rw [show f 1 = _ from y1]
  clear y1
  rw [show f 2 = _ from y2]
  clear y2
  rw [show f 3 = _ from y3]
  clear y3
  rw [show f 4 = _ from y4]
  clear y4
  rw [show f 5 = _ from y5]
  clear y5
  obtain ⟨A6, c6, g6⟩ := y6.form
  rw [g6] at y6 ⊢
  have H6 := Seg.hid y6
  clear y6 g6
  try simp only [arrRed]
  rw [show f' 0 = _ from y0']
  clear y0'
  rw [show f' 1 = _ from y1']
  clear y1'
  rw [show f' 2 = _ from y2']
  clear y2'
  rw [show f' 3 = _ from y3']
  clear y3'
  rw [show f' 4 = _ from y4']
  clear y4'
  rw [show f' 5 = _ from y5']
  clear y5'
  obtain ⟨A6', c6', g6'⟩ := y6'.form
  rw [g6'] at y6' ⊢
  have H6' := Seg.hid y6'
  clear y6' g6'
  have G1 : Hid (RecAt w S (.agg #[.int .i64 u.time, .bool u.keyed, .string u.key, .bool u.gone, .string u.val, .slice A6 u.heads.length c6]) (⟨u.time, u.keyed, u.key, u.gone, u.val, u.heads⟩ : Rec)) := ⟨fun q => if q = 0 then .int .i64 u.time else if q = 1 then .bool u.keyed else if q = 2 then .string u.key else if q = 3 then .bool u.gone else if q = 4 then .string u.val else .slice A6 u.heads.length c6, rfl, rfl, rfl, rfl, rfl, rfl, H6.out⟩
  have G1' : Hid (RecAt w S' (.agg #[.int .i64 u.time, .bool u.keyed, .string u.key, .bool u.gone, .string u.val, .slice A6' u.heads.length c6']) (⟨u.time, u.keyed, u.key, u.gone, u.val, u.heads⟩ : Rec)) := ⟨fun q => if q = 0 then .int .i64 u.time else if q = 1 then .bool u.keyed else if q = 2 then .string u.key else if q = 3 then .bool u.gone else if q = 4 then .string u.val else .slice A6' u.heads.length c6', rfl, rfl, rfl, rfl, rfl, rfl, H6'.out⟩
  go_enter Try.func26, Try.ntmps26
  go_wp2_with fail
  refine (eqRecord_any _ _ (⟨u.time, u.keyed, u.key, u.gone, u.val, u.heads⟩ : Rec) ((w.alloc _).alloc _) S S' (G1.out.below (below2 w _ _) hS) (G1'.out.below (below2 w _ _) hS') (fun g hg => by rw [hsz, hsz]; have := hS g hg; omega) (fun g hg => by rw [hsz, hsz]; have := hS' g hg; omega)).mono ?_
  rintro e w1 ⟨rfl, b1⟩
  have B1 := Seg.hid (chain (below2 w _ _) b1)
  clear b1
  go_wp2
  go_ret
  exact ⟨rfl, B1.out⟩
end Go.Proofs.Ytdnfnjlnfmafkaa.Ls
namespace Go.Proofs.Ytdnfnjlnfmafkaa.VsP
set_option maxRecDepth 8000
open Ls SdQ SdP
open Recs (Bat Rec)
open SegW (Sg)
open LogW (Lg)
open SrP (pB bEnd segs_head)
open BfP (flatB fromB)
open LgP (logOk inR)
set_option linter.unusedVariables false
def red (off : Int) (r : Rec) : Red := ⟨off, r.time, r.keyed, r.key, r.gone, r.val, r.heads⟩
def rds (off : Int) : List Rec → List Red
  | [] => []
  | r :: t => red off r :: rds (off + 1) t
def fst (x : Int) (b : Bat) : Nat := (max (x - b.base) 0).toNat
def reads (x : Int) (b : Bat) : List Red := rds (b.base + fst x b) (b.recs.drop (fst x b))
def hit (b : Bat) (g : Gon) : Bool := decide (g.producer = b.producer) && (decide (g.first ≤ b.base) && decide (b.base ≤ g.last))
def goneB (gs : List Gon) (b : Bat) : Bool := op b && gs.any (hit b)
def shown (gs : List Gon) (b : Bat) : Bool := !mk b && !goneB gs b
def visP (x e : Int) (gs : List Gon) : List Bat → List Red
  | [] => []
  | b :: t => if e ≤ b.base then [] else (if shown gs b = true then reads x b else []) ++ visP x e gs t
def inB (x e : Int) (r : Red) : Bool := decide (x ≤ r.offset) && decide (r.offset < e)
def pick (x e : Int) (gs : List Gon) (b : Bat) : List Red := if shown gs b = true then (rds b.base b.recs).filter (inB x e) else []
def visM (x e : Int) (gs : List Gon) (bs : List Bat) : List Red := bs.flatMap (pick x e gs)
def endV (l : Lg) (s : Bool) : Int := if s = true then least l.next (settled l).1 else l.next
def gonV (l : Lg) (s : Bool) : List Gon := if s = true then (settled l).2 else []
def visible (l : Lg) (x : Int) (s : Bool) : List Red × Int := if (logOk l && inR x l.start l.next) = true then (visM x (endV l s) (gonV l s) (flatB l.segs), max (endV l s) x) else ([], -1)
theorem rds_len : ∀ (off : Int) (rs : List Rec), (rds off rs).length = rs.length
  | _, [] => rfl
  | off, r :: t => by simp only [rds, List.length_cons, rds_len (off + 1) t]
theorem rds_get : ∀ (off : Int) (rs : List Rec) (i : Nat), i < rs.length → (rds off rs).getD i default = red (off + i) (rs.getD i default)
  | _, [], i, h => absurd h (by simp)
  | off, r :: t, 0, _ => by simp [rds]
  | off, r :: t, i + 1, h => by
    simp only [rds, List.getD_cons_succ]
    rw [rds_get (off + 1) t i (by simpa using h)]
    congr 1
    omega
theorem rds_take (off : Int) (rs : List Rec) {j : Nat} (h : j < rs.length) : (rds off rs).take (j + 1) = (rds off rs).take j ++ [red (off + j) (rs.getD j default)] := by
  rw [BfP.takeOne (by rw [rds_len]; exact h), rds_get off rs j h]
theorem rds_off : ∀ (off : Int) (rs : List Rec), ∀ r ∈ rds off rs, off ≤ r.offset ∧ r.offset < off + rs.length
  | _, [], r, h => by simp [rds] at h
  | off, q :: t, r, h => by
    simp only [rds, List.mem_cons] at h
    rcases h with rfl | h
    · simp only [red, List.length_cons]; omega
    · have := rds_off (off + 1) t r h
      simp only [List.length_cons]
      omega
theorem rds_from (x : Int) : ∀ (off : Int) (rs : List Rec), (rds off rs).filter (fun r => decide (x ≤ r.offset)) = rds (off + ((max (x - off) 0).toNat : Nat)) (rs.drop (max (x - off) 0).toNat)
  | off, [] => by simp [rds]
  | off, r :: t => by
    have ih := rds_from x (off + 1) t
    by_cases h : x ≤ off
    · have e1 : (max (x - off) 0).toNat = 0 := by omega
      have e2 : (max (x - (off + 1)) 0).toNat = 0 := by omega
      rw [e2] at ih
      rw [e1]
      simp only [rds, List.drop_zero]
      rw [List.filter_cons_of_pos (by simp [red, h]), ih]
      simp
    · have e1 : (max (x - off) 0).toNat = (max (x - (off + 1)) 0).toNat + 1 := by omega
      rw [e1, List.drop_succ_cons]
      simp only [rds]
      rw [List.filter_cons_of_neg (by simp [red, h]), ih]
      congr 1
      omega
def chainB (f : Int) : List Bat → Prop
  | [] => True
  | b :: t => f ≤ b.base ∧ BOk.batOk b = true ∧ chainB (bEnd b) t
theorem chain_low {f f' : Int} (h : f' ≤ f) : ∀ {l : List Bat}, chainB f l → chainB f' l
  | [], _ => trivial
  | b :: t, ⟨h1, h2, h3⟩ => ⟨by omega, h2, h3⟩
theorem bats_chain : ∀ (bs : List Bat) (f e f' e' : Int), LgP.bats f e bs = some (f', e') → ∀ rest, chainB f' rest → chainB f (bs ++ rest)
  | [], f, e, f', e', h, rest, hr => by
    simp only [LgP.bats, Option.some.injEq, Prod.mk.injEq] at h
    rw [h.1]; exact hr
  | b :: t, f, e, f', e', h, rest, hr => by
    unfold LgP.bats at h
    split at h
    · rename_i hc
      exact ⟨hc.2.1, hc.1, bats_chain t _ _ _ _ h rest hr⟩
    · cases h
theorem bats_ends : ∀ (bs : List Bat) (f e f' e' : Int), LgP.bats f e bs = some (f', e') → ∀ b ∈ bs, bEnd b ≤ f'
  | [], _, _, _, _, _, b, hb => by simp at hb
  | c :: t, f, e, f', e', h, b, hb => by
    unfold LgP.bats at h
    split at h
    · rename_i hc
      rcases List.mem_cons.1 hb with rfl | hb
      · exact LgP.bats_le _ _ _ _ _ h
      · exact bats_ends t _ _ _ _ h b hb
    · cases h
theorem segs_le : ∀ (ss : List Sg) (f e f' : Int), LgP.segs f e ss = some f' → f ≤ f'
  | [], f, e, f', h => by simp [LgP.segs] at h; omega
  | s :: t, f, e, f', h => by
    obtain ⟨h1, _, f1, e1, h3, h4⟩ := segs_head h
    have := LgP.bats_le _ _ _ _ _ h3
    have := segs_le t _ _ _ h4
    omega
theorem segs_chain : ∀ (ss : List Sg) (f e f' : Int), LgP.segs f e ss = some f' → chainB f (flatB ss) ∧ ∀ b ∈ flatB ss, bEnd b ≤ f'
  | [], _, _, _, _ => ⟨trivial, fun b hb => by simp [flatB] at hb⟩
  | s :: t, f, e, f', h => by
    obtain ⟨h1, _, f1, e1, h3, h4⟩ := segs_head h
    obtain ⟨i1, i2⟩ := segs_chain t _ _ _ h4
    refine ⟨chain_low h1 (bats_chain _ _ _ _ _ h3 _ i1), fun b hb => ?_⟩
    simp only [flatB, List.mem_append] at hb
    rcases hb with hb | hb
    · have := bats_ends _ _ _ _ _ h3 b hb
      have := segs_le t _ _ _ h4
      omega
    · exact i2 b hb
theorem ok_end {b : Bat} (h : BOk.batOk b = true) : b.base < bEnd b := by
  have := LgP.okLen h
  unfold bEnd
  omega
theorem chain_ge : ∀ {l : List Bat} {f : Int}, chainB f l → ∀ b ∈ l, f ≤ b.base
  | [], _, _, b, hb => by simp at hb
  | c :: t, f, ⟨h1, h2, h3⟩, b, hb => by
    rcases List.mem_cons.1 hb with rfl | hb
    · exact h1
    · have := chain_ge h3 b hb
      have := ok_end h2
      omega
theorem chain_apart : ∀ {l : List Bat} {f : Int}, chainB f l → ∀ b ∈ l, ∀ c ∈ l, b.base < c.base → bEnd b ≤ c.base
  | [], _, _ => fun b hb => by simp at hb
  | d :: t, f, ⟨h1, h2, h3⟩ => by
    intro b hb c hc hlt
    have hd := ok_end h2
    rcases List.mem_cons.1 hb with eb | hb'
    · rcases List.mem_cons.1 hc with ec | hc'
      · rw [eb, ec] at hlt; omega
      · rw [eb]; exact chain_ge h3 c hc'
    · rcases List.mem_cons.1 hc with ec | hc'
      · have := chain_ge h3 b hb'
        rw [ec] at hlt ⊢
        omega
      · exact chain_apart h3 b hb' c hc' hlt
theorem vis_none {x e : Int} {gs : List Gon} : ∀ {l : List Bat}, (∀ b ∈ l, e ≤ b.base) → visM x e gs l = []
  | [], _ => rfl
  | b :: t, h => by
    unfold visM
    rw [List.flatMap_cons]
    have h1 := vis_none (x := x) (gs := gs) (l := t) (fun c hc => h c (by simp [hc]))
    unfold visM at h1
    rw [h1, List.append_nil]
    unfold pick
    split
    · rw [List.filter_eq_nil_iff]
      intro r hr
      have := (rds_off _ _ r hr).1
      have := h b (by simp)
      simp only [inB, Bool.and_eq_true, decide_eq_true_eq]
      omega
    · rfl
theorem vis_eq {x e : Int} {gs : List Gon} : ∀ {l : List Bat} {f : Int}, chainB f l → (∀ b ∈ l, b.base < e → bEnd b ≤ e) → visP x e gs (fromB x l) = visM x e gs l
  | [], _, _, _ => rfl
  | b :: t, f, ⟨h1, h2, h3⟩, hn => by
    have ih := vis_eq (x := x) (gs := gs) h3 (fun c hc => hn c (by simp [hc]))
    have hoff := fun r hr => rds_off b.base b.recs r hr
    unfold visM at ih ⊢
    rw [List.flatMap_cons]
    by_cases hp : pB x b = true
    · have e1 : fromB x (b :: t) = b :: fromB x t := by unfold fromB; rw [List.filter_cons_of_pos hp]
      rw [e1]
      unfold visP
      by_cases he : e ≤ b.base
      · rw [if_pos he]
        have h4 := vis_none (x := x) (e := e) (gs := gs) (l := b :: t) (fun c hc => by
          rcases List.mem_cons.1 hc with rfl | hc
          · exact he
          · have := chain_ge h3 c hc
            have := ok_end h2
            omega)
        unfold visM at h4
        rw [List.flatMap_cons] at h4
        rw [h4]
      · rw [if_neg he, ih]
        congr 1
        have hb := hn b (by simp) (by omega)
        unfold pick
        split
        · unfold reads fst
          rw [← rds_from]
          refine List.filter_congr fun r hr => ?_
          have := (hoff r hr).2
          unfold bEnd at hb
          simp only [inB]
          rw [decide_eq_true (show r.offset < e by omega), Bool.and_true]
        · rfl
    · have e1 : fromB x (b :: t) = fromB x t := by unfold fromB; rw [List.filter_cons_of_neg hp]
      rw [e1, ih]
      have e2 : pick x e gs b = [] := by
        unfold pick
        split
        · rw [List.filter_eq_nil_iff]
          intro r hr
          have := (hoff r hr).2
          unfold pB bEnd at hp
          simp only [decide_eq_true_eq] at hp
          simp only [inB, Bool.and_eq_true, decide_eq_true_eq]
          omega
        · rfl
      rw [e2, List.nil_append]
theorem stp_first (s : List Gon × List Gon) (b : Bat) : ∀ g ∈ (stp s b).1, g ∈ s.1 ∨ g.first = b.base := fun g hg => by
  unfold stp at hg
  split at hg
  · split at hg
    · exact .inl hg
    · exact .inl (List.mem_filter.1 hg).1
  · split at hg
    · rcases List.mem_append.1 hg with h | h
      · exact .inl h
      · rw [List.mem_singleton.1 h]; exact .inr rfl
    · exact .inl hg
theorem run_first : ∀ (l : List Bat) (s : List Gon × List Gon), ∀ g ∈ (runB s l).1, g ∈ s.1 ∨ ∃ b ∈ l, g.first = b.base
  | [], s, g, hg => .inl hg
  | b :: t, s, g, hg => by
    rcases run_first t (stp s b) g hg with h | ⟨c, hc, h⟩
    · rcases stp_first s b g h with h | h
      · exact .inl h
      · exact .inr ⟨b, by simp, h⟩
    · exact .inr ⟨c, by simp [hc], h⟩
theorem least_or : ∀ (l : List Gon) (n : Int), least n l = n ∨ ∃ g ∈ l, least n l = g.first
  | [], n => .inl rfl
  | g :: t, n => by
    have h : least n (g :: t) = least (min n g.first) t := rfl
    rw [h]
    rcases least_or t (min n g.first) with e | ⟨q, hq, e⟩
    · rw [e]
      by_cases hm : n ≤ g.first
      · left; omega
      · right; exact ⟨g, by simp, by omega⟩
    · exact .inr ⟨q, by simp [hq], e⟩
/-- No batch reaches over the end. -/
theorem no_over {l : Lg} {f : Int} (h : LgP.segs 0 0 l.segs = some f) (hf : f ≤ l.next) (s : Bool) : ∀ b ∈ flatB l.segs, b.base < endV l s → bEnd b ≤ endV l s := fun b hb hlt => by
  obtain ⟨c1, c2⟩ := segs_chain _ _ _ _ h
  have h2 := c2 b hb
  unfold endV at hlt ⊢
  split
  · rename_i hs
    rw [if_pos hs] at hlt
    rcases least_or (settled l).1 l.next with e | ⟨g, hg, e⟩
    · rw [e]; omega
    · rw [e] at hlt ⊢
      rcases run_first _ _ g hg with h | ⟨c, hc, h⟩
      · simp at h
      · rw [h] at hlt ⊢
        exact chain_apart c1 b hb c hc hlt
  · omega
theorem vis_log {l : Lg} {x f : Int} (h : LgP.segs 0 0 l.segs = some f) (hf : f ≤ l.next) (s : Bool) : visP x (endV l s) (gonV l s) (fromB x (flatB l.segs)) = visM x (endV l s) (gonV l s) (flatB l.segs) := vis_eq (segs_chain _ _ _ _ h).1 (no_over h hf s)
end Go.Proofs.Ytdnfnjlnfmafkaa.VsP
