/- Record: how it lies in memory; what the law's measure and copier answer; Lists of Record: what the law's helpers answer; Batch: how it lies in memory; what the law's measure and copier answer. -/
import Derived.Test.YticihnoekffelaaJS20
namespace Go.Proofs.Yticihnoekffelaa.Ls
set_option maxRecDepth 8000
open Go.RowKit
open Recs
set_option linter.unusedVariables false
def ERec : Elt Rec := fun w S f u => f 0 = .int .i64 u.time ∧ f 1 = .bool u.keyed ∧ f 2 = .string u.key ∧ f 3 = .bool u.gone ∧ f 4 = .string u.val ∧ LAt 2 EHd w S (f 5) u.heads
theorem keepsRec : Keeps 6 ERec := fun w w' S f f' t h hk hf => by
  obtain ⟨h0, h1, h2, h3, h4, h5⟩ := h
  exact ⟨by rw [hf 0 (by omega)]; exact h0, by rw [hf 1 (by omega)]; exact h1, by rw [hf 2 (by omega)]; exact h2, by rw [hf 3 (by omega)]; exact h3, by rw [hf 4 (by omega)]; exact h4, by rw [hf 5 (by omega)]; exact h5.keep keepsHd hk⟩
theorem growsRec : Grows ERec := fun w S S' f t h hs => by
  obtain ⟨h0, h1, h2, h3, h4, h5⟩ := h
  exact ⟨h0, h1, h2, h3, h4, h5.mono growsHd hs⟩
def arrRec (f : Nat → Value) : Array Value := #[f 0, f 1, f 2, f 3, f 4, f 5]
theorem oneRec {w : World} {S : Nat → Prop} {f : Nat → Value} {u : Rec} (h : ERec w S f u) : (arrRec f).all (·.oneCell') = true := by
  obtain ⟨h0, h1, h2, h3, h4, h5⟩ := h
  have o0 : (f 0).oneCell' = true := by rw [h0]; rfl
  have o1 : (f 1).oneCell' = true := by rw [h1]; rfl
  have o2 : (f 2).oneCell' = true := by rw [h2]; rfl
  have o3 : (f 3).oneCell' = true := by rw [h3]; rfl
  have o4 : (f 4).oneCell' = true := by rw [h4]; rfl
  have o5 : (f 5).oneCell' = true := h5.one
  simp [arrRec, o0, o1, o2, o3, o4, o5]
def RecAt (w : World) (S : Nat → Prop) (v : Value) (u : Rec) : Prop := ∃ f, v = .agg (arrRec f) ∧ ERec w S f u
abbrev RecsAt := LAt 6 ERec
theorem RecAt.keep {w w' : World} {S : Nat → Prop} {v : Value} {u : Rec} (h : RecAt w S v u) (hk : ∀ g, S g → w'.heap[g]? = w.heap[g]?) : RecAt w' S v u := by
  obtain ⟨f, h1, h2⟩ := h
  exact ⟨f, h1, keepsRec _ _ _ _ _ _ h2 hk (fun _ _ => rfl)⟩
theorem RecAt.mono {w : World} {S S' : Nat → Prop} {v : Value} {u : Rec} (h : RecAt w S v u) (hs : ∀ g, S g → S' g) : RecAt w S' v u := by
  obtain ⟨f, h1, h2⟩ := h
  exact ⟨f, h1, growsRec _ _ _ _ _ h2 hs⟩
theorem RecAt.below {w w' : World} {B : Nat} {S : Nat → Prop} {v : Value} {u : Rec} (h : RecAt w S v u) (hb : Below B w w') (hs : ∀ g, S g → g < B) : RecAt w' S v u := h.keep fun g hg => hb.block g (hs g hg)
def szRec (u : Rec) : Nat := u.key.size + u.val.size + szL szHd (u.heads)
def FineRec (u : Rec) : Prop := I64 u.time ∧ True ∧ u.key.size ≤ maxLen ∧ True ∧ u.val.size ≤ maxLen ∧ FineL FineHd u.heads
theorem infoRec : (Try.prog.info? 88).map (·.size) = some 6 := by kernel_rfl
theorem infoLRec : (Try.prog.info? 130).map (·.size) = some 6 := by kernel_rfl
theorem infoZRec : (Try.prog.info? 88).map (fun i => (i.zero, i.size, i.bytes)) = some (some (.agg #[.int .i64 0, .bool false, .string ByteArray.empty, .bool false, .string ByteArray.empty, .slice none 0 0]), 6, 80) := by kernel_rfl
set_option maxHeartbeats 800000 in
theorem szRecord_any (v : Value) (u : Rec) (l : Int) (w : World) (S : Nat → Prop) (h3 : -1 ≤ l) (h4 : l ≤ 1048576) (hv : RecAt w S v u) (hS : ∀ g, S g → g < w.heap.size) (hf : FineRec u) :
    Calls Try.prog 102 #[v, .int .i64 l] w fun e w' => ∃ q, e = .returned (.int .i64 q) ∧ -1 ≤ q ∧ q ≤ l ∧ Lf l (szRec u) q ∧ Below w.heap.size w w' := by
  obtain ⟨f, rfl, y0, y1, y2, y3, y4, y5⟩ := hv
  try simp only [arrRec]
  rw [show f 0 = _ from y0]
  clear y0
  rw [show f 1 = _ from y1]
  clear y1
  rw [show f 2 = _ from y2]
  clear y2
  rw [show f 3 = _ from y3]
  clear y3
  rw [show f 4 = _ from y4]
  clear y4
  obtain ⟨A5, c5, g5⟩ := y5.form
  rw [g5] at y5 ⊢
  have H5 := Seg.hid y5
  clear y5 g5
  obtain ⟨z0, z1, z2, z3, z4, z5⟩ := hf
  unfold maxLen at z2
  unfold maxLen at z4
  have Z5 := Seg.hid z5
  clear z0 z1 z3 z5
  go_enter Try.func102, Try.ntmps102
  by_cases k2 : l - (u.key.size : Int) < 0
  · go_wp2
    go_ret
    exact ⟨_, rfl, by omega, by omega, by simp only [szRec]; exact ⟨fun _ => by omega, fun _ => by omega⟩, below1 _ _⟩
  by_cases k4 : (l - (u.key.size : Int)) - (u.val.size : Int) < 0
  · go_wp2
    go_ret
    exact ⟨_, rfl, by omega, by omega, by simp only [szRec]; exact ⟨fun _ => by omega, fun _ => by omega⟩, below1 _ _⟩
  go_wp2_with fail
  refine (szHeadS_any _ u.heads _ (w.alloc _) S (by omega) (by omega) (H5.out.below keepsHd (below1 w _) hS) (fun g hg => by rw [hsz]; have := hS g hg; omega) Z5.out).mono ?_
  rintro e w1 ⟨q1, rfl, a1, b1, L1', d1⟩
  have B1 := Seg.hid (chain (below1 w _) d1)
  have L1 := Seg.hid L1'
  clear d1 L1'
  by_cases k5 : q1 < 0
  · go_wp2
    go_ret
    exact ⟨_, rfl, by omega, by omega, by have m0 := L1.out.2 (by omega); simp only [szRec]; exact ⟨fun _ => by omega, fun _ => by omega⟩, B1.out⟩
  go_wp2
  go_ret
  exact ⟨_, rfl, by omega, by omega, by have m0 := L1.out.1 (by omega); simp only [szRec]; exact ⟨fun _ => by omega, fun _ => by omega⟩, B1.out⟩
set_option maxHeartbeats 1600000 in
theorem toRecord_any (v : Value) (u : Rec) (w : World) (S : Nat → Prop) (hv : RecAt w S v u) (hS : ∀ g, S g → g < w.heap.size) (hf : szRec u ≤ 1048576) :
    Calls Try.prog 103 #[v] w fun e w' => ∃ v', e = .returned v' ∧ RecAt w' (seg w.heap.size w'.heap.size) v' u ∧ Below w.heap.size w w' := by
  obtain ⟨f, rfl, y0, y1, y2, y3, y4, y5⟩ := hv
  try simp only [arrRec]
  rw [show f 0 = _ from y0]
  clear y0
  rw [show f 1 = _ from y1]
  clear y1
  rw [show f 2 = _ from y2]
  clear y2
  rw [show f 3 = _ from y3]
  clear y3
  rw [show f 4 = _ from y4]
  clear y4
  obtain ⟨A5, c5, g5⟩ := y5.form
  rw [g5] at y5 ⊢
  have H5 := Seg.hid y5
  clear y5 g5
  unfold szRec at hf
  go_enter Try.func103, Try.ntmps103
  go_wp2_with fail
  refine (toHeadS_any _ u.heads (((w.alloc _).alloc _).alloc _) S (H5.out.below keepsHd (below3 w _ _ _) hS) (fun g hg => by rw [hsz, hsz, hsz]; have := hS g hg; omega) (by omega)).mono ?_
  rintro e w1 ⟨v1, rfl, l1, b1⟩
  have B1 := Seg.hid (chain (below3 w _ _ _) b1)
  have Ta1 : Hid (w1.heap[w.heap.size]? = some (.cells #[.int .i64 u.time, .bool u.keyed, .string u.key, .bool u.gone, .string u.val, .slice A5 u.heads.length c5] 130 (0, 0))) := (b1.block w.heap.size (by rw [hsz, hsz, hsz]; omega)).trans (at3z w _ _ _)
  have Tr1 : Hid (w1.heap[w.heap.size + 1]? = some (.cells #[.int .i64 0, .bool false, .string ByteArray.empty, .bool false, .string ByteArray.empty, .slice none 0 0] 88 (0, 0))) := (b1.block (w.heap.size + 1) (by rw [hsz, hsz, hsz]; omega)).trans (at3 w _ _ _)
  have To1 : Hid (w1.heap[w.heap.size + 1 + 1]? = some (.cells #[.int .i64 u.time, .bool u.keyed, .string u.key, .bool u.gone, .string u.val, .slice none 0 0] 88 (0, 0))) := (b1.block (w.heap.size + 1 + 1) (by rw [hsz, hsz, hsz]; omega)).trans (Cells.at3' w _ _ _)
  have s1 : w.heap.size + 3 ≤ w1.heap.size := by have := b1.size; rw [hsz, hsz, hsz] at this; omega
  have M1 : Hid (LAt 2 EHd w1 (seg (w.heap.size + 3) w1.heap.size) v1 u.heads) := by
    rw [hsz, hsz, hsz] at l1
    exact l1
  obtain ⟨Y1, x1, r1⟩ := M1.out.form
  subst r1
  clear b1 l1
  have N11 := M1
  have po15 : (w1).cell? ⟨w.heap.size + 1 + 1, 5, none⟩ = some (.slice none 0 0) := cell_of_row (w1) _ 5 _ _ (0, 0) (To1.out)
  have pf15 : (w1).frozen? ⟨w.heap.size + 1 + 1, 5, none⟩ = false := frozen_of_row (w1) _ 5 _ _ (To1.out)
  have qo15 : Hid (((w1.setCell ⟨w.heap.size + 1 + 1, 5, none⟩ (.slice Y1 u.heads.length x1))).heap[w.heap.size + 1 + 1]? = some (.cells #[.int .i64 u.time, .bool u.keyed, .string u.key, .bool u.gone, .string u.val, .slice Y1 u.heads.length x1] 88 (0, 0))) := heap_setCell_same (w1) (w.heap.size + 1 + 1) 5 _ _ (.slice Y1 u.heads.length x1) (To1.out)
  have Uo1 := Seg.hid (qo15.out)
  have Ur1 := Seg.hid ((heap_setCell_other (w1) ⟨w.heap.size + 1 + 1, 5, none⟩ (w.heap.size + 1) (.slice Y1 u.heads.length x1) (by simp)).trans (Tr1.out))
  have Ua1 := Seg.hid ((heap_setCell_other (w1) ⟨w.heap.size + 1 + 1, 5, none⟩ w.heap.size (.slice Y1 u.heads.length x1) (by simp; omega)).trans (Ta1.out))
  have D1 : Hid (Below w.heap.size w (w1.setCell ⟨w.heap.size + 1 + 1, 5, none⟩ (.slice Y1 u.heads.length x1))) := (B1.out).setCell (p := ⟨w.heap.size + 1 + 1, 5, none⟩) (by simp; omega) (.slice Y1 u.heads.length x1)
  have N11' : Hid (LAt 2 EHd (w1.setCell ⟨w.heap.size + 1 + 1, 5, none⟩ (.slice Y1 u.heads.length x1)) (seg (w.heap.size + 3) w1.heap.size) (.slice Y1 u.heads.length x1) u.heads) := N11.out.keep keepsHd (fun g hg => by have := hg.1; rw [heap_setCell_other _ _ _ _ (by show _ ≠ w.heap.size + 1 + 1; omega)])
  obtain ⟨fx, hfx⟩ : ∃ fx : Nat → Value, fx = (fun q => if q = 0 then .int .i64 u.time else if q = 1 then .bool u.keyed else if q = 2 then .string u.key else if q = 3 then .bool u.gone else if q = 4 then .string u.val else .slice Y1 u.heads.length x1) := ⟨_, rfl⟩
  have HX := Seg.hid hfx
  have Uz : Hid ((w1.setCell ⟨w.heap.size + 1 + 1, 5, none⟩ (.slice Y1 u.heads.length x1)).heap[w.heap.size + 1 + 1]? = some (.cells (arrRec fx) 88 (0, 0))) := by
    show _ = _
    rw [hfx]
    exact Uo1.out
  clear hfx
  have H5a := Cells.there_of Ur1.out
  have H5 : Hid ((w1.setCell ⟨w.heap.size + 1 + 1, 5, none⟩ (.slice Y1 u.heads.length x1)).there (w.heap.size + 1) 0 (arrRec fx).size) := H5a
  clear H5a
  have H4 := Seg.hid (Cells.whole (vs := arrRec fx) Ur1.out rfl)
  have B9 := Seg.hid (Cells.below_setCells (g := w.heap.size + 1) (by omega) (arrRec fx).toList 0 _ _ D1.out)
  have F1 : Hid (LAt 2 EHd ((w1.setCell ⟨w.heap.size + 1 + 1, 5, none⟩ (.slice Y1 u.heads.length x1)).setCells (w.heap.size + 1) 0 (arrRec fx).toList) (seg w.heap.size ((w1.setCell ⟨w.heap.size + 1 + 1, 5, none⟩ (.slice Y1 u.heads.length x1)).setCells (w.heap.size + 1) 0 (arrRec fx).toList).heap.size) (fx 5) u.heads) := by
    show LAt 2 EHd _ _ _ _
    rw [show fx 5 = .slice Y1 u.heads.length x1 by rw [HX.out]; rfl]
    refine (N11'.out.keep keepsHd (fun g hg => ?_)).mono growsHd (fun g hg => ⟨by have := hg.1; omega, ?_⟩)
    · have := hg.1
      rw [Cells.heap_setCells_other _ _ (by omega)]
    · rw [Cells.size_setCells]
      have := hg.2
      simpa using this
  have EX : Hid (ERec ((w1.setCell ⟨w.heap.size + 1 + 1, 5, none⟩ (.slice Y1 u.heads.length x1)).setCells (w.heap.size + 1) 0 (arrRec fx).toList) (seg w.heap.size ((w1.setCell ⟨w.heap.size + 1 + 1, 5, none⟩ (.slice Y1 u.heads.length x1)).setCells (w.heap.size + 1) 0 (arrRec fx).toList).heap.size) fx u) := ⟨by rw [HX.out]; rfl, by rw [HX.out]; rfl, by rw [HX.out]; rfl, by rw [HX.out]; rfl, by rw [HX.out]; rfl, F1.out⟩
  have ON := Seg.hid (oneRec EX.out)
  clear Ta1 Tr1 To1 Ua1 M1
  go_upto_region 8 with fail
  clear po15 pf15
  generalize (w1.setCell ⟨w.heap.size + 1 + 1, 5, none⟩ (.slice Y1 u.heads.length x1)) = wz at *
  go_wp2_with (first | (refine wpList_load_row rfl 88 _ rfl (w.heap.size + 1 + 1) rfl _ _ _ _ Uz.out Try.underlying88 rfl infoRec ?_) | (refine wpList_store_mid rfl 88 _ _ rfl (w.heap.size + 1) 0 (arrRec fx) rfl rfl H5.out infoRec ON.out ?_))
  exact bodyPost_ret (v := .agg (arrRec fx)) (results_cell_row rfl _ _ (w.heap.size + 1) _ _ _ _ rfl H4.out Try.underlying88 rfl infoRec) rfl ⟨_, rfl, ⟨fx, rfl, EX.out⟩, B9.out⟩
set_option maxHeartbeats 1600000 in
theorem eqRecord_any (v v' : Value) (u : Rec) (w : World) (S S' : Nat → Prop) (hv : RecAt w S v u) (hv' : RecAt w S' v' u) (hS : ∀ g, S g → g < w.heap.size) (hS' : ∀ g, S' g → g < w.heap.size) :
    Calls Try.prog 91 #[v, v'] w fun e w' => e = .returned (.bool true) ∧ Below w.heap.size w w' := by
  obtain ⟨f, rfl, y0, y1, y2, y3, y4, y5⟩ := hv
  obtain ⟨f', rfl, y0', y1', y2', y3', y4', y5'⟩ := hv'
  try simp only [arrRec]
  rw [show f 0 = _ from y0]
  clear y0
  rw [show f 1 = _ from y1]
  clear y1
  rw [show f 2 = _ from y2]
  clear y2
  rw [show f 3 = _ from y3]
  clear y3
  rw [show f 4 = _ from y4]
  clear y4
  obtain ⟨A5, c5, g5⟩ := y5.form
  rw [g5] at y5 ⊢
  have H5 := Seg.hid y5
  clear y5 g5
  try simp only [arrRec]
  rw [show f' 0 = _ from y0']
  clear y0'
  rw [show f' 1 = _ from y1']
  clear y1'
  rw [show f' 2 = _ from y2']
  clear y2'
  rw [show f' 3 = _ from y3']
  clear y3'
  rw [show f' 4 = _ from y4']
  clear y4'
  obtain ⟨A5', c5', g5'⟩ := y5'.form
  rw [g5'] at y5' ⊢
  have H5' := Seg.hid y5'
  clear y5' g5'
  go_enter Try.func91, Try.ntmps91
  go_wp2_with fail
  refine (eqHeadS_any _ _ u.heads ((w.alloc _).alloc _) S S' (H5.out.below keepsHd (below2 w _ _) hS) (H5'.out.below keepsHd (below2 w _ _) hS') (fun g hg => by rw [hsz, hsz]; have := hS g hg; omega) (fun g hg => by rw [hsz, hsz]; have := hS' g hg; omega)).mono ?_
  rintro e w1 ⟨rfl, b1⟩
  have B1 := Seg.hid (chain (below2 w _ _) b1)
  clear b1
  go_wp2
  go_ret
  exact ⟨rfl, B1.out⟩
end Go.Proofs.Yticihnoekffelaa.Ls
namespace Go.Proofs.Yticihnoekffelaa.Ls
set_option maxRecDepth 8000
open Go.RowKit
open Recs
set_option linter.unusedVariables false
theorem szRecordS_none (A : Option Addr) (c : Nat) (l : Int) (w : World) (h3 : -1 ≤ l) (h4 : l ≤ 1048576) :
    Calls Try.prog 98 #[.slice A 0 c, .int .i64 l] w fun e w' => ∃ q, e = .returned (.int .i64 q) ∧ -1 ≤ q ∧ q ≤ l ∧ Lf l 0 q ∧ Below w.heap.size w w' := by
  go_enter Try.func98, Try.ntmps98
  by_cases hlt : l < 0
  · go_wp2
    go_ret
    exact ⟨_, rfl, by omega, by omega, ⟨fun _ => by omega, fun _ => by omega⟩, Below.refl _ _⟩
  go_wp2
  go_loop [1, 5] (fun x i => i = .int .i64 0 ∧ x = .int .i64 l) (fun _ _ => 0)
  case atStart => exact ⟨rfl, by go_num⟩
  case round =>
    obtain ⟨rfl, rfl⟩ := hrel
    go_wp2
    go_ret
    exact ⟨_, rfl, by omega, by omega, ⟨fun _ => by omega, fun _ => by omega⟩, Below.refl _ _⟩

set_option maxHeartbeats 800000 in
theorem szRecordS_core (g o n c : Nat) (us : List Rec) (F : Nat → Nat → Value) (l : Int) (w : World) (S : Nat → Prop) (h3 : -1 ≤ l) (h4 : l ≤ 1048576) (hn : n ≤ 9223372036854775807) (hc : n ≤ c) (hg : g < w.heap.size) (hS : ∀ g, S g → g < w.heap.size) (hnl : us.length = n)
    (hf : ∀ i, i < n → FineRec (us.getD i default)) (he : ∀ i, i < n → ERec w S (F i) (us.getD i default))
    (ha : ∀ i, i < n → ∀ j, j < 6 → w.cell? ⟨g, o + i * 6 + j, none⟩ = some (F i j)) :
    Calls Try.prog 98 #[.slice (some ⟨g, o, none⟩) n c, .int .i64 l] w fun e w' => ∃ q, e = .returned (.int .i64 q) ∧ -1 ≤ q ∧ q ≤ l ∧ Lf l (szL szRec us) q ∧ Below w.heap.size w w' := by
  have HA := Seg.hid ha
  have HK := Seg.hid hf
  have HH := Seg.hid he
  have HN := Seg.hid hnl
  clear ha hf he hnl
  go_enter Try.func98, Try.ntmps98
  by_cases hlt : l - (n : Int) < 0
  · go_wp2
    go_ret
    exact ⟨_, rfl, by omega, by omega, ⟨fun h => absurd h (by omega), fun _ => by unfold szL; rw [HN.out]; omega⟩, Below.refl _ _⟩
  go_wp2
  go_loopw [1, 5] (fun x i wr => ∃ (k : Nat) (r : Int), k ≤ n ∧ x = .int .i64 r ∧ i = .int .i64 k ∧ 0 ≤ r ∧ r ≤ l ∧ Hid (Below w.heap.size w wr ∧ r = l - n - tot szRec (us.take k))) (fun _ i _ => n - (intOf i).toNat)
  case atStart => exact ⟨0, l - n, Nat.zero_le _, rfl, rfl, by omega, by omega, Below.refl _ _, by simp [tot]⟩
  case round =>
    obtain ⟨k, r, hk, rfl, rfl, hr0, hr1, HB⟩ := hrel
    by_cases hlt2 : k < n
    · have CL := cells_later HA.out HB.out.1 hg
      have c0 : wr.cell? ⟨g, o + k * 6, none⟩ = some (F k 0) := CL k ‹k < n› 0 (by omega)
      have c1 : wr.cell? ⟨g, o + k * 6 + 1, none⟩ = some (F k 1) := CL k ‹k < n› 1 (by omega)
      have c2 : wr.cell? ⟨g, o + k * 6 + 2, none⟩ = some (F k 2) := CL k ‹k < n› 2 (by omega)
      have c3 : wr.cell? ⟨g, o + k * 6 + 3, none⟩ = some (F k 3) := CL k ‹k < n› 3 (by omega)
      have c4 : wr.cell? ⟨g, o + k * 6 + 4, none⟩ = some (F k 4) := CL k ‹k < n› 4 (by omega)
      have c5 : wr.cell? ⟨g, o + k * 6 + 5, none⟩ = some (F k 5) := CL k ‹k < n› 5 (by omega)
      clear CL
      have RA : Hid (RecAt wr S (.agg (arrRec (F k))) (us.getD k default)) := ⟨_, rfl, keepsRec _ _ _ _ _ _ (HH.out k hlt2) (fun g hg => HB.out.1.block g (hS g hg)) (fun _ _ => rfl)⟩
      have h0 : (0 : Int) ≤ (k : Int) := by omega
      have h1 : (k : Int) < (n : Int) := by omega
      have hbr : Hid (∀ g, S g → g < wr.heap.size) := fun g hg => Nat.lt_of_lt_of_le (hS g hg) HB.out.1.size
      have TK := Seg.hid (tot_take szRec (ts := us) (j := k) (by rw [HN.out]; exact hlt2))
      have TL := Seg.hid (tot_le szRec us (k + 1))
      have FK := Seg.hid (HK.out k hlt2)
      generalize us.getD k default = uk at *
      go_wp2_with fail
      refine (szRecord_any _ uk r wr S (by omega) (by omega) RA.out hbr.out FK.out).mono ?_
      rintro e w1 ⟨r1, rfl, hr2, hr3, hlf, b1⟩
      have B1 := Seg.hid (chain HB.out.1 b1)
      have FW := Seg.hid hlf
      clear b1 hlf
      by_cases hneg : r1 < 0
      · go_wp2
        go_ret
        refine ⟨-1, rfl, by omega, by omega, ⟨fun h => absurd h (by omega), fun _ => ?_⟩, B1.out⟩
        have m1 := FW.out.2 hneg; have m2 := HB.out.2; have m3 := TK.out; have m4 := TL.out
        unfold szL; rw [HN.out]; omega
      · go_wp2
        go_roundw
        case rel =>
          refine ⟨k + 1, r1, by omega, rfl, by go_num, by omega, by omega, B1.out, ?_⟩
          have m1 := FW.out.1 (by omega); have m2 := HB.out.2; have m3 := TK.out
          omega
        case measure => simp [intOf]; omega
    · have : k = n := by omega
      subst this
      go_wp2
      go_ret
      refine ⟨r, rfl, by omega, by omega, ⟨fun _ => ?_, fun h => absurd h (by omega)⟩, HB.out.1⟩
      have m2 := HB.out.2
      rw [← HN.out, List.take_length, HN.out] at m2
      unfold szL; rw [HN.out]; omega
theorem szRecordS_any (v : Value) (us : List Rec) (l : Int) (w : World) (S : Nat → Prop) (h3 : -1 ≤ l) (h4 : l ≤ 1048576) (hv : LAt 6 ERec w S v us) (hS : ∀ g, S g → g < w.heap.size) (hf : FineL FineRec us) :
    Calls Try.prog 98 #[v, .int .i64 l] w fun e w' => ∃ q, e = .returned (.int .i64 q) ∧ -1 ≤ q ∧ q ≤ l ∧ Lf l (szL szRec us) q ∧ Below w.heap.size w w' := by
  obtain ⟨hn, A, c, rfl, h⟩ := hv
  by_cases hz : us.length = 0
  · obtain rfl := List.length_eq_zero_iff.1 hz
    exact szRecordS_none A c l w h3 h4
  obtain ⟨g, o, F, rfl, hg, hc, hcell, hel⟩ := h.resolve_left hz
  exact szRecordS_core g o us.length c us F l w S h3 h4 hn hc (hS g hg) hS rfl hf.2 hel hcell
set_option maxHeartbeats 400000 in
theorem toRecordS_none (A : Option Addr) (c : Nat) (w : World) :
    Calls Try.prog 99 #[.slice A 0 c] w fun e w' => ∃ v, e = .returned v ∧ (∃ A c, v = .slice A 0 c) ∧ Below w.heap.size w w' := by
  obtain ⟨i0, hi, hz0, hz1, hz2⟩ := info_parts infoZRec
  go_enter Try.func99, Try.ntmps99
  go_wp2_with (at_make; refine wpList_make_full _ rfl _ _ 56 rfl w.heap.size 88 i0 _ 6 Try.underlying56 hi hz0 hz1 .i64 .i64 _ _ 0 rfl rfl rfl rfl (by omega) (by unfold maxLen; omega) (Nat.le_refl _) ?_; intro w1 hown hgr)
  have hb1 := (Below.refl w.heap.size w).grown hgr (Nat.le_refl _) (fun k hk => by cases hk)
  have HB := Seg.hid hb1
  clear hown hgr hb1 hi hz0 hz1 hz2
  go_loop [4] (fun i => i = .int .i64 0) (fun i => 0)
  case atStart => rfl
  case round =>
    subst hrel
    go_wp2
    go_ret
    exact ⟨_, rfl, ⟨_, _, rfl⟩, HB.out⟩
set_option maxHeartbeats 800000 in
theorem toRecordS_core (g o n c : Nat) (us : List Rec) (F0 : Nat → Nat → Value) (w : World) (S : Nat → Prop) (hn : n ≤ 1048576) (hc : n ≤ c) (hg : g < w.heap.size) (hS : ∀ g, S g → g < w.heap.size)
    (hf : ∀ i, i < n → szRec (us.getD i default) ≤ 1048576) (he : ∀ i, i < n → ERec w S (F0 i) (us.getD i default))
    (ha : ∀ i, i < n → ∀ j, j < 6 → w.cell? ⟨g, o + i * 6 + j, none⟩ = some (F0 i j)) :
    Calls Try.prog 99 #[.slice (some ⟨g, o, none⟩) n c] w fun e w' => ∃ F, e = .returned (.slice (some ⟨w.heap.size, 0, none⟩) n n) ∧ Done 88 6 ERec w w' us n n F := by
  obtain ⟨i0, hi, hz0, hz1, hz2⟩ := info_parts infoZRec
  have HA := Seg.hid ha; have HK := Seg.hid hf; have HH := Seg.hid he
  clear ha hf he
  go_enter Try.func99, Try.ntmps99
  go_wp2_with (at_make; refine wpList_make_full _ rfl _ _ 56 rfl w.heap.size 88 i0 _ 6 Try.underlying56 hi hz0 hz1 .i64 .i64 _ _ n rfl rfl rfl rfl (by rw [hz2]; omega) (by unfold maxLen; omega) (Nat.le_refl _) ?_; intro w1 hown hgr)
  have hb1 := (Below.refl w.heap.size w).grown hgr (Nat.le_refl _) (fun k hk => by cases hk)
  have HM := Seg.hid (Mine.of_made hown hown.1)
  have HB := Seg.hid hb1
  clear hown hgr hb1 hi hz0 hz1 hz2
  go_loopw [4] (fun i wr => ∃ (j : Nat) (F : Nat → Value), j ≤ n ∧ i = .int .i64 j ∧ Done 88 6 ERec w wr us n j F) (fun i _ => n - (intOf i).toNat)
  case atStart => exact ⟨0, _, Nat.zero_le _, rfl, HM.out, HB.out, fun i hi => absurd hi (by omega)⟩
  case round =>
    clear HM HB
    obtain ⟨j, F, hj, rfl, HR⟩ := hrel
    by_cases hlt : j < n
    · have CL := cells_later HA.out HR.bel hg
      have c0 : wr.cell? ⟨g, o + j * 6, none⟩ = some (F0 j 0) := CL j ‹j < n› 0 (by omega)
      have c1 : wr.cell? ⟨g, o + j * 6 + 1, none⟩ = some (F0 j 1) := CL j ‹j < n› 1 (by omega)
      have c2 : wr.cell? ⟨g, o + j * 6 + 2, none⟩ = some (F0 j 2) := CL j ‹j < n› 2 (by omega)
      have c3 : wr.cell? ⟨g, o + j * 6 + 3, none⟩ = some (F0 j 3) := CL j ‹j < n› 3 (by omega)
      have c4 : wr.cell? ⟨g, o + j * 6 + 4, none⟩ = some (F0 j 4) := CL j ‹j < n› 4 (by omega)
      have c5 : wr.cell? ⟨g, o + j * 6 + 5, none⟩ = some (F0 j 5) := CL j ‹j < n› 5 (by omega)
      clear CL
      have RA : Hid (RecAt wr S (.agg (arrRec (F0 j))) (us.getD j default)) := ⟨_, rfl, keepsRec _ _ _ _ _ _ (HH.out j hlt) (fun g hg => HR.bel.block g (hS g hg)) (fun _ _ => rfl)⟩
      have FW := Seg.hid (HK.out j hlt)
      have hbr : Hid (∀ g, S g → g < wr.heap.size) := fun g hg => Nat.lt_of_lt_of_le (hS g hg) HR.bel.size
      have ST := Seg.hid (fun w1 vs hv b1 he => Done.step keepsRec growsRec (w1 := w1) HR vs hv b1 he)
      have HM := Seg.hid HR.mine
      have h0 : (0 : Int) ≤ (j : Int) := by omega
      have h1 : (j : Int) < (n : Int) := by omega
      clear HR
      generalize us.getD j default = uj at *
      go_wp2_with fail
      refine (toRecord_any _ uj wr S RA.out hbr.out FW.out).mono ?_
      rintro e w1 ⟨v1, rfl, ⟨f1, rfl, he1⟩, b1⟩
      have S1 := Seg.hid (ST.out w1 (arrRec f1).toList rfl b1 (keepsRec _ _ _ _ _ _ he1 (fun _ _ => rfl) (fun q hq => by
        match q, hq with
        | 0, _ => rfl
        | 1, _ => rfl
        | 2, _ => rfl
        | 3, _ => rfl
        | 4, _ => rfl
        | 5, _ => rfl
        )))
      have M1 : Hid (w1.there w.heap.size (j * 6) (arrRec f1).size) := Own.mine_there (o := j * 6) (m := 6) (HM.out.below b1 HM.out.lt) (by omega)
      have ON := Seg.hid (oneRec he1)
      clear b1 he1
      go_wp2_with (refine wpList_store_mid rfl 88 _ _ rfl w.heap.size (j * 6) (arrRec f1) rfl rfl ?ht infoRec ON.out ?_; case ht => exact M1.out)
      go_roundw
      case rel => exact ⟨j + 1, _, by omega, by go_num, S1.out⟩
      case measure => simp [intOf]; omega
    · have : j = n := by omega
      subst this
      go_wp2
      go_ret
      exact ⟨F, rfl, HR⟩
theorem toRecordS_any (v : Value) (us : List Rec) (w : World) (S : Nat → Prop) (hv : LAt 6 ERec w S v us) (hS : ∀ g, S g → g < w.heap.size) (hf : szL szRec us ≤ 1048576) :
    Calls Try.prog 99 #[v] w fun e w' => ∃ v', e = .returned v' ∧ LAt 6 ERec w' (seg w.heap.size w'.heap.size) v' us ∧ Below w.heap.size w w' := by
  obtain ⟨hn, A, c, rfl, h⟩ := hv
  by_cases hz : us.length = 0
  · obtain rfl := List.length_eq_zero_iff.1 hz
    refine (toRecordS_none A c w).mono fun e w' ⟨v', a1, ⟨A', c', a2⟩, a3⟩ => ⟨v', a1, ?_, a3⟩
    rw [a2]
    exact LAt.nil _ _ _ _
  obtain ⟨g, o, F, rfl, hg, hc, hcell, hel⟩ := h.resolve_left hz
  exact (toRecordS_core g o us.length c us F w S (szL_len _ hf) hc (hS g hg) hS (fun i hi => szL_one _ hf hi) hel hcell).mono fun e w' ⟨F, a1, a2⟩ => ⟨_, a1, a2.all growsRec hn, a2.bel⟩
theorem eqRecordS_none (A A' : Option Addr) (c c' : Nat) (w : World) :
    Calls Try.prog 72 #[.slice A 0 c, .slice A' 0 c'] w fun e w' => e = .returned (.bool true) ∧ Below w.heap.size w w' := by
  go_enter Try.func72, Try.ntmps72
  go_wp2
  go_loop [5] (fun i => i = .int .i64 0) (fun _ => 0)
  case atStart => rfl
  case round =>
    subst hrel
    go_wp2
    go_ret
    exact ⟨rfl, Below.refl _ _⟩
set_option maxHeartbeats 1600000 in
theorem eqRecordS_core (g o g' o' n c c' : Nat) (us : List Rec) (F F' : Nat → Nat → Value) (w : World) (S S' : Nat → Prop) (hn : n ≤ 9223372036854775807) (hc : n ≤ c) (hc' : n ≤ c') (hg : g < w.heap.size) (hg' : g' < w.heap.size) (hS : ∀ g, S g → g < w.heap.size) (hS' : ∀ g, S' g → g < w.heap.size)
    (he : ∀ i, i < n → ERec w S (F i) (us.getD i default)) (he' : ∀ i, i < n → ERec w S' (F' i) (us.getD i default))
    (ha : ∀ i, i < n → ∀ j, j < 6 → w.cell? ⟨g, o + i * 6 + j, none⟩ = some (F i j)) (ha' : ∀ i, i < n → ∀ j, j < 6 → w.cell? ⟨g', o' + i * 6 + j, none⟩ = some (F' i j)) :
    Calls Try.prog 72 #[.slice (some ⟨g, o, none⟩) n c, .slice (some ⟨g', o', none⟩) n c'] w fun e w' => e = .returned (.bool true) ∧ Below w.heap.size w w' := by
  have HA := Seg.hid ha; have HA' := Seg.hid ha'; have HH := Seg.hid he; have HH' := Seg.hid he'
  clear ha ha' he he'
  go_enter Try.func72, Try.ntmps72
  go_wp2
  go_loopw [5] (fun i wr => ∃ (k : Nat), k ≤ n ∧ i = .int .i64 k ∧ Hid (Below w.heap.size w wr)) (fun i _ => n - (intOf i).toNat)
  case atStart => exact ⟨0, Nat.zero_le _, rfl, Below.refl _ _⟩
  case round =>
    obtain ⟨k, hk, rfl, HB⟩ := hrel
    by_cases hlt2 : k < n
    · have CL := cells_later HA.out HB.out hg
      have CL' := cells_later HA'.out HB.out hg'
      have c0 : wr.cell? ⟨g, o + k * 6, none⟩ = some (F k 0) := CL k ‹k < n› 0 (by omega)
      have c1 : wr.cell? ⟨g, o + k * 6 + 1, none⟩ = some (F k 1) := CL k ‹k < n› 1 (by omega)
      have c2 : wr.cell? ⟨g, o + k * 6 + 2, none⟩ = some (F k 2) := CL k ‹k < n› 2 (by omega)
      have c3 : wr.cell? ⟨g, o + k * 6 + 3, none⟩ = some (F k 3) := CL k ‹k < n› 3 (by omega)
      have c4 : wr.cell? ⟨g, o + k * 6 + 4, none⟩ = some (F k 4) := CL k ‹k < n› 4 (by omega)
      have c5 : wr.cell? ⟨g, o + k * 6 + 5, none⟩ = some (F k 5) := CL k ‹k < n› 5 (by omega)
      have d0 : wr.cell? ⟨g', o' + k * 6, none⟩ = some (F' k 0) := CL' k ‹k < n› 0 (by omega)
      have d1 : wr.cell? ⟨g', o' + k * 6 + 1, none⟩ = some (F' k 1) := CL' k ‹k < n› 1 (by omega)
      have d2 : wr.cell? ⟨g', o' + k * 6 + 2, none⟩ = some (F' k 2) := CL' k ‹k < n› 2 (by omega)
      have d3 : wr.cell? ⟨g', o' + k * 6 + 3, none⟩ = some (F' k 3) := CL' k ‹k < n› 3 (by omega)
      have d4 : wr.cell? ⟨g', o' + k * 6 + 4, none⟩ = some (F' k 4) := CL' k ‹k < n› 4 (by omega)
      have d5 : wr.cell? ⟨g', o' + k * 6 + 5, none⟩ = some (F' k 5) := CL' k ‹k < n› 5 (by omega)
      clear CL CL'
      have RA : Hid (RecAt wr.drew S (.agg (arrRec (F k))) (us.getD k default)) := ⟨_, rfl, keepsRec _ _ _ _ _ _ (HH.out k hlt2) (fun g hg => HB.out.drew.block g (hS g hg)) (fun _ _ => rfl)⟩
      have RB : Hid (RecAt wr.drew S' (.agg (arrRec (F' k))) (us.getD k default)) := ⟨_, rfl, keepsRec _ _ _ _ _ _ (HH'.out k hlt2) (fun g hg => HB.out.drew.block g (hS' g hg)) (fun _ _ => rfl)⟩
      have hbr : Hid (∀ g, S g → g < wr.drew.heap.size) := fun g hg => Nat.lt_of_lt_of_le (hS g hg) HB.out.size
      have hbr' : Hid (∀ g, S' g → g < wr.drew.heap.size) := fun g hg => Nat.lt_of_lt_of_le (hS' g hg) HB.out.size
      have h0 : (0 : Int) ≤ (k : Int) := by omega
      have h1 : (k : Int) < (n : Int) := by omega
      generalize us.getD k default = uk at *
      go_wp2_with fail
      go_region_with (go_at_call 91; refine (eqRecord_any _ _ uk wr.drew S S' RA.out RB.out hbr.out hbr'.out).mono ?_; rintro e w1 ⟨rfl, b1⟩; have B1 : Hid (Below w.heap.size w w1) := chainD HB.out b1; clear b1)
      all_goals
        go_wp2
        go_roundw
        case rel => exact ⟨k + 1, by omega, by go_num, B1.out⟩
        case measure => simp [intOf]; omega
    · have : k = n := by omega
      subst this
      go_wp2
      go_ret
      exact ⟨rfl, HB.out⟩
theorem eqRecordS_any (v v' : Value) (us : List Rec) (w : World) (S S' : Nat → Prop) (hv : LAt 6 ERec w S v us) (hv' : LAt 6 ERec w S' v' us) (hS : ∀ g, S g → g < w.heap.size) (hS' : ∀ g, S' g → g < w.heap.size) :
    Calls Try.prog 72 #[v, v'] w fun e w' => e = .returned (.bool true) ∧ Below w.heap.size w w' := by
  obtain ⟨hn, A, c, rfl, h⟩ := hv
  obtain ⟨_, A', c', rfl, h'⟩ := hv'
  by_cases hz : us.length = 0
  · rw [hz]
    exact eqRecordS_none A A' c c' w
  obtain ⟨g, o, F, rfl, hg, hc, hcell, hel⟩ := h.resolve_left hz
  obtain ⟨g', o', F', rfl, hg', hc', hcell', hel'⟩ := h'.resolve_left hz
  exact eqRecordS_core g o g' o' us.length c c' us F F' w S S' hn hc hc' (hS g hg) (hS' g' hg') hS hS' hel hel' hcell hcell'
end Go.Proofs.Yticihnoekffelaa.Ls
namespace Go.Proofs.Yticihnoekffelaa.Ls
set_option maxRecDepth 8000
open Go.RowKit
open Recs
set_option linter.unusedVariables false
def EBat : Elt Bat := fun w S f u => f 0 = .int .i64 u.base ∧ f 1 = .int .i64 u.epoch ∧ f 2 = .int .i64 u.producer ∧ f 3 = .int .i64 u.turn ∧ f 4 = .int .i64 u.seq ∧ f 5 = .int .i64 u.flags ∧ LAt 6 ERec w S (f 6) u.recs
theorem keepsBat : Keeps 7 EBat := fun w w' S f f' t h hk hf => by
  obtain ⟨h0, h1, h2, h3, h4, h5, h6⟩ := h
  exact ⟨by rw [hf 0 (by omega)]; exact h0, by rw [hf 1 (by omega)]; exact h1, by rw [hf 2 (by omega)]; exact h2, by rw [hf 3 (by omega)]; exact h3, by rw [hf 4 (by omega)]; exact h4, by rw [hf 5 (by omega)]; exact h5, by rw [hf 6 (by omega)]; exact h6.keep keepsRec hk⟩
theorem growsBat : Grows EBat := fun w S S' f t h hs => by
  obtain ⟨h0, h1, h2, h3, h4, h5, h6⟩ := h
  exact ⟨h0, h1, h2, h3, h4, h5, h6.mono growsRec hs⟩
def arrBat (f : Nat → Value) : Array Value := #[f 0, f 1, f 2, f 3, f 4, f 5, f 6]
theorem oneBat {w : World} {S : Nat → Prop} {f : Nat → Value} {u : Bat} (h : EBat w S f u) : (arrBat f).all (·.oneCell') = true := by
  obtain ⟨h0, h1, h2, h3, h4, h5, h6⟩ := h
  have o0 : (f 0).oneCell' = true := by rw [h0]; rfl
  have o1 : (f 1).oneCell' = true := by rw [h1]; rfl
  have o2 : (f 2).oneCell' = true := by rw [h2]; rfl
  have o3 : (f 3).oneCell' = true := by rw [h3]; rfl
  have o4 : (f 4).oneCell' = true := by rw [h4]; rfl
  have o5 : (f 5).oneCell' = true := by rw [h5]; rfl
  have o6 : (f 6).oneCell' = true := h6.one
  simp [arrBat, o0, o1, o2, o3, o4, o5, o6]
def BatAt (w : World) (S : Nat → Prop) (v : Value) (u : Bat) : Prop := ∃ f, v = .agg (arrBat f) ∧ EBat w S f u
abbrev BatsAt := LAt 7 EBat
theorem BatAt.keep {w w' : World} {S : Nat → Prop} {v : Value} {u : Bat} (h : BatAt w S v u) (hk : ∀ g, S g → w'.heap[g]? = w.heap[g]?) : BatAt w' S v u := by
  obtain ⟨f, h1, h2⟩ := h
  exact ⟨f, h1, keepsBat _ _ _ _ _ _ h2 hk (fun _ _ => rfl)⟩
theorem BatAt.mono {w : World} {S S' : Nat → Prop} {v : Value} {u : Bat} (h : BatAt w S v u) (hs : ∀ g, S g → S' g) : BatAt w S' v u := by
  obtain ⟨f, h1, h2⟩ := h
  exact ⟨f, h1, growsBat _ _ _ _ _ h2 hs⟩
theorem BatAt.below {w w' : World} {B : Nat} {S : Nat → Prop} {v : Value} {u : Bat} (h : BatAt w S v u) (hb : Below B w w') (hs : ∀ g, S g → g < B) : BatAt w' S v u := h.keep fun g hg => hb.block g (hs g hg)
def szBat (u : Bat) : Nat := szL szRec (u.recs)
def FineBat (u : Bat) : Prop := I64 u.base ∧ I64 u.epoch ∧ I64 u.producer ∧ I64 u.turn ∧ I64 u.seq ∧ I64 u.flags ∧ FineL FineRec u.recs
theorem infoBat : (Try.prog.info? 58).map (·.size) = some 7 := by kernel_rfl
theorem infoLBat : (Try.prog.info? 120).map (·.size) = some 7 := by kernel_rfl
theorem infoZBat : (Try.prog.info? 58).map (fun i => (i.zero, i.size, i.bytes)) = some (some (.agg #[.int .i64 0, .int .i64 0, .int .i64 0, .int .i64 0, .int .i64 0, .int .i64 0, .slice none 0 0]), 7, 72) := by kernel_rfl
set_option maxHeartbeats 800000 in
theorem szBatch_any (v : Value) (u : Bat) (l : Int) (w : World) (S : Nat → Prop) (h3 : -1 ≤ l) (h4 : l ≤ 1048576) (hv : BatAt w S v u) (hS : ∀ g, S g → g < w.heap.size) (hf : FineBat u) :
    Calls Try.prog 92 #[v, .int .i64 l] w fun e w' => ∃ q, e = .returned (.int .i64 q) ∧ -1 ≤ q ∧ q ≤ l ∧ Lf l (szBat u) q ∧ Below w.heap.size w w' := by
  obtain ⟨f, rfl, y0, y1, y2, y3, y4, y5, y6⟩ := hv
  try simp only [arrBat]
  rw [show f 0 = _ from y0]
  clear y0
  rw [show f 1 = _ from y1]
  clear y1
  rw [show f 2 = _ from y2]
  clear y2
  rw [show f 3 = _ from y3]
  clear y3
  rw [show f 4 = _ from y4]
  clear y4
  rw [show f 5 = _ from y5]
  clear y5
  obtain ⟨A6, c6, g6⟩ := y6.form
  rw [g6] at y6 ⊢
  have H6 := Seg.hid y6
  clear y6 g6
  obtain ⟨z0, z1, z2, z3, z4, z5, z6⟩ := hf
  have Z6 := Seg.hid z6
  clear z0 z1 z2 z3 z4 z5 z6
  go_enter Try.func92, Try.ntmps92
  go_wp2_with fail
  refine (szRecordS_any _ u.recs _ (w.alloc _) S (by omega) (by omega) (H6.out.below keepsRec (below1 w _) hS) (fun g hg => by rw [hsz]; have := hS g hg; omega) Z6.out).mono ?_
  rintro e w1 ⟨q1, rfl, a1, b1, L1', d1⟩
  have B1 := Seg.hid (chain (below1 w _) d1)
  have L1 := Seg.hid L1'
  clear d1 L1'
  by_cases k6 : q1 < 0
  · go_wp2
    go_ret
    exact ⟨_, rfl, by omega, by omega, by have m0 := L1.out.2 (by omega); simp only [szBat]; exact ⟨fun _ => by omega, fun _ => by omega⟩, B1.out⟩
  go_wp2
  go_ret
  exact ⟨_, rfl, by omega, by omega, by have m0 := L1.out.1 (by omega); simp only [szBat]; exact ⟨fun _ => by omega, fun _ => by omega⟩, B1.out⟩
set_option maxHeartbeats 1600000 in
theorem toBatch_any (v : Value) (u : Bat) (w : World) (S : Nat → Prop) (hv : BatAt w S v u) (hS : ∀ g, S g → g < w.heap.size) (hf : szBat u ≤ 1048576) :
    Calls Try.prog 93 #[v] w fun e w' => ∃ v', e = .returned v' ∧ BatAt w' (seg w.heap.size w'.heap.size) v' u ∧ Below w.heap.size w w' := by
  obtain ⟨f, rfl, y0, y1, y2, y3, y4, y5, y6⟩ := hv
  try simp only [arrBat]
  rw [show f 0 = _ from y0]
  clear y0
  rw [show f 1 = _ from y1]
  clear y1
  rw [show f 2 = _ from y2]
  clear y2
  rw [show f 3 = _ from y3]
  clear y3
  rw [show f 4 = _ from y4]
  clear y4
  rw [show f 5 = _ from y5]
  clear y5
  obtain ⟨A6, c6, g6⟩ := y6.form
  rw [g6] at y6 ⊢
  have H6 := Seg.hid y6
  clear y6 g6
  unfold szBat at hf
  go_enter Try.func93, Try.ntmps93
  go_wp2_with fail
  refine (toRecordS_any _ u.recs (((w.alloc _).alloc _).alloc _) S (H6.out.below keepsRec (below3 w _ _ _) hS) (fun g hg => by rw [hsz, hsz, hsz]; have := hS g hg; omega) (by omega)).mono ?_
  rintro e w1 ⟨v1, rfl, l1, b1⟩
  have B1 := Seg.hid (chain (below3 w _ _ _) b1)
  have Ta1 : Hid (w1.heap[w.heap.size]? = some (.cells #[.int .i64 u.base, .int .i64 u.epoch, .int .i64 u.producer, .int .i64 u.turn, .int .i64 u.seq, .int .i64 u.flags, .slice A6 u.recs.length c6] 120 (0, 0))) := (b1.block w.heap.size (by rw [hsz, hsz, hsz]; omega)).trans (at3z w _ _ _)
  have Tr1 : Hid (w1.heap[w.heap.size + 1]? = some (.cells #[.int .i64 0, .int .i64 0, .int .i64 0, .int .i64 0, .int .i64 0, .int .i64 0, .slice none 0 0] 58 (0, 0))) := (b1.block (w.heap.size + 1) (by rw [hsz, hsz, hsz]; omega)).trans (at3 w _ _ _)
  have To1 : Hid (w1.heap[w.heap.size + 1 + 1]? = some (.cells #[.int .i64 u.base, .int .i64 u.epoch, .int .i64 u.producer, .int .i64 u.turn, .int .i64 u.seq, .int .i64 u.flags, .slice none 0 0] 58 (0, 0))) := (b1.block (w.heap.size + 1 + 1) (by rw [hsz, hsz, hsz]; omega)).trans (Cells.at3' w _ _ _)
  have s1 : w.heap.size + 3 ≤ w1.heap.size := by have := b1.size; rw [hsz, hsz, hsz] at this; omega
  have M1 : Hid (LAt 6 ERec w1 (seg (w.heap.size + 3) w1.heap.size) v1 u.recs) := by
    rw [hsz, hsz, hsz] at l1
    exact l1
  obtain ⟨Y1, x1, r1⟩ := M1.out.form
  subst r1
  clear b1 l1
  have N11 := M1
  have po16 : (w1).cell? ⟨w.heap.size + 1 + 1, 6, none⟩ = some (.slice none 0 0) := cell_of_row (w1) _ 6 _ _ (0, 0) (To1.out)
  have pf16 : (w1).frozen? ⟨w.heap.size + 1 + 1, 6, none⟩ = false := frozen_of_row (w1) _ 6 _ _ (To1.out)
  have qo16 : Hid (((w1.setCell ⟨w.heap.size + 1 + 1, 6, none⟩ (.slice Y1 u.recs.length x1))).heap[w.heap.size + 1 + 1]? = some (.cells #[.int .i64 u.base, .int .i64 u.epoch, .int .i64 u.producer, .int .i64 u.turn, .int .i64 u.seq, .int .i64 u.flags, .slice Y1 u.recs.length x1] 58 (0, 0))) := heap_setCell_same (w1) (w.heap.size + 1 + 1) 6 _ _ (.slice Y1 u.recs.length x1) (To1.out)
  have Uo1 := Seg.hid (qo16.out)
  have Ur1 := Seg.hid ((heap_setCell_other (w1) ⟨w.heap.size + 1 + 1, 6, none⟩ (w.heap.size + 1) (.slice Y1 u.recs.length x1) (by simp)).trans (Tr1.out))
  have Ua1 := Seg.hid ((heap_setCell_other (w1) ⟨w.heap.size + 1 + 1, 6, none⟩ w.heap.size (.slice Y1 u.recs.length x1) (by simp; omega)).trans (Ta1.out))
  have D1 : Hid (Below w.heap.size w (w1.setCell ⟨w.heap.size + 1 + 1, 6, none⟩ (.slice Y1 u.recs.length x1))) := (B1.out).setCell (p := ⟨w.heap.size + 1 + 1, 6, none⟩) (by simp; omega) (.slice Y1 u.recs.length x1)
  have N11' : Hid (LAt 6 ERec (w1.setCell ⟨w.heap.size + 1 + 1, 6, none⟩ (.slice Y1 u.recs.length x1)) (seg (w.heap.size + 3) w1.heap.size) (.slice Y1 u.recs.length x1) u.recs) := N11.out.keep keepsRec (fun g hg => by have := hg.1; rw [heap_setCell_other _ _ _ _ (by show _ ≠ w.heap.size + 1 + 1; omega)])
  obtain ⟨fx, hfx⟩ : ∃ fx : Nat → Value, fx = (fun q => if q = 0 then .int .i64 u.base else if q = 1 then .int .i64 u.epoch else if q = 2 then .int .i64 u.producer else if q = 3 then .int .i64 u.turn else if q = 4 then .int .i64 u.seq else if q = 5 then .int .i64 u.flags else .slice Y1 u.recs.length x1) := ⟨_, rfl⟩
  have HX := Seg.hid hfx
  have Uz : Hid ((w1.setCell ⟨w.heap.size + 1 + 1, 6, none⟩ (.slice Y1 u.recs.length x1)).heap[w.heap.size + 1 + 1]? = some (.cells (arrBat fx) 58 (0, 0))) := by
    show _ = _
    rw [hfx]
    exact Uo1.out
  clear hfx
  have H5a := Cells.there_of Ur1.out
  have H5 : Hid ((w1.setCell ⟨w.heap.size + 1 + 1, 6, none⟩ (.slice Y1 u.recs.length x1)).there (w.heap.size + 1) 0 (arrBat fx).size) := H5a
  clear H5a
  have H4 := Seg.hid (Cells.whole (vs := arrBat fx) Ur1.out rfl)
  have B9 := Seg.hid (Cells.below_setCells (g := w.heap.size + 1) (by omega) (arrBat fx).toList 0 _ _ D1.out)
  have F1 : Hid (LAt 6 ERec ((w1.setCell ⟨w.heap.size + 1 + 1, 6, none⟩ (.slice Y1 u.recs.length x1)).setCells (w.heap.size + 1) 0 (arrBat fx).toList) (seg w.heap.size ((w1.setCell ⟨w.heap.size + 1 + 1, 6, none⟩ (.slice Y1 u.recs.length x1)).setCells (w.heap.size + 1) 0 (arrBat fx).toList).heap.size) (fx 6) u.recs) := by
    show LAt 6 ERec _ _ _ _
    rw [show fx 6 = .slice Y1 u.recs.length x1 by rw [HX.out]; rfl]
    refine (N11'.out.keep keepsRec (fun g hg => ?_)).mono growsRec (fun g hg => ⟨by have := hg.1; omega, ?_⟩)
    · have := hg.1
      rw [Cells.heap_setCells_other _ _ (by omega)]
    · rw [Cells.size_setCells]
      have := hg.2
      simpa using this
  have EX : Hid (EBat ((w1.setCell ⟨w.heap.size + 1 + 1, 6, none⟩ (.slice Y1 u.recs.length x1)).setCells (w.heap.size + 1) 0 (arrBat fx).toList) (seg w.heap.size ((w1.setCell ⟨w.heap.size + 1 + 1, 6, none⟩ (.slice Y1 u.recs.length x1)).setCells (w.heap.size + 1) 0 (arrBat fx).toList).heap.size) fx u) := ⟨by rw [HX.out]; rfl, by rw [HX.out]; rfl, by rw [HX.out]; rfl, by rw [HX.out]; rfl, by rw [HX.out]; rfl, by rw [HX.out]; rfl, F1.out⟩
  have ON := Seg.hid (oneBat EX.out)
  clear Ta1 Tr1 To1 Ua1 M1
  go_upto_region 9 with fail
  clear po16 pf16
  generalize (w1.setCell ⟨w.heap.size + 1 + 1, 6, none⟩ (.slice Y1 u.recs.length x1)) = wz at *
  go_wp2_with (first | (refine wpList_load_row rfl 58 _ rfl (w.heap.size + 1 + 1) rfl _ _ _ _ Uz.out Try.underlying58 rfl infoBat ?_) | (refine wpList_store_mid rfl 58 _ _ rfl (w.heap.size + 1) 0 (arrBat fx) rfl rfl H5.out infoBat ON.out ?_))
  exact bodyPost_ret (v := .agg (arrBat fx)) (results_cell_row rfl _ _ (w.heap.size + 1) _ _ _ _ rfl H4.out Try.underlying58 rfl infoBat) rfl ⟨_, rfl, ⟨fx, rfl, EX.out⟩, B9.out⟩
set_option maxHeartbeats 1600000 in
theorem eqBatch_any (v v' : Value) (u : Bat) (w : World) (S S' : Nat → Prop) (hv : BatAt w S v u) (hv' : BatAt w S' v' u) (hS : ∀ g, S g → g < w.heap.size) (hS' : ∀ g, S' g → g < w.heap.size) :
    Calls Try.prog 43 #[v, v'] w fun e w' => e = .returned (.bool true) ∧ Below w.heap.size w w' := by
  obtain ⟨f, rfl, y0, y1, y2, y3, y4, y5, y6⟩ := hv
  obtain ⟨f', rfl, y0', y1', y2', y3', y4', y5', y6'⟩ := hv'
  try simp only [arrBat]
  rw [show f 0 = _ from y0]
  clear y0
  rw [show f 1 = _ from y1]
  clear y1
  rw [show f 2 = _ from y2]
  clear y2
  rw [show f 3 = _ from y3]
  clear y3
  rw [show f 4 = _ from y4]
  clear y4
  rw [show f 5 = _ from y5]
  clear y5
  obtain ⟨A6, c6, g6⟩ := y6.form
  rw [g6] at y6 ⊢
  have H6 := Seg.hid y6
  clear y6 g6
  try simp only [arrBat]
  rw [show f' 0 = _ from y0']
  clear y0'
  rw [show f' 1 = _ from y1']
  clear y1'
  rw [show f' 2 = _ from y2']
  clear y2'
  rw [show f' 3 = _ from y3']
  clear y3'
  rw [show f' 4 = _ from y4']
  clear y4'
  rw [show f' 5 = _ from y5']
  clear y5'
  obtain ⟨A6', c6', g6'⟩ := y6'.form
  rw [g6'] at y6' ⊢
  have H6' := Seg.hid y6'
  clear y6' g6'
  go_enter Try.func43, Try.ntmps43
  go_wp2_with fail
  refine (eqRecordS_any _ _ u.recs ((w.alloc _).alloc _) S S' (H6.out.below keepsRec (below2 w _ _) hS) (H6'.out.below keepsRec (below2 w _ _) hS') (fun g hg => by rw [hsz, hsz]; have := hS g hg; omega) (fun g hg => by rw [hsz, hsz]; have := hS' g hg; omega)).mono ?_
  rintro e w1 ⟨rfl, b1⟩
  have B1 := Seg.hid (chain (below2 w _ _) b1)
  clear b1
  go_wp2
  go_ret
  exact ⟨rfl, B1.out⟩
end Go.Proofs.Yticihnoekffelaa.Ls
