/- Txn: how it lies in memory; what the law's measure and copier answer. -/
import Derived.Test.YtdhicmbfknagjaaLsI
namespace Go.Proofs.Ytdhicmbfknagjaa.Ls
set_option maxRecDepth 8000
open Go.RowKit
open Recs
set_option linter.unusedVariables false
structure Txn where
  name : ByteArray
  producer : Int
  turn : Int
  opn : Bool
  parts : List Int
  deriving Inhabited
def ETxn : Elt Txn := fun w S f u => f 0 = .string u.name ∧ f 1 = .int .i64 u.producer ∧ f 2 = .int .i64 u.turn ∧ f 3 = .bool u.opn ∧ IntsAt w S (f 4) u.parts
theorem keepsTxn : Keeps 5 ETxn := fun w w' S f f' t h hk hf => by
  obtain ⟨h0, h1, h2, h3, h4⟩ := h
  exact ⟨by rw [hf 0 (by omega)]; exact h0, by rw [hf 1 (by omega)]; exact h1, by rw [hf 2 (by omega)]; exact h2, by rw [hf 3 (by omega)]; exact h3, by rw [hf 4 (by omega)]; exact h4.keep keepsI hk⟩
theorem growsTxn : Grows ETxn := fun w S S' f t h hs => by
  obtain ⟨h0, h1, h2, h3, h4⟩ := h
  exact ⟨h0, h1, h2, h3, h4.mono growsI hs⟩
def arrTxn (f : Nat → Value) : Array Value := #[f 0, f 1, f 2, f 3, f 4]
theorem oneTxn {w : World} {S : Nat → Prop} {f : Nat → Value} {u : Txn} (h : ETxn w S f u) : (arrTxn f).all (·.oneCell') = true := by
  obtain ⟨h0, h1, h2, h3, h4⟩ := h
  have o0 : (f 0).oneCell' = true := by rw [h0]; rfl
  have o1 : (f 1).oneCell' = true := by rw [h1]; rfl
  have o2 : (f 2).oneCell' = true := by rw [h2]; rfl
  have o3 : (f 3).oneCell' = true := by rw [h3]; rfl
  have o4 : (f 4).oneCell' = true := h4.one
  simp [arrTxn, o0, o1, o2, o3, o4]
def TxnAt (w : World) (S : Nat → Prop) (v : Value) (u : Txn) : Prop := ∃ f, v = .agg (arrTxn f) ∧ ETxn w S f u
abbrev TxnsAt := LAt 5 ETxn
theorem TxnAt.keep {w w' : World} {S : Nat → Prop} {v : Value} {u : Txn} (h : TxnAt w S v u) (hk : ∀ g, S g → w'.heap[g]? = w.heap[g]?) : TxnAt w' S v u := by
  obtain ⟨f, h1, h2⟩ := h
  exact ⟨f, h1, keepsTxn _ _ _ _ _ _ h2 hk (fun _ _ => rfl)⟩
theorem TxnAt.mono {w : World} {S S' : Nat → Prop} {v : Value} {u : Txn} (h : TxnAt w S v u) (hs : ∀ g, S g → S' g) : TxnAt w S' v u := by
  obtain ⟨f, h1, h2⟩ := h
  exact ⟨f, h1, growsTxn _ _ _ _ _ h2 hs⟩
theorem TxnAt.below {w w' : World} {B : Nat} {S : Nat → Prop} {v : Value} {u : Txn} (h : TxnAt w S v u) (hb : Below B w w') (hs : ∀ g, S g → g < B) : TxnAt w' S v u := h.keep fun g hg => hb.block g (hs g hg)
def szTxn (u : Txn) : Nat := u.name.size + (u.parts).length
def FineTxn (u : Txn) : Prop := u.name.size ≤ maxLen ∧ I64 u.producer ∧ I64 u.turn ∧ True ∧ FineL I64 u.parts
theorem infoTxn : (Try.prog.info? 72).map (·.size) = some 5 := by kernel_rfl
theorem infoLTxn : (Try.prog.info? 112).map (·.size) = some 5 := by kernel_rfl
theorem infoZTxn : (Try.prog.info? 72).map (fun i => (i.zero, i.size, i.bytes)) = some (some (.agg #[.string ByteArray.empty, .int .i64 0, .int .i64 0, .bool false, .slice none 0 0]), 5, 64) := by kernel_rfl
set_option maxHeartbeats 800000 in
theorem szTxn_any (v : Value) (u : Txn) (l : Int) (w : World) (S : Nat → Prop) (h3 : -1 ≤ l) (h4 : l ≤ 1048576) (hv : TxnAt w S v u) (hS : ∀ g, S g → g < w.heap.size) (hf : FineTxn u) :
    Calls Try.prog 71 #[v, .int .i64 l] w fun e w' => ∃ q, e = .returned (.int .i64 q) ∧ -1 ≤ q ∧ q ≤ l ∧ Lf l (szTxn u) q ∧ Below w.heap.size w w' := by
  obtain ⟨f, rfl, y0, y1, y2, y3, y4⟩ := hv
  try simp only [arrTxn]
  rw [show f 0 = _ from y0]
  clear y0
  rw [show f 1 = _ from y1]
  clear y1
  rw [show f 2 = _ from y2]
  clear y2
  rw [show f 3 = _ from y3]
  clear y3
  obtain ⟨A4, c4, g4⟩ := y4.form
  rw [g4] at y4 ⊢
  have H4 := Seg.hid y4
  clear y4 g4
  obtain ⟨z0, z1, z2, z3, z4⟩ := hf
  unfold maxLen at z0
  have Z4 := Seg.hid z4
  clear z1 z2 z3 z4
  go_enter Try.func71, Try.ntmps71
  by_cases k0 : l - (u.name.size : Int) < 0
  · go_wp2
    go_ret
    exact ⟨_, rfl, by omega, by omega, by simp only [szTxn]; exact ⟨fun _ => by omega, fun _ => by omega⟩, below1 _ _⟩
  go_wp2_with fail
  refine (szIntS_any _ u.parts _ (w.alloc _) S (by omega) (by omega) (H4.out.below keepsI (below1 w _) hS)).mono ?_
  rintro e w1 ⟨q1, rfl, a1, b1, L1', d1⟩
  have B1 := Seg.hid (chain (below1 w _) d1)
  have L1 := Seg.hid L1'
  clear d1 L1'
  by_cases k4 : q1 < 0
  · go_wp2
    go_ret
    exact ⟨_, rfl, by omega, by omega, by have m0 := L1.out.2 (by omega); simp only [szTxn]; exact ⟨fun _ => by omega, fun _ => by omega⟩, B1.out⟩
  go_wp2
  go_ret
  exact ⟨_, rfl, by omega, by omega, by have m0 := L1.out.1 (by omega); simp only [szTxn]; exact ⟨fun _ => by omega, fun _ => by omega⟩, B1.out⟩
set_option maxHeartbeats 1600000 in
theorem toTxn_any (v : Value) (u : Txn) (w : World) (S : Nat → Prop) (hv : TxnAt w S v u) (hS : ∀ g, S g → g < w.heap.size) (hf : szTxn u ≤ 1048576) :
    Calls Try.prog 75 #[v] w fun e w' => ∃ v', e = .returned v' ∧ TxnAt w' (seg w.heap.size w'.heap.size) v' u ∧ Below w.heap.size w w' := by
  obtain ⟨f, rfl, y0, y1, y2, y3, y4⟩ := hv
  try simp only [arrTxn]
  rw [show f 0 = _ from y0]
  clear y0
  rw [show f 1 = _ from y1]
  clear y1
  rw [show f 2 = _ from y2]
  clear y2
  rw [show f 3 = _ from y3]
  clear y3
  obtain ⟨A4, c4, g4⟩ := y4.form
  rw [g4] at y4 ⊢
  have H4 := Seg.hid y4
  clear y4 g4
  unfold szTxn at hf
  go_enter Try.func75, Try.ntmps75
  go_wp2_with fail
  refine (toIntS_any _ u.parts (((w.alloc _).alloc _).alloc _) S (H4.out.below keepsI (below3 w _ _ _) hS) (fun g hg => by rw [hsz, hsz, hsz]; have := hS g hg; omega) (by omega)).mono ?_
  rintro e w1 ⟨v1, rfl, l1, b1⟩
  have B1 := Seg.hid (chain (below3 w _ _ _) b1)
  have Ta1 : Hid (w1.heap[w.heap.size]? = some (.cells #[.string u.name, .int .i64 u.producer, .int .i64 u.turn, .bool u.opn, .slice A4 u.parts.length c4] 112 (0, 0))) := (b1.block w.heap.size (by rw [hsz, hsz, hsz]; omega)).trans (at3z w _ _ _)
  have Tr1 : Hid (w1.heap[w.heap.size + 1]? = some (.cells #[.string ByteArray.empty, .int .i64 0, .int .i64 0, .bool false, .slice none 0 0] 72 (0, 0))) := (b1.block (w.heap.size + 1) (by rw [hsz, hsz, hsz]; omega)).trans (at3 w _ _ _)
  have To1 : Hid (w1.heap[w.heap.size + 1 + 1]? = some (.cells #[.string u.name, .int .i64 u.producer, .int .i64 u.turn, .bool u.opn, .slice none 0 0] 72 (0, 0))) := (b1.block (w.heap.size + 1 + 1) (by rw [hsz, hsz, hsz]; omega)).trans (Cells.at3' w _ _ _)
  have s1 : w.heap.size + 3 ≤ w1.heap.size := by have := b1.size; rw [hsz, hsz, hsz] at this; omega
  have M1 : Hid (IntsAt w1 (seg (w.heap.size + 3) w1.heap.size) v1 u.parts) := by
    rw [hsz, hsz, hsz] at l1
    exact l1
  obtain ⟨Y1, x1, r1⟩ := M1.out.form
  subst r1
  clear b1 l1
  have N11 := M1
  have po14 : (w1).cell? ⟨w.heap.size + 1 + 1, 4, none⟩ = some (.slice none 0 0) := cell_of_row (w1) _ 4 _ _ (0, 0) (To1.out)
  have pf14 : (w1).frozen? ⟨w.heap.size + 1 + 1, 4, none⟩ = false := frozen_of_row (w1) _ 4 _ _ (To1.out)
  have qo14 : Hid (((w1.setCell ⟨w.heap.size + 1 + 1, 4, none⟩ (.slice Y1 u.parts.length x1))).heap[w.heap.size + 1 + 1]? = some (.cells #[.string u.name, .int .i64 u.producer, .int .i64 u.turn, .bool u.opn, .slice Y1 u.parts.length x1] 72 (0, 0))) := heap_setCell_same (w1) (w.heap.size + 1 + 1) 4 _ _ (.slice Y1 u.parts.length x1) (To1.out)
  have Uo1 := Seg.hid (qo14.out)
  have Ur1 := Seg.hid ((heap_setCell_other (w1) ⟨w.heap.size + 1 + 1, 4, none⟩ (w.heap.size + 1) (.slice Y1 u.parts.length x1) (by simp)).trans (Tr1.out))
  have Ua1 := Seg.hid ((heap_setCell_other (w1) ⟨w.heap.size + 1 + 1, 4, none⟩ w.heap.size (.slice Y1 u.parts.length x1) (by simp; omega)).trans (Ta1.out))
  have D1 : Hid (Below w.heap.size w (w1.setCell ⟨w.heap.size + 1 + 1, 4, none⟩ (.slice Y1 u.parts.length x1))) := (B1.out).setCell (p := ⟨w.heap.size + 1 + 1, 4, none⟩) (by simp; omega) (.slice Y1 u.parts.length x1)
  have N11' : Hid (IntsAt (w1.setCell ⟨w.heap.size + 1 + 1, 4, none⟩ (.slice Y1 u.parts.length x1)) (seg (w.heap.size + 3) w1.heap.size) (.slice Y1 u.parts.length x1) u.parts) := N11.out.keep keepsI (fun g hg => by have := hg.1; rw [heap_setCell_other _ _ _ _ (by show _ ≠ w.heap.size + 1 + 1; omega)])
  obtain ⟨fx, hfx⟩ : ∃ fx : Nat → Value, fx = (fun q => if q = 0 then .string u.name else if q = 1 then .int .i64 u.producer else if q = 2 then .int .i64 u.turn else if q = 3 then .bool u.opn else .slice Y1 u.parts.length x1) := ⟨_, rfl⟩
  have HX := Seg.hid hfx
  have Uz : Hid ((w1.setCell ⟨w.heap.size + 1 + 1, 4, none⟩ (.slice Y1 u.parts.length x1)).heap[w.heap.size + 1 + 1]? = some (.cells (arrTxn fx) 72 (0, 0))) := by
    show _ = _
    rw [hfx]
    exact Uo1.out
  clear hfx
  have H5a := Cells.there_of Ur1.out
  have H5 : Hid ((w1.setCell ⟨w.heap.size + 1 + 1, 4, none⟩ (.slice Y1 u.parts.length x1)).there (w.heap.size + 1) 0 (arrTxn fx).size) := H5a
  clear H5a
  have H4 := Seg.hid (Cells.whole (vs := arrTxn fx) Ur1.out rfl)
  have B9 := Seg.hid (Cells.below_setCells (g := w.heap.size + 1) (by omega) (arrTxn fx).toList 0 _ _ D1.out)
  have F1 : Hid (IntsAt ((w1.setCell ⟨w.heap.size + 1 + 1, 4, none⟩ (.slice Y1 u.parts.length x1)).setCells (w.heap.size + 1) 0 (arrTxn fx).toList) (seg w.heap.size ((w1.setCell ⟨w.heap.size + 1 + 1, 4, none⟩ (.slice Y1 u.parts.length x1)).setCells (w.heap.size + 1) 0 (arrTxn fx).toList).heap.size) (fx 4) u.parts) := by
    show IntsAt _ _ _ _
    rw [show fx 4 = .slice Y1 u.parts.length x1 by rw [HX.out]; rfl]
    refine (N11'.out.keep keepsI (fun g hg => ?_)).mono growsI (fun g hg => ⟨by have := hg.1; omega, ?_⟩)
    · have := hg.1
      rw [Cells.heap_setCells_other _ _ (by omega)]
    · rw [Cells.size_setCells]
      have := hg.2
      simpa using this
  have EX : Hid (ETxn ((w1.setCell ⟨w.heap.size + 1 + 1, 4, none⟩ (.slice Y1 u.parts.length x1)).setCells (w.heap.size + 1) 0 (arrTxn fx).toList) (seg w.heap.size ((w1.setCell ⟨w.heap.size + 1 + 1, 4, none⟩ (.slice Y1 u.parts.length x1)).setCells (w.heap.size + 1) 0 (arrTxn fx).toList).heap.size) fx u) := ⟨by rw [HX.out]; rfl, by rw [HX.out]; rfl, by rw [HX.out]; rfl, by rw [HX.out]; rfl, F1.out⟩
  have ON := Seg.hid (oneTxn EX.out)
  clear Ta1 Tr1 To1 Ua1 M1
  go_upto_region 7 with fail
  clear po14 pf14
  generalize (w1.setCell ⟨w.heap.size + 1 + 1, 4, none⟩ (.slice Y1 u.parts.length x1)) = wz at *
  go_wp2_with (first | (refine wpList_load_row rfl 72 _ rfl (w.heap.size + 1 + 1) rfl _ _ _ _ Uz.out Try.underlying72 rfl infoTxn ?_) | (refine wpList_store_mid rfl 72 _ _ rfl (w.heap.size + 1) 0 (arrTxn fx) rfl rfl H5.out infoTxn ON.out ?_))
  exact bodyPost_ret (v := .agg (arrTxn fx)) (results_cell_row rfl _ _ (w.heap.size + 1) _ _ _ _ rfl H4.out Try.underlying72 rfl infoTxn) rfl ⟨_, rfl, ⟨fx, rfl, EX.out⟩, B9.out⟩
set_option maxHeartbeats 1600000 in
theorem eqTxn_any (v v' : Value) (u : Txn) (w : World) (S S' : Nat → Prop) (hv : TxnAt w S v u) (hv' : TxnAt w S' v' u) (hS : ∀ g, S g → g < w.heap.size) (hS' : ∀ g, S' g → g < w.heap.size) :
    Calls Try.prog 81 #[v, v'] w fun e w' => e = .returned (.bool true) ∧ Below w.heap.size w w' := by
  obtain ⟨f, rfl, y0, y1, y2, y3, y4⟩ := hv
  obtain ⟨f', rfl, y0', y1', y2', y3', y4'⟩ := hv'
  try simp only [arrTxn]
  rw [show f 0 = _ from y0]
  clear y0
  rw [show f 1 = _ from y1]
  clear y1
  rw [show f 2 = _ from y2]
  clear y2
  rw [show f 3 = _ from y3]
  clear y3
  obtain ⟨A4, c4, g4⟩ := y4.form
  rw [g4] at y4 ⊢
  have H4 := Seg.hid y4
  clear y4 g4
  try simp only [arrTxn]
  rw [show f' 0 = _ from y0']
  clear y0'
  rw [show f' 1 = _ from y1']
  clear y1'
  rw [show f' 2 = _ from y2']
  clear y2'
  rw [show f' 3 = _ from y3']
  clear y3'
  obtain ⟨A4', c4', g4'⟩ := y4'.form
  rw [g4'] at y4' ⊢
  have H4' := Seg.hid y4'
  clear y4' g4'
  go_enter Try.func81, Try.ntmps81
  go_wp2_with fail
  refine (eqIntS_any _ _ u.parts ((w.alloc _).alloc _) S S' (H4.out.below keepsI (below2 w _ _) hS) (H4'.out.below keepsI (below2 w _ _) hS') (fun g hg => by rw [hsz, hsz]; have := hS g hg; omega) (fun g hg => by rw [hsz, hsz]; have := hS' g hg; omega)).mono ?_
  rintro e w1 ⟨rfl, b1⟩
  have B1 := Seg.hid (chain (below2 w _ _) b1)
  clear b1
  go_wp2
  go_ret
  exact ⟨rfl, B1.out⟩
end Go.Proofs.Ytdhicmbfknagjaa.Ls
