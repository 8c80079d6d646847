/- Value: how it lies in memory; what the law's measure and copier answer; Plain helpers for lists in memory: a number between two, a list opened where it has elements, a world that has only drawn. -/
import Derived.Test.YtdhicmbfknagjaaJWT12
import Derived.Test.YtdhicmbfknagjaaJWT11
namespace Go.Proofs.Ytdhicmbfknagjaa.Ls
set_option maxRecDepth 8000
open Go.RowKit
open Recs
set_option linter.unusedVariables false
structure Vlu where
  kind : Int
  num : Int
  text : ByteArray
  lst : Bool
  items : List Itm
  deriving Inhabited
def EVlu : Elt Vlu := fun w S f u => f 0 = .int .i64 u.kind ∧ f 1 = .int .i64 u.num ∧ f 2 = .string u.text ∧ f 3 = .bool u.lst ∧ LAt 2 EItm w S (f 4) u.items
theorem keepsVlu : Keeps 5 EVlu := fun w w' S f f' t h hk hf => by
  obtain ⟨h0, h1, h2, h3, h4⟩ := h
  exact ⟨by rw [hf 0 (by omega)]; exact h0, by rw [hf 1 (by omega)]; exact h1, by rw [hf 2 (by omega)]; exact h2, by rw [hf 3 (by omega)]; exact h3, by rw [hf 4 (by omega)]; exact h4.keep keepsItm hk⟩
theorem growsVlu : Grows EVlu := fun w S S' f t h hs => by
  obtain ⟨h0, h1, h2, h3, h4⟩ := h
  exact ⟨h0, h1, h2, h3, h4.mono growsItm hs⟩
def arrVlu (f : Nat → Value) : Array Value := #[f 0, f 1, f 2, f 3, f 4]
theorem oneVlu {w : World} {S : Nat → Prop} {f : Nat → Value} {u : Vlu} (h : EVlu w S f u) : (arrVlu f).all (·.oneCell') = true := by
  obtain ⟨h0, h1, h2, h3, h4⟩ := h
  have o0 : (f 0).oneCell' = true := by rw [h0]; rfl
  have o1 : (f 1).oneCell' = true := by rw [h1]; rfl
  have o2 : (f 2).oneCell' = true := by rw [h2]; rfl
  have o3 : (f 3).oneCell' = true := by rw [h3]; rfl
  have o4 : (f 4).oneCell' = true := h4.one
  simp [arrVlu, o0, o1, o2, o3, o4]
def VluAt (w : World) (S : Nat → Prop) (v : Value) (u : Vlu) : Prop := ∃ f, v = .agg (arrVlu f) ∧ EVlu w S f u
abbrev VlusAt := LAt 5 EVlu
theorem VluAt.keep {w w' : World} {S : Nat → Prop} {v : Value} {u : Vlu} (h : VluAt w S v u) (hk : ∀ g, S g → w'.heap[g]? = w.heap[g]?) : VluAt w' S v u := by
  obtain ⟨f, h1, h2⟩ := h
  exact ⟨f, h1, keepsVlu _ _ _ _ _ _ h2 hk (fun _ _ => rfl)⟩
theorem VluAt.mono {w : World} {S S' : Nat → Prop} {v : Value} {u : Vlu} (h : VluAt w S v u) (hs : ∀ g, S g → S' g) : VluAt w S' v u := by
  obtain ⟨f, h1, h2⟩ := h
  exact ⟨f, h1, growsVlu _ _ _ _ _ h2 hs⟩
theorem VluAt.below {w w' : World} {B : Nat} {S : Nat → Prop} {v : Value} {u : Vlu} (h : VluAt w S v u) (hb : Below B w w') (hs : ∀ g, S g → g < B) : VluAt w' S v u := h.keep fun g hg => hb.block g (hs g hg)
def szVlu (u : Vlu) : Nat := u.text.size + szL szItm (u.items)
def FineVlu (u : Vlu) : Prop := I64 u.kind ∧ I64 u.num ∧ u.text.size ≤ maxLen ∧ True ∧ FineL FineItm u.items
theorem infoVlu : (Try.prog.info? 84).map (·.size) = some 5 := by kernel_rfl
theorem infoLVlu : (Try.prog.info? 94).map (·.size) = some 5 := by kernel_rfl
theorem infoZVlu : (Try.prog.info? 84).map (fun i => (i.zero, i.size, i.bytes)) = some (some (.agg #[.int .i64 0, .int .i64 0, .string ByteArray.empty, .bool false, .slice none 0 0]), 5, 64) := by kernel_rfl
set_option maxHeartbeats 800000 in
theorem szValue_any (v : Value) (u : Vlu) (l : Int) (w : World) (S : Nat → Prop) (h3 : -1 ≤ l) (h4 : l ≤ 1048576) (hv : VluAt w S v u) (hS : ∀ g, S g → g < w.heap.size) (hf : FineVlu u) :
    Calls Try.prog 53 #[v, .int .i64 l] w fun e w' => ∃ q, e = .returned (.int .i64 q) ∧ -1 ≤ q ∧ q ≤ l ∧ Lf l (szVlu u) q ∧ Below w.heap.size w w' := by
  obtain ⟨f, rfl, y0, y1, y2, y3, y4⟩ := hv
  try simp only [arrVlu]
  rw [show f 0 = _ from y0]
  clear y0
  rw [show f 1 = _ from y1]
  clear y1
  rw [show f 2 = _ from y2]
  clear y2
  rw [show f 3 = _ from y3]
  clear y3
  obtain ⟨A4, c4, g4⟩ := y4.form
  rw [g4] at y4 ⊢
  have H4 := Seg.hid y4
  clear y4 g4
  obtain ⟨z0, z1, z2, z3, z4⟩ := hf
  unfold maxLen at z2
  have Z4 := Seg.hid z4
  clear z0 z1 z3 z4
  go_enter Try.func53, Try.ntmps53
  by_cases k2 : l - (u.text.size : Int) < 0
  · go_wp2
    go_ret
    exact ⟨_, rfl, by omega, by omega, by simp only [szVlu]; exact ⟨fun _ => by omega, fun _ => by omega⟩, below1 _ _⟩
  go_wp2_with fail
  refine (szItemS_any _ u.items _ (w.alloc _) S (by omega) (by omega) (H4.out.below keepsItm (below1 w _) hS) (fun g hg => by rw [hsz]; have := hS g hg; omega) Z4.out).mono ?_
  rintro e w1 ⟨q1, rfl, a1, b1, L1', d1⟩
  have B1 := Seg.hid (chain (below1 w _) d1)
  have L1 := Seg.hid L1'
  clear d1 L1'
  by_cases k4 : q1 < 0
  · go_wp2
    go_ret
    exact ⟨_, rfl, by omega, by omega, by have m0 := L1.out.2 (by omega); simp only [szVlu]; exact ⟨fun _ => by omega, fun _ => by omega⟩, B1.out⟩
  go_wp2
  go_ret
  exact ⟨_, rfl, by omega, by omega, by have m0 := L1.out.1 (by omega); simp only [szVlu]; exact ⟨fun _ => by omega, fun _ => by omega⟩, B1.out⟩
set_option maxHeartbeats 1600000 in
theorem toValue_any (v : Value) (u : Vlu) (w : World) (S : Nat → Prop) (hv : VluAt w S v u) (hS : ∀ g, S g → g < w.heap.size) (hf : szVlu u ≤ 1048576) :
    Calls Try.prog 57 #[v] w fun e w' => ∃ v', e = .returned v' ∧ VluAt w' (seg w.heap.size w'.heap.size) v' u ∧ Below w.heap.size w w' := by
  obtain ⟨f, rfl, y0, y1, y2, y3, y4⟩ := hv
  try simp only [arrVlu]
  rw [show f 0 = _ from y0]
  clear y0
  rw [show f 1 = _ from y1]
  clear y1
  rw [show f 2 = _ from y2]
  clear y2
  rw [show f 3 = _ from y3]
  clear y3
  obtain ⟨A4, c4, g4⟩ := y4.form
  rw [g4] at y4 ⊢
  have H4 := Seg.hid y4
  clear y4 g4
  unfold szVlu at hf
  go_enter Try.func57, Try.ntmps57
  go_wp2_with fail
  refine (toItemS_any _ u.items (((w.alloc _).alloc _).alloc _) S (H4.out.below keepsItm (below3 w _ _ _) hS) (fun g hg => by rw [hsz, hsz, hsz]; have := hS g hg; omega) (by omega)).mono ?_
  rintro e w1 ⟨v1, rfl, l1, b1⟩
  have B1 := Seg.hid (chain (below3 w _ _ _) b1)
  have Ta1 : Hid (w1.heap[w.heap.size]? = some (.cells #[.int .i64 u.kind, .int .i64 u.num, .string u.text, .bool u.lst, .slice A4 u.items.length c4] 94 (0, 0))) := (b1.block w.heap.size (by rw [hsz, hsz, hsz]; omega)).trans (at3z w _ _ _)
  have Tr1 : Hid (w1.heap[w.heap.size + 1]? = some (.cells #[.int .i64 0, .int .i64 0, .string ByteArray.empty, .bool false, .slice none 0 0] 84 (0, 0))) := (b1.block (w.heap.size + 1) (by rw [hsz, hsz, hsz]; omega)).trans (at3 w _ _ _)
  have To1 : Hid (w1.heap[w.heap.size + 1 + 1]? = some (.cells #[.int .i64 u.kind, .int .i64 u.num, .string u.text, .bool u.lst, .slice none 0 0] 84 (0, 0))) := (b1.block (w.heap.size + 1 + 1) (by rw [hsz, hsz, hsz]; omega)).trans (Cells.at3' w _ _ _)
  have s1 : w.heap.size + 3 ≤ w1.heap.size := by have := b1.size; rw [hsz, hsz, hsz] at this; omega
  have M1 : Hid (LAt 2 EItm w1 (seg (w.heap.size + 3) w1.heap.size) v1 u.items) := by
    rw [hsz, hsz, hsz] at l1
    exact l1
  obtain ⟨Y1, x1, r1⟩ := M1.out.form
  subst r1
  clear b1 l1
  have N11 := M1
  have po14 : (w1).cell? ⟨w.heap.size + 1 + 1, 4, none⟩ = some (.slice none 0 0) := cell_of_row (w1) _ 4 _ _ (0, 0) (To1.out)
  have pf14 : (w1).frozen? ⟨w.heap.size + 1 + 1, 4, none⟩ = false := frozen_of_row (w1) _ 4 _ _ (To1.out)
  have qo14 : Hid (((w1.setCell ⟨w.heap.size + 1 + 1, 4, none⟩ (.slice Y1 u.items.length x1))).heap[w.heap.size + 1 + 1]? = some (.cells #[.int .i64 u.kind, .int .i64 u.num, .string u.text, .bool u.lst, .slice Y1 u.items.length x1] 84 (0, 0))) := heap_setCell_same (w1) (w.heap.size + 1 + 1) 4 _ _ (.slice Y1 u.items.length x1) (To1.out)
  have Uo1 := Seg.hid (qo14.out)
  have Ur1 := Seg.hid ((heap_setCell_other (w1) ⟨w.heap.size + 1 + 1, 4, none⟩ (w.heap.size + 1) (.slice Y1 u.items.length x1) (by simp)).trans (Tr1.out))
  have Ua1 := Seg.hid ((heap_setCell_other (w1) ⟨w.heap.size + 1 + 1, 4, none⟩ w.heap.size (.slice Y1 u.items.length x1) (by simp; omega)).trans (Ta1.out))
  have D1 : Hid (Below w.heap.size w (w1.setCell ⟨w.heap.size + 1 + 1, 4, none⟩ (.slice Y1 u.items.length x1))) := (B1.out).setCell (p := ⟨w.heap.size + 1 + 1, 4, none⟩) (by simp; omega) (.slice Y1 u.items.length x1)
  have N11' : Hid (LAt 2 EItm (w1.setCell ⟨w.heap.size + 1 + 1, 4, none⟩ (.slice Y1 u.items.length x1)) (seg (w.heap.size + 3) w1.heap.size) (.slice Y1 u.items.length x1) u.items) := N11.out.keep keepsItm (fun g hg => by have := hg.1; rw [heap_setCell_other _ _ _ _ (by show _ ≠ w.heap.size + 1 + 1; omega)])
  obtain ⟨fx, hfx⟩ : ∃ fx : Nat → Value, fx = (fun q => if q = 0 then .int .i64 u.kind else if q = 1 then .int .i64 u.num else if q = 2 then .string u.text else if q = 3 then .bool u.lst else .slice Y1 u.items.length x1) := ⟨_, rfl⟩
  have HX := Seg.hid hfx
  have Uz : Hid ((w1.setCell ⟨w.heap.size + 1 + 1, 4, none⟩ (.slice Y1 u.items.length x1)).heap[w.heap.size + 1 + 1]? = some (.cells (arrVlu fx) 84 (0, 0))) := by
    show _ = _
    rw [hfx]
    exact Uo1.out
  clear hfx
  have H5a := Cells.there_of Ur1.out
  have H5 : Hid ((w1.setCell ⟨w.heap.size + 1 + 1, 4, none⟩ (.slice Y1 u.items.length x1)).there (w.heap.size + 1) 0 (arrVlu fx).size) := H5a
  clear H5a
  have H4 := Seg.hid (Cells.whole (vs := arrVlu fx) Ur1.out rfl)
  have B9 := Seg.hid (Cells.below_setCells (g := w.heap.size + 1) (by omega) (arrVlu fx).toList 0 _ _ D1.out)
  have F1 : Hid (LAt 2 EItm ((w1.setCell ⟨w.heap.size + 1 + 1, 4, none⟩ (.slice Y1 u.items.length x1)).setCells (w.heap.size + 1) 0 (arrVlu fx).toList) (seg w.heap.size ((w1.setCell ⟨w.heap.size + 1 + 1, 4, none⟩ (.slice Y1 u.items.length x1)).setCells (w.heap.size + 1) 0 (arrVlu fx).toList).heap.size) (fx 4) u.items) := by
    show LAt 2 EItm _ _ _ _
    rw [show fx 4 = .slice Y1 u.items.length x1 by rw [HX.out]; rfl]
    refine (N11'.out.keep keepsItm (fun g hg => ?_)).mono growsItm (fun g hg => ⟨by have := hg.1; omega, ?_⟩)
    · have := hg.1
      rw [Cells.heap_setCells_other _ _ (by omega)]
    · rw [Cells.size_setCells]
      have := hg.2
      simpa using this
  have EX : Hid (EVlu ((w1.setCell ⟨w.heap.size + 1 + 1, 4, none⟩ (.slice Y1 u.items.length x1)).setCells (w.heap.size + 1) 0 (arrVlu fx).toList) (seg w.heap.size ((w1.setCell ⟨w.heap.size + 1 + 1, 4, none⟩ (.slice Y1 u.items.length x1)).setCells (w.heap.size + 1) 0 (arrVlu fx).toList).heap.size) fx u) := ⟨by rw [HX.out]; rfl, by rw [HX.out]; rfl, by rw [HX.out]; rfl, by rw [HX.out]; rfl, F1.out⟩
  have ON := Seg.hid (oneVlu EX.out)
  clear Ta1 Tr1 To1 Ua1 M1
  go_upto_region 7 with fail
  clear po14 pf14
  generalize (w1.setCell ⟨w.heap.size + 1 + 1, 4, none⟩ (.slice Y1 u.items.length x1)) = wz at *
  go_wp2_with (first | (refine wpList_load_row rfl 84 _ rfl (w.heap.size + 1 + 1) rfl _ _ _ _ Uz.out Try.underlying84 rfl infoVlu ?_) | (refine wpList_store_mid rfl 84 _ _ rfl (w.heap.size + 1) 0 (arrVlu fx) rfl rfl H5.out infoVlu ON.out ?_))
  exact bodyPost_ret (v := .agg (arrVlu fx)) (results_cell_row rfl _ _ (w.heap.size + 1) _ _ _ _ rfl H4.out Try.underlying84 rfl infoVlu) rfl ⟨_, rfl, ⟨fx, rfl, EX.out⟩, B9.out⟩
set_option maxHeartbeats 1600000 in
theorem eqValue_any (v v' : Value) (u : Vlu) (w : World) (S S' : Nat → Prop) (hv : VluAt w S v u) (hv' : VluAt w S' v' u) (hS : ∀ g, S g → g < w.heap.size) (hS' : ∀ g, S' g → g < w.heap.size) :
    Calls Try.prog 61 #[v, v'] w fun e w' => e = .returned (.bool true) ∧ Below w.heap.size w w' := by
  obtain ⟨f, rfl, y0, y1, y2, y3, y4⟩ := hv
  obtain ⟨f', rfl, y0', y1', y2', y3', y4'⟩ := hv'
  try simp only [arrVlu]
  rw [show f 0 = _ from y0]
  clear y0
  rw [show f 1 = _ from y1]
  clear y1
  rw [show f 2 = _ from y2]
  clear y2
  rw [show f 3 = _ from y3]
  clear y3
  obtain ⟨A4, c4, g4⟩ := y4.form
  rw [g4] at y4 ⊢
  have H4 := Seg.hid y4
  clear y4 g4
  try simp only [arrVlu]
  rw [show f' 0 = _ from y0']
  clear y0'
  rw [show f' 1 = _ from y1']
  clear y1'
  rw [show f' 2 = _ from y2']
  clear y2'
  rw [show f' 3 = _ from y3']
  clear y3'
  obtain ⟨A4', c4', g4'⟩ := y4'.form
  rw [g4'] at y4' ⊢
  have H4' := Seg.hid y4'
  clear y4' g4'
  go_enter Try.func61, Try.ntmps61
  go_wp2_with fail
  refine (eqItemS_any _ _ u.items ((w.alloc _).alloc _) S S' (H4.out.below keepsItm (below2 w _ _) hS) (H4'.out.below keepsItm (below2 w _ _) hS') (fun g hg => by rw [hsz, hsz]; have := hS g hg; omega) (fun g hg => by rw [hsz, hsz]; have := hS' g hg; omega)).mono ?_
  rintro e w1 ⟨rfl, b1⟩
  have B1 := Seg.hid (chain (below2 w _ _) b1)
  clear b1
  go_wp2
  go_ret
  exact ⟨rfl, B1.out⟩
end Go.Proofs.Ytdhicmbfknagjaa.Ls
namespace Go.Proofs.Ytdhicmbfknagjaa.Lp
set_option maxRecDepth 8000
open Go.RowKit
open Ls
open Recs (hsz below1 below2 chain)
set_option linter.unusedVariables false
def inR (lo x hi : Int) : Bool := decide (lo ≤ x) && decide (x ≤ hi)
theorem inR_true {lo x hi : Int} (h : inR lo x hi = true) : lo ≤ x ∧ x ≤ hi := by simpa [inR] using h
theorem drop_cons {T : Type} [Inhabited T] {l : List T} {k : Nat} (h : k < l.length) : l.drop k = l.getD k default :: l.drop (k + 1) := by
  rw [List.drop_eq_getElem_cons h]; simp [h]
/-- A list in memory, opened where it has elements. -/
structure Opn {T : Type} [Inhabited T] (nf : Nat) (E : Elt T) (w : World) (S : Nat → Prop) (A : Option Addr) (c : Nat) (us : List T) (g o : Nat) (F : Nat → Nat → Value) : Prop where
  addr : us.length = 0 ∨ (A = some ⟨g, o, none⟩ ∧ us.length ≤ c ∧ g < w.heap.size)
  cells : ∀ i, i < us.length → ∀ j, j < nf → w.cell? ⟨g, o + i * nf + j, none⟩ = some (F i j)
  el : ∀ i, i < us.length → E w S (F i) (us.getD i default)
theorem opn {T : Type} [Inhabited T] {nf : Nat} {E : Elt T} {w : World} {S : Nat → Prop} {v : Value} {us : List T} (h : LAt nf E w S v us) (hS : ∀ g, S g → g < w.heap.size) : ∃ A c g o F, v = .slice A us.length c ∧ Opn nf E w S A c us g o F ∧ us.length ≤ 9223372036854775807 := by
  obtain ⟨hn, A, c, rfl, h⟩ := h
  by_cases hz : us.length = 0
  · exact ⟨A, c, 0, 0, fun _ _ => default, rfl, ⟨.inl hz, fun i hi => absurd hi (by omega), fun i hi => absurd hi (by omega)⟩, hn⟩
  obtain ⟨g, o, F, rfl, hg, hc, hcell, hel⟩ := h.resolve_left hz
  exact ⟨_, c, g, o, F, rfl, ⟨.inr ⟨rfl, hc, hS g hg⟩, hcell, hel⟩, hn⟩
theorem Opn.later {T : Type} [Inhabited T] {nf : Nat} {E : Elt T} (hK : Keeps nf E) {w w' : World} {S : Nat → Prop} {A : Option Addr} {c : Nat} {us : List T} {g o : Nat} {F : Nat → Nat → Value} (h : Opn nf E w S A c us g o F) (hS : ∀ g, S g → g < w.heap.size) (hb : Below w.heap.size w w') : Opn nf E w' S A c us g o F := by
  refine ⟨h.addr.imp id (fun ⟨a, b, c⟩ => ⟨a, b, Nat.lt_of_lt_of_le c hb.size⟩), fun i hi j hj => ?_, fun i hi => hK _ _ _ _ _ _ (h.el i hi) (fun g hg => hb.block g (hS g hg)) (fun _ _ => rfl)⟩
  have hg : g < w.heap.size := by
    rcases h.addr with h0 | h0
    · omega
    · exact h0.2.2
  rw [hb.cell (p := ⟨g, o + i * nf + j, none⟩) hg]
  exact h.cells i hi j hj
/-- A world that has only drawn since. -/
structure Qt (a b : World) : Prop where
  heap : b.heap = a.heap
  os : b.os = a.os
  tape : b.tape = a.tape
  output : b.output = a.output
theorem Qt.refl (a : World) : Qt a a := ⟨rfl, rfl, rfl, rfl⟩
theorem Qt.drewN {a b : World} (h : Qt a b) (n : Nat) : Qt a (b.drewN n) := ⟨h.heap, h.os, h.tape, h.output⟩
theorem Qt.drew {a b : World} (h : Qt a b) : Qt a b.drew := ⟨h.heap, h.os, h.tape, h.output⟩
theorem Qt.cell {a b : World} (h : Qt a b) (p : Addr) : b.cell? p = a.cell? p := World.cell?_of_block (w := a) (a := p) (by rw [h.heap])
theorem Qt.bel {a b : World} (h : Qt a b) (B : Nat) : Below B a b := ⟨h.os, h.tape, h.output, by rw [h.heap]; exact Nat.le_refl _, fun k _ => by rw [h.heap]⟩
end Go.Proofs.Ytdhicmbfknagjaa.Lp
