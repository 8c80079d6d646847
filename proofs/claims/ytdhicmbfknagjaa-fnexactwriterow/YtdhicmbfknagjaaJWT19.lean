/- Schema: how it lies in memory; what the law's measure and copier answer; A right Schema, on plain data. -/
import Derived.Test.YtdhicmbfknagjaaJWT18
import Derived.Test.YtdhicmbfknagjaaJWT17
namespace Go.Proofs.Ytdhicmbfknagjaa.Ls
set_option maxRecDepth 8000
open Go.RowKit
open Recs
set_option linter.unusedVariables false
structure Sch where
  name : ByteArray
  fields : List Fld
  deriving Inhabited
def ESch : Elt Sch := fun w S f u => f 0 = .string u.name ∧ LAt 11 EFld w S (f 1) u.fields
theorem keepsSch : Keeps 2 ESch := fun w w' S f f' t h hk hf => by
  obtain ⟨h0, h1⟩ := h
  exact ⟨by rw [hf 0 (by omega)]; exact h0, by rw [hf 1 (by omega)]; exact h1.keep keepsFld hk⟩
theorem growsSch : Grows ESch := fun w S S' f t h hs => by
  obtain ⟨h0, h1⟩ := h
  exact ⟨h0, h1.mono growsFld hs⟩
def arrSch (f : Nat → Value) : Array Value := #[f 0, f 1]
theorem oneSch {w : World} {S : Nat → Prop} {f : Nat → Value} {u : Sch} (h : ESch w S f u) : (arrSch f).all (·.oneCell') = true := by
  obtain ⟨h0, h1⟩ := h
  have o0 : (f 0).oneCell' = true := by rw [h0]; rfl
  have o1 : (f 1).oneCell' = true := h1.one
  simp [arrSch, o0, o1]
def SchAt (w : World) (S : Nat → Prop) (v : Value) (u : Sch) : Prop := ∃ f, v = .agg (arrSch f) ∧ ESch w S f u
abbrev SchsAt := LAt 2 ESch
theorem SchAt.keep {w w' : World} {S : Nat → Prop} {v : Value} {u : Sch} (h : SchAt w S v u) (hk : ∀ g, S g → w'.heap[g]? = w.heap[g]?) : SchAt w' S v u := by
  obtain ⟨f, h1, h2⟩ := h
  exact ⟨f, h1, keepsSch _ _ _ _ _ _ h2 hk (fun _ _ => rfl)⟩
theorem SchAt.mono {w : World} {S S' : Nat → Prop} {v : Value} {u : Sch} (h : SchAt w S v u) (hs : ∀ g, S g → S' g) : SchAt w S' v u := by
  obtain ⟨f, h1, h2⟩ := h
  exact ⟨f, h1, growsSch _ _ _ _ _ h2 hs⟩
theorem SchAt.below {w w' : World} {B : Nat} {S : Nat → Prop} {v : Value} {u : Sch} (h : SchAt w S v u) (hb : Below B w w') (hs : ∀ g, S g → g < B) : SchAt w' S v u := h.keep fun g hg => hb.block g (hs g hg)
def szSch (u : Sch) : Nat := u.name.size + szL szFld (u.fields)
def FineSch (u : Sch) : Prop := u.name.size ≤ maxLen ∧ FineL FineFld u.fields
theorem infoSch : (Try.prog.info? 43).map (·.size) = some 2 := by kernel_rfl
theorem infoLSch : (Try.prog.info? 37).map (·.size) = some 2 := by kernel_rfl
theorem infoZSch : (Try.prog.info? 43).map (fun i => (i.zero, i.size, i.bytes)) = some (some (.agg #[.string ByteArray.empty, .slice none 0 0]), 2, 40) := by kernel_rfl
set_option maxHeartbeats 800000 in
theorem szSchema_any (v : Value) (u : Sch) (l : Int) (w : World) (S : Nat → Prop) (h3 : -1 ≤ l) (h4 : l ≤ 1048576) (hv : SchAt w S v u) (hS : ∀ g, S g → g < w.heap.size) (hf : FineSch u) :
    Calls Try.prog 12 #[v, .int .i64 l] w fun e w' => ∃ q, e = .returned (.int .i64 q) ∧ -1 ≤ q ∧ q ≤ l ∧ Lf l (szSch u) q ∧ Below w.heap.size w w' := by
  obtain ⟨f, rfl, y0, y1⟩ := hv
  try simp only [arrSch]
  rw [show f 0 = _ from y0]
  clear y0
  obtain ⟨A1, c1, g1⟩ := y1.form
  rw [g1] at y1 ⊢
  have H1 := Seg.hid y1
  clear y1 g1
  obtain ⟨z0, z1⟩ := hf
  unfold maxLen at z0
  have Z1 := Seg.hid z1
  clear z1
  go_enter Try.func12, Try.ntmps12
  by_cases k0 : l - (u.name.size : Int) < 0
  · go_wp2
    go_ret
    exact ⟨_, rfl, by omega, by omega, by simp only [szSch]; exact ⟨fun _ => by omega, fun _ => by omega⟩, below1 _ _⟩
  go_wp2_with fail
  refine (szFieldS_any _ u.fields _ (w.alloc _) S (by omega) (by omega) (H1.out.below keepsFld (below1 w _) hS) (fun g hg => by rw [hsz]; have := hS g hg; omega) Z1.out).mono ?_
  rintro e w1 ⟨q1, rfl, a1, b1, L1', d1⟩
  have B1 := Seg.hid (chain (below1 w _) d1)
  have L1 := Seg.hid L1'
  clear d1 L1'
  by_cases k1 : q1 < 0
  · go_wp2
    go_ret
    exact ⟨_, rfl, by omega, by omega, by have m0 := L1.out.2 (by omega); simp only [szSch]; exact ⟨fun _ => by omega, fun _ => by omega⟩, B1.out⟩
  go_wp2
  go_ret
  exact ⟨_, rfl, by omega, by omega, by have m0 := L1.out.1 (by omega); simp only [szSch]; exact ⟨fun _ => by omega, fun _ => by omega⟩, B1.out⟩
set_option maxHeartbeats 1600000 in
theorem toSchema_any (v : Value) (u : Sch) (w : World) (S : Nat → Prop) (hv : SchAt w S v u) (hS : ∀ g, S g → g < w.heap.size) (hf : szSch u ≤ 1048576) :
    Calls Try.prog 14 #[v] w fun e w' => ∃ v', e = .returned v' ∧ SchAt w' (seg w.heap.size w'.heap.size) v' u ∧ Below w.heap.size w w' := by
  obtain ⟨f, rfl, y0, y1⟩ := hv
  try simp only [arrSch]
  rw [show f 0 = _ from y0]
  clear y0
  obtain ⟨A1, c1, g1⟩ := y1.form
  rw [g1] at y1 ⊢
  have H1 := Seg.hid y1
  clear y1 g1
  unfold szSch at hf
  go_enter Try.func14, Try.ntmps14
  go_wp2_with fail
  refine (toFieldS_any _ u.fields (((w.alloc _).alloc _).alloc _) S (H1.out.below keepsFld (below3 w _ _ _) hS) (fun g hg => by rw [hsz, hsz, hsz]; have := hS g hg; omega) (by omega)).mono ?_
  rintro e w1 ⟨v1, rfl, l1, b1⟩
  have B1 := Seg.hid (chain (below3 w _ _ _) b1)
  have Ta1 : Hid (w1.heap[w.heap.size]? = some (.cells #[.string u.name, .slice A1 u.fields.length c1] 37 (0, 0))) := (b1.block w.heap.size (by rw [hsz, hsz, hsz]; omega)).trans (at3z w _ _ _)
  have Tr1 : Hid (w1.heap[w.heap.size + 1]? = some (.cells #[.string ByteArray.empty, .slice none 0 0] 43 (0, 0))) := (b1.block (w.heap.size + 1) (by rw [hsz, hsz, hsz]; omega)).trans (at3 w _ _ _)
  have To1 : Hid (w1.heap[w.heap.size + 1 + 1]? = some (.cells #[.string u.name, .slice none 0 0] 43 (0, 0))) := (b1.block (w.heap.size + 1 + 1) (by rw [hsz, hsz, hsz]; omega)).trans (Cells.at3' w _ _ _)
  have s1 : w.heap.size + 3 ≤ w1.heap.size := by have := b1.size; rw [hsz, hsz, hsz] at this; omega
  have M1 : Hid (LAt 11 EFld w1 (seg (w.heap.size + 3) w1.heap.size) v1 u.fields) := by
    rw [hsz, hsz, hsz] at l1
    exact l1
  obtain ⟨Y1, x1, r1⟩ := M1.out.form
  subst r1
  clear b1 l1
  have N11 := M1
  have po11 : (w1).cell? ⟨w.heap.size + 1 + 1, 1, none⟩ = some (.slice none 0 0) := cell_of_row (w1) _ 1 _ _ (0, 0) (To1.out)
  have pf11 : (w1).frozen? ⟨w.heap.size + 1 + 1, 1, none⟩ = false := frozen_of_row (w1) _ 1 _ _ (To1.out)
  have qo11 : Hid (((w1.setCell ⟨w.heap.size + 1 + 1, 1, none⟩ (.slice Y1 u.fields.length x1))).heap[w.heap.size + 1 + 1]? = some (.cells #[.string u.name, .slice Y1 u.fields.length x1] 43 (0, 0))) := heap_setCell_same (w1) (w.heap.size + 1 + 1) 1 _ _ (.slice Y1 u.fields.length x1) (To1.out)
  have Uo1 := Seg.hid (qo11.out)
  have Ur1 := Seg.hid ((heap_setCell_other (w1) ⟨w.heap.size + 1 + 1, 1, none⟩ (w.heap.size + 1) (.slice Y1 u.fields.length x1) (by simp)).trans (Tr1.out))
  have Ua1 := Seg.hid ((heap_setCell_other (w1) ⟨w.heap.size + 1 + 1, 1, none⟩ w.heap.size (.slice Y1 u.fields.length x1) (by simp; omega)).trans (Ta1.out))
  have D1 : Hid (Below w.heap.size w (w1.setCell ⟨w.heap.size + 1 + 1, 1, none⟩ (.slice Y1 u.fields.length x1))) := (B1.out).setCell (p := ⟨w.heap.size + 1 + 1, 1, none⟩) (by simp; omega) (.slice Y1 u.fields.length x1)
  have N11' : Hid (LAt 11 EFld (w1.setCell ⟨w.heap.size + 1 + 1, 1, none⟩ (.slice Y1 u.fields.length x1)) (seg (w.heap.size + 3) w1.heap.size) (.slice Y1 u.fields.length x1) u.fields) := N11.out.keep keepsFld (fun g hg => by have := hg.1; rw [heap_setCell_other _ _ _ _ (by show _ ≠ w.heap.size + 1 + 1; omega)])
  obtain ⟨fx, hfx⟩ : ∃ fx : Nat → Value, fx = (fun q => if q = 0 then .string u.name else .slice Y1 u.fields.length x1) := ⟨_, rfl⟩
  have HX := Seg.hid hfx
  have Uz : Hid ((w1.setCell ⟨w.heap.size + 1 + 1, 1, none⟩ (.slice Y1 u.fields.length x1)).heap[w.heap.size + 1 + 1]? = some (.cells (arrSch fx) 43 (0, 0))) := by
    show _ = _
    rw [hfx]
    exact Uo1.out
  clear hfx
  have H5a := Cells.there_of Ur1.out
  have H5 : Hid ((w1.setCell ⟨w.heap.size + 1 + 1, 1, none⟩ (.slice Y1 u.fields.length x1)).there (w.heap.size + 1) 0 (arrSch fx).size) := H5a
  clear H5a
  have H4 := Seg.hid (Cells.whole (vs := arrSch fx) Ur1.out rfl)
  have B9 := Seg.hid (Cells.below_setCells (g := w.heap.size + 1) (by omega) (arrSch fx).toList 0 _ _ D1.out)
  have F1 : Hid (LAt 11 EFld ((w1.setCell ⟨w.heap.size + 1 + 1, 1, none⟩ (.slice Y1 u.fields.length x1)).setCells (w.heap.size + 1) 0 (arrSch fx).toList) (seg w.heap.size ((w1.setCell ⟨w.heap.size + 1 + 1, 1, none⟩ (.slice Y1 u.fields.length x1)).setCells (w.heap.size + 1) 0 (arrSch fx).toList).heap.size) (fx 1) u.fields) := by
    show LAt 11 EFld _ _ _ _
    rw [show fx 1 = .slice Y1 u.fields.length x1 by rw [HX.out]; rfl]
    refine (N11'.out.keep keepsFld (fun g hg => ?_)).mono growsFld (fun g hg => ⟨by have := hg.1; omega, ?_⟩)
    · have := hg.1
      rw [Cells.heap_setCells_other _ _ (by omega)]
    · rw [Cells.size_setCells]
      have := hg.2
      simpa using this
  have EX : Hid (ESch ((w1.setCell ⟨w.heap.size + 1 + 1, 1, none⟩ (.slice Y1 u.fields.length x1)).setCells (w.heap.size + 1) 0 (arrSch fx).toList) (seg w.heap.size ((w1.setCell ⟨w.heap.size + 1 + 1, 1, none⟩ (.slice Y1 u.fields.length x1)).setCells (w.heap.size + 1) 0 (arrSch fx).toList).heap.size) fx u) := ⟨by rw [HX.out]; rfl, F1.out⟩
  have ON := Seg.hid (oneSch EX.out)
  clear Ta1 Tr1 To1 Ua1 M1
  go_upto_region 4 with fail
  clear po11 pf11
  generalize (w1.setCell ⟨w.heap.size + 1 + 1, 1, none⟩ (.slice Y1 u.fields.length x1)) = wz at *
  go_wp2_with (first | (refine wpList_load_row rfl 43 _ rfl (w.heap.size + 1 + 1) rfl _ _ _ _ Uz.out Try.underlying43 rfl infoSch ?_) | (refine wpList_store_mid rfl 43 _ _ rfl (w.heap.size + 1) 0 (arrSch fx) rfl rfl H5.out infoSch ON.out ?_))
  exact bodyPost_ret (v := .agg (arrSch fx)) (results_cell_row rfl _ _ (w.heap.size + 1) _ _ _ _ rfl H4.out Try.underlying43 rfl infoSch) rfl ⟨_, rfl, ⟨fx, rfl, EX.out⟩, B9.out⟩
set_option maxHeartbeats 1600000 in
theorem eqSchema_any (v v' : Value) (u : Sch) (w : World) (S S' : Nat → Prop) (hv : SchAt w S v u) (hv' : SchAt w S' v' u) (hS : ∀ g, S g → g < w.heap.size) (hS' : ∀ g, S' g → g < w.heap.size) :
    Calls Try.prog 17 #[v, v'] w fun e w' => e = .returned (.bool true) ∧ Below w.heap.size w w' := by
  obtain ⟨f, rfl, y0, y1⟩ := hv
  obtain ⟨f', rfl, y0', y1'⟩ := hv'
  try simp only [arrSch]
  rw [show f 0 = _ from y0]
  clear y0
  obtain ⟨A1, c1, g1⟩ := y1.form
  rw [g1] at y1 ⊢
  have H1 := Seg.hid y1
  clear y1 g1
  try simp only [arrSch]
  rw [show f' 0 = _ from y0']
  clear y0'
  obtain ⟨A1', c1', g1'⟩ := y1'.form
  rw [g1'] at y1' ⊢
  have H1' := Seg.hid y1'
  clear y1' g1'
  go_enter Try.func17, Try.ntmps17
  go_wp2_with fail
  refine (eqFieldS_any _ _ u.fields ((w.alloc _).alloc _) S S' (H1.out.below keepsFld (below2 w _ _) hS) (H1'.out.below keepsFld (below2 w _ _) hS') (fun g hg => by rw [hsz, hsz]; have := hS g hg; omega) (fun g hg => by rw [hsz, hsz]; have := hS' g hg; omega)).mono ?_
  rintro e w1 ⟨rfl, b1⟩
  have B1 := Seg.hid (chain (below2 w _ _) b1)
  clear b1
  go_wp2
  go_ret
  exact ⟨rfl, B1.out⟩
end Go.Proofs.Ytdhicmbfknagjaa.Ls
namespace Go.Proofs.Ytdhicmbfknagjaa.ScP
set_option maxRecDepth 8000
open Go.RowKit
open Ls Lp VkP VkR
set_option linter.unusedVariables false
/-- All names that a field has or had. -/
def nms (f : Fld) : List ByteArray := f.name :: f.was
def hs (seen : List ByteArray) (n : ByteArray) : Bool := seen.any (fun m => m.toList == n.toList)
def dst (seen : List ByteArray) : List ByteArray → Bool
  | [] => true
  | n :: ns => !hs seen n && dst (seen ++ [n]) ns
def val (f : Fld) : Bool := if f.fixd = true then vof f.kind f.lst f.may (vluOf f) else zero (vluOf f)
def fOk (f : Fld) : Bool := decide (f.was.length ≤ 4) && kOk f.kind && (nms f).all Nm.nameOk && val f
def fA (f : Fld) : Bool := kOk f.kind && decide (f.was.length ≤ 4) && val f
def run (seen : List ByteArray) : List Fld → Bool
  | [] => true
  | f :: fs => fOk f && (dst seen (nms f) && run (seen ++ nms f) fs)
def sok (s : Sch) : Bool := Nm.nameOk s.name && inR 1 s.fields.length 20 && run [] s.fields
theorem dst_append : ∀ (a seen b : List ByteArray), dst seen (a ++ b) = (dst seen a && dst (seen ++ a) b)
  | [], seen, b => by simp [dst]
  | n :: a, seen, b => by
    simp only [List.cons_append, dst, dst_append a (seen ++ [n]) b, Bool.and_assoc, List.append_assoc, List.nil_append]
theorem run_eq : ∀ (fs : List Fld) (seen : List ByteArray), run seen fs = (fs.all fA && (fs.flatMap nms).all Nm.nameOk && dst seen (fs.flatMap nms))
  | [], seen => by simp [run, dst]
  | f :: fs, seen => by
    simp only [run, run_eq fs, List.flatMap_cons, List.all_cons, List.all_append, dst_append, fOk, fA]
    cases decide (f.was.length ≤ 4) <;> cases kOk f.kind <;> cases val f <;> cases (nms f).all Nm.nameOk <;> cases dst seen (nms f) <;> cases fs.all fA <;> cases (fs.flatMap nms).all Nm.nameOk <;> simp
theorem hs_push (seen : List ByteArray) (n s : ByteArray) : hs (seen ++ [n]) s = (hs seen s || (n.toList == s.toList)) := by simp [hs]
theorem dst_step {ns : List ByteArray} {k : Nat} (h : k < ns.length) (seen : List ByteArray) : dst (seen ++ ns.take k) (ns.drop k) = (!hs (seen ++ ns.take k) (ns.getD k default) && dst (seen ++ ns.take (k + 1)) (ns.drop (k + 1))) := by
  rw [drop_cons h, dst, List.take_succ_eq_append_getElem h]
  simp [h]
theorem run_step {fs : List Fld} {k : Nat} (h : k < fs.length) (seen : List ByteArray) : run seen (fs.drop k) = (fOk (fs.getD k default) && (dst seen (nms (fs.getD k default)) && run (seen ++ nms (fs.getD k default)) (fs.drop (k + 1)))) := by
  rw [drop_cons h, run]
theorem sz_name {f : Fld} (h : szFld f ≤ 1048576) : f.name.size ≤ 1048576 := by unfold szFld at h; omega
theorem sz_was {f : Fld} (h : szFld f ≤ 1048576) : szL ByteArray.size f.was ≤ 1048576 := by unfold szFld at h; omega
theorem len_was {f : Fld} (h : szFld f ≤ 1048576) : f.was.length ≤ 1048576 := szL_len _ (sz_was h)
theorem sz_nms {f : Fld} (h : szFld f ≤ 1048576) {k : Nat} (hk : k < (nms f).length) : ((nms f).getD k default).size ≤ 1048576 := by
  cases k with
  | zero => exact sz_name h
  | succ k =>
    have hk' : k < f.was.length := by simpa [nms] using hk
    have := szL_one ByteArray.size (sz_was h) hk'
    simpa [nms] using this
end Go.Proofs.Ytdhicmbfknagjaa.ScP
