/- What a reader sees of a row, plain; The program's Field.seen; the model's l13Copy. -/
import Derived.Deep.RegionHeld3
import Derived.Deep.MidRow
import Derived.Test.YtdhicmbfknagjaaJRO16
import Derived.Test.YtdhicmbfknagjaaJRO22
import Derived.Test.YtdhicmbfknagjaaJRO13
namespace Go.Proofs.Ytdhicmbfknagjaa.RvP
set_option maxRecDepth 8000
open Go.RowKit
open Ls Lp VkP VkR ScP MaP CrP RoP
set_option linter.unusedVariables false
def seenV (k : Int) (v : Vlu) : Vlu := if v.kind = 0 then v else ⟨k, v.num, v.text, v.lst, v.items⟩
def resV (f : Fld) (us : List Vlu) (p : Int) : Vlu := if p = -1 then vluOf f else seenV f.kind (us.getD p.toNat default)
def outAt (fs : List Fld) (us : List Vlu) (ms : List Int) (k : Nat) : Vlu := resV (fs.getD k default) us (ms.getD k default)
def outL (fs : List Fld) (us : List Vlu) (ms : List Int) (n : Nat) : List Vlu := (List.range n).map (outAt fs us ms)
def resOk (r s : Sch) (us : List Vlu) : Bool := canR r s && rowOk s us
def resL (r s : Sch) (us : List Vlu) : List Vlu := if resOk r s us = true then outL r.fields us (mtch r s) r.fields.length else []
theorem outL_zero (fs : List Fld) (us : List Vlu) (ms : List Int) : outL fs us ms 0 = [] := rfl
theorem outL_next (fs : List Fld) (us : List Vlu) (ms : List Int) (k : Nat) : outL fs us ms (k + 1) = outL fs us ms k ++ [outAt fs us ms k] := by simp [outL, List.range_succ]
theorem outL_len (fs : List Fld) (us : List Vlu) (ms : List Int) (k : Nat) : (outL fs us ms k).length = k := by simp [outL]
theorem seen_items (k : Int) (v : Vlu) : (seenV k v).items = v.items := by unfold seenV; split <;> rfl
theorem seen_zero {k : Int} {v : Vlu} (h : v.kind = 0) : seenV k v = v := if_pos h
theorem seen_kind {k : Int} {v : Vlu} (h : ¬ v.kind = 0) : seenV k v = ⟨k, v.num, v.text, v.lst, v.items⟩ := if_neg h
theorem canR_sok {r s : Sch} (h : canR r s = true) : sok r = true ∧ sok s = true := by
  simp only [canR, Bool.and_eq_true] at h
  exact h.1
theorem res_items {f : Fld} {us : List Vlu} {p : Int} (hf : szFld f ≤ 1048576) (hu : szL szVlu us ≤ 1048576) (hp : p = -1 ∨ p.toNat < us.length) : (resV f us p).items.length ≤ 1048576 := by
  unfold resV
  split
  · have := sz_inner f hf
    unfold szVlu szL at this
    omega
  · next h =>
    rw [seen_items]
    have h1 := szL_one szVlu hu (hp.resolve_left h)
    unfold szVlu szL at h1
    omega
end Go.Proofs.Ytdhicmbfknagjaa.RvP
namespace Go.Proofs.Ytdhicmbfknagjaa.RvJ
set_option maxRecDepth 8000
open Go.RowKit
open Ls Lp VkP VkR RvP ClI
open Recs
set_option linter.unusedVariables false
abbrev zrow : Array Value := #[.int .i64 0, .int .i64 0, .string ⟨#[]⟩, .bool false, .slice none 0 0]
set_option maxHeartbeats 3200000 in
theorem seen_any (f : Fld) (u : Vlu) (A B A4 : Option Addr) (c d c4 : Nat) (w : World) : Calls Try.prog 67 #[.agg (frow f A c B d), .agg (vrow u A4 c4)] w fun e w' => e = .returned (.agg (vrow (seenV f.kind u) A4 c4)) ∧ Below w.heap.size w w' := by
  obtain ⟨sv, hsv⟩ : ∃ sv, seenV f.kind u = sv := ⟨_, rfl⟩
  rw [hsv]
  have HSV := Seg.hid hsv
  clear hsv
  go_enter Try.func67, Try.ntmps67
  go_upto_region 1 with fail
  obtain ⟨w3, hw3⟩ : ∃ w3, ((w.alloc (.cells (frow f A c B d) 86 (0, 0))).alloc (.cells (vrow u A4 c4) 84 (0, 0))).alloc (.cells zrow 84 (0, 0)) = w3 := ⟨_, rfl⟩
  have R1 : Hid (w3.heap[w.heap.size]? = some (.cells (frow f A c B d) 86 (0, 0))) := by show _ = _; rw [← hw3]; exact at3z w _ _ _
  have R2 : Hid (w3.heap[w.heap.size + 1]? = some (.cells (vrow u A4 c4) 84 (0, 0))) := by show _ = _; rw [← hw3]; exact at3 w _ _ _
  have R3 : Hid (w3.heap[w.heap.size + 2]? = some (.cells zrow 84 (0, 0))) := by show _ = _; rw [← hw3]; exact Cells.at3' w _ _ _
  have B3 : Hid (Below w.heap.size w w3) := by show Below _ _ _; rw [← hw3]; exact below3 w _ _ _
  try rw [hw3]
  clear hw3
  obtain ⟨e0, e1, e2, e3, e4⟩ := five3 R2.out
  have k1 : w3.cell? ⟨w.heap.size, 1, none⟩ = some (.int .i64 f.kind) := cell_of_row w3 _ 1 _ _ (0, 0) R1.out
  by_cases h : u.kind = 0
  · have q : (u.kind != 0) = false := by simp [h]
    have SV : Hid (sv = u) := by show _ = _; rw [← HSV.out, seen_zero h]
    have E9 := Seg.hid (Cells.whole (vs := vrow u A4 c4) R3.out rfl)
    have B9 := Seg.hid (Cells.below_setCells (g := w.heap.size + 2) (by omega) (vrow u A4 c4).toList 0 _ _ B3.out)
    have TH := Seg.hid (Cells.there_of R3.out)
    clear h
    go_wp2_with (refine wpList_store_mid rfl 84 _ _ rfl (w.heap.size + 2) 0 (vrow u A4 c4) rfl rfl TH.out infoVlu (by simp [Value.oneCell']) ?_)
    exact bodyPost_ret (v := .agg (vrow u A4 c4)) (results_cell_row rfl _ _ (w.heap.size + 2) _ _ _ _ rfl E9.out Try.underlying84 rfl infoVlu) rfl ⟨by rw [SV.out], B9.out⟩
  · have q : (u.kind != 0) = true := by simp [h]
    have SV : Hid (sv = ⟨f.kind, u.num, u.text, u.lst, u.items⟩) := by show _ = _; rw [← HSV.out, seen_kind h]
    have pf : w3.frozen? ⟨w.heap.size + 1, 0, none⟩ = false := frozen_of_row w3 _ 0 _ _ R2.out
    clear h
    go_upto_region 3 with fail
    obtain ⟨w4, hw4⟩ : ∃ w4, w3.setCell ⟨w.heap.size + 1, 0, none⟩ (.int .i64 f.kind) = w4 := ⟨_, rfl⟩
    have T2 : Hid (w4.heap[w.heap.size + 1]? = some (.cells (vrow ⟨f.kind, u.num, u.text, u.lst, u.items⟩ A4 c4) 84 (0, 0))) := by show _ = _; rw [← hw4]; exact heap_setCell_same w3 (w.heap.size + 1) 0 _ _ (.int .i64 f.kind) R2.out
    have T3 : Hid (w4.heap[w.heap.size + 2]? = some (.cells zrow 84 (0, 0))) := by show _ = _; rw [← hw4]; exact (heap_setCell_other w3 ⟨w.heap.size + 1, 0, none⟩ (w.heap.size + 2) (.int .i64 f.kind) (by simp)).trans R3.out
    have B4 : Hid (Below w.heap.size w w4) := by show Below _ _ _; rw [← hw4]; exact B3.out.setCell (p := ⟨w.heap.size + 1, 0, none⟩) (by simp) _
    try rw [hw4]
    clear hw4 e0 e1 e2 e3 e4 k1 pf
    obtain ⟨e0, e1, e2, e3, e4⟩ := five3 T2.out
    have E9 := Seg.hid (Cells.whole (vs := vrow ⟨f.kind, u.num, u.text, u.lst, u.items⟩ A4 c4) T3.out rfl)
    have B9 := Seg.hid (Cells.below_setCells (g := w.heap.size + 2) (by omega) (vrow ⟨f.kind, u.num, u.text, u.lst, u.items⟩ A4 c4).toList 0 _ _ B4.out)
    have TH := Seg.hid (Cells.there_of T3.out)
    go_wp2_with (refine wpList_store_mid rfl 84 _ _ rfl (w.heap.size + 2) 0 (vrow ⟨f.kind, u.num, u.text, u.lst, u.items⟩ A4 c4) rfl rfl TH.out infoVlu (by simp [Value.oneCell']) ?_)
    exact bodyPost_ret (v := .agg (vrow ⟨f.kind, u.num, u.text, u.lst, u.items⟩ A4 c4)) (results_cell_row rfl _ _ (w.heap.size + 2) _ _ _ _ rfl E9.out Try.underlying84 rfl infoVlu) rfl ⟨by rw [SV.out], B9.out⟩
set_option maxHeartbeats 3200000 in
theorem copy_any (u : Vlu) (A : Option Addr) (c : Nat) (w : World) (S : Nat → Prop) (h : LAt 2 EItm w S (.slice A u.items.length c) u.items) (hS : ∀ g, S g → g < w.heap.size) (hl : u.items.length ≤ 1048576) :
    Calls Try.prog 65 #[.agg (vrow u A c)] w fun e w' => ∃ A' c', e = .returned (.agg (vrow u A' c')) ∧ Ow.ItmsOwn w' (seg w.heap.size w'.heap.size) (.slice A' u.items.length c') u.items ∧ Below w.heap.size w w' := by
  have H := Seg.hid h
  clear h
  obtain ⟨i0, hi, hz0, hz1, hz2⟩ := info_parts infoItmZ
  go_enter Try.func65, Try.ntmps65
  go_upto_region 1 with fail
  obtain ⟨w2, hw2⟩ : ∃ w2, (w.alloc (.cells (vrow u A c) 84 (0, 0))).alloc (.cells zrow 84 (0, 0)) = w2 := ⟨_, rfl⟩
  have R1 : Hid (w2.heap[w.heap.size]? = some (.cells (vrow u A c) 84 (0, 0))) := by show _ = _; rw [← hw2]; exact at2z w _ _
  have R2 : Hid (w2.heap[w.heap.size + 1]? = some (.cells zrow 84 (0, 0))) := by show _ = _; rw [← hw2]; exact at2y w _ _
  have B2 : Hid (Below w.heap.size w w2) := by show Below _ _ _; rw [← hw2]; exact below2 w _ _
  have s2 : w.heap.size + 1 < w2.heap.size := (Array.getElem?_eq_some_iff.1 R2.out).1
  try rw [hw2]
  clear hw2
  have e4 : w2.cell? ⟨w.heap.size, 4, none⟩ = some (.slice A u.items.length c) := cell_of_row w2 _ 4 _ _ (0, 0) R1.out
  have s1 : w.heap.size < w2.heap.size := by omega
  have OW : Hid ((w2.alloc (.cells #[] 99 (0, 0))).ownsRow w2.heap.size 99 2 (.slice (some ⟨w2.heap.size, 0, none⟩) 0 0) 0 []) := empty_own w2 _ _
  have NW : Hid (u.items.length ≠ 0 → ∃ ad', A = some ad' ∧ ∀ j x, (icells u.items)[j]? = some x → (w2.alloc (.cells #[] 99 (0, 0))).cell? (ad'.add j) = some x) := news_of (LAt.below keepsItm H.out (chain B2.out (below1 w2 _)) hS)
  have E4 : Hid (∀ w3, (w2.alloc (.cells #[] 99 (0, 0))).grownBy w3 (some w2.heap.size) → w3.heap[w.heap.size]? = some (.cells (vrow u A c) 84 (0, 0)) ∧ w3.heap[w.heap.size + 1]? = some (.cells zrow 84 (0, 0)) ∧ Below w2.heap.size w2 w3) := fun w3 gr => by
    have hb : Below w2.heap.size w2 w3 := (below1 w2 _).grown gr (by rw [hsz]; omega) (fun k hk => by simp only [Option.some.injEq] at hk; omega)
    exact ⟨(hb.block _ (by omega)).trans R1.out, (hb.block _ s2).trans R2.out, hb⟩
  go_upto_region 2 with (at_builtin; refine AppW.wpList_append_all _ rfl _ _ 82 rfl w2.heap.size 99 i0 _ 2 24 Try.underlying82 hi hz0 hz1 hz2 rfl (by decide) (.slice (some ⟨w2.heap.size, 0, none⟩) 0 0) 0 [] rfl OW.out A u.items.length c (icells u.items) rfl (icells_len u.items) NW.out (icells_one u.items) (by unfold maxLen; omega) (by omega) (by rw [hsz]; omega) ?_; intro v' w3 hown hgr hvb; have OA : Hid (Ow.ItmsOwn w3 (seg w2.heap.size w3.heap.size) v' u.items) := all_own hown hl; obtain ⟨r1, r2, b3⟩ := E4.out w3 hgr; obtain ⟨A', c', hv'⟩ := Ow.LOwn.form OA.out; subst hv'; have U1 := Seg.hid r1; have U2 := Seg.hid r2; have B3 := Seg.hid b3; have pf : w3.frozen? ⟨w.heap.size, 4, none⟩ = false := frozen_of_row w3 _ 4 _ _ r1; have pc : w3.cell? ⟨w.heap.size, 4, none⟩ = some (.slice A u.items.length c) := cell_of_row w3 _ 4 _ _ (0, 0) r1; clear hown hgr hvb r1 r2 b3)
  obtain ⟨w4, hw4⟩ : ∃ w4, w3.setCell ⟨w.heap.size, 4, none⟩ (.slice A' u.items.length c') = w4 := ⟨_, rfl⟩
  have T1 : Hid (w4.heap[w.heap.size]? = some (.cells (vrow u A' c') 84 (0, 0))) := by show _ = _; rw [← hw4]; exact heap_setCell_same w3 w.heap.size 4 _ _ (.slice A' u.items.length c') U1.out
  have T2 : Hid (w4.heap[w.heap.size + 1]? = some (.cells zrow 84 (0, 0))) := by show _ = _; rw [← hw4]; exact (heap_setCell_other w3 ⟨w.heap.size, 4, none⟩ (w.heap.size + 1) _ (by simp)).trans U2.out
  have B4 : Hid (Below w.heap.size w w4) := by show Below _ _ _; rw [← hw4]; exact (chain B2.out B3.out).setCell (p := ⟨w.heap.size, 4, none⟩) (by simp) _
  have z4 : w4.heap.size = w3.heap.size := by rw [← hw4]; simp
  have OB : Hid (Ow.ItmsOwn w4 (seg w2.heap.size w4.heap.size) (.slice A' u.items.length c') u.items) := by
    show Ow.LOwn _ _ _ _ _ _ _
    rw [z4, ← hw4]
    exact Ow.LOwn.set Ow.keepsOItm OA.out 4 (fun y hy => by have := hy.1; omega) _
  try rw [hw4]
  clear hw4 z4 OA U1 U2 e4 pf pc
  obtain ⟨e0, e1, e2, e3, e4⟩ := five3 T1.out
  have E9 := Seg.hid (Cells.whole (vs := vrow u A' c') T2.out rfl)
  have B9 := Seg.hid (Cells.below_setCells (g := w.heap.size + 1) (by omega) (vrow u A' c').toList 0 _ _ B4.out)
  have TH := Seg.hid (Cells.there_of T2.out)
  have O9 : Hid (Ow.ItmsOwn (w4.setCells (w.heap.size + 1) 0 (vrow u A' c').toList) (seg w.heap.size (w4.setCells (w.heap.size + 1) 0 (vrow u A' c').toList).heap.size) (.slice A' u.items.length c') u.items) := by
    have hk : Ow.ItmsOwn (w4.setCells (w.heap.size + 1) 0 (vrow u A' c').toList) (seg w2.heap.size w4.heap.size) (.slice A' u.items.length c') u.items := Ow.LOwn.keep Ow.keepsOItm OB.out (by rw [Cells.size_setCells]; exact Nat.le_refl _) (fun y hy => Cells.heap_setCells_other _ _ (by have := hy.1; omega))
    show Ow.LOwn _ _ _ _ _ _ _
    rw [Cells.size_setCells]
    exact Ow.LOwn.mono hk (fun y hy => ⟨by have := hy.1; omega, hy.2⟩)
  go_wp2_with (refine wpList_store_mid rfl 84 _ _ rfl (w.heap.size + 1) 0 (vrow u A' c') rfl rfl TH.out infoVlu (by simp [Value.oneCell']) ?_)
  exact bodyPost_ret (v := .agg (vrow u A' c')) (results_cell_row rfl _ _ (w.heap.size + 1) _ _ _ _ rfl E9.out Try.underlying84 rfl infoVlu) rfl ⟨A', c', rfl, O9.out, B9.out⟩
end Go.Proofs.Ytdhicmbfknagjaa.RvJ
