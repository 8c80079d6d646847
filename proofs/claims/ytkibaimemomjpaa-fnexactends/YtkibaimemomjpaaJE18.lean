/- Rows of numbers of the call's own: slices.Clone over numbers, and what an append of a whole list leaves; The model's l16Arrival and l5Least. -/
import Derived.WalkLawsBesides
import Derived.Deep.AppendLies
import Derived.Deep.Cut
import Derived.Deep.RegionHeld3
import Derived.Deep.MidRow
import Derived.Test.YtkibaimemomjpaaJE15
import Derived.Test.YtkibaimemomjpaaJE03
import Derived.Test.YtkibaimemomjpaaJE16
import Derived.Test.YtkibaimemomjpaaJE17
import Derived.Test.YtkibaimemomjpaaJE14
import Derived.Test.YtkibaimemomjpaaJE02
namespace Go.Proofs.Ytkibaimemomjpaa.IrA
set_option maxRecDepth 8000
open Go.RowKit
open Ls Lp RkP
open Recs (hsz below1 below2 below3 chain)
set_option linter.unusedVariables false
theorem news_of {w w' : World} {S : Nat → Prop} {A : Option Addr} {c : Nat} {us : List Int} (h : IntsAt w S (.slice A us.length c) us) (hS : ∀ g, S g → w'.heap[g]? = w.heap[g]?) : us.length ≠ 0 → ∃ ad, A = some ad ∧ ∀ j u, (us.map (Value.int .i64))[j]? = some u → w'.cell? (ad.add j) = some u := fun h0 => by
  obtain ⟨hn, A', c', e, h⟩ := h
  cases e
  obtain ⟨g, o, F, rfl, hg, hc, hcell, hel⟩ := h.resolve_left h0
  refine ⟨_, rfl, fun j u hu => ?_⟩
  have hj : j < us.length := by
    have := (List.getElem?_eq_some_iff.1 hu).1
    simpa using this
  have e : F j 0 = .int .i64 (us.getD j default) := hel j hj
  have cc := hcell j hj 0 (by omega)
  rw [e] at cc
  have hu' : u = .int .i64 (us.getD j default) := by simpa [hj] using hu.symm
  have ead : Addr.add ⟨g, o, none⟩ j = ⟨g, o + j, none⟩ := by
    by_cases h0 : j = 0
    · subst h0; rfl
    · simp [Addr.add, h0]
  rw [hu', ead, World.cell?_of_block (w := w) (a := ⟨g, o + j, none⟩) (hS g hg)]
  simpa using cc
theorem row_all {w : World} {B : Nat} {v : Value} {us : List Int} (h : w.ownsRow B 3 1 v (0 + us.length) ([] ++ us.map (Value.int .i64))) : NRow w B v us := by
  rw [Nat.zero_add, List.nil_append] at h
  exact h
theorem row_more {w : World} {B : Nat} {v : Value} {us vs : List Int} (h : w.ownsRow B 3 1 v (us.length + vs.length) (us.map (Value.int .i64) ++ vs.map (Value.int .i64))) : NRow w B v (us ++ vs) := by
  unfold NRow
  rw [List.length_append, List.map_append]
  exact h
theorem empty_row (w : World) : NRow (w.alloc (.cells #[] 3 (0, 0))) w.heap.size (.slice (some ⟨w.heap.size, 0, none⟩) 0 0) [] :=
  ⟨rfl, .inr ⟨w.heap.size, 0, #[], rfl, Nat.le_refl _, heap_alloc_new _ _, by simp, by unfold maxLen; omega, by simp, by simp⟩⟩
theorem own {w : World} {B : Nat} {v : Value} {ns : List Int} (h : NRow w B v ns) (hl : ns.length ≤ 1048576) : Ow.IntsOwn w (seg B w.heap.size) v ns :=
  Ow.LOwn.mono (Ow.ints_own h hl) (fun x hx => World.ownsRow.lt h x hx)
theorem row_weak {w : World} {B B' : Nat} {v : Value} {ns : List Int} (h : NRow w B v ns) (hb : B' ≤ B) : NRow w B' v ns :=
  ⟨h.1, h.2.imp id (fun ⟨g, cap, cur, h1, h2, h3⟩ => ⟨g, cap, cur, h1, by omega, h3⟩)⟩
theorem row_lt {w : World} {B : Nat} {v : Value} {ns : List Int} (h : NRow w B v ns) : ∀ y, v.ownBlock = some y → B ≤ y ∧ y < w.heap.size := fun y hy => World.ownsRow.lt h y hy
set_option maxHeartbeats 1600000 in
theorem clone_any (A : Option Addr) (c : Nat) (us : List Int) (w : World) (S : Nat → Prop) (h : IntsAt w S (.slice A us.length c) us) (hS : ∀ g, S g → g < w.heap.size) (hl : us.length ≤ 1048576) :
    Calls Try.prog 97 #[.slice A us.length c] w fun e w' => ∃ v, e = .returned v ∧ NRow w' w.heap.size v us ∧ Below w.heap.size w w' := by
  have H := Seg.hid h
  clear h
  cases A with
  | none =>
    have hz : us.length = 0 := by
      obtain ⟨_, A', c', h1, h2⟩ := H.out
      simp only [Value.slice.injEq, true_and] at h1
      obtain ⟨rfl, rfl⟩ := h1
      rcases h2 with h2 | ⟨g, o, F, h3, _⟩
      · exact h2
      · cases h3
    obtain rfl := List.length_eq_zero_iff.1 hz
    have hq := Lib.run_eql_slice_nil (P := Try.prog) w 27 3 none 0 c 0 0 Try.underlying27
    go_enter Try.func97, Try.ntmps97
    go_wp2
    go_ret
    exact ⟨_, rfl, World.ownsRow_nil w _ _ _, Below.refl _ _⟩
  | some ad =>
    obtain ⟨i0, hi, hz0, hz1, hz2⟩ := info_parts infoI
    have OW : Hid ((w.alloc (.cells #[] 3 (0, 0))).ownsRow w.heap.size 3 1 (.slice (some ⟨w.heap.size, 0, none⟩) 0 0) 0 []) := empty_row w
    have NW : Hid (us.length ≠ 0 → ∃ ad', some ad = some ad' ∧ ∀ j u, (us.map (Value.int .i64))[j]? = some u → (w.alloc (.cells #[] 3 (0, 0))).cell? (ad'.add j) = some u) := news_of H.out (fun g hg => (below1 w _).block g (hS g hg))
    have hq := Lib.run_eql_slice_nil (P := Try.prog) w 27 3 (some ad) us.length c 0 0 Try.underlying27
    go_enter Try.func97, Try.ntmps97
    go_wp2_with (at_builtin; refine AppW.wpList_append_all _ rfl _ _ 27 rfl w.heap.size 3 i0 _ 1 8 Try.underlying27 hi hz0 hz1 hz2 rfl (by decide) (.slice (some ⟨w.heap.size, 0, none⟩) 0 0) 0 [] rfl OW.out (some ad) us.length c (us.map (Value.int .i64)) rfl (by simp) NW.out (by simp [Value.oneCell']) (by unfold maxLen; omega) (by omega) (by rw [hsz]; omega) ?_; intro v' w2 hown hgr hvb; have OA : Hid (NRow w2 w.heap.size v' us) := row_all hown; have B2 : Hid (Below w.heap.size w w2) := (below1 w _).grown hgr (by rw [hsz]; omega) (fun k hk => by simp only [Value.ownBlock, Option.some.injEq] at hk; omega); clear hown hgr hvb)
    go_ret
    exact ⟨_, rfl, OA.out, B2.out⟩
end Go.Proofs.Ytkibaimemomjpaa.IrA
namespace Go.Proofs.Ytkibaimemomjpaa.EdL
set_option maxRecDepth 8000
open Go.RowKit
open Ls Lp QyP QsP QtP QuP TbP IoP EdP RkP IrA
open Recs
set_option linter.unusedVariables false
abbrev zrow : Array Value := #[.int .i64 0, .slice none 0 0, .bool false]
theorem new_fst (w : World) (a b : Obj) : ((w.alloc a).alloc b).heap[w.heap.size]? = some a := ((below1 _ b).block _ (by rw [hsz]; omega)).trans (heap_alloc_new _ _)
theorem new_snd (w : World) (a b : Obj) : ((w.alloc a).alloc b).heap[w.heap.size + 1]? = some b := by
  have h := heap_alloc_new (w.alloc a) b
  rw [hsz] at h
  exact h
theorem least_any (a b : Int) (w : World) : Calls Try.prog 55 #[.int .i64 a, .int .i64 b] w fun e w' => e = .returned (.int .i64 (if b < a then b else a)) ∧ w = w' := by
  obtain ⟨m, hm⟩ : ∃ m, (if b < a then b else a) = m := ⟨_, rfl⟩
  rw [hm]
  by_cases h : a < b
  · have R : Hid (m = a) := by show _ = _; rw [← hm, if_neg (by omega)]
    clear hm
    go_enter Try.func55, Try.ntmps55
    go_wp2
    go_ret
    exact ⟨by rw [R.out]; rfl, rfl⟩
  · have R : Hid (m = b) := by
      show _ = _
      rw [← hm]
      split
      · rfl
      · omega
    clear hm
    go_enter Try.func55, Try.ntmps55
    go_wp2
    go_ret
    exact ⟨by rw [R.out]; rfl, rfl⟩
set_option maxHeartbeats 3200000 in
theorem copy_any (a : Arr) (A : Option Addr) (c : Nat) (w : World) (S : Nat → Prop) (h : IntsAt w S (.slice A a.row.length c) a.row) (hS : ∀ g, S g → g < w.heap.size) (hl : a.row.length ≤ 1048576) :
    Calls Try.prog 56 #[.agg #[.int .i64 a.time, .slice A a.row.length c, .bool a.gone]] w fun e w' => ∃ A' c', e = .returned (.agg #[.int .i64 a.time, .slice A' a.row.length c', .bool a.gone]) ∧ NRow w' w.heap.size (.slice A' a.row.length c') a.row ∧ Below w.heap.size w w' := by
  have H := Seg.hid h
  clear h
  obtain ⟨i0, hi, hz0, hz1, hz2⟩ := info_parts infoI
  go_enter Try.func56, Try.ntmps56
  go_upto_region 1 with fail
  obtain ⟨w2, hw2⟩ : ∃ w2, (w.alloc (.cells #[.int .i64 a.time, .slice A a.row.length c, .bool a.gone] 88 (0, 0))).alloc (.cells zrow 88 (0, 0)) = w2 := ⟨_, rfl⟩
  have R1 : Hid (w2.heap[w.heap.size]? = some (.cells #[.int .i64 a.time, .slice A a.row.length c, .bool a.gone] 88 (0, 0))) := by show _ = _; rw [← hw2]; exact new_fst w _ _
  have R2 : Hid (w2.heap[w.heap.size + 1]? = some (.cells zrow 88 (0, 0))) := by show _ = _; rw [← hw2]; exact new_snd w _ _
  have B2 : Hid (Below w.heap.size w w2) := by show Below _ _ _; rw [← hw2]; exact below2 w _ _
  have s2 : w.heap.size + 1 < w2.heap.size := (Array.getElem?_eq_some_iff.1 R2.out).1
  try rw [hw2]
  clear hw2
  have e4 : w2.cell? ⟨w.heap.size, 1, none⟩ = some (.slice A a.row.length c) := cell_of_row w2 _ 1 _ _ (0, 0) R1.out
  have s1 : w.heap.size < w2.heap.size := by omega
  have OW : Hid ((w2.alloc (.cells #[] 3 (0, 0))).ownsRow w2.heap.size 3 1 (.slice (some ⟨w2.heap.size, 0, none⟩) 0 0) 0 []) := empty_row w2
  have NW : Hid (a.row.length ≠ 0 → ∃ ad', A = some ad' ∧ ∀ j x, (a.row.map (Value.int .i64))[j]? = some x → (w2.alloc (.cells #[] 3 (0, 0))).cell? (ad'.add j) = some x) := news_of H.out (fun y hy => (chain B2.out (below1 w2 _)).block y (hS y hy))
  have E4 : Hid (∀ w3, (w2.alloc (.cells #[] 3 (0, 0))).grownBy w3 (some w2.heap.size) → w3.heap[w.heap.size]? = some (.cells #[.int .i64 a.time, .slice A a.row.length c, .bool a.gone] 88 (0, 0)) ∧ w3.heap[w.heap.size + 1]? = some (.cells zrow 88 (0, 0)) ∧ Below w2.heap.size w2 w3) := fun w3 gr => by
    have hb : Below w2.heap.size w2 w3 := (below1 w2 _).grown gr (by rw [hsz]; omega) (fun k hk => by simp only [Option.some.injEq] at hk; omega)
    exact ⟨(hb.block _ (by omega)).trans R1.out, (hb.block _ s2).trans R2.out, hb⟩
  go_upto_region 2 with (at_builtin; refine AppW.wpList_append_all _ rfl _ _ 27 rfl w2.heap.size 3 i0 _ 1 8 Try.underlying27 hi hz0 hz1 hz2 rfl (by decide) (.slice (some ⟨w2.heap.size, 0, none⟩) 0 0) 0 [] rfl OW.out A a.row.length c (a.row.map (Value.int .i64)) rfl (by simp) NW.out (by simp [Value.oneCell']) (by unfold maxLen; omega) (by omega) (by rw [hsz]; omega) ?_; intro v' w3 hown hgr hvb; have OA : Hid (NRow w3 w2.heap.size v' a.row) := row_all hown; obtain ⟨r1, r2, b3⟩ := E4.out w3 hgr; obtain ⟨A', c', hv'⟩ : ∃ A' c', v' = .slice A' a.row.length c' := (by rcases OA.out.2 with ⟨h1, h2⟩ | ⟨g, cap, cur, h1, -⟩; exact ⟨none, 0, by rw [h1, h2]⟩; exact ⟨_, cap, h1⟩); subst hv'; have U1 := Seg.hid r1; have U2 := Seg.hid r2; have B3 := Seg.hid b3; have pf : w3.frozen? ⟨w.heap.size, 1, none⟩ = false := frozen_of_row w3 _ 1 _ _ r1; have pc : w3.cell? ⟨w.heap.size, 1, none⟩ = some (.slice A a.row.length c) := cell_of_row w3 _ 1 _ _ (0, 0) r1; clear hown hgr hvb r1 r2 b3)
  obtain ⟨w4, hw4⟩ : ∃ w4, w3.setCell ⟨w.heap.size, 1, none⟩ (.slice A' a.row.length c') = w4 := ⟨_, rfl⟩
  have T1 : Hid (w4.heap[w.heap.size]? = some (.cells #[.int .i64 a.time, .slice A' a.row.length c', .bool a.gone] 88 (0, 0))) := by show _ = _; rw [← hw4]; exact heap_setCell_same w3 w.heap.size 1 _ _ (.slice A' a.row.length c') U1.out
  have T2 : Hid (w4.heap[w.heap.size + 1]? = some (.cells zrow 88 (0, 0))) := by show _ = _; rw [← hw4]; exact (heap_setCell_other w3 ⟨w.heap.size, 1, none⟩ (w.heap.size + 1) _ (by simp)).trans U2.out
  have B4 : Hid (Below w.heap.size w w4) := by show Below _ _ _; rw [← hw4]; exact (chain B2.out B3.out).setCell (p := ⟨w.heap.size, 1, none⟩) (by simp) _
  have OB : Hid (NRow w4 w2.heap.size (.slice A' a.row.length c') a.row) := by
    show NRow _ _ _ _
    rw [← hw4]
    exact Ow.owns_keep OA.out (fun y hy => heap_setCell_other w3 _ y _ (by have := (row_lt OA.out y hy).1; show y ≠ w.heap.size; omega))
  try rw [hw4]
  clear hw4 OA U1 U2 e4 pf pc
  have e0 : w4.cell? ⟨w.heap.size, 0, none⟩ = some (.int .i64 a.time) := cell_of_row w4 _ 0 _ _ (0, 0) T1.out
  have e1 : w4.cell? ⟨w.heap.size, 1, none⟩ = some (.slice A' a.row.length c') := cell_of_row w4 _ 1 _ _ (0, 0) T1.out
  have e2 : w4.cell? ⟨w.heap.size, 2, none⟩ = some (.bool a.gone) := cell_of_row w4 _ 2 _ _ (0, 0) T1.out
  have E9 := Seg.hid (Cells.whole (vs := #[.int .i64 a.time, .slice A' a.row.length c', .bool a.gone]) T2.out rfl)
  have B9 := Seg.hid (Cells.below_setCells (g := w.heap.size + 1) (by omega) (#[.int .i64 a.time, .slice A' a.row.length c', .bool a.gone] : Array Value).toList 0 _ _ B4.out)
  have TH := Seg.hid (Cells.there_of T2.out)
  have O9 : Hid (NRow (w4.setCells (w.heap.size + 1) 0 (#[.int .i64 a.time, .slice A' a.row.length c', .bool a.gone] : Array Value).toList) w.heap.size (.slice A' a.row.length c') a.row) := row_weak (Ow.owns_keep OB.out (fun y hy => Cells.heap_setCells_other _ _ (by have := (row_lt OB.out y hy).1; omega))) (by omega)
  go_wp2_with (refine wpList_store_mid rfl 88 _ _ rfl (w.heap.size + 1) 0 #[.int .i64 a.time, .slice A' a.row.length c', .bool a.gone] rfl rfl TH.out infoArr (by simp [Value.oneCell']) ?_)
  exact bodyPost_ret (v := .agg #[.int .i64 a.time, .slice A' a.row.length c', .bool a.gone]) (results_cell_row rfl _ _ (w.heap.size + 1) _ _ _ _ rfl E9.out Try.underlying88 rfl infoArr) rfl ⟨A', c', rfl, O9.out, B9.out⟩
end Go.Proofs.Ytkibaimemomjpaa.EdL
