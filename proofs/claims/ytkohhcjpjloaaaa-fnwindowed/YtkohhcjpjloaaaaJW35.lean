/- The program's slices.Sort and slices.Compact over a row of numbers of the call's own; The program's slices.Sorted(slices.Values(list)) over a list of numbers. -/
import Derived.Sort.OwnSortedInts
import Derived.Shelf.Slices.In.SortNone
import Derived.RangeFuncBox
import Derived.RangeFuncLeaves
import Derived.RangeFuncFrom
import Derived.RangeFuncWrites
import Derived.Shelf.Abstract
import Derived.WalkKit
import Derived.OwnWalkIn
import Derived.TacticsInMore
import Derived.LoopNIn
import Derived.LoopIn
import Derived.Maps.AppendAt
import Derived.Test.YtkohhcjpjloaaaaJW34
import Derived.Test.YtkohhcjpjloaaaaJW28
namespace Go.Proofs.Ytkohhcjpjloaaaa.SrI
set_option maxRecDepth 8000
open Go.RowKit
open Go.Sort (grow putRow Holds)
open Ls Lp RkP IrA SrP SrS
open Recs (hsz below1 below2 chain chainD)
set_option linter.unusedVariables false
theorem take_row {w : World} {B g cap n : Nat} {ns : List Int} (hn : n ≤ ns.length) (h : NRow w B (.slice (some ⟨g, 0, none⟩) ns.length cap) ns) : NRow w B (.slice (some ⟨g, 0, none⟩) n cap) (ns.take n) := by
  rcases h.2 with ⟨h1, _⟩ | ⟨g', cap', cur, h1, hb', hg, hnc, hcm, hcs, htake⟩
  · cases h1
  · simp only [Value.slice.injEq, true_and, Option.some.injEq, Addr.mk.injEq, and_true] at h1
    obtain ⟨rfl, rfl⟩ := h1
    have hl : (ns.take n).length = n := by rw [List.length_take]; omega
    unfold NRow
    rw [hl]
    refine ⟨by rw [List.length_map, hl]; omega, .inr ⟨g, cap, cur, rfl, hb', hg, by omega, hcm, hcs, ?_⟩⟩
    rw [Nat.mul_one] at htake ⊢
    rw [List.map_take, ← htake, List.take_take]
    congr 1
    omega
theorem sort_any (v : Value) (ns : List Int) (B : Nat) (w : World) (h : NRow w B v ns) (hl : ns.length ≤ 1048576) :
    Calls Try.prog 35 #[v] w fun e w' => e = .returned (.tuple #[]) ∧ NRow w' B v (srt ns) ∧ w.grownBy w' v.ownBlock := by
  have hs : srt ns = ns.mergeSort (fun x y => decide (x ≤ y)) := rfl
  rcases h.2 with ⟨rfl, h0⟩ | ⟨g, cap, cur, rfl, hb, hg, hnc, hcm, hcs, htake⟩
  · obtain rfl := List.length_eq_zero_iff.1 h0
    refine (Any.slices_Sort_int_none Try.lays189 none 0 w).mono fun e w' ⟨h1, h2⟩ => ⟨h1, ?_, ?_⟩
    · rw [h2, show srt [] = [] by simp [srt]]; exact World.ownsRow_nil w _ _ _
    · rw [h2]; exact World.grownBy.refl _ _
  · rw [Nat.mul_one] at htake
    refine (Try.slices_Sort_int g 0 cap ns w (holds_of_blockI hg htake) (Array.getElem?_eq_some_iff.1 hg).1 (by omega)).mono fun e w' ⟨h1, n, os, h2⟩ => ⟨h1, ?_, ?_⟩
    · have := ownsRow_sortedI (n := n) (os := os) (ts := srt ns) (srt_len ns) hb hg hnc hcm hcs
      rw [h2, ← hs]
      unfold NRow
      rw [srt_len]
      exact this
    · rw [h2]; exact grownBy_sortedI _
/-- Runs of alike numbers, one of each. -/
theorem compact_any (v : Value) (ns : List Int) (B : Nat) (w : World) (h : NRow w B v ns) (hl : ns.length ≤ 1048576) (hc : (Lib.compact ns).length ≤ ns.length) :
    Calls Try.prog 32 #[v] w fun e w' => ∃ v', e = .returned v' ∧ NRow w' B v' (Lib.compact ns) ∧ w.grownBy w' v.ownBlock ∧ v'.ownBlock = v.ownBlock := by
  rcases h.2 with ⟨rfl, h0⟩ | ⟨g, cap, cur, rfl, hb, hg, hnc, hcm, hcs, htake⟩
  · obtain rfl := List.length_eq_zero_iff.1 h0
    refine (Try.slices_Compact_int_empty none 0 w).mono fun e w' ⟨h1, h2⟩ => ⟨_, h1, ?_, ?_, rfl⟩
    · rw [h2, List.length_eq_zero_iff.1 (by simpa using hc : (Lib.compact []).length = 0)]; exact World.ownsRow_nil w _ _ _
    · rw [h2]; exact World.grownBy.refl _ _
  · rw [Nat.mul_one] at htake
    refine (Try.slices_Compact_int g 0 cap ns w (holds_of_blockI hg htake) (by omega) hnc).mono fun e w' ⟨h1, q, h2⟩ => ⟨_, h1, ?_, ?_, rfl⟩
    · obtain ⟨ts, hts⟩ : ∃ ts, Lib.compact ns ++ List.replicate (ns.length - (Lib.compact ns).length) 0 = ts := ⟨_, rfl⟩
      have htl : ts.length = ns.length := by rw [← hts]; simp; omega
      have := ownsRow_sortedI (n := q) (os := #[]) (ts := ts) htl hb hg hnc hcm hcs
      have e0 : grow (putRow (Value.int .i64) (Sort.ahead w q) g 0 ts.toArray) #[] = putRow (Value.int .i64) (Sort.ahead w q) g 0 ts.toArray := by unfold grow; rw [Array.append_empty]
      rw [e0] at this
      rw [h2, hts]
      have hr : NRow (putRow (Value.int .i64) (Sort.ahead w q) g 0 ts.toArray) B (.slice (some ⟨g, 0, none⟩) ts.length cap) ts := by unfold NRow; rw [htl]; exact this
      have ht := take_row (n := (Lib.compact ns).length) (by omega) hr
      rw [← hts, List.take_left] at ht
      rw [hts] at ht
      exact ht
    · have := grownBy_sortedI (w := w) (g := g) (n := q) (os := #[]) (Lib.compact ns ++ List.replicate (ns.length - (Lib.compact ns).length) 0).toArray
      rw [h2]
      unfold grow at this
      rw [Array.append_empty] at this
      exact this
end Go.Proofs.Ytkohhcjpjloaaaa.SrI
namespace Go.Proofs.Ytkohhcjpjloaaaa.SvI
set_option maxRecDepth 8000
set_option maxRecDepth 100000
open Go.RowKit Go.Shelf
open Ls Lp RkP IrA SrP SrS
open Recs (hsz below1 below2 chain chainD)
set_option linter.unusedVariables false
attribute [local go_sem] Oper.semAt_some
theorem take_next {ts : List Int} {k : Nat} (hk : k < ts.length) : ts.take (k + 1) = ts.take k ++ [ts.getD k default] := by
  rw [List.take_add_one, List.getElem?_eq_getElem hk]
  simp [hk]
set_option maxHeartbeats 3200000 in
/-- What ranges over the list: each number in its place, till a round has said that no more is wanted. -/
theorem stops (n : Nat) (hn : 1 ≤ n) (h1 : Nat) (A : Option Addr) (c : Nat) (ts : List Int) (w0 w : World) (S : Nat → Prop) (hv : IntsAt w0 S (.slice A ts.length c) ts) (hS : ∀ g, S g → g < w0.heap.size) (hnw : Below w0.heap.size w0 w) (hb : h1 < w0.heap.size) (c1 : w0.cell? ⟨h1, 0, none⟩ = some (.slice A ts.length c)) :
    SeqStopsK Fence.wide n Try.prog 47 #[.pointer (some ⟨h1, 0, none⟩)] (fun x : Int => #[Value.int .i64 x]) (Below w0.heap.size) (fun xs => xs = ts) (fun pre => pre <+: ts) ts.length w := by
  intro l J Jx W hW hJ hJx hY h0
  obtain ⟨A', c', g, o, F, e0, OP, hn1⟩ := opn hv hS
  cases e0
  have HO := Seg.hid OP
  have HS := Seg.hid hv
  refine callsIn_of_wp Try.func47 rfl trivial ?_ rfl
  simp only [Try.ntmps47, List.size_toArray, List.length_cons, List.length_nil, Nat.reduceAdd, Nat.reduceSub, Array.replicate_succ, Array.replicate_zero, List.push_toArray, List.append_toArray, List.nil_append, List.cons_append]
  have k1 : W.cell? ⟨h1, 0, none⟩ = some (.slice A ts.length c) := (hW.cell (p := ⟨h1, 0, none⟩) (Nat.lt_of_lt_of_le hb hnw.size)).trans ((hnw.cell (p := ⟨h1, 0, none⟩) hb).trans c1)
  have HY := Seg.hid hY
  clear hY OP hv
  gi_wp2
  gi_loopw [7] (fun i wr => ∃ k : Nat, k ≤ ts.length ∧ i = .int .i64 k ∧ J (ts.take k) wr ∧ Below w0.heap.size W wr) (fun i _ => ts.length - (intOf i).toNat)
  case atStart => exact ⟨0, Nat.zero_le _, rfl, by simpa using h0, Below.refl _ _⟩
  case round =>
    obtain ⟨k, hk, rfl, hJs, hnx⟩ := hrel
    by_cases hlt : k < ts.length
    · obtain ⟨ea, hcc, hgw⟩ := HO.out.addr.resolve_left (by omega)
      subst ea
      have d0 : wr.cell? ⟨g, o + k, none⟩ = some (.int .i64 (ts.getD k default)) := (hnx.cell (p := ⟨g, o + k, none⟩) hgw).trans ((hW.cell (p := ⟨g, o + k, none⟩) (Nat.lt_of_lt_of_le hgw hnw.size)).trans ((hnw.cell (p := ⟨g, o + k, none⟩) hgw).trans (TbP.ints_cell HO.out hlt)))
      have i0 : (k : Int) < (ts.length : Int) := by omega
      have i1 : (0 : Int) ≤ (k : Int) := by omega
      have TN := Seg.hid (take_next hlt)
      generalize ts.getD k default = x at *
      obtain ⟨fn, tmps, assign, body, hy, hR⟩ := HY.out (ts.take k) x wr hJs (by rw [List.length_take]; omega)
      gi_wp2
      refine hR.mono ?_
      rintro e W3 (⟨rfl, hJ3, hk3⟩ | ⟨rfl, hJx3⟩)
      · gi_wp2
        go_roundw
        case rel => exact ⟨k + 1, by omega, by simp, by rw [TN.out]; exact hJ3, hnx.trans hk3⟩
        case measure => simp [intOf]; omega
      · gi_wp2
        refine bodyPost_ret (results_none rfl _ _ _) rfl ?_
        exact ⟨⟨_, rfl⟩, .inr ⟨_, by rw [← TN.out]; exact List.take_prefix _ _, hJx3⟩⟩
    · obtain rfl : k = ts.length := by omega
      gi_wp2
      go_end0
      exact ⟨⟨_, rfl⟩, .inl ⟨_, by rw [List.take_length], hJs⟩⟩
set_option maxHeartbeats 3200000 in
theorem seq_any (h1 : Nat) (A : Option Addr) (c : Nat) (ts : List Int) (w : World) (S : Nat → Prop) (hv : IntsAt w S (.slice A ts.length c) ts) (hS : ∀ g, S g → g < w.heap.size) (hb : h1 < w.heap.size) (c1 : w.cell? ⟨h1, 0, none⟩ = some (.slice A ts.length c)) (hl : ts.length ≤ 1048576) :
    Calls Try.prog 52 #[.slice none 0 0, .func (.func 47) #[] #[.pointer (some ⟨h1, 0, none⟩)]] w fun e w' => ∃ v, e = .returned v ∧ NRow w' w.heap.size v ts ∧ Below w.heap.size w w' := by
  obtain ⟨i0, hi, hz0, hz1, hz2⟩ := info_parts infoI
  have HSTOP := stops 4 (by omega) h1 A c ts w (w.alloc (.cells #[.slice none 0 0] 29 (0, 0))) S hv hS (below1 w _) hb c1
  clear hv
  refine (callsIn_wide (n := 5)).1 ?_
  refine callsIn_of_wp_marks Try.func52 rfl trivial ?_ rfl
  simp only [Try.ntmps52, List.size_toArray, List.length_cons, List.length_nil, Nat.reduceAdd, Nat.reduceSub, Array.replicate_succ, Array.replicate_zero, List.push_toArray, List.append_toArray, List.nil_append, List.cons_append]
  gi_wp2
  have bO := Boxed.new w 29 (.slice none 0 0)
  refine wpIn_rangeFunc_ownG rfl (by omega) (gf := 47) (lb := #[.pointer (some ⟨h1, 0, none⟩)]) rfl trivial (enters_of Try.func47 (by kernel_rfl) rfl)
    HSTOP belowK_t (belowK_b (by simp)) (Below.refl _ _) (fun _ => rfl)
    (fun pre W => (∃ v, Boxed W w.heap.size 29 v ∧ W.ownsRow w.heap.size 3 1 v pre.length (pre.map (Value.int .i64)) ∧ True) ∧ Below w.heap.size w W)
    (fun _ _ _ => False)
    (OwnFrom.and (Own.from (holdsRow_own w.heap.size w.heap.size 29 3 1 (fun pre : List Int => pre.length) (fun pre => pre.map (Value.int .i64)) (fun _ _ => True)) _) (ownFrom_below (Nat.le_refl _) (by simp)))
    (fun _ _ _ _ _ hs _ _ => hs)
    ⟨⟨_, bO, World.ownsRow_nil _ _ _ _, trivial⟩, below1 w _⟩
    (fun x => { tmps := #[.slice none 0 0, .func (.func 47) #[] #[.pointer (some ⟨h1, 0, none⟩)], .pointer (some ⟨w.heap.size, 0, none⟩), undef, .slice none 0 0, .int .i64 x, .func (.func 47) #[] #[.pointer (some ⟨h1, 0, none⟩)], .int .i64 x, undef, undef, undef, undef, undef], defers := [] }) ?assign ?body ?done ?stop
  case assign =>
    intro l x W K hK
    gi_wp2
    exact hK
  case body =>
    rintro l pre x W ⟨⟨v, hv, hrow, -⟩, hB⟩ hlt
    have hc := hv.cell
    gi_wp2_with (gi_at_builtin; refine wpListIn_append_own _ rfl _ _ 29 rfl w.heap.size 3 i0 (.int .i64 0) 1 8 Try.underlying29 hi hz0 hz1 hz2 rfl (by decide) _ _ _ rfl (hrow.alloc _) ⟨W.heap.size, 0, none⟩ 1 1 [.int .i64 x] rfl rfl (cell_one_new _ _ _) (by simp [Value.oneCell']) (by unfold maxLen; omega) (by omega) (by have := hB.size; simp; omega) ?_; intro v' w1 hown' hgrow _; obtain ⟨g', cap', rfl⟩ := ownsRow_succ hown'; obtain ⟨hv1, hv2, hr2, hk2, hb2⟩ := hv.appended (by decide) hrow hB.size (Nat.le_refl _) hown' hgrow; have hc1 := hv1.cell; have hf1 := hv1.frozen)
    exact ⟨hk2.from _, hb2, ⟨_, hv2, by simpa using hr2, trivial⟩, hB.trans hb2⟩
  case done =>
    rintro D ys W hD rfl ⟨⟨v, hv, hrow, -⟩, hB⟩ hK
    have hc := hv.cell
    gi_wp2
    refine ⟨by simp, .inl ⟨_, _, rfl, run_takeDeferred hK, ?_⟩⟩
    exact ⟨_, results_tmp rfl _ _ _, v, rfl, ownsRow_putObj hrow _ hK rfl, hB.trans (belowK_b (w := w) (Nat.le_refl _) W D _ _ (by simp at hD; omega) hK rfl rfl)⟩
  case stop =>
    rintro D c pre W _ _ h _
    exact h.elim
set_option maxHeartbeats 1600000 in
/-- slices.Sorted over slices.Values of a list: its numbers, sorted, in memory of the call's own. -/
theorem sorted_seq (h1 : Nat) (A : Option Addr) (c : Nat) (ts : List Int) (w : World) (S : Nat → Prop) (hv : IntsAt w S (.slice A ts.length c) ts) (hS : ∀ g, S g → g < w.heap.size) (hb : h1 < w.heap.size) (c1 : w.cell? ⟨h1, 0, none⟩ = some (.slice A ts.length c)) (hl : ts.length ≤ 1048576) :
    Calls Try.prog 33 #[.func (.func 47) #[] #[.pointer (some ⟨h1, 0, none⟩)]] w fun e w' => ∃ v, e = .returned v ∧ NRow w' w.heap.size v (srt ts) ∧ Below w.heap.size w w' := by
  have CS := Seg.hid (seq_any h1 A c ts w S hv hS hb c1 hl)
  have CC : Hid (Calls Try.prog 46 #[.func (.func 47) #[] #[.pointer (some ⟨h1, 0, none⟩)]] w fun e w' => ∃ v, e = .returned v ∧ NRow w' w.heap.size v ts ∧ Below w.heap.size w w') := by
    show Calls _ _ _ _ _
    clear hv
    go_enter Try.func46, Try.ntmps46
    go_wp2_with (go_at_call 52; refine CS.out.mono ?_; rintro e w1 ⟨v1, rfl, h2, h3⟩; have R1 := Seg.hid h2; have B1 := Seg.hid h3; clear h2 h3)
    go_ret
    exact ⟨v1, rfl, R1.out, B1.out⟩
  clear hv CS
  go_enter Try.func33, Try.ntmps33
  go_wp2_with (first | (go_at_call 46; refine CC.out.mono ?_; rintro e w1 ⟨v1, rfl, h2, h3⟩; have R1 := Seg.hid h2; have B1 := Seg.hid h3; clear h2 h3) | (go_at_call 35; refine (SrI.sort_any _ ts w.heap.size w1 R1.out hl).mono ?_; rintro e w2 ⟨rfl, h2, h3⟩; have R2 := Seg.hid h2; have B2 : Hid (Below w.heap.size w w2) := B1.out.grown h3 B1.out.size (fun y hy => (row_lt R1.out y hy).1); clear h2 h3))
  go_ret
  exact ⟨v1, rfl, R2.out, B2.out⟩
theorem values_any (A : Option Addr) (n c : Nat) (w : World) : Calls Try.prog 34 #[.slice A n c] w fun e w' => e = .returned (.func (.func 47) #[] #[.pointer (some ⟨w.heap.size, 0, none⟩)]) ∧ w' = w.alloc (.cells #[.slice A n c] 29 (0, 0)) := by
  go_enter Try.func34, Try.ntmps34
  go_wp2
  go_ret
  exact ⟨rfl, rfl⟩
end Go.Proofs.Ytkohhcjpjloaaaa.SvI
