/- The program's askers over lists of numbers: ones up to a bound; a number among others; Replica: how it lies in memory; what the law's measure and copier answer; Lists of Replica: what the law's helpers answer. -/
import Derived.Test.YtggjinjadllapaaJSF22
namespace Go.Proofs.Ytggjinjadllapaa.Asc
set_option maxRecDepth 8000
open Go.RowKit
open Ls
open Recs (hsz below1 below2 chain)
set_option linter.unusedVariables false
def allIn (most : Int) : List Int → Bool
  | [] => true
  | n :: r => inR 0 n most && allIn most r
def nums (ns : List Int) (n most : Int) : Bool := allIn most ns && decide ((ns.length : Int) = n)
def has (x : Int) : List Int → Bool
  | [] => false
  | n :: r => decide (n = x) || has x r
set_option maxHeartbeats 400000 in
theorem all_core (g o c n : Nat) (ns : List Int) (m most : Int) (t : Bool) (w : World) (hn : n ≤ 9223372036854775807) (hc : n ≤ c) (hnl : ns.length = n) (ht : nums ns m most = t)
    (ha : ∀ i, i < n → w.cell? ⟨g, o + i, none⟩ = some (.int .i64 (ns.getD i default))) :
    Calls Try.prog 62 #[.slice (some ⟨g, o, none⟩) n c, .int .i64 m, .int .i64 most] w fun e w' => e = .returned (.bool t) ∧ w = w' := by
  have HA := Seg.hid ha
  have HT : Hid ((allIn most (ns.drop 0) && decide ((n : Int) = m)) = t) := by show _ = _; rw [← ht, nums, hnl]; rfl
  have HN := Seg.hid hnl
  clear ha ht hnl
  go_enter Try.func62, Try.ntmps62
  go_wp2
  go_loop [11] (fun i => ∃ (k : Nat), k ≤ n ∧ i = .int .i64 k ∧ Hid ((allIn most (ns.drop k) && decide ((n : Int) = m)) = t)) (fun i => n - (intOf i).toNat)
  case atStart => exact ⟨0, Nat.zero_le _, rfl, HT⟩
  case round =>
    obtain ⟨k, hk, rfl, HB⟩ := hrel
    by_cases hlt : k < n
    · have c1 := HA.out k hlt
      have h0 : (0 : Int) ≤ (k : Int) := by omega
      have h1 : (k : Int) < (n : Int) := by omega
      have HD := HB.out
      rw [drop_cons (by rw [HN.out]; exact hlt)] at HD
      generalize ns.getD k default = nk at *
      have HD' := Seg.hid HD
      clear HD
      go_wp2_with fail
      cases hb : inR 0 nk most with
      | false =>
        refine (InB.within_b _ _ _ false hb _).mono ?_
        rintro e w1 ⟨rfl, rfl⟩
        go_wp2
        go_ret
        exact ⟨Seg.ret_bool (by have := HD'.out; simp only [allIn, hb, Bool.false_and] at this; exact this), rfl⟩
      | true =>
        refine (InB.within_b _ _ _ true hb _).mono ?_
        rintro e w1 ⟨rfl, rfl⟩
        go_wp2
        go_round
        case rel => exact ⟨k + 1, by omega, by go_num, by have := HD'.out; simp only [allIn, hb, Bool.true_and] at this; exact this⟩
        case measure => simp [intOf]; omega
    · have hk' : k = n := by omega
      have HE := HB.out
      rw [List.drop_eq_nil_of_le (by rw [HN.out]; omega)] at HE
      have HE' := Seg.hid HE
      clear HE
      go_wp2
      go_ret
      exact ⟨Seg.ret_bool (by have := HE'.out; simp only [allIn, Bool.true_and] at this; rw [← this, Bool.eq_iff_iff]; simp), rfl⟩
theorem all_none (A : Option Addr) (c : Nat) (m most : Int) (w : World) : Calls Try.prog 62 #[.slice A 0 c, .int .i64 m, .int .i64 most] w fun e w' => e = .returned (.bool (decide ((0 : Int) = m))) ∧ w = w' := by
  go_enter Try.func62, Try.ntmps62
  go_wp2
  go_loop [11] (fun i => i = .int .i64 0) (fun _ => 0)
  case atStart => rfl
  case round =>
    subst hrel
    go_wp2
    go_ret
    exact ⟨Seg.ret_bool (by rw [Bool.eq_iff_iff]; simp), rfl⟩
theorem all_any (v : Value) (ns : List Int) (m most : Int) (t : Bool) (w : World) (S : Nat → Prop) (hv : IntsAt w S v ns) (ht : nums ns m most = t) :
    Calls Try.prog 62 #[v, .int .i64 m, .int .i64 most] w fun e w' => e = .returned (.bool t) ∧ w = w' := by
  obtain ⟨hn, A, c, rfl, h⟩ := hv
  by_cases hz : ns.length = 0
  · obtain rfl := List.length_eq_zero_iff.1 hz
    subst ht
    exact (all_none A c m most w).mono fun e w' ⟨h1, h2⟩ => ⟨by rw [h1]; simp [nums, allIn], h2⟩
  obtain ⟨g, o, F, rfl, hg, hc, hcell, hel⟩ := h.resolve_left hz
  exact all_core g o c ns.length ns m most t w hn hc rfl ht (int_cell hcell hel)
set_option maxHeartbeats 400000 in
theorem index_any (v : Value) (ns : List Int) (x : Int) (w : World) (S : Nat → Prop) (hv : IntsAt w S v ns) (hS : ∀ g, S g → g < w.heap.size) :
    Calls Try.prog 76 #[v, .int .i64 x] w fun e w' => ∃ q : Int, e = .returned (.int .i64 q) ∧ decide (0 ≤ q) = has x ns ∧ w = w' := by
  obtain ⟨A, c, g, o, F, rfl, O, hn⟩ := opn hv hS
  have HO := Seg.hid O
  have IC : Hid (∀ i, i < ns.length → w.cell? ⟨g, o + i, none⟩ = some (.int .i64 (ns.getD i default))) := int_cell O.cells O.el
  clear hv O
  go_enter Try.func76, Try.ntmps76
  go_wp2
  go_loop [8] (fun i => ∃ (k : Nat), k ≤ ns.length ∧ i = .int .i64 k ∧ Hid (has x (ns.drop k) = has x ns)) (fun i => ns.length - (intOf i).toNat)
  case atStart => exact ⟨0, Nat.zero_le _, rfl, rfl⟩
  case round =>
    obtain ⟨k, hk, rfl, HB⟩ := hrel
    by_cases hlt : k < ns.length
    · obtain ⟨ea, hc, hg⟩ := HO.out.addr.resolve_left (by omega)
      have c1 := IC.out k hlt
      have h0 : (0 : Int) ≤ (k : Int) := by omega
      have h1 : (k : Int) < (ns.length : Int) := by omega
      have HD := HB.out
      rw [drop_cons hlt] at HD
      generalize ns.getD k default = nk at *
      have HD' := Seg.hid HD
      clear HD
      subst ea
      by_cases hx : x = nk
      · have hx2 : (x == nk) = true := by simp [hx]
        have Z : Hid (has x ns = true) := by show _ = _; rw [← HD'.out]; simp [has, hx]
        clear hx
        go_wp2
        go_ret
        exact ⟨_, rfl, by rw [Z.out]; simp, rfl⟩
      · have hx2 : (x == nk) = false := by simpa using hx
        have Z : Hid (has x (ns.drop (k + 1)) = has x ns) := by show _ = _; rw [← HD'.out]; simp [has, Ne.symm hx]
        clear hx
        go_wp2
        go_round
        case rel => exact ⟨k + 1, by omega, by go_num, Z⟩
        case measure => simp [intOf]; omega
    · have hk' : k = ns.length := by omega
      have HE := HB.out
      rw [List.drop_eq_nil_of_le (by omega)] at HE
      have HE' := Seg.hid HE
      clear HE
      subst hk'
      go_wp2
      go_ret
      exact ⟨_, rfl, by rw [← HE'.out]; rfl, rfl⟩
theorem contains_any (v : Value) (ns : List Int) (x : Int) (t : Bool) (w : World) (S : Nat → Prop) (hv : IntsAt w S v ns) (hS : ∀ g, S g → g < w.heap.size) (ht : has x ns = t) :
    Calls Try.prog 61 #[v, .int .i64 x] w fun e w' => e = .returned (.bool t) ∧ w = w' := by
  have HV := Seg.hid hv
  obtain ⟨A, c, rfl⟩ := hv.form
  clear hv
  go_enter Try.func61, Try.ntmps61
  go_wp2_with fail
  refine (index_any _ ns x w S HV.out hS).mono ?_
  rintro e w1 ⟨q, rfl, hq, rfl⟩
  have HQ := Seg.hid (hq.trans ht)
  clear hq ht
  go_wp2
  go_ret
  exact ⟨Seg.ret_bool HQ.out, rfl⟩
end Go.Proofs.Ytggjinjadllapaa.Asc
namespace Go.Proofs.Ytggjinjadllapaa.Ls
set_option maxRecDepth 8000
open Go.RowKit
open Recs
open SegW (Sg)
open LogW (Lg)
set_option linter.unusedVariables false
structure Rpl where
  start : Int
  next : Int
  roll : Int
  segs : List Sg
  mark : Int
  up : Bool
  deriving Inhabited
def ERpl : Elt Rpl := fun w S f u => f 0 = .int .i64 u.start ∧ f 1 = .int .i64 u.next ∧ f 2 = .int .i64 u.roll ∧ LAt 2 ESg w S (f 3) u.segs ∧ f 4 = .int .i64 u.mark ∧ f 5 = .bool u.up
theorem keepsRpl : Keeps 6 ERpl := fun w w' S f f' t h hk hf => by
  obtain ⟨h0, h1, h2, h3, h4, h5⟩ := h
  exact ⟨by rw [hf 0 (by omega)]; exact h0, by rw [hf 1 (by omega)]; exact h1, by rw [hf 2 (by omega)]; exact h2, by rw [hf 3 (by omega)]; exact h3.keep keepsSg hk, by rw [hf 4 (by omega)]; exact h4, by rw [hf 5 (by omega)]; exact h5⟩
theorem growsRpl : Grows ERpl := fun w S S' f t h hs => by
  obtain ⟨h0, h1, h2, h3, h4, h5⟩ := h
  exact ⟨h0, h1, h2, h3.mono growsSg hs, h4, h5⟩
def arrRpl (f : Nat → Value) : Array Value := #[f 0, f 1, f 2, f 3, f 4, f 5]
theorem oneRpl {w : World} {S : Nat → Prop} {f : Nat → Value} {u : Rpl} (h : ERpl w S f u) : (arrRpl f).all (·.oneCell') = true := by
  obtain ⟨h0, h1, h2, h3, h4, h5⟩ := h
  have o0 : (f 0).oneCell' = true := by rw [h0]; rfl
  have o1 : (f 1).oneCell' = true := by rw [h1]; rfl
  have o2 : (f 2).oneCell' = true := by rw [h2]; rfl
  have o3 : (f 3).oneCell' = true := h3.one
  have o4 : (f 4).oneCell' = true := by rw [h4]; rfl
  have o5 : (f 5).oneCell' = true := by rw [h5]; rfl
  simp [arrRpl, o0, o1, o2, o3, o4, o5]
def RplAt (w : World) (S : Nat → Prop) (v : Value) (u : Rpl) : Prop := ∃ f, v = .agg (arrRpl f) ∧ ERpl w S f u
abbrev RplsAt := LAt 6 ERpl
theorem RplAt.keep {w w' : World} {S : Nat → Prop} {v : Value} {u : Rpl} (h : RplAt w S v u) (hk : ∀ g, S g → w'.heap[g]? = w.heap[g]?) : RplAt w' S v u := by
  obtain ⟨f, h1, h2⟩ := h
  exact ⟨f, h1, keepsRpl _ _ _ _ _ _ h2 hk (fun _ _ => rfl)⟩
theorem RplAt.mono {w : World} {S S' : Nat → Prop} {v : Value} {u : Rpl} (h : RplAt w S v u) (hs : ∀ g, S g → S' g) : RplAt w S' v u := by
  obtain ⟨f, h1, h2⟩ := h
  exact ⟨f, h1, growsRpl _ _ _ _ _ h2 hs⟩
theorem RplAt.below {w w' : World} {B : Nat} {S : Nat → Prop} {v : Value} {u : Rpl} (h : RplAt w S v u) (hb : Below B w w') (hs : ∀ g, S g → g < B) : RplAt w' S v u := h.keep fun g hg => hb.block g (hs g hg)
def szRpl (u : Rpl) : Nat := szLg (⟨u.start, u.next, u.roll, u.segs⟩ : Lg)
def FineRpl (u : Rpl) : Prop := I64 u.start ∧ I64 u.next ∧ I64 u.roll ∧ FineL FineSg u.segs ∧ I64 u.mark ∧ True
theorem infoRpl : (Try.prog.info? 45).map (·.size) = some 6 := by kernel_rfl
theorem infoLRpl : (Try.prog.info? 67).map (·.size) = some 6 := by kernel_rfl
theorem infoZRpl : (Try.prog.info? 45).map (fun i => (i.zero, i.size, i.bytes)) = some (some (.agg #[.int .i64 0, .int .i64 0, .int .i64 0, .slice none 0 0, .int .i64 0, .bool false]), 6, 64) := by kernel_rfl
set_option maxHeartbeats 800000 in
theorem szReplica_any (v : Value) (u : Rpl) (l : Int) (w : World) (S : Nat → Prop) (h3 : -1 ≤ l) (h4 : l ≤ 1048576) (hv : RplAt w S v u) (hS : ∀ g, S g → g < w.heap.size) (hf : FineRpl u) :
    Calls Try.prog 31 #[v, .int .i64 l] w fun e w' => ∃ q, e = .returned (.int .i64 q) ∧ -1 ≤ q ∧ q ≤ l ∧ Lf l (szRpl u) q ∧ Below w.heap.size w w' := by
  obtain ⟨f, rfl, y0, y1, y2, y3, y4, y5⟩ := hv
  try simp only [arrRpl]
  rw [show f 0 = _ from y0]
  clear y0
  rw [show f 1 = _ from y1]
  clear y1
  rw [show f 2 = _ from y2]
  clear y2
  obtain ⟨A3, c3, g3⟩ := y3.form
  rw [g3] at y3 ⊢
  have H3 := Seg.hid y3
  clear y3 g3
  rw [show f 4 = _ from y4]
  clear y4
  rw [show f 5 = _ from y5]
  clear y5
  obtain ⟨z0, z1, z2, z3, z4, z5⟩ := hf
  have Z3 := Seg.hid z3
  have FG0 : Hid (FineLg (⟨u.start, u.next, u.roll, u.segs⟩ : Lg)) := ⟨z0, z1, z2, z3⟩
  clear z0 z1 z2 z3 z4 z5
  have G0 : Hid (LgAt w S (.agg #[.int .i64 u.start, .int .i64 u.next, .int .i64 u.roll, .slice A3 u.segs.length c3]) (⟨u.start, u.next, u.roll, u.segs⟩ : Lg)) := ⟨fun q => if q = 0 then .int .i64 u.start else if q = 1 then .int .i64 u.next else if q = 2 then .int .i64 u.roll else .slice A3 u.segs.length c3, rfl, rfl, rfl, rfl, H3.out⟩
  go_enter Try.func31, Try.ntmps31
  go_wp2_with fail
  refine (szLog_any _ (⟨u.start, u.next, u.roll, u.segs⟩ : Lg) _ (w.alloc _) S (by omega) (by omega) (G0.out.below (below1 w _) hS) (fun g hg => by rw [hsz]; have := hS g hg; omega) FG0.out).mono ?_
  rintro e w1 ⟨q1, rfl, a1, b1, L1', d1⟩
  have B1 := Seg.hid (chain (below1 w _) d1)
  have L1 := Seg.hid L1'
  clear d1 L1'
  by_cases k0 : q1 < 0
  · go_wp2
    go_ret
    exact ⟨_, rfl, by omega, by omega, by have m0 := L1.out.2 (by omega); simp only [szRpl]; exact ⟨fun _ => by omega, fun _ => by omega⟩, B1.out⟩
  go_wp2
  go_ret
  exact ⟨_, rfl, by omega, by omega, by have m0 := L1.out.1 (by omega); simp only [szRpl]; exact ⟨fun _ => by omega, fun _ => by omega⟩, B1.out⟩
set_option maxHeartbeats 1600000 in
theorem toReplica_any (v : Value) (u : Rpl) (w : World) (S : Nat → Prop) (hv : RplAt w S v u) (hS : ∀ g, S g → g < w.heap.size) (hf : szRpl u ≤ 1048576) :
    Calls Try.prog 38 #[v] w fun e w' => ∃ v', e = .returned v' ∧ RplAt w' (seg w.heap.size w'.heap.size) v' u ∧ Below w.heap.size w w' := by
  obtain ⟨f, rfl, y0, y1, y2, y3, y4, y5⟩ := hv
  try simp only [arrRpl]
  rw [show f 0 = _ from y0]
  clear y0
  rw [show f 1 = _ from y1]
  clear y1
  rw [show f 2 = _ from y2]
  clear y2
  obtain ⟨A3, c3, g3⟩ := y3.form
  rw [g3] at y3 ⊢
  have H3 := Seg.hid y3
  clear y3 g3
  rw [show f 4 = _ from y4]
  clear y4
  rw [show f 5 = _ from y5]
  clear y5
  unfold szRpl at hf
  have G0 : Hid (LgAt w S (.agg #[.int .i64 u.start, .int .i64 u.next, .int .i64 u.roll, .slice A3 u.segs.length c3]) (⟨u.start, u.next, u.roll, u.segs⟩ : Lg)) := ⟨fun q => if q = 0 then .int .i64 u.start else if q = 1 then .int .i64 u.next else if q = 2 then .int .i64 u.roll else .slice A3 u.segs.length c3, rfl, rfl, rfl, rfl, H3.out⟩
  go_enter Try.func38, Try.ntmps38
  go_wp2_with fail
  refine (toLog_any _ (⟨u.start, u.next, u.roll, u.segs⟩ : Lg) (((w.alloc _).alloc _).alloc _) S (G0.out.below (below3 w _ _ _) hS) (fun g hg => by rw [hsz, hsz, hsz]; have := hS g hg; omega) (by omega)).mono ?_
  rintro e w1 ⟨vg1, rfl, ⟨fg1, rfl, a1_0, a1_1, a1_2, a1_3⟩, b1⟩
  obtain ⟨v1, hvv1⟩ : ∃ v, fg1 3 = v := ⟨_, rfl⟩
  rw [hvv1] at a1_3
  have l1 : LAt 2 ESg w1 (seg (((w.alloc _).alloc _).alloc _).heap.size w1.heap.size) v1 u.segs := a1_3
  have hag1 : arrLg fg1 = #[.int .i64 u.start, .int .i64 u.next, .int .i64 u.roll, v1] := by unfold arrLg; rw [show fg1 0 = .int .i64 u.start from a1_0, show fg1 1 = .int .i64 u.next from a1_1, show fg1 2 = .int .i64 u.roll from a1_2, hvv1]
  rw [hag1]
  clear hag1 hvv1 a1_0 a1_1 a1_2 a1_3
  have B1 := Seg.hid (chain (below3 w _ _ _) b1)
  have Ta1 : Hid (w1.heap[w.heap.size]? = some (.cells #[.int .i64 u.start, .int .i64 u.next, .int .i64 u.roll, .slice A3 u.segs.length c3, .int .i64 u.mark, .bool u.up] 67 (0, 0))) := (b1.block w.heap.size (by rw [hsz, hsz, hsz]; omega)).trans (at3z w _ _ _)
  have Tr1 : Hid (w1.heap[w.heap.size + 1]? = some (.cells #[.int .i64 0, .int .i64 0, .int .i64 0, .slice none 0 0, .int .i64 0, .bool false] 45 (0, 0))) := (b1.block (w.heap.size + 1) (by rw [hsz, hsz, hsz]; omega)).trans (at3 w _ _ _)
  have To1 : Hid (w1.heap[w.heap.size + 1 + 1]? = some (.cells #[.int .i64 0, .int .i64 0, .int .i64 0, .slice none 0 0, .int .i64 0, .bool false] 45 (0, 0))) := (b1.block (w.heap.size + 1 + 1) (by rw [hsz, hsz, hsz]; omega)).trans (Cells.at3' w _ _ _)
  have s1 : w.heap.size + 3 ≤ w1.heap.size := by have := b1.size; rw [hsz, hsz, hsz] at this; omega
  have M1 : Hid (LAt 2 ESg w1 (seg (w.heap.size + 3) w1.heap.size) v1 u.segs) := by
    rw [hsz, hsz, hsz] at l1
    exact l1
  obtain ⟨Y1, x1, r1⟩ := M1.out.form
  subst r1
  clear b1 l1
  have N11 := M1
  have pa14 : w1.cell? ⟨w.heap.size, 4, none⟩ = some (.int .i64 u.mark) := cell_of_row w1 _ 4 _ _ (0, 0) Ta1.out
  have pa15 : w1.cell? ⟨w.heap.size, 5, none⟩ = some (.bool u.up) := cell_of_row w1 _ 5 _ _ (0, 0) Ta1.out
  have po10 : (w1).cell? ⟨w.heap.size + 1 + 1, 0, none⟩ = some (.int .i64 0) := cell_of_row (w1) _ 0 _ _ (0, 0) (To1.out)
  have pf10 : (w1).frozen? ⟨w.heap.size + 1 + 1, 0, none⟩ = false := frozen_of_row (w1) _ 0 _ _ (To1.out)
  have qo10 : Hid (((w1.setCell ⟨w.heap.size + 1 + 1, 0, none⟩ (.int .i64 u.start))).heap[w.heap.size + 1 + 1]? = some (.cells #[.int .i64 u.start, .int .i64 0, .int .i64 0, .slice none 0 0, .int .i64 0, .bool false] 45 (0, 0))) := heap_setCell_same (w1) (w.heap.size + 1 + 1) 0 _ _ (.int .i64 u.start) (To1.out)
  have po11 : ((w1.setCell ⟨w.heap.size + 1 + 1, 0, none⟩ (.int .i64 u.start))).cell? ⟨w.heap.size + 1 + 1, 1, none⟩ = some (.int .i64 0) := cell_of_row ((w1.setCell ⟨w.heap.size + 1 + 1, 0, none⟩ (.int .i64 u.start))) _ 1 _ _ (0, 0) (qo10.out)
  have pf11 : ((w1.setCell ⟨w.heap.size + 1 + 1, 0, none⟩ (.int .i64 u.start))).frozen? ⟨w.heap.size + 1 + 1, 1, none⟩ = false := frozen_of_row ((w1.setCell ⟨w.heap.size + 1 + 1, 0, none⟩ (.int .i64 u.start))) _ 1 _ _ (qo10.out)
  have qo11 : Hid ((((w1.setCell ⟨w.heap.size + 1 + 1, 0, none⟩ (.int .i64 u.start)).setCell ⟨w.heap.size + 1 + 1, 1, none⟩ (.int .i64 u.next))).heap[w.heap.size + 1 + 1]? = some (.cells #[.int .i64 u.start, .int .i64 u.next, .int .i64 0, .slice none 0 0, .int .i64 0, .bool false] 45 (0, 0))) := heap_setCell_same ((w1.setCell ⟨w.heap.size + 1 + 1, 0, none⟩ (.int .i64 u.start))) (w.heap.size + 1 + 1) 1 _ _ (.int .i64 u.next) (qo10.out)
  have po12 : (((w1.setCell ⟨w.heap.size + 1 + 1, 0, none⟩ (.int .i64 u.start)).setCell ⟨w.heap.size + 1 + 1, 1, none⟩ (.int .i64 u.next))).cell? ⟨w.heap.size + 1 + 1, 2, none⟩ = some (.int .i64 0) := cell_of_row (((w1.setCell ⟨w.heap.size + 1 + 1, 0, none⟩ (.int .i64 u.start)).setCell ⟨w.heap.size + 1 + 1, 1, none⟩ (.int .i64 u.next))) _ 2 _ _ (0, 0) (qo11.out)
  have pf12 : (((w1.setCell ⟨w.heap.size + 1 + 1, 0, none⟩ (.int .i64 u.start)).setCell ⟨w.heap.size + 1 + 1, 1, none⟩ (.int .i64 u.next))).frozen? ⟨w.heap.size + 1 + 1, 2, none⟩ = false := frozen_of_row (((w1.setCell ⟨w.heap.size + 1 + 1, 0, none⟩ (.int .i64 u.start)).setCell ⟨w.heap.size + 1 + 1, 1, none⟩ (.int .i64 u.next))) _ 2 _ _ (qo11.out)
  have qo12 : Hid (((((w1.setCell ⟨w.heap.size + 1 + 1, 0, none⟩ (.int .i64 u.start)).setCell ⟨w.heap.size + 1 + 1, 1, none⟩ (.int .i64 u.next)).setCell ⟨w.heap.size + 1 + 1, 2, none⟩ (.int .i64 u.roll))).heap[w.heap.size + 1 + 1]? = some (.cells #[.int .i64 u.start, .int .i64 u.next, .int .i64 u.roll, .slice none 0 0, .int .i64 0, .bool false] 45 (0, 0))) := heap_setCell_same (((w1.setCell ⟨w.heap.size + 1 + 1, 0, none⟩ (.int .i64 u.start)).setCell ⟨w.heap.size + 1 + 1, 1, none⟩ (.int .i64 u.next))) (w.heap.size + 1 + 1) 2 _ _ (.int .i64 u.roll) (qo11.out)
  have po13 : ((((w1.setCell ⟨w.heap.size + 1 + 1, 0, none⟩ (.int .i64 u.start)).setCell ⟨w.heap.size + 1 + 1, 1, none⟩ (.int .i64 u.next)).setCell ⟨w.heap.size + 1 + 1, 2, none⟩ (.int .i64 u.roll))).cell? ⟨w.heap.size + 1 + 1, 3, none⟩ = some (.slice none 0 0) := cell_of_row ((((w1.setCell ⟨w.heap.size + 1 + 1, 0, none⟩ (.int .i64 u.start)).setCell ⟨w.heap.size + 1 + 1, 1, none⟩ (.int .i64 u.next)).setCell ⟨w.heap.size + 1 + 1, 2, none⟩ (.int .i64 u.roll))) _ 3 _ _ (0, 0) (qo12.out)
  have pf13 : ((((w1.setCell ⟨w.heap.size + 1 + 1, 0, none⟩ (.int .i64 u.start)).setCell ⟨w.heap.size + 1 + 1, 1, none⟩ (.int .i64 u.next)).setCell ⟨w.heap.size + 1 + 1, 2, none⟩ (.int .i64 u.roll))).frozen? ⟨w.heap.size + 1 + 1, 3, none⟩ = false := frozen_of_row ((((w1.setCell ⟨w.heap.size + 1 + 1, 0, none⟩ (.int .i64 u.start)).setCell ⟨w.heap.size + 1 + 1, 1, none⟩ (.int .i64 u.next)).setCell ⟨w.heap.size + 1 + 1, 2, none⟩ (.int .i64 u.roll))) _ 3 _ _ (qo12.out)
  have qo13 : Hid ((((((w1.setCell ⟨w.heap.size + 1 + 1, 0, none⟩ (.int .i64 u.start)).setCell ⟨w.heap.size + 1 + 1, 1, none⟩ (.int .i64 u.next)).setCell ⟨w.heap.size + 1 + 1, 2, none⟩ (.int .i64 u.roll)).setCell ⟨w.heap.size + 1 + 1, 3, none⟩ (.slice Y1 u.segs.length x1))).heap[w.heap.size + 1 + 1]? = some (.cells #[.int .i64 u.start, .int .i64 u.next, .int .i64 u.roll, .slice Y1 u.segs.length x1, .int .i64 0, .bool false] 45 (0, 0))) := heap_setCell_same ((((w1.setCell ⟨w.heap.size + 1 + 1, 0, none⟩ (.int .i64 u.start)).setCell ⟨w.heap.size + 1 + 1, 1, none⟩ (.int .i64 u.next)).setCell ⟨w.heap.size + 1 + 1, 2, none⟩ (.int .i64 u.roll))) (w.heap.size + 1 + 1) 3 _ _ (.slice Y1 u.segs.length x1) (qo12.out)
  have po14 : (((((w1.setCell ⟨w.heap.size + 1 + 1, 0, none⟩ (.int .i64 u.start)).setCell ⟨w.heap.size + 1 + 1, 1, none⟩ (.int .i64 u.next)).setCell ⟨w.heap.size + 1 + 1, 2, none⟩ (.int .i64 u.roll)).setCell ⟨w.heap.size + 1 + 1, 3, none⟩ (.slice Y1 u.segs.length x1))).cell? ⟨w.heap.size + 1 + 1, 4, none⟩ = some (.int .i64 0) := cell_of_row (((((w1.setCell ⟨w.heap.size + 1 + 1, 0, none⟩ (.int .i64 u.start)).setCell ⟨w.heap.size + 1 + 1, 1, none⟩ (.int .i64 u.next)).setCell ⟨w.heap.size + 1 + 1, 2, none⟩ (.int .i64 u.roll)).setCell ⟨w.heap.size + 1 + 1, 3, none⟩ (.slice Y1 u.segs.length x1))) _ 4 _ _ (0, 0) (qo13.out)
  have pf14 : (((((w1.setCell ⟨w.heap.size + 1 + 1, 0, none⟩ (.int .i64 u.start)).setCell ⟨w.heap.size + 1 + 1, 1, none⟩ (.int .i64 u.next)).setCell ⟨w.heap.size + 1 + 1, 2, none⟩ (.int .i64 u.roll)).setCell ⟨w.heap.size + 1 + 1, 3, none⟩ (.slice Y1 u.segs.length x1))).frozen? ⟨w.heap.size + 1 + 1, 4, none⟩ = false := frozen_of_row (((((w1.setCell ⟨w.heap.size + 1 + 1, 0, none⟩ (.int .i64 u.start)).setCell ⟨w.heap.size + 1 + 1, 1, none⟩ (.int .i64 u.next)).setCell ⟨w.heap.size + 1 + 1, 2, none⟩ (.int .i64 u.roll)).setCell ⟨w.heap.size + 1 + 1, 3, none⟩ (.slice Y1 u.segs.length x1))) _ 4 _ _ (qo13.out)
  have qo14 : Hid (((((((w1.setCell ⟨w.heap.size + 1 + 1, 0, none⟩ (.int .i64 u.start)).setCell ⟨w.heap.size + 1 + 1, 1, none⟩ (.int .i64 u.next)).setCell ⟨w.heap.size + 1 + 1, 2, none⟩ (.int .i64 u.roll)).setCell ⟨w.heap.size + 1 + 1, 3, none⟩ (.slice Y1 u.segs.length x1)).setCell ⟨w.heap.size + 1 + 1, 4, none⟩ (.int .i64 u.mark))).heap[w.heap.size + 1 + 1]? = some (.cells #[.int .i64 u.start, .int .i64 u.next, .int .i64 u.roll, .slice Y1 u.segs.length x1, .int .i64 u.mark, .bool false] 45 (0, 0))) := heap_setCell_same (((((w1.setCell ⟨w.heap.size + 1 + 1, 0, none⟩ (.int .i64 u.start)).setCell ⟨w.heap.size + 1 + 1, 1, none⟩ (.int .i64 u.next)).setCell ⟨w.heap.size + 1 + 1, 2, none⟩ (.int .i64 u.roll)).setCell ⟨w.heap.size + 1 + 1, 3, none⟩ (.slice Y1 u.segs.length x1))) (w.heap.size + 1 + 1) 4 _ _ (.int .i64 u.mark) (qo13.out)
  have po15 : ((((((w1.setCell ⟨w.heap.size + 1 + 1, 0, none⟩ (.int .i64 u.start)).setCell ⟨w.heap.size + 1 + 1, 1, none⟩ (.int .i64 u.next)).setCell ⟨w.heap.size + 1 + 1, 2, none⟩ (.int .i64 u.roll)).setCell ⟨w.heap.size + 1 + 1, 3, none⟩ (.slice Y1 u.segs.length x1)).setCell ⟨w.heap.size + 1 + 1, 4, none⟩ (.int .i64 u.mark))).cell? ⟨w.heap.size + 1 + 1, 5, none⟩ = some (.bool false) := cell_of_row ((((((w1.setCell ⟨w.heap.size + 1 + 1, 0, none⟩ (.int .i64 u.start)).setCell ⟨w.heap.size + 1 + 1, 1, none⟩ (.int .i64 u.next)).setCell ⟨w.heap.size + 1 + 1, 2, none⟩ (.int .i64 u.roll)).setCell ⟨w.heap.size + 1 + 1, 3, none⟩ (.slice Y1 u.segs.length x1)).setCell ⟨w.heap.size + 1 + 1, 4, none⟩ (.int .i64 u.mark))) _ 5 _ _ (0, 0) (qo14.out)
  have pf15 : ((((((w1.setCell ⟨w.heap.size + 1 + 1, 0, none⟩ (.int .i64 u.start)).setCell ⟨w.heap.size + 1 + 1, 1, none⟩ (.int .i64 u.next)).setCell ⟨w.heap.size + 1 + 1, 2, none⟩ (.int .i64 u.roll)).setCell ⟨w.heap.size + 1 + 1, 3, none⟩ (.slice Y1 u.segs.length x1)).setCell ⟨w.heap.size + 1 + 1, 4, none⟩ (.int .i64 u.mark))).frozen? ⟨w.heap.size + 1 + 1, 5, none⟩ = false := frozen_of_row ((((((w1.setCell ⟨w.heap.size + 1 + 1, 0, none⟩ (.int .i64 u.start)).setCell ⟨w.heap.size + 1 + 1, 1, none⟩ (.int .i64 u.next)).setCell ⟨w.heap.size + 1 + 1, 2, none⟩ (.int .i64 u.roll)).setCell ⟨w.heap.size + 1 + 1, 3, none⟩ (.slice Y1 u.segs.length x1)).setCell ⟨w.heap.size + 1 + 1, 4, none⟩ (.int .i64 u.mark))) _ 5 _ _ (qo14.out)
  have qo15 : Hid ((((((((w1.setCell ⟨w.heap.size + 1 + 1, 0, none⟩ (.int .i64 u.start)).setCell ⟨w.heap.size + 1 + 1, 1, none⟩ (.int .i64 u.next)).setCell ⟨w.heap.size + 1 + 1, 2, none⟩ (.int .i64 u.roll)).setCell ⟨w.heap.size + 1 + 1, 3, none⟩ (.slice Y1 u.segs.length x1)).setCell ⟨w.heap.size + 1 + 1, 4, none⟩ (.int .i64 u.mark)).setCell ⟨w.heap.size + 1 + 1, 5, none⟩ (.bool u.up))).heap[w.heap.size + 1 + 1]? = some (.cells #[.int .i64 u.start, .int .i64 u.next, .int .i64 u.roll, .slice Y1 u.segs.length x1, .int .i64 u.mark, .bool u.up] 45 (0, 0))) := heap_setCell_same ((((((w1.setCell ⟨w.heap.size + 1 + 1, 0, none⟩ (.int .i64 u.start)).setCell ⟨w.heap.size + 1 + 1, 1, none⟩ (.int .i64 u.next)).setCell ⟨w.heap.size + 1 + 1, 2, none⟩ (.int .i64 u.roll)).setCell ⟨w.heap.size + 1 + 1, 3, none⟩ (.slice Y1 u.segs.length x1)).setCell ⟨w.heap.size + 1 + 1, 4, none⟩ (.int .i64 u.mark))) (w.heap.size + 1 + 1) 5 _ _ (.bool u.up) (qo14.out)
  have Uo1 := Seg.hid (qo15.out)
  have Ur1 := Seg.hid ((heap_setCell_other ((((((w1.setCell ⟨w.heap.size + 1 + 1, 0, none⟩ (.int .i64 u.start)).setCell ⟨w.heap.size + 1 + 1, 1, none⟩ (.int .i64 u.next)).setCell ⟨w.heap.size + 1 + 1, 2, none⟩ (.int .i64 u.roll)).setCell ⟨w.heap.size + 1 + 1, 3, none⟩ (.slice Y1 u.segs.length x1)).setCell ⟨w.heap.size + 1 + 1, 4, none⟩ (.int .i64 u.mark))) ⟨w.heap.size + 1 + 1, 5, none⟩ (w.heap.size + 1) (.bool u.up) (by simp)).trans ((heap_setCell_other (((((w1.setCell ⟨w.heap.size + 1 + 1, 0, none⟩ (.int .i64 u.start)).setCell ⟨w.heap.size + 1 + 1, 1, none⟩ (.int .i64 u.next)).setCell ⟨w.heap.size + 1 + 1, 2, none⟩ (.int .i64 u.roll)).setCell ⟨w.heap.size + 1 + 1, 3, none⟩ (.slice Y1 u.segs.length x1))) ⟨w.heap.size + 1 + 1, 4, none⟩ (w.heap.size + 1) (.int .i64 u.mark) (by simp)).trans ((heap_setCell_other ((((w1.setCell ⟨w.heap.size + 1 + 1, 0, none⟩ (.int .i64 u.start)).setCell ⟨w.heap.size + 1 + 1, 1, none⟩ (.int .i64 u.next)).setCell ⟨w.heap.size + 1 + 1, 2, none⟩ (.int .i64 u.roll))) ⟨w.heap.size + 1 + 1, 3, none⟩ (w.heap.size + 1) (.slice Y1 u.segs.length x1) (by simp)).trans ((heap_setCell_other (((w1.setCell ⟨w.heap.size + 1 + 1, 0, none⟩ (.int .i64 u.start)).setCell ⟨w.heap.size + 1 + 1, 1, none⟩ (.int .i64 u.next))) ⟨w.heap.size + 1 + 1, 2, none⟩ (w.heap.size + 1) (.int .i64 u.roll) (by simp)).trans ((heap_setCell_other ((w1.setCell ⟨w.heap.size + 1 + 1, 0, none⟩ (.int .i64 u.start))) ⟨w.heap.size + 1 + 1, 1, none⟩ (w.heap.size + 1) (.int .i64 u.next) (by simp)).trans ((heap_setCell_other (w1) ⟨w.heap.size + 1 + 1, 0, none⟩ (w.heap.size + 1) (.int .i64 u.start) (by simp)).trans (Tr1.out)))))))
  have Ua1 := Seg.hid ((heap_setCell_other ((((((w1.setCell ⟨w.heap.size + 1 + 1, 0, none⟩ (.int .i64 u.start)).setCell ⟨w.heap.size + 1 + 1, 1, none⟩ (.int .i64 u.next)).setCell ⟨w.heap.size + 1 + 1, 2, none⟩ (.int .i64 u.roll)).setCell ⟨w.heap.size + 1 + 1, 3, none⟩ (.slice Y1 u.segs.length x1)).setCell ⟨w.heap.size + 1 + 1, 4, none⟩ (.int .i64 u.mark))) ⟨w.heap.size + 1 + 1, 5, none⟩ w.heap.size (.bool u.up) (by simp; omega)).trans ((heap_setCell_other (((((w1.setCell ⟨w.heap.size + 1 + 1, 0, none⟩ (.int .i64 u.start)).setCell ⟨w.heap.size + 1 + 1, 1, none⟩ (.int .i64 u.next)).setCell ⟨w.heap.size + 1 + 1, 2, none⟩ (.int .i64 u.roll)).setCell ⟨w.heap.size + 1 + 1, 3, none⟩ (.slice Y1 u.segs.length x1))) ⟨w.heap.size + 1 + 1, 4, none⟩ w.heap.size (.int .i64 u.mark) (by simp; omega)).trans ((heap_setCell_other ((((w1.setCell ⟨w.heap.size + 1 + 1, 0, none⟩ (.int .i64 u.start)).setCell ⟨w.heap.size + 1 + 1, 1, none⟩ (.int .i64 u.next)).setCell ⟨w.heap.size + 1 + 1, 2, none⟩ (.int .i64 u.roll))) ⟨w.heap.size + 1 + 1, 3, none⟩ w.heap.size (.slice Y1 u.segs.length x1) (by simp; omega)).trans ((heap_setCell_other (((w1.setCell ⟨w.heap.size + 1 + 1, 0, none⟩ (.int .i64 u.start)).setCell ⟨w.heap.size + 1 + 1, 1, none⟩ (.int .i64 u.next))) ⟨w.heap.size + 1 + 1, 2, none⟩ w.heap.size (.int .i64 u.roll) (by simp; omega)).trans ((heap_setCell_other ((w1.setCell ⟨w.heap.size + 1 + 1, 0, none⟩ (.int .i64 u.start))) ⟨w.heap.size + 1 + 1, 1, none⟩ w.heap.size (.int .i64 u.next) (by simp; omega)).trans ((heap_setCell_other (w1) ⟨w.heap.size + 1 + 1, 0, none⟩ w.heap.size (.int .i64 u.start) (by simp; omega)).trans (Ta1.out)))))))
  have D1 : Hid (Below w.heap.size w ((((((w1.setCell ⟨w.heap.size + 1 + 1, 0, none⟩ (.int .i64 u.start)).setCell ⟨w.heap.size + 1 + 1, 1, none⟩ (.int .i64 u.next)).setCell ⟨w.heap.size + 1 + 1, 2, none⟩ (.int .i64 u.roll)).setCell ⟨w.heap.size + 1 + 1, 3, none⟩ (.slice Y1 u.segs.length x1)).setCell ⟨w.heap.size + 1 + 1, 4, none⟩ (.int .i64 u.mark)).setCell ⟨w.heap.size + 1 + 1, 5, none⟩ (.bool u.up))) := ((((((B1.out).setCell (p := ⟨w.heap.size + 1 + 1, 0, none⟩) (by simp; omega) (.int .i64 u.start)).setCell (p := ⟨w.heap.size + 1 + 1, 1, none⟩) (by simp; omega) (.int .i64 u.next)).setCell (p := ⟨w.heap.size + 1 + 1, 2, none⟩) (by simp; omega) (.int .i64 u.roll)).setCell (p := ⟨w.heap.size + 1 + 1, 3, none⟩) (by simp; omega) (.slice Y1 u.segs.length x1)).setCell (p := ⟨w.heap.size + 1 + 1, 4, none⟩) (by simp; omega) (.int .i64 u.mark)).setCell (p := ⟨w.heap.size + 1 + 1, 5, none⟩) (by simp; omega) (.bool u.up)
  have N11' : Hid (LAt 2 ESg ((((((w1.setCell ⟨w.heap.size + 1 + 1, 0, none⟩ (.int .i64 u.start)).setCell ⟨w.heap.size + 1 + 1, 1, none⟩ (.int .i64 u.next)).setCell ⟨w.heap.size + 1 + 1, 2, none⟩ (.int .i64 u.roll)).setCell ⟨w.heap.size + 1 + 1, 3, none⟩ (.slice Y1 u.segs.length x1)).setCell ⟨w.heap.size + 1 + 1, 4, none⟩ (.int .i64 u.mark)).setCell ⟨w.heap.size + 1 + 1, 5, none⟩ (.bool u.up)) (seg (w.heap.size + 3) w1.heap.size) (.slice Y1 u.segs.length x1) u.segs) := N11.out.keep keepsSg (fun g hg => by have := hg.1; rw [heap_setCell_other _ _ _ _ (by show _ ≠ w.heap.size + 1 + 1; omega), heap_setCell_other _ _ _ _ (by show _ ≠ w.heap.size + 1 + 1; omega), heap_setCell_other _ _ _ _ (by show _ ≠ w.heap.size + 1 + 1; omega), heap_setCell_other _ _ _ _ (by show _ ≠ w.heap.size + 1 + 1; omega), heap_setCell_other _ _ _ _ (by show _ ≠ w.heap.size + 1 + 1; omega), heap_setCell_other _ _ _ _ (by show _ ≠ w.heap.size + 1 + 1; omega)])
  obtain ⟨fx, hfx⟩ : ∃ fx : Nat → Value, fx = (fun q => if q = 0 then .int .i64 u.start else if q = 1 then .int .i64 u.next else if q = 2 then .int .i64 u.roll else if q = 3 then .slice Y1 u.segs.length x1 else if q = 4 then .int .i64 u.mark else .bool u.up) := ⟨_, rfl⟩
  have HX := Seg.hid hfx
  have Uz : Hid (((((((w1.setCell ⟨w.heap.size + 1 + 1, 0, none⟩ (.int .i64 u.start)).setCell ⟨w.heap.size + 1 + 1, 1, none⟩ (.int .i64 u.next)).setCell ⟨w.heap.size + 1 + 1, 2, none⟩ (.int .i64 u.roll)).setCell ⟨w.heap.size + 1 + 1, 3, none⟩ (.slice Y1 u.segs.length x1)).setCell ⟨w.heap.size + 1 + 1, 4, none⟩ (.int .i64 u.mark)).setCell ⟨w.heap.size + 1 + 1, 5, none⟩ (.bool u.up)).heap[w.heap.size + 1 + 1]? = some (.cells (arrRpl fx) 45 (0, 0))) := by
    show _ = _
    rw [hfx]
    exact Uo1.out
  clear hfx
  have H5a := Cells.there_of Ur1.out
  have H5 : Hid (((((((w1.setCell ⟨w.heap.size + 1 + 1, 0, none⟩ (.int .i64 u.start)).setCell ⟨w.heap.size + 1 + 1, 1, none⟩ (.int .i64 u.next)).setCell ⟨w.heap.size + 1 + 1, 2, none⟩ (.int .i64 u.roll)).setCell ⟨w.heap.size + 1 + 1, 3, none⟩ (.slice Y1 u.segs.length x1)).setCell ⟨w.heap.size + 1 + 1, 4, none⟩ (.int .i64 u.mark)).setCell ⟨w.heap.size + 1 + 1, 5, none⟩ (.bool u.up)).there (w.heap.size + 1) 0 (arrRpl fx).size) := H5a
  clear H5a
  have H4 := Seg.hid (Cells.whole (vs := arrRpl fx) Ur1.out rfl)
  have B9 := Seg.hid (Cells.below_setCells (g := w.heap.size + 1) (by omega) (arrRpl fx).toList 0 _ _ D1.out)
  have F1 : Hid (LAt 2 ESg (((((((w1.setCell ⟨w.heap.size + 1 + 1, 0, none⟩ (.int .i64 u.start)).setCell ⟨w.heap.size + 1 + 1, 1, none⟩ (.int .i64 u.next)).setCell ⟨w.heap.size + 1 + 1, 2, none⟩ (.int .i64 u.roll)).setCell ⟨w.heap.size + 1 + 1, 3, none⟩ (.slice Y1 u.segs.length x1)).setCell ⟨w.heap.size + 1 + 1, 4, none⟩ (.int .i64 u.mark)).setCell ⟨w.heap.size + 1 + 1, 5, none⟩ (.bool u.up)).setCells (w.heap.size + 1) 0 (arrRpl fx).toList) (seg w.heap.size (((((((w1.setCell ⟨w.heap.size + 1 + 1, 0, none⟩ (.int .i64 u.start)).setCell ⟨w.heap.size + 1 + 1, 1, none⟩ (.int .i64 u.next)).setCell ⟨w.heap.size + 1 + 1, 2, none⟩ (.int .i64 u.roll)).setCell ⟨w.heap.size + 1 + 1, 3, none⟩ (.slice Y1 u.segs.length x1)).setCell ⟨w.heap.size + 1 + 1, 4, none⟩ (.int .i64 u.mark)).setCell ⟨w.heap.size + 1 + 1, 5, none⟩ (.bool u.up)).setCells (w.heap.size + 1) 0 (arrRpl fx).toList).heap.size) (fx 3) u.segs) := by
    show LAt 2 ESg _ _ _ _
    rw [show fx 3 = .slice Y1 u.segs.length x1 by rw [HX.out]; rfl]
    refine (N11'.out.keep keepsSg (fun g hg => ?_)).mono growsSg (fun g hg => ⟨by have := hg.1; omega, ?_⟩)
    · have := hg.1
      rw [Cells.heap_setCells_other _ _ (by omega)]
    · rw [Cells.size_setCells]
      have := hg.2
      simpa using this
  have EX : Hid (ERpl (((((((w1.setCell ⟨w.heap.size + 1 + 1, 0, none⟩ (.int .i64 u.start)).setCell ⟨w.heap.size + 1 + 1, 1, none⟩ (.int .i64 u.next)).setCell ⟨w.heap.size + 1 + 1, 2, none⟩ (.int .i64 u.roll)).setCell ⟨w.heap.size + 1 + 1, 3, none⟩ (.slice Y1 u.segs.length x1)).setCell ⟨w.heap.size + 1 + 1, 4, none⟩ (.int .i64 u.mark)).setCell ⟨w.heap.size + 1 + 1, 5, none⟩ (.bool u.up)).setCells (w.heap.size + 1) 0 (arrRpl fx).toList) (seg w.heap.size (((((((w1.setCell ⟨w.heap.size + 1 + 1, 0, none⟩ (.int .i64 u.start)).setCell ⟨w.heap.size + 1 + 1, 1, none⟩ (.int .i64 u.next)).setCell ⟨w.heap.size + 1 + 1, 2, none⟩ (.int .i64 u.roll)).setCell ⟨w.heap.size + 1 + 1, 3, none⟩ (.slice Y1 u.segs.length x1)).setCell ⟨w.heap.size + 1 + 1, 4, none⟩ (.int .i64 u.mark)).setCell ⟨w.heap.size + 1 + 1, 5, none⟩ (.bool u.up)).setCells (w.heap.size + 1) 0 (arrRpl fx).toList).heap.size) fx u) := ⟨by rw [HX.out]; rfl, by rw [HX.out]; rfl, by rw [HX.out]; rfl, F1.out, by rw [HX.out]; rfl, by rw [HX.out]; rfl⟩
  have ON := Seg.hid (oneRpl EX.out)
  clear Ta1 Tr1 To1 Ua1 M1
  go_upto_region 5 with fail
  clear po10 pf10 po11 pf11 po12 pf12 po13 pf13 po14 pf14 po15 pf15
  generalize ((((((w1.setCell ⟨w.heap.size + 1 + 1, 0, none⟩ (.int .i64 u.start)).setCell ⟨w.heap.size + 1 + 1, 1, none⟩ (.int .i64 u.next)).setCell ⟨w.heap.size + 1 + 1, 2, none⟩ (.int .i64 u.roll)).setCell ⟨w.heap.size + 1 + 1, 3, none⟩ (.slice Y1 u.segs.length x1)).setCell ⟨w.heap.size + 1 + 1, 4, none⟩ (.int .i64 u.mark)).setCell ⟨w.heap.size + 1 + 1, 5, none⟩ (.bool u.up)) = wz at *
  go_wp2_with (first | (refine wpList_load_row rfl 45 _ rfl (w.heap.size + 1 + 1) rfl _ _ _ _ Uz.out Try.underlying45 rfl infoRpl ?_) | (refine wpList_store_mid rfl 45 _ _ rfl (w.heap.size + 1) 0 (arrRpl fx) rfl rfl H5.out infoRpl ON.out ?_))
  exact bodyPost_ret (v := .agg (arrRpl fx)) (results_cell_row rfl _ _ (w.heap.size + 1) _ _ _ _ rfl H4.out Try.underlying45 rfl infoRpl) rfl ⟨_, rfl, ⟨fx, rfl, EX.out⟩, B9.out⟩
set_option maxHeartbeats 1600000 in
theorem eqReplica_any (v v' : Value) (u : Rpl) (w : World) (S S' : Nat → Prop) (hv : RplAt w S v u) (hv' : RplAt w S' v' u) (hS : ∀ g, S g → g < w.heap.size) (hS' : ∀ g, S' g → g < w.heap.size) :
    Calls Try.prog 51 #[v, v'] w fun e w' => e = .returned (.bool true) ∧ Below w.heap.size w w' := by
  obtain ⟨f, rfl, y0, y1, y2, y3, y4, y5⟩ := hv
  obtain ⟨f', rfl, y0', y1', y2', y3', y4', y5'⟩ := hv'
  try simp only [arrRpl]
  rw [show f 0 = _ from y0]
  clear y0
  rw [show f 1 = _ from y1]
  clear y1
  rw [show f 2 = _ from y2]
  clear y2
  obtain ⟨A3, c3, g3⟩ := y3.form
  rw [g3] at y3 ⊢
  have H3 := Seg.hid y3
  clear y3 g3
  rw [show f 4 = _ from y4]
  clear y4
  rw [show f 5 = _ from y5]
  clear y5
  try simp only [arrRpl]
  rw [show f' 0 = _ from y0']
  clear y0'
  rw [show f' 1 = _ from y1']
  clear y1'
  rw [show f' 2 = _ from y2']
  clear y2'
  obtain ⟨A3', c3', g3'⟩ := y3'.form
  rw [g3'] at y3' ⊢
  have H3' := Seg.hid y3'
  clear y3' g3'
  rw [show f' 4 = _ from y4']
  clear y4'
  rw [show f' 5 = _ from y5']
  clear y5'
  have G0 : Hid (LgAt w S (.agg #[.int .i64 u.start, .int .i64 u.next, .int .i64 u.roll, .slice A3 u.segs.length c3]) (⟨u.start, u.next, u.roll, u.segs⟩ : Lg)) := ⟨fun q => if q = 0 then .int .i64 u.start else if q = 1 then .int .i64 u.next else if q = 2 then .int .i64 u.roll else .slice A3 u.segs.length c3, rfl, rfl, rfl, rfl, H3.out⟩
  have G0' : Hid (LgAt w S' (.agg #[.int .i64 u.start, .int .i64 u.next, .int .i64 u.roll, .slice A3' u.segs.length c3']) (⟨u.start, u.next, u.roll, u.segs⟩ : Lg)) := ⟨fun q => if q = 0 then .int .i64 u.start else if q = 1 then .int .i64 u.next else if q = 2 then .int .i64 u.roll else .slice A3' u.segs.length c3', rfl, rfl, rfl, rfl, H3'.out⟩
  go_enter Try.func51, Try.ntmps51
  go_wp2_with fail
  refine (eqLog_any _ _ (⟨u.start, u.next, u.roll, u.segs⟩ : Lg) ((w.alloc _).alloc _) S S' (G0.out.below (below2 w _ _) hS) (G0'.out.below (below2 w _ _) hS') (fun g hg => by rw [hsz, hsz]; have := hS g hg; omega) (fun g hg => by rw [hsz, hsz]; have := hS' g hg; omega)).mono ?_
  rintro e w1 ⟨rfl, b1⟩
  have B1 := Seg.hid (chain (below2 w _ _) b1)
  have Ta1 : Hid (w1.heap[w.heap.size]? = some (.cells #[.int .i64 u.start, .int .i64 u.next, .int .i64 u.roll, .slice A3 u.segs.length c3, .int .i64 u.mark, .bool u.up] 45 (0, 0))) := (b1.block w.heap.size (by rw [hsz, hsz]; omega)).trans (at2z w _ _)
  have Tb1 : Hid (w1.heap[w.heap.size + 1]? = some (.cells #[.int .i64 u.start, .int .i64 u.next, .int .i64 u.roll, .slice A3' u.segs.length c3', .int .i64 u.mark, .bool u.up] 45 (0, 0))) := (b1.block (w.heap.size + 1) (by rw [hsz, hsz]; omega)).trans (at2y w _ _)
  have s1 : w.heap.size + 1 < w1.heap.size := (Array.getElem?_eq_some_iff.1 Tb1.out).1
  have pa14 : w1.cell? ⟨w.heap.size, 4, none⟩ = some (.int .i64 u.mark) := cell_of_row w1 _ 4 _ _ (0, 0) Ta1.out
  have pb14 : w1.cell? ⟨w.heap.size + 1, 4, none⟩ = some (.int .i64 u.mark) := cell_of_row w1 _ 4 _ _ (0, 0) Tb1.out
  have pa15 : w1.cell? ⟨w.heap.size, 5, none⟩ = some (.bool u.up) := cell_of_row w1 _ 5 _ _ (0, 0) Ta1.out
  have pb15 : w1.cell? ⟨w.heap.size + 1, 5, none⟩ = some (.bool u.up) := cell_of_row w1 _ 5 _ _ (0, 0) Tb1.out
  clear b1
  go_wp2
  go_ret
  exact ⟨rfl, B1.out⟩
end Go.Proofs.Ytggjinjadllapaa.Ls
namespace Go.Proofs.Ytggjinjadllapaa.Ls
set_option maxRecDepth 8000
open Go.RowKit
open Recs
open SegW (Sg)
open LogW (Lg)
set_option linter.unusedVariables false
theorem szReplicaS_none (A : Option Addr) (c : Nat) (l : Int) (w : World) (h3 : -1 ≤ l) (h4 : l ≤ 1048576) :
    Calls Try.prog 13 #[.slice A 0 c, .int .i64 l] w fun e w' => ∃ q, e = .returned (.int .i64 q) ∧ -1 ≤ q ∧ q ≤ l ∧ Lf l 0 q ∧ Below w.heap.size w w' := by
  go_enter Try.func13, Try.ntmps13
  by_cases hlt : l < 0
  · go_wp2
    go_ret
    exact ⟨_, rfl, by omega, by omega, ⟨fun _ => by omega, fun _ => by omega⟩, Below.refl _ _⟩
  go_wp2
  go_loop [1, 5] (fun x i => i = .int .i64 0 ∧ x = .int .i64 l) (fun _ _ => 0)
  case atStart => exact ⟨rfl, by go_num⟩
  case round =>
    obtain ⟨rfl, rfl⟩ := hrel
    go_wp2
    go_ret
    exact ⟨_, rfl, by omega, by omega, ⟨fun _ => by omega, fun _ => by omega⟩, Below.refl _ _⟩

set_option maxHeartbeats 800000 in
theorem szReplicaS_core (g o n c : Nat) (us : List Rpl) (F : Nat → Nat → Value) (l : Int) (w : World) (S : Nat → Prop) (h3 : -1 ≤ l) (h4 : l ≤ 1048576) (hn : n ≤ 9223372036854775807) (hc : n ≤ c) (hg : g < w.heap.size) (hS : ∀ g, S g → g < w.heap.size) (hnl : us.length = n)
    (hf : ∀ i, i < n → FineRpl (us.getD i default)) (he : ∀ i, i < n → ERpl w S (F i) (us.getD i default))
    (ha : ∀ i, i < n → ∀ j, j < 6 → w.cell? ⟨g, o + i * 6 + j, none⟩ = some (F i j)) :
    Calls Try.prog 13 #[.slice (some ⟨g, o, none⟩) n c, .int .i64 l] w fun e w' => ∃ q, e = .returned (.int .i64 q) ∧ -1 ≤ q ∧ q ≤ l ∧ Lf l (szL szRpl us) q ∧ Below w.heap.size w w' := by
  have HA := Seg.hid ha
  have HK := Seg.hid hf
  have HH := Seg.hid he
  have HN := Seg.hid hnl
  clear ha hf he hnl
  go_enter Try.func13, Try.ntmps13
  by_cases hlt : l - (n : Int) < 0
  · go_wp2
    go_ret
    exact ⟨_, rfl, by omega, by omega, ⟨fun h => absurd h (by omega), fun _ => by unfold szL; rw [HN.out]; omega⟩, Below.refl _ _⟩
  go_wp2
  go_loopw [1, 5] (fun x i wr => ∃ (k : Nat) (r : Int), k ≤ n ∧ x = .int .i64 r ∧ i = .int .i64 k ∧ 0 ≤ r ∧ r ≤ l ∧ Hid (Below w.heap.size w wr ∧ r = l - n - tot szRpl (us.take k))) (fun _ i _ => n - (intOf i).toNat)
  case atStart => exact ⟨0, l - n, Nat.zero_le _, rfl, rfl, by omega, by omega, Below.refl _ _, by simp [tot]⟩
  case round =>
    obtain ⟨k, r, hk, rfl, rfl, hr0, hr1, HB⟩ := hrel
    by_cases hlt2 : k < n
    · have CL := cells_later HA.out HB.out.1 hg
      have c0 : wr.cell? ⟨g, o + k * 6, none⟩ = some (F k 0) := CL k ‹k < n› 0 (by omega)
      have c1 : wr.cell? ⟨g, o + k * 6 + 1, none⟩ = some (F k 1) := CL k ‹k < n› 1 (by omega)
      have c2 : wr.cell? ⟨g, o + k * 6 + 2, none⟩ = some (F k 2) := CL k ‹k < n› 2 (by omega)
      have c3 : wr.cell? ⟨g, o + k * 6 + 3, none⟩ = some (F k 3) := CL k ‹k < n› 3 (by omega)
      have c4 : wr.cell? ⟨g, o + k * 6 + 4, none⟩ = some (F k 4) := CL k ‹k < n› 4 (by omega)
      have c5 : wr.cell? ⟨g, o + k * 6 + 5, none⟩ = some (F k 5) := CL k ‹k < n› 5 (by omega)
      clear CL
      have RA : Hid (RplAt wr S (.agg (arrRpl (F k))) (us.getD k default)) := ⟨_, rfl, keepsRpl _ _ _ _ _ _ (HH.out k hlt2) (fun g hg => HB.out.1.block g (hS g hg)) (fun _ _ => rfl)⟩
      have h0 : (0 : Int) ≤ (k : Int) := by omega
      have h1 : (k : Int) < (n : Int) := by omega
      have hbr : Hid (∀ g, S g → g < wr.heap.size) := fun g hg => Nat.lt_of_lt_of_le (hS g hg) HB.out.1.size
      have TK := Seg.hid (tot_take szRpl (ts := us) (j := k) (by rw [HN.out]; exact hlt2))
      have TL := Seg.hid (tot_le szRpl us (k + 1))
      have FK := Seg.hid (HK.out k hlt2)
      generalize us.getD k default = uk at *
      go_wp2_with fail
      refine (szReplica_any _ uk r wr S (by omega) (by omega) RA.out hbr.out FK.out).mono ?_
      rintro e w1 ⟨r1, rfl, hr2, hr3, hlf, b1⟩
      have B1 := Seg.hid (chain HB.out.1 b1)
      have FW := Seg.hid hlf
      clear b1 hlf
      by_cases hneg : r1 < 0
      · go_wp2
        go_ret
        refine ⟨-1, rfl, by omega, by omega, ⟨fun h => absurd h (by omega), fun _ => ?_⟩, B1.out⟩
        have m1 := FW.out.2 hneg; have m2 := HB.out.2; have m3 := TK.out; have m4 := TL.out
        unfold szL; rw [HN.out]; omega
      · go_wp2
        go_roundw
        case rel =>
          refine ⟨k + 1, r1, by omega, rfl, by go_num, by omega, by omega, B1.out, ?_⟩
          have m1 := FW.out.1 (by omega); have m2 := HB.out.2; have m3 := TK.out
          omega
        case measure => simp [intOf]; omega
    · have : k = n := by omega
      subst this
      go_wp2
      go_ret
      refine ⟨r, rfl, by omega, by omega, ⟨fun _ => ?_, fun h => absurd h (by omega)⟩, HB.out.1⟩
      have m2 := HB.out.2
      rw [← HN.out, List.take_length, HN.out] at m2
      unfold szL; rw [HN.out]; omega
theorem szReplicaS_any (v : Value) (us : List Rpl) (l : Int) (w : World) (S : Nat → Prop) (h3 : -1 ≤ l) (h4 : l ≤ 1048576) (hv : LAt 6 ERpl w S v us) (hS : ∀ g, S g → g < w.heap.size) (hf : FineL FineRpl us) :
    Calls Try.prog 13 #[v, .int .i64 l] w fun e w' => ∃ q, e = .returned (.int .i64 q) ∧ -1 ≤ q ∧ q ≤ l ∧ Lf l (szL szRpl us) q ∧ Below w.heap.size w w' := by
  obtain ⟨hn, A, c, rfl, h⟩ := hv
  by_cases hz : us.length = 0
  · obtain rfl := List.length_eq_zero_iff.1 hz
    exact szReplicaS_none A c l w h3 h4
  obtain ⟨g, o, F, rfl, hg, hc, hcell, hel⟩ := h.resolve_left hz
  exact szReplicaS_core g o us.length c us F l w S h3 h4 hn hc (hS g hg) hS rfl hf.2 hel hcell
set_option maxHeartbeats 400000 in
theorem toReplicaS_none (A : Option Addr) (c : Nat) (w : World) :
    Calls Try.prog 19 #[.slice A 0 c] w fun e w' => ∃ v, e = .returned v ∧ (∃ A c, v = .slice A 0 c) ∧ Below w.heap.size w w' := by
  obtain ⟨i0, hi, hz0, hz1, hz2⟩ := info_parts infoZRpl
  go_enter Try.func19, Try.ntmps19
  go_wp2_with (at_make; refine wpList_make_full _ rfl _ _ 29 rfl w.heap.size 45 i0 _ 6 Try.underlying29 hi hz0 hz1 .i64 .i64 _ _ 0 rfl rfl rfl rfl (by omega) (by unfold maxLen; omega) (Nat.le_refl _) ?_; intro w1 hown hgr)
  have hb1 := (Below.refl w.heap.size w).grown hgr (Nat.le_refl _) (fun k hk => by cases hk)
  have HB := Seg.hid hb1
  clear hown hgr hb1 hi hz0 hz1 hz2
  go_loop [4] (fun i => i = .int .i64 0) (fun i => 0)
  case atStart => rfl
  case round =>
    subst hrel
    go_wp2
    go_ret
    exact ⟨_, rfl, ⟨_, _, rfl⟩, HB.out⟩
set_option maxHeartbeats 800000 in
theorem toReplicaS_core (g o n c : Nat) (us : List Rpl) (F0 : Nat → Nat → Value) (w : World) (S : Nat → Prop) (hn : n ≤ 1048576) (hc : n ≤ c) (hg : g < w.heap.size) (hS : ∀ g, S g → g < w.heap.size)
    (hf : ∀ i, i < n → szRpl (us.getD i default) ≤ 1048576) (he : ∀ i, i < n → ERpl w S (F0 i) (us.getD i default))
    (ha : ∀ i, i < n → ∀ j, j < 6 → w.cell? ⟨g, o + i * 6 + j, none⟩ = some (F0 i j)) :
    Calls Try.prog 19 #[.slice (some ⟨g, o, none⟩) n c] w fun e w' => ∃ F, e = .returned (.slice (some ⟨w.heap.size, 0, none⟩) n n) ∧ Done 45 6 ERpl w w' us n n F := by
  obtain ⟨i0, hi, hz0, hz1, hz2⟩ := info_parts infoZRpl
  have HA := Seg.hid ha; have HK := Seg.hid hf; have HH := Seg.hid he
  clear ha hf he
  go_enter Try.func19, Try.ntmps19
  go_wp2_with (at_make; refine wpList_make_full _ rfl _ _ 29 rfl w.heap.size 45 i0 _ 6 Try.underlying29 hi hz0 hz1 .i64 .i64 _ _ n rfl rfl rfl rfl (by rw [hz2]; omega) (by unfold maxLen; omega) (Nat.le_refl _) ?_; intro w1 hown hgr)
  have hb1 := (Below.refl w.heap.size w).grown hgr (Nat.le_refl _) (fun k hk => by cases hk)
  have HM := Seg.hid (Mine.of_made hown hown.1)
  have HB := Seg.hid hb1
  clear hown hgr hb1 hi hz0 hz1 hz2
  go_loopw [4] (fun i wr => ∃ (j : Nat) (F : Nat → Value), j ≤ n ∧ i = .int .i64 j ∧ Done 45 6 ERpl w wr us n j F) (fun i _ => n - (intOf i).toNat)
  case atStart => exact ⟨0, _, Nat.zero_le _, rfl, HM.out, HB.out, fun i hi => absurd hi (by omega)⟩
  case round =>
    clear HM HB
    obtain ⟨j, F, hj, rfl, HR⟩ := hrel
    by_cases hlt : j < n
    · have CL := cells_later HA.out HR.bel hg
      have c0 : wr.cell? ⟨g, o + j * 6, none⟩ = some (F0 j 0) := CL j ‹j < n› 0 (by omega)
      have c1 : wr.cell? ⟨g, o + j * 6 + 1, none⟩ = some (F0 j 1) := CL j ‹j < n› 1 (by omega)
      have c2 : wr.cell? ⟨g, o + j * 6 + 2, none⟩ = some (F0 j 2) := CL j ‹j < n› 2 (by omega)
      have c3 : wr.cell? ⟨g, o + j * 6 + 3, none⟩ = some (F0 j 3) := CL j ‹j < n› 3 (by omega)
      have c4 : wr.cell? ⟨g, o + j * 6 + 4, none⟩ = some (F0 j 4) := CL j ‹j < n› 4 (by omega)
      have c5 : wr.cell? ⟨g, o + j * 6 + 5, none⟩ = some (F0 j 5) := CL j ‹j < n› 5 (by omega)
      clear CL
      have RA : Hid (RplAt wr S (.agg (arrRpl (F0 j))) (us.getD j default)) := ⟨_, rfl, keepsRpl _ _ _ _ _ _ (HH.out j hlt) (fun g hg => HR.bel.block g (hS g hg)) (fun _ _ => rfl)⟩
      have FW := Seg.hid (HK.out j hlt)
      have hbr : Hid (∀ g, S g → g < wr.heap.size) := fun g hg => Nat.lt_of_lt_of_le (hS g hg) HR.bel.size
      have ST := Seg.hid (fun w1 vs hv b1 he => Done.step keepsRpl growsRpl (w1 := w1) HR vs hv b1 he)
      have HM := Seg.hid HR.mine
      have h0 : (0 : Int) ≤ (j : Int) := by omega
      have h1 : (j : Int) < (n : Int) := by omega
      clear HR
      generalize us.getD j default = uj at *
      go_wp2_with fail
      refine (toReplica_any _ uj wr S RA.out hbr.out FW.out).mono ?_
      rintro e w1 ⟨v1, rfl, ⟨f1, rfl, he1⟩, b1⟩
      have S1 := Seg.hid (ST.out w1 (arrRpl f1).toList rfl b1 (keepsRpl _ _ _ _ _ _ he1 (fun _ _ => rfl) (fun q hq => by
        match q, hq with
        | 0, _ => rfl
        | 1, _ => rfl
        | 2, _ => rfl
        | 3, _ => rfl
        | 4, _ => rfl
        | 5, _ => rfl
        )))
      have M1 : Hid (w1.there w.heap.size (j * 6) (arrRpl f1).size) := Own.mine_there (o := j * 6) (m := 6) (HM.out.below b1 HM.out.lt) (by omega)
      have ON := Seg.hid (oneRpl he1)
      clear b1 he1
      go_wp2_with (refine wpList_store_mid rfl 45 _ _ rfl w.heap.size (j * 6) (arrRpl f1) rfl rfl ?ht infoRpl ON.out ?_; case ht => exact M1.out)
      go_roundw
      case rel => exact ⟨j + 1, _, by omega, by go_num, S1.out⟩
      case measure => simp [intOf]; omega
    · have : j = n := by omega
      subst this
      go_wp2
      go_ret
      exact ⟨F, rfl, HR⟩
theorem toReplicaS_any (v : Value) (us : List Rpl) (w : World) (S : Nat → Prop) (hv : LAt 6 ERpl w S v us) (hS : ∀ g, S g → g < w.heap.size) (hf : szL szRpl us ≤ 1048576) :
    Calls Try.prog 19 #[v] w fun e w' => ∃ v', e = .returned v' ∧ LAt 6 ERpl w' (seg w.heap.size w'.heap.size) v' us ∧ Below w.heap.size w w' := by
  obtain ⟨hn, A, c, rfl, h⟩ := hv
  by_cases hz : us.length = 0
  · obtain rfl := List.length_eq_zero_iff.1 hz
    refine (toReplicaS_none A c w).mono fun e w' ⟨v', a1, ⟨A', c', a2⟩, a3⟩ => ⟨v', a1, ?_, a3⟩
    rw [a2]
    exact LAt.nil _ _ _ _
  obtain ⟨g, o, F, rfl, hg, hc, hcell, hel⟩ := h.resolve_left hz
  exact (toReplicaS_core g o us.length c us F w S (szL_len _ hf) hc (hS g hg) hS (fun i hi => szL_one _ hf hi) hel hcell).mono fun e w' ⟨F, a1, a2⟩ => ⟨_, a1, a2.all growsRpl hn, a2.bel⟩
theorem eqReplicaS_none (A A' : Option Addr) (c c' : Nat) (w : World) :
    Calls Try.prog 25 #[.slice A 0 c, .slice A' 0 c'] w fun e w' => e = .returned (.bool true) ∧ Below w.heap.size w w' := by
  go_enter Try.func25, Try.ntmps25
  go_wp2
  go_loop [5] (fun i => i = .int .i64 0) (fun _ => 0)
  case atStart => rfl
  case round =>
    subst hrel
    go_wp2
    go_ret
    exact ⟨rfl, Below.refl _ _⟩
set_option maxHeartbeats 1600000 in
theorem eqReplicaS_core (g o g' o' n c c' : Nat) (us : List Rpl) (F F' : Nat → Nat → Value) (w : World) (S S' : Nat → Prop) (hn : n ≤ 9223372036854775807) (hc : n ≤ c) (hc' : n ≤ c') (hg : g < w.heap.size) (hg' : g' < w.heap.size) (hS : ∀ g, S g → g < w.heap.size) (hS' : ∀ g, S' g → g < w.heap.size)
    (he : ∀ i, i < n → ERpl w S (F i) (us.getD i default)) (he' : ∀ i, i < n → ERpl w S' (F' i) (us.getD i default))
    (ha : ∀ i, i < n → ∀ j, j < 6 → w.cell? ⟨g, o + i * 6 + j, none⟩ = some (F i j)) (ha' : ∀ i, i < n → ∀ j, j < 6 → w.cell? ⟨g', o' + i * 6 + j, none⟩ = some (F' i j)) :
    Calls Try.prog 25 #[.slice (some ⟨g, o, none⟩) n c, .slice (some ⟨g', o', none⟩) n c'] w fun e w' => e = .returned (.bool true) ∧ Below w.heap.size w w' := by
  have HA := Seg.hid ha; have HA' := Seg.hid ha'; have HH := Seg.hid he; have HH' := Seg.hid he'
  clear ha ha' he he'
  go_enter Try.func25, Try.ntmps25
  go_wp2
  go_loopw [5] (fun i wr => ∃ (k : Nat), k ≤ n ∧ i = .int .i64 k ∧ Hid (Below w.heap.size w wr)) (fun i _ => n - (intOf i).toNat)
  case atStart => exact ⟨0, Nat.zero_le _, rfl, Below.refl _ _⟩
  case round =>
    obtain ⟨k, hk, rfl, HB⟩ := hrel
    by_cases hlt2 : k < n
    · have CL := cells_later HA.out HB.out hg
      have CL' := cells_later HA'.out HB.out hg'
      have c0 : wr.cell? ⟨g, o + k * 6, none⟩ = some (F k 0) := CL k ‹k < n› 0 (by omega)
      have c1 : wr.cell? ⟨g, o + k * 6 + 1, none⟩ = some (F k 1) := CL k ‹k < n› 1 (by omega)
      have c2 : wr.cell? ⟨g, o + k * 6 + 2, none⟩ = some (F k 2) := CL k ‹k < n› 2 (by omega)
      have c3 : wr.cell? ⟨g, o + k * 6 + 3, none⟩ = some (F k 3) := CL k ‹k < n› 3 (by omega)
      have c4 : wr.cell? ⟨g, o + k * 6 + 4, none⟩ = some (F k 4) := CL k ‹k < n› 4 (by omega)
      have c5 : wr.cell? ⟨g, o + k * 6 + 5, none⟩ = some (F k 5) := CL k ‹k < n› 5 (by omega)
      have d0 : wr.cell? ⟨g', o' + k * 6, none⟩ = some (F' k 0) := CL' k ‹k < n› 0 (by omega)
      have d1 : wr.cell? ⟨g', o' + k * 6 + 1, none⟩ = some (F' k 1) := CL' k ‹k < n› 1 (by omega)
      have d2 : wr.cell? ⟨g', o' + k * 6 + 2, none⟩ = some (F' k 2) := CL' k ‹k < n› 2 (by omega)
      have d3 : wr.cell? ⟨g', o' + k * 6 + 3, none⟩ = some (F' k 3) := CL' k ‹k < n› 3 (by omega)
      have d4 : wr.cell? ⟨g', o' + k * 6 + 4, none⟩ = some (F' k 4) := CL' k ‹k < n› 4 (by omega)
      have d5 : wr.cell? ⟨g', o' + k * 6 + 5, none⟩ = some (F' k 5) := CL' k ‹k < n› 5 (by omega)
      clear CL CL'
      have RA : Hid (RplAt wr.drew S (.agg (arrRpl (F k))) (us.getD k default)) := ⟨_, rfl, keepsRpl _ _ _ _ _ _ (HH.out k hlt2) (fun g hg => HB.out.drew.block g (hS g hg)) (fun _ _ => rfl)⟩
      have RB : Hid (RplAt wr.drew S' (.agg (arrRpl (F' k))) (us.getD k default)) := ⟨_, rfl, keepsRpl _ _ _ _ _ _ (HH'.out k hlt2) (fun g hg => HB.out.drew.block g (hS' g hg)) (fun _ _ => rfl)⟩
      have hbr : Hid (∀ g, S g → g < wr.drew.heap.size) := fun g hg => Nat.lt_of_lt_of_le (hS g hg) HB.out.size
      have hbr' : Hid (∀ g, S' g → g < wr.drew.heap.size) := fun g hg => Nat.lt_of_lt_of_le (hS' g hg) HB.out.size
      have h0 : (0 : Int) ≤ (k : Int) := by omega
      have h1 : (k : Int) < (n : Int) := by omega
      generalize us.getD k default = uk at *
      go_wp2_with fail
      go_region_with (go_at_call 51; refine (eqReplica_any _ _ uk wr.drew S S' RA.out RB.out hbr.out hbr'.out).mono ?_; rintro e w1 ⟨rfl, b1⟩; have B1 : Hid (Below w.heap.size w w1) := chainD HB.out b1; clear b1)
      all_goals
        go_wp2
        go_roundw
        case rel => exact ⟨k + 1, by omega, by go_num, B1.out⟩
        case measure => simp [intOf]; omega
    · have : k = n := by omega
      subst this
      go_wp2
      go_ret
      exact ⟨rfl, HB.out⟩
theorem eqReplicaS_any (v v' : Value) (us : List Rpl) (w : World) (S S' : Nat → Prop) (hv : LAt 6 ERpl w S v us) (hv' : LAt 6 ERpl w S' v' us) (hS : ∀ g, S g → g < w.heap.size) (hS' : ∀ g, S' g → g < w.heap.size) :
    Calls Try.prog 25 #[v, v'] w fun e w' => e = .returned (.bool true) ∧ Below w.heap.size w w' := by
  obtain ⟨hn, A, c, rfl, h⟩ := hv
  obtain ⟨_, A', c', rfl, h'⟩ := hv'
  by_cases hz : us.length = 0
  · rw [hz]
    exact eqReplicaS_none A A' c c' w
  obtain ⟨g, o, F, rfl, hg, hc, hcell, hel⟩ := h.resolve_left hz
  obtain ⟨g', o', F', rfl, hg', hc', hcell', hel'⟩ := h'.resolve_left hz
  exact eqReplicaS_core g o g' o' us.length c c' us F F' w S S' hn hc hc' (hS g hg) (hS' g' hg') hS hS' hel hel' hcell hcell'
end Go.Proofs.Ytggjinjadllapaa.Ls
