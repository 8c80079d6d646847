/- The program's askers over lists of numbers: ascending ones; The program's askers over lists of numbers: ones up to a bound; a number among others; Replica: how it lies in memory; what the law's measure and copier answer. -/
import Derived.Test.YticihnoekffelaaJS23
import Derived.Test.YticihnoekffelaaJS11
namespace Go.Proofs.Yticihnoekffelaa.Asc
set_option maxRecDepth 8000
open Go.RowKit
open Ls
open Recs (hsz below1 below2 chain)
set_option linter.unusedVariables false
def inR (lo x hi : Int) : Bool := decide (lo ≤ x) && decide (x ≤ hi)
def asc (most : Int) : Int → List Int → Bool
  | _, [] => true
  | a, n :: r => inR (a + 1) n most && asc most n r
theorem drop_cons {T : Type} [Inhabited T] {l : List T} {k : Nat} (h : k < l.length) : l.drop k = l.getD k default :: l.drop (k + 1) := by
  rw [List.drop_eq_getElem_cons h]; simp [h]
/-- A list in memory, opened where it has elements. -/
structure Opn {T : Type} [Inhabited T] (nf : Nat) (E : Elt T) (w : World) (S : Nat → Prop) (A : Option Addr) (c : Nat) (us : List T) (g o : Nat) (F : Nat → Nat → Value) : Prop where
  addr : us.length = 0 ∨ (A = some ⟨g, o, none⟩ ∧ us.length ≤ c ∧ g < w.heap.size)
  cells : ∀ i, i < us.length → ∀ j, j < nf → w.cell? ⟨g, o + i * nf + j, none⟩ = some (F i j)
  el : ∀ i, i < us.length → E w S (F i) (us.getD i default)
theorem opn {T : Type} [Inhabited T] {nf : Nat} {E : Elt T} {w : World} {S : Nat → Prop} {v : Value} {us : List T} (h : LAt nf E w S v us) (hS : ∀ g, S g → g < w.heap.size) : ∃ A c g o F, v = .slice A us.length c ∧ Opn nf E w S A c us g o F ∧ us.length ≤ 9223372036854775807 := by
  obtain ⟨hn, A, c, rfl, h⟩ := h
  by_cases hz : us.length = 0
  · exact ⟨A, c, 0, 0, fun _ _ => default, rfl, ⟨.inl hz, fun i hi => absurd hi (by omega), fun i hi => absurd hi (by omega)⟩, hn⟩
  obtain ⟨g, o, F, rfl, hg, hc, hcell, hel⟩ := h.resolve_left hz
  exact ⟨_, c, g, o, F, rfl, ⟨.inr ⟨rfl, hc, hS g hg⟩, hcell, hel⟩, hn⟩
set_option maxHeartbeats 400000 in
theorem asc_core (g o c n : Nat) (ns : List Int) (most : Int) (t : Bool) (w : World) (hn : n ≤ 9223372036854775807) (hc : n ≤ c) (hm : most ≤ 1048576) (hnl : ns.length = n) (ht : asc most (-1) ns = t)
    (ha : ∀ i, i < n → w.cell? ⟨g, o + i, none⟩ = some (.int .i64 (ns.getD i default))) :
    Calls Try.prog 88 #[.slice (some ⟨g, o, none⟩) n c, .int .i64 most] w fun e w' => e = .returned (.bool t) ∧ w = w' := by
  have HA := Seg.hid ha
  have HT := Seg.hid ht
  have HN := Seg.hid hnl
  clear ha ht hnl
  go_enter Try.func88, Try.ntmps88
  go_wp2
  go_loop [5, 10] (fun a i => ∃ (k : Nat) (x : Int), k ≤ n ∧ a = .int .i64 x ∧ i = .int .i64 k ∧ -1 ≤ x ∧ x ≤ 1048576 ∧ Hid (asc most x (ns.drop k) = t)) (fun _ i => n - (intOf i).toNat)
  case atStart => exact ⟨0, -1, Nat.zero_le _, rfl, rfl, by omega, by omega, HT⟩
  case round =>
    obtain ⟨k, x, hk, rfl, rfl, hx0, hx1, HB⟩ := hrel
    by_cases hlt : k < n
    · have c1 := HA.out k hlt
      have h0 : (0 : Int) ≤ (k : Int) := by omega
      have h1 : (k : Int) < (n : Int) := by omega
      have HD := HB.out
      rw [drop_cons (by rw [HN.out]; exact hlt)] at HD
      generalize ns.getD k default = nk at *
      have HD' := Seg.hid HD
      clear HD
      go_wp2_with fail
      cases hb : inR (x + 1) nk most with
      | false =>
        refine (InB.within_b _ _ _ false hb _).mono ?_
        rintro e w1 ⟨rfl, rfl⟩
        go_wp2
        go_ret
        exact ⟨Seg.ret_bool (by have := HD'.out; simp only [asc, hb, Bool.false_and] at this; exact this), rfl⟩
      | true =>
        refine (InB.within_b _ _ _ true hb _).mono ?_
        rintro e w1 ⟨rfl, rfl⟩
        have hy : x + 1 ≤ nk ∧ nk ≤ most := by simpa [inR] using hb
        go_wp2
        go_round
        case rel => exact ⟨k + 1, nk, by omega, rfl, by go_num, by omega, by omega, by have := HD'.out; simp only [asc, hb, Bool.true_and] at this; exact this⟩
        case measure => simp [intOf]; omega
    · have hk' : k = n := by omega
      have HE := HB.out
      rw [List.drop_eq_nil_of_le (by rw [HN.out]; omega)] at HE
      have HE' := Seg.hid HE
      clear HE
      go_wp2
      go_ret
      exact ⟨Seg.ret_bool HE'.out, rfl⟩
theorem asc_none (A : Option Addr) (c : Nat) (most : Int) (w : World) : Calls Try.prog 88 #[.slice A 0 c, .int .i64 most] w fun e w' => e = .returned (.bool true) ∧ w = w' := by
  go_enter Try.func88, Try.ntmps88
  go_wp2
  go_loop [5, 10] (fun a i => a = .int .i64 (-1) ∧ i = .int .i64 0) (fun _ _ => 0)
  case atStart => exact ⟨rfl, rfl⟩
  case round =>
    obtain ⟨rfl, rfl⟩ := hrel
    go_wp2
    go_ret
    exact ⟨rfl, rfl⟩
theorem asc_any (v : Value) (ns : List Int) (most : Int) (t : Bool) (w : World) (S : Nat → Prop) (hv : IntsAt w S v ns) (hm : most ≤ 1048576) (ht : asc most (-1) ns = t) :
    Calls Try.prog 88 #[v, .int .i64 most] w fun e w' => e = .returned (.bool t) ∧ w = w' := by
  obtain ⟨hn, A, c, rfl, h⟩ := hv
  by_cases hz : ns.length = 0
  · obtain rfl := List.length_eq_zero_iff.1 hz
    subst ht
    exact asc_none A c most w
  obtain ⟨g, o, F, rfl, hg, hc, hcell, hel⟩ := h.resolve_left hz
  exact asc_core g o c ns.length ns most t w hn hc hm rfl ht (int_cell hcell hel)
end Go.Proofs.Yticihnoekffelaa.Asc
namespace Go.Proofs.Yticihnoekffelaa.Asc
set_option maxRecDepth 8000
open Go.RowKit
open Ls
open Recs (hsz below1 below2 chain)
set_option linter.unusedVariables false
def allIn (most : Int) : List Int → Bool
  | [] => true
  | n :: r => inR 0 n most && allIn most r
def nums (ns : List Int) (n most : Int) : Bool := allIn most ns && decide ((ns.length : Int) = n)
def has (x : Int) : List Int → Bool
  | [] => false
  | n :: r => decide (n = x) || has x r
set_option maxHeartbeats 400000 in
theorem all_core (g o c n : Nat) (ns : List Int) (m most : Int) (t : Bool) (w : World) (hn : n ≤ 9223372036854775807) (hc : n ≤ c) (hnl : ns.length = n) (ht : nums ns m most = t)
    (ha : ∀ i, i < n → w.cell? ⟨g, o + i, none⟩ = some (.int .i64 (ns.getD i default))) :
    Calls Try.prog 90 #[.slice (some ⟨g, o, none⟩) n c, .int .i64 m, .int .i64 most] w fun e w' => e = .returned (.bool t) ∧ w = w' := by
  have HA := Seg.hid ha
  have HT : Hid ((allIn most (ns.drop 0) && decide ((n : Int) = m)) = t) := by show _ = _; rw [← ht, nums, hnl]; rfl
  have HN := Seg.hid hnl
  clear ha ht hnl
  go_enter Try.func90, Try.ntmps90
  go_wp2
  go_loop [11] (fun i => ∃ (k : Nat), k ≤ n ∧ i = .int .i64 k ∧ Hid ((allIn most (ns.drop k) && decide ((n : Int) = m)) = t)) (fun i => n - (intOf i).toNat)
  case atStart => exact ⟨0, Nat.zero_le _, rfl, HT⟩
  case round =>
    obtain ⟨k, hk, rfl, HB⟩ := hrel
    by_cases hlt : k < n
    · have c1 := HA.out k hlt
      have h0 : (0 : Int) ≤ (k : Int) := by omega
      have h1 : (k : Int) < (n : Int) := by omega
      have HD := HB.out
      rw [drop_cons (by rw [HN.out]; exact hlt)] at HD
      generalize ns.getD k default = nk at *
      have HD' := Seg.hid HD
      clear HD
      go_wp2_with fail
      cases hb : inR 0 nk most with
      | false =>
        refine (InB.within_b _ _ _ false hb _).mono ?_
        rintro e w1 ⟨rfl, rfl⟩
        go_wp2
        go_ret
        exact ⟨Seg.ret_bool (by have := HD'.out; simp only [allIn, hb, Bool.false_and] at this; exact this), rfl⟩
      | true =>
        refine (InB.within_b _ _ _ true hb _).mono ?_
        rintro e w1 ⟨rfl, rfl⟩
        go_wp2
        go_round
        case rel => exact ⟨k + 1, by omega, by go_num, by have := HD'.out; simp only [allIn, hb, Bool.true_and] at this; exact this⟩
        case measure => simp [intOf]; omega
    · have hk' : k = n := by omega
      have HE := HB.out
      rw [List.drop_eq_nil_of_le (by rw [HN.out]; omega)] at HE
      have HE' := Seg.hid HE
      clear HE
      go_wp2
      go_ret
      exact ⟨Seg.ret_bool (by have := HE'.out; simp only [allIn, Bool.true_and] at this; rw [← this, Bool.eq_iff_iff]; simp), rfl⟩
theorem all_none (A : Option Addr) (c : Nat) (m most : Int) (w : World) : Calls Try.prog 90 #[.slice A 0 c, .int .i64 m, .int .i64 most] w fun e w' => e = .returned (.bool (decide ((0 : Int) = m))) ∧ w = w' := by
  go_enter Try.func90, Try.ntmps90
  go_wp2
  go_loop [11] (fun i => i = .int .i64 0) (fun _ => 0)
  case atStart => rfl
  case round =>
    subst hrel
    go_wp2
    go_ret
    exact ⟨Seg.ret_bool (by rw [Bool.eq_iff_iff]; simp), rfl⟩
theorem all_any (v : Value) (ns : List Int) (m most : Int) (t : Bool) (w : World) (S : Nat → Prop) (hv : IntsAt w S v ns) (ht : nums ns m most = t) :
    Calls Try.prog 90 #[v, .int .i64 m, .int .i64 most] w fun e w' => e = .returned (.bool t) ∧ w = w' := by
  obtain ⟨hn, A, c, rfl, h⟩ := hv
  by_cases hz : ns.length = 0
  · obtain rfl := List.length_eq_zero_iff.1 hz
    subst ht
    exact (all_none A c m most w).mono fun e w' ⟨h1, h2⟩ => ⟨by rw [h1]; simp [nums, allIn], h2⟩
  obtain ⟨g, o, F, rfl, hg, hc, hcell, hel⟩ := h.resolve_left hz
  exact all_core g o c ns.length ns m most t w hn hc rfl ht (int_cell hcell hel)
set_option maxHeartbeats 400000 in
theorem index_any (v : Value) (ns : List Int) (x : Int) (w : World) (S : Nat → Prop) (hv : IntsAt w S v ns) (hS : ∀ g, S g → g < w.heap.size) :
    Calls Try.prog 96 #[v, .int .i64 x] w fun e w' => ∃ q : Int, e = .returned (.int .i64 q) ∧ decide (0 ≤ q) = has x ns ∧ w = w' := by
  obtain ⟨A, c, g, o, F, rfl, O, hn⟩ := opn hv hS
  have HO := Seg.hid O
  have IC : Hid (∀ i, i < ns.length → w.cell? ⟨g, o + i, none⟩ = some (.int .i64 (ns.getD i default))) := int_cell O.cells O.el
  clear hv O
  go_enter Try.func96, Try.ntmps96
  go_wp2
  go_loop [8] (fun i => ∃ (k : Nat), k ≤ ns.length ∧ i = .int .i64 k ∧ Hid (has x (ns.drop k) = has x ns)) (fun i => ns.length - (intOf i).toNat)
  case atStart => exact ⟨0, Nat.zero_le _, rfl, rfl⟩
  case round =>
    obtain ⟨k, hk, rfl, HB⟩ := hrel
    by_cases hlt : k < ns.length
    · obtain ⟨ea, hc, hg⟩ := HO.out.addr.resolve_left (by omega)
      have c1 := IC.out k hlt
      have h0 : (0 : Int) ≤ (k : Int) := by omega
      have h1 : (k : Int) < (ns.length : Int) := by omega
      have HD := HB.out
      rw [drop_cons hlt] at HD
      generalize ns.getD k default = nk at *
      have HD' := Seg.hid HD
      clear HD
      subst ea
      by_cases hx : x = nk
      · have hx2 : (x == nk) = true := by simp [hx]
        have Z : Hid (has x ns = true) := by show _ = _; rw [← HD'.out]; simp [has, hx]
        clear hx
        go_wp2
        go_ret
        exact ⟨_, rfl, by rw [Z.out]; simp, rfl⟩
      · have hx2 : (x == nk) = false := by simpa using hx
        have Z : Hid (has x (ns.drop (k + 1)) = has x ns) := by show _ = _; rw [← HD'.out]; simp [has, Ne.symm hx]
        clear hx
        go_wp2
        go_round
        case rel => exact ⟨k + 1, by omega, by go_num, Z⟩
        case measure => simp [intOf]; omega
    · have hk' : k = ns.length := by omega
      have HE := HB.out
      rw [List.drop_eq_nil_of_le (by omega)] at HE
      have HE' := Seg.hid HE
      clear HE
      subst hk'
      go_wp2
      go_ret
      exact ⟨_, rfl, by rw [← HE'.out]; rfl, rfl⟩
theorem contains_any (v : Value) (ns : List Int) (x : Int) (t : Bool) (w : World) (S : Nat → Prop) (hv : IntsAt w S v ns) (hS : ∀ g, S g → g < w.heap.size) (ht : has x ns = t) :
    Calls Try.prog 89 #[v, .int .i64 x] w fun e w' => e = .returned (.bool t) ∧ w = w' := by
  have HV := Seg.hid hv
  obtain ⟨A, c, rfl⟩ := hv.form
  clear hv
  go_enter Try.func89, Try.ntmps89
  go_wp2_with fail
  refine (index_any _ ns x w S HV.out hS).mono ?_
  rintro e w1 ⟨q, rfl, hq, rfl⟩
  have HQ := Seg.hid (hq.trans ht)
  clear hq ht
  go_wp2
  go_ret
  exact ⟨Seg.ret_bool HQ.out, rfl⟩
end Go.Proofs.Yticihnoekffelaa.Asc
namespace Go.Proofs.Yticihnoekffelaa.Ls
set_option maxRecDepth 8000
open Go.RowKit
open Recs
open SegW (Sg)
open LogW (Lg)
set_option linter.unusedVariables false
structure Rpl where
  start : Int
  next : Int
  roll : Int
  segs : List Sg
  mark : Int
  up : Bool
  deriving Inhabited
def ERpl : Elt Rpl := fun w S f u => f 0 = .int .i64 u.start ∧ f 1 = .int .i64 u.next ∧ f 2 = .int .i64 u.roll ∧ LAt 2 ESg w S (f 3) u.segs ∧ f 4 = .int .i64 u.mark ∧ f 5 = .bool u.up
theorem keepsRpl : Keeps 6 ERpl := fun w w' S f f' t h hk hf => by
  obtain ⟨h0, h1, h2, h3, h4, h5⟩ := h
  exact ⟨by rw [hf 0 (by omega)]; exact h0, by rw [hf 1 (by omega)]; exact h1, by rw [hf 2 (by omega)]; exact h2, by rw [hf 3 (by omega)]; exact h3.keep keepsSg hk, by rw [hf 4 (by omega)]; exact h4, by rw [hf 5 (by omega)]; exact h5⟩
theorem growsRpl : Grows ERpl := fun w S S' f t h hs => by
  obtain ⟨h0, h1, h2, h3, h4, h5⟩ := h
  exact ⟨h0, h1, h2, h3.mono growsSg hs, h4, h5⟩
def arrRpl (f : Nat → Value) : Array Value := #[f 0, f 1, f 2, f 3, f 4, f 5]
theorem oneRpl {w : World} {S : Nat → Prop} {f : Nat → Value} {u : Rpl} (h : ERpl w S f u) : (arrRpl f).all (·.oneCell') = true := by
  obtain ⟨h0, h1, h2, h3, h4, h5⟩ := h
  have o0 : (f 0).oneCell' = true := by rw [h0]; rfl
  have o1 : (f 1).oneCell' = true := by rw [h1]; rfl
  have o2 : (f 2).oneCell' = true := by rw [h2]; rfl
  have o3 : (f 3).oneCell' = true := h3.one
  have o4 : (f 4).oneCell' = true := by rw [h4]; rfl
  have o5 : (f 5).oneCell' = true := by rw [h5]; rfl
  simp [arrRpl, o0, o1, o2, o3, o4, o5]
def RplAt (w : World) (S : Nat → Prop) (v : Value) (u : Rpl) : Prop := ∃ f, v = .agg (arrRpl f) ∧ ERpl w S f u
abbrev RplsAt := LAt 6 ERpl
theorem RplAt.keep {w w' : World} {S : Nat → Prop} {v : Value} {u : Rpl} (h : RplAt w S v u) (hk : ∀ g, S g → w'.heap[g]? = w.heap[g]?) : RplAt w' S v u := by
  obtain ⟨f, h1, h2⟩ := h
  exact ⟨f, h1, keepsRpl _ _ _ _ _ _ h2 hk (fun _ _ => rfl)⟩
theorem RplAt.mono {w : World} {S S' : Nat → Prop} {v : Value} {u : Rpl} (h : RplAt w S v u) (hs : ∀ g, S g → S' g) : RplAt w S' v u := by
  obtain ⟨f, h1, h2⟩ := h
  exact ⟨f, h1, growsRpl _ _ _ _ _ h2 hs⟩
theorem RplAt.below {w w' : World} {B : Nat} {S : Nat → Prop} {v : Value} {u : Rpl} (h : RplAt w S v u) (hb : Below B w w') (hs : ∀ g, S g → g < B) : RplAt w' S v u := h.keep fun g hg => hb.block g (hs g hg)
def szRpl (u : Rpl) : Nat := szLg (⟨u.start, u.next, u.roll, u.segs⟩ : Lg)
def FineRpl (u : Rpl) : Prop := I64 u.start ∧ I64 u.next ∧ I64 u.roll ∧ FineL FineSg u.segs ∧ I64 u.mark ∧ True
theorem infoRpl : (Try.prog.info? 69).map (·.size) = some 6 := by kernel_rfl
theorem infoLRpl : (Try.prog.info? 97).map (·.size) = some 6 := by kernel_rfl
theorem infoZRpl : (Try.prog.info? 69).map (fun i => (i.zero, i.size, i.bytes)) = some (some (.agg #[.int .i64 0, .int .i64 0, .int .i64 0, .slice none 0 0, .int .i64 0, .bool false]), 6, 64) := by kernel_rfl
set_option maxHeartbeats 800000 in
theorem szReplica_any (v : Value) (u : Rpl) (l : Int) (w : World) (S : Nat → Prop) (h3 : -1 ≤ l) (h4 : l ≤ 1048576) (hv : RplAt w S v u) (hS : ∀ g, S g → g < w.heap.size) (hf : FineRpl u) :
    Calls Try.prog 63 #[v, .int .i64 l] w fun e w' => ∃ q, e = .returned (.int .i64 q) ∧ -1 ≤ q ∧ q ≤ l ∧ Lf l (szRpl u) q ∧ Below w.heap.size w w' := by
  obtain ⟨f, rfl, y0, y1, y2, y3, y4, y5⟩ := hv
  try simp only [arrRpl]
  rw [show f 0 = _ from y0]
  clear y0
  rw [show f 1 = _ from y1]
  clear y1
  rw [show f 2 = _ from y2]
  clear y2
  obtain ⟨A3, c3, g3⟩ := y3.form
  rw [g3] at y3 ⊢
  have H3 := Seg.hid y3
  clear y3 g3
  rw [show f 4 = _ from y4]
  clear y4
  rw [show f 5 = _ from y5]
  clear y5
  obtain ⟨z0, z1, z2, z3, z4, z5⟩ := hf
  have Z3 := Seg.hid z3
  have FG0 : Hid (FineLg (⟨u.start, u.next, u.roll, u.segs⟩ : Lg)) := ⟨z0, z1, z2, z3⟩
  clear z0 z1 z2 z3 z4 z5
  have G0 : Hid (LgAt w S (.agg #[.int .i64 u.start, .int .i64 u.next, .int .i64 u.roll, .slice A3 u.segs.length c3]) (⟨u.start, u.next, u.roll, u.segs⟩ : Lg)) := ⟨fun q => if q = 0 then .int .i64 u.start else if q = 1 then .int .i64 u.next else if q = 2 then .int .i64 u.roll else .slice A3 u.segs.length c3, rfl, rfl, rfl, rfl, H3.out⟩
  go_enter Try.func63, Try.ntmps63
  go_wp2_with fail
  refine (szLog_any _ (⟨u.start, u.next, u.roll, u.segs⟩ : Lg) _ (w.alloc _) S (by omega) (by omega) (G0.out.below (below1 w _) hS) (fun g hg => by rw [hsz]; have := hS g hg; omega) FG0.out).mono ?_
  rintro e w1 ⟨q1, rfl, a1, b1, L1', d1⟩
  have B1 := Seg.hid (chain (below1 w _) d1)
  have L1 := Seg.hid L1'
  clear d1 L1'
  by_cases k0 : q1 < 0
  · go_wp2
    go_ret
    exact ⟨_, rfl, by omega, by omega, by have m0 := L1.out.2 (by omega); simp only [szRpl]; exact ⟨fun _ => by omega, fun _ => by omega⟩, B1.out⟩
  go_wp2
  go_ret
  exact ⟨_, rfl, by omega, by omega, by have m0 := L1.out.1 (by omega); simp only [szRpl]; exact ⟨fun _ => by omega, fun _ => by omega⟩, B1.out⟩
set_option maxHeartbeats 1600000 in
theorem toReplica_any (v : Value) (u : Rpl) (w : World) (S : Nat → Prop) (hv : RplAt w S v u) (hS : ∀ g, S g → g < w.heap.size) (hf : szRpl u ≤ 1048576) :
    Calls Try.prog 66 #[v] w fun e w' => ∃ v', e = .returned v' ∧ RplAt w' (seg w.heap.size w'.heap.size) v' u ∧ Below w.heap.size w w' := by
  obtain ⟨f, rfl, y0, y1, y2, y3, y4, y5⟩ := hv
  try simp only [arrRpl]
  rw [show f 0 = _ from y0]
  clear y0
  rw [show f 1 = _ from y1]
  clear y1
  rw [show f 2 = _ from y2]
  clear y2
  obtain ⟨A3, c3, g3⟩ := y3.form
  rw [g3] at y3 ⊢
  have H3 := Seg.hid y3
  clear y3 g3
  rw [show f 4 = _ from y4]
  clear y4
  rw [show f 5 = _ from y5]
  clear y5
  unfold szRpl at hf
  have G0 : Hid (LgAt w S (.agg #[.int .i64 u.start, .int .i64 u.next, .int .i64 u.roll, .slice A3 u.segs.length c3]) (⟨u.start, u.next, u.roll, u.segs⟩ : Lg)) := ⟨fun q => if q = 0 then .int .i64 u.start else if q = 1 then .int .i64 u.next else if q = 2 then .int .i64 u.roll else .slice A3 u.segs.length c3, rfl, rfl, rfl, rfl, H3.out⟩
  go_enter Try.func66, Try.ntmps66
  go_wp2_with fail
  refine (toLog_any _ (⟨u.start, u.next, u.roll, u.segs⟩ : Lg) (((w.alloc _).alloc _).alloc _) S (G0.out.below (below3 w _ _ _) hS) (fun g hg => by rw [hsz, hsz, hsz]; have := hS g hg; omega) (by omega)).mono ?_
  rintro e w1 ⟨vg1, rfl, ⟨fg1, rfl, a1_0, a1_1, a1_2, a1_3⟩, b1⟩
  obtain ⟨v1, hvv1⟩ : ∃ v, fg1 3 = v := ⟨_, rfl⟩
  rw [hvv1] at a1_3
  have l1 : LAt 2 ESg w1 (seg (((w.alloc _).alloc _).alloc _).heap.size w1.heap.size) v1 u.segs := a1_3
  have hag1 : arrLg fg1 = #[.int .i64 u.start, .int .i64 u.next, .int .i64 u.roll, v1] := by unfold arrLg; rw [show fg1 0 = .int .i64 u.start from a1_0, show fg1 1 = .int .i64 u.next from a1_1, show fg1 2 = .int .i64 u.roll from a1_2, hvv1]
  rw [hag1]
  clear hag1 hvv1 a1_0 a1_1 a1_2 a1_3
  have B1 := Seg.hid (chain (below3 w _ _ _) b1)
  have Ta1 : Hid (w1.heap[w.heap.size]? = some (.cells #[.int .i64 u.start, .int .i64 u.next, .int .i64 u.roll, .slice A3 u.segs.length c3, .int .i64 u.mark, .bool u.up] 97 (0, 0))) := (b1.block w.heap.size (by rw [hsz, hsz, hsz]; omega)).trans (at3z w _ _ _)
  have Tr1 : Hid (w1.heap[w.heap.size + 1]? = some (.cells #[.int .i64 0, .int .i64 0, .int .i64 0, .slice none 0 0, .int .i64 0, .bool false] 69 (0, 0))) := (b1.block (w.heap.size + 1) (by rw [hsz, hsz, hsz]; omega)).trans (at3 w _ _ _)
  have To1 : Hid (w1.heap[w.heap.size + 1 + 1]? = some (.cells #[.int .i64 0, .int .i64 0, .int .i64 0, .slice none 0 0, .int .i64 0, .bool false] 69 (0, 0))) := (b1.block (w.heap.size + 1 + 1) (by rw [hsz, hsz, hsz]; omega)).trans (Cells.at3' w _ _ _)
  have s1 : w.heap.size + 3 ≤ w1.heap.size := by have := b1.size; rw [hsz, hsz, hsz] at this; omega
  have M1 : Hid (LAt 2 ESg w1 (seg (w.heap.size + 3) w1.heap.size) v1 u.segs) := by
    rw [hsz, hsz, hsz] at l1
    exact l1
  obtain ⟨Y1, x1, r1⟩ := M1.out.form
  subst r1
  clear b1 l1
  have N11 := M1
  have pa14 : w1.cell? ⟨w.heap.size, 4, none⟩ = some (.int .i64 u.mark) := cell_of_row w1 _ 4 _ _ (0, 0) Ta1.out
  have pa15 : w1.cell? ⟨w.heap.size, 5, none⟩ = some (.bool u.up) := cell_of_row w1 _ 5 _ _ (0, 0) Ta1.out
  have po10 : (w1).cell? ⟨w.heap.size + 1 + 1, 0, none⟩ = some (.int .i64 0) := cell_of_row (w1) _ 0 _ _ (0, 0) (To1.out)
  have pf10 : (w1).frozen? ⟨w.heap.size + 1 + 1, 0, none⟩ = false := frozen_of_row (w1) _ 0 _ _ (To1.out)
  have qo10 : Hid (((w1.setCell ⟨w.heap.size + 1 + 1, 0, none⟩ (.int .i64 u.start))).heap[w.heap.size + 1 + 1]? = some (.cells #[.int .i64 u.start, .int .i64 0, .int .i64 0, .slice none 0 0, .int .i64 0, .bool false] 69 (0, 0))) := heap_setCell_same (w1) (w.heap.size + 1 + 1) 0 _ _ (.int .i64 u.start) (To1.out)
  have po11 : ((w1.setCell ⟨w.heap.size + 1 + 1, 0, none⟩ (.int .i64 u.start))).cell? ⟨w.heap.size + 1 + 1, 1, none⟩ = some (.int .i64 0) := cell_of_row ((w1.setCell ⟨w.heap.size + 1 + 1, 0, none⟩ (.int .i64 u.start))) _ 1 _ _ (0, 0) (qo10.out)
  have pf11 : ((w1.setCell ⟨w.heap.size + 1 + 1, 0, none⟩ (.int .i64 u.start))).frozen? ⟨w.heap.size + 1 + 1, 1, none⟩ = false := frozen_of_row ((w1.setCell ⟨w.heap.size + 1 + 1, 0, none⟩ (.int .i64 u.start))) _ 1 _ _ (qo10.out)
  have qo11 : Hid ((((w1.setCell ⟨w.heap.size + 1 + 1, 0, none⟩ (.int .i64 u.start)).setCell ⟨w.heap.size + 1 + 1, 1, none⟩ (.int .i64 u.next))).heap[w.heap.size + 1 + 1]? = some (.cells #[.int .i64 u.start, .int .i64 u.next, .int .i64 0, .slice none 0 0, .int .i64 0, .bool false] 69 (0, 0))) := heap_setCell_same ((w1.setCell ⟨w.heap.size + 1 + 1, 0, none⟩ (.int .i64 u.start))) (w.heap.size + 1 + 1) 1 _ _ (.int .i64 u.next) (qo10.out)
  have po12 : (((w1.setCell ⟨w.heap.size + 1 + 1, 0, none⟩ (.int .i64 u.start)).setCell ⟨w.heap.size + 1 + 1, 1, none⟩ (.int .i64 u.next))).cell? ⟨w.heap.size + 1 + 1, 2, none⟩ = some (.int .i64 0) := cell_of_row (((w1.setCell ⟨w.heap.size + 1 + 1, 0, none⟩ (.int .i64 u.start)).setCell ⟨w.heap.size + 1 + 1, 1, none⟩ (.int .i64 u.next))) _ 2 _ _ (0, 0) (qo11.out)
  have pf12 : (((w1.setCell ⟨w.heap.size + 1 + 1, 0, none⟩ (.int .i64 u.start)).setCell ⟨w.heap.size + 1 + 1, 1, none⟩ (.int .i64 u.next))).frozen? ⟨w.heap.size + 1 + 1, 2, none⟩ = false := frozen_of_row (((w1.setCell ⟨w.heap.size + 1 + 1, 0, none⟩ (.int .i64 u.start)).setCell ⟨w.heap.size + 1 + 1, 1, none⟩ (.int .i64 u.next))) _ 2 _ _ (qo11.out)
  have qo12 : Hid (((((w1.setCell ⟨w.heap.size + 1 + 1, 0, none⟩ (.int .i64 u.start)).setCell ⟨w.heap.size + 1 + 1, 1, none⟩ (.int .i64 u.next)).setCell ⟨w.heap.size + 1 + 1, 2, none⟩ (.int .i64 u.roll))).heap[w.heap.size + 1 + 1]? = some (.cells #[.int .i64 u.start, .int .i64 u.next, .int .i64 u.roll, .slice none 0 0, .int .i64 0, .bool false] 69 (0, 0))) := heap_setCell_same (((w1.setCell ⟨w.heap.size + 1 + 1, 0, none⟩ (.int .i64 u.start)).setCell ⟨w.heap.size + 1 + 1, 1, none⟩ (.int .i64 u.next))) (w.heap.size + 1 + 1) 2 _ _ (.int .i64 u.roll) (qo11.out)
  have po13 : ((((w1.setCell ⟨w.heap.size + 1 + 1, 0, none⟩ (.int .i64 u.start)).setCell ⟨w.heap.size + 1 + 1, 1, none⟩ (.int .i64 u.next)).setCell ⟨w.heap.size + 1 + 1, 2, none⟩ (.int .i64 u.roll))).cell? ⟨w.heap.size + 1 + 1, 3, none⟩ = some (.slice none 0 0) := cell_of_row ((((w1.setCell ⟨w.heap.size + 1 + 1, 0, none⟩ (.int .i64 u.start)).setCell ⟨w.heap.size + 1 + 1, 1, none⟩ (.int .i64 u.next)).setCell ⟨w.heap.size + 1 + 1, 2, none⟩ (.int .i64 u.roll))) _ 3 _ _ (0, 0) (qo12.out)
  have pf13 : ((((w1.setCell ⟨w.heap.size + 1 + 1, 0, none⟩ (.int .i64 u.start)).setCell ⟨w.heap.size + 1 + 1, 1, none⟩ (.int .i64 u.next)).setCell ⟨w.heap.size + 1 + 1, 2, none⟩ (.int .i64 u.roll))).frozen? ⟨w.heap.size + 1 + 1, 3, none⟩ = false := frozen_of_row ((((w1.setCell ⟨w.heap.size + 1 + 1, 0, none⟩ (.int .i64 u.start)).setCell ⟨w.heap.size + 1 + 1, 1, none⟩ (.int .i64 u.next)).setCell ⟨w.heap.size + 1 + 1, 2, none⟩ (.int .i64 u.roll))) _ 3 _ _ (qo12.out)
  have qo13 : Hid ((((((w1.setCell ⟨w.heap.size + 1 + 1, 0, none⟩ (.int .i64 u.start)).setCell ⟨w.heap.size + 1 + 1, 1, none⟩ (.int .i64 u.next)).setCell ⟨w.heap.size + 1 + 1, 2, none⟩ (.int .i64 u.roll)).setCell ⟨w.heap.size + 1 + 1, 3, none⟩ (.slice Y1 u.segs.length x1))).heap[w.heap.size + 1 + 1]? = some (.cells #[.int .i64 u.start, .int .i64 u.next, .int .i64 u.roll, .slice Y1 u.segs.length x1, .int .i64 0, .bool false] 69 (0, 0))) := heap_setCell_same ((((w1.setCell ⟨w.heap.size + 1 + 1, 0, none⟩ (.int .i64 u.start)).setCell ⟨w.heap.size + 1 + 1, 1, none⟩ (.int .i64 u.next)).setCell ⟨w.heap.size + 1 + 1, 2, none⟩ (.int .i64 u.roll))) (w.heap.size + 1 + 1) 3 _ _ (.slice Y1 u.segs.length x1) (qo12.out)
  have po14 : (((((w1.setCell ⟨w.heap.size + 1 + 1, 0, none⟩ (.int .i64 u.start)).setCell ⟨w.heap.size + 1 + 1, 1, none⟩ (.int .i64 u.next)).setCell ⟨w.heap.size + 1 + 1, 2, none⟩ (.int .i64 u.roll)).setCell ⟨w.heap.size + 1 + 1, 3, none⟩ (.slice Y1 u.segs.length x1))).cell? ⟨w.heap.size + 1 + 1, 4, none⟩ = some (.int .i64 0) := cell_of_row (((((w1.setCell ⟨w.heap.size + 1 + 1, 0, none⟩ (.int .i64 u.start)).setCell ⟨w.heap.size + 1 + 1, 1, none⟩ (.int .i64 u.next)).setCell ⟨w.heap.size + 1 + 1, 2, none⟩ (.int .i64 u.roll)).setCell ⟨w.heap.size + 1 + 1, 3, none⟩ (.slice Y1 u.segs.length x1))) _ 4 _ _ (0, 0) (qo13.out)
  have pf14 : (((((w1.setCell ⟨w.heap.size + 1 + 1, 0, none⟩ (.int .i64 u.start)).setCell ⟨w.heap.size + 1 + 1, 1, none⟩ (.int .i64 u.next)).setCell ⟨w.heap.size + 1 + 1, 2, none⟩ (.int .i64 u.roll)).setCell ⟨w.heap.size + 1 + 1, 3, none⟩ (.slice Y1 u.segs.length x1))).frozen? ⟨w.heap.size + 1 + 1, 4, none⟩ = false := frozen_of_row (((((w1.setCell ⟨w.heap.size + 1 + 1, 0, none⟩ (.int .i64 u.start)).setCell ⟨w.heap.size + 1 + 1, 1, none⟩ (.int .i64 u.next)).setCell ⟨w.heap.size + 1 + 1, 2, none⟩ (.int .i64 u.roll)).setCell ⟨w.heap.size + 1 + 1, 3, none⟩ (.slice Y1 u.segs.length x1))) _ 4 _ _ (qo13.out)
  have qo14 : Hid (((((((w1.setCell ⟨w.heap.size + 1 + 1, 0, none⟩ (.int .i64 u.start)).setCell ⟨w.heap.size + 1 + 1, 1, none⟩ (.int .i64 u.next)).setCell ⟨w.heap.size + 1 + 1, 2, none⟩ (.int .i64 u.roll)).setCell ⟨w.heap.size + 1 + 1, 3, none⟩ (.slice Y1 u.segs.length x1)).setCell ⟨w.heap.size + 1 + 1, 4, none⟩ (.int .i64 u.mark))).heap[w.heap.size + 1 + 1]? = some (.cells #[.int .i64 u.start, .int .i64 u.next, .int .i64 u.roll, .slice Y1 u.segs.length x1, .int .i64 u.mark, .bool false] 69 (0, 0))) := heap_setCell_same (((((w1.setCell ⟨w.heap.size + 1 + 1, 0, none⟩ (.int .i64 u.start)).setCell ⟨w.heap.size + 1 + 1, 1, none⟩ (.int .i64 u.next)).setCell ⟨w.heap.size + 1 + 1, 2, none⟩ (.int .i64 u.roll)).setCell ⟨w.heap.size + 1 + 1, 3, none⟩ (.slice Y1 u.segs.length x1))) (w.heap.size + 1 + 1) 4 _ _ (.int .i64 u.mark) (qo13.out)
  have po15 : ((((((w1.setCell ⟨w.heap.size + 1 + 1, 0, none⟩ (.int .i64 u.start)).setCell ⟨w.heap.size + 1 + 1, 1, none⟩ (.int .i64 u.next)).setCell ⟨w.heap.size + 1 + 1, 2, none⟩ (.int .i64 u.roll)).setCell ⟨w.heap.size + 1 + 1, 3, none⟩ (.slice Y1 u.segs.length x1)).setCell ⟨w.heap.size + 1 + 1, 4, none⟩ (.int .i64 u.mark))).cell? ⟨w.heap.size + 1 + 1, 5, none⟩ = some (.bool false) := cell_of_row ((((((w1.setCell ⟨w.heap.size + 1 + 1, 0, none⟩ (.int .i64 u.start)).setCell ⟨w.heap.size + 1 + 1, 1, none⟩ (.int .i64 u.next)).setCell ⟨w.heap.size + 1 + 1, 2, none⟩ (.int .i64 u.roll)).setCell ⟨w.heap.size + 1 + 1, 3, none⟩ (.slice Y1 u.segs.length x1)).setCell ⟨w.heap.size + 1 + 1, 4, none⟩ (.int .i64 u.mark))) _ 5 _ _ (0, 0) (qo14.out)
  have pf15 : ((((((w1.setCell ⟨w.heap.size + 1 + 1, 0, none⟩ (.int .i64 u.start)).setCell ⟨w.heap.size + 1 + 1, 1, none⟩ (.int .i64 u.next)).setCell ⟨w.heap.size + 1 + 1, 2, none⟩ (.int .i64 u.roll)).setCell ⟨w.heap.size + 1 + 1, 3, none⟩ (.slice Y1 u.segs.length x1)).setCell ⟨w.heap.size + 1 + 1, 4, none⟩ (.int .i64 u.mark))).frozen? ⟨w.heap.size + 1 + 1, 5, none⟩ = false := frozen_of_row ((((((w1.setCell ⟨w.heap.size + 1 + 1, 0, none⟩ (.int .i64 u.start)).setCell ⟨w.heap.size + 1 + 1, 1, none⟩ (.int .i64 u.next)).setCell ⟨w.heap.size + 1 + 1, 2, none⟩ (.int .i64 u.roll)).setCell ⟨w.heap.size + 1 + 1, 3, none⟩ (.slice Y1 u.segs.length x1)).setCell ⟨w.heap.size + 1 + 1, 4, none⟩ (.int .i64 u.mark))) _ 5 _ _ (qo14.out)
  have qo15 : Hid ((((((((w1.setCell ⟨w.heap.size + 1 + 1, 0, none⟩ (.int .i64 u.start)).setCell ⟨w.heap.size + 1 + 1, 1, none⟩ (.int .i64 u.next)).setCell ⟨w.heap.size + 1 + 1, 2, none⟩ (.int .i64 u.roll)).setCell ⟨w.heap.size + 1 + 1, 3, none⟩ (.slice Y1 u.segs.length x1)).setCell ⟨w.heap.size + 1 + 1, 4, none⟩ (.int .i64 u.mark)).setCell ⟨w.heap.size + 1 + 1, 5, none⟩ (.bool u.up))).heap[w.heap.size + 1 + 1]? = some (.cells #[.int .i64 u.start, .int .i64 u.next, .int .i64 u.roll, .slice Y1 u.segs.length x1, .int .i64 u.mark, .bool u.up] 69 (0, 0))) := heap_setCell_same ((((((w1.setCell ⟨w.heap.size + 1 + 1, 0, none⟩ (.int .i64 u.start)).setCell ⟨w.heap.size + 1 + 1, 1, none⟩ (.int .i64 u.next)).setCell ⟨w.heap.size + 1 + 1, 2, none⟩ (.int .i64 u.roll)).setCell ⟨w.heap.size + 1 + 1, 3, none⟩ (.slice Y1 u.segs.length x1)).setCell ⟨w.heap.size + 1 + 1, 4, none⟩ (.int .i64 u.mark))) (w.heap.size + 1 + 1) 5 _ _ (.bool u.up) (qo14.out)
  have Uo1 := Seg.hid (qo15.out)
  have Ur1 := Seg.hid ((heap_setCell_other ((((((w1.setCell ⟨w.heap.size + 1 + 1, 0, none⟩ (.int .i64 u.start)).setCell ⟨w.heap.size + 1 + 1, 1, none⟩ (.int .i64 u.next)).setCell ⟨w.heap.size + 1 + 1, 2, none⟩ (.int .i64 u.roll)).setCell ⟨w.heap.size + 1 + 1, 3, none⟩ (.slice Y1 u.segs.length x1)).setCell ⟨w.heap.size + 1 + 1, 4, none⟩ (.int .i64 u.mark))) ⟨w.heap.size + 1 + 1, 5, none⟩ (w.heap.size + 1) (.bool u.up) (by simp)).trans ((heap_setCell_other (((((w1.setCell ⟨w.heap.size + 1 + 1, 0, none⟩ (.int .i64 u.start)).setCell ⟨w.heap.size + 1 + 1, 1, none⟩ (.int .i64 u.next)).setCell ⟨w.heap.size + 1 + 1, 2, none⟩ (.int .i64 u.roll)).setCell ⟨w.heap.size + 1 + 1, 3, none⟩ (.slice Y1 u.segs.length x1))) ⟨w.heap.size + 1 + 1, 4, none⟩ (w.heap.size + 1) (.int .i64 u.mark) (by simp)).trans ((heap_setCell_other ((((w1.setCell ⟨w.heap.size + 1 + 1, 0, none⟩ (.int .i64 u.start)).setCell ⟨w.heap.size + 1 + 1, 1, none⟩ (.int .i64 u.next)).setCell ⟨w.heap.size + 1 + 1, 2, none⟩ (.int .i64 u.roll))) ⟨w.heap.size + 1 + 1, 3, none⟩ (w.heap.size + 1) (.slice Y1 u.segs.length x1) (by simp)).trans ((heap_setCell_other (((w1.setCell ⟨w.heap.size + 1 + 1, 0, none⟩ (.int .i64 u.start)).setCell ⟨w.heap.size + 1 + 1, 1, none⟩ (.int .i64 u.next))) ⟨w.heap.size + 1 + 1, 2, none⟩ (w.heap.size + 1) (.int .i64 u.roll) (by simp)).trans ((heap_setCell_other ((w1.setCell ⟨w.heap.size + 1 + 1, 0, none⟩ (.int .i64 u.start))) ⟨w.heap.size + 1 + 1, 1, none⟩ (w.heap.size + 1) (.int .i64 u.next) (by simp)).trans ((heap_setCell_other (w1) ⟨w.heap.size + 1 + 1, 0, none⟩ (w.heap.size + 1) (.int .i64 u.start) (by simp)).trans (Tr1.out)))))))
  have Ua1 := Seg.hid ((heap_setCell_other ((((((w1.setCell ⟨w.heap.size + 1 + 1, 0, none⟩ (.int .i64 u.start)).setCell ⟨w.heap.size + 1 + 1, 1, none⟩ (.int .i64 u.next)).setCell ⟨w.heap.size + 1 + 1, 2, none⟩ (.int .i64 u.roll)).setCell ⟨w.heap.size + 1 + 1, 3, none⟩ (.slice Y1 u.segs.length x1)).setCell ⟨w.heap.size + 1 + 1, 4, none⟩ (.int .i64 u.mark))) ⟨w.heap.size + 1 + 1, 5, none⟩ w.heap.size (.bool u.up) (by simp; omega)).trans ((heap_setCell_other (((((w1.setCell ⟨w.heap.size + 1 + 1, 0, none⟩ (.int .i64 u.start)).setCell ⟨w.heap.size + 1 + 1, 1, none⟩ (.int .i64 u.next)).setCell ⟨w.heap.size + 1 + 1, 2, none⟩ (.int .i64 u.roll)).setCell ⟨w.heap.size + 1 + 1, 3, none⟩ (.slice Y1 u.segs.length x1))) ⟨w.heap.size + 1 + 1, 4, none⟩ w.heap.size (.int .i64 u.mark) (by simp; omega)).trans ((heap_setCell_other ((((w1.setCell ⟨w.heap.size + 1 + 1, 0, none⟩ (.int .i64 u.start)).setCell ⟨w.heap.size + 1 + 1, 1, none⟩ (.int .i64 u.next)).setCell ⟨w.heap.size + 1 + 1, 2, none⟩ (.int .i64 u.roll))) ⟨w.heap.size + 1 + 1, 3, none⟩ w.heap.size (.slice Y1 u.segs.length x1) (by simp; omega)).trans ((heap_setCell_other (((w1.setCell ⟨w.heap.size + 1 + 1, 0, none⟩ (.int .i64 u.start)).setCell ⟨w.heap.size + 1 + 1, 1, none⟩ (.int .i64 u.next))) ⟨w.heap.size + 1 + 1, 2, none⟩ w.heap.size (.int .i64 u.roll) (by simp; omega)).trans ((heap_setCell_other ((w1.setCell ⟨w.heap.size + 1 + 1, 0, none⟩ (.int .i64 u.start))) ⟨w.heap.size + 1 + 1, 1, none⟩ w.heap.size (.int .i64 u.next) (by simp; omega)).trans ((heap_setCell_other (w1) ⟨w.heap.size + 1 + 1, 0, none⟩ w.heap.size (.int .i64 u.start) (by simp; omega)).trans (Ta1.out)))))))
  have D1 : Hid (Below w.heap.size w ((((((w1.setCell ⟨w.heap.size + 1 + 1, 0, none⟩ (.int .i64 u.start)).setCell ⟨w.heap.size + 1 + 1, 1, none⟩ (.int .i64 u.next)).setCell ⟨w.heap.size + 1 + 1, 2, none⟩ (.int .i64 u.roll)).setCell ⟨w.heap.size + 1 + 1, 3, none⟩ (.slice Y1 u.segs.length x1)).setCell ⟨w.heap.size + 1 + 1, 4, none⟩ (.int .i64 u.mark)).setCell ⟨w.heap.size + 1 + 1, 5, none⟩ (.bool u.up))) := ((((((B1.out).setCell (p := ⟨w.heap.size + 1 + 1, 0, none⟩) (by simp; omega) (.int .i64 u.start)).setCell (p := ⟨w.heap.size + 1 + 1, 1, none⟩) (by simp; omega) (.int .i64 u.next)).setCell (p := ⟨w.heap.size + 1 + 1, 2, none⟩) (by simp; omega) (.int .i64 u.roll)).setCell (p := ⟨w.heap.size + 1 + 1, 3, none⟩) (by simp; omega) (.slice Y1 u.segs.length x1)).setCell (p := ⟨w.heap.size + 1 + 1, 4, none⟩) (by simp; omega) (.int .i64 u.mark)).setCell (p := ⟨w.heap.size + 1 + 1, 5, none⟩) (by simp; omega) (.bool u.up)
  have N11' : Hid (LAt 2 ESg ((((((w1.setCell ⟨w.heap.size + 1 + 1, 0, none⟩ (.int .i64 u.start)).setCell ⟨w.heap.size + 1 + 1, 1, none⟩ (.int .i64 u.next)).setCell ⟨w.heap.size + 1 + 1, 2, none⟩ (.int .i64 u.roll)).setCell ⟨w.heap.size + 1 + 1, 3, none⟩ (.slice Y1 u.segs.length x1)).setCell ⟨w.heap.size + 1 + 1, 4, none⟩ (.int .i64 u.mark)).setCell ⟨w.heap.size + 1 + 1, 5, none⟩ (.bool u.up)) (seg (w.heap.size + 3) w1.heap.size) (.slice Y1 u.segs.length x1) u.segs) := N11.out.keep keepsSg (fun g hg => by have := hg.1; rw [heap_setCell_other _ _ _ _ (by show _ ≠ w.heap.size + 1 + 1; omega), heap_setCell_other _ _ _ _ (by show _ ≠ w.heap.size + 1 + 1; omega), heap_setCell_other _ _ _ _ (by show _ ≠ w.heap.size + 1 + 1; omega), heap_setCell_other _ _ _ _ (by show _ ≠ w.heap.size + 1 + 1; omega), heap_setCell_other _ _ _ _ (by show _ ≠ w.heap.size + 1 + 1; omega), heap_setCell_other _ _ _ _ (by show _ ≠ w.heap.size + 1 + 1; omega)])
  obtain ⟨fx, hfx⟩ : ∃ fx : Nat → Value, fx = (fun q => if q = 0 then .int .i64 u.start else if q = 1 then .int .i64 u.next else if q = 2 then .int .i64 u.roll else if q = 3 then .slice Y1 u.segs.length x1 else if q = 4 then .int .i64 u.mark else .bool u.up) := ⟨_, rfl⟩
  have HX := Seg.hid hfx
  have Uz : Hid (((((((w1.setCell ⟨w.heap.size + 1 + 1, 0, none⟩ (.int .i64 u.start)).setCell ⟨w.heap.size + 1 + 1, 1, none⟩ (.int .i64 u.next)).setCell ⟨w.heap.size + 1 + 1, 2, none⟩ (.int .i64 u.roll)).setCell ⟨w.heap.size + 1 + 1, 3, none⟩ (.slice Y1 u.segs.length x1)).setCell ⟨w.heap.size + 1 + 1, 4, none⟩ (.int .i64 u.mark)).setCell ⟨w.heap.size + 1 + 1, 5, none⟩ (.bool u.up)).heap[w.heap.size + 1 + 1]? = some (.cells (arrRpl fx) 69 (0, 0))) := by
    show _ = _
    rw [hfx]
    exact Uo1.out
  clear hfx
  have H5a := Cells.there_of Ur1.out
  have H5 : Hid (((((((w1.setCell ⟨w.heap.size + 1 + 1, 0, none⟩ (.int .i64 u.start)).setCell ⟨w.heap.size + 1 + 1, 1, none⟩ (.int .i64 u.next)).setCell ⟨w.heap.size + 1 + 1, 2, none⟩ (.int .i64 u.roll)).setCell ⟨w.heap.size + 1 + 1, 3, none⟩ (.slice Y1 u.segs.length x1)).setCell ⟨w.heap.size + 1 + 1, 4, none⟩ (.int .i64 u.mark)).setCell ⟨w.heap.size + 1 + 1, 5, none⟩ (.bool u.up)).there (w.heap.size + 1) 0 (arrRpl fx).size) := H5a
  clear H5a
  have H4 := Seg.hid (Cells.whole (vs := arrRpl fx) Ur1.out rfl)
  have B9 := Seg.hid (Cells.below_setCells (g := w.heap.size + 1) (by omega) (arrRpl fx).toList 0 _ _ D1.out)
  have F1 : Hid (LAt 2 ESg (((((((w1.setCell ⟨w.heap.size + 1 + 1, 0, none⟩ (.int .i64 u.start)).setCell ⟨w.heap.size + 1 + 1, 1, none⟩ (.int .i64 u.next)).setCell ⟨w.heap.size + 1 + 1, 2, none⟩ (.int .i64 u.roll)).setCell ⟨w.heap.size + 1 + 1, 3, none⟩ (.slice Y1 u.segs.length x1)).setCell ⟨w.heap.size + 1 + 1, 4, none⟩ (.int .i64 u.mark)).setCell ⟨w.heap.size + 1 + 1, 5, none⟩ (.bool u.up)).setCells (w.heap.size + 1) 0 (arrRpl fx).toList) (seg w.heap.size (((((((w1.setCell ⟨w.heap.size + 1 + 1, 0, none⟩ (.int .i64 u.start)).setCell ⟨w.heap.size + 1 + 1, 1, none⟩ (.int .i64 u.next)).setCell ⟨w.heap.size + 1 + 1, 2, none⟩ (.int .i64 u.roll)).setCell ⟨w.heap.size + 1 + 1, 3, none⟩ (.slice Y1 u.segs.length x1)).setCell ⟨w.heap.size + 1 + 1, 4, none⟩ (.int .i64 u.mark)).setCell ⟨w.heap.size + 1 + 1, 5, none⟩ (.bool u.up)).setCells (w.heap.size + 1) 0 (arrRpl fx).toList).heap.size) (fx 3) u.segs) := by
    show LAt 2 ESg _ _ _ _
    rw [show fx 3 = .slice Y1 u.segs.length x1 by rw [HX.out]; rfl]
    refine (N11'.out.keep keepsSg (fun g hg => ?_)).mono growsSg (fun g hg => ⟨by have := hg.1; omega, ?_⟩)
    · have := hg.1
      rw [Cells.heap_setCells_other _ _ (by omega)]
    · rw [Cells.size_setCells]
      have := hg.2
      simpa using this
  have EX : Hid (ERpl (((((((w1.setCell ⟨w.heap.size + 1 + 1, 0, none⟩ (.int .i64 u.start)).setCell ⟨w.heap.size + 1 + 1, 1, none⟩ (.int .i64 u.next)).setCell ⟨w.heap.size + 1 + 1, 2, none⟩ (.int .i64 u.roll)).setCell ⟨w.heap.size + 1 + 1, 3, none⟩ (.slice Y1 u.segs.length x1)).setCell ⟨w.heap.size + 1 + 1, 4, none⟩ (.int .i64 u.mark)).setCell ⟨w.heap.size + 1 + 1, 5, none⟩ (.bool u.up)).setCells (w.heap.size + 1) 0 (arrRpl fx).toList) (seg w.heap.size (((((((w1.setCell ⟨w.heap.size + 1 + 1, 0, none⟩ (.int .i64 u.start)).setCell ⟨w.heap.size + 1 + 1, 1, none⟩ (.int .i64 u.next)).setCell ⟨w.heap.size + 1 + 1, 2, none⟩ (.int .i64 u.roll)).setCell ⟨w.heap.size + 1 + 1, 3, none⟩ (.slice Y1 u.segs.length x1)).setCell ⟨w.heap.size + 1 + 1, 4, none⟩ (.int .i64 u.mark)).setCell ⟨w.heap.size + 1 + 1, 5, none⟩ (.bool u.up)).setCells (w.heap.size + 1) 0 (arrRpl fx).toList).heap.size) fx u) := ⟨by rw [HX.out]; rfl, by rw [HX.out]; rfl, by rw [HX.out]; rfl, F1.out, by rw [HX.out]; rfl, by rw [HX.out]; rfl⟩
  have ON := Seg.hid (oneRpl EX.out)
  clear Ta1 Tr1 To1 Ua1 M1
  go_upto_region 5 with fail
  clear po10 pf10 po11 pf11 po12 pf12 po13 pf13 po14 pf14 po15 pf15
  generalize ((((((w1.setCell ⟨w.heap.size + 1 + 1, 0, none⟩ (.int .i64 u.start)).setCell ⟨w.heap.size + 1 + 1, 1, none⟩ (.int .i64 u.next)).setCell ⟨w.heap.size + 1 + 1, 2, none⟩ (.int .i64 u.roll)).setCell ⟨w.heap.size + 1 + 1, 3, none⟩ (.slice Y1 u.segs.length x1)).setCell ⟨w.heap.size + 1 + 1, 4, none⟩ (.int .i64 u.mark)).setCell ⟨w.heap.size + 1 + 1, 5, none⟩ (.bool u.up)) = wz at *
  go_wp2_with (first | (refine wpList_load_row rfl 69 _ rfl (w.heap.size + 1 + 1) rfl _ _ _ _ Uz.out Try.underlying69 rfl infoRpl ?_) | (refine wpList_store_mid rfl 69 _ _ rfl (w.heap.size + 1) 0 (arrRpl fx) rfl rfl H5.out infoRpl ON.out ?_))
  exact bodyPost_ret (v := .agg (arrRpl fx)) (results_cell_row rfl _ _ (w.heap.size + 1) _ _ _ _ rfl H4.out Try.underlying69 rfl infoRpl) rfl ⟨_, rfl, ⟨fx, rfl, EX.out⟩, B9.out⟩
set_option maxHeartbeats 1600000 in
theorem eqReplica_any (v v' : Value) (u : Rpl) (w : World) (S S' : Nat → Prop) (hv : RplAt w S v u) (hv' : RplAt w S' v' u) (hS : ∀ g, S g → g < w.heap.size) (hS' : ∀ g, S' g → g < w.heap.size) :
    Calls Try.prog 73 #[v, v'] w fun e w' => e = .returned (.bool true) ∧ Below w.heap.size w w' := by
  obtain ⟨f, rfl, y0, y1, y2, y3, y4, y5⟩ := hv
  obtain ⟨f', rfl, y0', y1', y2', y3', y4', y5'⟩ := hv'
  try simp only [arrRpl]
  rw [show f 0 = _ from y0]
  clear y0
  rw [show f 1 = _ from y1]
  clear y1
  rw [show f 2 = _ from y2]
  clear y2
  obtain ⟨A3, c3, g3⟩ := y3.form
  rw [g3] at y3 ⊢
  have H3 := Seg.hid y3
  clear y3 g3
  rw [show f 4 = _ from y4]
  clear y4
  rw [show f 5 = _ from y5]
  clear y5
  try simp only [arrRpl]
  rw [show f' 0 = _ from y0']
  clear y0'
  rw [show f' 1 = _ from y1']
  clear y1'
  rw [show f' 2 = _ from y2']
  clear y2'
  obtain ⟨A3', c3', g3'⟩ := y3'.form
  rw [g3'] at y3' ⊢
  have H3' := Seg.hid y3'
  clear y3' g3'
  rw [show f' 4 = _ from y4']
  clear y4'
  rw [show f' 5 = _ from y5']
  clear y5'
  have G0 : Hid (LgAt w S (.agg #[.int .i64 u.start, .int .i64 u.next, .int .i64 u.roll, .slice A3 u.segs.length c3]) (⟨u.start, u.next, u.roll, u.segs⟩ : Lg)) := ⟨fun q => if q = 0 then .int .i64 u.start else if q = 1 then .int .i64 u.next else if q = 2 then .int .i64 u.roll else .slice A3 u.segs.length c3, rfl, rfl, rfl, rfl, H3.out⟩
  have G0' : Hid (LgAt w S' (.agg #[.int .i64 u.start, .int .i64 u.next, .int .i64 u.roll, .slice A3' u.segs.length c3']) (⟨u.start, u.next, u.roll, u.segs⟩ : Lg)) := ⟨fun q => if q = 0 then .int .i64 u.start else if q = 1 then .int .i64 u.next else if q = 2 then .int .i64 u.roll else .slice A3' u.segs.length c3', rfl, rfl, rfl, rfl, H3'.out⟩
  go_enter Try.func73, Try.ntmps73
  go_wp2_with fail
  refine (eqLog_any _ _ (⟨u.start, u.next, u.roll, u.segs⟩ : Lg) ((w.alloc _).alloc _) S S' (G0.out.below (below2 w _ _) hS) (G0'.out.below (below2 w _ _) hS') (fun g hg => by rw [hsz, hsz]; have := hS g hg; omega) (fun g hg => by rw [hsz, hsz]; have := hS' g hg; omega)).mono ?_
  rintro e w1 ⟨rfl, b1⟩
  have B1 := Seg.hid (chain (below2 w _ _) b1)
  have Ta1 : Hid (w1.heap[w.heap.size]? = some (.cells #[.int .i64 u.start, .int .i64 u.next, .int .i64 u.roll, .slice A3 u.segs.length c3, .int .i64 u.mark, .bool u.up] 69 (0, 0))) := (b1.block w.heap.size (by rw [hsz, hsz]; omega)).trans (at2z w _ _)
  have Tb1 : Hid (w1.heap[w.heap.size + 1]? = some (.cells #[.int .i64 u.start, .int .i64 u.next, .int .i64 u.roll, .slice A3' u.segs.length c3', .int .i64 u.mark, .bool u.up] 69 (0, 0))) := (b1.block (w.heap.size + 1) (by rw [hsz, hsz]; omega)).trans (at2y w _ _)
  have s1 : w.heap.size + 1 < w1.heap.size := (Array.getElem?_eq_some_iff.1 Tb1.out).1
  have pa14 : w1.cell? ⟨w.heap.size, 4, none⟩ = some (.int .i64 u.mark) := cell_of_row w1 _ 4 _ _ (0, 0) Ta1.out
  have pb14 : w1.cell? ⟨w.heap.size + 1, 4, none⟩ = some (.int .i64 u.mark) := cell_of_row w1 _ 4 _ _ (0, 0) Tb1.out
  have pa15 : w1.cell? ⟨w.heap.size, 5, none⟩ = some (.bool u.up) := cell_of_row w1 _ 5 _ _ (0, 0) Ta1.out
  have pb15 : w1.cell? ⟨w.heap.size + 1, 5, none⟩ = some (.bool u.up) := cell_of_row w1 _ 5 _ _ (0, 0) Tb1.out
  clear b1
  go_wp2
  go_ret
  exact ⟨rfl, B1.out⟩
end Go.Proofs.Yticihnoekffelaa.Ls
