/- The law's look at marks on numbers; Rows of numbers of the call's own: slices.Clone over numbers, and what an append of a whole list leaves. -/
import Derived.WalkLawsBesides
import Derived.Deep.AppendLies
import Derived.Deep.Cut
import Derived.Test.YtkibaimemomjpaaJQ19
import Derived.Test.YtkibaimemomjpaaJQ17
import Derived.Test.YtkibaimemomjpaaJQ18
import Derived.Test.YtkibaimemomjpaaJQ04
namespace Go.Proofs.Ytkibaimemomjpaa.Ow
set_option maxRecDepth 8000
open Go.RowKit
open Recs
open Ls
set_option linter.unusedVariables false
theorem heldIntS_none (A : Option Addr) (c : Nat) (k : Int) (w : World) : Calls Try.prog 50 #[.slice A 0 c, .int .i64 k] w fun e w' => e = .returned (.int .i64 k) ∧ Below w.heap.size w w' := by
  go_enter Try.func50, Try.ntmps50
  go_wp2
  go_loop [1, 5] (fun x i => i = .int .i64 0 ∧ x = .int .i64 k) (fun _ _ => 0)
  case atStart => exact ⟨rfl, rfl⟩
  case round =>
    obtain ⟨rfl, rfl⟩ := hrel
    go_wp2
    go_ret
    exact ⟨rfl, Below.refl _ _⟩
set_option maxHeartbeats 800000 in
theorem heldIntS_core (g o n c k : Nat) (w : World) (hc : n ≤ c) (hn : n ≤ 9223372036854775807) (hk1 : k + n ≤ 4000000000000000000)
    (ha : ∀ i, i < n → w.cell? ⟨g, o + i, none⟩ = some (.int .i64 ((k : Int) + i))) :
    Calls Try.prog 50 #[.slice (some ⟨g, o, none⟩) n c, .int .i64 k] w fun e w' => e = .returned (.int .i64 ((k : Int) + n)) ∧ Below w.heap.size w w' := by
  have HA := Seg.hid ha
  clear ha
  go_enter Try.func50, Try.ntmps50
  go_wp2
  go_loop [1, 5] (fun x i => ∃ (j : Nat), j ≤ n ∧ i = .int .i64 j ∧ x = .int .i64 ((k : Int) + j)) (fun _ i => n - (intOf i).toNat)
  case atStart => exact ⟨0, Nat.zero_le _, rfl, by simp⟩
  case round =>
    obtain ⟨j, hj, rfl, rfl⟩ := hrel
    by_cases hlt : j < n
    · have c1 := HA.out j hlt
      have h0 : (0 : Int) ≤ (j : Int) := by omega
      have h1 : (j : Int) < (n : Int) := by omega
      go_wp2
      go_round
      case rel => exact ⟨j + 1, by omega, by go_num, by go_num⟩
      case measure => simp [intOf]; omega
    · have : j = n := by omega
      subst this
      go_wp2
      go_ret
      exact ⟨rfl, Below.refl _ _⟩
theorem heldIntS_at (x : Int) (k : Nat) (hx : x = (k : Int)) (S : Nat → Prop) (ns : List Int) (w : World) {v : Value} (hk1 : k + tot nI ns ≤ 4000000000000000000) (hv : IntsAt w S v (mL mI nI k ns)) :
    Calls Try.prog 50 #[v, .int .i64 x] w fun e w' => e = .returned (.int .i64 ((k + tot nI ns : Nat) : Int)) ∧ Below w.heap.size w w' := by
  subst hx
  obtain ⟨hn, A, c, rfl, h⟩ := hv
  rw [mL_len] at hn h ⊢
  rw [nI_tot] at hk1 ⊢
  by_cases hz : ns.length = 0
  · rw [hz]
    exact heldIntS_none A c k w
  obtain ⟨g, o, F, rfl, hg, hc, hcell, hel⟩ := h.resolve_left hz
  refine (heldIntS_core g o ns.length c k w hc hn hk1 (fun i hi => ?_)).mono fun e w' ⟨h1, h2⟩ => ⟨by rw [h1]; simp, h2⟩
  have := int_cell hcell hel i hi
  rw [this, mL_get mI nI hi, nI_tot, List.length_take, Nat.min_eq_left (Nat.le_of_lt hi), mI]
  simp
end Go.Proofs.Ytkibaimemomjpaa.Ow
namespace Go.Proofs.Ytkibaimemomjpaa.IrA
set_option maxRecDepth 8000
open Go.RowKit
open Ls Lp RkP
open Recs (hsz below1 below2 below3 chain)
set_option linter.unusedVariables false
theorem news_of {w w' : World} {S : Nat → Prop} {A : Option Addr} {c : Nat} {us : List Int} (h : IntsAt w S (.slice A us.length c) us) (hS : ∀ g, S g → w'.heap[g]? = w.heap[g]?) : us.length ≠ 0 → ∃ ad, A = some ad ∧ ∀ j u, (us.map (Value.int .i64))[j]? = some u → w'.cell? (ad.add j) = some u := fun h0 => by
  obtain ⟨hn, A', c', e, h⟩ := h
  cases e
  obtain ⟨g, o, F, rfl, hg, hc, hcell, hel⟩ := h.resolve_left h0
  refine ⟨_, rfl, fun j u hu => ?_⟩
  have hj : j < us.length := by
    have := (List.getElem?_eq_some_iff.1 hu).1
    simpa using this
  have e : F j 0 = .int .i64 (us.getD j default) := hel j hj
  have cc := hcell j hj 0 (by omega)
  rw [e] at cc
  have hu' : u = .int .i64 (us.getD j default) := by simpa [hj] using hu.symm
  have ead : Addr.add ⟨g, o, none⟩ j = ⟨g, o + j, none⟩ := by
    by_cases h0 : j = 0
    · subst h0; rfl
    · simp [Addr.add, h0]
  rw [hu', ead, World.cell?_of_block (w := w) (a := ⟨g, o + j, none⟩) (hS g hg)]
  simpa using cc
theorem row_all {w : World} {B : Nat} {v : Value} {us : List Int} (h : w.ownsRow B 3 1 v (0 + us.length) ([] ++ us.map (Value.int .i64))) : NRow w B v us := by
  rw [Nat.zero_add, List.nil_append] at h
  exact h
theorem row_more {w : World} {B : Nat} {v : Value} {us vs : List Int} (h : w.ownsRow B 3 1 v (us.length + vs.length) (us.map (Value.int .i64) ++ vs.map (Value.int .i64))) : NRow w B v (us ++ vs) := by
  unfold NRow
  rw [List.length_append, List.map_append]
  exact h
theorem empty_row (w : World) : NRow (w.alloc (.cells #[] 3 (0, 0))) w.heap.size (.slice (some ⟨w.heap.size, 0, none⟩) 0 0) [] :=
  ⟨rfl, .inr ⟨w.heap.size, 0, #[], rfl, Nat.le_refl _, heap_alloc_new _ _, by simp, by unfold maxLen; omega, by simp, by simp⟩⟩
theorem own {w : World} {B : Nat} {v : Value} {ns : List Int} (h : NRow w B v ns) (hl : ns.length ≤ 1048576) : Ow.IntsOwn w (seg B w.heap.size) v ns :=
  Ow.LOwn.mono (Ow.ints_own h hl) (fun x hx => World.ownsRow.lt h x hx)
theorem row_weak {w : World} {B B' : Nat} {v : Value} {ns : List Int} (h : NRow w B v ns) (hb : B' ≤ B) : NRow w B' v ns :=
  ⟨h.1, h.2.imp id (fun ⟨g, cap, cur, h1, h2, h3⟩ => ⟨g, cap, cur, h1, by omega, h3⟩)⟩
theorem row_lt {w : World} {B : Nat} {v : Value} {ns : List Int} (h : NRow w B v ns) : ∀ y, v.ownBlock = some y → B ≤ y ∧ y < w.heap.size := fun y hy => World.ownsRow.lt h y hy
set_option maxHeartbeats 1600000 in
theorem clone_any (A : Option Addr) (c : Nat) (us : List Int) (w : World) (S : Nat → Prop) (h : IntsAt w S (.slice A us.length c) us) (hS : ∀ g, S g → g < w.heap.size) (hl : us.length ≤ 1048576) :
    Calls Try.prog 97 #[.slice A us.length c] w fun e w' => ∃ v, e = .returned v ∧ NRow w' w.heap.size v us ∧ Below w.heap.size w w' := by
  have H := Seg.hid h
  clear h
  cases A with
  | none =>
    have hz : us.length = 0 := by
      obtain ⟨_, A', c', h1, h2⟩ := H.out
      simp only [Value.slice.injEq, true_and] at h1
      obtain ⟨rfl, rfl⟩ := h1
      rcases h2 with h2 | ⟨g, o, F, h3, _⟩
      · exact h2
      · cases h3
    obtain rfl := List.length_eq_zero_iff.1 hz
    have hq := Lib.run_eql_slice_nil (P := Try.prog) w 27 3 none 0 c 0 0 Try.underlying27
    go_enter Try.func97, Try.ntmps97
    go_wp2
    go_ret
    exact ⟨_, rfl, World.ownsRow_nil w _ _ _, Below.refl _ _⟩
  | some ad =>
    obtain ⟨i0, hi, hz0, hz1, hz2⟩ := info_parts infoI
    have OW : Hid ((w.alloc (.cells #[] 3 (0, 0))).ownsRow w.heap.size 3 1 (.slice (some ⟨w.heap.size, 0, none⟩) 0 0) 0 []) := empty_row w
    have NW : Hid (us.length ≠ 0 → ∃ ad', some ad = some ad' ∧ ∀ j u, (us.map (Value.int .i64))[j]? = some u → (w.alloc (.cells #[] 3 (0, 0))).cell? (ad'.add j) = some u) := news_of H.out (fun g hg => (below1 w _).block g (hS g hg))
    have hq := Lib.run_eql_slice_nil (P := Try.prog) w 27 3 (some ad) us.length c 0 0 Try.underlying27
    go_enter Try.func97, Try.ntmps97
    go_wp2_with (at_builtin; refine AppW.wpList_append_all _ rfl _ _ 27 rfl w.heap.size 3 i0 _ 1 8 Try.underlying27 hi hz0 hz1 hz2 rfl (by decide) (.slice (some ⟨w.heap.size, 0, none⟩) 0 0) 0 [] rfl OW.out (some ad) us.length c (us.map (Value.int .i64)) rfl (by simp) NW.out (by simp [Value.oneCell']) (by unfold maxLen; omega) (by omega) (by rw [hsz]; omega) ?_; intro v' w2 hown hgr hvb; have OA : Hid (NRow w2 w.heap.size v' us) := row_all hown; have B2 : Hid (Below w.heap.size w w2) := (below1 w _).grown hgr (by rw [hsz]; omega) (fun k hk => by simp only [Value.ownBlock, Option.some.injEq] at hk; omega); clear hown hgr hvb)
    go_ret
    exact ⟨_, rfl, OA.out, B2.out⟩
end Go.Proofs.Ytkibaimemomjpaa.IrA
