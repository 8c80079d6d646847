/- The law's look at marks on numbers; Rows of numbers of the call's own: slices.Clone over numbers, and what an append of a whole list leaves. -/
import Derived.WalkLawsBesides
import Derived.Deep.AppendLies
import Derived.Deep.Cut
import Derived.Test.YtkohhcjpjloaaaaJW32
import Derived.Test.YtkohhcjpjloaaaaJW25
import Derived.Test.YtkohhcjpjloaaaaJW02
import Derived.Test.YtkohhcjpjloaaaaJW24
namespace Go.Proofs.Ytkohhcjpjloaaaa.Ow
set_option maxRecDepth 8000
open Go.RowKit
open Recs
open Ls
set_option linter.unusedVariables false
end Go.Proofs.Ytkohhcjpjloaaaa.Ow
namespace Go.Proofs.Ytkohhcjpjloaaaa.IrA
set_option maxRecDepth 8000
open Go.RowKit
open Ls Lp RkP
open Recs (hsz below1 below2 below3 chain)
set_option linter.unusedVariables false
theorem news_of {w w' : World} {S : Nat → Prop} {A : Option Addr} {c : Nat} {us : List Int} (h : IntsAt w S (.slice A us.length c) us) (hS : ∀ g, S g → w'.heap[g]? = w.heap[g]?) : us.length ≠ 0 → ∃ ad, A = some ad ∧ ∀ j u, (us.map (Value.int .i64))[j]? = some u → w'.cell? (ad.add j) = some u := fun h0 => by
  obtain ⟨hn, A', c', e, h⟩ := h
  cases e
  obtain ⟨g, o, F, rfl, hg, hc, hcell, hel⟩ := h.resolve_left h0
  refine ⟨_, rfl, fun j u hu => ?_⟩
  have hj : j < us.length := by
    have := (List.getElem?_eq_some_iff.1 hu).1
    simpa using this
  have e : F j 0 = .int .i64 (us.getD j default) := hel j hj
  have cc := hcell j hj 0 (by omega)
  rw [e] at cc
  have hu' : u = .int .i64 (us.getD j default) := by simpa [hj] using hu.symm
  have ead : Addr.add ⟨g, o, none⟩ j = ⟨g, o + j, none⟩ := by
    by_cases h0 : j = 0
    · subst h0; rfl
    · simp [Addr.add, h0]
  rw [hu', ead, World.cell?_of_block (w := w) (a := ⟨g, o + j, none⟩) (hS g hg)]
  simpa using cc
theorem row_all {w : World} {B : Nat} {v : Value} {us : List Int} (h : w.ownsRow B 3 1 v (0 + us.length) ([] ++ us.map (Value.int .i64))) : NRow w B v us := by
  rw [Nat.zero_add, List.nil_append] at h
  exact h
theorem row_more {w : World} {B : Nat} {v : Value} {us vs : List Int} (h : w.ownsRow B 3 1 v (us.length + vs.length) (us.map (Value.int .i64) ++ vs.map (Value.int .i64))) : NRow w B v (us ++ vs) := by
  unfold NRow
  rw [List.length_append, List.map_append]
  exact h
theorem empty_row (w : World) : NRow (w.alloc (.cells #[] 3 (0, 0))) w.heap.size (.slice (some ⟨w.heap.size, 0, none⟩) 0 0) [] :=
  ⟨rfl, .inr ⟨w.heap.size, 0, #[], rfl, Nat.le_refl _, heap_alloc_new _ _, by simp, by unfold maxLen; omega, by simp, by simp⟩⟩
theorem own {w : World} {B : Nat} {v : Value} {ns : List Int} (h : NRow w B v ns) (hl : ns.length ≤ 1048576) : Ow.IntsOwn w (seg B w.heap.size) v ns :=
  Ow.LOwn.mono (Ow.ints_own h hl) (fun x hx => World.ownsRow.lt h x hx)
theorem row_weak {w : World} {B B' : Nat} {v : Value} {ns : List Int} (h : NRow w B v ns) (hb : B' ≤ B) : NRow w B' v ns :=
  ⟨h.1, h.2.imp id (fun ⟨g, cap, cur, h1, h2, h3⟩ => ⟨g, cap, cur, h1, by omega, h3⟩)⟩
theorem row_lt {w : World} {B : Nat} {v : Value} {ns : List Int} (h : NRow w B v ns) : ∀ y, v.ownBlock = some y → B ≤ y ∧ y < w.heap.size := fun y hy => World.ownsRow.lt h y hy
end Go.Proofs.Ytkohhcjpjloaaaa.IrA
