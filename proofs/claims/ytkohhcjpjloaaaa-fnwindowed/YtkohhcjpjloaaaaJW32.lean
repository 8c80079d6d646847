/- Several rows of the call's own that grow beside each other; The law's marks on a list of numbers of the call's own; the look at these. -/
import Derived.Test.YtkohhcjpjloaaaaJW31
namespace Go.Proofs.Ytkohhcjpjloaaaa.Ow
set_option maxRecDepth 8000
open Go.RowKit
open Recs
open Ls
set_option linter.unusedVariables false
structure Ent where
  ty : Nat
  sz : Nat
  v : Value
  n : Nat
  xs : List Value
  deriving Inhabited
theorem owns_keep {w w' : World} {B e s n : Nat} {v : Value} {xs : List Value} (h : w.ownsRow B e s v n xs) (hk : ∀ x, v.ownBlock = some x → w'.heap[x]? = w.heap[x]?) : w'.ownsRow B e s v n xs := by
  refine ⟨h.1, ?_⟩
  rcases h.2 with hn | ⟨g, cap, cur, rfl, hb, hg, rest⟩
  · exact .inl hn
  · exact .inr ⟨g, cap, cur, rfl, hb, by rw [hk g rfl]; exact hg, rest⟩
structure Rws (B : Nat) (w : World) (L : List Ent) : Prop where
  own : ∀ i, i < L.length → w.ownsRow B (L.getD i default).ty (L.getD i default).sz (L.getD i default).v (L.getD i default).n (L.getD i default).xs
  apart : ∀ i j, i < L.length → j < L.length → i ≠ j → ∀ x, (L.getD i default).v.ownBlock = some x → (L.getD j default).v.ownBlock ≠ some x
theorem Rws.blk {B : Nat} {w : World} {L : List Ent} (h : Rws B w L) (i : Nat) (hi : i < L.length) (x : Nat) (hx : (L.getD i default).v.ownBlock = some x) : B ≤ x ∧ x < w.heap.size := World.ownsRow.lt (h.own i hi) x hx
theorem Rws.keep {B : Nat} {w w' : World} {L : List Ent} (h : Rws B w L) (hk : ∀ x, B ≤ x → x < w.heap.size → w'.heap[x]? = w.heap[x]?) : Rws B w' L :=
  ⟨fun i hi => owns_keep (h.own i hi) (fun x hx => hk x (h.blk i hi x hx).1 (h.blk i hi x hx).2), h.apart⟩
theorem Rws.push {B : Nat} {wr w8 w9 : World} {L : List Ent} {i : Nat} {e : Ent} {g cap H : Nat} (h : Rws B wr L) (hi : i < L.length) (h8 : ∀ x, x < wr.heap.size → w8.heap[x]? = wr.heap[x]?) (s8 : wr.heap.size ≤ w8.heap.size) (gr : w8.grownBy w9 (L.getD i default).v.ownBlock)
    (hown : w9.ownsRow B e.ty e.sz e.v e.n e.xs) (hv : e.v = .slice (some ⟨g, 0, none⟩) e.n cap) (hat : (L.getD i default).v.ownBlock = some g ∨ g = H) (hH : wr.heap.size ≤ H) : Rws B w9 (L.set i e) := by
  have get : ∀ j, j ≠ i → (L.set i e).getD j default = L.getD j default := fun j hj => getD_set_other e hj
  have geti : (L.set i e).getD i default = e := getD_set_same e hi
  have hvb : e.v.ownBlock = some g := by rw [hv]; rfl
  have new : ∀ j, j < L.length → j ≠ i → (L.getD j default).v.ownBlock ≠ some g := fun j hj hji hx => by
    rcases hat with h1 | h1
    · exact h.apart i j hi hj (Ne.symm hji) g h1 hx
    · have := (h.blk j hj g hx).2
      omega
  refine ⟨fun j hj => ?_, fun j k hj hk hjk x hx hx' => ?_⟩
  · rw [List.length_set] at hj
    by_cases e1 : j = i
    · subst e1
      rw [geti]; exact hown
    · rw [get j e1]
      refine owns_keep (h.own j hj) (fun x hx => ?_)
      have hb := h.blk j hj x hx
      exact (gr.block x (by omega) (fun e2 => h.apart i j hi hj (Ne.symm e1) x e2.symm hx)).trans (h8 x hb.2)
  · rw [List.length_set] at hj hk
    by_cases e1 : j = i
    · subst e1
      rw [geti, hvb] at hx
      rw [get k (Ne.symm hjk)] at hx'
      rw [← hx] at hx'
      exact new k hk (Ne.symm hjk) hx'
    · rw [get j e1] at hx
      by_cases e2 : k = i
      · subst e2
        rw [geti, hvb] at hx'
        rw [← hx'] at hx
        exact new j hj e1 hx
      · rw [get k e2] at hx'
        exact h.apart j k hj hk hjk x hx hx'
/-- A row of numbers is a list of the call's own. -/
theorem ints_own {w : World} {B n : Nat} {v : Value} {ns : List Int} (h : w.ownsRow B 3 1 v n (ns.map (Value.int .i64))) (hl : ns.length ≤ 1048576) : IntsOwn w (fun y => v.ownBlock = some y) v ns := by
  have hn : ns.length = n := by have := h.1; simpa using this
  subst hn
  refine ⟨hl, ?_⟩
  rcases h.2 with ⟨rfl, h0⟩ | ⟨g, cap, cur, rfl, hb, hg, hnc, hcm, hcs, htake⟩
  · exact ⟨none, 0, by rw [h0], .inl h0⟩
  · have e : (List.range (ns.length * 1)).map (fun q => Value.int .i64 (ns.getD q default)) = ns.map (Value.int .i64) := List.ext_getElem (by simp) fun i h1 h2 => by
      have hi : i < ns.length := by simpa using h2
      simp [hi]
    refine ⟨_, cap, rfl, .inr ⟨g, fun q => .int .i64 (ns.getD q default), fun _ _ => False, rfl, rfl, fun _ _ _ h => h.elim, ⟨?_, rfl, fun i hi => ?_, fun _ _ _ h => h.elim, fun _ _ _ _ _ _ h => h.elim⟩⟩⟩
    · unfold MineC
      rw [e]
      exact ⟨h.1, .inr ⟨g, cap, cur, rfl, Nat.le_refl _, hg, hnc, hcm, hcs, htake⟩⟩
    · show Value.int .i64 _ = _
      simp
end Go.Proofs.Ytkohhcjpjloaaaa.Ow
namespace Go.Proofs.Ytkohhcjpjloaaaa.Ow
set_option maxRecDepth 8000
open Go.RowKit
open Recs
open Ls
set_option linter.unusedVariables false
end Go.Proofs.Ytkohhcjpjloaaaa.Ow
