/- What every range over batchesFrom wants. -/
import Derived.Scope
import Derived.Test.YteaiceeapambdaaBfI
import Derived.Test.YteaiceeapambdaaLogW
import Derived.BigQuiet
namespace Go.Proofs.Yteaiceeapambdaa.Of
set_option maxRecDepth 8000
open Go.RowKit Go.Shelf
open Recs
open Bats SegW Segs LogW BfP BfI
open LgP (logOk)
set_option linter.unusedVariables false
attribute [local go_sem] Oper.semAt_some
theorem at1 (w : World) (o : Obj) : (w.alloc o).heap[w.heap.size]? = some o := heap_alloc_new _ _
theorem four {w : World} {g ty : Nat} {t : Lg} {v : Value} (h : w.heap[g]? = some (.cells (logArr t v) ty (0, 0))) : w.cell? ⟨g, 0, none⟩ = some (.int .i64 t.start) ∧ w.cell? ⟨g, 1, none⟩ = some (.int .i64 t.next) ∧ w.cell? ⟨g, 2, none⟩ = some (.int .i64 t.roll) ∧ w.cell? ⟨g, 3, none⟩ = some v :=
  ⟨cell_of_row w g 0 _ _ (0, 0) h, cell_of_row w g 1 _ _ (0, 0) h, cell_of_row w g 2 _ _ (0, 0) h, cell_of_row w g 3 _ _ (0, 0) h⟩
theorem flat_count : ∀ ss : List Sg, (flatB ss).length = LgP.many ss
  | [] => rfl
  | s :: t => by simp only [flatB, List.length_append, flat_count t, LgP.many]
theorem okB_flat {ss : List Sg} {f e f' : Int} (h : LgP.segs f e ss = some f') : ∀ b ∈ flatB ss, BOk.batOk b = true := by
  have key : ∀ (ss : List Sg) (f e f' : Int), LgP.segs f e ss = some f' → ∀ b ∈ flatB ss, BOk.batOk b = true := by
    intro ss
    induction ss with
    | nil => intro f e f' _ b hb; simp [flatB] at hb
    | cons s t ih =>
      intro f e f' h b hb
      obtain ⟨h1, h2, f1, e1, h3, h4⟩ := SrP.segs_head h
      simp only [flatB, List.mem_append] at hb
      rcases hb with hb | hb
      · obtain ⟨k, hk, rfl⟩ := List.getElem_of_mem hb
        have := SrP.bats_ok _ _ _ _ _ h3 k hk
        rw [List.getD_eq_getElem?_getD, List.getElem?_eq_getElem hk] at this
        simpa using this
      · exact ih f1 e1 f' h4 b hb
  exact key ss f e f' h
theorem ok_all {l : Lg} (h : logOk l = true) : ∃ f, LgP.segs 0 0 l.segs = some f ∧ f ≤ l.next ∧ l.segs.length ≤ 60 ∧ 0 ≤ l.start ∧ l.start ≤ l.next ∧ l.next ≤ 1000000000 ∧ LgP.many l.segs ≤ 400 := by
  unfold LgP.logOk LgP.bounds LgP.counts LgP.stands at h
  simp only [Bool.and_eq_true, decide_eq_true_eq, LgP.inR] at h
  obtain ⟨⟨⟨a1, a2⟩, ⟨a3, a4⟩, a5⟩, ⟨a6, a7⟩, a8⟩ := h
  cases hs : LgP.segs 0 0 l.segs with
  | none => rw [hs] at a8; cases a8
  | some f =>
    rw [hs] at a8
    exact ⟨f, rfl, by simpa using a8, a6, a3, a4, a2, a7⟩
theorem batchesFrom_any (v : Value) (x : Int) (A : Option Addr) (m c : Nat) (w : World) (hv : v = .slice A m c) :
    Calls Try.prog 25 #[v, .int .i64 x] w fun e w' => e = .returned (.func (.func 36) #[] #[.pointer (some ⟨w.heap.size, 0, none⟩), .pointer (some ⟨w.heap.size + 1, 0, none⟩)]) ∧ w'.cell? ⟨w.heap.size, 0, none⟩ = some v ∧ w'.cell? ⟨w.heap.size + 1, 0, none⟩ = some (.int .i64 x) ∧ Below w.heap.size w w' ∧ w'.heap.size = w.heap.size + 2 := by
  subst hv
  go_enter Try.func25, Try.ntmps25
  go_wp2_with fail
  go_ret
  refine ⟨rfl, ?_, ?_, below2 w _ _, by rw [hsz, hsz]⟩
  · exact cell_of_row _ w.heap.size 0 _ _ (0, 0) (((below1 _ _).block _ (by rw [hsz]; omega)).trans (heap_alloc_new _ _))
  · have := heap_alloc_new (w.alloc (.cells #[.slice A m c] 28 (0, 0))) (.cells #[.int .i64 x] 3 (0, 0))
    rw [hsz] at this
    exact cell_of_row _ (w.heap.size + 1) 0 _ _ (0, 0) this
theorem kp_of_below {V : Nat → Prop} {n₀ : Nat} {W W' : World} (h : Below W.heap.size W W') : Kp V n₀ W W' := ⟨h.os, h.tape, h.output, h.size, fun k hk _ => h.block k hk⟩
theorem keeps_of_below {B : Nat} {W W' : World} (h : Below W.heap.size W W') : KeepsFrom B W W' := ⟨h.size, fun k o _ hk _ => (h.block k (Array.getElem?_eq_some_iff.1 hk).1).trans hk⟩
theorem block_own {β : Type} (B : Nat) (g ty : Nat) (cs : Array Value) : OwnFrom B (fun (_ : β) W => W.heap[g]? = some (.cells cs ty (0, 0))) := fun _ W W' row hs hg hr => (hg.block g (Array.getElem?_eq_some_iff.1 hs).1 (fun e => by
  obtain ⟨_, o, ho, hc⟩ := hr g e.symm
  rw [hs] at ho
  cases ho
  cases hc)).trans hs
end Go.Proofs.Yteaiceeapambdaa.Of
