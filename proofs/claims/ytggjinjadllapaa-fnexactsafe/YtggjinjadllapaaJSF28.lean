/- What is safe in a Part; a list of Batches that grows in a range over a function, each with Records that lay; An append inside a fence, at a step of a region that draws its order: out of what its run answers. -/
import Derived.Deep.AppendLies
import Derived.OrdersIn
import Derived.TacticsIn
import Derived.Test.YtggjinjadllapaaJSF18
import Derived.Test.YtggjinjadllapaaJSF27
namespace Go.Proofs.Ytggjinjadllapaa.SfQ
set_option maxRecDepth 8000
open Go.RowKit Go.Shelf
open Ls (Prt Rpl)
open Recs (hsz below1 chain RecsAt Bat Rec Row)
open SegW LogW BfP SfP BfQ BfI SfO CtP
open LgP (logOk)
open PoP (lg repOk reps lead)
open Ft (OwnR OwnB IsC)
set_option linter.unusedVariables false
def safe (p : Prt) : List Bat := if (PoP.part p && decide (0 ≤ p.leader)) = true then fromB (p.reps.getD p.leader.toNat default).start (flatB (cutSs (p.reps.getD p.leader.toNat default).mark (p.reps.getD p.leader.toNat default).segs)) else []
theorem reps_all {e : Int} : ∀ {rs : List Rpl}, reps e rs = true → ∀ i, i < rs.length → repOk e (rs.getD i default) = true
  | [], _, i, hi => absurd hi (by simp)
  | r :: t, h, i, hi => by
    simp only [reps, Bool.and_eq_true] at h
    match i with
    | 0 => exact h.1
    | i + 1 => rw [List.getD_cons_succ]; exact reps_all h.2 i (by simpa using hi)
theorem part_lead {p : Prt} (h : PoP.part p = true) (hl : p.leader ≠ -1) : 0 ≤ p.leader ∧ p.leader < p.reps.length ∧ logOk (lg (p.reps.getD p.leader.toNat default)) = true ∧ (p.reps.getD p.leader.toNat default).start ≤ (p.reps.getD p.leader.toNat default).mark ∧ (p.reps.getD p.leader.toNat default).mark ≤ (p.reps.getD p.leader.toNat default).next := by
  simp only [PoP.part, Bool.and_eq_true] at h
  obtain ⟨h1, h2, h3, h4, h5⟩ := h
  unfold lead at h4
  rw [if_neg hl] at h4
  simp only [Asc.inR, Bool.and_eq_true, decide_eq_true_eq] at h4
  have h6 := reps_all h2 p.leader.toNat (by omega)
  simp only [repOk, Asc.inR, Bool.and_eq_true, decide_eq_true_eq] at h6
  exact ⟨h4.1.1, by omega, h6.1, h6.2.1.1, h6.2.1.2⟩
theorem part_low {p : Prt} (h : PoP.part p = true) : -1 ≤ p.leader := by
  by_cases hl : p.leader = -1
  · omega
  · have := (part_lead h hl).1; omega
theorem safe_no {p : Prt} (h : PoP.part p = false ∨ p.leader = -1) : safe p = [] := by
  unfold safe
  rw [if_neg]
  rcases h with h | h
  · rw [h]; simp
  · rw [h]; simp
theorem cut_lead {r : Rpl} (h : logOk (lg r) = true) (h1 : r.start ≤ r.mark) (h2 : r.mark ≤ r.next) : cutT (lg r) r.mark = (⟨r.start, r.mark, r.roll, cutSs r.mark r.segs⟩, true) := by
  unfold cutT
  rw [if_pos (by rw [h, Bool.true_and]; simp [LgP.inR, lg, h1, h2])]
  rfl
theorem ownsKeep {W W' : World} {base n ty nf : Nat} {v : Value} {xs : List Value} (h : W.ownsRow base ty nf v n xs) (ho : ∀ g, v.ownBlock = some g → W'.heap[g]? = W.heap[g]?) : W'.ownsRow base ty nf v n xs := by
  refine ⟨h.1, ?_⟩
  rcases h.2 with hn | ⟨g', cap, cur, h1, hbs, hgg, rest⟩
  · exact .inl hn
  · exact .inr ⟨g', cap, cur, h1, hbs, by rw [ho g' (by rw [h1]; rfl)]; exact hgg, rest⟩
theorem isC_keep {W W' : World} {x : Nat} (h : IsC W x) (e : W'.heap[x]? = W.heap[x]?) : IsC W' x := by
  obtain ⟨cs, t, fr, h⟩ := h
  exact ⟨cs, t, fr, e.trans h⟩
/-- How far the list is made: blocks that lay ahead of the loop are as they were, but for V. -/
structure PQ (w2 W : World) (n0 : Nat) (V : Nat → Prop) (v : Value) (ps : List BV) : Prop where
  own : W.ownsRow n0 52 7 v ps.length (cellsP ps)
  keep : ∀ x, x < w2.heap.size → ¬ V x → W.heap[x]? = w2.heap[x]?
  out : ∀ x, v.ownBlock = some x → (x = n0 ∨ w2.heap.size ≤ x) ∧ IsC W x
  os : W.os = w2.os ∧ W.tape = w2.tape ∧ W.output = w2.output
  size : w2.heap.size ≤ W.heap.size
  n0 : n0 < w2.heap.size ∧ V n0
theorem PQ.grownC {w2 W W' : World} {n0 : Nat} {V : Nat → Prop} {v : Value} {ps : List BV} {row : Option Nat} (h : PQ w2 W n0 V v ps) (hg : W.grownBy W' row) (hr : ∀ r, row = some r → (w2.heap.size ≤ r ∧ ¬ IsC W r) ∨ (r < w2.heap.size ∧ V r ∧ r ≠ n0)) : PQ w2 W' n0 V v ps := by
  have hz := h.size
  have ko : ∀ g, v.ownBlock = some g → W'.heap[g]? = W.heap[g]? := fun g e => hg.block g (World.ownsRow.lt h.own g e).2 (fun q => by
    rcases hr g q.symm with ⟨_, q2⟩ | ⟨q1, _, q3⟩
    · exact q2 (h.out g e).2
    · rcases (h.out g e).1 with q4 | q4
      · exact q3 q4
      · omega)
  refine ⟨ownsKeep h.own ko, fun x h1 h2 => ?_, fun x hx => ⟨(h.out x hx).1, isC_keep (h.out x hx).2 (ko x hx)⟩, ⟨hg.os.trans h.os.1, hg.tape.trans h.os.2.1, hg.output.trans h.os.2.2⟩, Nat.le_trans hz hg.size, h.n0⟩
  rw [hg.block x (by omega) (fun q => by
    rcases hr x q.symm with ⟨q1, _⟩ | ⟨_, q2, _⟩
    · omega
    · exact h2 q2)]
  exact h.keep x h1 h2
theorem PQ.later {w2 W W' : World} {n0 : Nat} {V : Nat → Prop} {v : Value} {ps : List BV} (h : PQ w2 W n0 V v ps) (b : Below W.heap.size W W') : PQ w2 W' n0 V v ps :=
  h.grownC (row := none) ⟨b.os, b.tape, b.output, b.size, fun k hk _ => b.block k hk⟩ (fun r e => by cases e)
theorem PQ.below {w w2 W : World} {n0 : Nat} {V : Nat → Prop} {v : Value} {ps : List BV} (h : PQ w2 W n0 V v ps) (hV : ∀ x, V x → w.heap.size ≤ x) (b : Below w.heap.size w w2) : Below w.heap.size w W :=
  ⟨h.os.1.trans b.os, h.os.2.1.trans b.tape, h.os.2.2.trans b.output, Nat.le_trans b.size h.size, fun x hx => (h.keep x (by have := b.size; omega) (fun q => by have := hV x q; omega)).trans (b.block x hx)⟩
theorem pq_own {w2 W W' : World} {n0 : Nat} {V : Nat → Prop} {v : Value} {ps : List BV} {row : Option Nat} (h : PQ w2 W n0 V v ps) (hg : W.grownBy W' row) (hr : ∀ r, row = some r → w2.heap.size ≤ r ∧ ∃ o : Obj, W.heap[r]? = some o ∧ o.isCells = false) : PQ w2 W' n0 V v ps :=
  h.grownC hg (fun r e => .inl ⟨(hr r e).1, fun hc => by
    obtain ⟨_, o, ho, hc'⟩ := hr r e
    obtain ⟨cs, t, fr, h'⟩ := hc
    rw [h'] at ho
    cases ho
    cases hc'⟩)
/-- One Batch more. -/
theorem PQ.push {w2 W w9 : World} {n0 : Nat} {V : Nat → Prop} {v : Value} {ps : List BV} {p : BV} {o : Obj} {g cap : Nat} (h : PQ w2 W n0 V v ps)
    (hown : w9.ownsRow n0 52 7 (.slice (some ⟨g, 0, none⟩) (ps.length + 1) cap) (ps.length + 1) (cellsP ps ++ (BatW.batArr p.1 p.2).toList)) (gr : (W.alloc o).grownBy w9 v.ownBlock) (hg : v.ownBlock = some g ∨ g = W.heap.size + 1) :
    PQ w2 w9 n0 V (.slice (some ⟨g, 0, none⟩) (ps.length + 1) cap) (ps ++ [p]) := by
  have hz := h.size
  have hn := h.n0.1
  have gs := gr.size
  rw [hsz] at gs
  refine ⟨by rw [cellsP_app, List.length_append, List.length_singleton]; exact hown, fun x h1 h2 => ?_, fun x hx => ?_, ⟨gr.os.trans h.os.1, gr.tape.trans h.os.2.1, gr.output.trans h.os.2.2⟩, by omega, h.n0⟩
  · rw [gr.block x (by rw [hsz]; omega) (fun q => by
      rcases (h.out x q.symm).1 with q1 | q1
      · exact h2 (q1 ▸ h.n0.2)
      · omega), (below1 _ _).block _ (by omega)]
    exact h.keep x h1 h2
  · simp only [Value.ownBlock, Option.some.injEq] at hx
    subst hx
    refine ⟨?_, ?_⟩
    · rcases hg with hg | hg
      · exact (h.out g hg).1
      · right; omega
    · rcases hown.2 with ⟨h1, h2⟩ | ⟨g', cap', cur, h1, _, hgg, _⟩
      · omega
      · simp only [Value.slice.injEq, Option.some.injEq, Addr.mk.injEq, and_true, true_and] at h1
        obtain ⟨rfl, rfl⟩ := h1
        exact ⟨_, _, _, hgg⟩
/-- Between two rounds: the list in its variable. -/
def PI {w0 : World} {lo b : Nat} (w2 : World) (n0 : Nat) (V : Nat → Prop) (pre : List (It w0 lo b)) (W : World) : Prop :=
  ∃ A1 c1, PQ w2 W n0 V (.slice A1 (pre.map pt).length c1) (pre.map pt) ∧ W.heap[n0 + 1]? = some (.cells #[.slice A1 (pre.map pt).length c1] 27 (0, 0))
/-- One round more. -/
theorem nx {w0 : World} {lo b : Nat} {w2 W w11 : World} {n0 : Nat} {V : Nat → Prop} {ps : List BV} {A1 : Option Addr} {c1 : Nat} {p : BV} {g9 cap9 : Nat} {o : Obj} {pre : List (It w0 lo b)} {it : It w0 lo b}
    (hus : (pre ++ [it]).map pt = ps ++ [p]) (hV1 : V (n0 + 1)) (hn1 : n0 + 1 < w2.heap.size)
    (P9 : PQ w2 W n0 V (.slice A1 ps.length c1) ps) (LB9 : W.heap[n0 + 1]? = some (.cells #[.slice A1 ps.length c1] 27 (0, 0)))
    (gr : (W.alloc o).grownBy w11 (Value.slice A1 ps.length c1).ownBlock) (D : PQ w2 w11 n0 V (.slice (some ⟨g9, 0, none⟩) (ps.length + 1) cap9) (ps ++ [p])) :
    w11.cell? ⟨n0 + 1, 0, none⟩ = some (.slice A1 ps.length c1) ∧ w11.frozen? ⟨n0 + 1, 0, none⟩ = false ∧ KeepsFrom w2.heap.size W (w11.setCell ⟨n0 + 1, 0, none⟩ (.slice (some ⟨g9, 0, none⟩) (ps.length + 1) cap9)) ∧ Kp V w2.heap.size W (w11.setCell ⟨n0 + 1, 0, none⟩ (.slice (some ⟨g9, 0, none⟩) (ps.length + 1) cap9)) ∧ PI w2 n0 V (pre ++ [it]) (w11.setCell ⟨n0 + 1, 0, none⟩ (.slice (some ⟨g9, 0, none⟩) (ps.length + 1) cap9)) := by
  have z9 := P9.size
  have gs := gr.size
  rw [hsz] at gs
  have hn := P9.n0.1
  have vo : ∀ k, (Value.slice A1 ps.length c1).ownBlock = some k → (k = n0 ∨ w2.heap.size ≤ k) ∧ IsC W k := P9.out
  have far : ∀ k, k < W.heap.size → some k ≠ (Value.slice A1 ps.length c1).ownBlock → w11.heap[k]? = W.heap[k]? := fun k hk hne => (gr.block k (by rw [hsz]; omega) hne).trans ((below1 _ _).block _ (by omega))
  have LB11 := (far (n0 + 1) (by omega) (fun e => by have := (vo _ e.symm).1; omega)).trans LB9
  refine ⟨cell_of_row w11 (n0 + 1) 0 _ _ (0, 0) LB11, frozen_of_row w11 (n0 + 1) 0 _ _ LB11, ⟨by rw [World.size_setCell]; omega, fun q o' h1 h2 h3 => ?_⟩, ?_, ?_⟩
  · rw [heap_setCell_other _ _ _ _ (by show q ≠ n0 + 1; omega), far q (Array.getElem?_eq_some_iff.1 h2).1 (fun e => ?_)]
    · exact h2
    · obtain ⟨cs, t', fr, hc⟩ := (vo q e.symm).2
      rw [hc] at h2
      cases h2
      cases h3
  · refine ⟨gr.os, gr.tape, gr.output, by rw [World.size_setCell]; omega, fun k hk hne => ?_⟩
    rw [heap_setCell_other _ _ _ _ (fun e => hne (.inl (by rw [show k = n0 + 1 from e]; exact hV1))), far k (by omega) (fun e => ?_)]
    rcases (vo k e.symm).1 with e1 | e1
    · exact hne (.inl (e1 ▸ P9.n0.2))
    · exact hne (.inr e1)
  · refine ⟨some ⟨g9, 0, none⟩, cap9, ?_, ?_⟩
    · rw [hus, List.length_append, List.length_singleton]
      exact D.grownC (row := some (n0 + 1)) (grownBy_setCell' w11 (n0 + 1) _) (fun r e => .inr (by cases e; exact ⟨by omega, hV1, by omega⟩))
    · rw [hus, List.length_append, List.length_singleton]
      exact heap_setCell_same w11 (n0 + 1) 0 _ _ _ LB11
end Go.Proofs.Ytggjinjadllapaa.SfQ
namespace Go.Proofs.Ytggjinjadllapaa.AppIn
set_option maxRecDepth 8000
set_option linter.unusedVariables false
theorem stepIn_append {F : Fence} {nn : Nat} {P : Program} {w w' : World} {ops : Array Oper} {o : Oper} {a : Act} {K : Act → World → Prop} {Q : Exit → Act → World → Prop} {E : Prop} {v u r : Value} (hgd : o.guard = none) (s x : Operand) (t : TypeId)
    (ho : o.op = .call { callee := .builtin .append, args := #[s, x], argTypes := #[t, t] }) (hs : a.eval s = v) (hx : a.eval x = u) (hr : (Builtin.append_ #[t, t] o.type #[v, u]).run P w = .ok r w') (h : K (a.put o.dst r) w') :
    if Region.wanted o (yielded ops a.tmps) = true then Oper.wpIn F nn P o a w K Q else E := by
  rw [if_pos (show Region.wanted o (yielded ops a.tmps) = true by simp [Region.wanted, hgd])]
  refine ⟨fun f hf => ?_, ?_⟩
  · simp [Oper.about, ho, resolve, Sem.run_pure, Target.leads] at hf
  · rw [Oper.semAt_eq _ _ _ (by simp [ho])]
    unfold execOp
    simp only [ho, resolve, invoke, builtin, Sem.run_bind, Sem.run_pure, Result.andThen_ok, List.map_toArray, List.map_cons, List.map_nil, hs, hx, hr]
    exact h
end Go.Proofs.Ytggjinjadllapaa.AppIn
