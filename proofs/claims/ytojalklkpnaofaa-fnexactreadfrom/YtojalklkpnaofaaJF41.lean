/- The program's ReadFrom; An append inside a fence, at a step of a region that draws its order: out of what its run answers. -/
import Derived.Scope
import Derived.Deep.AppendLies
import Derived.OrdersIn
import Derived.TacticsIn
import Derived.Test.YtojalklkpnaofaaJF15
import Derived.Test.YtojalklkpnaofaaJF21
import Derived.Test.YtojalklkpnaofaaJF38
import Derived.Test.YtojalklkpnaofaaJF39
import Derived.Test.YtojalklkpnaofaaJF40
import Derived.Test.YtojalklkpnaofaaJF12
namespace Go.Proofs.Ytojalklkpnaofaa.Ft
set_option maxRecDepth 8000
open Go.RowKit Go.Shelf
open Recs
open Bats SegW Segs LogW BfP RfP Zs BfI
open LgP (logOk inR)
open Of (four ok_all flat_count batchesFrom_any keeps_of_below kp_of_below block_own)
set_option linter.unusedVariables false
attribute [local go_sem] Oper.semAt_some
theorem LGr.keepU {T : Type} [Inhabited T] {ty nf : Nat} {EO : World → (Nat → Prop) → (Nat → Value) → T → Prop} (hE : Keeps nf EO) {w w' : World} {base : Nat} {v : Value} {us : List T} {F : Nat → Value} {P : Nat → Nat → Prop} (h : LGr ty nf EO w base v us F P) (hs : w.heap.size ≤ w'.heap.size) (ho : ∀ g, v.ownBlock = some g → w'.heap[g]? = w.heap[g]?) (hk : ∀ i, i < us.length → ∀ x, P i x → w'.heap[x]? = w.heap[x]?) : LGr ty nf EO w' base v us F P := by
  refine ⟨⟨h.own.1, ?_⟩, fun i hi => hE _ _ _ _ _ _ (h.el i hi) hs (hk i hi) (fun _ _ => rfl), fun i hi x hx => ⟨(h.apart i hi x hx).1, Nat.lt_of_lt_of_le (h.apart i hi x hx).2.1 hs, (h.apart i hi x hx).2.2⟩, h.disj⟩
  rcases h.own.2 with hn | ⟨g', cap, cur, h1, hbs, hgg, rest⟩
  · exact .inl hn
  · exact .inr ⟨g', cap, cur, h1, hbs, by rw [ho g' (by rw [h1]; rfl)]; exact hgg, rest⟩
/-- One element more, its sets told. -/
theorem LGr.push_at {T : Type} [Inhabited T] {ty nf : Nat} {EO : World → (Nat → Prop) → (Nat → Value) → T → Prop} (hE : Keeps nf EO) {wr w2 w3 : World} {base g cap : Nat} {v : Value} {us : List T} {F : Nat → Value} {P : Nat → Nat → Prop} {Q : Nat → Prop} {t : T} {news : List Value} (h : LGr ty nf EO wr base v us F P) (hbase : base ≤ wr.heap.size) (hs : wr.heap.size ≤ w2.heap.size) (hk : ∀ x, base ≤ x → x < wr.heap.size → w2.heap[x]? = wr.heap[x]?)
    (he : EO w2 Q (fun q => news.getD q default) t) (hQ : ∀ x, Q x → wr.heap.size ≤ x ∧ x < w2.heap.size) (hl : news.length = nf) (hown : w3.ownsRow base ty nf (.slice (some ⟨g, 0, none⟩) (us.length + 1) cap) (us.length + 1) ((List.range (us.length * nf)).map F ++ news)) (gr : w2.grownBy w3 v.ownBlock) (hg : v.ownBlock = some g ∨ g = w2.heap.size) :
    LGr ty nf EO w3 base (.slice (some ⟨g, 0, none⟩) (us.length + 1) cap) (us ++ [t]) (fun q => if q < us.length * nf then F q else news.getD (q - us.length * nf) default) (fun i => if i = us.length then Q else P i) := by
  have h2 := h.keep hE hs hk
  have hvb : ∀ x, v.ownBlock = some x → base ≤ x ∧ x < wr.heap.size := fun x hx => World.ownsRow.lt h.own x hx
  have gs := gr.size
  refine ⟨?_, fun i hi => ?_, fun i hi x hx => ?_, fun i j hi hj hij x hx hx' => ?_⟩
  · show w3.ownsRow _ _ _ _ _ _
    rw [List.length_append, List.length_singleton, ← map_push F us.length nf news hl]
    exact hown
  · show EO w3 (if i = us.length then Q else P i) (fun q => if i * nf + q < us.length * nf then F (i * nf + q) else news.getD (i * nf + q - us.length * nf) default) _
    by_cases e : i = us.length
    · subst e
      rw [if_pos rfl, getD_app_last]
      refine hE _ _ _ _ _ _ he gs (fun x hx => gr.block x (hQ x hx).2 (fun e => ?_)) (fun q hq => ?_)
      · have a1 := hvb x e.symm
        have a2 := hQ x hx
        omega
      · rw [if_neg (by omega), Nat.add_sub_cancel_left]
    · have hi' : i < us.length := by rw [List.length_append, List.length_singleton] at hi; omega
      rw [if_neg e, getD_app_left hi']
      refine hE _ _ _ _ _ _ (h2.el i hi') gs (fun x hx => gr.block x (h2.apart i hi' x hx).2.1 (fun e => (h2.apart i hi' x hx).2.2 e.symm)) (fun q hq => ?_)
      have : (i + 1) * nf ≤ us.length * nf := Nat.mul_le_mul_right nf (by omega)
      rw [Nat.succ_mul] at this
      rw [if_pos (by omega)]
  · replace hx : (if i = us.length then Q else P i) x := hx
    by_cases e : i = us.length
    · subst e
      rw [if_pos rfl] at hx
      have a1 := hQ x hx
      refine ⟨by omega, by omega, fun e => ?_⟩
      simp only [Value.ownBlock, Option.some.injEq] at e
      rcases hg with hg | hg
      · have := hvb g hg; omega
      · omega
    · have hi' : i < us.length := by rw [List.length_append, List.length_singleton] at hi; omega
      rw [if_neg e] at hx
      have a1 := h2.apart i hi' x hx
      refine ⟨a1.1, by omega, fun e => ?_⟩
      simp only [Value.ownBlock, Option.some.injEq] at e
      rcases hg with hg | hg
      · exact a1.2.2 (by rw [hg, e])
      · omega
  · replace hx : (if i = us.length then Q else P i) x := hx
    replace hx' : (if j = us.length then Q else P j) x := hx'
    rw [List.length_append, List.length_singleton] at hi hj
    by_cases e : i = us.length
    · subst e
      rw [if_pos rfl] at hx
      rw [if_neg (Ne.symm hij)] at hx'
      have a1 := hQ x hx
      have a2 := h.apart j (by omega) x hx'
      omega
    · rw [if_neg e] at hx
      by_cases e2 : j = us.length
      · subst e2
        rw [if_pos rfl] at hx'
        have a1 := hQ x hx'
        have a2 := h.apart i (by omega) x hx
        omega
      · rw [if_neg e2] at hx'
        exact h.disj i j (by omega) (by omega) hij x hx hx'
/-- How far the list is read: blocks that lay ahead of the loop are as they were, but for V. -/
structure PF (w2 W : World) (n0 : Nat) (V : Nat → Prop) (v : Value) (us : List Bat) : Prop where
  grow : ∃ F P, LGr 44 7 EB W n0 v us F P ∧ ∀ i, i < us.length → ∀ x, P i x → IsC W x ∧ w2.heap.size ≤ x
  keep : ∀ x, x < w2.heap.size → ¬ V x → W.heap[x]? = w2.heap[x]?
  out : ∀ x, v.ownBlock = some x → (x = n0 ∨ w2.heap.size ≤ x) ∧ IsC W x
  os : W.os = w2.os ∧ W.tape = w2.tape ∧ W.output = w2.output
  size : w2.heap.size ≤ W.heap.size
  n0 : n0 < w2.heap.size ∧ V n0
theorem isC_keep {W W' : World} {x : Nat} (h : IsC W x) (e : W'.heap[x]? = W.heap[x]?) : IsC W' x := by
  obtain ⟨cs, t, fr, h⟩ := h
  exact ⟨cs, t, fr, e.trans h⟩
/-- It abides new blocks, and turns of blocks that hold no cells and were laid since the loop began; and stores into a variable of V that is not the list's row. -/
theorem PF.grownC {w2 W W' : World} {n0 : Nat} {V : Nat → Prop} {v : Value} {us : List Bat} {row : Option Nat} (h : PF w2 W n0 V v us) (hg : W.grownBy W' row) (hr : ∀ r, row = some r → (w2.heap.size ≤ r ∧ ¬ IsC W r) ∨ (r < w2.heap.size ∧ V r ∧ r ≠ n0)) : PF w2 W' n0 V v us := by
  obtain ⟨F, P, hG, hP⟩ := h.grow
  have hz := h.size
  have ko : ∀ g, v.ownBlock = some g → W'.heap[g]? = W.heap[g]? := fun g e => hg.block g (World.ownsRow.lt hG.own g e).2 (fun q => by
    rcases hr g q.symm with ⟨_, q2⟩ | ⟨q1, _, q3⟩
    · exact q2 (h.out g e).2
    · rcases (h.out g e).1 with q4 | q4
      · exact q3 q4
      · omega)
  have kp : ∀ i, i < us.length → ∀ x, P i x → W'.heap[x]? = W.heap[x]? := fun i hi x hx => hg.block x (hG.apart i hi x hx).2.1 (fun q => by
    rcases hr x q.symm with ⟨_, q2⟩ | ⟨q1, _, _⟩
    · exact q2 (hP i hi x hx).1
    · have := (hP i hi x hx).2; omega)
  refine ⟨⟨F, P, hG.keepU keepsB hg.size ko kp, fun i hi x hx => ⟨isC_keep (hP i hi x hx).1 (kp i hi x hx), (hP i hi x hx).2⟩⟩, fun x h1 h2 => ?_, fun x hx => ⟨(h.out x hx).1, isC_keep (h.out x hx).2 (ko x hx)⟩, ⟨hg.os.trans h.os.1, hg.tape.trans h.os.2.1, hg.output.trans h.os.2.2⟩, Nat.le_trans hz hg.size, h.n0⟩
  rw [hg.block x (by omega) (fun q => by
    rcases hr x q.symm with ⟨q1, _⟩ | ⟨_, q2, _⟩
    · omega
    · exact h2 q2)]
  exact h.keep x h1 h2
theorem PF.later {w2 W W' : World} {n0 : Nat} {V : Nat → Prop} {v : Value} {us : List Bat} (h : PF w2 W n0 V v us) (b : Below W.heap.size W W') : PF w2 W' n0 V v us :=
  h.grownC (row := none) ⟨b.os, b.tape, b.output, b.size, fun k hk _ => b.block k hk⟩ (fun r e => by cases e)
theorem PF.below {w w2 W : World} {n0 : Nat} {V : Nat → Prop} {v : Value} {us : List Bat} (h : PF w2 W n0 V v us) (hV : ∀ x, V x → w.heap.size ≤ x) (b : Below w.heap.size w w2) : Below w.heap.size w W :=
  ⟨h.os.1.trans b.os, h.os.2.1.trans b.tape, h.os.2.2.trans b.output, Nat.le_trans b.size h.size, fun x hx => (h.keep x (by have := b.size; omega) (fun q => by have := hV x q; omega)).trans (b.block x hx)⟩
/-- One Batch more. -/
theorem PF.push {w2 W w8 w9 : World} {n0 : Nat} {V : Nat → Prop} {v : Value} {us : List Bat} {F : Nat → Value} {P : Nat → Nat → Prop} {t : Bat} {rv : Value} {o : Obj} {g cap : Nat} (h : PF w2 W n0 V v us) (hG : LGr 44 7 EB W n0 v us F P) (hP : ∀ i, i < us.length → ∀ x, P i x → IsC W x ∧ w2.heap.size ≤ x) (b8 : Below W.heap.size W w8) (ho : OwnR w8 (seg W.heap.size w8.heap.size) rv t.recs)
    (hown : w9.ownsRow n0 44 7 (.slice (some ⟨g, 0, none⟩) (us.length + 1) cap) (us.length + 1) ((List.range (us.length * 7)).map F ++ (BatW.batArr t rv).toList)) (gr : (w8.alloc o).grownBy w9 v.ownBlock) (hg : v.ownBlock = some g ∨ g = w8.heap.size + 1) :
    PF w2 w9 n0 V (.slice (some ⟨g, 0, none⟩) (us.length + 1) cap) (us ++ [t]) := by
  have s8 := b8.size
  have hz := h.size
  have hn := h.n0.1
  have gs := gr.size
  rw [hsz] at gs
  have hoC := LOwn.cells shrinksR ho
  have hvb : ∀ x, v.ownBlock = some x → n0 ≤ x ∧ x < W.heap.size := fun x hx => World.ownsRow.lt hG.own x hx
  have L := LGr.push_at keepsB (w2 := w8.alloc o) (w3 := w9) (g := g) (cap := cap) (Q := fun x => seg W.heap.size w8.heap.size x ∧ IsC w8 x) (t := t) (news := (BatW.batArr t rv).toList) hG (by omega) (by rw [hsz]; omega) (fun x _ hx => by rw [(below1 _ _).block _ (by omega), b8.block x hx]) (bat_el (LOwn.keep keepsR hoC (by rw [hsz]; omega) (fun x hx => (below1 _ _).block _ hx.1.2))) (fun x hx => by rw [hsz]; obtain ⟨⟨x1, x2⟩, _⟩ := hx; exact ⟨x1, by omega⟩) rfl hown gr (by rw [hsz]; exact hg)
  refine ⟨⟨_, _, L, fun i hi x hx => ?_⟩, fun x h1 h2 => ?_, fun x hx => ?_, ⟨gr.os.trans (b8.os.trans h.os.1), gr.tape.trans (b8.tape.trans h.os.2.1), gr.output.trans (b8.output.trans h.os.2.2)⟩, by omega, h.n0⟩
  · replace hx : (if i = us.length then (fun x => seg W.heap.size w8.heap.size x ∧ IsC w8 x) else P i) x := hx
    by_cases e : i = us.length
    · rw [if_pos e] at hx
      obtain ⟨⟨x1, x2⟩, hc⟩ := hx
      refine ⟨isC_keep hc ((gr.block x (by rw [hsz]; omega) (fun q => by have := hvb x q.symm; omega)).trans ((below1 _ _).block _ x2)), by omega⟩
    · rw [if_neg e] at hx
      have hi' : i < us.length := by rw [List.length_append, List.length_singleton] at hi; omega
      have ha := hG.apart i hi' x hx
      refine ⟨isC_keep (hP i hi' x hx).1 ((gr.block x (by rw [hsz]; omega) (fun q => ha.2.2 q.symm)).trans (((below1 _ _).block _ (by omega)).trans (b8.block x ha.2.1))), (hP i hi' x hx).2⟩
  · rw [gr.block x (by rw [hsz]; omega) (fun q => by
      rcases (h.out x q.symm).1 with q1 | q1
      · exact h2 (q1 ▸ h.n0.2)
      · omega), (below1 _ _).block _ (by omega), b8.block x (by omega)]
    exact h.keep x h1 h2
  · simp only [Value.ownBlock, Option.some.injEq] at hx
    subst hx
    refine ⟨?_, ?_⟩
    · rcases hg with hg | hg
      · exact (h.out g hg).1
      · right; omega
    · rcases hown.2 with ⟨h1, h2⟩ | ⟨g', cap', cur, h1, _, hgg, _⟩
      · omega
      · simp only [Value.slice.injEq, Option.some.injEq, Addr.mk.injEq, and_true, true_and] at h1
        obtain ⟨rfl, rfl⟩ := h1
        exact ⟨_, _, _, hgg⟩
end Go.Proofs.Ytojalklkpnaofaa.Ft
namespace Go.Proofs.Ytojalklkpnaofaa.AppIn
set_option maxRecDepth 8000
set_option linter.unusedVariables false
theorem stepIn_append {F : Fence} {nn : Nat} {P : Program} {w w' : World} {ops : Array Oper} {o : Oper} {a : Act} {K : Act → World → Prop} {Q : Exit → Act → World → Prop} {E : Prop} {v u r : Value} (hgd : o.guard = none) (s x : Operand) (t : TypeId)
    (ho : o.op = .call { callee := .builtin .append, args := #[s, x], argTypes := #[t, t] }) (hs : a.eval s = v) (hx : a.eval x = u) (hr : (Builtin.append_ #[t, t] o.type #[v, u]).run P w = .ok r w') (h : K (a.put o.dst r) w') :
    if Region.wanted o (yielded ops a.tmps) = true then Oper.wpIn F nn P o a w K Q else E := by
  rw [if_pos (show Region.wanted o (yielded ops a.tmps) = true by simp [Region.wanted, hgd])]
  refine ⟨fun f hf => ?_, ?_⟩
  · simp [Oper.about, ho, resolve, Sem.run_pure, Target.leads] at hf
  · rw [Oper.semAt_eq _ _ _ (by simp [ho])]
    unfold execOp
    simp only [ho, resolve, invoke, builtin, Sem.run_bind, Sem.run_pure, Result.andThen_ok, List.map_toArray, List.map_cons, List.map_nil, hs, hx, hr]
    exact h
end Go.Proofs.Ytojalklkpnaofaa.AppIn
