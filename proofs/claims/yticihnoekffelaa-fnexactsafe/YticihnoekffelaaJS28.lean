/- What is safe in a Part; a list of Batches that grows in a range over a function, each with Records that lay; An append inside a fence, at a step of a region that draws its order: out of what its run answers; PartOk of the program. -/
import Derived.Deep.AppendLies
import Derived.OrdersIn
import Derived.TacticsIn
import Derived.Deep.RegionHeld3
import Derived.Test.YticihnoekffelaaJS19
import Derived.Test.YticihnoekffelaaJS27
namespace Go.Proofs.Yticihnoekffelaa.SfQ
set_option maxRecDepth 8000
open Go.RowKit Go.Shelf
open Ls (Prt Rpl)
open Recs (hsz below1 chain RecsAt Bat Rec Row)
open SegW LogW BfP SfP BfQ BfI SfO CtP
open LgP (logOk)
open PoP (lg repOk reps lead)
open Ft (OwnR OwnB IsC)
set_option linter.unusedVariables false
def safe (p : Prt) : List Bat := if (PoP.part p && decide (0 ≤ p.leader)) = true then fromB (p.reps.getD p.leader.toNat default).start (flatB (cutSs (p.reps.getD p.leader.toNat default).mark (p.reps.getD p.leader.toNat default).segs)) else []
theorem reps_all {e : Int} : ∀ {rs : List Rpl}, reps e rs = true → ∀ i, i < rs.length → repOk e (rs.getD i default) = true
  | [], _, i, hi => absurd hi (by simp)
  | r :: t, h, i, hi => by
    simp only [reps, Bool.and_eq_true] at h
    match i with
    | 0 => exact h.1
    | i + 1 => rw [List.getD_cons_succ]; exact reps_all h.2 i (by simpa using hi)
theorem part_lead {p : Prt} (h : PoP.part p = true) (hl : p.leader ≠ -1) : 0 ≤ p.leader ∧ p.leader < p.reps.length ∧ logOk (lg (p.reps.getD p.leader.toNat default)) = true ∧ (p.reps.getD p.leader.toNat default).start ≤ (p.reps.getD p.leader.toNat default).mark ∧ (p.reps.getD p.leader.toNat default).mark ≤ (p.reps.getD p.leader.toNat default).next := by
  simp only [PoP.part, Bool.and_eq_true] at h
  obtain ⟨h1, h2, h3, h4, h5⟩ := h
  unfold lead at h4
  rw [if_neg hl] at h4
  simp only [Asc.inR, Bool.and_eq_true, decide_eq_true_eq] at h4
  have h6 := reps_all h2 p.leader.toNat (by omega)
  simp only [repOk, Asc.inR, Bool.and_eq_true, decide_eq_true_eq] at h6
  exact ⟨h4.1.1, by omega, h6.1, h6.2.1.1, h6.2.1.2⟩
theorem part_low {p : Prt} (h : PoP.part p = true) : -1 ≤ p.leader := by
  by_cases hl : p.leader = -1
  · omega
  · have := (part_lead h hl).1; omega
theorem safe_no {p : Prt} (h : PoP.part p = false ∨ p.leader = -1) : safe p = [] := by
  unfold safe
  rw [if_neg]
  rcases h with h | h
  · rw [h]; simp
  · rw [h]; simp
theorem cut_lead {r : Rpl} (h : logOk (lg r) = true) (h1 : r.start ≤ r.mark) (h2 : r.mark ≤ r.next) : cutT (lg r) r.mark = (⟨r.start, r.mark, r.roll, cutSs r.mark r.segs⟩, true) := by
  unfold cutT
  rw [if_pos (by rw [h, Bool.true_and]; simp [LgP.inR, lg, h1, h2])]
  rfl
theorem ownsKeep {W W' : World} {base n ty nf : Nat} {v : Value} {xs : List Value} (h : W.ownsRow base ty nf v n xs) (ho : ∀ g, v.ownBlock = some g → W'.heap[g]? = W.heap[g]?) : W'.ownsRow base ty nf v n xs := by
  refine ⟨h.1, ?_⟩
  rcases h.2 with hn | ⟨g', cap, cur, h1, hbs, hgg, rest⟩
  · exact .inl hn
  · exact .inr ⟨g', cap, cur, h1, hbs, by rw [ho g' (by rw [h1]; rfl)]; exact hgg, rest⟩
theorem isC_keep {W W' : World} {x : Nat} (h : IsC W x) (e : W'.heap[x]? = W.heap[x]?) : IsC W' x := by
  obtain ⟨cs, t, fr, h⟩ := h
  exact ⟨cs, t, fr, e.trans h⟩
/-- How far the list is made: blocks that lay ahead of the loop are as they were, but for V. -/
structure PQ (w2 W : World) (n0 : Nat) (V : Nat → Prop) (v : Value) (ps : List BV) : Prop where
  own : W.ownsRow n0 58 7 v ps.length (cellsP ps)
  keep : ∀ x, x < w2.heap.size → ¬ V x → W.heap[x]? = w2.heap[x]?
  out : ∀ x, v.ownBlock = some x → (x = n0 ∨ w2.heap.size ≤ x) ∧ IsC W x
  os : W.os = w2.os ∧ W.tape = w2.tape ∧ W.output = w2.output
  size : w2.heap.size ≤ W.heap.size
  n0 : n0 < w2.heap.size ∧ V n0
theorem PQ.grownC {w2 W W' : World} {n0 : Nat} {V : Nat → Prop} {v : Value} {ps : List BV} {row : Option Nat} (h : PQ w2 W n0 V v ps) (hg : W.grownBy W' row) (hr : ∀ r, row = some r → (w2.heap.size ≤ r ∧ ¬ IsC W r) ∨ (r < w2.heap.size ∧ V r ∧ r ≠ n0)) : PQ w2 W' n0 V v ps := by
  have hz := h.size
  have ko : ∀ g, v.ownBlock = some g → W'.heap[g]? = W.heap[g]? := fun g e => hg.block g (World.ownsRow.lt h.own g e).2 (fun q => by
    rcases hr g q.symm with ⟨_, q2⟩ | ⟨q1, _, q3⟩
    · exact q2 (h.out g e).2
    · rcases (h.out g e).1 with q4 | q4
      · exact q3 q4
      · omega)
  refine ⟨ownsKeep h.own ko, fun x h1 h2 => ?_, fun x hx => ⟨(h.out x hx).1, isC_keep (h.out x hx).2 (ko x hx)⟩, ⟨hg.os.trans h.os.1, hg.tape.trans h.os.2.1, hg.output.trans h.os.2.2⟩, Nat.le_trans hz hg.size, h.n0⟩
  rw [hg.block x (by omega) (fun q => by
    rcases hr x q.symm with ⟨q1, _⟩ | ⟨_, q2, _⟩
    · omega
    · exact h2 q2)]
  exact h.keep x h1 h2
theorem PQ.later {w2 W W' : World} {n0 : Nat} {V : Nat → Prop} {v : Value} {ps : List BV} (h : PQ w2 W n0 V v ps) (b : Below W.heap.size W W') : PQ w2 W' n0 V v ps :=
  h.grownC (row := none) ⟨b.os, b.tape, b.output, b.size, fun k hk _ => b.block k hk⟩ (fun r e => by cases e)
theorem PQ.below {w w2 W : World} {n0 : Nat} {V : Nat → Prop} {v : Value} {ps : List BV} (h : PQ w2 W n0 V v ps) (hV : ∀ x, V x → w.heap.size ≤ x) (b : Below w.heap.size w w2) : Below w.heap.size w W :=
  ⟨h.os.1.trans b.os, h.os.2.1.trans b.tape, h.os.2.2.trans b.output, Nat.le_trans b.size h.size, fun x hx => (h.keep x (by have := b.size; omega) (fun q => by have := hV x q; omega)).trans (b.block x hx)⟩
theorem pq_own {w2 W W' : World} {n0 : Nat} {V : Nat → Prop} {v : Value} {ps : List BV} {row : Option Nat} (h : PQ w2 W n0 V v ps) (hg : W.grownBy W' row) (hr : ∀ r, row = some r → w2.heap.size ≤ r ∧ ∃ o : Obj, W.heap[r]? = some o ∧ o.isCells = false) : PQ w2 W' n0 V v ps :=
  h.grownC hg (fun r e => .inl ⟨(hr r e).1, fun hc => by
    obtain ⟨_, o, ho, hc'⟩ := hr r e
    obtain ⟨cs, t, fr, h'⟩ := hc
    rw [h'] at ho
    cases ho
    cases hc'⟩)
/-- One Batch more. -/
theorem PQ.push {w2 W w9 : World} {n0 : Nat} {V : Nat → Prop} {v : Value} {ps : List BV} {p : BV} {o : Obj} {g cap : Nat} (h : PQ w2 W n0 V v ps)
    (hown : w9.ownsRow n0 58 7 (.slice (some ⟨g, 0, none⟩) (ps.length + 1) cap) (ps.length + 1) (cellsP ps ++ (BatW.batArr p.1 p.2).toList)) (gr : (W.alloc o).grownBy w9 v.ownBlock) (hg : v.ownBlock = some g ∨ g = W.heap.size + 1) :
    PQ w2 w9 n0 V (.slice (some ⟨g, 0, none⟩) (ps.length + 1) cap) (ps ++ [p]) := by
  have hz := h.size
  have hn := h.n0.1
  have gs := gr.size
  rw [hsz] at gs
  refine ⟨by rw [cellsP_app, List.length_append, List.length_singleton]; exact hown, fun x h1 h2 => ?_, fun x hx => ?_, ⟨gr.os.trans h.os.1, gr.tape.trans h.os.2.1, gr.output.trans h.os.2.2⟩, by omega, h.n0⟩
  · rw [gr.block x (by rw [hsz]; omega) (fun q => by
      rcases (h.out x q.symm).1 with q1 | q1
      · exact h2 (q1 ▸ h.n0.2)
      · omega), (below1 _ _).block _ (by omega)]
    exact h.keep x h1 h2
  · simp only [Value.ownBlock, Option.some.injEq] at hx
    subst hx
    refine ⟨?_, ?_⟩
    · rcases hg with hg | hg
      · exact (h.out g hg).1
      · right; omega
    · rcases hown.2 with ⟨h1, h2⟩ | ⟨g', cap', cur, h1, _, hgg, _⟩
      · omega
      · simp only [Value.slice.injEq, Option.some.injEq, Addr.mk.injEq, and_true, true_and] at h1
        obtain ⟨rfl, rfl⟩ := h1
        exact ⟨_, _, _, hgg⟩
/-- Between two rounds: the list in its variable. -/
def PI {w0 : World} {lo b : Nat} (w2 : World) (n0 : Nat) (V : Nat → Prop) (pre : List (It w0 lo b)) (W : World) : Prop :=
  ∃ A1 c1, PQ w2 W n0 V (.slice A1 (pre.map pt).length c1) (pre.map pt) ∧ W.heap[n0 + 1]? = some (.cells #[.slice A1 (pre.map pt).length c1] 40 (0, 0))
/-- One round more. -/
theorem nx {w0 : World} {lo b : Nat} {w2 W w11 : World} {n0 : Nat} {V : Nat → Prop} {ps : List BV} {A1 : Option Addr} {c1 : Nat} {p : BV} {g9 cap9 : Nat} {o : Obj} {pre : List (It w0 lo b)} {it : It w0 lo b}
    (hus : (pre ++ [it]).map pt = ps ++ [p]) (hV1 : V (n0 + 1)) (hn1 : n0 + 1 < w2.heap.size)
    (P9 : PQ w2 W n0 V (.slice A1 ps.length c1) ps) (LB9 : W.heap[n0 + 1]? = some (.cells #[.slice A1 ps.length c1] 40 (0, 0)))
    (gr : (W.alloc o).grownBy w11 (Value.slice A1 ps.length c1).ownBlock) (D : PQ w2 w11 n0 V (.slice (some ⟨g9, 0, none⟩) (ps.length + 1) cap9) (ps ++ [p])) :
    w11.cell? ⟨n0 + 1, 0, none⟩ = some (.slice A1 ps.length c1) ∧ w11.frozen? ⟨n0 + 1, 0, none⟩ = false ∧ KeepsFrom w2.heap.size W (w11.setCell ⟨n0 + 1, 0, none⟩ (.slice (some ⟨g9, 0, none⟩) (ps.length + 1) cap9)) ∧ Kp V w2.heap.size W (w11.setCell ⟨n0 + 1, 0, none⟩ (.slice (some ⟨g9, 0, none⟩) (ps.length + 1) cap9)) ∧ PI w2 n0 V (pre ++ [it]) (w11.setCell ⟨n0 + 1, 0, none⟩ (.slice (some ⟨g9, 0, none⟩) (ps.length + 1) cap9)) := by
  have z9 := P9.size
  have gs := gr.size
  rw [hsz] at gs
  have hn := P9.n0.1
  have vo : ∀ k, (Value.slice A1 ps.length c1).ownBlock = some k → (k = n0 ∨ w2.heap.size ≤ k) ∧ IsC W k := P9.out
  have far : ∀ k, k < W.heap.size → some k ≠ (Value.slice A1 ps.length c1).ownBlock → w11.heap[k]? = W.heap[k]? := fun k hk hne => (gr.block k (by rw [hsz]; omega) hne).trans ((below1 _ _).block _ (by omega))
  have LB11 := (far (n0 + 1) (by omega) (fun e => by have := (vo _ e.symm).1; omega)).trans LB9
  refine ⟨cell_of_row w11 (n0 + 1) 0 _ _ (0, 0) LB11, frozen_of_row w11 (n0 + 1) 0 _ _ LB11, ⟨by rw [World.size_setCell]; omega, fun q o' h1 h2 h3 => ?_⟩, ?_, ?_⟩
  · rw [heap_setCell_other _ _ _ _ (by show q ≠ n0 + 1; omega), far q (Array.getElem?_eq_some_iff.1 h2).1 (fun e => ?_)]
    · exact h2
    · obtain ⟨cs, t', fr, hc⟩ := (vo q e.symm).2
      rw [hc] at h2
      cases h2
      cases h3
  · refine ⟨gr.os, gr.tape, gr.output, by rw [World.size_setCell]; omega, fun k hk hne => ?_⟩
    rw [heap_setCell_other _ _ _ _ (fun e => hne (.inl (by rw [show k = n0 + 1 from e]; exact hV1))), far k (by omega) (fun e => ?_)]
    rcases (vo k e.symm).1 with e1 | e1
    · exact hne (.inl (e1 ▸ P9.n0.2))
    · exact hne (.inr e1)
  · refine ⟨some ⟨g9, 0, none⟩, cap9, ?_, ?_⟩
    · rw [hus, List.length_append, List.length_singleton]
      exact D.grownC (row := some (n0 + 1)) (grownBy_setCell' w11 (n0 + 1) _) (fun r e => .inr (by cases e; exact ⟨by omega, hV1, by omega⟩))
    · rw [hus, List.length_append, List.length_singleton]
      exact heap_setCell_same w11 (n0 + 1) 0 _ _ _ LB11
end Go.Proofs.Yticihnoekffelaa.SfQ
namespace Go.Proofs.Yticihnoekffelaa.AppIn
set_option maxRecDepth 8000
set_option linter.unusedVariables false
theorem stepIn_append {F : Fence} {nn : Nat} {P : Program} {w w' : World} {ops : Array Oper} {o : Oper} {a : Act} {K : Act → World → Prop} {Q : Exit → Act → World → Prop} {E : Prop} {v u r : Value} (hgd : o.guard = none) (s x : Operand) (t : TypeId)
    (ho : o.op = .call { callee := .builtin .append, args := #[s, x], argTypes := #[t, t] }) (hs : a.eval s = v) (hx : a.eval x = u) (hr : (Builtin.append_ #[t, t] o.type #[v, u]).run P w = .ok r w') (h : K (a.put o.dst r) w') :
    if Region.wanted o (yielded ops a.tmps) = true then Oper.wpIn F nn P o a w K Q else E := by
  rw [if_pos (show Region.wanted o (yielded ops a.tmps) = true by simp [Region.wanted, hgd])]
  refine ⟨fun f hf => ?_, ?_⟩
  · simp [Oper.about, ho, resolve, Sem.run_pure, Target.leads] at hf
  · rw [Oper.semAt_eq _ _ _ (by simp [ho])]
    unfold execOp
    simp only [ho, resolve, invoke, builtin, Sem.run_bind, Sem.run_pure, Result.andThen_ok, List.map_toArray, List.map_cons, List.map_nil, hs, hx, hr]
    exact h
end Go.Proofs.Yticihnoekffelaa.AppIn
namespace Go.Proofs.Yticihnoekffelaa.PoI
set_option maxRecDepth 8000
open Go.RowKit
open Ls Asc PoP
open Recs (hsz below1 below2 chain chainD Bat)
open SegW (Sg)
open LogW (Lg LogAt)
open LgP (logOk)
open BfP (flatB)
open EoP (lastE)
set_option linter.unusedVariables false
namespace Hd
variable {P : Program} {ops : Array Oper} {Q : Exit → Act → World → Prop} {md : Region.Mode} {S : World → Prop}
/-- An operation that its guard passes over may be taken first. -/
theorem skip (i : Nat) (d : Option Tmp) {oi : Oper} {fuel : Nat} {listed : Array Bool} {a : Act} {w : World} (hi : ops[i]? = some oi) (hd : oi.dst = d)
    (hs : Region.noSelect ops = true) (hf : Region.free md ops listed i = true) (hr : (Region.ready md ops listed).contains i = true)
    (hQ : ∀ c a w, Q (.panic c) (a.put d undef) w → Q (.panic c) a w) (hw : Region.wanted oi (yielded ops a.tmps) = false) (hS : S w)
    (h : wpAnyH P md ops Q S fuel (listed.setIfInBounds i true) (a.put d undef) w) : wpAnyH P md ops Q S (fuel + 1) listed a w := by
  subst hd; exact wpAnyH_take hi hs hf hr hQ (Or.inr ⟨hw, rfl⟩) hS h
theorem take (i : Nat) (d : Option Tmp) (v : Value) {oi : Oper} {fuel : Nat} {listed : Array Bool} {a : Act} {w : World} (hi : ops[i]? = some oi) (hd : oi.dst = d)
    (hs : Region.noSelect ops = true) (hf : Region.free md ops listed i = true) (hr : (Region.ready md ops listed).contains i = true)
    (hQ : ∀ c a w, Q (.panic c) (a.put d v) w → Q (.panic c) a w) (hw : Region.wanted oi (yielded ops a.tmps) = true) (hy : ∀ w, S w → (execOp a.eval oi).run P w = .ok (.value v) w) (hS : S w)
    (h : wpAnyH P md ops Q S fuel (listed.setIfInBounds i true) (a.put d v) w) : wpAnyH P md ops Q S (fuel + 1) listed a w := by
  subst hd; exact wpAnyH_take hi hs hf hr hQ (Or.inl ⟨hw, hy⟩) hS h
end Hd
/-- The Part's row while its replicas are checked. -/
structure Sr (w wr : World) (p : Prt) (A0 A3 A4 : Option Addr) (c0 c3 c4 : Nat) : Prop where
  rp : wr.heap[w.heap.size]? = some (.cells #[.slice A0 p.reps.length c0, .int .i64 p.leader, .int .i64 p.epoch, .slice A3 p.insync.length c3, .slice A4 p.known.length c4, .int .i64 p.least] 44 (0, 0))
  bel : Below w.heap.size w wr
set_option maxHeartbeats 6400000 in
theorem reps_any (v : Value) (p : Prt) (t : Bool) (w : World) (lo b : Nat) (hv : PrtAt w (seg lo b) v p) (hb : b ≤ w.heap.size) (hf : szPrt p ≤ 1048576) (hn5 : p.reps.length ≤ 5) (ht : reps p.epoch p.reps = t) :
    Calls Try.prog 67 #[v] w fun e w' => e = .returned (.bool t) ∧ Below w.heap.size w w' := by
  have hS : ∀ g, seg lo b g → g < w.heap.size := fun g hg => Nat.lt_of_lt_of_le hg.2 hb
  obtain ⟨A0, c0, A3, c3, A4, c4, rfl⟩ := form hv
  obtain ⟨A0', c0', ga, oa, Fa, g0, OA, n0⟩ := opn (parts hv).1 hS
  simp only [Value.slice.injEq, true_and] at g0
  obtain ⟨rfl, rfl⟩ := g0
  have HA := Seg.hid OA
  have HT := Seg.hid ht
  have L0 : Hid (∀ i, i < p.reps.length → szLg (lg (p.reps.getD i default)) ≤ 1048576) := fun i hi => by
    have := szL_one (l := 1048576) szRpl (show szL szRpl p.reps ≤ 1048576 by unfold szPrt at hf; omega) hi
    exact this
  clear hv OA hf ht
  go_enter Try.func67, Try.ntmps67
  go_wp2_with fail
  have S0 : Hid (Sr w (w.alloc (.cells #[.slice A0 p.reps.length c0, .int .i64 p.leader, .int .i64 p.epoch, .slice A3 p.insync.length c3, .slice A4 p.known.length c4, .int .i64 p.least] 44 (0, 0))) p A0 A3 A4 c0 c3 c4) := ⟨heap_alloc_new _ _, below1 _ _⟩
  go_loopw [8] (fun i wr => ∃ (k : Nat), k ≤ p.reps.length ∧ i = .int .i64 k ∧ Hid (reps p.epoch (p.reps.drop k) = t ∧ Sr w wr p A0 A3 A4 c0 c3 c4)) (fun i _ => p.reps.length - (intOf i).toNat)
  case atStart => exact ⟨0, Nat.zero_le _, rfl, HT.out, S0.out⟩
  case round =>
    clear S0
    obtain ⟨k, hk, rfl, HR⟩ := hrel
    by_cases hlt : k < p.reps.length
    · obtain ⟨ea, hc, hga⟩ := HA.out.addr.resolve_left (by omega)
      have CL := cells_later HA.out.cells HR.out.2.bel hga
      have EL : ERpl wr (seg lo b) (Fa k) (p.reps.getD k default) := keepsRpl _ _ _ _ _ _ (HA.out.el k hlt) (fun g hg => HR.out.2.bel.block g (hS g hg)) (fun _ _ => rfl)
      obtain ⟨AS, cS, ⟨d0, d1, d2, d3, d4, d5⟩, LA⟩ := rpl_cells (i := k) (fun j hj => CL k hlt j hj) EL
      have LA' := Seg.hid LA
      have VF := Seg.hid (OldL.few_log (L0.out k hlt))
      have HD := HR.out.1
      rw [drop_cons hlt] at HD
      have HD' := Seg.hid HD
      have h0 : (0 : Int) ≤ (k : Int) := by omega
      have h1 : (k : Int) < (p.reps.length : Int) := by omega
      have hlw : w.heap.size < wr.heap.size := (Array.getElem?_eq_some_iff.1 HR.out.2.rp).1
      have hbr : b ≤ wr.heap.size := Nat.le_trans hb HR.out.2.bel.size
      clear CL EL LA HD
      generalize p.reps.getD k default = r at *
      subst ea
      go_upto_region 4 with fail
      have R0 : Hid (Rr w (wr.alloc (.cells #[.int .i64 r.start, .int .i64 r.next, .int .i64 r.roll, .slice AS r.segs.length cS, .int .i64 r.mark, .bool r.up] 69 (0, 0))) w.heap.size wr.heap.size r p (some ⟨ga, oa, none⟩) A3 A4 AS c0 c3 c4 cS) := ⟨heap_alloc_new _ _, ((below1 wr _).block w.heap.size hlw).trans HR.out.2.rp, chain HR.out.2.bel (below1 wr _)⟩
      have LA2 : Hid (LogAt (wr.alloc (.cells #[.int .i64 r.start, .int .i64 r.next, .int .i64 r.roll, .slice AS r.segs.length cS, .int .i64 r.mark, .bool r.up] 69 (0, 0))) lo b (.agg #[.int .i64 r.start, .int .i64 r.next, .int .i64 r.roll, .slice AS r.segs.length cS]) (lg r)) := LA'.out.below ((below1 wr _).mono hbr)
      have hbi : b ≤ (wr.alloc (.cells #[.int .i64 r.start, .int .i64 r.next, .int .i64 r.roll, .slice AS r.segs.length cS, .int .i64 r.mark, .bool r.up] 69 (0, 0))).heap.size := by rw [hsz]; omega
      generalize wr.alloc (.cells #[.int .i64 r.start, .int .i64 r.next, .int .i64 r.roll, .slice AS r.segs.length cS, .int .i64 r.mark, .bool r.up] 69 (0, 0)) = wi at *
      clear d0 d1 d2 d3 d4 d5 LA' HR
      have LC : Hid (∀ wx, Below wi.heap.size wi wx → Calls Try.prog 26 #[.agg #[.int .i64 r.start, .int .i64 r.next, .int .i64 r.roll, .slice AS r.segs.length cS]] wx fun e w' => e = .returned (.bool (logOk (lg r))) ∧ Below wx.heap.size wx w') := fun wx bx => LgI.impl_any _ (lg r) wx lo b (LA2.out.below (bx.mono hbi)) (Nat.le_trans hbi bx.size) VF.out
      obtain ⟨s0, s1, s2, s3, s4, s5⟩ := R0.out.cells
      obtain ⟨u0, u2, u4⟩ := R0.out.cellp
      have ST : Hid (∀ wx, Below wi.heap.size wi wx → wx.cell? ⟨wr.heap.size, 0, none⟩ = some (.int .i64 r.start) ∧ wx.cell? ⟨wr.heap.size, 1, none⟩ = some (.int .i64 r.next) ∧ wx.cell? ⟨wr.heap.size, 2, none⟩ = some (.int .i64 r.roll) ∧ wx.cell? ⟨wr.heap.size, 3, none⟩ = some (.slice AS r.segs.length cS) ∧ wx.cell? ⟨wr.heap.size, 4, none⟩ = some (.int .i64 r.mark) ∧ wx.cell? ⟨w.heap.size, 2, none⟩ = some (.int .i64 p.epoch)) := fun wx bx => by
        obtain ⟨s0, s1, s2, s3, s4, s5⟩ := (R0.out.next bx).cells
        obtain ⟨u0, u2, u4⟩ := (R0.out.next bx).cellp
        exact ⟨s0, s1, s2, s3, s4, u2⟩
      cases hl : logOk (lg r) with
      | false =>
        rw [hl] at LC
        have Z : Hid (false = t) := by show _ = _; rw [← HD'.out]; simp [reps, repOk, hl]
        clear hl
        refine wp_region_held_drew (S := (fun w' => w'.cell? ⟨wr.heap.size, 0, none⟩ = some (.int .i64 r.start) ∧ w'.cell? ⟨wr.heap.size, 1, none⟩ = some (.int .i64 r.next) ∧ w'.cell? ⟨wr.heap.size, 2, none⟩ = some (.int .i64 r.roll) ∧ w'.cell? ⟨wr.heap.size, 3, none⟩ = some (.slice AS r.segs.length cS) ∧ w'.cell? ⟨wr.heap.size, 4, none⟩ = some (.int .i64 r.mark) ∧ w'.cell? ⟨w.heap.size, 2, none⟩ = some (.int .i64 p.epoch))) (by kernel_rfl) (ST.out _ (Below.refl _ _).drew) (fun hHeld => ?_)
        refine Hd.take 0 (some 12) (.pointer (some ⟨wr.heap.size, 0, none⟩)) rfl rfl (by kernel_rfl) (by kernel_rfl) (by kernel_rfl) (fun _ _ _ h => h) (by rfl) (by intro w hSw; (try dsimp only at hSw); go_simp) (by assumption) ?_
        try simp only [Act.put, List.setIfInBounds_toArray, List.set_cons_zero, List.set_cons_succ]
        refine Hd.take 1 (some 13) (.agg #[.int .i64 r.start, .int .i64 r.next, .int .i64 r.roll, .slice AS r.segs.length cS]) rfl rfl (by kernel_rfl) (by kernel_rfl) (by kernel_rfl) (fun _ _ _ h => h) (by rfl) (by intro w hSw; (try dsimp only at hSw); go_simp) (by assumption) ?_
        try simp only [Act.put, List.setIfInBounds_toArray, List.set_cons_zero, List.set_cons_succ]
        refine wpAnyH_ready (rs := [2]) (by kernel_rfl) (by simp) ?_
        refine AllReadyH.cons (o := { dst := some 14, op := Op.call { callee := Callee.value (Operand.func 26), args := #[Operand.tmp 13], argTypes := #[28] }, type := 4, pos := "l05_replica.go:70", after := #[{ on := 1, ground := Ground.data }], guard := none }) rfl (fun K hK => ?_) AllReadyH.nil
        (go_simp; go_at_call 26; refine (LC.out wi.drew (Below.refl _ _).drew).mono ?_; rintro e w8 ⟨rfl, b8⟩; have B8 : Hid (Below wi.heap.size wi w8) := ⟨b8.os, b8.tape, b8.output, b8.size, b8.block⟩; clear b8; try (go_wp2_with fail))
        refine hK.out _ _ (ST.out _ B8.out) (fun hHeld => ?_)
        clear hK K
        try simp only [Act.put, List.setIfInBounds_toArray, List.set_cons_zero, List.set_cons_succ]
        refine Hd.take 3 (some 15) (.bool true) rfl rfl (by kernel_rfl) (by kernel_rfl) (by kernel_rfl) (fun _ _ _ h => h) (by rfl) (by intro w hSw; (try dsimp only at hSw); go_simp) (by assumption) ?_
        try simp only [Act.put, List.setIfInBounds_toArray, List.set_cons_zero, List.set_cons_succ]
        refine Hd.take 4 (some 16) (.bool true) rfl rfl (by kernel_rfl) (by kernel_rfl) (by kernel_rfl) (fun _ _ _ h => h) (by rfl) (by intro w hSw; (try dsimp only at hSw); go_simp) (by assumption) ?_
        try simp only [Act.put, List.setIfInBounds_toArray, List.set_cons_zero, List.set_cons_succ]
        refine Hd.skip 5 (some 17) rfl rfl (by kernel_rfl) (by kernel_rfl) (by kernel_rfl) (fun _ _ _ h => h) (by rfl) (by assumption) ?_
        try simp only [Act.put, List.setIfInBounds_toArray, List.set_cons_zero, List.set_cons_succ]
        refine Hd.skip 6 (some 18) rfl rfl (by kernel_rfl) (by kernel_rfl) (by kernel_rfl) (fun _ _ _ h => h) (by rfl) (by assumption) ?_
        try simp only [Act.put, List.setIfInBounds_toArray, List.set_cons_zero, List.set_cons_succ]
        refine Hd.skip 7 (some 19) rfl rfl (by kernel_rfl) (by kernel_rfl) (by kernel_rfl) (fun _ _ _ h => h) (by rfl) (by assumption) ?_
        try simp only [Act.put, List.setIfInBounds_toArray, List.set_cons_zero, List.set_cons_succ]
        refine Hd.skip 8 (some 20) rfl rfl (by kernel_rfl) (by kernel_rfl) (by kernel_rfl) (fun _ _ _ h => h) (by rfl) (by assumption) ?_
        try simp only [Act.put, List.setIfInBounds_toArray, List.set_cons_zero, List.set_cons_succ]
        refine Hd.skip 9 (some 21) rfl rfl (by kernel_rfl) (by kernel_rfl) (by kernel_rfl) (fun _ _ _ h => h) (by rfl) (by assumption) ?_
        try simp only [Act.put, List.setIfInBounds_toArray, List.set_cons_zero, List.set_cons_succ]
        refine Hd.skip 10 (some 22) rfl rfl (by kernel_rfl) (by kernel_rfl) (by kernel_rfl) (fun _ _ _ h => h) (by rfl) (by assumption) ?_
        try simp only [Act.put, List.setIfInBounds_toArray, List.set_cons_zero, List.set_cons_succ]
        refine Hd.skip 11 (some 23) rfl rfl (by kernel_rfl) (by kernel_rfl) (by kernel_rfl) (fun _ _ _ h => h) (by rfl) (by assumption) ?_
        try simp only [Act.put, List.setIfInBounds_toArray, List.set_cons_zero, List.set_cons_succ]
        refine Hd.skip 12 (some 24) rfl rfl (by kernel_rfl) (by kernel_rfl) (by kernel_rfl) (fun _ _ _ h => h) (by rfl) (by assumption) ?_
        try simp only [Act.put, List.setIfInBounds_toArray, List.set_cons_zero, List.set_cons_succ]
        refine Hd.skip 13 (some 25) rfl rfl (by kernel_rfl) (by kernel_rfl) (by kernel_rfl) (fun _ _ _ h => h) (by rfl) (by assumption) ?_
        try simp only [Act.put, List.setIfInBounds_toArray, List.set_cons_zero, List.set_cons_succ]
        refine Hd.skip 14 (some 26) rfl rfl (by kernel_rfl) (by kernel_rfl) (by kernel_rfl) (fun _ _ _ h => h) (by rfl) (by assumption) ?_
        try simp only [Act.put, List.setIfInBounds_toArray, List.set_cons_zero, List.set_cons_succ]
        refine Hd.take 15 (some 27) (.bool true) rfl rfl (by kernel_rfl) (by kernel_rfl) (by kernel_rfl) (fun _ _ _ h => h) (by rfl) (by intro w hSw; (try dsimp only at hSw); go_simp) (by assumption) ?_
        try simp only [Act.put, List.setIfInBounds_toArray, List.set_cons_zero, List.set_cons_succ]
        refine Hd.take 16 (some 28) (.bool true) rfl rfl (by kernel_rfl) (by kernel_rfl) (by kernel_rfl) (fun _ _ _ h => h) (by rfl) (by intro w hSw; (try dsimp only at hSw); go_simp) (by assumption) ?_
        try simp only [Act.put, List.setIfInBounds_toArray, List.set_cons_zero, List.set_cons_succ]
        refine Hd.skip 17 (some 29) rfl rfl (by kernel_rfl) (by kernel_rfl) (by kernel_rfl) (fun _ _ _ h => h) (by rfl) (by assumption) ?_
        try simp only [Act.put, List.setIfInBounds_toArray, List.set_cons_zero, List.set_cons_succ]
        refine Hd.skip 18 (some 30) rfl rfl (by kernel_rfl) (by kernel_rfl) (by kernel_rfl) (fun _ _ _ h => h) (by rfl) (by assumption) ?_
        try simp only [Act.put, List.setIfInBounds_toArray, List.set_cons_zero, List.set_cons_succ]
        refine Hd.skip 19 (some 31) rfl rfl (by kernel_rfl) (by kernel_rfl) (by kernel_rfl) (fun _ _ _ h => h) (by rfl) (by assumption) ?_
        try simp only [Act.put, List.setIfInBounds_toArray, List.set_cons_zero, List.set_cons_succ]
        refine Hd.skip 20 (some 32) rfl rfl (by kernel_rfl) (by kernel_rfl) (by kernel_rfl) (fun _ _ _ h => h) (by rfl) (by assumption) ?_
        try simp only [Act.put, List.setIfInBounds_toArray, List.set_cons_zero, List.set_cons_succ]
        refine Hd.skip 21 (some 33) rfl rfl (by kernel_rfl) (by kernel_rfl) (by kernel_rfl) (fun _ _ _ h => h) (by rfl) (by assumption) ?_
        try simp only [Act.put, List.setIfInBounds_toArray, List.set_cons_zero, List.set_cons_succ]
        refine Hd.skip 22 (some 34) rfl rfl (by kernel_rfl) (by kernel_rfl) (by kernel_rfl) (fun _ _ _ h => h) (by rfl) (by assumption) ?_
        try simp only [Act.put, List.setIfInBounds_toArray, List.set_cons_zero, List.set_cons_succ]
        refine Hd.skip 23 (some 35) rfl rfl (by kernel_rfl) (by kernel_rfl) (by kernel_rfl) (fun _ _ _ h => h) (by rfl) (by assumption) ?_
        try simp only [Act.put, List.setIfInBounds_toArray, List.set_cons_zero, List.set_cons_succ]
        refine Hd.take 24 (some 36) (.bool true) rfl rfl (by kernel_rfl) (by kernel_rfl) (by kernel_rfl) (fun _ _ _ h => h) (by rfl) (by intro w hSw; (try dsimp only at hSw); go_simp) (by assumption) ?_
        try simp only [Act.put, List.setIfInBounds_toArray, List.set_cons_zero, List.set_cons_succ]
        refine wpAnyH_done (by kernel_rfl) ?_ _
        go_wp2
        go_ret
        exact ⟨Seg.ret_bool Z.out, (R0.out.next B8.out).bel⟩
      | true =>
        rw [hl] at LC
        obtain ⟨f, o1, o2, o3, o4, o5, o6, o7⟩ := Of.ok_all hl
        have LE : Hid (∀ wx, Below wi.heap.size wi wx → Calls Try.prog 87 #[.slice AS r.segs.length cS] wx fun e w' => e = .returned (.int .i64 (lastE 0 (flatB r.segs))) ∧ Below wx.heap.size wx w') := fun wx bx => by
          obtain ⟨hv', e1, hs'⟩ := LA2.out.below (bx.mono hbi)
          have : hv' = .slice AS r.segs.length cS := by simp only [LogW.logVal, Value.agg.injEq, Array.mk.injEq, List.cons.injEq, and_true] at e1; exact e1.2.2.2.symm
          rw [this] at hs'
          exact Eo.lastEpoch_any _ r.segs f wx lo b (Nat.le_trans hbi bx.size) VF.out.1.1 VF.out.1.2 o1 (by rw [Of.flat_count]; exact o7) hs'
        have KL := Seg.hid hl
        clear hl o1 o2 o3 o4 o5 o6 o7
        cases hm : inR r.start r.mark r.next with
        | false =>
          have Z : Hid (false = t) := by show _ = _; rw [← HD'.out]; simp [reps, repOk, hm]
          have HM := Seg.hid hm
          clear hm
          refine wp_region_held_drew (S := (fun w' => w'.cell? ⟨wr.heap.size, 0, none⟩ = some (.int .i64 r.start) ∧ w'.cell? ⟨wr.heap.size, 1, none⟩ = some (.int .i64 r.next) ∧ w'.cell? ⟨wr.heap.size, 2, none⟩ = some (.int .i64 r.roll) ∧ w'.cell? ⟨wr.heap.size, 3, none⟩ = some (.slice AS r.segs.length cS) ∧ w'.cell? ⟨wr.heap.size, 4, none⟩ = some (.int .i64 r.mark) ∧ w'.cell? ⟨w.heap.size, 2, none⟩ = some (.int .i64 p.epoch))) (by kernel_rfl) (ST.out _ (Below.refl _ _).drew) (fun hHeld => ?_)
          refine Hd.take 0 (some 12) (.pointer (some ⟨wr.heap.size, 0, none⟩)) rfl rfl (by kernel_rfl) (by kernel_rfl) (by kernel_rfl) (fun _ _ _ h => h) (by rfl) (by intro w hSw; (try dsimp only at hSw); go_simp) (by assumption) ?_
          try simp only [Act.put, List.setIfInBounds_toArray, List.set_cons_zero, List.set_cons_succ]
          refine Hd.take 1 (some 13) (.agg #[.int .i64 r.start, .int .i64 r.next, .int .i64 r.roll, .slice AS r.segs.length cS]) rfl rfl (by kernel_rfl) (by kernel_rfl) (by kernel_rfl) (fun _ _ _ h => h) (by rfl) (by intro w hSw; (try dsimp only at hSw); go_simp) (by assumption) ?_
          try simp only [Act.put, List.setIfInBounds_toArray, List.set_cons_zero, List.set_cons_succ]
          refine wpAnyH_ready (rs := [2]) (by kernel_rfl) (by simp) ?_
          refine AllReadyH.cons (o := { dst := some 14, op := Op.call { callee := Callee.value (Operand.func 26), args := #[Operand.tmp 13], argTypes := #[28] }, type := 4, pos := "l05_replica.go:70", after := #[{ on := 1, ground := Ground.data }], guard := none }) rfl (fun K hK => ?_) AllReadyH.nil
          (go_simp; go_at_call 26; refine (LC.out wi.drew (Below.refl _ _).drew).mono ?_; rintro e w8 ⟨rfl, b8⟩; have B8 : Hid (Below wi.heap.size wi w8) := ⟨b8.os, b8.tape, b8.output, b8.size, b8.block⟩; clear b8; try (go_wp2_with fail))
          refine hK.out _ _ (ST.out _ B8.out) (fun hHeld => ?_)
          clear hK K
          try simp only [Act.put, List.setIfInBounds_toArray, List.set_cons_zero, List.set_cons_succ]
          refine Hd.take 3 (some 15) (.bool false) rfl rfl (by kernel_rfl) (by kernel_rfl) (by kernel_rfl) (fun _ _ _ h => h) (by rfl) (by intro w hSw; (try dsimp only at hSw); go_simp) (by assumption) ?_
          try simp only [Act.put, List.setIfInBounds_toArray, List.set_cons_zero, List.set_cons_succ]
          refine Hd.take 4 (some 16) (.bool false) rfl rfl (by kernel_rfl) (by kernel_rfl) (by kernel_rfl) (fun _ _ _ h => h) (by rfl) (by intro w hSw; (try dsimp only at hSw); go_simp) (by assumption) ?_
          try simp only [Act.put, List.setIfInBounds_toArray, List.set_cons_zero, List.set_cons_succ]
          refine Hd.take 5 (some 17) (.pointer (some ⟨wr.heap.size, 4, none⟩)) rfl rfl (by kernel_rfl) (by kernel_rfl) (by kernel_rfl) (fun _ _ _ h => h) (by rfl) (by intro w hSw; (try dsimp only at hSw); go_simp) (by assumption) ?_
          try simp only [Act.put, List.setIfInBounds_toArray, List.set_cons_zero, List.set_cons_succ]
          refine Hd.take 6 (some 18) (.int .i64 r.mark) rfl rfl (by kernel_rfl) (by kernel_rfl) (by kernel_rfl) (fun _ _ _ h => h) (by rfl) (by intro w hSw; (try dsimp only at hSw); go_simp) (by assumption) ?_
          try simp only [Act.put, List.setIfInBounds_toArray, List.set_cons_zero, List.set_cons_succ]
          refine Hd.take 7 (some 19) (.pointer (some ⟨wr.heap.size, 0, none⟩)) rfl rfl (by kernel_rfl) (by kernel_rfl) (by kernel_rfl) (fun _ _ _ h => h) (by rfl) (by intro w hSw; (try dsimp only at hSw); go_simp) (by assumption) ?_
          try simp only [Act.put, List.setIfInBounds_toArray, List.set_cons_zero, List.set_cons_succ]
          refine Hd.take 8 (some 20) (.pointer (some ⟨wr.heap.size, 0, none⟩)) rfl rfl (by kernel_rfl) (by kernel_rfl) (by kernel_rfl) (fun _ _ _ h => h) (by rfl) (by intro w hSw; (try dsimp only at hSw); go_simp) (by assumption) ?_
          try simp only [Act.put, List.setIfInBounds_toArray, List.set_cons_zero, List.set_cons_succ]
          refine Hd.take 9 (some 21) (.int .i64 r.start) rfl rfl (by kernel_rfl) (by kernel_rfl) (by kernel_rfl) (fun _ _ _ h => h) (by rfl) (by intro w hSw; (try dsimp only at hSw); go_simp) (by assumption) ?_
          try simp only [Act.put, List.setIfInBounds_toArray, List.set_cons_zero, List.set_cons_succ]
          refine Hd.take 10 (some 22) (.pointer (some ⟨wr.heap.size, 0, none⟩)) rfl rfl (by kernel_rfl) (by kernel_rfl) (by kernel_rfl) (fun _ _ _ h => h) (by rfl) (by intro w hSw; (try dsimp only at hSw); go_simp) (by assumption) ?_
          try simp only [Act.put, List.setIfInBounds_toArray, List.set_cons_zero, List.set_cons_succ]
          refine Hd.take 11 (some 23) (.pointer (some ⟨wr.heap.size, 1, none⟩)) rfl rfl (by kernel_rfl) (by kernel_rfl) (by kernel_rfl) (fun _ _ _ h => h) (by rfl) (by intro w hSw; (try dsimp only at hSw); go_simp) (by assumption) ?_
          try simp only [Act.put, List.setIfInBounds_toArray, List.set_cons_zero, List.set_cons_succ]
          refine Hd.take 12 (some 24) (.int .i64 r.next) rfl rfl (by kernel_rfl) (by kernel_rfl) (by kernel_rfl) (fun _ _ _ h => h) (by rfl) (by intro w hSw; (try dsimp only at hSw); go_simp) (by assumption) ?_
          try simp only [Act.put, List.setIfInBounds_toArray, List.set_cons_zero, List.set_cons_succ]
          refine wpAnyH_ready (rs := [13]) (by kernel_rfl) (by simp) ?_
          refine AllReadyH.cons (o := { dst := some 25, op := Op.call { callee := Callee.value (Operand.func 27), args := #[Operand.tmp 18, Operand.tmp 21, Operand.tmp 24], argTypes := #[3, 3, 3] }, type := 4, pos := "l05_replica.go:70", after := #[{ on := 6, ground := Ground.data }, { on := 9, ground := Ground.data }, { on := 12, ground := Ground.data }, { on := 4, ground := Ground.chain }, { on := 4, ground := Ground.guard }], guard := some (4, false) }) rfl (fun K hK => ?_) AllReadyH.nil
          (go_simp; go_at_call 27; refine (InB.within_b _ _ _ false HM.out _).mono ?_; rintro e w9 ⟨rfl, rfl⟩; try (go_wp2_with fail))
          refine hK.out _ _ (ST.out _ B8.out) (fun hHeld => ?_)
          clear hK K
          try simp only [Act.put, List.setIfInBounds_toArray, List.set_cons_zero, List.set_cons_succ]
          refine Hd.take 14 (some 26) (.bool true) rfl rfl (by kernel_rfl) (by kernel_rfl) (by kernel_rfl) (fun _ _ _ h => h) (by rfl) (by intro w hSw; (try dsimp only at hSw); go_simp) (by assumption) ?_
          try simp only [Act.put, List.setIfInBounds_toArray, List.set_cons_zero, List.set_cons_succ]
          refine Hd.take 15 (some 27) (.bool true) rfl rfl (by kernel_rfl) (by kernel_rfl) (by kernel_rfl) (fun _ _ _ h => h) (by rfl) (by intro w hSw; (try dsimp only at hSw); go_simp) (by assumption) ?_
          try simp only [Act.put, List.setIfInBounds_toArray, List.set_cons_zero, List.set_cons_succ]
          refine Hd.take 16 (some 28) (.bool true) rfl rfl (by kernel_rfl) (by kernel_rfl) (by kernel_rfl) (fun _ _ _ h => h) (by rfl) (by intro w hSw; (try dsimp only at hSw); go_simp) (by assumption) ?_
          try simp only [Act.put, List.setIfInBounds_toArray, List.set_cons_zero, List.set_cons_succ]
          refine Hd.skip 17 (some 29) rfl rfl (by kernel_rfl) (by kernel_rfl) (by kernel_rfl) (fun _ _ _ h => h) (by rfl) (by assumption) ?_
          try simp only [Act.put, List.setIfInBounds_toArray, List.set_cons_zero, List.set_cons_succ]
          refine Hd.skip 18 (some 30) rfl rfl (by kernel_rfl) (by kernel_rfl) (by kernel_rfl) (fun _ _ _ h => h) (by rfl) (by assumption) ?_
          try simp only [Act.put, List.setIfInBounds_toArray, List.set_cons_zero, List.set_cons_succ]
          refine Hd.skip 19 (some 31) rfl rfl (by kernel_rfl) (by kernel_rfl) (by kernel_rfl) (fun _ _ _ h => h) (by rfl) (by assumption) ?_
          try simp only [Act.put, List.setIfInBounds_toArray, List.set_cons_zero, List.set_cons_succ]
          refine Hd.skip 20 (some 32) rfl rfl (by kernel_rfl) (by kernel_rfl) (by kernel_rfl) (fun _ _ _ h => h) (by rfl) (by assumption) ?_
          try simp only [Act.put, List.setIfInBounds_toArray, List.set_cons_zero, List.set_cons_succ]
          refine Hd.skip 21 (some 33) rfl rfl (by kernel_rfl) (by kernel_rfl) (by kernel_rfl) (fun _ _ _ h => h) (by rfl) (by assumption) ?_
          try simp only [Act.put, List.setIfInBounds_toArray, List.set_cons_zero, List.set_cons_succ]
          refine Hd.skip 22 (some 34) rfl rfl (by kernel_rfl) (by kernel_rfl) (by kernel_rfl) (fun _ _ _ h => h) (by rfl) (by assumption) ?_
          try simp only [Act.put, List.setIfInBounds_toArray, List.set_cons_zero, List.set_cons_succ]
          refine Hd.skip 23 (some 35) rfl rfl (by kernel_rfl) (by kernel_rfl) (by kernel_rfl) (fun _ _ _ h => h) (by rfl) (by assumption) ?_
          try simp only [Act.put, List.setIfInBounds_toArray, List.set_cons_zero, List.set_cons_succ]
          refine Hd.take 24 (some 36) (.bool true) rfl rfl (by kernel_rfl) (by kernel_rfl) (by kernel_rfl) (fun _ _ _ h => h) (by rfl) (by intro w hSw; (try dsimp only at hSw); go_simp) (by assumption) ?_
          try simp only [Act.put, List.setIfInBounds_toArray, List.set_cons_zero, List.set_cons_succ]
          refine wpAnyH_done (by kernel_rfl) ?_ _
          go_wp2
          go_ret
          exact ⟨Seg.ret_bool Z.out, (R0.out.next B8.out).bel⟩
        | true =>
          have HM := Seg.hid hm
          clear hm
          obtain ⟨ee, hee⟩ : ∃ ee, lastE 0 (flatB r.segs) = ee := ⟨_, rfl⟩
          rw [hee] at LE
          have HEE := Seg.hid hee
          clear hee
          go_region_held3 (fun w' => w'.cell? ⟨wr.heap.size, 0, none⟩ = some (.int .i64 r.start) ∧ w'.cell? ⟨wr.heap.size, 1, none⟩ = some (.int .i64 r.next) ∧ w'.cell? ⟨wr.heap.size, 2, none⟩ = some (.int .i64 r.roll) ∧ w'.cell? ⟨wr.heap.size, 3, none⟩ = some (.slice AS r.segs.length cS) ∧ w'.cell? ⟨wr.heap.size, 4, none⟩ = some (.int .i64 r.mark) ∧ w'.cell? ⟨w.heap.size, 2, none⟩ = some (.int .i64 p.epoch)) (first | exact ST.out _ B10.out | exact ST.out _ B8.out | exact ST.out _ (Below.refl _ _).drew | exact ST.out _ (Below.refl _ _) | go_keep)
            (first | (go_at_call 26; refine (LC.out wi.drew (Below.refl _ _).drew).mono ?_; rintro e w8 ⟨rfl, b8⟩; have B8 : Hid (Below wi.heap.size wi w8) := ⟨b8.os, b8.tape, b8.output, b8.size, b8.block⟩; clear b8) | (go_at_call 27; refine (InB.within_b _ _ _ true HM.out _).mono ?_; rintro e w9 ⟨rfl, rfl⟩) | (go_at_call 87; refine (LE.out w8 B8.out).mono ?_; rintro e w10 ⟨rfl, b10⟩; have B10 := Seg.hid (chain B8.out b10); clear b10))
          by_cases hgt : p.epoch < ee
          · have Z : Hid (false = t) := by show _ = _; rw [← HD'.out]; simp [reps, repOk, HEE.out, show ¬ ee ≤ p.epoch by omega]
            have hg2 : decide (p.epoch < ee) = true := decide_eq_true hgt
            go_wp2
            go_ret
            exact ⟨Seg.ret_bool Z.out, (R0.out.next B10.out).bel⟩
          · have HE : Hid (reps p.epoch (p.reps.drop (k + 1)) = t) := by show _ = _; rw [← HD'.out]; simp [reps, repOk, KL.out, HM.out, HEE.out, show ee ≤ p.epoch by omega]
            have hg2 : decide (p.epoch < ee) = false := decide_eq_false hgt
            go_wp2
            go_roundw
            case rel => exact ⟨k + 1, by omega, by go_num, HE.out, (R0.out.next B10.out).rp, (R0.out.next B10.out).bel⟩
            case measure => simp [intOf]; omega
    · have hk' : k = p.reps.length := by omega
      have Z : Hid (true = t) := by
        show _ = _
        have := HR.out.1
        rw [List.drop_eq_nil_of_le (by omega)] at this
        rw [← this]; rfl
      subst hk'
      go_wp2
      go_ret
      exact ⟨Seg.ret_bool Z.out, HR.out.2.bel⟩
set_option maxHeartbeats 800000 in
theorem insy_any (v : Value) (p : Prt) (t : Bool) (w : World) (lo b : Nat) (hv : PrtAt w (seg lo b) v p) (hb : b ≤ w.heap.size) (hn : 1 ≤ p.reps.length ∧ p.reps.length ≤ 5) (ht : insy p = t) :
    Calls Try.prog 68 #[v] w fun e w' => e = .returned (.bool t) ∧ Below w.heap.size w w' := by
  have hS : ∀ g, seg lo b g → g < w.heap.size := fun g hg => Nat.lt_of_lt_of_le hg.2 hb
  obtain ⟨A0, c0, A3, c3, A4, c4, rfl⟩ := form hv
  have HI := Seg.hid (parts hv).2.1
  have HT := Seg.hid ht
  have e1 : IntKind.i64.wrap ((p.reps.length : Int) - 1) = (p.reps.length : Int) - 1 := by rw [IntKind.wrap_i64] <;> omega
  clear hv ht
  go_enter Try.func68, Try.ntmps68
  by_cases hz : p.insync.length = 0
  · have Z : Hid (false = t) := by show _ = _; rw [← HT.out]; simp [insy, hz]
    have h0 : ¬ (0 : Int) < (p.insync.length : Int) := by omega
    have h1 : ¬ 0 < p.insync.length := by omega
    clear hz
    go_wp2
    go_ret
    exact ⟨Seg.ret_bool (by first | exact Z.out | (rw [← Z.out]; simp; omega)), below1 _ _⟩
  · have Z : Hid (asc ((p.reps.length : Int) - 1) (-1) p.insync = t) := by show _ = _; rw [← HT.out]; simp [insy, show 0 < p.insync.length by omega]
    have h0 : (0 : Int) < (p.insync.length : Int) := by omega
    have h1 : 0 < p.insync.length := by omega
    clear hz
    go_wp2_with fail
    refine (asc_any _ p.insync _ t (w.alloc _) (seg lo b) (HI.out.below keepsI (below1 w _) hS) (by omega) Z.out).mono ?_
    rintro e w1 ⟨rfl, rfl⟩
    go_wp2
    go_ret
    exact ⟨rfl, below1 _ _⟩
set_option maxHeartbeats 800000 in
theorem known_any (v : Value) (p : Prt) (t : Bool) (w : World) (lo b : Nat) (hv : PrtAt w (seg lo b) v p) (hb : b ≤ w.heap.size) (ht : known p = t) :
    Calls Try.prog 70 #[v] w fun e w' => e = .returned (.bool t) ∧ Below w.heap.size w w' := by
  have hS : ∀ g, seg lo b g → g < w.heap.size := fun g hg => Nat.lt_of_lt_of_le hg.2 hb
  obtain ⟨A0, c0, A3, c3, A4, c4, rfl⟩ := form hv
  have HI := Seg.hid (parts hv).2.2
  have HT := Seg.hid ht
  clear hv ht
  go_enter Try.func70, Try.ntmps70
  go_wp2_with fail
  refine (all_any _ p.known _ _ t (w.alloc _) (seg lo b) (HI.out.below keepsI (below1 w _) hS) HT.out).mono ?_
  rintro e w1 ⟨rfl, rfl⟩
  go_wp2
  go_ret
  exact ⟨rfl, below1 _ _⟩
set_option maxHeartbeats 1600000 in
theorem lead_any (v : Value) (p : Prt) (t : Bool) (w : World) (lo b : Nat) (hv : PrtAt w (seg lo b) v p) (hb : b ≤ w.heap.size) (hn : 1 ≤ p.reps.length ∧ p.reps.length ≤ 5) (ht : lead p = t) :
    Calls Try.prog 69 #[v] w fun e w' => e = .returned (.bool t) ∧ Below w.heap.size w w' := by
  have hS : ∀ g, seg lo b g → g < w.heap.size := fun g hg => Nat.lt_of_lt_of_le hg.2 hb
  obtain ⟨A0, c0, A3, c3, A4, c4, rfl⟩ := form hv
  obtain ⟨A0', c0', ga, oa, Fa, g0, OA, n0⟩ := opn ((parts hv).1.below keepsRpl (below1 w (.cells #[.slice A0 p.reps.length c0, .int .i64 p.leader, .int .i64 p.epoch, .slice A3 p.insync.length c3, .slice A4 p.known.length c4, .int .i64 p.least] 44 (0, 0))) hS) (fun g hg => by rw [hsz]; have := hS g hg; omega)
  simp only [Value.slice.injEq, true_and] at g0
  obtain ⟨rfl, rfl⟩ := g0
  have HA := Seg.hid OA
  have HI := Seg.hid (parts hv).2.1
  have HT := Seg.hid ht
  have e1 : IntKind.i64.wrap ((p.reps.length : Int) - 1) = (p.reps.length : Int) - 1 := by rw [IntKind.wrap_i64] <;> omega
  clear hv ht OA
  go_enter Try.func69, Try.ntmps69
  by_cases hl : p.leader = -1
  · have Z : Hid (true = t) := by show _ = _; rw [← HT.out]; simp [lead, hl]
    have h2 : (p.leader == -1) = true := by simp [hl]
    clear hl
    go_wp2
    go_ret
    exact ⟨Seg.ret_bool Z.out, below1 _ _⟩
  have HT2 : Hid ((inR 0 p.leader ((p.reps.length : Int) - 1) && ((p.reps.getD p.leader.toNat default).up && has p.leader p.insync)) = t) := by show _ = _; rw [← HT.out]; simp [lead, hl]
  have h2 : (p.leader == -1) = false := by simpa using hl
  clear hl HT
  cases hr : inR 0 p.leader ((p.reps.length : Int) - 1) with
  | false =>
    have Z : Hid (false = t) := by show _ = _; rw [← HT2.out, hr]; rfl
    go_wp2_with fail
    refine (InB.within_b _ _ _ false hr _).mono ?_
    rintro e w1 ⟨rfl, rfl⟩
    clear hr
    go_wp2
    go_ret
    exact ⟨Seg.ret_bool Z.out, below1 _ _⟩
  | true =>
    obtain ⟨m, hm⟩ : ∃ m : Nat, p.leader = (m : Int) := ⟨p.leader.toNat, by simp [inR] at hr; omega⟩
    have hmn : m < p.reps.length := by simp [inR] at hr; omega
    have HT3 : Hid (((p.reps.getD m default).up && has p.leader p.insync) = t) := by
      show _ = _
      rw [← HT2.out, hr, Bool.true_and]
      rw [show p.leader.toNat = m by rw [hm]; simp]
    obtain ⟨ea, hc, hga⟩ := HA.out.addr.resolve_left (by omega)
    obtain ⟨AS, cS, ⟨d0, d1, d2, d3, d4, d5⟩, _⟩ := rpl_cells (i := m) (fun j hj => HA.out.cells m hmn j hj) (HA.out.el m hmn)
    have h0 : (0 : Int) ≤ (m : Int) := by omega
    have h1 : (m : Int) < (p.reps.length : Int) := by omega
    have HRR := Seg.hid hr
    clear hr HT2 d0 d1 d2 d3 d4
    generalize p.reps.getD m default = r at *
    generalize p.leader = ld at *
    subst hm
    subst ea
    go_wp2_with fail
    refine (InB.within_b _ _ _ true HRR.out _).mono ?_
    rintro e w1 ⟨rfl, rfl⟩
    cases hu : r.up with
    | false =>
      have Z : Hid (false = t) := by show _ = _; rw [← HT3.out, hu]; rfl
      rw [hu] at d5
      clear hu
      go_wp2
      go_ret
      exact ⟨Seg.ret_bool Z.out, below1 _ _⟩
    | true =>
      have Z : Hid (has (m : Int) p.insync = t) := by show _ = _; rw [← HT3.out, hu]; rfl
      rw [hu] at d5
      clear hu
      go_wp2_with fail
      refine (contains_any _ p.insync _ t (w.alloc _) (seg lo b) (HI.out.below keepsI (below1 w _) hS) (fun g hg => by rw [hsz]; have := hS g hg; omega) Z.out).mono ?_
      rintro e w1 ⟨rfl, rfl⟩
      go_wp2
      go_ret
      exact ⟨rfl, below1 _ _⟩
end Go.Proofs.Yticihnoekffelaa.PoI
