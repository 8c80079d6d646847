/- The program's Safe; The model's LastOffset. -/
import Derived.Scope
import Derived.BigQuiet
import Derived.Deep.AppendLies
import Derived.Test.YticihnoekffelaaJS28
import Derived.Test.YticihnoekffelaaJS29
import Derived.Test.YticihnoekffelaaJS32
import Derived.Test.YticihnoekffelaaJS10
namespace Go.Proofs.Yticihnoekffelaa.SfI
set_option maxRecDepth 8000
open Go.RowKit Go.Shelf
open Ls (Prt Rpl PrtAt szPrt)
open Recs (hsz below1 below2 below3 chain chainD RecsAt Bat Rec Row batVal at3)
open Bats SegW Segs LogW BfP SfP BfQ BfI SfO CtP SfQ
open LgP (logOk)
open PoP (lg)
open Ft (OwnR OwnB OwnS IsC)
open Of (four ok_all flat_count batchesFrom_any keeps_of_below kp_of_below block_own)
set_option linter.unusedVariables false
attribute [local go_sem] Oper.semAt_some
theorem listIn_append {F : Fence} {nn : Nat} {P : Program} {w w' : World} {ops : Array Oper} {rest : List Oper} {o : Oper} {a : Act} {Q : Exit → Act → World → Prop} {v u r : Value} (hgd : o.guard = none) (s x : Operand) (t : TypeId)
    (ho : o.op = .call { callee := .builtin .append, args := #[s, x], argTypes := #[t, t] }) (hs : a.eval s = v) (hx : a.eval x = u) (hr : (Builtin.append_ #[t, t] o.type #[v, u]).run P w = .ok r w') (h : wpListIn F nn P ops Q rest (a.put o.dst r) w') : wpListIn F nn P ops Q (o :: rest) a w := by
  refine wpListIn_plain hgd fun K hK' => ?_
  unfold Oper.wpIn
  refine ⟨by simp [Oper.about, ho, resolve, Target.leads, Sem.run_pure], ?_⟩
  rw [Oper.semAt_plain F _ _ (by rw [ho]; intro c hc'; cases hc')]
  simp [execOp, ho, resolve, invoke, builtin, hs, hx, hr, Result.andThen]
  exact hK' _ _ h
theorem seven {w : World} {g ty : Nat} {t : Bat} {v : Value} (h : w.heap[g]? = some (.cells (BatW.batArr t v) ty (0, 0))) : w.cell? ⟨g, 0, none⟩ = some (.int .i64 t.base) ∧ w.cell? ⟨g, 1, none⟩ = some (.int .i64 t.epoch) ∧ w.cell? ⟨g, 2, none⟩ = some (.int .i64 t.producer) ∧ w.cell? ⟨g, 3, none⟩ = some (.int .i64 t.turn) ∧ w.cell? ⟨g, 4, none⟩ = some (.int .i64 t.seq) ∧ w.cell? ⟨g, 5, none⟩ = some (.int .i64 t.flags) ∧ w.cell? ⟨g, 6, none⟩ = some v :=
  ⟨cell_of_row w g 0 _ _ (0, 0) h, cell_of_row w g 1 _ _ (0, 0) h, cell_of_row w g 2 _ _ (0, 0) h, cell_of_row w g 3 _ _ (0, 0) h, cell_of_row w g 4 _ _ (0, 0) h, cell_of_row w g 5 _ _ (0, 0) h, cell_of_row w g 6 _ _ (0, 0) h⟩
theorem infoBS : (Try.prog.info? 58).map (fun i => (i.zero, i.size, i.bytes)) = some (some (.agg #[.int .i64 0, .int .i64 0, .int .i64 0, .int .i64 0, .int .i64 0, .int .i64 0, .slice none 0 0]), 7, 72) := by kernel_rfl
set_option maxHeartbeats 3200000 in
theorem safe_any (v : Value) (p : Prt) (w : World) (lo b : Nat) (hv : PrtAt w (Ls.seg lo b) v p) (hb : b ≤ w.heap.size) (hf : szPrt p ≤ 1048576) :
    Calls Try.prog 15 #[v] w fun e w' => ∃ v', e = .returned v' ∧ OwnB w' (Ft.seg w.heap.size w'.heap.size) v' (safe p) ∧ Below w.heap.size w w' := by
  obtain ⟨i0, hi, hz0, hz1, hz2⟩ := info_parts infoBS
  have hS : ∀ g, Ls.seg lo b g → g < w.heap.size := fun g hg => Nat.lt_of_lt_of_le hg.2 hb
  have HV := Seg.hid hv
  obtain ⟨A0, c0, A3, c3, A4, c4, rfl⟩ := PoP.form hv
  have HF := Seg.hid hf
  clear hv hf
  refine (callsIn_wide (n := 5)).1 ?_
  refine callsIn_of_wp_marks Try.func15 rfl trivial ?_ rfl
  simp only [Try.ntmps15, List.size_toArray, List.length_cons, List.length_nil, Nat.reduceAdd, Nat.reduceSub, Array.replicate_succ, Array.replicate_zero, List.push_toArray, List.append_toArray, List.nil_append, List.cons_append]
  gi_wp2
  refine ⟨trivial, ?_⟩
  refine (callsIn_wide.2 (PoI.impl_any _ p (((w.alloc _).alloc _).alloc _) lo b (HV.out.below (below3 w _ _ _) hS) (by rw [hsz, hsz, hsz]; omega) HF.out)).mono ?_
  rintro e w1 ⟨rfl, b1⟩
  have B1 := Seg.hid (chain (below3 w _ _ _) b1)
  have T1 : Hid (w1.heap[w.heap.size]? = some (.cells #[.slice A0 p.reps.length c0, .int .i64 p.leader, .int .i64 p.epoch, .slice A3 p.insync.length c3, .slice A4 p.known.length c4, .int .i64 p.least] 44 (0, 0))) := (b1.block w.heap.size (by rw [hsz, hsz, hsz]; omega)).trans (((below1 _ _).block _ (by rw [hsz, hsz]; omega)).trans (((below1 _ _).block _ (by rw [hsz]; omega)).trans (heap_alloc_new _ _)))
  have E1 : Hid (w1.heap[w.heap.size + 1]? = some (.cells #[] 58 (0, 0))) := (b1.block (w.heap.size + 1) (by rw [hsz, hsz, hsz]; omega)).trans (at3 w _ _ _)
  have L1 : Hid (w1.heap[w.heap.size + 1 + 1]? = some (.cells #[.slice (some ⟨w.heap.size + 1, 0, none⟩) 0 0] 40 (0, 0))) := (b1.block (w.heap.size + 1 + 1) (by rw [hsz, hsz, hsz]; omega)).trans (Cells.at3' w _ _ _)
  have s1 := b1.size
  rw [hsz, hsz, hsz] at s1
  clear b1
  have NIL : Hid (∀ wx : World, OwnB wx (Ft.seg w.heap.size wx.heap.size) (.slice (some ⟨w.heap.size + 1, 0, none⟩) 0 0) []) := fun wx => Ft.LOwn.nil _ _ _ _
  have lc : w1.cell? ⟨w.heap.size + 1 + 1, 0, none⟩ = some (.slice (some ⟨w.heap.size + 1, 0, none⟩) 0 0) := cell_of_row w1 (w.heap.size + 1 + 1) 0 _ _ (0, 0) L1.out
  cases hok : PoP.part p with
  | false =>
    have HC : Hid (safe p = []) := safe_no (.inl hok)
    clear hok
    gi_wp2
    exact ⟨_, results_tmp rfl _ _ _, .slice (some ⟨w.heap.size + 1, 0, none⟩) 0 0, rfl, by rw [HC.out]; exact NIL.out _, B1.out⟩
  | true =>
  obtain ⟨x0, x1, x2, x3, x4, x5⟩ := PoI.six T1.out
  by_cases hl : p.leader = -1
  · have HC : Hid (safe p = []) := safe_no (.inr hl)
    have hd : (p.leader == -1) = true := by simp [hl]
    clear hok hl
    gi_wp2
    exact ⟨_, results_tmp rfl _ _ _, .slice (some ⟨w.heap.size + 1, 0, none⟩) 0 0, rfl, by rw [HC.out]; exact NIL.out _, B1.out⟩
  have hd : (p.leader == -1) = false := by simp [hl]
  obtain ⟨l0, l1, lok, lm, ln⟩ := part_lead hok hl
  have hli : p.leader.toNat < p.reps.length := by omega
  obtain ⟨Q0, _, _⟩ := PoP.parts (HV.out.below B1.out hS)
  obtain ⟨_, A', c', hsl, hrow⟩ := Q0
  simp only [Value.slice.injEq] at hsl
  obtain ⟨rfl, _, rfl⟩ := hsl
  obtain ⟨g, o, F, rfl, hg, hc, hcell, hel⟩ := hrow.resolve_left (by omega)
  have hgw : g < w.heap.size := hS g hg
  have hg1 : g < w1.heap.size := by omega
  obtain ⟨AS, cS, ⟨y0, y1, y2, y3, y4, y5⟩, LA⟩ := PoP.rpl_cells (fun j hj => hcell p.leader.toNat hli j hj) (hel p.leader.toNat hli)
  have SF : Hid (safe p = fromB (p.reps.getD p.leader.toNat default).start (flatB (cutSs (p.reps.getD p.leader.toNat default).mark (p.reps.getD p.leader.toNat default).segs))) := by show _ = _; unfold safe; rw [if_pos (by rw [hok]; simp [l0])]
  have LA1 := Seg.hid LA
  have FW : Hid (FewL (lg (p.reps.getD p.leader.toNat default))) := OldL.few_log (Ls.szL_one (l := 1048576) Ls.szRpl (show Ls.szL Ls.szRpl p.reps ≤ 1048576 by have := HF.out; unfold szPrt at this; omega) hli)
  clear hok hl HV HF hcell hel hrow LA
  generalize p.reps.getD p.leader.toNat default = r at *
  have CT := Seg.hid (cut_lead lok lm ln)
  have LOK := Seg.hid lok
  clear lok lm ln
  gi_wp2
  refine ⟨trivial, ?_⟩
  refine (callsIn_wide.2 (Ft.cutTo_any _ (lg r) r.mark (w1.alloc _) lo b (LA1.out.below ((below1 w1 _).mono (by omega))) (by rw [hsz]; omega) FW.out)).mono ?_
  rintro e w3 ⟨sv, rfl, ow, b3⟩
  rw [CT.out] at ow ⊢
  obtain ⟨A5, c5, hsv⟩ := Ft.LOwn.form ow
  subst hsv
  dsimp only at ow ⊢
  have OW := Seg.hid ow
  have B3' := Seg.hid (chain (below1 w1 _) b3)
  have s3 := b3.size
  rw [hsz] at s3 OW
  have B3 := Seg.hid (chain B1.out B3'.out)
  clear ow b3 y0 y1 y2 y3 y4 y5 x0 x1 x2 x3 x4 x5 lc
  unfold logVal
  gi_wp2
  refine ⟨trivial, ?_⟩
  refine (callsIn_wide.2 (batchesFrom_any _ r.start A5 _ c5 (w3.alloc _) rfl)).mono ?_
  rintro e w2 ⟨rfl, a1, a2, b2, a3⟩
  rw [hsz] at a1 a2 a3
  gi_wp2
  have B32 := Seg.hid (chain (below1 w3 _) b2)
  have B2 := Seg.hid (chain B3.out B32.out)
  have L2 := Seg.hid (((B3'.out.trans (B32.out.mono (by have := B3'.out.size; omega))).block (w.heap.size + 1 + 1) (by omega)).trans L1.out)
  have E2 := Seg.hid (((B3'.out.trans (B32.out.mono (by have := B3'.out.size; omega))).block (w.heap.size + 1) (by omega)).trans E1.out)
  have hs2 : w3.heap.size + 2 < w2.heap.size := by omega
  have BIG : w.heap.size ≤ w2.heap.size := B2.out.size
  obtain ⟨f0, k1, k2, k3, k4, k5, k6, k7⟩ := ok_all LOK.out
  obtain ⟨f, K1'⟩ := segs_cut r.mark r.segs 0 0 f0 0 0 k1 (Int.le_refl _) (Int.le_refl _)
  have K1 := Seg.hid K1'
  have FLB : (flatB (cutSs r.mark r.segs)).length ≤ 400 := Nat.le_trans (flat_le _ _) (by rw [flat_count]; exact k7)
  have SLB : (cutSs r.mark r.segs).length ≤ 60 := Nat.le_trans (segs_le _ _) k3
  have FEW : Hid (∀ i, i < (cutSs r.mark r.segs).length → FewS ((cutSs r.mark r.segs).getD i default)) := all_mem.2 (few_cutSs _ (all_mem.1 FW.out.1.2))
  obtain ⟨pss, SV3, PO3⟩ := segs_pairs (lo := w1.heap.size + 1) (b := w3.heap.size) OW.out (fun x hx => hx)
  have HS2 : Hid (SegsV w2 (w1.heap.size + 1) w3.heap.size (.slice A5 (cutSs r.mark r.segs).length c5) (cutSs r.mark r.segs) pss) := SV3.keep fun y _ hy => B32.out.block y hy
  have PO2 : Hid (PO w2 (Ft.seg (w1.heap.size + 1) w3.heap.size) pss.flatten) := PO3.keep B32.out.size fun y hy => B32.out.block y hy.2
  have FP : Hid ((fromP r.start pss.flatten).map Prod.fst = safe p) := by show _ = _; rw [fromP_fst, fst_flat SV3.1 SV3.2.1, SF.out]
  have PLB : pss.flatten.length ≤ 400 := by rw [← List.length_map (f := Prod.fst), fst_flat SV3.1 SV3.2.1]; exact FLB
  clear b2 k1 k2 k4 k5 k6 k7 K1' SV3 PO3 OW E1 L1 SF FLB CT LOK FW LA1 T1
  generalize cutSs r.mark r.segs = ss at *
  obtain ⟨V, hV0⟩ : ∃ V : Nat → Prop, V = fun k => k = w.heap.size + 1 ∨ k = w.heap.size + 1 + 1 := ⟨_, rfl⟩
  have HVV : Hid (∀ k, V k ↔ (k = w.heap.size + 1 ∨ k = w.heap.size + 1 + 1)) := fun k => by rw [hV0]
  clear hV0
  have HSTOP := BfQ.stops 4 (by omega) V w2.heap.size 400 (w3.heap.size + 1) (w3.heap.size + 1 + 1) (w1.heap.size + 1) w3.heap.size c5 A5 r.start f ss pss w2 HS2.out (by omega) (Nat.le_refl _) (fun k h => by have := (HVV.out k).1 h; omega) a1 (by omega) a2 (by omega) (by omega) FEW.out K1.out (Nat.le_trans (List.length_filter_le _ _) PLB)
  have P0 : Hid (PQ w2 w2 (w.heap.size + 1) V (.slice (some ⟨w.heap.size + 1, 0, none⟩) 0 0) []) := by
    refine ⟨⟨rfl, .inr ⟨w.heap.size + 1, 0, #[], rfl, Nat.le_refl _, E2.out, Nat.le_refl _, Nat.zero_le _, rfl, by simp [cellsP]⟩⟩, fun _ _ _ => rfl, fun q hq => ?_, ⟨rfl, rfl, rfl⟩, Nat.le_refl _, by omega, (HVV.out _).2 (.inl rfl)⟩
    simp only [Value.ownBlock, Option.some.injEq] at hq
    exact ⟨.inl hq.symm, hq ▸ ⟨_, _, _, E2.out⟩⟩
  clear a1 a2 a3
  refine wpIn_rangeFunc_ownH rfl (by omega) (gf := 71) (lb := #[.pointer (some ⟨w3.heap.size + 1, 0, none⟩), .pointer (some ⟨w3.heap.size + 1 + 1, 0, none⟩)]) rfl trivial (enters_of Try.func71 (by kernel_rfl) rfl)
    HSTOP kp_t (kp_b (Nat.le_refl _)) (Below.refl _ _) (fun _ => rfl)
    (fun pre W => PI w2 (w.heap.size + 1) V pre W)
    (fun _ _ _ => False)
    (fun s A B row hs hg hr => by
      obtain ⟨A1, c1, h1, h2⟩ := hs
      exact ⟨A1, c1, pq_own h1 hg hr, block_own (β := Unit) w2.heap.size _ _ _ () A B row h2 hg hr⟩)
    (fun c' s A B row hs hg hr => hs)
    ⟨some ⟨w.heap.size + 1, 0, none⟩, 0, P0.out, L2.out⟩
    (fun p' a' W => ∃ Bx, w2.heap.size ≤ Bx ∧ W.heap[Bx]? = some (.cells (BatW.batArr p'.1.1 p'.1.2) 58 (0, 0)) ∧ a' = { tmps := #[.agg #[.slice (some ⟨g, o, none⟩) p.reps.length c0, .int .i64 p.leader, .int .i64 p.epoch, .slice A3 p.insync.length c3, .slice A4 p.known.length c4, .int .i64 p.least], .pointer (some ⟨w.heap.size, 0, none⟩), .slice none 0 0, .pointer (some ⟨w.heap.size + 1 + 1, 0, none⟩), .pointer (some ⟨w1.heap.size, 0, none⟩), .pointer (some ⟨w3.heap.size, 0, none⟩), .bool true, .pointer (some ⟨Bx, 0, none⟩), .slice (some ⟨w.heap.size + 1, 0, none⟩) 0 0, .agg #[.slice (some ⟨g, o, none⟩) p.reps.length c0, .int .i64 p.leader, .int .i64 p.epoch, .slice A3 p.insync.length c3, .slice A4 p.known.length c4, .int .i64 p.least], .bool true, .bool false, .bool false, .pointer (some ⟨w.heap.size, 1, none⟩), .int .i64 p.leader, .bool false, .bool false, undef, .pointer (some ⟨w.heap.size, 0, none⟩), .slice (some ⟨g, o, none⟩) p.reps.length c0, .pointer (some ⟨w.heap.size, 1, none⟩), .int .i64 p.leader, .pointer (some ⟨g, o + p.leader.toNat * 6, none⟩), .agg #[.int .i64 r.start, .int .i64 r.next, .int .i64 r.roll, .slice AS r.segs.length cS, .int .i64 r.mark, .bool r.up], .tuple #[.agg #[.int .i64 r.start, .int .i64 r.mark, .int .i64 r.roll, .slice A5 ss.length c5], .bool true], .pointer (some ⟨w1.heap.size, 0, none⟩), .agg #[.int .i64 r.start, .int .i64 r.next, .int .i64 r.roll, .slice AS r.segs.length cS], .pointer (some ⟨w1.heap.size, 4, none⟩), .int .i64 r.mark, .tuple #[.agg #[.int .i64 r.start, .int .i64 r.mark, .int .i64 r.roll, .slice A5 ss.length c5], .bool true], .agg #[.int .i64 r.start, .int .i64 r.mark, .int .i64 r.roll, .slice A5 ss.length c5], .bool true, .pointer (some ⟨w3.heap.size, 3, none⟩), .slice A5 ss.length c5, .pointer (some ⟨w3.heap.size, 0, none⟩), .int .i64 r.start, .func (.func 71) #[] #[.pointer (some ⟨w3.heap.size + 1, 0, none⟩), .pointer (some ⟨w3.heap.size + 1 + 1, 0, none⟩)], batVal p'.1.1 p'.1.2, undef, undef, undef, undef, undef], defers := [] })
    (fun p' a' s W W' row hs hg hr => ⟨hs.choose, hs.choose_spec.1, block_own (β := Unit) w2.heap.size _ _ _ s W W' row hs.choose_spec.2.1 hg hr, hs.choose_spec.2.2⟩) ?assign ?body ?done ?stop
  case assign =>
    rintro l' pre ⟨⟨t, v⟩, hrecs, hfew, hok⟩ W K hPI hK
    obtain ⟨_, ⟨_, A6, c6, hv6, _⟩, _⟩ := id hrecs
    have hv7 : v = .slice A6 t.recs.length c6 := hv6
    clear hv6
    subst hv7
    obtain ⟨A1, c1, h1, h2⟩ := hPI
    have hW := h1.size
    unfold batVal
    gi_wp2
    exact hK _ _ (keeps_of_below (below1 W _)) (kp_of_below (below1 W _)) ⟨A1, c1, h1.later (below1 W _), ((below1 _ _).block _ (by omega)).trans h2⟩ ⟨W.heap.size, hW, heap_alloc_new _ _, rfl⟩
  case body =>
    rintro l' pre ⟨⟨t, v⟩, hrecs, hfew, hok⟩ a' W hl' ⟨r', hr'⟩ hPI ⟨Bx, hBx, hbx, rfl⟩ hlen
    obtain ⟨H, ⟨_, A6, c6, hv6, hrow⟩, hh⟩ := id hrecs
    have hv7 : v = .slice A6 t.recs.length c6 := hv6
    clear hv6 hrow hh
    subst hv7
    obtain ⟨A1, c1, h1, h2⟩ := hPI
    have PQ0 := Seg.hid h1
    have LB0 := Seg.hid h2
    have hbx' : W.heap[Bx]? = some (.cells (BatW.batArr t (.slice A6 t.recs.length c6)) 58 (0, 0)) := hbx
    have BX := Seg.hid hbx'
    have hBxl : Bx < W.heap.size := (Array.getElem?_eq_some_iff.1 hbx').1
    have hW := h1.size
    have ULEN : Hid ((pre.map pt).length = pre.length) := by show _ = _; simp
    have HIT : Hid ((pre ++ [(⟨(t, .slice A6 t.recs.length c6), hrecs, hfew, hok⟩ : It w2 (w1.heap.size + 1) w3.heap.size)]).map pt = pre.map pt ++ [(t, .slice A6 t.recs.length c6)]) := by show _ = _; rw [List.map_append]; rfl
    clear h1 h2 hbx hbx'
    obtain ⟨ps, hps⟩ : ∃ ps, pre.map pt = ps := ⟨_, rfl⟩
    rw [hps] at PQ0 LB0 ULEN HIT
    clear hps
    have hul : ps.length ≤ 400 := by rw [ULEN.out]; omega
    have hLW : w.heap.size + 1 + 1 < W.heap.size := by omega
    have lc : W.cell? ⟨w.heap.size + 1 + 1, 0, none⟩ = some (.slice A1 ps.length c1) := cell_of_row W (w.heap.size + 1 + 1) 0 _ _ (0, 0) LB0.out
    obtain ⟨e0, e1, e2, e3, e4, e5, e6⟩ := seven BX.out
    gi_wp2_with (gi_at_builtin; obtain ⟨g9, cap9, w11, hr9, hown9, gr9, hat9, hlt9⟩ := run_append_lies (P := Try.prog) (W.alloc (.cells (BatW.batArr t (.slice A6 t.recs.length c6)) 58 (0, 0))) 40 40 (w.heap.size + 1) 58 i0 _ 7 72 Try.underlying40 hi hz0 hz1 hz2 rfl (by decide) (.slice A1 ps.length c1) ps.length (cellsP ps) (World.ownsRow.alloc PQ0.out.own _) ⟨W.heap.size, 0, none⟩ 1 1 (BatW.batArr t (.slice A6 t.recs.length c6)).toList (by rfl) (World.news_of_block (cs := BatW.batArr t (.slice A6 t.recs.length c6)) (heap_alloc_new W _)) (by simp [BatW.batArr, Value.oneCell']) (by decide) (by unfold maxLen; omega) (by omega) (by rw [hsz]; omega) (W.heap.size + 1) (hsz W _); refine listIn_append rfl _ _ _ rfl rfl rfl hr9 ?_; clear hr9; have D9 := Seg.hid (PQ.push (p := (t, .slice A6 t.recs.length c6)) PQ0.out hown9 gr9 hat9); have NX := Seg.hid (nx HIT.out ((HVV.out _).2 (.inr rfl)) (by omega) PQ0.out LB0.out gr9 D9.out); have q6 := NX.out.1; have p6 := NX.out.2.1; clear hown9 gr9 hat9 hlt9)
    exact NX.out.2.2
  case done =>
    rintro D ys W hD hS' hI hK
    obtain ⟨A1, c1, h1, h2⟩ := hI
    have hz := h1.size
    have f0 : W.cell? ⟨w.heap.size + 1 + 1, 0, none⟩ = some (.slice A1 (ys.map pt).length c1) := cell_of_row W (w.heap.size + 1 + 1) 0 _ _ (0, 0) h2
    have PE : Hid (∀ o', PQ w2 (W.putObj D o') (w.heap.size + 1) V (.slice A1 (ys.map pt).length c1) (ys.map pt)) := fun o' => pq_own h1 (grownBy_putObj' W D o') (fun r e => by cases e; exact ⟨hD, _, hK, rfl⟩)
    have UB : (ys.map pt).length ≤ 1048576 := by rw [hS']; exact Nat.le_trans (List.length_filter_le _ _) (by omega)
    have BE : Hid (∀ o', Below w.heap.size w (W.putObj D o')) := fun o' => (PE.out o').below (fun k h => by have := (HVV.out k).1 h; omega) B2.out
    have OE : Hid (∀ o', OwnB (W.putObj D o') (Ft.seg w.heap.size (W.putObj D o').heap.size) (.slice A1 (ys.map pt).length c1) (safe p)) := fun o' => by
      have h9 := PE.out o'
      have hz9 := h9.size
      have hkp : ∀ x, Ft.seg (w1.heap.size + 1) w3.heap.size x → (W.putObj D o').heap[x]? = w2.heap[x]? := fun x hx => h9.keep x (by have := hx.2; omega) (fun hv => by have := (HVV.out x).1 hv; have := hx.1; omega)
      have h10 := own_of (base := w.heap.size) UB h9.own (by rw [hS']; exact PO.filter _ (PO2.out.keep hz9 hkp)) (fun g hg hx => by have := (h9.out g hg).1; have := hx.1; have := hx.2; omega) (fun x hx => ⟨by have := hx.1; omega, by have := hx.2; omega⟩) (by omega)
      rw [show (ys.map pt).map Prod.fst = safe p by rw [hS']; exact FP.out] at h10
      exact h10
    clear h1 h2 hS' PE UB
    generalize ys.map pt = us at *
    gi_wp2
    refine ⟨by simp, .inl ⟨_, _, rfl, run_takeDeferred hK, ?_⟩⟩
    exact ⟨_, results_tmp rfl _ _ _, .slice A1 us.length c1, rfl, OE.out _, BE.out _⟩
  case stop =>
    rintro D c' pre W hD hS' hX
    exact hX.elim
end Go.Proofs.Yticihnoekffelaa.SfI
namespace Go.Proofs.Yticihnoekffelaa.BOk
set_option maxRecDepth 8000
open Go.RowKit
open Recs
set_option linter.unusedVariables false

def last (t : Bat) : Int := if batOk t = true then t.base + t.recs.length - 1 else -1
theorem okNum {t : Bat} (h : batOk t = true) : 0 ≤ t.base ∧ t.base ≤ 1000000000 ∧ 1 ≤ (t.recs.length : Int) ∧ (t.recs.length : Int) ≤ 40 := by
  simp only [batOk, okB1, okB3, inR, Bool.and_eq_true, decide_eq_true_eq] at h
  omega

set_option maxHeartbeats 400000 in
theorem specLast_any (v : Value) (t : Bat) (w : World) (lo b : Nat) (hv : BatAt w lo b v t) (hb : b ≤ w.heap.size) :
    Calls Try.prog 38 #[v] w fun e w' => e = .returned (.int .i64 (last t)) ∧ Below w.heap.size w w' := by
  have HV := Seg.hid hv
  obtain ⟨rv, rfl, H, ⟨hn, A, c, rfl, hx1⟩, hx2⟩ := hv
  clear hx1 hx2
  unfold batVal at HV ⊢
  unfold last
  go_enter Try.func38, Try.ntmps38
  go_wp2_with fail
  refine (spec_any _ t (w.alloc _) lo b (HV.out.below ((below1 w _).mono hb)) (by rw [hsz]; omega)).mono ?_
  rintro e w1 ⟨rfl, b1⟩
  have B1 := Seg.hid (chain (below1 w _) b1)
  have T1 : w1.heap[w.heap.size]? = some (.cells (BatW.batArr t (.slice A t.recs.length c)) 58 (0, 0)) := (b1.block w.heap.size (by rw [hsz]; omega)).trans (heap_alloc_new _ _)
  have c0 : w1.cell? ⟨w.heap.size, 0, none⟩ = some (.int .i64 t.base) := cell_of_row w1 _ 0 _ _ (0, 0) T1
  have c6 : w1.cell? ⟨w.heap.size, 6, none⟩ = some (.slice A t.recs.length c) := cell_of_row w1 _ 6 _ _ (0, 0) T1
  clear b1 T1
  cases h1 : batOk t with
  | false =>
    have HO : Hid (batOk t = false) := h1
    go_wp2
    all_goals
      go_ret
      exact ⟨rfl, B1.out⟩
  | true =>
    obtain ⟨n1, n2, n3, n4⟩ := okNum h1
    go_wp2
    all_goals
      go_ret
      exact ⟨rfl, B1.out⟩

end Go.Proofs.Yticihnoekffelaa.BOk
