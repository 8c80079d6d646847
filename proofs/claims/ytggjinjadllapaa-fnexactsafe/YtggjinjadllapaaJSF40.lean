/- The model's Safe. -/
import Derived.Deep.RegionHeld3
import Derived.Deep.AppendLies
import Derived.Test.YtggjinjadllapaaJSF28
import Derived.Test.YtggjinjadllapaaJSF37
import Derived.Test.YtggjinjadllapaaJSF39
import Derived.Test.YtggjinjadllapaaJSF36
import Derived.Test.YtggjinjadllapaaJSF34
namespace Go.Proofs.Ytggjinjadllapaa.SfS
set_option maxRecDepth 8000
open Go.RowKit
open Ls (Prt Rpl PrtAt szPrt FinePrt)
open Recs (hsz below1 below2 below3 chain chainD RecsAt Bat BatAt Rec Row batVal at3)
open Bats SegW Segs LogW BfP SfP BfQ SfO CtP SfQ SrP
open LgP (logOk)
open PoP (lg)
open Of (ok_all flat_count okB_flat)
set_option linter.unusedVariables false
theorem infoBS : (Try.prog.info? 52).map (fun i => (i.zero, i.size, i.bytes)) = some (some (.agg #[.int .i64 0, .int .i64 0, .int .i64 0, .int .i64 0, .int .i64 0, .int .i64 0, .slice none 0 0]), 7, 72) := by kernel_rfl
theorem infoLG : (Try.prog.info? 43).map (·.size) = some 4 := by kernel_rfl
theorem infoPR : (Try.prog.info? 31).map (·.size) = some 6 := by kernel_rfl
theorem last_ge {b : Bat} (h : BOk.batOk b = true) (x : Int) : (x ≤ BOk.last b) ↔ pB x b = true := by
  have : BOk.last b = b.base + b.recs.length - 1 := if_pos h
  unfold pB bEnd
  rw [this]
  simp only [decide_eq_true_eq]
  omega
/-- Batches that are read, with the values of their Records. -/
theorem row_pairs {w : World} {lo b lo' b' : Nat} {v : Value} {ts : List Bat} {H : Nat → Value} (hr : Row w lo b 7 v ts.length (batsCells ts H)) (hh : ∀ i, i < ts.length → RecsAt w lo' b' (H i) (ts.getD i default).recs) : ∃ ps : List BV, ps.map Prod.fst = ts ∧ Row w lo b 7 v ps.length (batsCells (ps.map Prod.fst) (fun i => (ps.getD i default).2)) ∧ ∀ i, i < ps.length → RecsAt w lo' b' (ps.getD i default).2 (ps.getD i default).1.recs := by
  have hl : ((List.range ts.length).map (fun i => (ts.getD i default, H i))).length = ts.length := by simp
  refine ⟨(List.range ts.length).map (fun i => (ts.getD i default, H i)), ?_, ?_, fun i hi => ?_⟩
  · rw [List.map_map]
    exact map_range ts
  · rw [hl]
    refine row_eqf hr fun i hi j hj => ?_
    have hg := getD_range (fun i => (ts.getD i default, H i)) ts.length i hi
    show batsCells ts H i j = batsCells (((List.range ts.length).map (fun i => (ts.getD i default, H i))).map Prod.fst) (fun i => (((List.range ts.length).map (fun i => (ts.getD i default, H i))).getD i default).2) i j
    simp only [batsCells, getD_fst, hg]
  · rw [hl] at hi
    rw [getD_range _ _ i hi]
    exact hh i hi
theorem bats_own {w : World} {n0 : Nat} {v : Value} {ps : List BV} (hn : ps.length ≤ 1048576) (hr : w.ownsRow n0 52 7 v ps.length (cellsP ps)) (hp : ∀ p ∈ ps, RecsAt w 0 w.heap.size p.2 p.1.recs) : BatsAt w 0 w.heap.size v (ps.map Prod.fst) := by
  have hl : (ps.map Prod.fst).length = ps.length := by simp
  rcases hr.2 with ⟨h1, h2⟩ | ⟨g, cap, cur, rfl, hbs, hgg, hnc, hcm, hcs, htake⟩
  · have := List.length_eq_zero_iff.1 h2
    subst this
    exact ⟨fun _ => default, ⟨by simp, none, 0, h1, .inl rfl⟩, fun i hi => absurd hi (by simp)⟩
  have hlt : g < w.heap.size := (Array.getElem?_eq_some_iff.1 hgg).1
  have e : (List.range (ps.length * 7)).map (fun q => (cellsP ps).getD q default) = cellsP ps := by
    rw [← cellsP_len]
    exact map_range _
  have hM : ToO.MineC w 52 7 g ps.length cap (fun q => (cellsP ps).getD q default) := by
    show w.ownsRow g _ _ _ _ _
    rw [e]
    exact ⟨hr.1, .inr ⟨g, cap, cur, rfl, Nat.le_refl _, hgg, hnc, hcm, hcs, htake⟩⟩
  refine ⟨fun i => (ps.getD i default).2, ?_, fun i hi => ?_⟩
  · rw [hl]
    refine row_eqf (row_mine hn hM (Nat.zero_le _) hlt) fun i hi j hj => ?_
    have hc := cellsP_at ps i j hi hj
    rw [hc]
    unfold batsCells
    rw [getD_fst]
    match j, hj with
    | 0, _ => rfl
    | 1, _ => rfl
    | 2, _ => rfl
    | 3, _ => rfl
    | 4, _ => rfl
    | 5, _ => rfl
    | 6, _ => rfl
  · rw [hl] at hi
    rw [getD_fst]
    refine hp _ ?_
    rw [List.getD_eq_getElem?_getD, List.getElem?_eq_getElem hi, Option.getD_some]
    exact List.getElem_mem hi
theorem from_take {x : Int} {ps : List BV} {j : Nat} (h : j < ps.length) : fromP x (ps.take (j + 1)) = fromP x (ps.take j) ++ (if pB x (ps.getD j default).1 = true then [ps.getD j default] else []) := by
  rw [takeOne h, fromP_app]
  congr 1
  unfold fromP
  generalize ps.getD j default = q
  by_cases hp : pB x q.1 = true
  · rw [if_pos hp, List.filter_cons_of_pos (by simpa using hp)]; rfl
  · rw [if_neg hp, List.filter_cons_of_neg (by simpa using hp)]; rfl
theorem six {w : World} {g ty : Nat} {a b c d e f : Value} (h : w.heap[g]? = some (.cells #[a, b, c, d, e, f] ty (0, 0))) : w.cell? ⟨g, 0, none⟩ = some a ∧ w.cell? ⟨g, 1, none⟩ = some b ∧ w.cell? ⟨g, 2, none⟩ = some c ∧ w.cell? ⟨g, 3, none⟩ = some d ∧ w.cell? ⟨g, 4, none⟩ = some e ∧ w.cell? ⟨g, 5, none⟩ = some f :=
  ⟨cell_of_row w g 0 _ _ (0, 0) h, cell_of_row w g 1 _ _ (0, 0) h, cell_of_row w g 2 _ _ (0, 0) h, cell_of_row w g 3 _ _ (0, 0) h, cell_of_row w g 4 _ _ (0, 0) h, cell_of_row w g 5 _ _ (0, 0) h⟩
set_option maxHeartbeats 3200000 in
theorem safeS_any (v : Value) (p : Prt) (w : World) (lo b : Nat) (hv : PrtAt w (Ls.seg lo b) v p) (hb : b ≤ w.heap.size) (hf : szPrt p ≤ 1048576) (hfi : FinePrt p) :
    Calls Try.prog 5 #[v] w fun e w' => ∃ v', e = .returned v' ∧ BatsAt w' 0 w'.heap.size v' (safe p) ∧ Below w.heap.size w w' := by
  obtain ⟨i0, hi, hz0, hz1, hz2⟩ := info_parts infoBS
  have hS : ∀ g, Ls.seg lo b g → g < w.heap.size := fun g hg => Nat.lt_of_lt_of_le hg.2 hb
  have HV := Seg.hid hv
  obtain ⟨A0, c0, A3, c3, A4, c4, rfl⟩ := PoP.form hv
  have HF := Seg.hid hf
  have HFI := Seg.hid hfi
  clear hv hf hfi
  go_enter Try.func5, Try.ntmps5
  go_wp2_with fail
  refine (PoS.spec_any _ p (w.alloc _) lo b (HV.out.below (below1 w _) hS) (by rw [hsz]; omega) HF.out HFI.out).mono ?_
  rintro e w1 ⟨rfl, b1⟩
  have B1 := Seg.hid (chain (below1 w _) b1)
  have T1 : Hid (w1.heap[w.heap.size]? = some (.cells #[.slice A0 p.reps.length c0, .int .i64 p.leader, .int .i64 p.epoch, .slice A3 p.insync.length c3, .slice A4 p.known.length c4, .int .i64 p.least] 31 (0, 0))) := (b1.block w.heap.size (by rw [hsz]; omega)).trans (heap_alloc_new _ _)
  have s1 := b1.size
  rw [hsz] at s1
  clear b1
  have NIL : Hid (∀ (wx : World) (A : Option Addr) (c : Nat), BatsAt wx 0 wx.heap.size (.slice A 0 c) []) := fun wx A c => ⟨fun _ => default, ⟨by simp, A, c, rfl, .inl rfl⟩, fun i hi => absurd hi (by simp)⟩
  cases hok : PoP.part p with
  | false =>
    have HC : Hid (safe p = []) := safe_no (.inl hok)
    clear hok
    go_wp2
    go_ret
    exact ⟨_, rfl, by rw [HC.out]; exact NIL.out _ _ _, chain B1.out (below1 _ _)⟩
  | true =>
  obtain ⟨x0, x1, x2, x3, x4, x5⟩ := six T1.out
  have low := part_low hok
  by_cases hl : p.leader = -1
  · have HC : Hid (safe p = []) := safe_no (.inr hl)
    have hd : p.leader < 0 := by omega
    clear hok hl
    go_wp2
    go_ret
    exact ⟨_, rfl, by rw [HC.out]; exact NIL.out _ _ _, chain B1.out (below1 _ _)⟩
  obtain ⟨l0, l1, lok, lm, ln⟩ := part_lead hok hl
  have hli : p.leader.toNat < p.reps.length := by omega
  have hd : ¬ p.leader < 0 := by omega
  obtain ⟨Q0, _, _⟩ := PoP.parts (HV.out.below B1.out hS)
  obtain ⟨_, A', c', hsl, hrow⟩ := Q0
  simp only [Value.slice.injEq] at hsl
  obtain ⟨rfl, _, rfl⟩ := hsl
  obtain ⟨g, o, F, rfl, hg, hc, hcell, hel⟩ := hrow.resolve_left (by omega)
  have hgw : g < w.heap.size := hS g hg
  have hg1 : g < w1.heap.size := by omega
  obtain ⟨AS, cS, ⟨y0, y1, y2, y3, y4, y5⟩, LA⟩ := PoP.rpl_cells (fun j hj => hcell p.leader.toNat hli j hj) (hel p.leader.toNat hli)
  have SF : Hid (safe p = fromB (p.reps.getD p.leader.toNat default).start (flatB (cutSs (p.reps.getD p.leader.toNat default).mark (p.reps.getD p.leader.toNat default).segs))) := by show _ = _; unfold safe; rw [if_pos (by rw [hok]; simp [l0])]
  have LA1 := Seg.hid LA
  have FW : Hid (FewL (lg (p.reps.getD p.leader.toNat default))) := OldL.few_log (Ls.szL_one (l := 1048576) Ls.szRpl (show Ls.szL Ls.szRpl p.reps ≤ 1048576 by have := HF.out; unfold szPrt at this; omega) hli)
  have BW : Hid (∀ i, i < (p.reps.getD p.leader.toNat default).segs.length → -9223372036854775808 ≤ ((p.reps.getD p.leader.toNat default).segs.getD i default).base ∧ ((p.reps.getD p.leader.toNat default).segs.getD i default).base ≤ 9223372036854775807) := fun i hi' => ((HFI.out.1.2 p.leader.toNat hli).2.2.2.1.2 i hi').1
  clear hok hl HV HF hcell hel hrow LA low
  generalize p.reps.getD p.leader.toNat default = r at *
  have CT := Seg.hid (cut_lead lok lm ln)
  have LOK := Seg.hid lok
  clear lok lm ln
  go_wp2_with fail
  refine (Ft.cutToS_any _ (lg r) r.mark (w1.alloc _) lo b (LA1.out.below ((below1 w1 _).mono (by omega))) (by rw [hsz]; omega) FW.out BW.out).mono ?_
  rintro e w3 ⟨sv, rfl, ow, b3⟩
  rw [CT.out] at ow ⊢
  obtain ⟨_, ⟨_, A5, c5, hsv, _⟩, _⟩ := id ow
  subst hsv
  dsimp only at ow ⊢
  have OW := Seg.hid ow
  have B3' := Seg.hid (chain (below1 w1 _) b3)
  have s3 := b3.size
  rw [hsz] at s3 OW
  have B3 := Seg.hid (chain B1.out B3'.out)
  clear ow b3 y0 y1 y2 y3 y4 y5 x0 x1 x2 x3 x4 x5
  unfold logVal
  go_wp2_with fail
  obtain ⟨f0, k1, k2, k3, k4, k5, k6, k7⟩ := ok_all LOK.out
  obtain ⟨f, K1⟩ := segs_cut r.mark r.segs 0 0 f0 0 0 k1 (Int.le_refl _) (Int.le_refl _)
  have FLB : (flatB (cutSs r.mark r.segs)).length ≤ 400 := Nat.le_trans (flat_le _ _) (by rw [flat_count]; exact k7)
  have SLB : (cutSs r.mark r.segs).length ≤ 60 := Nat.le_trans (segs_le _ _) k3
  have OKB := Seg.hid (okB_flat K1)
  clear k1 k2 k3 k4 k5 k6 k7 K1 CT LOK FW BW LA1 T1
  refine (Ft.l3All_own _ ⟨r.start, r.mark, r.roll, cutSs r.mark r.segs⟩ ((w3.alloc _).alloc _) (w1.heap.size + 1) w3.heap.size ⟨_, rfl, OW.out.below (below2 w3 _ _)⟩ (by rw [hsz, hsz]; omega) (by show (cutSs r.mark r.segs).length ≤ _; omega) (by show (flatB (cutSs r.mark r.segs)).length ≤ _; omega)).mono ?_
  rintro e w5 ⟨va, rfl, hba, b5⟩
  obtain ⟨HA, hra, hhb⟩ := hba
  obtain ⟨pa, hpa, hra5, hha⟩ := row_pairs hra hhb
  rw [hsz, hsz] at hra5
  have B35 := Seg.hid (chain (below2 w3 _ _) b5)
  have B5 := Seg.hid (chain B3.out B35.out)
  have E5 : Hid (w5.heap[w3.heap.size + 1]? = some (.cells #[] 52 (0, 0))) := by
    have := heap_alloc_new (w3.alloc (.cells #[.int .i64 r.start, .int .i64 r.mark, .int .i64 r.roll, .slice A5 (cutSs r.mark r.segs).length c5] 43 (0, 0))) (.cells #[] 52 (0, 0))
    rw [hsz] at this
    exact (b5.block (w3.heap.size + 1) (by rw [hsz, hsz]; omega)).trans this
  have L5 : Hid (w5.heap[w3.heap.size]? = some (.cells #[.int .i64 r.start, .int .i64 r.mark, .int .i64 r.roll, .slice A5 (cutSs r.mark r.segs).length c5] 43 (0, 0))) := (b5.block w3.heap.size (by rw [hsz, hsz]; omega)).trans (((below1 _ _).block _ (by rw [hsz]; omega)).trans (heap_alloc_new _ _))
  have s5 := b5.size
  rw [hsz, hsz] at s5
  have SP : Hid ((fromP r.start pa).map Prod.fst = safe p) := by show _ = _; rw [fromP_fst, hpa, SF.out]
  have OKP : Hid (∀ i, i < pa.length → BOk.batOk (pa.getD i default).1 = true) := fun i hi => by
    rw [← getD_fst, hpa]
    exact all_mem.2 OKB.out i (by rw [← hpa, List.length_map]; exact hi)
  have PAL : pa.length ≤ 400 := by rw [← List.length_map (f := Prod.fst), hpa]; exact FLB
  obtain ⟨_, Aa, ca, rfl, hrowa⟩ := hra5
  have HRA := Seg.hid hrowa
  have HHA := Seg.hid hha
  clear hra hhb b5 hrowa hha OKB SF hpa FLB SLB OW
  generalize cutSs r.mark r.segs = ss at *
  have P0 : Hid (PQ w5 w5 (w3.heap.size + 1) (fun k => k = w3.heap.size + 1) (.slice (some ⟨w3.heap.size + 1, 0, none⟩) 0 0) []) := by
    refine ⟨⟨rfl, .inr ⟨w3.heap.size + 1, 0, #[], rfl, Nat.le_refl _, E5.out, Nat.le_refl _, Nat.zero_le _, rfl, by simp [cellsP]⟩⟩, fun _ _ _ => rfl, fun q hq => ?_, ⟨rfl, rfl, rfl⟩, Nat.le_refl _, by omega, rfl⟩
    simp only [Value.ownBlock, Option.some.injEq] at hq
    exact ⟨.inl hq.symm, hq ▸ ⟨_, _, _, E5.out⟩⟩
  go_wp2_with fail
  go_loopw [6, 8] (fun v i wr => ∃ (j : Nat) (ps : List BV) (A1 : Option Addr) (c1 : Nat), j ≤ pa.length ∧ ps.length ≤ j ∧ i = .int .i64 j ∧ v = .slice A1 ps.length c1 ∧ Hid (ps = fromP r.start (pa.take j) ∧ PQ w5 wr (w3.heap.size + 1) (fun k => k = w3.heap.size + 1) (.slice A1 ps.length c1) ps)) (fun _ i _ => pa.length - (intOf i).toNat)
  case atStart => exact ⟨0, [], some ⟨w3.heap.size + 1, 0, none⟩, 0, Nat.zero_le _, Nat.le_refl _, rfl, rfl, rfl, P0.out⟩
  case round =>
    clear P0
    obtain ⟨j, ps, A1, c1, hj, hpj, rfl, rfl, HW⟩ := hrel
    have PR := Seg.hid HW.out.2
    have hzr := PR.out.size
    by_cases hlt : j < pa.length
    · have h0 : (0 : Int) ≤ (j : Int) := by omega
      have h1 : (j : Int) < (pa.length : Int) := by omega
      obtain ⟨ga, oa, rfl, hga, hca, hcella, hgl⟩ := HRA.out.resolve_left (by omega)
      have FT := Seg.hid (from_take (x := r.start) hlt)
      have PE := Seg.hid HW.out.1
      have RJ := HHA.out j hlt
      have OKJ := Seg.hid (OKP.out j hlt)
      have SEV0 := Bats.six hcella j hlt
      rw [getD_fst] at SEV0
      obtain ⟨_, ⟨_, Ah, ch, hHj, _⟩, _⟩ := id RJ
      have TJ : Hid (pa.getD j default = ((pa.getD j default).1, .slice Ah (pa.getD j default).1.recs.length ch)) := by show _ = _; rw [← hHj]
      rw [hHj] at RJ SEV0
      rw [TJ.out] at FT
      clear hcella HW TJ hHj
      try dsimp only at FT
      generalize (pa.getD j default).1 = tj at *
      have hgr : ga < wr.heap.size := by omega
      have KP : Hid (∀ (wx : World) (vv : Value) (uu : List BV), PQ w5 wx (w3.heap.size + 1) (fun k => k = w3.heap.size + 1) vv uu → (wx.cell? ⟨ga, oa + j * 7, none⟩ = some (.int .i64 tj.base) ∧ wx.cell? ⟨ga, oa + j * 7 + 1, none⟩ = some (.int .i64 tj.epoch) ∧ wx.cell? ⟨ga, oa + j * 7 + 2, none⟩ = some (.int .i64 tj.producer) ∧ wx.cell? ⟨ga, oa + j * 7 + 3, none⟩ = some (.int .i64 tj.turn) ∧ wx.cell? ⟨ga, oa + j * 7 + 4, none⟩ = some (.int .i64 tj.seq) ∧ wx.cell? ⟨ga, oa + j * 7 + 5, none⟩ = some (.int .i64 tj.flags) ∧ wx.cell? ⟨ga, oa + j * 7 + 6, none⟩ = some (.slice Ah tj.recs.length ch) ∧ wx.cell? ⟨w3.heap.size, 0, none⟩ = some (.int .i64 r.start)) ∧ RecsAt wx (w1.heap.size + 1) w3.heap.size (.slice Ah tj.recs.length ch) tj.recs) := fun wx vv uu q => by
        have kg := q.keep ga hga (by omega)
        have kl := (q.keep w3.heap.size (by omega) (by omega)).trans L5.out
        obtain ⟨e0, e1, e2, e3, e4, e5, e6⟩ := SEV0
        refine ⟨⟨(World.cell?_of_block kg).trans e0, (World.cell?_of_block kg).trans e1, (World.cell?_of_block kg).trans e2, (World.cell?_of_block kg).trans e3, (World.cell?_of_block kg).trans e4, (World.cell?_of_block kg).trans e5, (World.cell?_of_block kg).trans e6, cell_of_row wx w3.heap.size 0 _ _ (0, 0) kl⟩, RJ.keep fun x _ hx => q.keep x (by omega) (by omega)⟩
      have LST := Seg.hid (last_ge OKJ.out r.start)
      have LAST : Hid (∀ wx, Below wr.heap.size wr wx → Calls Try.prog 18 #[.agg #[.int .i64 tj.base, .int .i64 tj.epoch, .int .i64 tj.producer, .int .i64 tj.turn, .int .i64 tj.seq, .int .i64 tj.flags, .slice Ah tj.recs.length ch]] wx fun e w' => e = .returned (.int .i64 (BOk.last tj)) ∧ Below wx.heap.size wx w') := fun wx bx => BOk.specLast_any _ tj wx (w1.heap.size + 1) w3.heap.size ⟨_, rfl, (KP.out wx _ _ (PR.out.later bx)).2⟩ (by have := bx.size; omega)
      obtain ⟨la, hla⟩ : ∃ la, BOk.last tj = la := ⟨_, rfl⟩
      rw [hla] at LST LAST
      have ST : Hid (∀ wx, Below wr.heap.size wr wx → wx.cell? ⟨ga, oa + j * 7, none⟩ = some (.int .i64 tj.base) ∧ wx.cell? ⟨ga, oa + j * 7 + 1, none⟩ = some (.int .i64 tj.epoch) ∧ wx.cell? ⟨ga, oa + j * 7 + 2, none⟩ = some (.int .i64 tj.producer) ∧ wx.cell? ⟨ga, oa + j * 7 + 3, none⟩ = some (.int .i64 tj.turn) ∧ wx.cell? ⟨ga, oa + j * 7 + 4, none⟩ = some (.int .i64 tj.seq) ∧ wx.cell? ⟨ga, oa + j * 7 + 5, none⟩ = some (.int .i64 tj.flags) ∧ wx.cell? ⟨ga, oa + j * 7 + 6, none⟩ = some (.slice Ah tj.recs.length ch) ∧ wx.cell? ⟨w3.heap.size, 0, none⟩ = some (.int .i64 r.start)) := fun wx bx => (KP.out wx _ _ (PR.out.later bx)).1
      clear hla SEV0 RJ
      have hpl : w3.heap.size < wr.heap.size := by omega
      obtain ⟨e0, e1, e2, e3, e4, e5, e6, e7⟩ := ST.out wr (Below.refl _ _)
      by_cases hp : r.start ≤ la
      · have EQ2 : Hid (ps ++ [(tj, .slice Ah tj.recs.length ch)] = fromP r.start (pa.take (j + 1))) := by show _ = _; rw [FT.out, if_pos (LST.out.1 hp), PE.out]
        go_wp2_with fail
        go_region_held3 (fun w' => w'.cell? ⟨ga, oa + j * 7, none⟩ = some (.int .i64 tj.base) ∧ w'.cell? ⟨ga, oa + j * 7 + 1, none⟩ = some (.int .i64 tj.epoch) ∧ w'.cell? ⟨ga, oa + j * 7 + 2, none⟩ = some (.int .i64 tj.producer) ∧ w'.cell? ⟨ga, oa + j * 7 + 3, none⟩ = some (.int .i64 tj.turn) ∧ w'.cell? ⟨ga, oa + j * 7 + 4, none⟩ = some (.int .i64 tj.seq) ∧ w'.cell? ⟨ga, oa + j * 7 + 5, none⟩ = some (.int .i64 tj.flags) ∧ w'.cell? ⟨ga, oa + j * 7 + 6, none⟩ = some (.slice Ah tj.recs.length ch) ∧ w'.cell? ⟨w3.heap.size, 0, none⟩ = some (.int .i64 r.start)) (first | go_keep | exact ⟨e0, e1, e2, e3, e4, e5, e6, e7⟩ | exact ⟨d0, d1, d2, d3, d4, d5, d6, d7⟩)
          (first | (go_at_call 18; refine (LAST.out _ (Below.refl _ _).drew).mono ?_; rintro e w8 ⟨rfl, b8⟩; have B8 : Hid (Below wr.heap.size wr w8) := ⟨b8.os, b8.tape, b8.output, b8.size, b8.block⟩; obtain ⟨d0, d1, d2, d3, d4, d5, d6, d7⟩ := ST.out w8 B8.out; clear b8))
        have PR8 := Seg.hid (PR.out.later B8.out)
        have s8 := B8.out.size
        have hg8 : ga < w8.heap.size := by omega
        clear e0 e1 e2 e3 e4 e5 e6 e7 d7
        go_wp2_with (at_builtin; (refine wpList_append_lies _ rfl _ _ 27 rfl (w3.heap.size + 1) 52 i0 _ 7 72 Try.underlying27 hi hz0 hz1 hz2 rfl (by decide) (.slice A1 ps.length c1) ps.length (cellsP ps) rfl (World.ownsRow.alloc PR8.out.own _) ⟨w8.heap.size, 0, none⟩ 1 1 (BatW.batArr tj (.slice Ah tj.recs.length ch)).toList rfl rfl (World.news_of_block (cs := BatW.batArr tj (.slice Ah tj.recs.length ch)) (heap_alloc_new w8 _)) (by simp [BatW.batArr, Value.oneCell']) (by decide) (by unfold maxLen; omega) (by omega) (by rw [hsz]; omega) (w8.heap.size + 1) (hsz w8 _) ?_; intro g9 cap9 w9 hown9 gr9 hat9 hlt9; have D9 := Seg.hid (PQ.push (p := (tj, .slice Ah tj.recs.length ch)) PR8.out hown9 gr9 hat9); clear hown9 gr9 hat9 hlt9))
        go_roundw
        case rel => exact ⟨j + 1, ps ++ [(tj, .slice Ah tj.recs.length ch)], some ⟨g9, 0, none⟩, cap9, by omega, by simp; omega, by go_num, by simp, EQ2.out, by simpa using D9.out⟩
        case measure => simp [intOf]; omega
      · have EQ2 : Hid (ps = fromP r.start (pa.take (j + 1))) := by show _ = _; rw [FT.out, if_neg (fun h => hp (LST.out.2 h)), List.append_nil]; exact PE.out
        go_wp2_with fail
        go_region_held3 (fun w' => w'.cell? ⟨ga, oa + j * 7, none⟩ = some (.int .i64 tj.base) ∧ w'.cell? ⟨ga, oa + j * 7 + 1, none⟩ = some (.int .i64 tj.epoch) ∧ w'.cell? ⟨ga, oa + j * 7 + 2, none⟩ = some (.int .i64 tj.producer) ∧ w'.cell? ⟨ga, oa + j * 7 + 3, none⟩ = some (.int .i64 tj.turn) ∧ w'.cell? ⟨ga, oa + j * 7 + 4, none⟩ = some (.int .i64 tj.seq) ∧ w'.cell? ⟨ga, oa + j * 7 + 5, none⟩ = some (.int .i64 tj.flags) ∧ w'.cell? ⟨ga, oa + j * 7 + 6, none⟩ = some (.slice Ah tj.recs.length ch) ∧ w'.cell? ⟨w3.heap.size, 0, none⟩ = some (.int .i64 r.start)) (first | go_keep | exact ⟨e0, e1, e2, e3, e4, e5, e6, e7⟩ | exact ⟨d0, d1, d2, d3, d4, d5, d6, d7⟩)
          (first | (go_at_call 18; refine (LAST.out _ (Below.refl _ _).drew).mono ?_; rintro e w8 ⟨rfl, b8⟩; have B8 : Hid (Below wr.heap.size wr w8) := ⟨b8.os, b8.tape, b8.output, b8.size, b8.block⟩; obtain ⟨d0, d1, d2, d3, d4, d5, d6, d7⟩ := ST.out w8 B8.out; clear b8))
        clear e0 e1 e2 e3 e4 e5 e6 e7 d0 d1 d2 d3 d4 d5 d6 d7
        go_wp2_with fail
        go_roundw
        case rel => exact ⟨j + 1, ps, A1, c1, by omega, by omega, by go_num, rfl, EQ2.out, PR.out.later B8.out⟩
        case measure => simp [intOf]; omega
    · have hjl : j = pa.length := by omega
      have EN : Hid (BatsAt wr 0 wr.heap.size (.slice A1 ps.length c1) (safe p)) := by
        have hps := HW.out.1
        rw [hjl, List.take_length] at hps
        have h9 := bats_own (by omega) HW.out.2.own (fun q hq => by
          rw [hps] at hq
          have hq' := (List.mem_filter.1 hq).1
          obtain ⟨i, hi9, rfl⟩ := List.getElem_of_mem hq'
          have := HHA.out i hi9
          rw [List.getD_eq_getElem?_getD, List.getElem?_eq_getElem hi9, Option.getD_some] at this
          exact (this.keep fun x _ hx => PR.out.keep x (by omega) (by omega)).mono (Nat.zero_le _) (by omega))
        rw [← SP.out, ← hps]
        exact h9
      have BE : Hid (Below w.heap.size w wr) := PR.out.below (fun x hx => by omega) B5.out
      subst hjl
      clear HW
      go_wp2_with fail
      go_ret
      exact ⟨_, rfl, EN.out, BE.out⟩
end Go.Proofs.Ytggjinjadllapaa.SfS
