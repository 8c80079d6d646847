/- The model's Visible. -/
import Derived.Deep.AppendLies
import Derived.Deep.Cut
import Derived.Deep.CutBlock
import Derived.BigQuiet
import Derived.Test.YtdnfnjlnfmafkaaJVS17
import Derived.Test.YtdnfnjlnfmafkaaJVS39
import Derived.Test.YtdnfnjlnfmafkaaJVS18
import Derived.Test.YtdnfnjlnfmafkaaJVS23
namespace Go.Proofs.Ytdnfnjlnfmafkaa.VsS
set_option maxRecDepth 8000
open Go.RowKit
open Ls VsP VsO SdQ SdP
open Recs (hsz below1 below2 below3 chain chainD RecsAt Bat Rec Row Heads recCells hdCells batVal at3)
open Bats SegW Segs LogW BfP SrP
open LgP (logOk inR)
open Ft (OwnH IsC)
open Lp (Opn opn)
open Of (four ok_all flat_count okB_flat)
set_option linter.unusedVariables false
theorem infoLG : (Try.prog.info? 31).map (·.size) = some 4 := by kernel_rfl
theorem infoRD : (Try.prog.info? 55).map (fun i => (i.zero, i.size, i.bytes)) = some (some (.agg #[.int .i64 0, .int .i64 0, .bool false, .string ⟨#[]⟩, .bool false, .string ⟨#[]⟩, .slice none 0 0]), 7, 88) := by kernel_rfl
/-- What stands ahead of the loop. -/
structure Cs (w wx : World) (l : Lg) (v gv : Value) (gs : List Gon) : Prop where
  T : wx.heap[w.heap.size]? = some (.cells (logArr l v) 31 (0, 0))
  E : wx.heap[w.heap.size + 1]? = some (.cells #[] 55 (0, 0))
  G : LAt 3 EGon wx (fun y => w.heap.size + 1 + 1 ≤ y ∧ y < wx.heap.size) gv gs
  bel : Below w.heap.size w wx
  size : w.heap.size + 2 ≤ wx.heap.size
theorem Cs.next {w wx wy : World} {l : Lg} {v gv : Value} {gs : List Gon} (h : Cs w wx l v gv gs) (b : Below wx.heap.size wx wy) : Cs w wy l v gv gs := by
  have := h.size
  have := b.size
  exact ⟨(b.block _ (by omega)).trans h.T, (b.block _ (by omega)).trans h.E, (LAt.keep keepsGon h.G (fun y hy => b.block y hy.2)).mono growsGon (fun y hy => ⟨hy.1, by omega⟩), chain h.bel b, by omega⟩
theorem hcopy {W w2 : World} {r : Rec} {hv hv0 : Value} (hf : r.heads.length ≤ 1048576)
    (hown : w2.ownsRow (W.heap.size + 1) 94 2 hv r.heads.length (Ft.flat 2 r.heads.length (hdCells r.heads))) (hgr : ((W.alloc (.cells (RecW.recArr r hv0) 53 (0, 0))).alloc (.cells #[] 94 (0, 0))).grownBy w2 (some (W.heap.size + 1))) :
    w2.cell? ⟨W.heap.size, 5, none⟩ = some hv0 ∧ w2.frozen? ⟨W.heap.size, 5, none⟩ = false ∧ Below W.heap.size W (w2.setCell ⟨W.heap.size, 5, none⟩ hv) ∧ (w2.setCell ⟨W.heap.size, 5, none⟩ hv).heap[W.heap.size]? = some (.cells (RecW.recArr r hv) 53 (0, 0)) ∧ OwnH (w2.setCell ⟨W.heap.size, 5, none⟩ hv) (Ft.seg (W.heap.size + 1) (w2.setCell ⟨W.heap.size, 5, none⟩ hv).heap.size) hv r.heads ∧ W.heap.size < w2.heap.size := by
  have gs := hgr.size
  rw [hsz, hsz] at gs
  have B2 : Below W.heap.size W w2 := (below2 W _ _).grown hgr (by rw [hsz, hsz]; omega) (fun k hk => by cases hk; omega)
  have T : w2.heap[W.heap.size]? = some (.cells (RecW.recArr r hv0) 53 (0, 0)) := (hgr.block W.heap.size (by rw [hsz, hsz]; omega) (by simp)).trans ((heap_alloc_old _ _ (by rw [hsz]; omega)).trans (heap_alloc_new _ _))
  have T' : (w2.setCell ⟨W.heap.size, 5, none⟩ hv).heap[W.heap.size]? = some (.cells (RecW.recArr r hv) 53 (0, 0)) := heap_setCell_same w2 W.heap.size 5 _ _ hv T
  have b8 : Below W.heap.size W (w2.setCell ⟨W.heap.size, 5, none⟩ hv) := B2.setCell (p := ⟨W.heap.size, 5, none⟩) (Nat.le_refl _) hv
  have O2 := Ft.own_heads_flat hown hf
  have s8 : (w2.setCell ⟨W.heap.size, 5, none⟩ hv).heap.size = w2.heap.size := by simp
  refine ⟨cell_of_row w2 W.heap.size 5 _ _ (0, 0) T, frozen_of_row w2 W.heap.size 5 _ _ T, b8, T', ?_, by omega⟩
  refine Ft.LOwn.mono (Ft.LOwn.keep Ft.keepsH O2 (by rw [s8]; exact Nat.le_refl _) (fun x hx => ?_)) (fun x hx => ⟨hx.1, by rw [s8]; exact hx.2⟩)
  rw [heap_setCell_other _ _ _ _ (by show x ≠ W.heap.size; have := hx.1; omega)]
theorem rec6 {w : World} {g ty : Nat} {r : Rec} {hv : Value} (h : w.heap[g]? = some (.cells (RecW.recArr r hv) ty (0, 0))) : w.cell? ⟨g, 0, none⟩ = some (.int .i64 r.time) ∧ w.cell? ⟨g, 1, none⟩ = some (.bool r.keyed) ∧ w.cell? ⟨g, 2, none⟩ = some (.string r.key) ∧ w.cell? ⟨g, 3, none⟩ = some (.bool r.gone) ∧ w.cell? ⟨g, 4, none⟩ = some (.string r.val) ∧ w.cell? ⟨g, 5, none⟩ = some hv :=
  ⟨cell_of_row w g 0 _ _ (0, 0) h, cell_of_row w g 1 _ _ (0, 0) h, cell_of_row w g 2 _ _ (0, 0) h, cell_of_row w g 3 _ _ (0, 0) h, cell_of_row w g 4 _ _ (0, 0) h, cell_of_row w g 5 _ _ (0, 0) h⟩
theorem recs6 {w : World} {g o n : Nat} {rs : List Rec} {H : Nat → Value} (h : ∀ i, i < n → ∀ j, j < 6 → w.cell? ⟨g, o + i * 6 + j, none⟩ = some (recCells rs H i j)) (i : Nat) (hi : i < n) : w.cell? ⟨g, o + i * 6, none⟩ = some (.int .i64 (rs.getD i default).time) ∧ w.cell? ⟨g, o + i * 6 + 1, none⟩ = some (.bool (rs.getD i default).keyed) ∧ w.cell? ⟨g, o + i * 6 + 2, none⟩ = some (.string (rs.getD i default).key) ∧ w.cell? ⟨g, o + i * 6 + 3, none⟩ = some (.bool (rs.getD i default).gone) ∧ w.cell? ⟨g, o + i * 6 + 4, none⟩ = some (.string (rs.getD i default).val) ∧ w.cell? ⟨g, o + i * 6 + 5, none⟩ = some (H i) :=
  ⟨h i hi 0 (by omega), h i hi 1 (by omega), h i hi 2 (by omega), h i hi 3 (by omega), h i hi 4 (by omega), h i hi 5 (by omega)⟩
set_option maxHeartbeats 3200000 in
theorem visibleS_core (l : Lg) (x : Int) (s : Bool) (A : Option Addr) (c : Nat) (w : World) (lo b : Nat) (hb : b ≤ w.heap.size) (hf : FewL l) (hw : ∀ i, i < l.segs.length → -9223372036854775808 ≤ (l.segs.getD i default).base ∧ (l.segs.getD i default).base ≤ 9223372036854775807) (hs : SegsAt w lo b (.slice A l.segs.length c) l.segs) :
    Calls Try.prog 5 #[logVal l (.slice A l.segs.length c), .int .i64 x, .bool s] w fun e w' => ∃ v, e = .returned (.tuple #[v, .int .i64 (visible l x s).2]) ∧ Ow.RedsOwn w' (Ls.seg w.heap.size w'.heap.size) v (visible l x s).1 ∧ Below w.heap.size w w' := by
  obtain ⟨i0, hi, hz0, hz1, hz2⟩ := info_parts infoRD
  obtain ⟨i1, hi', hz0', hz1', hz2'⟩ := info_parts Ft.infoH
  have HV : Hid (LogAt w lo b (logVal l (.slice A l.segs.length c)) l) := ⟨_, rfl, hs⟩
  have HF := Seg.hid hf
  have HW := Seg.hid hw
  clear hs hf hw
  unfold logVal at HV ⊢
  go_enter Try.func5, Try.ntmps5
  go_wp2_with fail
  refine (LgS.spec_any _ l ((w.alloc _).alloc _) lo b (HV.out.below ((below2 w _ _).mono hb)) (by rw [hsz, hsz]; omega) HF.out HW.out).mono ?_
  rintro e w1 ⟨rfl, b1⟩
  have C1 : Hid (Cs w w1 l (.slice A l.segs.length c) (.slice none 0 0) []) := by
    have h0 : Cs w ((w.alloc (.cells (logArr l (.slice A l.segs.length c)) 31 (0, 0))).alloc (.cells #[] 55 (0, 0))) l (.slice A l.segs.length c) (.slice none 0 0) [] := ⟨((below1 _ _).block _ (by rw [hsz]; omega)).trans (heap_alloc_new _ _), at2y w _ _, LAt.nil _ _ _ _, below2 w _ _, by rw [hsz, hsz]; omega⟩
    exact h0.next b1
  clear b1
  have NIL : Hid (∀ (wx : World) (A : Option Addr) (c : Nat), Ow.RedsOwn wx (Ls.seg w.heap.size wx.heap.size) (.slice A 0 c) []) := fun wx A c => Ow.LOwn.nil _ _ _ _
  obtain ⟨c0, c1, c2, c3⟩ := four C1.out.T
  cases hok : logOk l with
  | false =>
    have HC : Hid (visible l x s = ([], -1)) := by show _ = _; simp [visible, hok]
    clear hok
    go_wp2
    go_ret2
    exact ⟨_, by rw [HC.out]; rfl, by rw [HC.out]; exact NIL.out _ _ _, C1.out.bel⟩
  | true =>
  cases hin : (decide (l.start ≤ x) && decide (x ≤ l.next)) with
  | false =>
    have HC : Hid (visible l x s = ([], -1)) := by
      show _ = _
      unfold visible
      rw [if_neg (by rw [hok, show inR x l.start l.next = false from hin]; simp)]
    clear hok
    go_wp2_with (go_at_call 15; refine (InB.l1In_b x l.start l.next false hin _).mono ?_; rintro e w1' ⟨rfl, rfl⟩)
    go_ret2
    exact ⟨_, by rw [HC.out]; rfl, by rw [HC.out]; exact NIL.out _ _ _, C1.out.bel⟩
  | true =>
  have HC : Hid (visible l x s = (visM x (endV l s) (gonV l s) (flatB l.segs), max (endV l s) x)) := by
    show _ = _
    unfold visible
    rw [if_pos (by rw [hok, show inR x l.start l.next = true from hin]; rfl)]
  have HOK := Seg.hid hok
  obtain ⟨f, k1, k2, k3, k4, k5, k6, k7⟩ := ok_all hok
  have hxb : 0 ≤ x ∧ x ≤ 1000000000 := by simp only [Bool.and_eq_true, decide_eq_true_eq] at hin; omega
  have OKB := Seg.hid (okB_flat k1)
  have FL : (flatB l.segs).length ≤ 400 := by rw [flat_count]; exact k7
  have AB : Hid (aborted l = (settled l).2) := by show _ = _; unfold aborted; rw [if_pos hok]
  have SB : Hid (stable l = least l.next (settled l).1) := by show _ = _; unfold stable; rw [if_pos hok]
  clear hok k1
  go_wp2_with (go_at_call 15; refine (InB.l1In_b x l.start l.next true hin _).mono ?_; rintro e w1' ⟨rfl, rfl⟩)
  clear hin c0 c1 c2 c3
  refine (SdS.aborted_any _ l w1 lo b (HV.out.below (C1.out.bel.mono hb)) (by have := C1.out.bel.size; omega) HF.out HW.out).mono ?_
  rintro e w2 ⟨gv, rfl, og, b2⟩
  rw [AB.out] at og
  have s1 := C1.out.size
  have C2 : Hid (Cs w w2 l (.slice A l.segs.length c) gv (settled l).2) := by
    have h := C1.out.next b2
    exact ⟨h.T, h.E, (Ow.LOwn.lat growsGon Ow.atOGon og).mono growsGon (fun y hy => ⟨by have := hy.1; omega, hy.2⟩), h.bel, h.size⟩
  obtain ⟨Ag, cg, rfl⟩ := Ow.LOwn.form og
  clear og b2 C1
  go_upto_if 37 with fail
  go_cut [9] from 38 (fun v wx => v = .int .i64 (endV l s) ∧ Cs w wx l (.slice A l.segs.length c) (.slice Ag (settled l).2.length cg) (settled l).2)
  case first =>
    cases s with
    | true =>
      go_wp2_with (refine wpList_load_row rfl 31 _ rfl w.heap.size rfl _ _ _ _ C2.out.T Try.underlying31 rfl infoLG ?_)
      refine (SdS.stable_any _ l w2 lo b (HV.out.below (C2.out.bel.mono hb)) (by have := C2.out.bel.size; omega) HF.out HW.out).mono ?_
      rintro e w3 ⟨rfl, b3⟩
      have C3 := Seg.hid (C2.out.next b3)
      clear b3
      go_wp2
      go_meet
      exact ⟨by rw [SB.out]; rfl, C3.out⟩
    | false =>
      go_wp2
      go_meet
      exact ⟨rfl, C2.out⟩
  case rest =>
    obtain ⟨rfl, hC⟩ := hcut
    have CC := Seg.hid hC
    clear hC C2
    go_wp2_with (refine wpList_load_row rfl 31 _ rfl w.heap.size rfl _ _ _ _ CC.out.T Try.underlying31 rfl infoLG ?_)
    refine (Ft.l3All_own _ l wc lo b (HV.out.below (CC.out.bel.mono hb)) (by have := CC.out.bel.size; omega) (by omega) (by omega)).mono ?_
    rintro e w5 ⟨va, rfl, ⟨HA, hra, hha⟩, b5⟩
    have C5 := Seg.hid (CC.out.next b5)
    have zc := CC.out.size
    have z5 := b5.size
    have SIZ : wc.heap.size + 1 ≤ w5.heap.size ∨ w5.heap.size = wc.heap.size := by omega
    obtain ⟨_, Aa, ca, rfl, hrowa⟩ := hra
    have HRA := Seg.hid hrowa
    have HHA := Seg.hid hha
    clear b5 hrowa hha CC
    obtain ⟨e0, he0⟩ : ∃ e0, endV l s = e0 := ⟨_, rfl⟩
    rw [he0] at HC ⊢
    clear he0
    generalize flatB l.segs = bs at *
    have P0 : Hid (PR w5 w5 (w.heap.size + 1) (fun k => k = w.heap.size + 1) (.slice (some ⟨w.heap.size + 1, 0, none⟩) 0 0) []) := by
      refine ⟨⟨rfl, .inr ⟨w.heap.size + 1, 0, #[], rfl, Nat.le_refl _, C5.out.E, Nat.le_refl _, Nat.zero_le _, rfl, by simp [cellsR]⟩⟩, ⟨fun _ => False, trivial, fun x hx => hx.elim, fun g _ hx => hx⟩, fun _ _ _ => rfl, fun q hq => ?_, ⟨rfl, rfl, rfl⟩, Nat.le_refl _, by omega, rfl⟩
      simp only [Value.ownBlock, Option.some.injEq] at hq
      exact .inl hq.symm
    go_wp2_with fail
    go_loopw [8, 12] (fun v i wr => ∃ (j : Nat) (ps : List RV) (A1 : Option Addr) (c1 : Nat), j ≤ bs.length ∧ ps.length ≤ 40 * j ∧ i = .int .i64 j ∧ v = .slice A1 ps.length c1 ∧ Hid (ps.map Prod.fst = visM x e0 (gonV l s) (bs.take j) ∧ PR w5 wr (w.heap.size + 1) (fun k => k = w.heap.size + 1) (.slice A1 ps.length c1) ps)) (fun _ i _ => bs.length - (intOf i).toNat)
    case atStart => exact ⟨0, [], some ⟨w.heap.size + 1, 0, none⟩, 0, Nat.zero_le _, Nat.le_refl _, rfl, rfl, rfl, P0.out⟩
    case round =>
      clear P0
      obtain ⟨j, ps, A1, c1, hj, hpj, rfl, rfl, HR⟩ := hrel
      have PRr := Seg.hid HR.out.2
      have VR := Seg.hid HR.out.1
      have hzr := PRr.out.size
      by_cases hlt : j < bs.length
      · have h0 : (0 : Int) ≤ (j : Int) := by omega
        have h1 : (j : Int) < (bs.length : Int) := by omega
        obtain ⟨ga, oa, rfl, hga, hca, hcella, hgl⟩ := HRA.out.resolve_left (by omega)
        have kg := PRr.out.keep ga hga (by omega)
        have SEV := Bats.six hcella j hlt
        have RJ := HHA.out j hlt
        have OKJ := Seg.hid (OKB.out (bs.getD j default) (by rw [List.getD_eq_getElem?_getD, List.getElem?_eq_getElem hlt]; simp))
        have VT : Hid (visM x e0 (gonV l s) (bs.take (j + 1)) = visM x e0 (gonV l s) (bs.take j) ++ pick x e0 (gonV l s) (bs.getD j default)) := by show _ = _; rw [takeOne hlt]; unfold visM; rw [List.flatMap_append]; simp
        obtain ⟨HJ, ⟨_, Ah, ch, hHj, hrj⟩, hhj⟩ := id RJ
        rw [hHj] at SEV RJ
        obtain ⟨d0, d1, d2, d3, d4, d5, d6⟩ := SEV
        replace d0 := (World.cell?_of_block (w := w5) (a := ⟨ga, oa + j * 7, none⟩) kg).trans d0
        replace d1 := (World.cell?_of_block (w := w5) (a := ⟨ga, oa + j * 7 + 1, none⟩) kg).trans d1
        replace d2 := (World.cell?_of_block (w := w5) (a := ⟨ga, oa + j * 7 + 2, none⟩) kg).trans d2
        replace d3 := (World.cell?_of_block (w := w5) (a := ⟨ga, oa + j * 7 + 3, none⟩) kg).trans d3
        replace d4 := (World.cell?_of_block (w := w5) (a := ⟨ga, oa + j * 7 + 4, none⟩) kg).trans d4
        replace d5 := (World.cell?_of_block (w := w5) (a := ⟨ga, oa + j * 7 + 5, none⟩) kg).trans d5
        replace d6 := (World.cell?_of_block (w := w5) (a := ⟨ga, oa + j * 7 + 6, none⟩) kg).trans d6
        have hgr : ga < wr.heap.size := by omega
        have RJH := Seg.hid RJ
        have okl := LgP.okLen OKJ.out
        have okf := (SdJ.ok_flags OKJ.out).1
        clear hcella HR kg hHj hrj hhj RJ
        generalize bs.getD j default = tj at *
        by_cases hmk : 4 ≤ tj.flags
        · have PN : Hid (pick x e0 (gonV l s) tj = []) := by show _ = _; simp [pick, shown, mk, hmk]
          have PR1 := Seg.hid (PRr.out.later (below1 wr (.cells #[.int .i64 tj.base, .int .i64 tj.epoch, .int .i64 tj.producer, .int .i64 tj.turn, .int .i64 tj.seq, .int .i64 tj.flags, .slice Ah tj.recs.length ch] 48 (0, 0))))
          go_wp2_with fail
          go_roundw
          case rel => exact ⟨j + 1, ps, A1, c1, by omega, by omega, by go_num, rfl, by rw [VT.out, PN.out, List.append_nil]; exact VR.out, PR1.out⟩
          case measure => simp [intOf]; omega
        have SH : Hid (shown (gonV l s) tj = !goneB (gonV l s) tj) := by show _ = _; simp [shown, mk, hmk]
        have hm4 : ¬ (4 : Int) ≤ tj.flags := hmk
        obtain ⟨wq, hwq⟩ : ∃ wq, wq = wr.alloc (.cells #[.int .i64 tj.base, .int .i64 tj.epoch, .int .i64 tj.producer, .int .i64 tj.turn, .int .i64 tj.seq, .int .i64 tj.flags, .slice Ah tj.recs.length ch] 48 (0, 0)) := ⟨_, rfl⟩
        have BQ : Hid (Below wr.heap.size wr wq) := by rw [hwq]; exact below1 _ _
        have XQ : Hid (wq.heap[wr.heap.size]? = some (.cells #[.int .i64 tj.base, .int .i64 tj.epoch, .int .i64 tj.producer, .int .i64 tj.turn, .int .i64 tj.seq, .int .i64 tj.flags, .slice Ah tj.recs.length ch] 48 (0, 0))) := by rw [hwq]; exact heap_alloc_new _ _
        go_upto_region 13 with fail
        rw [← hwq]
        clear d0 d1 d2 d3 d4 d5 d6
        have p5 := cell_of_row wq wr.heap.size 5 _ _ (0, 0) XQ.out
        clear hwq
        have hbq : wr.heap.size < wq.heap.size := (Array.getElem?_eq_some_iff.1 XQ.out).1
        have PRq := Seg.hid (PRr.out.later BQ.out)
        have SQ : w5.heap.size ≤ wq.heap.size := PRq.out.size
        have OWR : Hid (∀ g, (Value.slice A1 ps.length c1).ownBlock = some g → g < wr.heap.size) := fun g hg => (World.ownsRow.lt PRr.out.own g hg).2
        generalize wr.heap.size = bx at *
        have GQ : Hid (LAt 3 EGon wq (fun y => w.heap.size + 1 + 1 ≤ y ∧ y < w5.heap.size) (.slice Ag (settled l).2.length cg) (settled l).2) := LAt.keep keepsGon C5.out.G (fun y hy => PRq.out.keep y hy.2 (by have := hy.1; omega))
        go_upto_block 2 with fail
        go_cut [14] from 55 to 96 (fun v wx => v = .bool (goneB (gonV l s) tj) ∧ Below wq.heap.size wq wx)
        case first =>
          have SGB : Hid (∀ y, (w.heap.size + 1 + 1 ≤ y ∧ y < w5.heap.size) → y < wq.heap.size) := fun y hy => by have := PRq.out.size; omega
          obtain ⟨Ag', cg', gg, og, Fg, hAg, OG, _⟩ := opn GQ.out SGB.out
          simp only [Value.slice.injEq, true_and] at hAg
          obtain ⟨rfl, rfl⟩ := hAg
          have OGH := Seg.hid OG
          clear OG
          generalize hgs : (settled l).2 = gs at *
          have GV : Hid (gonV l s = if s = true then gs else []) := by show _ = _; unfold gonV; rw [hgs]
          go_wp2_with fail
          go_loopw [14, 15] (fun v i wx => ∃ (k : Nat), k ≤ gs.length ∧ i = .int .i64 k ∧ v = .bool (op tj && (gs.take k).any (hit tj)) ∧ (s = false → k = 0) ∧ Hid (Below wq.heap.size wq wx)) (fun _ i _ => gs.length - (intOf i).toNat)
          case atStart => exact ⟨0, Nat.zero_le _, rfl, by simp, fun _ => rfl, Below.refl _ _⟩
          case round =>
            obtain ⟨k, hk, rfl, rfl, hs0, HB⟩ := hrel
            cases s with
            | false =>
              have Z : Hid ((op tj && (gs.take k).any (hit tj)) = goneB (gonV l false) tj) := by show _ = _; rw [hs0 rfl, GV.out]; simp [goneB]
              have hk0 : k = 0 := hs0 rfl
              clear hs0
              go_wp2
              go_meet
              exact ⟨(by rw [← Z.out, hk0]), HB.out⟩
            | true =>
            by_cases hlk : k < gs.length
            · obtain ⟨ea, hcg, hgg⟩ := OGH.out.addr.resolve_left (by omega)
              have OL := OGH.out.later keepsGon SGB.out HB.out
              obtain ⟨g0, g1, g2⟩ := VsG.gon_cells (i := k) (fun q hq => OL.cells k hlk q hq) (OL.el k hlk)
              have k0 : (0 : Int) ≤ (k : Int) := by omega
              have k1 : (k : Int) < (gs.length : Int) := by omega
              have hgx : gg < wr.heap.size := Nat.lt_of_lt_of_le hgg HB.out.size
              have XX := (HB.out.block bx hbq).trans XQ.out
              have TK : Hid ((gs.take (k + 1)).any (hit tj) = ((gs.take k).any (hit tj) || hit tj (gs.getD k default))) := by
                show _ = _
                rw [takeOne hlk, List.any_append]; simp
              clear OL
              generalize gs.getD k default = u at *
              subst ea
              obtain ⟨sk, hsk⟩ : ∃ sk, (op tj && (gs.take k).any (hit tj)) = sk := ⟨_, rfl⟩
              rw [hsk]
              have q0 := cell_of_row (wr.alloc (.cells #[.int .i64 u.producer, .int .i64 u.first, .int .i64 u.last] 50 (0, 0))) bx 0 _ _ (0, 0) ((below1 wr _).block bx (by have := HB.out.size; omega) |>.trans XX)
              have q2 := cell_of_row (wr.alloc (.cells #[.int .i64 u.producer, .int .i64 u.first, .int .i64 u.last] 50 (0, 0))) bx 2 _ _ (0, 0) ((below1 wr _).block bx (by have := HB.out.size; omega) |>.trans XX)
              have q5 := cell_of_row (wr.alloc (.cells #[.int .i64 u.producer, .int .i64 u.first, .int .i64 u.last] 50 (0, 0))) bx 5 _ _ (0, 0) ((below1 wr _).block bx (by have := HB.out.size; omega) |>.trans XX)
              cases sk with
              | true =>
                have N : Hid ((op tj && (gs.take (k + 1)).any (hit tj)) = true) := by show _ = _; simp only [Bool.and_eq_true] at hsk; rw [TK.out, hsk.1, hsk.2]; rfl
                go_wp2_with fail
                go_roundw
                case rel => exact ⟨k + 1, by omega, by go_num, by rw [N.out], (fun h => by cases h), chain HB.out (below1 _ _)⟩
                case measure => simp [intOf]; omega
              | false =>
                obtain ⟨fl, hfl⟩ : ∃ fl, tj.flags = fl := ⟨_, rfl⟩
                rw [hfl] at q5 hm4 okf
                have HOP : Hid (op tj = decide (fl / 2 % 2 = 1)) := by show _ = _; unfold op; rw [hfl]
                have fl4 : fl = 0 ∨ fl = 1 ∨ fl = 2 ∨ fl = 3 := by omega
                clear hm4 okf hfl hmk p5
                rcases fl4 with rfl | rfl | rfl | rfl
                · have N : Hid ((op tj && (gs.take (k + 1)).any (hit tj)) = false) := by show _ = _; rw [HOP.out]; rfl
                  clear hsk
                  go_wp2_with fail
                  go_roundw
                  case rel => exact ⟨k + 1, by omega, by go_num, by rw [N.out], (fun h => by cases h), chain HB.out (below1 _ _)⟩
                  case measure => simp [intOf]; omega
                · have N : Hid ((op tj && (gs.take (k + 1)).any (hit tj)) = false) := by show _ = _; rw [HOP.out]; rfl
                  clear hsk
                  go_wp2_with fail
                  go_roundw
                  case rel => exact ⟨k + 1, by omega, by go_num, by rw [N.out], (fun h => by cases h), chain HB.out (below1 _ _)⟩
                  case measure => simp [intOf]; omega
                · have hany : (gs.take k).any (hit tj) = false := by rw [HOP.out] at hsk; simpa using hsk
                  by_cases hp : tj.producer = u.producer
                  · have hpb : (tj.producer == u.producer) = true := by simp [hp]
                    by_cases hfi : u.first ≤ tj.base
                    · have hfb : decide (u.first ≤ tj.base) = true := decide_eq_true hfi
                      have N : Hid ((op tj && (gs.take (k + 1)).any (hit tj)) = decide (tj.base ≤ u.last)) := by show _ = _; rw [TK.out, hany, HOP.out]; simp [hit, hp, hfi]
                      clear hsk
                      go_wp2_with fail
                      go_roundw
                      case rel => exact ⟨k + 1, by omega, by go_num, by rw [N.out], (fun h => by cases h), chain HB.out (below1 _ _)⟩
                      case measure => simp [intOf]; omega
                    · have hfb : decide (u.first ≤ tj.base) = false := decide_eq_false hfi
                      have N : Hid ((op tj && (gs.take (k + 1)).any (hit tj)) = false) := by show _ = _; rw [TK.out, hany, HOP.out]; simp [hit, hfi]
                      clear hsk
                      go_wp2_with fail
                      go_roundw
                      case rel => exact ⟨k + 1, by omega, by go_num, by rw [N.out], (fun h => by cases h), chain HB.out (below1 _ _)⟩
                      case measure => simp [intOf]; omega
                  · have hpb : (tj.producer == u.producer) = false := by simp [hp]
                    have N : Hid ((op tj && (gs.take (k + 1)).any (hit tj)) = false) := by show _ = _; rw [TK.out, hany, HOP.out]; simp [hit, Ne.symm hp]
                    clear hsk
                    go_wp2_with fail
                    go_roundw
                    case rel => exact ⟨k + 1, by omega, by go_num, by rw [N.out], (fun h => by cases h), chain HB.out (below1 _ _)⟩
                    case measure => simp [intOf]; omega
                · have hany : (gs.take k).any (hit tj) = false := by rw [HOP.out] at hsk; simpa using hsk
                  by_cases hp : tj.producer = u.producer
                  · have hpb : (tj.producer == u.producer) = true := by simp [hp]
                    by_cases hfi : u.first ≤ tj.base
                    · have hfb : decide (u.first ≤ tj.base) = true := decide_eq_true hfi
                      have N : Hid ((op tj && (gs.take (k + 1)).any (hit tj)) = decide (tj.base ≤ u.last)) := by show _ = _; rw [TK.out, hany, HOP.out]; simp [hit, hp, hfi]
                      clear hsk
                      go_wp2_with fail
                      go_roundw
                      case rel => exact ⟨k + 1, by omega, by go_num, by rw [N.out], (fun h => by cases h), chain HB.out (below1 _ _)⟩
                      case measure => simp [intOf]; omega
                    · have hfb : decide (u.first ≤ tj.base) = false := decide_eq_false hfi
                      have N : Hid ((op tj && (gs.take (k + 1)).any (hit tj)) = false) := by show _ = _; rw [TK.out, hany, HOP.out]; simp [hit, hfi]
                      clear hsk
                      go_wp2_with fail
                      go_roundw
                      case rel => exact ⟨k + 1, by omega, by go_num, by rw [N.out], (fun h => by cases h), chain HB.out (below1 _ _)⟩
                      case measure => simp [intOf]; omega
                  · have hpb : (tj.producer == u.producer) = false := by simp [hp]
                    have N : Hid ((op tj && (gs.take (k + 1)).any (hit tj)) = false) := by show _ = _; rw [TK.out, hany, HOP.out]; simp [hit, Ne.symm hp]
                    clear hsk
                    go_wp2_with fail
                    go_roundw
                    case rel => exact ⟨k + 1, by omega, by go_num, by rw [N.out], (fun h => by cases h), chain HB.out (below1 _ _)⟩
                    case measure => simp [intOf]; omega
            · have Z : Hid ((op tj && (gs.take k).any (hit tj)) = goneB (gonV l true) tj) := by show _ = _; rw [GV.out, if_pos rfl, List.take_of_length_le (by omega)]; rfl
              have k1 : ¬ (k : Int) < (gs.length : Int) := by omega
              go_wp2
              go_meet
              exact ⟨by rw [Z.out], HB.out⟩
        case rest =>
          obtain ⟨rfl, hB⟩ := hcut
          have XZ := Seg.hid ((hB.block bx hbq).trans XQ.out)
          have PRz := Seg.hid (PRq.out.later hB)
          have hbz : bx < wc.heap.size := Nat.lt_of_lt_of_le hbq hB.size
          have sz5 : w5.heap.size ≤ wc.heap.size := Nat.le_trans SQ hB.size
          have OWB : Hid (∀ g, (Value.slice A1 ps.length c1).ownBlock = some g → g ≠ bx) := fun g hg => by have := OWR.out g hg; omega
          clear hB BQ XQ PRq PRr GQ p5 OWR
          cases hgn : goneB (gonV l s) tj with
          | true =>
            have PN : Hid (pick x e0 (gonV l s) tj = []) := by show _ = _; unfold pick; rw [SH.out, hgn]; rfl
            clear hgn
            have p6 := cell_of_row wc bx 6 _ _ (0, 0) XZ.out
            have z1 : (0 : Int) < (tj.recs.length : Int) := by omega
            go_wp2_with fail
            go_loopw [8, 17] (fun v i wx => v = .slice A1 ps.length c1 ∧ i = .int .i64 0 ∧ wx = wc) (fun _ _ _ => 0)
            case atStart => exact ⟨rfl, rfl, rfl⟩
            case round =>
              obtain ⟨rfl, rfl, rfl⟩ := hrel
              go_wp2_with fail
              go_roundw
              case rel => exact ⟨j + 1, ps, A1, c1, by omega, by omega, by go_num, rfl, by rw [VT.out, PN.out, List.append_nil]; exact VR.out, PRz.out⟩
              case measure => simp [intOf]; omega
          | false =>
          have PK : Hid (pick x e0 (gonV l s) tj = (rds tj.base tj.recs).filter (inB x e0)) := by show _ = _; unfold pick; rw [SH.out, hgn]; rfl
          clear hgn
          go_wp2_with fail
          go_loopw [8, 17] (fun v i wx => ∃ (k : Nat) (qs : List RV) (A2 : Option Addr) (c2 : Nat), k ≤ tj.recs.length ∧ i = .int .i64 k ∧ v = .slice A2 qs.length c2 ∧ qs.length ≤ ps.length + k ∧ Hid (qs.map Prod.fst = visM x e0 (gonV l s) (bs.take j) ++ ((rds tj.base tj.recs).take k).filter (inB x e0) ∧ PR w5 wx (w.heap.size + 1) (fun k => k = w.heap.size + 1) (.slice A2 qs.length c2) qs ∧ wx.heap[bx]? = some (.cells #[.int .i64 tj.base, .int .i64 tj.epoch, .int .i64 tj.producer, .int .i64 tj.turn, .int .i64 tj.seq, .int .i64 tj.flags, .slice Ah tj.recs.length ch] 48 (0, 0)) ∧ ∀ g, (Value.slice A2 qs.length c2).ownBlock = some g → g ≠ bx)) (fun _ i _ => tj.recs.length - (intOf i).toNat)
          case atStart => exact ⟨0, ps, A1, c1, Nat.zero_le _, rfl, rfl, Nat.le_refl _, by rw [List.take_zero, List.filter_nil, List.append_nil]; exact VR.out, PRz.out, XZ.out, OWB.out⟩
          case round =>
            clear PRz XZ OWB
            obtain ⟨k, qs, A2, c2, hk, rfl, rfl, hql, HQ⟩ := hrel
            have p0 := cell_of_row wr bx 0 _ _ (0, 0) HQ.out.2.2.1
            have p6 := cell_of_row wr bx 6 _ _ (0, 0) HQ.out.2.2.1
            have hbr : bx < wr.heap.size := (Array.getElem?_eq_some_iff.1 HQ.out.2.2.1).1
            have szr := HQ.out.2.1.size
            by_cases hlk : k < tj.recs.length
            · have k0 : (0 : Int) ≤ (k : Int) := by omega
              have k1 : (k : Int) < (tj.recs.length : Int) := by omega
              have wk : IntKind.i64.wrap (tj.base + (k : Int)) = tj.base + (k : Int) := by rw [IntKind.wrap_i64]; omega
              have TK := Seg.hid (rds_take tj.base tj.recs hlk)
              by_cases hx1 : x ≤ tj.base + (k : Int)
              · by_cases hx2 : tj.base + (k : Int) < e0
                · have hb1 : decide (x ≤ tj.base + (k : Int)) = true := decide_eq_true hx1
                  have hb2 : decide (tj.base + (k : Int) < e0) = true := decide_eq_true hx2
                  have QN : Hid ((qs.map Prod.fst) ++ [red (tj.base + (k : Int)) (tj.recs.getD k default)] = visM x e0 (gonV l s) (bs.take j) ++ ((rds tj.base tj.recs).take (k + 1)).filter (inB x e0)) := by show _ = _; rw [TK.out, List.filter_append, HQ.out.1, List.append_assoc]; simp [inB, red, hx1, hx2]
                  have PRk := Seg.hid HQ.out.2.1
                  have XK := Seg.hid HQ.out.2.2.1
                  have OK2 := Seg.hid HQ.out.2.2.2
                  obtain ⟨HJ, ⟨_, Ar', cr', hsr, hrr⟩, hhr⟩ := RJH.out
                  simp only [Value.slice.injEq] at hsr
                  obtain ⟨rfl, _, rfl⟩ := hsr
                  obtain ⟨gr, orr, rfl, hgr2, hcr, hcellr, _⟩ := hrr.resolve_left (by omega)
                  have kgr := PRk.out.keep gr (by omega) (by omega)
                  obtain ⟨r0, r1, r2, r3, r4, r5⟩ := recs6 hcellr k hlk
                  obtain ⟨_, Hk, hk5, hHk, hrowk⟩ := id (hhr k hlk)
                  have HHK : Hid (Heads wr lo b (HJ k) (tj.recs.getD k default).heads) := (hhr k hlk).keep fun y _ hy => PRk.out.keep y (by omega) (by omega)
                  have fhk : (tj.recs.getD k default).heads.length ≤ 1048576 := by
                    have h9 := OKJ.out
                    simp only [BOk.batOk, Bool.and_eq_true, List.all_eq_true] at h9
                    have h8 := h9.1.2 (tj.recs.getD k default) (by rw [List.getD_eq_getElem?_getD, List.getElem?_eq_getElem hlk, Option.getD_some]; exact List.getElem_mem _)
                    simp only [ROk.okR, ROk.okR0, Bool.and_eq_true, decide_eq_true_eq] at h8
                    omega
                  rw [hHk] at r5 HHK
                  replace r0 := (World.cell?_of_block (w := w5) (a := ⟨gr, orr + k * 6, none⟩) kgr).trans r0
                  replace r1 := (World.cell?_of_block (w := w5) (a := ⟨gr, orr + k * 6 + 1, none⟩) kgr).trans r1
                  replace r2 := (World.cell?_of_block (w := w5) (a := ⟨gr, orr + k * 6 + 2, none⟩) kgr).trans r2
                  replace r3 := (World.cell?_of_block (w := w5) (a := ⟨gr, orr + k * 6 + 3, none⟩) kgr).trans r3
                  replace r4 := (World.cell?_of_block (w := w5) (a := ⟨gr, orr + k * 6 + 4, none⟩) kgr).trans r4
                  replace r5 := (World.cell?_of_block (w := w5) (a := ⟨gr, orr + k * 6 + 5, none⟩) kgr).trans r5
                  have hgrr : gr < wr.heap.size := by omega
                  clear HQ hcellr hrr hhr hHk hrowk kgr
                  generalize tj.recs.getD k default = rk at *
                  go_upto_region 26 with (at_builtin; (refine Ft.wpList_append_all _ rfl _ _ 51 rfl (wr.heap.size + 1) 94 i1 _ 2 32 Try.underlying51 hi' hz0' hz1' hz2' rfl (by decide) (.slice (some ⟨wr.heap.size + 1, 0, none⟩) 0 0) 0 [] rfl ?zqa Hk rk.heads.length hk5 (Ft.flat 2 rk.heads.length (hdCells rk.heads)) rfl (Ft.flat_len _ _ _) ?zqb (Ft.flat_one (Ft.hd_one _) (by omega)) (by unfold maxLen; omega) (by omega) (by rw [hsz, hsz]; omega) ?_; (case zqa => have := World.ownsRow_lit (base := wr.heap.size + 1) (e := 94) (size := 2) (wr.alloc (.cells (RecW.recArr rk (.slice Hk rk.heads.length hk5)) 53 (0, 0))) #[] 0 (by rw [hsz]; exact Nat.le_refl _) (Nat.zero_le _) rfl; rw [hsz] at this; exact this); (case zqb => exact Ft.flat_news (by decide) (Row.below HHK.out ((below2 wr _ _).mono (by omega)))); intro v2 w8 hown2 hgr2 hat2; rw [Nat.zero_add, List.nil_append] at hown2; obtain ⟨A8, c8, hv2, hA2⟩ := Ft.owns_form hown2; subst hv2; clear hA2; have AF := Seg.hid (hcopy (hv0 := .slice Hk rk.heads.length hk5) fhk hown2 hgr2); have y5 := AF.out.1; have x5 := AF.out.2.1; have hl8 := AF.out.2.2.2.2.2; clear hown2 hgr2 hat2))
                  have B9' := AF.out.2.2.1
                  have R9' := AF.out.2.2.2.1
                  have O9' := AF.out.2.2.2.2.1
                  have z9' : wr.heap.size < (w8.setCell ⟨wr.heap.size, 5, none⟩ (.slice A8 rk.heads.length c8)).heap.size := by simpa using hl8
                  clear AF r0 r1 r2 r3 r4 r5 p0 p6
                  generalize w8.setCell ⟨wr.heap.size, 5, none⟩ (.slice A8 rk.heads.length c8) = W9 at *
                  have B9 : Hid (Below wr.heap.size wr W9) := B9'
                  have O9 : Hid (OwnH W9 (Ft.seg (wr.heap.size + 1) W9.heap.size) (.slice A8 rk.heads.length c8) rk.heads) := O9'
                  obtain ⟨r0, r1, r2, r3, r4, r5⟩ := rec6 R9'
                  have X9 := Seg.hid ((B9.out.block bx hbr).trans XK.out)
                  have p0 := cell_of_row W9 bx 0 _ _ (0, 0) X9.out
                  have hb9 : bx < W9.heap.size := by omega
                  clear B9' R9' O9' y5 x5 hl8
                  have PHN : Hid (∀ o9 : Obj, PH (W9.alloc o9) (Ft.seg (wr.heap.size + 1) W9.heap.size) [(red (tj.base + (k : Int)) rk, .slice A8 rk.heads.length c8)]) := fun o9 => ⟨Ft.seg (wr.heap.size + 1) W9.heap.size, fun _ => False, Ft.LOwn.keep Ft.keepsH O9.out (by rw [hsz]; omega) (fun y hy => (below1 _ _).block y hy.2), fun _ h => h, fun _ h => h.elim, fun _ _ h => h, trivial⟩
                  have OWK : Hid (∀ o9 : Obj, (W9.alloc o9).ownsRow (w.heap.size + 1) 55 7 (.slice A2 qs.length c2) qs.length (cellsR qs)) := fun o9 => World.ownsRow.alloc (ownsKeep PRk.out.own (fun g hg => B9.out.block g (World.ownsRow.lt PRk.out.own g hg).2)) _
                  have hql2 : qs.length ≤ 100000 := by omega
                  go_wp2_with (at_builtin; (refine wpList_append_lies _ rfl _ _ 26 rfl (w.heap.size + 1) 55 i0 _ 7 88 Try.underlying26 hi hz0 hz1 hz2 rfl (by decide) (.slice A2 qs.length c2) qs.length (cellsR qs) rfl (OWK.out _) ⟨W9.heap.size, 0, none⟩ 1 1 (redArr (red (tj.base + (k : Int)) rk) (.slice A8 rk.heads.length c8)).toList rfl rfl (World.news_of_block (cs := redArr (red (tj.base + (k : Int)) rk) (.slice A8 rk.heads.length c8)) (heap_alloc_new W9 _)) (by simp [redArr, red, Value.oneCell']) (by decide) (by unfold maxLen; omega) (by omega) (by rw [hsz]; omega) (W9.heap.size + 1) (hsz W9 _) ?_; intro g9 cap9 w10 hown9 gr9 hat9 hlt9; have D9 := Seg.hid (PR.push (v' := .slice (some ⟨g9, 0, none⟩) (qs.length + 1) cap9) (qs := [(red (tj.base + (k : Int)) rk, .slice A8 rk.heads.length c8)]) PRk.out (chain B9.out (below1 W9 _)) (PHN.out _) (fun y hy => ⟨by have := hy.1; omega, by rw [hsz]; have := hy.2; omega⟩) (by rw [cellsR_one]; exact hown9) gr9 (hat9.imp (fun e => by rw [e]; rfl) (fun e => by rw [e, hsz]; rfl))); have X10 := Seg.hid ((gr9.block bx (by rw [hsz]; omega) (fun e => OK2.out bx e.symm rfl)).trans (((below1 W9 _).block bx hb9).trans X9.out)); have OW10 : Hid (∀ g, (Value.slice (some ⟨g9, 0, none⟩) (qs.length + 1) cap9).ownBlock = some g → g ≠ bx) := (fun g hg => by have hgg : g9 = g := (by simpa [Value.ownBlock] using hg); subst hgg; rcases hat9 with e | e; exact OK2.out _ e; omega); clear hown9 gr9 hat9 hlt9))
                  go_roundw
                  case rel => exact ⟨k + 1, qs ++ [(red (tj.base + (k : Int)) rk, .slice A8 rk.heads.length c8)], some ⟨g9, 0, none⟩, cap9, by omega, by go_num, by simp, by simp; omega, by rw [List.map_append]; exact QN.out, by simpa using D9.out, X10.out, by simpa using OW10.out⟩
                  case measure => simp [intOf]; omega
                · have QN : Hid (qs.map Prod.fst = visM x e0 (gonV l s) (bs.take j) ++ ((rds tj.base tj.recs).take (k + 1)).filter (inB x e0)) := by show _ = _; rw [TK.out, List.filter_append, HQ.out.1]; simp [inB, red, hx2]
                  have HN := Seg.hid HQ.out.2
                  have hb1 : decide (x ≤ tj.base + (k : Int)) = true := decide_eq_true hx1
                  have hb2 : decide (tj.base + (k : Int) < e0) = false := decide_eq_false hx2
                  clear HQ
                  go_wp2_with fail
                  go_roundw
                  case rel => exact ⟨k + 1, qs, A2, c2, by omega, by go_num, rfl, by omega, QN.out, HN.out⟩
                  case measure => simp [intOf]; omega
              · have QN : Hid (qs.map Prod.fst = visM x e0 (gonV l s) (bs.take j) ++ ((rds tj.base tj.recs).take (k + 1)).filter (inB x e0)) := by show _ = _; rw [TK.out, List.filter_append, HQ.out.1]; simp [inB, red, hx1]
                have HN := Seg.hid HQ.out.2
                have hb1 : decide (x ≤ tj.base + (k : Int)) = false := decide_eq_false hx1
                clear HQ
                go_wp2_with fail
                go_roundw
                case rel => exact ⟨k + 1, qs, A2, c2, by omega, by go_num, rfl, by omega, QN.out, HN.out⟩
                case measure => simp [intOf]; omega
            · have k1 : ¬ (k : Int) < (tj.recs.length : Int) := by omega
              have QN : Hid (qs.map Prod.fst = visM x e0 (gonV l s) (bs.take (j + 1))) := by show _ = _; rw [VT.out, PK.out, HQ.out.1, List.take_of_length_le (l := rds tj.base tj.recs) (by rw [rds_len]; omega)]
              have HN := Seg.hid HQ.out.2.1
              clear HQ
              go_wp2_with fail
              go_roundw
              case rel => exact ⟨j + 1, qs, A2, c2, by omega, by omega, by go_num, rfl, QN.out, HN.out⟩
              case measure => simp [intOf]; omega
      · have hjl : j = bs.length := by omega
        have VE : Hid (ps.map Prod.fst = visM x e0 (gonV l s) bs) := by show _ = _; rw [VR.out, hjl, List.take_length]
        have OE := Seg.hid (PRr.out.fin (w := w) (by omega) (by omega) (by have := C5.out.bel.size; omega))
        have BE := Seg.hid (PRr.out.below (w := w) (fun y hy => by omega) C5.out.bel)
        have h1 : ¬ (j : Int) < (bs.length : Int) := by omega
        clear HR
        by_cases hm : e0 < x
        · have ME : Hid (visible l x s = (ps.map Prod.fst, x)) := by show _ = _; rw [HC.out, VE.out, show max e0 x = x by omega]
          go_wp2_with fail
          go_ret2
          exact ⟨_, by rw [ME.out]; rfl, by rw [ME.out]; exact OE.out, BE.out⟩
        · have ME : Hid (visible l x s = (ps.map Prod.fst, e0)) := by show _ = _; rw [HC.out, VE.out, show max e0 x = e0 by omega]
          go_wp2_with fail
          go_ret2
          exact ⟨_, by rw [ME.out]; rfl, by rw [ME.out]; exact OE.out, BE.out⟩
theorem visibleS_any (v : Value) (l : Lg) (x : Int) (s : Bool) (w : World) (lo b : Nat) (hv : LogAt w lo b v l) (hb : b ≤ w.heap.size) (hf : FewL l) (hw : ∀ i, i < l.segs.length → -9223372036854775808 ≤ (l.segs.getD i default).base ∧ (l.segs.getD i default).base ≤ 9223372036854775807) :
    Calls Try.prog 5 #[v, .int .i64 x, .bool s] w fun e w' => ∃ v, e = .returned (.tuple #[v, .int .i64 (visible l x s).2]) ∧ Ow.RedsOwn w' (Ls.seg w.heap.size w'.heap.size) v (visible l x s).1 ∧ Below w.heap.size w w' := by
  obtain ⟨sv, rfl, hs⟩ := hv
  obtain ⟨_, ⟨_, A, c, rfl, _⟩, _⟩ := id hs
  exact visibleS_core l x s A c w lo b hb hf hw hs
end Go.Proofs.Ytdnfnjlnfmafkaa.VsS
