/- The program's copies of a Segment and of a list of Segments; The program's copy of a list of Segments; A log cut at the front, on plain data; parts of lists in memory. -/
import Derived.Deep.RegionLaw
import Derived.Test.YticihnoekffelaaJS16
import Derived.Test.YticihnoekffelaaJS14
import Derived.Test.YticihnoekffelaaJS12
namespace Go.Proofs.Yticihnoekffelaa.Ft
set_option maxRecDepth 8000
open Go.RowKit
open Recs
open ToO (MineC)
open Bats (BatsAt batsCells)
open SegW
open Segs (SegsAt segsCells)
set_option linter.unusedVariables false
/-- How far a Segment is copied. -/
structure CS (w wr : World) (s : Sg) (v : Value) (us : List Bat) : Prop where
  grow : LGrow 58 7 EB wr (w.heap.size + 3) v us
  out : wr.heap[w.heap.size + 1 + 1]? = some (.cells (segArr s v) 55 (0, 0))
  res : wr.heap[w.heap.size + 1]? = some (.cells (segArr ⟨0, []⟩ (.slice none 0 0)) 55 (0, 0))
  bel : Below w.heap.size w wr
  size : w.heap.size + 3 ≤ wr.heap.size
/-- One Batch more: wb: behind the round's own variable; w8: behind its copy; w9: behind append. -/
theorem CS.push {w wr w8 w9 : World} {s : Sg} {v : Value} {us : List Bat} {F : Nat → Value} {P : Nat → Nat → Prop} {t : Bat} {rv : Value} {o : Obj} {g cap : Nat} (h : CS w wr s v us) (hG : LGr 58 7 EB wr (w.heap.size + 3) v us F P) (b8 : Below wr.heap.size wr w8) (ho : OwnR w8 (seg wr.heap.size w8.heap.size) rv t.recs)
    (hown : w9.ownsRow (w.heap.size + 3) 58 7 (.slice (some ⟨g, 0, none⟩) (us.length + 1) cap) (us.length + 1) ((List.range (us.length * 7)).map F ++ (BatW.batArr t rv).toList)) (gr : (w8.alloc o).grownBy w9 v.ownBlock) (hg : v.ownBlock = some g ∨ g = w8.heap.size + 1) :
    CS w (w9.setCell ⟨w.heap.size + 1 + 1, 1, none⟩ (.slice (some ⟨g, 0, none⟩) (us.length + 1) cap)) s (.slice (some ⟨g, 0, none⟩) (us.length + 1) cap) (us ++ [t]) ∧ w9.cell? ⟨w.heap.size + 1 + 1, 1, none⟩ = some v ∧ w9.frozen? ⟨w.heap.size + 1 + 1, 1, none⟩ = false := by
  have s8 := b8.size
  have hz := h.size
  have gs := gr.size
  rw [hsz] at gs
  have hvb : ∀ x, v.ownBlock = some x → w.heap.size + 3 ≤ x ∧ x < wr.heap.size := fun x hx => World.ownsRow.lt hG.own x hx
  have k9 : ∀ x, x < w.heap.size + 3 → w9.heap[x]? = wr.heap[x]? := fun x hx => by
    rw [gr.block x (by rw [hsz]; omega) (fun e => by have := hvb x e.symm; omega), heap_alloc_old _ _ (by omega), b8.block x (by omega)]
  have O9 := (k9 (w.heap.size + 1 + 1) (by omega)).trans h.out
  have R9 := (k9 (w.heap.size + 1) (by omega)).trans h.res
  have D9 := LGr.push keepsB (w2 := w8.alloc o) (w3 := w9) (g := g) (cap := cap) (Q := seg wr.heap.size w8.heap.size) (t := t) (news := (BatW.batArr t rv).toList) hG h.size (by rw [hsz]; omega) (fun x _ hx => by rw [heap_alloc_old _ _ (by omega), b8.block x hx]) (bat_el (LOwn.keep keepsR ho (by rw [hsz]; omega) (fun x hx => heap_alloc_old _ _ hx.2))) (fun x hx => by rw [hsz]; obtain ⟨x1, x2⟩ := hx; exact ⟨x1, by omega⟩) rfl hown gr (by rw [hsz]; exact hg)
  have B9 : Below w.heap.size w w9 := ⟨gr.os.trans (b8.os.trans h.bel.os), gr.tape.trans (b8.tape.trans h.bel.tape), gr.output.trans (b8.output.trans h.bel.output), by omega, fun x hx => (k9 x (by omega)).trans (h.bel.block x hx)⟩
  refine ⟨⟨D9.keep keepsB (by simp) (fun x hx _ => heap_setCell_other _ _ _ _ (by show x ≠ w.heap.size + 1 + 1; omega)), ?_, (heap_setCell_other _ _ _ _ (by show w.heap.size + 1 ≠ w.heap.size + 1 + 1; omega)).trans R9, B9.setCell (p := ⟨w.heap.size + 1 + 1, 1, none⟩) (by show w.heap.size ≤ w.heap.size + 1 + 1; omega) _, by simp; omega⟩, ?_, ?_⟩
  · exact heap_setCell_same w9 (w.heap.size + 1 + 1) 1 _ _ _ O9
  · exact cell_of_row w9 (w.heap.size + 1 + 1) 1 _ _ (0, 0) O9
  · exact frozen_of_row w9 (w.heap.size + 1 + 1) 1 _ _ O9
set_option maxHeartbeats 3200000 in
theorem copySegment_core (s : Sg) (A : Option Addr) (c : Nat) (w : World) (lo b : Nat) (hb : b ≤ w.heap.size) (hf : FewS s) (hv : BatsAt w lo b (.slice A s.bats.length c) s.bats) :
    Calls Try.prog 59 #[segVal s (.slice A s.bats.length c)] w fun e w' => ∃ bv, e = .returned (segVal s bv) ∧ LGrow 58 7 EB w' (w.heap.size + 3) bv s.bats ∧ Below w.heap.size w w' ∧ w.heap.size + 3 ≤ w'.heap.size := by
  obtain ⟨i0, hi, hz0, hz1, hz2⟩ := info_parts infoB
  have HF := Seg.hid hf.2
  have hl := hf.1
  obtain ⟨H, ⟨_, A', c', hsl, hrow⟩, hh⟩ := hv
  simp only [Value.slice.injEq] at hsl
  obtain ⟨rfl, _, rfl⟩ := hsl
  have HROW := Seg.hid hrow; have HH := Seg.hid hh
  clear hrow hh hf
  unfold segVal
  go_enter Try.func59, Try.ntmps59
  go_wp2_with fail
  have C0 : Hid (CS w (((w.alloc (.cells (segArr s (.slice A s.bats.length c)) 55 (0, 0))).alloc (.cells (segArr ⟨0, []⟩ (.slice none 0 0)) 55 (0, 0))).alloc (.cells (segArr s (.slice none 0 0)) 55 (0, 0))) s (.slice none 0 0) []) :=
    ⟨LGrow.nil _ _, Cells.at3' w _ _ _, at3 w _ _ _, below3 w _ _ _, by rw [hsz, hsz, hsz]; omega⟩
  go_loopw [12] (fun i wr => ∃ (j : Nat) (us : List Bat) (A1 : Option Addr) (c1 : Nat), j ≤ s.bats.length ∧ i = .int .i64 j ∧ Hid (us = s.bats.take j ∧ CS w wr s (.slice A1 us.length c1) us)) (fun i _ => s.bats.length - (intOf i).toNat)
  case atStart => exact ⟨0, [], none, 0, Nat.zero_le _, rfl, by simp, C0.out⟩
  case round =>
    clear C0
    obtain ⟨j, us, A1, c1, hj, rfl, HW⟩ := hrel
    by_cases hlt : j < s.bats.length
    · have h0 : (0 : Int) ≤ (j : Int) := by omega
      have h1 : (j : Int) < (s.bats.length : Int) := by omega
      obtain ⟨g, o, rfl, hg, hc, hcell, _⟩ := HROW.out.resolve_left (by omega)
      have hgw : g < w.heap.size := by omega
      obtain ⟨e0, e1, e2, e3, e4, e5, e6⟩ := Bats.six (fun i hi q hq => by rw [HW.out.2.bel.cell (p := ⟨g, o + i * 7 + q, none⟩) hgw]; exact hcell i hi q hq) j hlt
      have UL : Hid (us.length = j) := by show _ = _; rw [HW.out.1, List.length_take]; omega
      have UN : Hid (us ++ [s.bats.getD j default] = s.bats.take (j + 1)) := by show _ = _; rw [HW.out.1]; exact (take_one hlt).symm
      have WC := Seg.hid HW.out.2
      obtain ⟨F, P, hG⟩ := HW.out.2.grow
      have HG := Seg.hid hG
      have hz := HW.out.2.size
      have hul : us.length ≤ 1048576 := by rw [UL.out]; omega
      have BT : Hid (∀ wx, Below wr.heap.size wr wx → BatAt wx lo b (.agg (BatW.batArr (s.bats.getD j default) (H j))) (s.bats.getD j default)) := fun wx bx => ⟨_, rfl, (HH.out j hlt).below ((chain HW.out.2.bel bx).mono hb)⟩
      have FB := Seg.hid (HF.out j hlt)
      obtain ⟨_, ⟨_, Ah, ch, hHj, _⟩, _⟩ := HH.out j hlt
      have d1 : (wr.alloc (.cells (BatW.batArr (s.bats.getD j default) (H j)) 58 (0, 0))).cell? ⟨w.heap.size + 1 + 1, 1, none⟩ = some (.slice A1 us.length c1) := by
        rw [World.cell?_of_block (w := wr) (heap_alloc_old _ _ (by show w.heap.size + 1 + 1 < _; omega))]
        exact cell_of_row wr (w.heap.size + 1 + 1) 1 _ _ (0, 0) HW.out.2.out
      have LR : Hid ((wr.alloc (.cells (BatW.batArr (s.bats.getD j default) (H j)) 58 (0, 0))).heap[wr.heap.size]? = some (.cells (BatW.batArr (s.bats.getD j default) (H j)) 58 (0, 0))) := heap_alloc_new _ _
      clear hcell HW hG
      generalize s.bats.getD j default = tj at *
      rw [hHj] at e6 d1 LR BT
      clear hHj
      have LR' : Hid ((wr.alloc (.cells #[.int .i64 tj.base, .int .i64 tj.epoch, .int .i64 tj.producer, .int .i64 tj.turn, .int .i64 tj.seq, .int .i64 tj.flags, .slice Ah tj.recs.length ch] 58 (0, 0))).heap[wr.heap.size]? = some (.cells (BatW.batArr tj (.slice Ah tj.recs.length ch)) 58 (0, 0))) := LR.out
      have d1' : (wr.alloc (.cells #[.int .i64 tj.base, .int .i64 tj.epoch, .int .i64 tj.producer, .int .i64 tj.turn, .int .i64 tj.seq, .int .i64 tj.flags, .slice Ah tj.recs.length ch] 58 (0, 0))).cell? ⟨w.heap.size + 1 + 1, 1, none⟩ = some (.slice A1 us.length c1) := d1
      obtain ⟨y0, y1, y2, y3, y4, y5, y6⟩ := seven LR'.out
      clear d1
      go_wp2_with fail
      go_region_law
        ((first | (go_simp; go_at_call 61; refine (copyBatch_any _ tj (wr.alloc (.cells (BatW.batArr tj (.slice Ah tj.recs.length ch)) 58 (0, 0))).drew lo b (BT.out _ (below1 wr _).drew) (by show b ≤ (wr.alloc _).heap.size; rw [hsz]; omega) FB.out).mono ?_; rintro e w8 ⟨rv8, rfl, ow8, b8'⟩; have b8 := Seg.hid (chainD (below1 wr (.cells (BatW.batArr tj (.slice Ah tj.recs.length ch)) 58 (0, 0))) b8'); have O8 := Seg.hid (LOwn.mono ow8 (S' := seg wr.heap.size w8.heap.size) (fun x hx => ⟨Nat.le_trans (by show _ ≤ (wr.alloc _).heap.size; rw [hsz]; omega) hx.1, hx.2⟩)); have s8 := b8.out.size; obtain ⟨A8, c8, hA8⟩ := LOwn.form ow8; subst hA8; clear ow8 b8'; have K8 : w8.cell? ⟨w.heap.size + 1 + 1, 1, none⟩ = some (.slice A1 us.length c1) := (b8.out.cell (p := ⟨w.heap.size + 1 + 1, 1, none⟩) (by show w.heap.size + 1 + 1 < wr.heap.size; omega)).trans (cell_of_row wr (w.heap.size + 1 + 1) 1 _ _ (0, 0) WC.out.out); have hl8 : w.heap.size + 1 + 1 < w8.heap.size := (by omega); unfold batVal) | (refine step_append_lies _ (by rfl) _ _ _ (by rfl) (w.heap.size + 3) 58 i0 _ 7 72 Try.underlying40 hi hz0 hz1 hz2 rfl (by decide) (.slice A1 us.length c1) us.length ((List.range (us.length * 7)).map F) (by rfl) (World.ownsRow.alloc (own_keep HG.out.own (fun x _ hx => b8.out.block x hx)) _) ⟨w8.heap.size, 0, none⟩ 1 1 (BatW.batArr tj (.slice A8 tj.recs.length c8)).toList (by rfl) (by rfl) (World.news_of_block (cs := BatW.batArr tj (.slice A8 tj.recs.length c8)) (heap_alloc_new w8 _)) (by simp [BatW.batArr, Value.oneCell']) (by decide) (by unfold maxLen; omega) (by omega) (by rw [hsz]; omega) (w8.heap.size + 1) (hsz w8 _) ?_; intro g9 cap9 w9 hown9 gr9 hat9 hlt9; have D9 := Seg.hid (CS.push WC.out HG.out b8.out O8.out hown9 gr9 hat9); have q6 := D9.out.2.1; have p6 := D9.out.2.2; clear hown9 gr9 hat9 hlt9)))
      all_goals
        clear WC HG K8 O8 q6 p6 d1' y0 y1 y2 y3 y4 y5 y6 e0 e1 e2 e3 e4 e5 e6
        go_wp2
        go_roundw
        case rel => exact ⟨j + 1, us ++ [tj], some ⟨g9, 0, none⟩, cap9, by omega, by go_num, UN.out, by rw [List.length_append]; exact D9.out.1⟩
        case measure => simp [intOf]; omega
    · have G1 : Hid (LGrow 58 7 EB wr (w.heap.size + 3) (.slice A1 s.bats.length c1) s.bats) := by
        have := HW.out
        rw [show j = s.bats.length by omega, List.take_length] at this
        obtain ⟨rfl, h2⟩ := this
        exact h2.grow
      have hul : us.length = s.bats.length := by rw [HW.out.1, show j = s.bats.length by omega, List.take_length]
      have O1 : Hid (wr.heap[w.heap.size + 1 + 1]? = some (.cells (segArr s (.slice A1 s.bats.length c1)) 55 (0, 0))) := by rw [← hul]; exact HW.out.2.out
      have R1 := Seg.hid HW.out.2.res
      have BL := Seg.hid HW.out.2.bel
      have ZS := Seg.hid HW.out.2.size
      have : j = s.bats.length := by omega
      clear HW hul
      subst this
      have H5 := Seg.hid (Cells.there_of R1.out)
      have H4 := Seg.hid (Cells.whole (vs := segArr s (.slice A1 s.bats.length c1)) R1.out rfl)
      have B2 := Seg.hid (Cells.below_setCells (g := w.heap.size + 1) (by omega) (segArr s (.slice A1 s.bats.length c1)).toList 0 _ _ BL.out)
      have HF' : Hid (LGrow 58 7 EB (wr.setCells (w.heap.size + 1) 0 (segArr s (.slice A1 s.bats.length c1)).toList) (w.heap.size + 3) (.slice A1 s.bats.length c1) s.bats) := G1.out.keep keepsB (by rw [Cells.size_setCells]; exact Nat.le_refl _) (fun g h1 _ => Cells.heap_setCells_other _ _ (by omega))
      go_wp2_with (first | (refine wpList_load_row rfl 55 _ rfl (w.heap.size + 1 + 1) rfl _ _ _ _ O1.out Try.underlying55 rfl infoN ?_) | (refine wpList_store_mid rfl 55 _ _ rfl (w.heap.size + 1) 0 (segArr s (.slice A1 s.bats.length c1)) rfl rfl H5.out infoN (segArr_one _ _ rfl) ?_))
      exact bodyPost_ret (v := segVal s (.slice A1 s.bats.length c1)) (results_cell_row rfl _ _ (w.heap.size + 1) _ _ _ _ rfl H4.out Try.underlying55 rfl infoN) rfl ⟨_, rfl, HF'.out, B2.out, by rw [Cells.size_setCells]; exact ZS.out⟩
theorem copySegment_grow (v : Value) (s : Sg) (w : World) (lo b : Nat) (hv : SegAt w lo b v s) (hb : b ≤ w.heap.size) (hf : FewS s) :
    Calls Try.prog 59 #[v] w fun e w' => ∃ bv, e = .returned (segVal s bv) ∧ LGrow 58 7 EB w' (w.heap.size + 3) bv s.bats ∧ Below w.heap.size w w' ∧ w.heap.size + 3 ≤ w'.heap.size := by
  obtain ⟨bv, rfl, hh⟩ := hv
  obtain ⟨_, ⟨_, A, c, rfl, _⟩, _⟩ := id hh
  exact copySegment_core s A c w lo b hb hf hh
theorem copySegment_any (v : Value) (s : Sg) (w : World) (lo b : Nat) (hv : SegAt w lo b v s) (hb : b ≤ w.heap.size) (hf : FewS s) :
    Calls Try.prog 59 #[v] w fun e w' => ∃ bv, e = .returned (segVal s bv) ∧ OwnB w' (seg w.heap.size w'.heap.size) bv s.bats ∧ Below w.heap.size w w' :=
  (copySegment_grow v s w lo b hv hb hf).mono fun e w' ⟨bv, a1, a2, a3, _⟩ => ⟨bv, a1, (LGrow.own a2 hf.1).mono (fun x hx => ⟨by have := hx.1; omega, hx.2⟩), a3⟩
end Go.Proofs.Yticihnoekffelaa.Ft
namespace Go.Proofs.Yticihnoekffelaa.Ft
set_option maxRecDepth 8000
open Go.RowKit
open Recs
open Bats (BatsAt batsCells)
open SegW
open Segs (SegsAt segsCells)
set_option linter.unusedVariables false
theorem seg_el {w : World} {t : Sg} {bv : Value} {Q : Nat → Prop} (h : OwnB w Q bv t.bats) : ES w Q (fun q => (segArr t bv).toList.getD q default) t := ⟨rfl, h⟩
theorem infoSg : (Try.prog.info? 55).map (fun i => (i.zero, i.size, i.bytes)) = some (some (.agg #[.int .i64 0, .slice none 0 0]), 2, 32) := by kernel_rfl
/-- One Segment more: w8: behind its copy; w9: behind append. -/
theorem segs_push {base : Nat} {wr w8 w9 : World} {v : Value} {us : List Sg} {F : Nat → Value} {P : Nat → Nat → Prop} {t : Sg} {bv : Value} {o : Obj} {g cap : Nat} (hbase : base ≤ wr.heap.size) (hG : LGr 55 2 ES wr base v us F P) (b8 : Below wr.heap.size wr w8) (ho : OwnB w8 (seg wr.heap.size w8.heap.size) bv t.bats)
    (hown : w9.ownsRow base 55 2 (.slice (some ⟨g, 0, none⟩) (us.length + 1) cap) (us.length + 1) ((List.range (us.length * 2)).map F ++ (segArr t bv).toList)) (gr : (w8.alloc o).grownBy w9 v.ownBlock) (hg : v.ownBlock = some g ∨ g = w8.heap.size + 1) :
    LGrow 55 2 ES w9 base (.slice (some ⟨g, 0, none⟩) (us.length + 1) cap) (us ++ [t]) ∧ Below base wr w9 := by
  have s8 := b8.size
  have gs := gr.size
  rw [hsz] at gs
  have hvb : ∀ x, v.ownBlock = some x → base ≤ x ∧ x < wr.heap.size := fun x hx => World.ownsRow.lt hG.own x hx
  refine ⟨LGr.push keepsS (w2 := w8.alloc o) (w3 := w9) (g := g) (cap := cap) (Q := seg wr.heap.size w8.heap.size) (t := t) (news := (segArr t bv).toList) hG hbase (by rw [hsz]; omega) (fun x _ hx => by rw [heap_alloc_old _ _ (by omega), b8.block x hx]) (seg_el (LOwn.keep keepsB ho (by rw [hsz]; omega) (fun x hx => heap_alloc_old _ _ hx.2))) (fun x hx => by rw [hsz]; obtain ⟨x1, x2⟩ := hx; exact ⟨x1, by omega⟩) rfl hown gr (by rw [hsz]; exact hg), gr.os.trans b8.os, gr.tape.trans b8.tape, gr.output.trans b8.output, by omega, fun x hx => ?_⟩
  rw [gr.block x (by rw [hsz]; omega) (fun e => by have := hvb x e.symm; omega), heap_alloc_old _ _ (by omega), b8.block x (by omega)]
set_option maxHeartbeats 1600000 in
theorem copySegments_core (ss : List Sg) (A : Option Addr) (c : Nat) (w : World) (lo b : Nat) (hb : b ≤ w.heap.size) (hl : ss.length ≤ 1048576) (hf : ∀ i, i < ss.length → FewS (ss.getD i default)) (hv : SegsAt w lo b (.slice A ss.length c) ss) :
    Calls Try.prog 29 #[.slice A ss.length c] w fun e w' => ∃ sv, e = .returned sv ∧ LGrow 55 2 ES w' w.heap.size sv ss ∧ Below w.heap.size w w' := by
  obtain ⟨i0, hi, hz0, hz1, hz2⟩ := info_parts infoSg
  have HF := Seg.hid hf
  obtain ⟨H, ⟨_, A', c', hsl, hrow⟩, hh⟩ := hv
  simp only [Value.slice.injEq] at hsl
  obtain ⟨rfl, _, rfl⟩ := hsl
  have HROW := Seg.hid hrow; have HH := Seg.hid hh
  clear hrow hh hf
  go_enter Try.func29, Try.ntmps29
  go_wp2_with fail
  go_loopw [3, 8] (fun v i wr => ∃ (j : Nat) (us : List Sg) (A1 : Option Addr) (c1 : Nat), j ≤ ss.length ∧ i = .int .i64 j ∧ v = .slice A1 us.length c1 ∧ Hid (us = ss.take j ∧ LGrow 55 2 ES wr w.heap.size (.slice A1 us.length c1) us ∧ Below w.heap.size w wr)) (fun _ i _ => ss.length - (intOf i).toNat)
  case atStart => exact ⟨0, [], none, 0, Nat.zero_le _, rfl, rfl, by simp, LGrow.nil _ _, Below.refl _ _⟩
  case round =>
    obtain ⟨j, us, A1, c1, hj, rfl, rfl, HW⟩ := hrel
    by_cases hlt : j < ss.length
    · have h0 : (0 : Int) ≤ (j : Int) := by omega
      have h1 : (j : Int) < (ss.length : Int) := by omega
      obtain ⟨g, o, rfl, hg, hc, hcell, _⟩ := HROW.out.resolve_left (by omega)
      have hgw : g < w.heap.size := by omega
      obtain ⟨e0, e1⟩ := Segs.six (fun i hi q hq => by rw [HW.out.2.2.cell (p := ⟨g, o + i * 2 + q, none⟩) hgw]; exact hcell i hi q hq) j hlt
      have UL : Hid (us.length = j) := by show _ = _; rw [HW.out.1, List.length_take]; omega
      have UN : Hid (us ++ [ss.getD j default] = ss.take (j + 1)) := by show _ = _; rw [HW.out.1]; exact (take_one hlt).symm
      have BL := Seg.hid HW.out.2.2
      obtain ⟨F, P, hG⟩ := HW.out.2.1
      have HG := Seg.hid hG
      have hz := BL.out.size
      have hul : us.length ≤ 1048576 := by rw [UL.out]; omega
      have BT : Hid (∀ wx, Below wr.heap.size wr wx → SegAt wx lo b (.agg (segArr (ss.getD j default) (H j))) (ss.getD j default)) := fun wx bx => ⟨_, rfl, (HH.out j hlt).below ((chain HW.out.2.2 bx).mono hb)⟩
      have FB := Seg.hid (HF.out j hlt)
      obtain ⟨_, ⟨_, Ah, ch, hHj, _⟩, _⟩ := HH.out j hlt
      clear hcell HW hG
      generalize ss.getD j default = tj at *
      rw [hHj] at e1 BT
      clear hHj
      go_wp2_with fail
      refine (copySegment_any _ tj (wr.alloc _) lo b (BT.out _ (below1 wr _)) (by rw [hsz]; omega) FB.out).mono ?_
      rintro e w8 ⟨rv8, rfl, ow8, b8'⟩
      have b8 := Seg.hid (chain (below1 wr _) b8')
      have O8 := Seg.hid (LOwn.mono ow8 (S' := seg wr.heap.size w8.heap.size) (fun x hx => ⟨Nat.le_trans (by rw [hsz]; omega) hx.1, hx.2⟩))
      have s8 := b8.out.size
      obtain ⟨A8, c8, hA8⟩ := LOwn.form ow8
      subst hA8
      clear ow8 b8' e0 e1
      unfold segVal
      go_wp2_with (at_builtin; (refine wpList_append_lies _ rfl _ _ 26 rfl w.heap.size 55 i0 _ 2 32 Try.underlying26 hi hz0 hz1 hz2 rfl (by decide) (.slice A1 us.length c1) us.length ((List.range (us.length * 2)).map F) rfl (World.ownsRow.alloc (own_keep HG.out.own (fun x _ hx => b8.out.block x hx)) _) ⟨w8.heap.size, 0, none⟩ 1 1 (segArr tj (.slice A8 tj.bats.length c8)).toList rfl rfl (World.news_of_block (cs := segArr tj (.slice A8 tj.bats.length c8)) (heap_alloc_new w8 _)) (by simp [segArr, Value.oneCell']) (by decide) (by unfold maxLen; omega) (by omega) (by rw [hsz]; omega) (w8.heap.size + 1) (hsz w8 _) ?_; intro g9 cap9 w9 hown9 gr9 hat9 hlt9; have D9 := Seg.hid (segs_push hz HG.out b8.out O8.out hown9 gr9 hat9); clear hown9 gr9 hat9 hlt9))
      go_roundw
      case rel => exact ⟨j + 1, us ++ [tj], some ⟨g9, 0, none⟩, cap9, by omega, by go_num, by rw [List.length_append]; rfl, UN.out, by rw [List.length_append]; exact D9.out.1, BL.out.trans D9.out.2⟩
      case measure => simp [intOf]; omega
    · have G1 : Hid (LGrow 55 2 ES wr w.heap.size (.slice A1 us.length c1) ss ∧ Below w.heap.size w wr) := by
        have := HW.out
        rw [show j = ss.length by omega, List.take_length] at this
        obtain ⟨rfl, h2⟩ := this
        exact h2
      have : j = ss.length := by omega
      clear HW
      subst this
      go_wp2_with fail
      go_ret
      exact ⟨_, rfl, G1.out⟩
theorem copySegments_any (v : Value) (ss : List Sg) (w : World) (lo b : Nat) (hb : b ≤ w.heap.size) (hl : ss.length ≤ 1048576) (hf : ∀ i, i < ss.length → FewS (ss.getD i default)) (hv : SegsAt w lo b v ss) :
    Calls Try.prog 29 #[v] w fun e w' => ∃ sv, e = .returned sv ∧ LGrow 55 2 ES w' w.heap.size sv ss ∧ Below w.heap.size w w' := by
  obtain ⟨_, ⟨_, A, c, rfl, _⟩, _⟩ := id hv
  exact copySegments_core ss A c w lo b hb hl hf hv
end Go.Proofs.Yticihnoekffelaa.Ft
namespace Go.Proofs.Yticihnoekffelaa.Ft
set_option maxRecDepth 8000
open Go.RowKit
open Recs
open Bats SegW Segs LogW SrP
open LgP (logOk inR)
set_option linter.unusedVariables false
def cutF (l : Lg) (x : Int) : Lg × Bool := if (logOk l && inR x l.start l.next) = true then (⟨x, l.next, l.roll, l.segs.drop (kf (pS x) l.segs)⟩, true) else (⟨0, 0, 0, []⟩, false)
end Go.Proofs.Yticihnoekffelaa.Ft
