/- The program's copy of a list of Segments: its lists may still grow; A Log of the call's own in a variable, that is put to; A number that lies between two: the model's asker and the program's. -/
import Derived.WalkLawsBesides
import Derived.WalkSmall
import Derived.RegionTactic
import Derived.Maps.AppendAt
import Derived.Laws.Rows
import Derived.Deep.RegionWith
import Derived.Outline
import Derived.Test.YtoplbemolnpngaaGreatRows
import Derived.Test.YtoplbemolnpngaaGreatJP29
import Derived.Test.YtoplbemolnpngaaGreatJP01
namespace Go.Proofs.YtoplbemolnpngaaGreat.Ft
set_option maxRecDepth 8000
open Go.RowKit
open Recs
open Bats (BatsAt batsCells)
open SegW
open Segs (SegsAt segsCells)
set_option linter.unusedVariables false
theorem infoSgG : (Tryz.prog.info? 55).map (fun i => (i.zero, i.size, i.bytes)) = some (some (.agg #[.int .i64 0, .slice none 0 0]), 2, 32) := by kernel_rfl
/-- One Segment more: w8: behind its copy; w9: behind append. -/
theorem segs_pushG {base : Nat} {wr w8 w9 : World} {v : Value} {us : List Sg} {F : Nat → Value} {P : Nat → Nat → Prop} {t : Sg} {bv : Value} {o : Obj} {g cap : Nat} (hbase : base ≤ wr.heap.size) (hG : LGr 55 2 EG wr base v us F P) (b8 : Below wr.heap.size wr w8) (ho : LGrS 38 7 EB w8 (seg wr.heap.size w8.heap.size) bv t.bats)
    (hown : w9.ownsRow base 55 2 (.slice (some ⟨g, 0, none⟩) (us.length + 1) cap) (us.length + 1) ((List.range (us.length * 2)).map F ++ (segArr t bv).toList)) (gr : (w8.alloc o).grownBy w9 v.ownBlock) (hg : v.ownBlock = some g ∨ g = w8.heap.size + 1) :
    LGrow 55 2 EG w9 base (.slice (some ⟨g, 0, none⟩) (us.length + 1) cap) (us ++ [t]) ∧ Below base wr w9 := by
  have s8 := b8.size
  have gs := gr.size
  rw [hsz] at gs
  have hvb : ∀ x, v.ownBlock = some x → base ≤ x ∧ x < wr.heap.size := fun x hx => World.ownsRow.lt hG.own x hx
  refine ⟨LGr.push keepsG (w2 := w8.alloc o) (w3 := w9) (g := g) (cap := cap) (Q := seg wr.heap.size w8.heap.size) (t := t) (news := (segArr t bv).toList) hG hbase (by rw [hsz]; omega) (fun x _ hx => by rw [heap_alloc_old _ _ (by omega), b8.block x hx]) (seg_elG (LGrS.keep keepsB ho (by rw [hsz]; omega) (fun x hx => heap_alloc_old _ _ hx.2))) (fun x hx => by rw [hsz]; obtain ⟨x1, x2⟩ := hx; exact ⟨x1, by omega⟩) rfl hown gr (by rw [hsz]; exact hg), gr.os.trans b8.os, gr.tape.trans b8.tape, gr.output.trans b8.output, by omega, fun x hx => ?_⟩
  rw [gr.block x (by rw [hsz]; omega) (fun e => by have := hvb x e.symm; omega), heap_alloc_old _ _ (by omega), b8.block x (by omega)]
set_option maxHeartbeats 1600000 in
theorem copySegments_coreG (ss : List Sg) (A : Option Addr) (c : Nat) (w : World) (lo b : Nat) (hb : b ≤ w.heap.size) (hl : ss.length ≤ 1048576) (hf : ∀ i, i < ss.length → FewS (ss.getD i default)) (hv : SegsAt w lo b (.slice A ss.length c) ss) :
    Calls Tryz.prog 47 #[.slice A ss.length c] w fun e w' => ∃ sv, e = .returned sv ∧ LGrow 55 2 EG w' w.heap.size sv ss ∧ Below w.heap.size w w' := by
  obtain ⟨i0, hi, hz0, hz1, hz2⟩ := info_parts infoSgG
  have HF := Seg.hid hf
  obtain ⟨H, ⟨_, A', c', hsl, hrow⟩, hh⟩ := hv
  simp only [Value.slice.injEq] at hsl
  obtain ⟨rfl, _, rfl⟩ := hsl
  have HROW := Seg.hid hrow; have HH := Seg.hid hh
  clear hrow hh hf
  go_enter Tryz.func47, Tryz.ntmps47
  go_wp2_with fail
  go_loopw [3, 8] (fun v i wr => ∃ (j : Nat) (us : List Sg) (A1 : Option Addr) (c1 : Nat), j ≤ ss.length ∧ i = .int .i64 j ∧ v = .slice A1 us.length c1 ∧ Hid (us = ss.take j ∧ LGrow 55 2 EG wr w.heap.size (.slice A1 us.length c1) us ∧ Below w.heap.size w wr)) (fun _ i _ => ss.length - (intOf i).toNat)
  case atStart => exact ⟨0, [], none, 0, Nat.zero_le _, rfl, rfl, by simp, LGrow.nil _ _, Below.refl _ _⟩
  case round =>
    obtain ⟨j, us, A1, c1, hj, rfl, rfl, HW⟩ := hrel
    by_cases hlt : j < ss.length
    · have h0 : (0 : Int) ≤ (j : Int) := by omega
      have h1 : (j : Int) < (ss.length : Int) := by omega
      obtain ⟨g, o, rfl, hg, hc, hcell, _⟩ := HROW.out.resolve_left (by omega)
      have hgw : g < w.heap.size := by omega
      obtain ⟨e0, e1⟩ := Segs.six (fun i hi q hq => by rw [HW.out.2.2.cell (p := ⟨g, o + i * 2 + q, none⟩) hgw]; exact hcell i hi q hq) j hlt
      have UL : Hid (us.length = j) := by show _ = _; rw [HW.out.1, List.length_take]; omega
      have UN : Hid (us ++ [ss.getD j default] = ss.take (j + 1)) := by show _ = _; rw [HW.out.1]; exact (take_one hlt).symm
      have BL := Seg.hid HW.out.2.2
      obtain ⟨F, P, hG⟩ := HW.out.2.1
      have HG := Seg.hid hG
      have hz := BL.out.size
      have hul : us.length ≤ 1048576 := by rw [UL.out]; omega
      have BT : Hid (∀ wx, Below wr.heap.size wr wx → SegAt wx lo b (.agg (segArr (ss.getD j default) (H j))) (ss.getD j default)) := fun wx bx => ⟨_, rfl, (HH.out j hlt).below ((chain HW.out.2.2 bx).mono hb)⟩
      have FB := Seg.hid (HF.out j hlt)
      obtain ⟨_, ⟨_, Ah, ch, hHj, _⟩, _⟩ := HH.out j hlt
      clear hcell HW hG
      generalize ss.getD j default = tj at *
      rw [hHj] at e1 BT
      clear hHj
      go_wp2_with fail
      refine (copySegment_grow _ tj (wr.alloc _) lo b (BT.out _ (below1 wr _)) (by rw [hsz]; omega) FB.out).mono ?_
      rintro e w8 ⟨rv8, rfl, ow8', b8', _⟩
      have ow8 := LGrow.grS ow8' FB.out.1
      have b8 := Seg.hid (chain (below1 wr _) b8')
      have O8 := Seg.hid (LGrS.mono ow8 (S' := seg wr.heap.size w8.heap.size) (fun x hx => ⟨Nat.le_trans (by rw [hsz]; omega) hx.1, hx.2⟩))
      have s8 := b8.out.size
      obtain ⟨A8, c8, hA8⟩ := LGrS.form ow8
      subst hA8
      clear ow8 ow8' b8' e0 e1
      unfold segVal
      go_wp2_with (at_builtin; (refine wpList_append_lies _ rfl _ _ 30 rfl w.heap.size 55 i0 _ 2 32 Tryz.underlying30 hi hz0 hz1 hz2 rfl (by decide) (.slice A1 us.length c1) us.length ((List.range (us.length * 2)).map F) rfl (World.ownsRow.alloc (own_keep HG.out.own (fun x _ hx => b8.out.block x hx)) _) ⟨w8.heap.size, 0, none⟩ 1 1 (segArr tj (.slice A8 tj.bats.length c8)).toList rfl rfl (World.news_of_block (cs := segArr tj (.slice A8 tj.bats.length c8)) (heap_alloc_new w8 _)) (by simp [segArr, Value.oneCell']) (by decide) (by unfold maxLen; omega) (by omega) (by rw [hsz]; omega) (w8.heap.size + 1) (hsz w8 _) ?_; intro g9 cap9 w9 hown9 gr9 hat9 hlt9; have D9 := Seg.hid (segs_pushG hz HG.out b8.out O8.out hown9 gr9 hat9); clear hown9 gr9 hat9 hlt9))
      go_roundw
      case rel => exact ⟨j + 1, us ++ [tj], some ⟨g9, 0, none⟩, cap9, by omega, by go_num, by rw [List.length_append]; rfl, UN.out, by rw [List.length_append]; exact D9.out.1, BL.out.trans D9.out.2⟩
      case measure => simp [intOf]; omega
    · have G1 : Hid (LGrow 55 2 EG wr w.heap.size (.slice A1 us.length c1) ss ∧ Below w.heap.size w wr) := by
        have := HW.out
        rw [show j = ss.length by omega, List.take_length] at this
        obtain ⟨rfl, h2⟩ := this
        exact h2
      have : j = ss.length := by omega
      clear HW
      subst this
      go_wp2_with fail
      go_ret
      exact ⟨_, rfl, G1.out⟩
theorem copySegments_grow (v : Value) (ss : List Sg) (w : World) (lo b : Nat) (hb : b ≤ w.heap.size) (hl : ss.length ≤ 1048576) (hf : ∀ i, i < ss.length → FewS (ss.getD i default)) (hv : SegsAt w lo b v ss) :
    Calls Tryz.prog 47 #[v] w fun e w' => ∃ sv, e = .returned sv ∧ LGrow 55 2 EG w' w.heap.size sv ss ∧ Below w.heap.size w w' := by
  obtain ⟨_, ⟨_, A, c, rfl, _⟩, _⟩ := id hv
  exact copySegments_coreG ss A c w lo b hb hl hf hv
end Go.Proofs.YtoplbemolnpngaaGreat.Ft
namespace Go.Proofs.YtoplbemolnpngaaGreat.Ft
set_option maxRecDepth 8000
open Go.RowKit
open Recs
open ToO (MineC)
open Bats SegW Segs LogW
set_option linter.unusedVariables false
/-- The variable OB holds the Log l; its list v may grow; all lies at base or behind it. -/
structure PV (w wr : World) (OB base : Nat) (l : Lg) (v : Value) (us : List Sg) (F : Nat → Value) (P : Nat → Nat → Prop) : Prop where
  out : wr.heap[OB]? = some (.cells (logArr l v) 32 (0, 0))
  grow : LGr 55 2 EG wr base v us F P
  lo : base ≤ OB
  nrow : v.ownBlock ≠ some OB
  nel : ∀ i, i < us.length → ¬ P i OB
  bel : Below base w wr
section
variable {w wr w8 w9 : World} {OB base : Nat} {l : Lg} {v : Value} {us : List Sg} {F : Nat → Value} {P : Nat → Nat → Prop}
theorem PV.hi (h : PV w wr OB base l v us F P) : OB < wr.heap.size := (Array.getElem?_eq_some_iff.1 h.out).1
theorem PV.later (h : PV w wr OB base l v us F P) (b : Below wr.heap.size wr w8) : PV w w8 OB base l v us F P := by
  have hz := h.hi
  have hl := h.lo
  exact ⟨(b.block OB hz).trans h.out, h.grow.keepV keepsG b.size (fun g hg => b.block g (World.ownsRow.lt h.grow.own g hg).2) (fun i hi x hx => b.block x (h.grow.apart i hi x hx).2.1), h.lo, h.nrow, h.nel, h.bel.trans (b.mono (by omega))⟩
theorem PV.segs (h : PV w wr OB base l v us F P) (hn : us.length ≤ 1048576) : SegsAt wr base wr.heap.size v us :=
  segs_of (LGr.ownL (LGr.weak (fun _ _ _ _ h => EG.es h) h.grow) hn) (fun x hx => by
    rcases hx with hx | ⟨i, hi, hx⟩
    · exact World.ownsRow.lt h.grow.own x hx
    · exact ⟨(h.grow.apart i hi x hx).1, (h.grow.apart i hi x hx).2.1⟩)
/-- A Segment more, without Batches. -/
theorem PV.push (h : PV w wr OB base l v us F P) {o : Obj} {g cap : Nat} {t : Sg} (ht : t.bats = [])
    (hown : w9.ownsRow base 55 2 (.slice (some ⟨g, 0, none⟩) (us.length + 1) cap) (us.length + 1) ((List.range (us.length * 2)).map F ++ (segArr t (.slice none 0 0)).toList)) (gr : (wr.alloc o).grownBy w9 v.ownBlock) (hg : v.ownBlock = some g ∨ g = wr.heap.size + 1) :
    (∃ F' P', PV w (w9.setCell ⟨OB, 3, none⟩ (.slice (some ⟨g, 0, none⟩) (us.length + 1) cap)) OB base l (.slice (some ⟨g, 0, none⟩) (us.length + 1) cap) (us ++ [t]) F' P' ∧ ∀ i, i < us.length + 1 → ∀ x, P' i x → ∃ i', i' < us.length ∧ P i' x) ∧ w9.cell? ⟨OB, 3, none⟩ = some v ∧ w9.frozen? ⟨OB, 3, none⟩ = false := by
  have ba := below1 wr o
  have h1 := h.later ba
  have hz := h.hi
  have hl := h.lo
  have gs := gr.size
  have hz8 := hsz wr o
  have G := LGr.push_w keepsG (w3 := w9) (g := g) (cap := cap) (Q := fun _ => False) (t := t) (news := (segArr t (.slice none 0 0)).toList) h1.grow (seg_elG (by rw [ht]; exact LGrS.nil _ _)) (fun x hx => hx.elim) (fun i hi x hx => hx.elim) rfl hown gr (by rw [hz8]; exact hg)
  have O9 : w9.heap[OB]? = some (.cells (logArr l v) 32 (0, 0)) := (gr.block OB (by omega) (fun e => h.nrow e.symm)).trans h1.out
  have ng : g ≠ OB := fun e => by
    rcases hg with hg | hg
    · exact h.nrow (by rw [hg, e])
    · omega
  refine ⟨⟨_, _, ⟨heap_setCell_same w9 OB 3 _ _ _ O9, G.keepV keepsG (by simp) (fun x hx => heap_setCell_other _ _ _ _ (fun e => ?_)) (fun i hi x hx => heap_setCell_other _ _ _ _ (fun e => ?_)), h.lo, fun e => ?_, fun i hi hx => ?_, ⟨gr.os.trans h1.bel.os, gr.tape.trans h1.bel.tape, gr.output.trans h1.bel.output, ?_, fun x hx => ?_⟩⟩, fun i hi x hx => ?_⟩, cell_of_row w9 OB 3 _ _ (0, 0) O9, frozen_of_row w9 OB 3 _ _ O9⟩
  · simp only [Value.ownBlock, Option.some.injEq] at hx
    exact ng (hx.trans e)
  · replace hx : (if i = us.length then (fun _ => False) else P i) x := hx
    rw [List.length_append, List.length_singleton] at hi
    by_cases ei : i = us.length
    · rw [if_pos ei] at hx
      exact hx.elim
    · rw [if_neg ei] at hx
      exact h.nel i (by omega) ((show x = OB from e) ▸ hx)
  · simp only [Value.ownBlock, Option.some.injEq] at e
    exact ng e
  · replace hx : (if i = us.length then (fun _ => False) else P i) OB := hx
    rw [List.length_append, List.length_singleton] at hi
    by_cases ei : i = us.length
    · rw [if_pos ei] at hx
      exact hx.elim
    · rw [if_neg ei] at hx
      exact h.nel i (by omega) hx
  · have := h1.bel.size
    simp
    omega
  · rw [heap_setCell_other _ _ _ _ (by show x ≠ OB; omega), gr.block x (by omega) (fun e => by have := (World.ownsRow.lt h.grow.own x e.symm).1; omega)]
    exact h1.bel.block x hx
  · replace hx : (if i = us.length then (fun _ => False) else P i) x := hx
    by_cases ei : i = us.length
    · rw [if_pos ei] at hx
      exact hx.elim
    · rw [if_neg ei] at hx
      exact ⟨i, by omega, hx⟩
/-- One Batch more in one Segment: w8: behind its copy; w9: behind append. -/
theorem PV.app {g cap j g1 cap1 : Nat} {v1 rv : Value} {b1 : List Bat} {t : Bat} {o : Obj} {F1 : Nat → Value} {P1 : Nat → Nat → Prop} (h : PV w wr OB base l (.slice (some ⟨g, 0, none⟩) us.length cap) us F P) (hj : j < us.length)
    (h1 : LGr 38 7 EB wr 0 v1 b1 F1 P1) (o1 : ∀ x, v1.ownBlock = some x → P j x) (p1 : ∀ i, i < b1.length → ∀ x, P1 i x → P j x) (b8 : Below wr.heap.size wr w8) (ho : OwnR w8 (seg wr.heap.size w8.heap.size) rv t.recs) (hlen : b1.length + 1 ≤ 1048576)
    (hown : w9.ownsRow 0 38 7 (.slice (some ⟨g1, 0, none⟩) (b1.length + 1) cap1) (b1.length + 1) ((List.range (b1.length * 7)).map F1 ++ (BatW.batArr t rv).toList)) (gr : (w8.alloc o).grownBy w9 v1.ownBlock) (hg : v1.ownBlock = some g1 ∨ g1 = w8.heap.size + 1) :
    (∃ F' P', PV w (w9.setCell ⟨g, j * 2 + 1, none⟩ (.slice (some ⟨g1, 0, none⟩) (b1.length + 1) cap1)) OB base l (.slice (some ⟨g, 0, none⟩) us.length cap) (us.set j ⟨(us.getD j default).base, b1 ++ [t]⟩) F' P') ∧ w9.ownsRow base 55 2 (.slice (some ⟨g, 0, none⟩) us.length cap) us.length ((List.range (us.length * 2)).map F) ∧ w9.heap[OB]? = wr.heap[OB]? := by
  have hz := h.hi
  have hl := h.lo
  have gs := gr.size
  have hz8 := hsz w8 o
  have s8 := b8.size
  have gl := World.ownsRow.lt h.grow.own g rfl
  have k9 : ∀ x, x < wr.heap.size → v1.ownBlock ≠ some x → w9.heap[x]? = wr.heap[x]? := fun x hx hn => by
    rw [gr.block x (by omega) (fun e => hn e.symm), (below1 _ _).block _ (by omega), b8.block x hx]
  have e1 : ∀ x, P j x → x ≠ OB ∧ x ≠ g ∧ x < wr.heap.size ∧ base ≤ x := fun x hx => by
    have a1 := h.grow.apart j hj x hx
    exact ⟨fun e => h.nel j hj (e ▸ hx), fun e => a1.2.2 (by rw [e]; rfl), a1.2.1, a1.1⟩
  have G1 := LGr.push_v keepsB (wr := wr) (w2 := w8.alloc o) (w3 := w9) (g := g1) (cap := cap1) (Q := seg wr.heap.size w8.heap.size) (t := t) (news := (BatW.batArr t rv).toList) h1 (by omega) (fun x hx => by rw [(below1 _ _).block _ (by have := (e1 x (o1 x hx)).2.2.1; omega), b8.block x (e1 x (o1 x hx)).2.2.1]) (fun i hi x hx => by rw [(below1 _ _).block _ (by have := (e1 x (p1 i hi x hx)).2.2.1; omega), b8.block x (e1 x (p1 i hi x hx)).2.2.1]) (bat_el (LOwn.keep keepsR ho (by omega) (fun x hx => (below1 _ _).block _ hx.2))) (fun x hx => by obtain ⟨x1, x2⟩ := hx; exact ⟨x1, by omega⟩) (Nat.zero_le _) rfl hown gr (by rw [hz8]; exact hg)
  have kg : w9.heap[g]? = wr.heap[g]? := k9 g gl.2 (fun e => (e1 g (o1 g e)).2.1 rfl)
  have ko : w9.heap[OB]? = wr.heap[OB]? := k9 OB hz (fun e => (e1 OB (o1 OB e)).1 rfl)
  have HS : LGrS 38 7 EB w9 (fun x => P j x ∨ (wr.heap.size ≤ x ∧ x < w9.heap.size)) (.slice (some ⟨g1, 0, none⟩) (b1.length + 1) cap1) (b1 ++ [t]) := by
    refine ⟨by rw [List.length_append]; exact hlen, _, _, G1, fun x hx => ?_, fun i hi x hx => ?_⟩
    · have hlt := (World.ownsRow.lt hown x hx).2
      simp only [Value.ownBlock, Option.some.injEq] at hx
      rcases hg with hg | hg
      · exact .inl (o1 x (by rw [hg, hx]))
      · exact .inr ⟨by omega, hlt⟩
    · replace hx : (if i = b1.length then seg wr.heap.size w8.heap.size else P1 i) x := hx
      rw [List.length_append, List.length_singleton] at hi
      by_cases e : i = b1.length
      · rw [if_pos e] at hx
        obtain ⟨x1, x2⟩ := hx
        exact .inr ⟨x1, by omega⟩
      · rw [if_neg e] at hx
        exact .inl (p1 i (by omega) x hx)
  have L := LGr.last h.grow hj HS kg (by omega) (fun i hi e x hx => k9 x (h.grow.apart i hi x hx).2.1 (fun e' => h.grow.disj i j hi hj e x hx (o1 x e'))) (fun x hx => by
      rcases hx with hx | ⟨hx, hx'⟩
      · exact ⟨(e1 x hx).2.2.2, by have := (e1 x hx).2.2.1; omega, (e1 x hx).2.1⟩
      · exact ⟨by omega, hx', by omega⟩) (fun i hi e x hx hx' => by
      rcases hx with hx | ⟨hx, _⟩
      · exact h.grow.disj i j hi hj e x hx' hx
      · have := (h.grow.apart i hi x hx').2.1; omega)
  refine ⟨⟨_, _, ⟨?_, L, h.lo, h.nrow, fun i hi hx => ?_, ⟨gr.os.trans (b8.os.trans h.bel.os), gr.tape.trans (b8.tape.trans h.bel.tape), gr.output.trans (b8.output.trans h.bel.output), ?_, fun x hx => ?_⟩⟩⟩, ?_, ko⟩
  · rw [heap_setCell_other _ _ _ _ (by show OB ≠ g; exact fun e => h.nrow (by rw [e]; rfl)), ko]
    exact h.out
  · replace hx : (if i = j then (fun x => P j x ∨ (wr.heap.size ≤ x ∧ x < w9.heap.size)) else P i) OB := hx
    rw [List.length_set] at hi
    by_cases e : i = j
    · rw [if_pos e] at hx
      rcases hx with hx | ⟨hx, _⟩
      · exact h.nel j hj hx
      · omega
    · rw [if_neg e] at hx
      exact h.nel i hi hx
  · have := h.bel.size
    simp
    omega
  · rw [heap_setCell_other _ _ _ _ (by show x ≠ g; omega), k9 x (by omega) (fun e => by have := (e1 x (o1 x e)).2.2.2; omega)]
    exact h.bel.block x hx
  · refine ⟨h.grow.own.1, ?_⟩
    rcases h.grow.own.2 with hn | ⟨g', cap', cur, h1', hbs, hgg, rest⟩
    · exact .inl hn
    · have h1'' := h1'
      simp only [Value.slice.injEq, Option.some.injEq, Addr.mk.injEq, and_true, true_and] at h1''
      obtain ⟨rfl, rfl⟩ := h1''
      exact .inr ⟨g, cap, cur, h1', hbs, by rw [kg]; exact hgg, rest⟩
/-- Next is another number. -/
theorem PV.next (h : PV w wr OB base l v us F P) (n : Int) (ss : List Sg) : PV w (wr.setCell ⟨OB, 1, none⟩ (.int .i64 n)) OB base ⟨l.start, n, l.roll, ss⟩ v us F P :=
  ⟨heap_setCell_same wr OB 1 _ _ _ h.out, h.grow.keepV keepsG (by simp) (fun x hx => heap_setCell_other _ _ _ _ (fun e => h.nrow (by rw [hx, show x = OB from e]))) (fun i hi x hx => heap_setCell_other _ _ _ _ (fun e => h.nel i hi ((show x = OB from e) ▸ hx))), h.lo, h.nrow, h.nel, h.bel.setCell (p := ⟨OB, 1, none⟩) h.lo _⟩
end
end Go.Proofs.YtoplbemolnpngaaGreat.Ft
namespace Go.Proofs.YtoplbemolnpngaaGreat.InB
set_option maxRecDepth 8000
open Go.RowKit
set_option linter.unusedVariables false
theorem l1In_any (x lo hi : Int) (w : World) : Calls Tryz.prog 37 #[.int .i64 x, .int .i64 lo, .int .i64 hi] w fun e w' => e = .returned (.bool (decide (lo ≤ x) && decide (x ≤ hi))) ∧ w = w' := by
  go_enter Tryz.func37, Tryz.ntmps37
  go_wp2
  all_goals
    go_ret
    exact ⟨Seg.ret_bool (by rw [Bool.eq_iff_iff]; simp; try omega), rfl⟩
theorem within_any (x lo hi : Int) (w : World) : Calls Tryz.prog 67 #[.int .i64 x, .int .i64 lo, .int .i64 hi] w fun e w' => e = .returned (.bool (decide (lo ≤ x) && decide (x ≤ hi))) ∧ w = w' := by
  go_enter Tryz.func67, Tryz.ntmps67
  go_wp2
  all_goals
    go_ret
    exact ⟨Seg.ret_bool (by rw [Bool.eq_iff_iff]; simp; try omega), rfl⟩
theorem l1In_b (x lo hi : Int) (b : Bool) (hb : (decide (lo ≤ x) && decide (x ≤ hi)) = b) (w : World) : Calls Tryz.prog 37 #[.int .i64 x, .int .i64 lo, .int .i64 hi] w fun e w' => e = .returned (.bool b) ∧ w = w' := by
  subst hb; exact l1In_any x lo hi w
theorem within_b (x lo hi : Int) (b : Bool) (hb : (decide (lo ≤ x) && decide (x ≤ hi)) = b) (w : World) : Calls Tryz.prog 67 #[.int .i64 x, .int .i64 lo, .int .i64 hi] w fun e w' => e = .returned (.bool b) ∧ w = w' := by
  subst hb; exact within_any x lo hi w
end Go.Proofs.YtoplbemolnpngaaGreat.InB
