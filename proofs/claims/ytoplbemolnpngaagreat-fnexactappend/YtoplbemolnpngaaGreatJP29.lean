/- The program's copies of a Segment and of a list of Segments; A list of the call's own that may still grow, told by the set of its blocks; Segments whose Batches are such lists; Lists of the call's own put together: a Segment more whose blocks lay already; Batches behind those of the last one. -/
import Derived.Deep.RegionLaw
import Derived.Test.YtoplbemolnpngaaGreatJP28
import Derived.Test.YtoplbemolnpngaaGreatJP26
import Derived.Test.YtoplbemolnpngaaGreatJP27
import Derived.Test.YtoplbemolnpngaaGreatJP05
namespace Go.Proofs.YtoplbemolnpngaaGreat.Ft
set_option maxRecDepth 8000
open Go.RowKit
open Recs
open ToO (MineC)
open Bats (BatsAt batsCells)
open SegW
open Segs (SegsAt segsCells)
set_option linter.unusedVariables false
/-- How far a Segment is copied. -/
structure CS (w wr : World) (s : Sg) (v : Value) (us : List Bat) : Prop where
  grow : LGrow 38 7 EB wr (w.heap.size + 3) v us
  out : wr.heap[w.heap.size + 1 + 1]? = some (.cells (segArr s v) 55 (0, 0))
  res : wr.heap[w.heap.size + 1]? = some (.cells (segArr ⟨0, []⟩ (.slice none 0 0)) 55 (0, 0))
  bel : Below w.heap.size w wr
  size : w.heap.size + 3 ≤ wr.heap.size
/-- One Batch more: wb: behind the round's own variable; w8: behind its copy; w9: behind append. -/
theorem CS.push {w wr w8 w9 : World} {s : Sg} {v : Value} {us : List Bat} {F : Nat → Value} {P : Nat → Nat → Prop} {t : Bat} {rv : Value} {o : Obj} {g cap : Nat} (h : CS w wr s v us) (hG : LGr 38 7 EB wr (w.heap.size + 3) v us F P) (b8 : Below wr.heap.size wr w8) (ho : OwnR w8 (seg wr.heap.size w8.heap.size) rv t.recs)
    (hown : w9.ownsRow (w.heap.size + 3) 38 7 (.slice (some ⟨g, 0, none⟩) (us.length + 1) cap) (us.length + 1) ((List.range (us.length * 7)).map F ++ (BatW.batArr t rv).toList)) (gr : (w8.alloc o).grownBy w9 v.ownBlock) (hg : v.ownBlock = some g ∨ g = w8.heap.size + 1) :
    CS w (w9.setCell ⟨w.heap.size + 1 + 1, 1, none⟩ (.slice (some ⟨g, 0, none⟩) (us.length + 1) cap)) s (.slice (some ⟨g, 0, none⟩) (us.length + 1) cap) (us ++ [t]) ∧ w9.cell? ⟨w.heap.size + 1 + 1, 1, none⟩ = some v ∧ w9.frozen? ⟨w.heap.size + 1 + 1, 1, none⟩ = false := by
  have s8 := b8.size
  have hz := h.size
  have gs := gr.size
  rw [hsz] at gs
  have hvb : ∀ x, v.ownBlock = some x → w.heap.size + 3 ≤ x ∧ x < wr.heap.size := fun x hx => World.ownsRow.lt hG.own x hx
  have k9 : ∀ x, x < w.heap.size + 3 → w9.heap[x]? = wr.heap[x]? := fun x hx => by
    rw [gr.block x (by rw [hsz]; omega) (fun e => by have := hvb x e.symm; omega), heap_alloc_old _ _ (by omega), b8.block x (by omega)]
  have O9 := (k9 (w.heap.size + 1 + 1) (by omega)).trans h.out
  have R9 := (k9 (w.heap.size + 1) (by omega)).trans h.res
  have D9 := LGr.push keepsB (w2 := w8.alloc o) (w3 := w9) (g := g) (cap := cap) (Q := seg wr.heap.size w8.heap.size) (t := t) (news := (BatW.batArr t rv).toList) hG h.size (by rw [hsz]; omega) (fun x _ hx => by rw [heap_alloc_old _ _ (by omega), b8.block x hx]) (bat_el (LOwn.keep keepsR ho (by rw [hsz]; omega) (fun x hx => heap_alloc_old _ _ hx.2))) (fun x hx => by rw [hsz]; obtain ⟨x1, x2⟩ := hx; exact ⟨x1, by omega⟩) rfl hown gr (by rw [hsz]; exact hg)
  have B9 : Below w.heap.size w w9 := ⟨gr.os.trans (b8.os.trans h.bel.os), gr.tape.trans (b8.tape.trans h.bel.tape), gr.output.trans (b8.output.trans h.bel.output), by omega, fun x hx => (k9 x (by omega)).trans (h.bel.block x hx)⟩
  refine ⟨⟨D9.keep keepsB (by simp) (fun x hx _ => heap_setCell_other _ _ _ _ (by show x ≠ w.heap.size + 1 + 1; omega)), ?_, (heap_setCell_other _ _ _ _ (by show w.heap.size + 1 ≠ w.heap.size + 1 + 1; omega)).trans R9, B9.setCell (p := ⟨w.heap.size + 1 + 1, 1, none⟩) (by show w.heap.size ≤ w.heap.size + 1 + 1; omega) _, by simp; omega⟩, ?_, ?_⟩
  · exact heap_setCell_same w9 (w.heap.size + 1 + 1) 1 _ _ _ O9
  · exact cell_of_row w9 (w.heap.size + 1 + 1) 1 _ _ (0, 0) O9
  · exact frozen_of_row w9 (w.heap.size + 1 + 1) 1 _ _ O9
set_option maxHeartbeats 3200000 in
theorem copySegment_core (s : Sg) (A : Option Addr) (c : Nat) (w : World) (lo b : Nat) (hb : b ≤ w.heap.size) (hf : FewS s) (hv : BatsAt w lo b (.slice A s.bats.length c) s.bats) :
    Calls Tryz.prog 72 #[segVal s (.slice A s.bats.length c)] w fun e w' => ∃ bv, e = .returned (segVal s bv) ∧ LGrow 38 7 EB w' (w.heap.size + 3) bv s.bats ∧ Below w.heap.size w w' ∧ w.heap.size + 3 ≤ w'.heap.size := by
  obtain ⟨i0, hi, hz0, hz1, hz2⟩ := info_parts infoB
  have HF := Seg.hid hf.2
  have hl := hf.1
  obtain ⟨H, ⟨_, A', c', hsl, hrow⟩, hh⟩ := hv
  simp only [Value.slice.injEq] at hsl
  obtain ⟨rfl, _, rfl⟩ := hsl
  have HROW := Seg.hid hrow; have HH := Seg.hid hh
  clear hrow hh hf
  unfold segVal
  go_enter Tryz.func72, Tryz.ntmps72
  go_wp2_with fail
  have C0 : Hid (CS w (((w.alloc (.cells (segArr s (.slice A s.bats.length c)) 55 (0, 0))).alloc (.cells (segArr ⟨0, []⟩ (.slice none 0 0)) 55 (0, 0))).alloc (.cells (segArr s (.slice none 0 0)) 55 (0, 0))) s (.slice none 0 0) []) :=
    ⟨LGrow.nil _ _, Cells.at3' w _ _ _, at3 w _ _ _, below3 w _ _ _, by rw [hsz, hsz, hsz]; omega⟩
  go_loopw [12] (fun i wr => ∃ (j : Nat) (us : List Bat) (A1 : Option Addr) (c1 : Nat), j ≤ s.bats.length ∧ i = .int .i64 j ∧ Hid (us = s.bats.take j ∧ CS w wr s (.slice A1 us.length c1) us)) (fun i _ => s.bats.length - (intOf i).toNat)
  case atStart => exact ⟨0, [], none, 0, Nat.zero_le _, rfl, by simp, C0.out⟩
  case round =>
    clear C0
    obtain ⟨j, us, A1, c1, hj, rfl, HW⟩ := hrel
    by_cases hlt : j < s.bats.length
    · have h0 : (0 : Int) ≤ (j : Int) := by omega
      have h1 : (j : Int) < (s.bats.length : Int) := by omega
      obtain ⟨g, o, rfl, hg, hc, hcell, _⟩ := HROW.out.resolve_left (by omega)
      have hgw : g < w.heap.size := by omega
      obtain ⟨e0, e1, e2, e3, e4, e5, e6⟩ := Bats.six (fun i hi q hq => by rw [HW.out.2.bel.cell (p := ⟨g, o + i * 7 + q, none⟩) hgw]; exact hcell i hi q hq) j hlt
      have UL : Hid (us.length = j) := by show _ = _; rw [HW.out.1, List.length_take]; omega
      have UN : Hid (us ++ [s.bats.getD j default] = s.bats.take (j + 1)) := by show _ = _; rw [HW.out.1]; exact (take_one hlt).symm
      have WC := Seg.hid HW.out.2
      obtain ⟨F, P, hG⟩ := HW.out.2.grow
      have HG := Seg.hid hG
      have hz := HW.out.2.size
      have hul : us.length ≤ 1048576 := by rw [UL.out]; omega
      have BT : Hid (∀ wx, Below wr.heap.size wr wx → BatAt wx lo b (.agg (BatW.batArr (s.bats.getD j default) (H j))) (s.bats.getD j default)) := fun wx bx => ⟨_, rfl, (HH.out j hlt).below ((chain HW.out.2.bel bx).mono hb)⟩
      have FB := Seg.hid (HF.out j hlt)
      obtain ⟨_, ⟨_, Ah, ch, hHj, _⟩, _⟩ := HH.out j hlt
      have d1 : (wr.alloc (.cells (BatW.batArr (s.bats.getD j default) (H j)) 38 (0, 0))).cell? ⟨w.heap.size + 1 + 1, 1, none⟩ = some (.slice A1 us.length c1) := by
        rw [World.cell?_of_block (w := wr) (heap_alloc_old _ _ (by show w.heap.size + 1 + 1 < _; omega))]
        exact cell_of_row wr (w.heap.size + 1 + 1) 1 _ _ (0, 0) HW.out.2.out
      have LR : Hid ((wr.alloc (.cells (BatW.batArr (s.bats.getD j default) (H j)) 38 (0, 0))).heap[wr.heap.size]? = some (.cells (BatW.batArr (s.bats.getD j default) (H j)) 38 (0, 0))) := heap_alloc_new _ _
      clear hcell HW hG
      generalize s.bats.getD j default = tj at *
      rw [hHj] at e6 d1 LR BT
      clear hHj
      have LR' : Hid ((wr.alloc (.cells #[.int .i64 tj.base, .int .i64 tj.epoch, .int .i64 tj.producer, .int .i64 tj.turn, .int .i64 tj.seq, .int .i64 tj.flags, .slice Ah tj.recs.length ch] 38 (0, 0))).heap[wr.heap.size]? = some (.cells (BatW.batArr tj (.slice Ah tj.recs.length ch)) 38 (0, 0))) := LR.out
      have d1' : (wr.alloc (.cells #[.int .i64 tj.base, .int .i64 tj.epoch, .int .i64 tj.producer, .int .i64 tj.turn, .int .i64 tj.seq, .int .i64 tj.flags, .slice Ah tj.recs.length ch] 38 (0, 0))).cell? ⟨w.heap.size + 1 + 1, 1, none⟩ = some (.slice A1 us.length c1) := d1
      obtain ⟨y0, y1, y2, y3, y4, y5, y6⟩ := seven LR'.out
      clear d1
      go_wp2_with fail
      go_region_law
        ((first | (go_simp; go_at_call 51; refine (copyBatch_any _ tj (wr.alloc (.cells (BatW.batArr tj (.slice Ah tj.recs.length ch)) 38 (0, 0))).drew lo b (BT.out _ (below1 wr _).drew) (by show b ≤ (wr.alloc _).heap.size; rw [hsz]; omega) FB.out).mono ?_; rintro e w8 ⟨rv8, rfl, ow8, b8'⟩; have b8 := Seg.hid (chainD (below1 wr (.cells (BatW.batArr tj (.slice Ah tj.recs.length ch)) 38 (0, 0))) b8'); have O8 := Seg.hid (LOwn.mono ow8 (S' := seg wr.heap.size w8.heap.size) (fun x hx => ⟨Nat.le_trans (by show _ ≤ (wr.alloc _).heap.size; rw [hsz]; omega) hx.1, hx.2⟩)); have s8 := b8.out.size; obtain ⟨A8, c8, hA8⟩ := LOwn.form ow8; subst hA8; clear ow8 b8'; have K8 : w8.cell? ⟨w.heap.size + 1 + 1, 1, none⟩ = some (.slice A1 us.length c1) := (b8.out.cell (p := ⟨w.heap.size + 1 + 1, 1, none⟩) (by show w.heap.size + 1 + 1 < wr.heap.size; omega)).trans (cell_of_row wr (w.heap.size + 1 + 1) 1 _ _ (0, 0) WC.out.out); have hl8 : w.heap.size + 1 + 1 < w8.heap.size := (by omega); unfold batVal) | (refine step_append_lies _ (by rfl) _ _ _ (by rfl) (w.heap.size + 3) 38 i0 _ 7 72 Tryz.underlying52 hi hz0 hz1 hz2 rfl (by decide) (.slice A1 us.length c1) us.length ((List.range (us.length * 7)).map F) (by rfl) (World.ownsRow.alloc (own_keep HG.out.own (fun x _ hx => b8.out.block x hx)) _) ⟨w8.heap.size, 0, none⟩ 1 1 (BatW.batArr tj (.slice A8 tj.recs.length c8)).toList (by rfl) (by rfl) (World.news_of_block (cs := BatW.batArr tj (.slice A8 tj.recs.length c8)) (heap_alloc_new w8 _)) (by simp [BatW.batArr, Value.oneCell']) (by decide) (by unfold maxLen; omega) (by omega) (by rw [hsz]; omega) (w8.heap.size + 1) (hsz w8 _) ?_; intro g9 cap9 w9 hown9 gr9 hat9 hlt9; have D9 := Seg.hid (CS.push WC.out HG.out b8.out O8.out hown9 gr9 hat9); have q6 := D9.out.2.1; have p6 := D9.out.2.2; clear hown9 gr9 hat9 hlt9)))
      all_goals
        clear WC HG K8 O8 q6 p6 d1' y0 y1 y2 y3 y4 y5 y6 e0 e1 e2 e3 e4 e5 e6
        go_wp2
        go_roundw
        case rel => exact ⟨j + 1, us ++ [tj], some ⟨g9, 0, none⟩, cap9, by omega, by go_num, UN.out, by rw [List.length_append]; exact D9.out.1⟩
        case measure => simp [intOf]; omega
    · have G1 : Hid (LGrow 38 7 EB wr (w.heap.size + 3) (.slice A1 s.bats.length c1) s.bats) := by
        have := HW.out
        rw [show j = s.bats.length by omega, List.take_length] at this
        obtain ⟨rfl, h2⟩ := this
        exact h2.grow
      have hul : us.length = s.bats.length := by rw [HW.out.1, show j = s.bats.length by omega, List.take_length]
      have O1 : Hid (wr.heap[w.heap.size + 1 + 1]? = some (.cells (segArr s (.slice A1 s.bats.length c1)) 55 (0, 0))) := by rw [← hul]; exact HW.out.2.out
      have R1 := Seg.hid HW.out.2.res
      have BL := Seg.hid HW.out.2.bel
      have ZS := Seg.hid HW.out.2.size
      have : j = s.bats.length := by omega
      clear HW hul
      subst this
      have H5 := Seg.hid (Cells.there_of R1.out)
      have H4 := Seg.hid (Cells.whole (vs := segArr s (.slice A1 s.bats.length c1)) R1.out rfl)
      have B2 := Seg.hid (Cells.below_setCells (g := w.heap.size + 1) (by omega) (segArr s (.slice A1 s.bats.length c1)).toList 0 _ _ BL.out)
      have HF' : Hid (LGrow 38 7 EB (wr.setCells (w.heap.size + 1) 0 (segArr s (.slice A1 s.bats.length c1)).toList) (w.heap.size + 3) (.slice A1 s.bats.length c1) s.bats) := G1.out.keep keepsB (by rw [Cells.size_setCells]; exact Nat.le_refl _) (fun g h1 _ => Cells.heap_setCells_other _ _ (by omega))
      go_wp2_with (first | (refine wpList_load_row rfl 55 _ rfl (w.heap.size + 1 + 1) rfl _ _ _ _ O1.out Tryz.underlying55 rfl infoN ?_) | (refine wpList_store_mid rfl 55 _ _ rfl (w.heap.size + 1) 0 (segArr s (.slice A1 s.bats.length c1)) rfl rfl H5.out infoN (segArr_one _ _ rfl) ?_))
      exact bodyPost_ret (v := segVal s (.slice A1 s.bats.length c1)) (results_cell_row rfl _ _ (w.heap.size + 1) _ _ _ _ rfl H4.out Tryz.underlying55 rfl infoN) rfl ⟨_, rfl, HF'.out, B2.out, by rw [Cells.size_setCells]; exact ZS.out⟩
theorem copySegment_grow (v : Value) (s : Sg) (w : World) (lo b : Nat) (hv : SegAt w lo b v s) (hb : b ≤ w.heap.size) (hf : FewS s) :
    Calls Tryz.prog 72 #[v] w fun e w' => ∃ bv, e = .returned (segVal s bv) ∧ LGrow 38 7 EB w' (w.heap.size + 3) bv s.bats ∧ Below w.heap.size w w' ∧ w.heap.size + 3 ≤ w'.heap.size := by
  obtain ⟨bv, rfl, hh⟩ := hv
  obtain ⟨_, ⟨_, A, c, rfl, _⟩, _⟩ := id hh
  exact copySegment_core s A c w lo b hb hf hh
theorem copySegment_any (v : Value) (s : Sg) (w : World) (lo b : Nat) (hv : SegAt w lo b v s) (hb : b ≤ w.heap.size) (hf : FewS s) :
    Calls Tryz.prog 72 #[v] w fun e w' => ∃ bv, e = .returned (segVal s bv) ∧ OwnB w' (seg w.heap.size w'.heap.size) bv s.bats ∧ Below w.heap.size w w' :=
  (copySegment_grow v s w lo b hv hb hf).mono fun e w' ⟨bv, a1, a2, a3, _⟩ => ⟨bv, a1, (LGrow.own a2 hf.1).mono (fun x hx => ⟨by have := hx.1; omega, hx.2⟩), a3⟩
end Go.Proofs.YtoplbemolnpngaaGreat.Ft
namespace Go.Proofs.YtoplbemolnpngaaGreat.Ft
set_option maxRecDepth 8000
open Go.RowKit
open Recs
open ToO (MineC)
open Bats (BatsAt batsCells)
open SegW
open Segs (SegsAt segsCells)
set_option linter.unusedVariables false
section
variable {T : Type} [Inhabited T] {ty nf : Nat} {EO EO' : World → (Nat → Prop) → (Nat → Value) → T → Prop}
theorem LGr.keepV (hE : Keeps nf EO) {w w' : World} {base : Nat} {v : Value} {us : List T} {F : Nat → Value} {P : Nat → Nat → Prop} (h : LGr ty nf EO w base v us F P) (hs : w.heap.size ≤ w'.heap.size) (ho : ∀ g, v.ownBlock = some g → w'.heap[g]? = w.heap[g]?) (hk : ∀ i, i < us.length → ∀ x, P i x → w'.heap[x]? = w.heap[x]?) : LGr ty nf EO w' base v us F P := by
  refine ⟨⟨h.own.1, ?_⟩, fun i hi => hE _ _ _ _ _ _ (h.el i hi) hs (hk i hi) (fun _ _ => rfl), fun i hi x hx => ⟨(h.apart i hi x hx).1, Nat.lt_of_lt_of_le (h.apart i hi x hx).2.1 hs, (h.apart i hi x hx).2.2⟩, h.disj⟩
  rcases h.own.2 with hn | ⟨g', cap, cur, h1, hbs, hgg, rest⟩
  · exact .inl hn
  · exact .inr ⟨g', cap, cur, h1, hbs, by rw [ho g' (by rw [h1]; rfl)]; exact hgg, rest⟩
theorem own_base {w : World} {base base' : Nat} {v : Value} {n : Nat} {xs : List Value} (h : w.ownsRow base ty nf v n xs) (hb : base' ≤ base) : w.ownsRow base' ty nf v n xs := by
  refine ⟨h.1, ?_⟩
  rcases h.2 with hn | ⟨g', cap, cur, h1, hbs, hgg, rest⟩
  · exact .inl hn
  · exact .inr ⟨g', cap, cur, h1, Nat.le_trans hb hbs, hgg, rest⟩
theorem LGr.base {w : World} {base base' : Nat} {v : Value} {us : List T} {F : Nat → Value} {P : Nat → Nat → Prop} (h : LGr ty nf EO w base v us F P) (hb : base' ≤ base) : LGr ty nf EO w base' v us F P :=
  ⟨own_base h.own hb, h.el, fun i hi x hx => ⟨Nat.le_trans hb (h.apart i hi x hx).1, (h.apart i hi x hx).2⟩, h.disj⟩
theorem LGr.weak (he : ∀ w S f t, EO w S f t → EO' w S f t) {w : World} {base : Nat} {v : Value} {us : List T} {F : Nat → Value} {P : Nat → Nat → Prop} (h : LGr ty nf EO w base v us F P) : LGr ty nf EO' w base v us F P :=
  ⟨h.own, fun i hi => he _ _ _ _ (h.el i hi), h.apart, h.disj⟩
theorem LGr.form {w : World} {base : Nat} {v : Value} {us : List T} {F : Nat → Value} {P : Nat → Nat → Prop} (h : LGr ty nf EO w base v us F P) : ∃ A c, v = .slice A us.length c := LGrow.form ⟨F, P, h⟩
theorem LGr.ownL {w : World} {base : Nat} {v : Value} {us : List T} {F : Nat → Value} {P : Nat → Nat → Prop} (h : LGr ty nf EO w base v us F P) (hn : us.length ≤ 1048576) : LOwn ty nf EO w (fun x => v.ownBlock = some x ∨ ∃ i, i < us.length ∧ P i x) v us := by
  refine ⟨hn, ?_⟩
  rcases h.own.2 with ⟨h1, h2⟩ | ⟨g, cap, cur, h1, h2, h3, h4⟩
  · exact ⟨none, 0, by rw [h1, h2], .inl h2⟩
  · refine ⟨_, cap, h1, .inr ⟨g, F, P, rfl, .inl (by rw [h1]; rfl), fun i hi x hx => .inr ⟨i, hi, hx⟩, ⟨h.own.1, .inr ⟨g, cap, cur, rfl, Nat.le_refl _, h3, h4⟩⟩, rfl, h.el, fun i hi x hx => ⟨fun e => (h.apart i hi x hx).2.2 ?_, (h.apart i hi x hx).2.1⟩, h.disj⟩⟩
    rw [h1, e]
    rfl
/-- The list may grow; its blocks and its elements' lie in S. -/
def LGrS (ty nf : Nat) (EO : World → (Nat → Prop) → (Nat → Value) → T → Prop) (w : World) (S : Nat → Prop) (v : Value) (us : List T) : Prop :=
  us.length ≤ 1048576 ∧ ∃ F P, LGr ty nf EO w 0 v us F P ∧ (∀ x, v.ownBlock = some x → S x) ∧ ∀ i, i < us.length → ∀ x, P i x → S x
theorem LGrS.keep (hE : Keeps nf EO) {w w' : World} {S : Nat → Prop} {v : Value} {us : List T} (h : LGrS ty nf EO w S v us) (hs : w.heap.size ≤ w'.heap.size) (hk : ∀ g, S g → w'.heap[g]? = w.heap[g]?) : LGrS ty nf EO w' S v us := by
  obtain ⟨h0, F, P, h1, h2, h3⟩ := h
  exact ⟨h0, F, P, h1.keepV hE hs (fun g hg => hk g (h2 g hg)) (fun i hi x hx => hk x (h3 i hi x hx)), h2, h3⟩
theorem LGrS.mono {w : World} {S S' : Nat → Prop} {v : Value} {us : List T} (h : LGrS ty nf EO w S v us) (hs : ∀ x, S x → S' x) : LGrS ty nf EO w S' v us := by
  obtain ⟨h0, F, P, h1, h2, h3⟩ := h
  exact ⟨h0, F, P, h1, fun x hx => hs x (h2 x hx), fun i hi x hx => hs x (h3 i hi x hx)⟩
theorem LGrS.own {w : World} {S : Nat → Prop} {v : Value} {us : List T} (h : LGrS ty nf EO w S v us) : LOwn ty nf EO w S v us := by
  obtain ⟨h0, F, P, h1, h2, h3⟩ := h
  exact (h1.ownL h0).mono (fun x hx => by
    rcases hx with hx | ⟨i, hi, hx⟩
    · exact h2 x hx
    · exact h3 i hi x hx)
theorem LGrS.nil (w : World) (S : Nat → Prop) : LGrS ty nf EO w S (.slice none 0 0) ([] : List T) := by
  obtain ⟨F, P, h⟩ := LGrow.nil (ty := ty) (nf := nf) (EO := EO) w 0
  exact ⟨by simp, F, P, h, fun x hx => by simp [Value.ownBlock] at hx, fun i hi => absurd hi (by simp)⟩
theorem LGrS.form {w : World} {S : Nat → Prop} {v : Value} {us : List T} (h : LGrS ty nf EO w S v us) : ∃ A c, v = .slice A us.length c := by
  obtain ⟨h0, F, P, h1, h2, h3⟩ := h
  exact h1.form
theorem LGrow.grS {w : World} {base : Nat} {v : Value} {us : List T} (h : LGrow ty nf EO w base v us) (hn : us.length ≤ 1048576) : LGrS ty nf EO w (seg base w.heap.size) v us := by
  obtain ⟨F, P, h⟩ := h
  exact ⟨hn, F, P, h.base (Nat.zero_le _), fun x hx => World.ownsRow.lt h.own x hx, fun i hi x hx => ⟨(h.apart i hi x hx).1, (h.apart i hi x hx).2.1⟩⟩
/-- One element is written anew; its set of blocks may be another one. -/
theorem LGr.step (hE : Keeps nf EO) {w w' : World} {base j : Nat} {v : Value} {F F' : Nat → Value} {P P' : Nat → Nat → Prop} {us : List T} {t : T} (h : LGr ty nf EO w base v us F P) (hj : j < us.length) (hM : w'.ownsRow base ty nf v us.length ((List.range (us.length * nf)).map F'))
    (hF : ∀ i, i < us.length → i ≠ j → ∀ q, q < nf → F' (i * nf + q) = F (i * nf + q)) (hs : w.heap.size ≤ w'.heap.size) (hP : ∀ i, i < us.length → i ≠ j → P' i = P i) (hQ : ∀ x, P' j x → base ≤ x ∧ x < w'.heap.size ∧ v.ownBlock ≠ some x) (hD : ∀ i, i < us.length → i ≠ j → ∀ x, P' j x → ¬ P i x)
    (hk : ∀ i, i < us.length → i ≠ j → ∀ x, P i x → w'.heap[x]? = w.heap[x]?) (he : EO w' (P' j) (fun q => F' (j * nf + q)) t) : LGr ty nf EO w' base v (us.set j t) F' P' := by
  refine ⟨by rw [List.length_set]; exact hM, fun i hi => ?_, fun i hi x hx => ?_, fun i k hi hk' hik x hx => ?_⟩
  · rw [List.length_set] at hi
    by_cases e : i = j
    · subst e
      rw [getD_set_same t hi]
      exact he
    · rw [getD_set_other t e, hP i hi e]
      exact hE _ _ _ _ _ _ (h.el i hi) hs (hk i hi e) (fun q hq => hF i hi e q hq)
  · rw [List.length_set] at hi
    by_cases e : i = j
    · subst e
      exact hQ x hx
    · rw [hP i hi e] at hx
      exact ⟨(h.apart i hi x hx).1, Nat.lt_of_lt_of_le (h.apart i hi x hx).2.1 hs, (h.apart i hi x hx).2.2⟩
  · rw [List.length_set] at hi hk'
    by_cases e : i = j
    · subst e
      rw [hP k hk' (Ne.symm hik)]
      exact hD k hk' (Ne.symm hik) x hx
    · rw [hP i hi e] at hx
      by_cases e2 : k = j
      · subst e2
        exact fun hx' => hD i hi e x hx' hx
      · rw [hP k hk' e2]
        exact h.disj i k hi hk' hik x hx
/-- One element more, its sets told. -/
theorem LGr.push_v (hE : Keeps nf EO) {wr w2 w3 : World} {base g cap : Nat} {v : Value} {us : List T} {F : Nat → Value} {P : Nat → Nat → Prop} {Q : Nat → Prop} {t : T} {news : List Value} (h : LGr ty nf EO wr base v us F P) (hs : wr.heap.size ≤ w2.heap.size) (ho : ∀ g, v.ownBlock = some g → w2.heap[g]? = wr.heap[g]?) (hk : ∀ i, i < us.length → ∀ x, P i x → w2.heap[x]? = wr.heap[x]?)
    (he : EO w2 Q (fun q => news.getD q default) t) (hQ : ∀ x, Q x → wr.heap.size ≤ x ∧ x < w2.heap.size) (hbase : base ≤ wr.heap.size) (hl : news.length = nf) (hown : w3.ownsRow base ty nf (.slice (some ⟨g, 0, none⟩) (us.length + 1) cap) (us.length + 1) ((List.range (us.length * nf)).map F ++ news)) (gr : w2.grownBy w3 v.ownBlock) (hg : v.ownBlock = some g ∨ g = w2.heap.size) :
    LGr ty nf EO w3 base (.slice (some ⟨g, 0, none⟩) (us.length + 1) cap) (us ++ [t]) (fun q => if q < us.length * nf then F q else news.getD (q - us.length * nf) default) (fun i => if i = us.length then Q else P i) := by
  have h2 := h.keepV hE hs ho hk
  have hvb : ∀ x, v.ownBlock = some x → base ≤ x ∧ x < wr.heap.size := fun x hx => World.ownsRow.lt h.own x hx
  have gs := gr.size
  refine ⟨?_, fun i hi => ?_, fun i hi x hx => ?_, fun i j hi hj hij x hx hx' => ?_⟩
  · show w3.ownsRow _ _ _ _ _ _
    rw [List.length_append, List.length_singleton, ← map_push F us.length nf news hl]
    exact hown
  · show EO w3 (if i = us.length then Q else P i) (fun q => if i * nf + q < us.length * nf then F (i * nf + q) else news.getD (i * nf + q - us.length * nf) default) _
    by_cases e : i = us.length
    · subst e
      rw [if_pos rfl, getD_app_last]
      refine hE _ _ _ _ _ _ he gs (fun x hx => gr.block x (hQ x hx).2 (fun e => ?_)) (fun q hq => ?_)
      · have a1 := hvb x e.symm
        have a2 := hQ x hx
        omega
      · rw [if_neg (by omega), Nat.add_sub_cancel_left]
    · have hi' : i < us.length := by rw [List.length_append, List.length_singleton] at hi; omega
      rw [if_neg e, getD_app_left hi']
      refine hE _ _ _ _ _ _ (h2.el i hi') gs (fun x hx => gr.block x (h2.apart i hi' x hx).2.1 (fun e => (h2.apart i hi' x hx).2.2 e.symm)) (fun q hq => ?_)
      have : (i + 1) * nf ≤ us.length * nf := Nat.mul_le_mul_right nf (by omega)
      rw [Nat.succ_mul] at this
      rw [if_pos (by omega)]
  · replace hx : (if i = us.length then Q else P i) x := hx
    by_cases e : i = us.length
    · subst e
      rw [if_pos rfl] at hx
      have a1 := hQ x hx
      refine ⟨by omega, by omega, fun e => ?_⟩
      simp only [Value.ownBlock, Option.some.injEq] at e
      rcases hg with hg | hg
      · have := hvb g hg; omega
      · omega
    · have hi' : i < us.length := by rw [List.length_append, List.length_singleton] at hi; omega
      rw [if_neg e] at hx
      have a1 := h2.apart i hi' x hx
      refine ⟨a1.1, by omega, fun e => ?_⟩
      simp only [Value.ownBlock, Option.some.injEq] at e
      rcases hg with hg | hg
      · exact a1.2.2 (by rw [hg, e])
      · omega
  · replace hx : (if i = us.length then Q else P i) x := hx
    replace hx' : (if j = us.length then Q else P j) x := hx'
    rw [List.length_append, List.length_singleton] at hi hj
    by_cases e : i = us.length
    · subst e
      rw [if_pos rfl] at hx
      rw [if_neg (Ne.symm hij)] at hx'
      have a1 := hQ x hx
      have a2 := h.apart j (by omega) x hx'
      omega
    · rw [if_neg e] at hx
      by_cases e2 : j = us.length
      · subst e2
        rw [if_pos rfl] at hx'
        have a1 := hQ x hx'
        have a2 := h.apart i (by omega) x hx
        omega
      · rw [if_neg e2] at hx'
        exact h.disj i j (by omega) (by omega) hij x hx hx'
end
/-- A Segment whose list of Batches may grow. -/
def EG (w : World) (S : Nat → Prop) (f : Nat → Value) (t : Sg) : Prop := f 0 = .int .i64 t.base ∧ LGrS 38 7 EB w S (f 1) t.bats
theorem keepsG : Keeps 2 EG := fun w w' S f f' t h hs hk hf => by
  obtain ⟨h0, h1⟩ := h
  refine ⟨by rw [hf 0 (by omega)]; exact h0, ?_⟩
  rw [hf 1 (by omega)]
  exact LGrS.keep keepsB h1 hs hk
theorem EG.es {w : World} {S : Nat → Prop} {f : Nat → Value} {t : Sg} (h : EG w S f t) : ES w S f t := ⟨h.1, h.2.own⟩
theorem seg_elG {w : World} {t : Sg} {bv : Value} {Q : Nat → Prop} (h : LGrS 38 7 EB w Q bv t.bats) : EG w Q (fun q => (segArr t bv).toList.getD q default) t := ⟨rfl, h⟩
end Go.Proofs.YtoplbemolnpngaaGreat.Ft
namespace Go.Proofs.YtoplbemolnpngaaGreat.Ft
set_option maxRecDepth 8000
open Go.RowKit
open Recs
open ToO (MineC)
open Bats SegW Segs LogW
set_option linter.unusedVariables false
section
variable {T : Type} [Inhabited T] {ty nf : Nat} {EO : World → (Nat → Prop) → (Nat → Value) → T → Prop}
/-- One element more, whose blocks lay already. -/
theorem LGr.push_w (hE : Keeps nf EO) {w2 w3 : World} {base g cap : Nat} {v : Value} {us : List T} {F : Nat → Value} {P : Nat → Nat → Prop} {Q : Nat → Prop} {t : T} {news : List Value} (h2 : LGr ty nf EO w2 base v us F P)
    (he : EO w2 Q (fun q => news.getD q default) t) (hQ : ∀ x, Q x → base ≤ x ∧ x < w2.heap.size ∧ v.ownBlock ≠ some x) (hD : ∀ i, i < us.length → ∀ x, Q x → ¬ P i x) (hl : news.length = nf) (hown : w3.ownsRow base ty nf (.slice (some ⟨g, 0, none⟩) (us.length + 1) cap) (us.length + 1) ((List.range (us.length * nf)).map F ++ news)) (gr : w2.grownBy w3 v.ownBlock) (hg : v.ownBlock = some g ∨ g = w2.heap.size) :
    LGr ty nf EO w3 base (.slice (some ⟨g, 0, none⟩) (us.length + 1) cap) (us ++ [t]) (fun q => if q < us.length * nf then F q else news.getD (q - us.length * nf) default) (fun i => if i = us.length then Q else P i) := by
  have gs := gr.size
  refine ⟨?_, fun i hi => ?_, fun i hi x hx => ?_, fun i j hi hj hij x hx hx' => ?_⟩
  · show w3.ownsRow _ _ _ _ _ _
    rw [List.length_append, List.length_singleton, ← map_push F us.length nf news hl]
    exact hown
  · show EO w3 (if i = us.length then Q else P i) (fun q => if i * nf + q < us.length * nf then F (i * nf + q) else news.getD (i * nf + q - us.length * nf) default) _
    by_cases e : i = us.length
    · subst e
      rw [if_pos rfl, getD_app_last]
      refine hE _ _ _ _ _ _ he gs (fun x hx => gr.block x (hQ x hx).2.1 (fun e => (hQ x hx).2.2 e.symm)) (fun q hq => ?_)
      rw [if_neg (by omega), Nat.add_sub_cancel_left]
    · have hi' : i < us.length := by rw [List.length_append, List.length_singleton] at hi; omega
      rw [if_neg e, getD_app_left hi']
      refine hE _ _ _ _ _ _ (h2.el i hi') gs (fun x hx => gr.block x (h2.apart i hi' x hx).2.1 (fun e => (h2.apart i hi' x hx).2.2 e.symm)) (fun q hq => ?_)
      have : (i + 1) * nf ≤ us.length * nf := Nat.mul_le_mul_right nf (by omega)
      rw [Nat.succ_mul] at this
      rw [if_pos (by omega)]
  · replace hx : (if i = us.length then Q else P i) x := hx
    have a1 : base ≤ x ∧ x < w2.heap.size ∧ v.ownBlock ≠ some x := by
      by_cases e : i = us.length
      · rw [if_pos e] at hx
        exact hQ x hx
      · rw [if_neg e] at hx
        exact h2.apart i (by rw [List.length_append, List.length_singleton] at hi; omega) x hx
    refine ⟨a1.1, by omega, fun e => ?_⟩
    simp only [Value.ownBlock, Option.some.injEq] at e
    rcases hg with hg | hg
    · exact a1.2.2 (by rw [hg, e])
    · omega
  · replace hx : (if i = us.length then Q else P i) x := hx
    replace hx' : (if j = us.length then Q else P j) x := hx'
    rw [List.length_append, List.length_singleton] at hi hj
    by_cases e : i = us.length
    · rw [if_pos e] at hx
      rw [if_neg (by omega)] at hx'
      exact hD j (by omega) x hx hx'
    · rw [if_neg e] at hx
      by_cases e2 : j = us.length
      · rw [if_pos e2] at hx'
        exact hD i (by omega) x hx' hx
      · rw [if_neg e2] at hx'
        exact h2.disj i j (by omega) (by omega) hij x hx hx'
theorem map_app (F F2 : Nat → Value) (n m nf : Nat) : (List.range (n * nf)).map F ++ (List.range (m * nf)).map F2 = (List.range ((n + m) * nf)).map (fun q => if q < n * nf then F q else F2 (q - n * nf)) := by
  refine List.ext_getElem (by simp [Nat.add_mul]) fun i h1 h2 => ?_
  simp only [List.getElem_map, List.getElem_range]
  by_cases hi : i < n * nf
  · rw [if_pos hi, List.getElem_append_left (by simpa using hi)]
    simp
  · rw [if_neg hi, List.getElem_append_right (by simpa using hi)]
    simp
theorem getD_left' {a b : List T} {i : Nat} (h : i < a.length) : (a ++ b).getD i default = a.getD i default := by
  rw [List.getD_eq_getElem?_getD, List.getElem?_append_left h, ← List.getD_eq_getElem?_getD]
theorem getD_right' {a b : List T} {i : Nat} (h : a.length ≤ i) : (a ++ b).getD i default = b.getD (i - a.length) default := by
  rw [List.getD_eq_getElem?_getD, List.getElem?_append_right h, ← List.getD_eq_getElem?_getD]
/-- A list behind a list. -/
theorem LGr.app (hE : Keeps nf EO) {w w' : World} {base base2 : Nat} {v v2 v' : Value} {us us2 : List T} {F F2 : Nat → Value} {P P2 : Nat → Nat → Prop} (h : LGr ty nf EO w base v us F P) (h2 : LGr ty nf EO w base2 v2 us2 F2 P2)
    (hd : ∀ i j, i < us.length → j < us2.length → ∀ x, P i x → ¬ P2 j x) (hv : ∀ j, j < us2.length → ∀ x, P2 j x → v.ownBlock ≠ some x ∧ base ≤ x)
    (hown : w'.ownsRow base ty nf v' (us.length + us2.length) ((List.range (us.length * nf)).map F ++ (List.range (us2.length * nf)).map F2)) (gr : w.grownBy w' v.ownBlock) (hg : v'.ownBlock = v.ownBlock ∨ v'.ownBlock = some w.heap.size) :
    LGr ty nf EO w' base v' (us ++ us2) (fun q => if q < us.length * nf then F q else F2 (q - us.length * nf)) (fun i => if i < us.length then P i else P2 (i - us.length)) := by
  have gs := gr.size
  have ap : ∀ i, i < us.length + us2.length → ∀ x, (if i < us.length then P i else P2 (i - us.length)) x → base ≤ x ∧ x < w.heap.size ∧ v.ownBlock ≠ some x := fun i hi x hx => by
    by_cases e : i < us.length
    · rw [if_pos e] at hx
      exact h.apart i e x hx
    · rw [if_neg e] at hx
      have a1 := h2.apart (i - us.length) (by omega) x hx
      have a2 := hv (i - us.length) (by omega) x hx
      exact ⟨a2.2, a1.2.1, a2.1⟩
  refine ⟨?_, fun i hi => ?_, fun i hi x hx => ?_, fun i j hi hj hij x hx hx' => ?_⟩
  · rw [List.length_append, ← map_app]
    exact hown
  · rw [List.length_append] at hi
    show EO w' (if i < us.length then P i else P2 (i - us.length)) (fun q => if i * nf + q < us.length * nf then F (i * nf + q) else F2 (i * nf + q - us.length * nf)) _
    have kx : ∀ x, (if i < us.length then P i else P2 (i - us.length)) x → w'.heap[x]? = w.heap[x]? := fun x hx => gr.block x (ap i hi x hx).2.1 (fun e => (ap i hi x hx).2.2 e.symm)
    by_cases e : i < us.length
    · rw [if_pos e] at kx ⊢
      rw [getD_left' e]
      refine hE _ _ _ _ _ _ (h.el i e) gs kx (fun q hq => ?_)
      have : (i + 1) * nf ≤ us.length * nf := Nat.mul_le_mul_right nf (by omega)
      rw [Nat.succ_mul] at this
      rw [if_pos (by omega)]
    · rw [if_neg e] at kx ⊢
      rw [getD_right' (by omega)]
      refine hE _ _ _ _ _ _ (h2.el (i - us.length) (by omega)) gs kx (fun q hq => ?_)
      have : us.length * nf ≤ i * nf := Nat.mul_le_mul_right nf (by omega)
      rw [if_neg (by omega), Nat.sub_mul]
      congr 1
      omega
  · rw [List.length_append] at hi
    have a1 := ap i hi x hx
    refine ⟨a1.1, by omega, fun e => ?_⟩
    rcases hg with hg | hg
    · exact a1.2.2 (by rw [← hg, e])
    · rw [hg, Option.some.injEq] at e
      omega
  · rw [List.length_append] at hi hj
    replace hx : (if i < us.length then P i else P2 (i - us.length)) x := hx
    replace hx' : (if j < us.length then P j else P2 (j - us.length)) x := hx'
    by_cases e : i < us.length
    · rw [if_pos e] at hx
      by_cases e2 : j < us.length
      · rw [if_pos e2] at hx'
        exact h.disj i j e e2 hij x hx hx'
      · rw [if_neg e2] at hx'
        exact hd i (j - us.length) e (by omega) x hx hx'
    · rw [if_neg e] at hx
      by_cases e2 : j < us.length
      · rw [if_pos e2] at hx'
        exact hd j (i - us.length) e2 (by omega) x hx' hx
      · rw [if_neg e2] at hx'
        exact h2.disj (i - us.length) (j - us.length) (by omega) (by omega) (by omega) x hx hx'
end
/-- One Segment's Batches are another list: w': behind what made it. -/
theorem LGr.last {w w' : World} {base g cap j : Nat} {us : List Sg} {F : Nat → Value} {P : Nat → Nat → Prop} {S' : Nat → Prop} {v1 : Value} {bs : List Bat} (h : LGr 55 2 EG w base (.slice (some ⟨g, 0, none⟩) us.length cap) us F P) (hj : j < us.length) (hG : LGrS 38 7 EB w' S' v1 bs)
    (hg : w'.heap[g]? = w.heap[g]?) (hs : w.heap.size ≤ w'.heap.size) (hk : ∀ i, i < us.length → i ≠ j → ∀ x, P i x → w'.heap[x]? = w.heap[x]?) (hQ : ∀ x, S' x → base ≤ x ∧ x < w'.heap.size ∧ x ≠ g) (hD : ∀ i, i < us.length → i ≠ j → ∀ x, S' x → ¬ P i x) :
    LGr 55 2 EG (w'.setCell ⟨g, j * 2 + 1, none⟩ v1) base (.slice (some ⟨g, 0, none⟩) us.length cap) (us.set j ⟨(us.getD j default).base, bs⟩) (fun q => if q = j * 2 + 1 then v1 else F q) (fun i => if i = j then S' else P i) := by
  have o' : w'.ownsRow base 55 2 (.slice (some ⟨g, 0, none⟩) us.length cap) us.length ((List.range (us.length * 2)).map F) := by
    refine ⟨h.own.1, ?_⟩
    rcases h.own.2 with hn | ⟨g', cap', cur, h1, hbs, hgg, rest⟩
    · exact .inl hn
    · have h1' := h1
      simp only [Value.slice.injEq, Option.some.injEq, Addr.mk.injEq, and_true, true_and] at h1'
      obtain ⟨rfl, rfl⟩ := h1'
      exact .inr ⟨g, cap, cur, h1, hbs, by rw [hg]; exact hgg, rest⟩
  have he : ((List.range (us.length * 2)).map F).set (j * 2 + 1) v1 = (List.range (us.length * 2)).map (fun q => if q = j * 2 + 1 then v1 else F q) := List.ext_getElem (by simp) fun i h1 h2 => by
    by_cases hi : i = j * 2 + 1
    · subst hi; simp
    · rw [List.getElem_set_ne (by omega)]; simp [hi]
  have o2 := (World.ownsRow.stored o' (j * 2 + 1) v1).1
  rw [he] at o2
  refine LGr.step keepsG h hj o2 (fun i hi e q hq => if_neg (by omega)) (by simpa using hs) (fun i hi e => if_neg e) (fun x hx => ?_) (fun i hi e x hx => ?_) (fun i hi e x hx => ?_) ?_
  · rw [if_pos rfl] at hx
    obtain ⟨a1, a2, a3⟩ := hQ x hx
    refine ⟨a1, by simpa using a2, fun e => a3 ?_⟩
    simp only [Value.ownBlock, Option.some.injEq] at e
    exact e.symm
  · rw [if_pos rfl] at hx
    exact hD i hi e x hx
  · have a1 := h.apart i hi x hx
    rw [heap_setCell_other _ _ _ _ (fun e' => a1.2.2 (by rw [show x = g from e']; rfl))]
    exact hk i hi e x hx
  · rw [if_pos rfl]
    refine ⟨?_, ?_⟩
    · show (if j * 2 + 0 = j * 2 + 1 then v1 else F (j * 2 + 0)) = _
      rw [if_neg (by omega)]
      exact (h.el j hj).1
    · show LGrS _ _ _ _ _ (if j * 2 + 1 = j * 2 + 1 then v1 else F (j * 2 + 1)) bs
      rw [if_pos rfl]
      exact hG.keep keepsB (by simp) (fun x hx => heap_setCell_other _ _ _ _ (fun e' => (hQ x hx).2.2 e'))
theorem news_own {w : World} {base ty nf m c : Nat} {A : Option Addr} {xs : List Value} (h : w.ownsRow base ty nf (.slice A m c) m xs) : m ≠ 0 → ∃ ad, A = some ad ∧ ∀ j u, xs[j]? = some u → w.cell? (ad.add j) = some u := fun hm => by
  rcases h.2 with ⟨h1, h2⟩ | ⟨g, cap, cur, h1, _⟩
  · exact absurd h2 hm
  · simp only [Value.slice.injEq] at h1
    obtain ⟨rfl, _, rfl⟩ := h1
    exact ⟨_, rfl, World.ownsRow.cells h rfl⟩
theorem one_own {w : World} {base : Nat} {v : Value} {bs : List Bat} {F : Nat → Value} {P : Nat → Nat → Prop} (h : LGr 38 7 EB w base v bs F P) : ∀ u ∈ (List.range (bs.length * 7)).map F, u.oneCell' = true := fun u hu => by
  obtain ⟨q, hq, rfl⟩ := List.mem_map.1 hu
  rw [List.mem_range] at hq
  obtain ⟨⟨f0, f1, f2, f3, f4, f5⟩, f6⟩ := h.el (q / 7) (by omega)
  obtain ⟨A, c, hA⟩ := LOwn.form f6
  have e : q = q / 7 * 7 + q % 7 := by omega
  have hr : q % 7 < 7 := Nat.mod_lt _ (by decide)
  generalize q / 7 = i at *
  generalize q % 7 = r at *
  subst e
  match r, hr with
  | 0, _ => exact (congrArg Value.oneCell' f0).trans rfl
  | 1, _ => exact (congrArg Value.oneCell' f1).trans rfl
  | 2, _ => exact (congrArg Value.oneCell' f2).trans rfl
  | 3, _ => exact (congrArg Value.oneCell' f3).trans rfl
  | 4, _ => exact (congrArg Value.oneCell' f4).trans rfl
  | 5, _ => exact (congrArg Value.oneCell' f5).trans rfl
  | 6, _ => exact (congrArg Value.oneCell' hA).trans rfl
/-- The copied Segments that are handed on, and the variable that takes them. -/
structure JS (w2 : World) (OB : Nat) (ss : List Sg) (v0 : Value) (F0 : Nat → Value) (P0 : Nat → Nat → Prop) : Prop where
  src : LGr 55 2 EG w2 0 v0 ss F0 P0
  ob : OB < w2.heap.size
  row : v0.ownBlock ≠ some OB
  el : ∀ i, i < ss.length → ¬ P0 i OB
/-- How far they are handed on: k of them. -/
structure JV (w2 wr : World) (OB : Nat) (l : Lg) (ss : List Sg) (P0 : Nat → Nat → Prop) (k : Nat) (v : Value) (us : List Sg) (F : Nat → Value) (P : Nat → Nat → Prop) : Prop where
  out : wr.heap[OB]? = some (.cells (logArr l v) 32 (0, 0))
  grow : LGr 55 2 EG wr 0 v us F P
  row : ∀ x, v.ownBlock = some x → w2.heap.size ≤ x
  els : ∀ j, j < us.length → ∀ x, P j x → (∃ i, i < k ∧ P0 i x) ∨ w2.heap.size ≤ x
  keep : ∀ x, x < w2.heap.size → x ≠ OB → (∀ i, i < k → ¬ P0 i x) → wr.heap[x]? = w2.heap[x]?
  os : wr.os = w2.os ∧ wr.tape = w2.tape ∧ wr.output = w2.output
  size : w2.heap.size ≤ wr.heap.size
section
variable {w2 wr w8 w9 : World} {OB : Nat} {l : Lg} {ss : List Sg} {v0 : Value} {F0 : Nat → Value} {P0 : Nat → Nat → Prop} {k : Nat} {v : Value} {us : List Sg} {F : Nat → Value} {P : Nat → Nat → Prop}
theorem JV.later (S : JS w2 OB ss v0 F0 P0) (h : JV w2 wr OB l ss P0 k v us F P) (b : Below wr.heap.size wr w8) : JV w2 w8 OB l ss P0 k v us F P := by
  have hz := h.size
  have ho := S.ob
  exact ⟨(b.block OB (by omega)).trans h.out, h.grow.keepV keepsG b.size (fun g hg => b.block g (World.ownsRow.lt h.grow.own g hg).2) (fun i hi x hx => b.block x (h.grow.apart i hi x hx).2.1), h.row, h.els, fun x h1 h2 h3 => (b.block x (by omega)).trans (h.keep x h1 h2 h3), ⟨b.os.trans h.os.1, b.tape.trans h.os.2.1, b.output.trans h.os.2.2⟩, Nat.le_trans hz b.size⟩
theorem JV.elem (S : JS w2 OB ss v0 F0 P0) (h : JV w2 wr OB l ss P0 k v us F P) {i : Nat} (hk : k ≤ i) (hi : i < ss.length) : EG wr (P0 i) (fun q => F0 (i * 2 + q)) (ss.getD i default) :=
  keepsG _ _ _ _ _ _ (S.src.el i hi) h.size (fun x hx => h.keep x (S.src.apart i hi x hx).2.1 (fun e => S.el i hi (e ▸ hx)) (fun i' hi' hx' => S.src.disj i' i (by omega) hi (by omega) x hx' hx)) (fun _ _ => rfl)
theorem JV.cell (S : JS w2 OB ss v0 F0 P0) (h : JV w2 wr OB l ss P0 k v us F P) (hk : k ≤ ss.length) {g0 c0 : Nat} (hv : v0 = .slice (some ⟨g0, 0, none⟩) ss.length c0) {q : Nat} (hq : q < ss.length * 2) : wr.cell? ⟨g0, q, none⟩ = some (F0 q) := by
  subst hv
  have hl := (World.ownsRow.lt S.src.own g0 rfl).2
  have e : wr.heap[g0]? = w2.heap[g0]? := h.keep g0 hl (fun e => S.row (by rw [← e]; rfl)) (fun i hi hx => (S.src.apart i (by omega) g0 hx).2.2 rfl)
  rw [World.cell?_of_block (w := w2) (a := ⟨g0, q, none⟩) e]
  have := World.ownsRow.cellAt S.src.own q hq
  rw [this]
  simp [hq]
/-- One Segment more: w8: ahead of its own block; w9: behind append. -/
theorem JV.push (S : JS w2 OB ss v0 F0 P0) (h : JV w2 wr OB l ss P0 k v us F P) (hk : k < ss.length) (b8 : Below wr.heap.size wr w8) {o : Obj} {g cap : Nat} {v1 : Value} (hv1 : F0 (k * 2 + 1) = v1)
    (hown : w9.ownsRow 0 55 2 (.slice (some ⟨g, 0, none⟩) (us.length + 1) cap) (us.length + 1) ((List.range (us.length * 2)).map F ++ (segArr (ss.getD k default) v1).toList)) (gr : (w8.alloc o).grownBy w9 v.ownBlock) (hg : v.ownBlock = some g ∨ g = w8.heap.size + 1) :
    ∃ F' P', JV w2 (w9.setCell ⟨OB, 3, none⟩ (.slice (some ⟨g, 0, none⟩) (us.length + 1) cap)) OB l ss P0 (k + 1) (.slice (some ⟨g, 0, none⟩) (us.length + 1) cap) (us ++ [ss.getD k default]) F' P' := by
  have h8 := h.later S b8
  have ba := below1 w8 o
  have h9 := h8.later S ba
  have hz := h9.size
  have ho := S.ob
  have gs := gr.size
  have el := h9.elem S (Nat.le_refl k) hk
  have hz8 := hsz w8 o
  have hr8 : ∀ x, v.ownBlock = some x → x < w8.heap.size := fun x hx => (World.ownsRow.lt h8.grow.own x hx).2
  have G := LGr.push_w keepsG (w3 := w9) (g := g) (cap := cap) (Q := P0 k) (t := ss.getD k default) (news := (segArr (ss.getD k default) v1).toList) h9.grow (keepsG _ _ _ _ _ _ el (Nat.le_refl _) (fun _ _ => rfl) (fun q hq => by
      obtain rfl | rfl : q = 0 ∨ q = 1 := by omega
      · exact el.1.symm
      · exact hv1.symm)) (fun x hx => ⟨Nat.zero_le _, Nat.lt_of_lt_of_le (S.src.apart k hk x hx).2.1 hz, fun e => by have := h.row x e; have := (S.src.apart k hk x hx).2.1; omega⟩) (fun i hi x hx hx' => by
      rcases h.els i hi x hx' with ⟨i', hi', hx''⟩ | hx''
      · exact S.src.disj i' k (by omega) hk (by omega) x hx'' hx
      · have := (S.src.apart k hk x hx).2.1; omega) rfl hown gr (by rw [hz8]; exact hg)
  have nob : ∀ x, (Value.slice (some ⟨g, 0, none⟩) (us.length + 1) cap).ownBlock = some x → w2.heap.size ≤ x := fun x hx => by
    simp only [Value.ownBlock, Option.some.injEq] at hx
    subst hx
    rcases hg with hg | hg
    · exact h.row _ hg
    · rw [hz8] at hz; omega
  refine ⟨_, _, ⟨?_, G.keepV keepsG (by simp) (fun x hx => heap_setCell_other _ _ _ _ (fun e => by have := nob x hx; have : x = OB := e; omega)) (fun i hi x hx => heap_setCell_other _ _ _ _ (fun e => ?_)), nob, fun j hj x hx => ?_, fun x h1 h2 h3 => ?_, ⟨gr.os.trans h9.os.1, gr.tape.trans h9.os.2.1, gr.output.trans h9.os.2.2⟩, by simp; omega⟩⟩
  · have O9 : w9.heap[OB]? = some (.cells (logArr l v) 32 (0, 0)) := (gr.block OB (by omega) (fun e => by have := h.row OB e.symm; omega)).trans h9.out
    exact heap_setCell_same w9 OB 3 _ _ _ O9
  · have e' : x = OB := e
    subst e'
    replace hx : (if i = us.length then P0 k else P i) x := hx
    by_cases ei : i = us.length
    · rw [if_pos ei] at hx
      exact S.el k hk hx
    · rw [if_neg ei] at hx
      rw [List.length_append, List.length_singleton] at hi
      rcases h.els i (by omega) x hx with ⟨i', hi', hx''⟩ | hx''
      · exact S.el i' (by omega) hx''
      · omega
  · replace hx : (if j = us.length then P0 k else P j) x := hx
    by_cases ei : j = us.length
    · rw [if_pos ei] at hx
      exact .inl ⟨k, by omega, hx⟩
    · rw [if_neg ei] at hx
      rw [List.length_append, List.length_singleton] at hj
      rcases h.els j (by omega) x hx with ⟨i', hi', hx''⟩ | hx''
      · exact .inl ⟨i', by omega, hx''⟩
      · exact .inr hx''
  · rw [heap_setCell_other _ _ _ _ h2, gr.block x (by omega) (fun e => by have := h.row x e.symm; omega)]
    exact h9.keep x h1 h2 (fun i hi => h3 i (by omega))
/-- The Segment's Batches behind those of the last one: w9: behind append. -/
theorem JV.join (S : JS w2 OB ss v0 F0 P0) {g cap j : Nat} {v1 v2 v' : Value} {b1 b2 : List Bat} {F1 F2 : Nat → Value} {P1 P2 : Nat → Nat → Prop} (h : JV w2 wr OB l ss P0 k (.slice (some ⟨g, 0, none⟩) us.length cap) us F P) (hk : k < ss.length) (hj : j < us.length)
    (h1 : LGr 38 7 EB wr 0 v1 b1 F1 P1) (o1 : ∀ x, v1.ownBlock = some x → P j x) (p1 : ∀ i, i < b1.length → ∀ x, P1 i x → P j x) (h2 : LGr 38 7 EB wr 0 v2 b2 F2 P2) (p2 : ∀ i, i < b2.length → ∀ x, P2 i x → P0 k x) (hlen : b1.length + b2.length ≤ 1048576)
    (hown : w9.ownsRow 0 38 7 v' (b1.length + b2.length) ((List.range (b1.length * 7)).map F1 ++ (List.range (b2.length * 7)).map F2)) (gr : wr.grownBy w9 v1.ownBlock) (hg : v'.ownBlock = v1.ownBlock ∨ v'.ownBlock = some wr.heap.size) :
    (∃ F' P', JV w2 (w9.setCell ⟨g, j * 2 + 1, none⟩ v') OB l ss P0 (k + 1) (.slice (some ⟨g, 0, none⟩) us.length cap) (us.set j ⟨(us.getD j default).base, b1 ++ b2⟩) F' P') ∧ w9.ownsRow 0 55 2 (.slice (some ⟨g, 0, none⟩) us.length cap) us.length ((List.range (us.length * 2)).map F) ∧ w9.heap[OB]? = wr.heap[OB]? := by
  have hz := h.size
  have ho := S.ob
  have gs := gr.size
  have gw := h.row g rfl
  have gl := (World.ownsRow.lt h.grow.own g rfl).2
  have e1 : ∀ x, P j x → x ≠ OB ∧ ¬ P0 k x ∧ x ≠ g ∧ x < wr.heap.size := fun x hx => by
    have a1 := h.grow.apart j hj x hx
    refine ⟨fun e => ?_, fun hx' => ?_, fun e => a1.2.2 (by rw [e]; rfl), a1.2.1⟩
    · rcases h.els j hj x hx with ⟨i', hi', hx''⟩ | hx''
      · exact S.el i' (by omega) (e ▸ hx'')
      · omega
    · rcases h.els j hj x hx with ⟨i', hi', hx''⟩ | hx''
      · exact S.src.disj i' k (by omega) hk (by omega) x hx'' hx'
      · have := (S.src.apart k hk x hx').2.1; omega
  have G1 := LGr.app keepsB h1 h2 (fun i i' hi hi' x hx hx' => (e1 x (p1 i hi x hx)).2.1 (p2 i' hi' x hx')) (fun i hi x hx => ⟨fun e => (e1 x (o1 x e)).2.1 (p2 i hi x hx), Nat.zero_le _⟩) hown gr hg
  have kg : w9.heap[g]? = wr.heap[g]? := gr.block g gl (fun e => (e1 g (o1 g e.symm)).2.2.1 rfl)
  have ko : w9.heap[OB]? = wr.heap[OB]? := gr.block OB (by omega) (fun e => (e1 OB (o1 OB e.symm)).1 rfl)
  have HS : LGrS 38 7 EB w9 (fun x => P j x ∨ P0 k x ∨ (wr.heap.size ≤ x ∧ x < w9.heap.size)) v' (b1 ++ b2) := by
    refine ⟨by rw [List.length_append]; exact hlen, _, _, G1, fun x hx => ?_, fun i hi x hx => ?_⟩
    · rcases hg with hg | hg
      · exact .inl (o1 x (by rw [← hg, hx]))
      · have := (World.ownsRow.lt hown x hx).2
        rw [hg, Option.some.injEq] at hx
        exact .inr (.inr ⟨by omega, this⟩)
    · replace hx : (if i < b1.length then P1 i else P2 (i - b1.length)) x := hx
      rw [List.length_append] at hi
      by_cases e : i < b1.length
      · rw [if_pos e] at hx
        exact .inl (p1 i e x hx)
      · rw [if_neg e] at hx
        exact .inr (.inl (p2 (i - b1.length) (by omega) x hx))
  have L := LGr.last h.grow hj HS kg gs (fun i hi e x hx => gr.block x (h.grow.apart i hi x hx).2.1 (fun e' => h.grow.disj i j hi hj e x hx (o1 x e'.symm))) (fun x hx => by
      rcases hx with hx | hx | ⟨hx, hx'⟩
      · exact ⟨Nat.zero_le _, by have := (e1 x hx).2.2.2; omega, (e1 x hx).2.2.1⟩
      · have := (S.src.apart k hk x hx).2.1
        exact ⟨Nat.zero_le _, by omega, by omega⟩
      · exact ⟨Nat.zero_le _, hx', by omega⟩) (fun i hi e x hx hx' => by
      rcases hx with hx | hx | ⟨hx, _⟩
      · exact h.grow.disj i j hi hj e x hx' hx
      · rcases h.els i hi x hx' with ⟨i', hi', hx''⟩ | hx''
        · exact S.src.disj i' k (by omega) hk (by omega) x hx'' hx
        · have := (S.src.apart k hk x hx).2.1; omega
      · have := (h.grow.apart i hi x hx').2.1; omega)
  refine ⟨⟨_, _, ⟨?_, L, h.row, fun i hi x hx => ?_, fun x h1' h2' h3' => ?_, ⟨gr.os.trans h.os.1, gr.tape.trans h.os.2.1, gr.output.trans h.os.2.2⟩, by simp; omega⟩⟩, ?_, ko⟩
  rotate_left 3
  · refine ⟨h.grow.own.1, ?_⟩
    rcases h.grow.own.2 with hn | ⟨g', cap', cur, h1', hbs, hgg, rest⟩
    · exact .inl hn
    · have h1'' := h1'
      simp only [Value.slice.injEq, Option.some.injEq, Addr.mk.injEq, and_true, true_and] at h1''
      obtain ⟨rfl, rfl⟩ := h1''
      exact .inr ⟨g, cap, cur, h1', hbs, by rw [kg]; exact hgg, rest⟩
  · rw [heap_setCell_other _ _ _ _ (by show OB ≠ g; omega), ko]
    exact h.out
  · replace hx : (if i = j then (fun x => P j x ∨ P0 k x ∨ (wr.heap.size ≤ x ∧ x < w9.heap.size)) else P i) x := hx
    rw [List.length_set] at hi
    by_cases e : i = j
    · rw [if_pos e] at hx
      rcases hx with hx | hx | ⟨hx, _⟩
      · rcases h.els j hj x hx with ⟨i', hi', hx''⟩ | hx''
        · exact .inl ⟨i', by omega, hx''⟩
        · exact .inr hx''
      · exact .inl ⟨k, by omega, hx⟩
      · exact .inr (by omega)
    · rw [if_neg e] at hx
      rcases h.els i hi x hx with ⟨i', hi', hx''⟩ | hx''
      · exact .inl ⟨i', by omega, hx''⟩
      · exact .inr hx''
  · rw [heap_setCell_other _ _ _ _ (by show x ≠ g; omega), gr.block x (by omega) (fun e => ?_)]
    · exact h.keep x h1' h2' (fun i hi => h3' i (by omega))
    · rcases h.els j hj x (o1 x e.symm) with ⟨i', hi', hx''⟩ | hx''
      · exact h3' i' (by omega) hx''
      · omega
end
end Go.Proofs.YtoplbemolnpngaaGreat.Ft
