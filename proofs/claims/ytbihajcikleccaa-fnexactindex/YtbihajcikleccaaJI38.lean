/- The walk of the law on Index out of the contracts; What the frame tells of a Record or a Batch that came in: as plain data that lie in memory. -/
import Derived.ProofKit
import Derived.Deep.SlicePairs
import Derived.Test.YtbihajcikleccaaRows
import Derived.Test.YtbihajcikleccaaJI29
import Derived.Test.YtbihajcikleccaaJI33
import Derived.Test.YtbihajcikleccaaJI34
import Derived.Test.YtbihajcikleccaaJI37
import Derived.Test.YtbihajcikleccaaJI02
namespace Go.Proofs.Ytbihajcikleccaa.ExIdx
set_option maxRecDepth 8000
open Go.RowKit
open Recs (hsz below1 below2 chain chainD)
open Bats SegW IdP Ent Ft
set_option linter.unusedVariables false
theorem later {w w' : World} {lo b : Nat} {v : Value} {t : Sg} (h : SegAt w lo b v t) (hb : Below w.drew.heap.size w.drew w') (hl : b ≤ w.heap.size) : SegAt w' lo w'.heap.size v t :=
  (h.keep fun g _ hg => hb.block g (Nat.lt_of_lt_of_le hg hl)).mono (Nat.le_refl _) (Nat.le_trans hl hb.size)
theorem infoS : (Try.prog.info? 37).map (·.size) = some 2 := by kernel_rfl
theorem two {w : World} {g ty : Nat} {t : Sg} {v : Value} (h : w.heap[g]? = some (.cells (segArr t v) ty (0, 0))) : w.cell? ⟨g, 0, none⟩ = some (.int .i64 t.base) ∧ w.cell? ⟨g, 1, none⟩ = some v :=
  ⟨cell_of_row w g 0 _ _ (0, 0) h, cell_of_row w g 1 _ _ (0, 0) h⟩
theorem ens_top {w : World} {base lo : Nat} {v : Value} {es : List En} (h : EsAt w base v es) (hl : es.length ≤ 1048576) : Ens w base w.heap.size v es := h.ens (by omega)
theorem es_slice {w : World} {base : Nat} {v : Value} {es : List En} (h : EsAt w base v es) : ∃ A c, v = .slice A es.length c := by
  rcases h.form with ⟨h1, h2⟩ | ⟨g, c, h1, _⟩
  · exact ⟨none, 0, by rw [h1, h2]; rfl⟩
  · exact ⟨_, c, h1⟩
theorem es_keep {w w' : World} {base : Nat} {v : Value} {es : List En} (h : EsAt w base v es) (hk : ∀ g n c, v = .slice (some ⟨g, 0, none⟩) n c → base ≤ g → g < w.heap.size → w'.heap[g]? = w.heap[g]?) : EsAt w' base v es := by
  refine ⟨h.1, ?_⟩
  rcases h.2 with hn | ⟨g', cap, cur, h1, hbs, hgg, rest⟩
  · exact .inl hn
  · exact .inr ⟨g', cap, cur, h1, hbs, by rw [hk g' _ _ h1 hbs (Array.getElem?_eq_some_iff.1 hgg).1]; exact hgg, rest⟩
theorem es_top {w : World} {base : Nat} {v : Value} {es : List En} (h : EsAt w base v es) : ∀ g n c, v = .slice (some ⟨g, 0, none⟩) n c → g < w.heap.size := fun g n c e => by
  rcases h.form with ⟨h1, h2⟩ | ⟨g', c', h1, _, h3, _⟩
  · rw [h1] at e; simp at e
  · rw [h1] at e
    simp only [Value.slice.injEq, Option.some.injEq, Addr.mk.injEq, and_true] at e
    rw [← e.1]; exact h3
set_option maxHeartbeats 12800000 in
theorem walk (v : Value) (t : Sg) (every : Int) (w : World) (hv : SegAt w 0 w.heap.size v t) (hf : FineS t) :
    Calls Try.prog 5 #[v, .int .i64 every] w fun e w' => e = .returned (.bool true) ∧ Below w.heap.size w w' := by
  have HV := Seg.hid hv
  obtain ⟨rv, rfl, H, ⟨hn, A, c, rfl, hx1⟩, hx2⟩ := hv
  have HF := Seg.hid hf
  clear hf hx1 hx2
  obtain ⟨R, hR⟩ : ∃ R, ans every t.bats = R := ⟨_, rfl⟩
  have hRl : R.length ≤ t.bats.length := by rw [← hR]; exact IdN.ans_len every t.bats
  have CS : Hid (∀ v w lo b, SegAt w lo b v t → b ≤ w.heap.size → FewS t → Calls Try.prog 14 #[v, .int .i64 every] w fun e w' => ∃ u, e = .returned u ∧ EsAt w' (w.heap.size + 1) u R ∧ Below w.heap.size w w') := by
    intro v w lo b h1 h2 h3
    have := IdS.spec_any every v t w lo b h1 h2 h3
    rw [hR] at this; exact this
  have CI : Hid (∀ v w lo b, SegAt w lo b v t → b ≤ w.heap.size → FewS t → Calls Try.prog 16 #[v, .int .i64 every] w fun e w' => ∃ u, e = .returned u ∧ EsAt w' (w.heap.size + 1) u R ∧ Below w.heap.size w w') := by
    intro v w lo b h1 h2 h3
    have := IdI.impl_any every v t w lo b h1 h2 h3
    rw [hR] at this; exact this
  clear hR
  unfold segVal at HV ⊢
  go_enter Try.func5, Try.ntmps5
  go_wp2_with fail
  refine (SegW.szSegment_any _ t _ (w.alloc _) 0 w.heap.size (by omega) (by omega) (HV.out.below (below1 w _)) (by rw [hsz]; omega) HF.out).mono ?_
  rintro e w1 ⟨q, rfl, q1, q2, q3, b1⟩
  have B1 := Seg.hid (chain (below1 w _) b1)
  have T1 : Hid (w1.heap[w.heap.size]? = some (.cells (segArr t (.slice A t.bats.length c)) 37 (0, 0))) := (b1.block w.heap.size (by rw [hsz]; omega)).trans (heap_alloc_new _ _)
  clear b1
  by_cases hq : q < 0
  · go_wp2
    go_ret
    exact ⟨rfl, B1.out⟩
  have FW := Seg.hid (q3 (by omega))
  have hbl : t.bats.length ≤ 1048576 := FW.out.1
  have hRl2 : R.length ≤ 1048576 := by omega
  have s1 := B1.out.size
  have z1 : w.heap.size < w1.heap.size := (Array.getElem?_eq_some_iff.1 T1.out).1
  clear q3 hRl hbl
  go_wp2_with (refine wpList_load_row rfl 37 _ rfl w.heap.size rfl _ _ _ _ T1.out Try.underlying37 rfl infoS ?_)
  refine (SegW.toSegment_any _ t w1 0 w.heap.size (HV.out.below B1.out) s1 FW.out).mono ?_
  rintro e w2 ⟨v2, rfl, r2, b2⟩
  have R2 := Seg.hid r2
  have B2 := Seg.hid (chain B1.out b2)
  have T2 := Seg.hid ((b2.block w.heap.size z1).trans T1.out)
  have s2 := b2.size
  clear r2 b2
  go_wp2_with fail
  refine (CS.out _ w2 _ _ R2.out (Nat.le_refl _) FW.out).mono ?_
  rintro e w3 ⟨u3, rfl, o3, b3⟩
  have O3 := Seg.hid o3
  have B3 := Seg.hid (chain B2.out b3)
  have T3 := Seg.hid ((b3.block w.heap.size (by omega)).trans T2.out)
  have s3 := b3.size
  have PT := Seg.hid (es_top o3)
  obtain ⟨A3, c3, rfl⟩ := es_slice o3
  clear b3 o3
  go_wp2_with (refine wpList_load_row rfl 37 _ rfl w.heap.size rfl _ _ _ _ T3.out Try.underlying37 rfl infoS ?_)
  refine (toSegment_own _ t w3 0 w.heap.size (HV.out.below B3.out) (by omega) FW.out).mono ?_
  rintro e w4 ⟨rv4, rfl, ow4, b4⟩
  have W4 := Seg.hid ow4
  have BA4 : Hid (SegAt w4 w3.heap.size w4.heap.size (segVal t rv4) t) := ⟨_, rfl, bats_of ow4 (fun x hx => hx)⟩
  have B4 := Seg.hid (chain B3.out b4)
  have T4 := Seg.hid ((b4.block w.heap.size (by omega)).trans T3.out)
  have P4 := Seg.hid (O3.out.below b4 (Nat.le_refl _))
  have s4 := b4.size
  obtain ⟨A4, c4, rfl⟩ := LOwn.form ow4
  clear b4 ow4
  unfold segVal at BA4 ⊢
  go_wp2_with fail
  refine (CI.out _ (w4.alloc _) _ w4.heap.size (BA4.out.below (below1 w4 _)) (by rw [hsz]; omega) FW.out).mono ?_
  rintro e w5 ⟨u5, rfl, o5, b5⟩
  have b45 := chain (below1 w4 _) b5
  rw [hsz] at o5
  have O5 := Seg.hid o5
  have B5 := Seg.hid (chain B4.out b45)
  have T5 := Seg.hid ((b45.block w.heap.size (by omega)).trans T4.out)
  have X5 : Hid (w5.heap[w4.heap.size]? = some (.cells (segArr t (.slice A4 t.bats.length c4)) 43 (0, 0))) := (b5.block w4.heap.size (by rw [hsz]; omega)).trans (heap_alloc_new _ _)
  have R5 := Seg.hid (BA4.out.below b45)
  have W5 : Hid (OwnB w5 (seg w3.heap.size w4.heap.size) (.slice A4 t.bats.length c4) t.bats) := LOwn.keep keepsB W4.out b45.size (fun g hg => b45.block g hg.2)
  have P5 := Seg.hid (P4.out.below b45 (Nat.le_refl _))
  have s5 : w4.heap.size < w5.heap.size := (Array.getElem?_eq_some_iff.1 X5.out).1
  obtain ⟨A5, c5, rfl⟩ := es_slice o5
  clear b5 b45 o5
  go_wp2_with fail
  refine (eqEntryS_any _ _ R w5 _ _ w5.heap.size (O5.out.ens (by omega)) (P5.out.ens (by omega)) (Nat.le_refl _)).mono ?_
  rintro e w6 ⟨rfl, b6⟩
  have B6 := Seg.hid (chain B5.out b6)
  have T6 := Seg.hid ((b6.block w.heap.size (by omega)).trans T5.out)
  have X6 := Seg.hid ((b6.block w4.heap.size (by omega)).trans X5.out)
  have R6 := Seg.hid (R5.out.below (b6.mono (by omega)))
  have W6 : Hid (OwnB w6 (seg w3.heap.size w4.heap.size) (.slice A4 t.bats.length c4) t.bats) := LOwn.keep keepsB W5.out b6.size (fun g hg => b6.block g (by have := hg.2; omega))
  have O6 := Seg.hid (O5.out.below b6 (Nat.le_refl _))
  have P6 := Seg.hid (P5.out.below b6 (Nat.le_refl _))
  have s6 := b6.size
  clear b6
  go_wp2_with fail
  obtain ⟨c0, c1⟩ := two X6.out
  obtain ⟨d0, d1⟩ := two T6.out
  go_region_with (first | (go_at_call 15; refine (SegW.toSegment_any _ t w6.drew 0 w.heap.size (HV.out.below B6.out.drew) B6.out.size FW.out).mono ?_; rintro e w7 ⟨v7, rfl, r7, b7⟩; have R7 := Seg.hid r7; have BD7 : Hid (Below w6.heap.size w6 w7) := ⟨b7.os, b7.tape, b7.output, b7.size, b7.block⟩; have B7 : Hid (Below w.heap.size w w7) := chainD B6.out b7; have X7 : Hid (SegAt w7 w3.heap.size w7.heap.size (.agg (segArr t (.slice A4 t.bats.length c4))) t) := later R6.out b7 (by omega); obtain ⟨j0, j1⟩ := two ((b7.block w4.heap.size (by show _ < w6.heap.size; omega)).trans X6.out); clear b7 r7) | (go_at_call 18; refine (SegW.eqSegment_any _ _ t w7 _ _ w7.heap.size X7.out R7.out (Nat.le_refl _)).mono ?_; rintro e w8 ⟨rfl, b8⟩; have B8 := Seg.hid (chain B7.out b8); have BD8 : Hid (Below w6.heap.size w6 w8) := chain BD7.out b8; clear b8))
  all_goals
    have s8 := BD8.out.size
    have X8 := Seg.hid ((BD8.out.block w4.heap.size (by omega)).trans X6.out)
    have T8 := Seg.hid ((BD8.out.block w.heap.size (by omega)).trans T6.out)
    have W8 : Hid (OwnB w8 (seg w3.heap.size w4.heap.size) (.slice A4 t.bats.length c4) t.bats) := LOwn.keep keepsB W6.out s8 (fun g hg => BD8.out.block g (by have := hg.2; omega))
    have O8 := Seg.hid (O6.out.below BD8.out (Nat.le_refl _))
    have P8 := Seg.hid (P6.out.below BD8.out (Nat.le_refl _))
    clear c0 c1 d0 d1
    try clear j0 j1
    go_wp2_with (refine wpList_load_row rfl 43 _ rfl w4.heap.size rfl _ _ _ _ X8.out Try.underlying43 rfl infoN ?_)
    refine (IdN.markSegment_own t (.slice A4 t.bats.length c4) 1 (seg w3.heap.size w4.heap.size) w8 (by decide) (IdN.marks_few FW.out) W8.out (fun x hx => by have := hx.2; omega)).mono ?_
    rintro e w9 ⟨rfl, hM, hW⟩
    clear hM
    obtain ⟨K, hK⟩ : ∃ K, 1 + nL nB1 t.bats = K := ⟨_, rfl⟩
    rw [hK]
    clear hK
    have O9 : Hid (EsAt w9 _ _ R) := es_keep O8.out (fun g _ _ _ hg hg2 => hW.block g hg2 (fun e => by have := e.2; omega))
    have P9 : Hid (EsAt w9 _ _ R) := es_keep P8.out (fun g _ _ e hg hg2 => hW.block g hg2 (fun e' => by have := e'.1; have := PT.out g _ _ e; omega))
    have B9 : Hid (Below w.heap.size w w9) := B8.out.trans ((hW.toBelow (lo := w3.heap.size) (fun x hx => hx.1) (by omega)).mono (by omega))
    have T9 := Seg.hid ((hW.block w.heap.size (by omega) (fun e => by have := e.1; omega)).trans T8.out)
    have s9 := hW.size
    clear hW
    have hK0 : (0 : Int) ≤ (K : Int) := by omega
    have hkd : decide ((K : Int) < 0) = false := decide_eq_false (by omega)
    go_wp2_with fail
    refine (eqEntryS_any _ _ R w9 _ _ w9.heap.size (O9.out.ens (by omega)) (P9.out.ens (by omega)) (Nat.le_refl _)).mono ?_
    rintro e w10 ⟨rfl, b10⟩
    have B10 := Seg.hid (chain B9.out b10)
    have T10 := Seg.hid ((b10.block w.heap.size (by omega)).trans T9.out)
    have O10 := Seg.hid (O9.out.below b10 (Nat.le_refl _))
    have P10 := Seg.hid (P9.out.below b10 (Nat.le_refl _))
    have s10 := b10.size
    clear b10
    go_wp2_with fail
    refine (IdM.mark_any _ _ 1 R w10 hRl2 (by decide) O10.out).mono ?_
    rintro e w11 ⟨rfl, o11, b11⟩
    have M11 := Seg.hid o11
    have P11 : Hid (EsAt w11 _ _ R) := es_keep P10.out (fun g _ _ e hg hg2 => b11.block g (by have := PT.out g _ _ e; omega))
    have B11 := Seg.hid (B10.out.trans (b11.mono (by omega)))
    have T11 := Seg.hid ((b11.block w.heap.size (by omega)).trans T10.out)
    have s11 := b11.size
    clear o11 b11
    go_wp2_with fail
    refine (IdM.held_any _ _ 1 R.length w11 hRl2 (by decide) M11.out).mono ?_
    rintro e w11' ⟨rfl, rfl⟩
    go_wp2_with (refine wpList_load_row rfl 37 _ rfl w.heap.size rfl _ _ _ _ T11.out Try.underlying37 rfl infoS ?_)
    refine (SegW.toSegment_any _ t w11 0 w.heap.size (HV.out.below B11.out) B11.out.size FW.out).mono ?_
    rintro e w12 ⟨v12, rfl, r12, b12⟩
    have R12 := Seg.hid r12
    have B12 := Seg.hid (chain B11.out b12)
    have M12 := Seg.hid (M11.out.below b12 (Nat.le_refl _))
    have P12 := Seg.hid (P11.out.below b12 (Nat.le_refl _))
    clear r12 b12
    go_wp2_with fail
    refine (CI.out _ w12 _ _ R12.out (Nat.le_refl _) FW.out).mono ?_
    rintro e w13 ⟨u13, rfl, o13, b13⟩
    have O13 := Seg.hid o13
    have B13 := Seg.hid (chain B12.out b13)
    have M13 := Seg.hid (M12.out.below b13 (Nat.le_refl _))
    have P13 := Seg.hid (P12.out.below b13 (Nat.le_refl _))
    obtain ⟨A13, c13, rfl⟩ := es_slice o13
    clear o13 b13
    go_wp2_with fail
    refine (eqEntryS_any _ _ R w13 _ _ w13.heap.size (O13.out.ens (by omega)) (P13.out.ens (by omega)) (Nat.le_refl _)).mono ?_
    rintro e w14 ⟨rfl, b14⟩
    have B14 := Seg.hid (chain B13.out b14)
    have M14 := Seg.hid (M13.out.below b14 (Nat.le_refl _))
    clear b14
    go_wp2_with fail
    refine (IdM.held_any _ _ 1 R.length w14 hRl2 (by decide) M14.out).mono ?_
    rintro e w14' ⟨rfl, rfl⟩
    go_wp2_with fail
    go_ret
    exact ⟨rfl, B14.out⟩
end Go.Proofs.Ytbihajcikleccaa.ExIdx
namespace Go.Proofs.Ytbihajcikleccaa.OpenR
set_option maxRecDepth 8000
open Go.ChangeShapes Go.WideShapes Go.ChangeAt Go.RowKit Go.Deep
open Recs
set_option linter.unusedVariables false
section
variable {H : Type} {enc : TypeId × Value → H} {W : World} {sp : Nat → Bool} {held : Bool}
theorem cellsH : Try.prog.cellsOf 134 = 2 := by kernel_rfl
theorem cellsS : Try.prog.cellsOf 9 = 1 := by kernel_rfl

theorem open_heads {fuel : Nat} {cs : List Value} {x : DataW H × List MemPlace} (h : DataW.trod enc Try.prog W 0 sp held fuel 106 cs = some x) :
    ∃ (u : Value) (hs : List Hd), cs = [u] ∧ Heads W 0 W.heap.size u hs ∧ hs.length ≤ maxLen ∧ ∀ i, i < hs.length → FineH (hs.getD i default) := by
  rcases open_slice_pairs Try.underlying106 Try.underlying134 cellsH rfl rfl cellsS cellsS h with ⟨rfl, _⟩ | ⟨a, len, cap, m, n, V0, V1, D0, D1, P0, P1, rfl, _, hl, hm, hmm, _, hx⟩
  · exact ⟨_, [], rfl, ⟨by simp, none, 0, rfl, .inl rfl⟩, by simp, fun i hi => by simp at hi⟩
  have hlm : len ≤ m := by rw [hmm]; split <;> omega
  obtain ⟨f, hf⟩ := choose_lt (α := Hd) (n := len) (p := fun i q => V0 i = .string q.key ∧ V1 i = .string q.val ∧ q.key.size ≤ maxLen ∧ q.val.size ≤ maxLen) (fun i hi => by
    obtain ⟨_, _, t0, t1⟩ := hx i (by omega)
    obtain ⟨s0, e0, _, z0⟩ := DataW.trod_string Try.underlying9 t0
    obtain ⟨s1, e1, _, z1⟩ := DataW.trod_string Try.underlying9 t1
    exact ⟨⟨s0, s1⟩, by simpa using e0, by simpa using e1, z0, z1⟩)
  have hlen : ((List.range len).map f).length = len := by simp
  have hget : ∀ i, i < len → ((List.range len).map f).getD i default = f i := fun i hi => by simp [hi]
  refine ⟨_, (List.range len).map f, rfl, ⟨?_, some a, cap, by rw [hlen], ?_⟩, ?_, ?_⟩
  · rw [hlen]; unfold maxLen at hm; omega
  · by_cases hz : len = 0
    · left; rw [hlen]; exact hz
    · right
      obtain ⟨b, off, spot⟩ := a
      have hc := (hx 0 (by omega)).1
      have hspot : spot = none := by simpa [Addr.add] using World.cell?_spot hc
      subst hspot
      have hlt : b < W.heap.size := by have := World.block_lt_of_cell? W _ hc; simpa [Addr.add] using this
      refine ⟨b, off, rfl, hlt, by rw [hlen]; exact hl, ?_, Nat.zero_le _⟩
      rw [hlen]
      intro i hi j hj
      obtain ⟨c0, c1, _, _⟩ := hx i (by omega)
      obtain ⟨e0, e1, _, _⟩ := hf i hi
      rw [e0] at c0; rw [e1] at c1
      match j, hj with
      | 0, _ =>
        rw [show (⟨b, off, none⟩ : Addr).add (i * 2) = ⟨b, off + i * 2 + 0, none⟩ by simp [Addr.add]; try (intro h; omega)] at c0
        rw [c0]; simp [hdCells, hi]
      | 1, _ =>
        rw [show (⟨b, off, none⟩ : Addr).add (i * 2 + 1) = ⟨b, off + i * 2 + 1, none⟩ by simp [Addr.add]; try omega] at c1
        rw [c1]; simp [hdCells, hi]
  · rw [hlen]; omega
  · rw [hlen]
    intro i hi
    rw [hget i hi]
    exact ⟨(hf i hi).2.2.1, (hf i hi).2.2.2⟩
theorem array6 {cs : Array Value} (h : cs.size = 6) : ∃ a b c d e f, cs = #[a, b, c, d, e, f] := by
  obtain ⟨l⟩ := cs
  match l, h with
  | [a, b, c, d, e, f], _ => exact ⟨a, b, c, d, e, f, rfl⟩
theorem cellsI : Try.prog.cellsOf 3 = 1 := by kernel_rfl
theorem cellsB : Try.prog.cellsOf 4 = 1 := by kernel_rfl
theorem cellsHS : Try.prog.cellsOf 106 = 1 := by kernel_rfl
theorem cellsR : Try.prog.cellsOf 108 = 6 := by kernel_rfl

/-- A Record's six cells. -/
theorem open_rec_cells {fuel : Nat} {cs : List Value} {x : DataW H × List MemPlace} (h : DataW.trod enc Try.prog W 0 sp held fuel 108 cs = some x) :
    ∃ (r : Rec) (u : Value), cs = [.int .i64 r.time, .bool r.keyed, .string r.key, .bool r.gone, .string r.val, u] ∧ Heads W 0 W.heap.size u r.heads ∧ FineR r := by
  obtain ⟨xs, n, _, _, hl, hxl, hf⟩ := DataW.trod_struct Try.underlying108 h
  rw [cellsR] at hl
  match cs, hl with
  | [v0, v1, v2, v3, v4, v5], _ =>
  match xs, hxl with
  | [y0, y1, y2, y3, y4, y5], _ =>
    have g0 : DataW.trod enc Try.prog W 0 sp held n 3 [v0] = some y0 := by have := hf 0 _ rfl; simpa [cellsI] using this
    have g1 : DataW.trod enc Try.prog W 0 sp held n 4 [v1] = some y1 := by have := hf 1 _ rfl; simpa [cellsB] using this
    have g2 : DataW.trod enc Try.prog W 0 sp held n 9 [v2] = some y2 := by have := hf 2 _ rfl; simpa [cellsS] using this
    have g3 : DataW.trod enc Try.prog W 0 sp held n 4 [v3] = some y3 := by have := hf 3 _ rfl; simpa [cellsB] using this
    have g4 : DataW.trod enc Try.prog W 0 sp held n 9 [v4] = some y4 := by have := hf 4 _ rfl; simpa [cellsS] using this
    have g5 : DataW.trod enc Try.prog W 0 sp held n 106 [v5] = some y5 := by have := hf 5 _ rfl; simpa [cellsHS] using this
    obtain ⟨t, e0, _, _⟩ := DataW.trod_int Try.underlying3 g0
    obtain ⟨kd, e1, _⟩ := DataW.trod_bool Try.underlying4 g1
    obtain ⟨k, e2, _, z2⟩ := DataW.trod_string Try.underlying9 g2
    obtain ⟨gn, e3, _⟩ := DataW.trod_bool Try.underlying4 g3
    obtain ⟨v, e4, _, z4⟩ := DataW.trod_string Try.underlying9 g4
    obtain ⟨u, hs, e5, hh, hl5, hf5⟩ := open_heads g5
    simp only [List.cons.injEq, and_true] at e0 e1 e2 e3 e4 e5
    subst e0 e1 e2 e3 e4 e5
    exact ⟨⟨t, kd, k, gn, v, hs⟩, _, rfl, hh, z2, z4, hl5, hf5⟩

theorem open_rec {r0 : Reach} {b0 : Nat} {v : Value} {d : DataW H} {p : List MemPlace} (hv : Value.okWide Try.prog W r0 b0 108 v) (h : DataW.Trod enc Try.prog W 0 sp held 108 v d p) : ∃ r, RecAt W 0 W.heap.size v r ∧ FineR r := by
  obtain ⟨cs, rfl, hsz⟩ := okWide_struct Try.underlying108 hv
  rw [cellsR] at hsz
  obtain ⟨a, b, c, d, e, f, rfl⟩ := array6 hsz
  obtain ⟨fuel, hf⟩ := h
  obtain ⟨r, u, e0, hh, hfi⟩ := open_rec_cells hf
  simp only [Value.cells, List.cons.injEq, and_true] at e0
  obtain ⟨rfl, rfl, rfl, rfl, rfl, rfl⟩ := e0
  exact ⟨r, ⟨_, rfl, hh⟩, hfi⟩
end
end Go.Proofs.Ytbihajcikleccaa.OpenR
