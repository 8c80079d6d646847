/- The walk of the law on WriteBatch out of the contracts; What the frame tells of a Record or a Batch that came in: as plain data that lie in memory. -/
import Derived.ProofKit
import Derived.Deep.SlicePairs
import Derived.Test.YtdnbcfochlfopaaRows
import Derived.Test.YtdnbcfochlfopaaJW26
import Derived.Test.YtdnbcfochlfopaaJW29
import Derived.Test.YtdnbcfochlfopaaJW30
import Derived.Test.YtdnbcfochlfopaaJW31
import Derived.Test.YtdnbcfochlfopaaJW04
namespace Go.Proofs.Ytdnbcfochlfopaa.ExWr
set_option maxRecDepth 8000
open Go.RowKit
open Recs
open Seg (B marks)
open SqP (Out)
open WrP (wr)
set_option linter.unusedVariables false
theorem later {w w' : World} {lo b : Nat} {v : Value} {t : Bat} (h : BatAt w lo b v t) (hb : Below w.drew.heap.size w.drew w') (hl : b ≤ w.heap.size) : BatAt w' lo w'.heap.size v t :=
  (h.keep fun g _ hg => hb.block g (Nat.lt_of_lt_of_le hg hl)).mono (Nat.le_refl _) (Nat.le_trans hl hb.size)
theorem info35 : (Try.prog.info? 43).map (·.size) = some 7 := by kernel_rfl
theorem seg_of {w : World} {base g cap : Nat} {l : List Int} (hl : l.length ≤ 140737488355328) (ho : Out w base g cap l) : Seg.Seg w (.slice (some ⟨g, 0, none⟩) l.length cap) l := Seg.Own.seg ⟨hl, g, cap, rfl, ho⟩
theorem wr_le (t : Bat) (ver : Int) : (wr t ver).length ≤ 100000 := by
  unfold wr
  split
  · rename_i h
    rw [Bool.and_eq_true] at h
    obtain ⟨p1, p2, p3, p4, p5, p6, p7, p8⟩ := WrI.ok_parts h.1
    obtain ⟨s1, s2, s3⟩ := WrI.bodyS_facts t ver p8 p7
    have h2 := WrU.numsB_le2 (WrP.headN ver t ((WrP.bodyS t ver).length : Int)) (WrU.nums_bound h.1 s2)
    have h3 : (WrP.headN ver t ((WrP.bodyS t ver).length : Int)).length ≤ 7 := by unfold WrP.headN; split <;> simp
    simp only [WrP.pre, WrP.four, List.length_append, List.length_cons, List.length_nil]
    omega
  · simp

theorem _root_.Go.Proofs.Ytdnbcfochlfopaa.WrI.out_of_block {w w' : World} {base g cap : Nat} {l : List Int} (ho : Out w base g cap l) (he : w'.heap[g]? = w.heap[g]?) : Out w' base g cap l := by
  refine ⟨ho.1, ?_⟩
  rcases ho.2 with hn | ⟨g', cap, cur, h1, hbs, hgg, rest⟩
  · exact .inl hn
  · refine .inr ⟨g', cap, cur, h1, hbs, ?_, rest⟩
    simp only [Value.slice.injEq, Option.some.injEq, Addr.mk.injEq, and_true, true_and] at h1
    obtain ⟨rfl, rfl⟩ := h1
    rw [he]; exact hgg
set_option maxHeartbeats 12800000 in
theorem walk (v : Value) (t : Bat) (ver : Int) (w : World) (hv : BatAt w 0 w.heap.size v t) (hf : FineB t) :
    Calls Try.prog 5 #[v, .int .i64 ver] w fun e w' => e = .returned (.bool true) ∧ Below w.heap.size w w' := by
  have HV := Seg.hid hv
  obtain ⟨rv, rfl, H, ⟨hn, A, c, rfl, hx1⟩, hx2⟩ := hv
  have HF := Seg.hid hf
  clear hf hx1 hx2
  obtain ⟨R, hR⟩ : ∃ R, wr t ver = R := ⟨_, rfl⟩
  have hRl : R.length ≤ 100000 := by rw [← hR]; exact wr_le t ver
  have CS : Hid (∀ v w lo b, BatAt w lo b v t → b ≤ w.heap.size → Calls Try.prog 11 #[v, .int .i64 ver] w fun e w' => ∃ g cap, e = .returned (.slice (some ⟨g, 0, none⟩) R.length cap) ∧ Out w' w.heap.size g cap R ∧ Below w.heap.size w w') := by
    intro v w lo b h1 h2
    have := WrU.spec_any v t ver w lo b h1 h2
    unfold WrI.Wrote at this
    rw [hR] at this; exact this
  have CI : Hid (∀ v w lo b, BatAt w lo b v t → b ≤ w.heap.size → Calls Try.prog 10 #[v, .int .i64 ver] w fun e w' => ∃ g cap, e = .returned (.slice (some ⟨g, 0, none⟩) R.length cap) ∧ Out w' w.heap.size g cap R ∧ Below w.heap.size w w') := by
    intro v w lo b h1 h2
    have := WrI.impl_any v t ver w lo b h1 h2
    unfold WrI.Wrote at this
    rw [hR] at this; exact this
  clear hR
  unfold batVal at HV ⊢
  go_enter Try.func5, Try.ntmps5
  go_wp2_with fail
  refine (BatW.szBatch_any _ t _ (w.alloc _) 0 w.heap.size (by omega) (by omega) (HV.out.below (below1 w _)) (by rw [hsz]; omega) HF.out).mono ?_
  rintro e w1 ⟨q, rfl, q1, q2, q3, b1⟩
  have B1 := Seg.hid (chain (below1 w _) b1)
  have T1 : Hid (w1.heap[w.heap.size]? = some (.cells (BatW.batArr t (.slice A t.recs.length c)) 43 (0, 0))) := (b1.block w.heap.size (by rw [hsz]; omega)).trans (heap_alloc_new _ _)
  clear b1
  by_cases hq : q < 0
  · go_wp2
    go_ret
    exact ⟨rfl, B1.out⟩
  have FW := Seg.hid (q3 (by omega))
  have s1 := B1.out.size
  have z1 : w.heap.size < w1.heap.size := (Array.getElem?_eq_some_iff.1 T1.out).1
  clear q3
  go_wp2_with (refine wpList_load_row rfl 43 _ rfl w.heap.size rfl _ _ _ _ T1.out Try.underlying43 rfl info35 ?_)
  refine (BatW.toBatch_any _ t w1 0 w.heap.size (HV.out.below B1.out) s1 FW.out).mono ?_
  rintro e w2 ⟨v2, rfl, r2, b2⟩
  have R2 := Seg.hid r2
  have B2 := Seg.hid (chain B1.out b2)
  have T2 := Seg.hid ((b2.block w.heap.size z1).trans T1.out)
  have s2 := b2.size
  clear r2 b2
  go_wp2_with fail
  refine (CS.out _ w2 _ _ R2.out (Nat.le_refl _)).mono ?_
  rintro e w3 ⟨g3, c3, rfl, o3, b3⟩
  have O3 := Seg.hid o3
  have B3 := Seg.hid (chain B2.out b3)
  have T3 := Seg.hid ((b3.block w.heap.size (by omega)).trans T2.out)
  have s3 := b3.size
  clear b3 o3
  go_wp2_with (refine wpList_load_row rfl 43 _ rfl w.heap.size rfl _ _ _ _ T3.out Try.underlying43 rfl info35 ?_)
  refine (ToO.toBatch_own _ t w3 0 w.heap.size (HV.out.below B3.out) (by omega) FW.out).mono ?_
  rintro e w4 ⟨rv4, rfl, r4, ow4, b4⟩
  have R4 := Seg.hid r4; have W4 := Seg.hid ow4
  have B4 := Seg.hid (chain B3.out b4)
  have T4 := Seg.hid ((b4.block w.heap.size (by omega)).trans T3.out)
  have P4 := Seg.hid (Seg.owns_below O3.out b4)
  have s4 := b4.size
  clear b4 ow4
  obtain ⟨H4, ⟨hn4, A4, c4, rfl, hx3⟩, hx4⟩ := r4
  clear hx3 hx4
  unfold batVal
  go_wp2_with fail
  have BA4 : Hid (BatAt w4 w3.heap.size w4.heap.size (.agg (BatW.batArr t (.slice A4 t.recs.length c4))) t) := ⟨_, rfl, R4.out⟩
  refine (CI.out _ (w4.alloc _) _ w4.heap.size (BA4.out.below (below1 w4 _)) (by rw [hsz]; omega)).mono ?_
  rintro e w5 ⟨g5, c5, rfl, o5, b5⟩
  have b45 := chain (below1 w4 _) b5
  have O5 := Seg.hid o5
  have B5 := Seg.hid (chain B4.out b45)
  have T5 := Seg.hid ((b45.block w.heap.size (by omega)).trans T4.out)
  have X5 : Hid (w5.heap[w4.heap.size]? = some (.cells (BatW.batArr t (.slice A4 t.recs.length c4)) 26 (0, 0))) := (b5.block w4.heap.size (by rw [hsz]; omega)).trans (heap_alloc_new _ _)
  have R5 := Seg.hid (BA4.out.below b45)
  have W5 := Seg.hid (W4.out.keep (fun g _ hg => b45.block g hg) b45.size)
  have P5 := Seg.hid (Seg.owns_below P4.out b45)
  have s5 : w4.heap.size < w5.heap.size := (Array.getElem?_eq_some_iff.1 X5.out).1
  have hg5 := (PuI.out_lt o5).1
  rw [hsz] at hg5
  clear b5 b45 o5
  go_wp2_with fail
  refine (Same.eq_any _ _ R R _ (seg_of (by omega) O5.out) (seg_of (by omega) P5.out)).mono ?_
  rintro e w5' ⟨rfl, d, rfl⟩
  simp only [decide_true]
  have B6 : Hid (Below w.heap.size w (w5.drewN d)) := below_drewN B5.out d
  have T6 : Hid ((w5.drewN d).heap[w.heap.size]? = some (.cells (BatW.batArr t (.slice A t.recs.length c)) 43 (0, 0))) := T5.out
  have X6 : Hid ((w5.drewN d).heap[w4.heap.size]? = some (.cells (BatW.batArr t (.slice A4 t.recs.length c4)) 26 (0, 0))) := X5.out
  have R6 : Hid (BatAt (w5.drewN d) w3.heap.size w4.heap.size (.agg (BatW.batArr t (.slice A4 t.recs.length c4))) t) := R5.out
  have W6 : Hid (ToO.ROwn (w5.drewN d) w3.heap.size w4.heap.size (.slice A4 t.recs.length c4) t.recs.length (fun i => (t.recs.getD i default).heads.length)) := W5.out.keep (fun _ _ _ => rfl) (Nat.le_refl _)
  have O6 : Hid (Out (w5.drewN d) (w4.alloc (.cells (BatW.batArr t (.slice A4 t.recs.length c4)) 26 (0, 0))).heap.size g5 c5 R) := O5.out
  have P6 : Hid (Out (w5.drewN d) w2.heap.size g3 c3 R) := P5.out
  have s6 : (w5.drewN d).heap.size = w5.heap.size := rfl
  obtain ⟨w6, hw6⟩ : ∃ x, w5.drewN d = x := ⟨_, rfl⟩
  rw [hw6] at B6 T6 X6 R6 W6 O6 P6 s6 ⊢
  clear hw6
  have hg3 := (PuI.out_lt O3.out)
  go_wp2_with fail
  obtain ⟨c0, c1, c2, c3', c4', c5', c6⟩ := BOk.seven X6.out
  obtain ⟨d0, d1, d2, d3, d4, d5, d6⟩ := BOk.seven T6.out
  go_region_with (first | (go_at_call 19; refine (BatW.toBatch_any _ t w6.drew 0 w.heap.size (HV.out.below B6.out.drew) B6.out.size FW.out).mono ?_; rintro e w7 ⟨v7, rfl, r7, b7⟩; have R7 := Seg.hid r7; have BD7 : Hid (Below w6.heap.size w6 w7) := ⟨b7.os, b7.tape, b7.output, b7.size, b7.block⟩; have B7 : Hid (Below w.heap.size w w7) := chainD B6.out b7; have X7 : Hid (BatAt w7 w3.heap.size w7.heap.size (.agg (BatW.batArr t (.slice A4 t.recs.length c4))) t) := later R6.out b7 (by omega); obtain ⟨j0, j1, j2, j3, j4, j5, j6⟩ := BOk.seven ((b7.block w4.heap.size (by show _ < w6.heap.size; omega)).trans X6.out); clear b7 r7) | (go_at_call 21; refine (BatW.eqBatch_any _ _ t w7 _ _ w7.heap.size X7.out R7.out (Nat.le_refl _)).mono ?_; rintro e w8 ⟨rfl, b8⟩; have B8 := Seg.hid (chain B7.out b8); have BD8 : Hid (Below w6.heap.size w6 w8) := chain BD7.out b8; clear b8))
  all_goals
    have s8 := BD8.out.size
    have X8 := Seg.hid ((BD8.out.block w4.heap.size (by omega)).trans X6.out)
    have T8 := Seg.hid ((BD8.out.block w.heap.size (by omega)).trans T6.out)
    have W8 := Seg.hid (W6.out.keep (fun g _ hg => BD8.out.block g (by omega)) s8)
    have O8 := Seg.hid (PuI.out_below O6.out BD8.out)
    have P8 := Seg.hid (PuI.out_below P6.out BD8.out)
    clear c0 c1 c2 c3' c4' c5' c6 d0 d1 d2 d3 d4 d5 d6
    try clear j0 j1 j2 j3 j4 j5 j6
    go_wp2_with (refine wpList_load_row rfl 26 _ rfl w4.heap.size rfl _ _ _ _ X8.out Try.underlying26 rfl BatW.info40 ?_)
    refine (Mk.markBatch_any t (.slice A4 t.recs.length c4) w3.heap.size w4.heap.size t.recs.length 1 _ w8 (by decide) (by decide) W8.out).mono ?_
    rintro e w9 ⟨rfl, hM, hW⟩
    clear hM
    obtain ⟨K, hK⟩ : ∃ K, Mk.kk 1 (fun i => if i < t.recs.length then (t.recs.getD i default).heads.length else 0) t.recs.length = K := ⟨_, rfl⟩
    rw [hK]
    clear hK
    have O9 : Hid (Out w9 _ g5 c5 R) := WrI.out_of_block O8.out (hW.block g5 (PuI.out_lt O8.out).2 (.inr (by omega)))
    have P9 : Hid (Out w9 _ g3 c3 R) := WrI.out_of_block P8.out (hW.block g3 (PuI.out_lt P8.out).2 (.inl (by omega)))
    have B9 : Hid (Below w.heap.size w w9) := B8.out.trans ((hW.toBelow (by omega)).mono (by omega))
    have T9 := Seg.hid ((hW.block w.heap.size (by omega) (.inl (by omega))).trans T8.out)
    have s9 := hW.size
    clear hW
    have hK0 : (0 : Int) ≤ (K : Int) := by omega
    have hkd : decide ((K : Int) < 0) = false := decide_eq_false (by omega)
    go_wp2_with fail
    refine (Same.eq_any _ _ R R _ (seg_of (by omega) O9.out) (seg_of (by omega) P9.out)).mono ?_
    rintro e w9' ⟨rfl, d9, rfl⟩
    simp only [decide_true]
    go_wp2_with fail
    refine (Same.mark_any _ g5 R.length c5 R 1 (w9.drewN d9) rfl (by omega) (by decide) (by decide) O9.out).mono ?_
    rintro e w10 ⟨rfl, o10, gr10⟩
    have M10 := Seg.hid o10
    have P10 := Seg.hid (World.ownsRow.kept (w := w9.drewN d9) P9.out gr10 (.inr (by simp [Value.ownBlock]; omega)))
    have B10 := Seg.hid ((below_drewN B9.out d9).grown gr10 B9.out.size (fun k hk => by cases hk; omega))
    have T10 := Seg.hid ((gr10.block w.heap.size (by show _ < w9.heap.size; omega) (by simp; omega)).trans T9.out)
    have s10 : w9.heap.size ≤ w10.heap.size := gr10.size
    clear o10 gr10
    go_wp2_with fail
    refine (Same.held_any _ g5 R.length c5 1 _ (by omega) (by decide) (by decide) M10.out).mono ?_
    rintro e w10' ⟨rfl, rfl⟩
    go_wp2_with (refine wpList_load_row rfl 43 _ rfl w.heap.size rfl _ _ _ _ T10.out Try.underlying43 rfl info35 ?_)
    refine (BatW.toBatch_any _ t w10 0 w.heap.size (HV.out.below B10.out) B10.out.size FW.out).mono ?_
    rintro e w11 ⟨v11, rfl, r11, b11⟩
    have R11 := Seg.hid r11
    have B11 := Seg.hid (chain B10.out b11)
    have M11 := Seg.hid (Seg.owns_below M10.out b11)
    have P11 := Seg.hid (Seg.owns_below P10.out b11)
    clear r11 b11
    go_wp2_with fail
    refine (CI.out _ w11 _ _ R11.out (Nat.le_refl _)).mono ?_
    rintro e w12 ⟨g12, c12, rfl, o12, b12⟩
    have O12 := Seg.hid o12
    have B12 := Seg.hid (chain B11.out b12)
    have M12 := Seg.hid (Seg.owns_below M11.out b12)
    have P12 := Seg.hid (Seg.owns_below P11.out b12)
    clear o12 b12
    go_wp2_with fail
    refine (Same.eq_any _ _ R R _ (seg_of (by omega) O12.out) (seg_of (by omega) P12.out)).mono ?_
    rintro e w12' ⟨rfl, d12, rfl⟩
    simp only [decide_true]
    go_wp2_with fail
    refine (Same.held_any _ g5 R.length c5 1 (w12.drewN d12) (by omega) (by decide) (by decide) M12.out).mono ?_
    rintro e w13 ⟨rfl, rfl⟩
    go_wp2_with fail
    go_ret
    exact ⟨rfl, below_drewN B12.out d12⟩
end Go.Proofs.Ytdnbcfochlfopaa.ExWr
namespace Go.Proofs.Ytdnbcfochlfopaa.OpenR
set_option maxRecDepth 8000
open Go.ChangeShapes Go.WideShapes Go.ChangeAt Go.RowKit Go.Deep
open Recs
set_option linter.unusedVariables false
section
variable {H : Type} {enc : TypeId × Value → H} {W : World} {sp : Nat → Bool} {held : Bool}
theorem cellsH : Try.prog.cellsOf 142 = 2 := by kernel_rfl
theorem cellsS : Try.prog.cellsOf 9 = 1 := by kernel_rfl

theorem open_heads {fuel : Nat} {cs : List Value} {x : DataW H × List MemPlace} (h : DataW.trod enc Try.prog W 0 sp held fuel 108 cs = some x) :
    ∃ (u : Value) (hs : List Hd), cs = [u] ∧ Heads W 0 W.heap.size u hs ∧ hs.length ≤ maxLen ∧ ∀ i, i < hs.length → FineH (hs.getD i default) := by
  rcases open_slice_pairs Try.underlying108 Try.underlying142 cellsH rfl rfl cellsS cellsS h with ⟨rfl, _⟩ | ⟨a, len, cap, m, n, V0, V1, D0, D1, P0, P1, rfl, _, hl, hm, hmm, _, hx⟩
  · exact ⟨_, [], rfl, ⟨by simp, none, 0, rfl, .inl rfl⟩, by simp, fun i hi => by simp at hi⟩
  have hlm : len ≤ m := by rw [hmm]; split <;> omega
  obtain ⟨f, hf⟩ := choose_lt (α := Hd) (n := len) (p := fun i q => V0 i = .string q.key ∧ V1 i = .string q.val ∧ q.key.size ≤ maxLen ∧ q.val.size ≤ maxLen) (fun i hi => by
    obtain ⟨_, _, t0, t1⟩ := hx i (by omega)
    obtain ⟨s0, e0, _, z0⟩ := DataW.trod_string Try.underlying9 t0
    obtain ⟨s1, e1, _, z1⟩ := DataW.trod_string Try.underlying9 t1
    exact ⟨⟨s0, s1⟩, by simpa using e0, by simpa using e1, z0, z1⟩)
  have hlen : ((List.range len).map f).length = len := by simp
  have hget : ∀ i, i < len → ((List.range len).map f).getD i default = f i := fun i hi => by simp [hi]
  refine ⟨_, (List.range len).map f, rfl, ⟨?_, some a, cap, by rw [hlen], ?_⟩, ?_, ?_⟩
  · rw [hlen]; unfold maxLen at hm; omega
  · by_cases hz : len = 0
    · left; rw [hlen]; exact hz
    · right
      obtain ⟨b, off, spot⟩ := a
      have hc := (hx 0 (by omega)).1
      have hspot : spot = none := by simpa [Addr.add] using World.cell?_spot hc
      subst hspot
      have hlt : b < W.heap.size := by have := World.block_lt_of_cell? W _ hc; simpa [Addr.add] using this
      refine ⟨b, off, rfl, hlt, by rw [hlen]; exact hl, ?_, Nat.zero_le _⟩
      rw [hlen]
      intro i hi j hj
      obtain ⟨c0, c1, _, _⟩ := hx i (by omega)
      obtain ⟨e0, e1, _, _⟩ := hf i hi
      rw [e0] at c0; rw [e1] at c1
      match j, hj with
      | 0, _ =>
        rw [show (⟨b, off, none⟩ : Addr).add (i * 2) = ⟨b, off + i * 2 + 0, none⟩ by simp [Addr.add]; try (intro h; omega)] at c0
        rw [c0]; simp [hdCells, hi]
      | 1, _ =>
        rw [show (⟨b, off, none⟩ : Addr).add (i * 2 + 1) = ⟨b, off + i * 2 + 1, none⟩ by simp [Addr.add]; try omega] at c1
        rw [c1]; simp [hdCells, hi]
  · rw [hlen]; omega
  · rw [hlen]
    intro i hi
    rw [hget i hi]
    exact ⟨(hf i hi).2.2.1, (hf i hi).2.2.2⟩
theorem array6 {cs : Array Value} (h : cs.size = 6) : ∃ a b c d e f, cs = #[a, b, c, d, e, f] := by
  obtain ⟨l⟩ := cs
  match l, h with
  | [a, b, c, d, e, f], _ => exact ⟨a, b, c, d, e, f, rfl⟩
theorem cellsI : Try.prog.cellsOf 3 = 1 := by kernel_rfl
theorem cellsB : Try.prog.cellsOf 4 = 1 := by kernel_rfl
theorem cellsHS : Try.prog.cellsOf 108 = 1 := by kernel_rfl
theorem cellsR : Try.prog.cellsOf 110 = 6 := by kernel_rfl

/-- A Record's six cells. -/
theorem open_rec_cells {fuel : Nat} {cs : List Value} {x : DataW H × List MemPlace} (h : DataW.trod enc Try.prog W 0 sp held fuel 110 cs = some x) :
    ∃ (r : Rec) (u : Value), cs = [.int .i64 r.time, .bool r.keyed, .string r.key, .bool r.gone, .string r.val, u] ∧ Heads W 0 W.heap.size u r.heads ∧ FineR r := by
  obtain ⟨xs, n, _, _, hl, hxl, hf⟩ := DataW.trod_struct Try.underlying110 h
  rw [cellsR] at hl
  match cs, hl with
  | [v0, v1, v2, v3, v4, v5], _ =>
  match xs, hxl with
  | [y0, y1, y2, y3, y4, y5], _ =>
    have g0 : DataW.trod enc Try.prog W 0 sp held n 3 [v0] = some y0 := by have := hf 0 _ rfl; simpa [cellsI] using this
    have g1 : DataW.trod enc Try.prog W 0 sp held n 4 [v1] = some y1 := by have := hf 1 _ rfl; simpa [cellsB] using this
    have g2 : DataW.trod enc Try.prog W 0 sp held n 9 [v2] = some y2 := by have := hf 2 _ rfl; simpa [cellsS] using this
    have g3 : DataW.trod enc Try.prog W 0 sp held n 4 [v3] = some y3 := by have := hf 3 _ rfl; simpa [cellsB] using this
    have g4 : DataW.trod enc Try.prog W 0 sp held n 9 [v4] = some y4 := by have := hf 4 _ rfl; simpa [cellsS] using this
    have g5 : DataW.trod enc Try.prog W 0 sp held n 108 [v5] = some y5 := by have := hf 5 _ rfl; simpa [cellsHS] using this
    obtain ⟨t, e0, _, _⟩ := DataW.trod_int Try.underlying3 g0
    obtain ⟨kd, e1, _⟩ := DataW.trod_bool Try.underlying4 g1
    obtain ⟨k, e2, _, z2⟩ := DataW.trod_string Try.underlying9 g2
    obtain ⟨gn, e3, _⟩ := DataW.trod_bool Try.underlying4 g3
    obtain ⟨v, e4, _, z4⟩ := DataW.trod_string Try.underlying9 g4
    obtain ⟨u, hs, e5, hh, hl5, hf5⟩ := open_heads g5
    simp only [List.cons.injEq, and_true] at e0 e1 e2 e3 e4 e5
    subst e0 e1 e2 e3 e4 e5
    exact ⟨⟨t, kd, k, gn, v, hs⟩, _, rfl, hh, z2, z4, hl5, hf5⟩

theorem open_rec {r0 : Reach} {b0 : Nat} {v : Value} {d : DataW H} {p : List MemPlace} (hv : Value.okWide Try.prog W r0 b0 110 v) (h : DataW.Trod enc Try.prog W 0 sp held 110 v d p) : ∃ r, RecAt W 0 W.heap.size v r ∧ FineR r := by
  obtain ⟨cs, rfl, hsz⟩ := okWide_struct Try.underlying110 hv
  rw [cellsR] at hsz
  obtain ⟨a, b, c, d, e, f, rfl⟩ := array6 hsz
  obtain ⟨fuel, hf⟩ := h
  obtain ⟨r, u, e0, hh, hfi⟩ := open_rec_cells hf
  simp only [Value.cells, List.cons.injEq, and_true] at e0
  obtain ⟨rfl, rfl, rfl, rfl, rfl, rfl⟩ := e0
  exact ⟨r, ⟨_, rfl, hh⟩, hfi⟩
end
end Go.Proofs.Ytdnbcfochlfopaa.OpenR
