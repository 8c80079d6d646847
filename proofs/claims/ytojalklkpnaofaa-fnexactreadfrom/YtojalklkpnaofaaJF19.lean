/- The model's OffsetAt; BatchOk of the program. -/
import Derived.BigQuiet
import Derived.Test.YtojalklkpnaofaaJF15
import Derived.Test.YtojalklkpnaofaaJF17
import Derived.Test.YtojalklkpnaofaaJF18
import Derived.Test.YtojalklkpnaofaaJF10
namespace Go.Proofs.Ytojalklkpnaofaa.Of
set_option maxRecDepth 8000
open Go.RowKit
open Recs
open Bats SegW Segs LogW BfP OfP
open LgP (logOk)
set_option linter.unusedVariables false
theorem at1 (w : World) (o : Obj) : (w.alloc o).heap[w.heap.size]? = some o := heap_alloc_new _ _
theorem four {w : World} {g ty : Nat} {t : Lg} {v : Value} (h : w.heap[g]? = some (.cells (logArr t v) ty (0, 0))) : w.cell? ⟨g, 0, none⟩ = some (.int .i64 t.start) ∧ w.cell? ⟨g, 1, none⟩ = some (.int .i64 t.next) ∧ w.cell? ⟨g, 2, none⟩ = some (.int .i64 t.roll) ∧ w.cell? ⟨g, 3, none⟩ = some v :=
  ⟨cell_of_row w g 0 _ _ (0, 0) h, cell_of_row w g 1 _ _ (0, 0) h, cell_of_row w g 2 _ _ (0, 0) h, cell_of_row w g 3 _ _ (0, 0) h⟩
theorem flat_count : ∀ ss : List Sg, (flatB ss).length = LgP.many ss
  | [] => rfl
  | s :: t => by simp only [flatB, List.length_append, flat_count t, LgP.many]
theorem okB_flat {ss : List Sg} {f e f' : Int} (h : LgP.segs f e ss = some f') : ∀ b ∈ flatB ss, BOk.batOk b = true := by
  have key : ∀ (ss : List Sg) (f e f' : Int), LgP.segs f e ss = some f' → ∀ b ∈ flatB ss, BOk.batOk b = true := by
    intro ss
    induction ss with
    | nil => intro f e f' _ b hb; simp [flatB] at hb
    | cons s t ih =>
      intro f e f' h b hb
      obtain ⟨h1, h2, f1, e1, h3, h4⟩ := SrP.segs_head h
      simp only [flatB, List.mem_append] at hb
      rcases hb with hb | hb
      · obtain ⟨k, hk, rfl⟩ := List.getElem_of_mem hb
        have := SrP.bats_ok _ _ _ _ _ h3 k hk
        rw [List.getD_eq_getElem?_getD, List.getElem?_eq_getElem hk] at this
        simpa using this
      · exact ih f1 e1 f' h4 b hb
  exact key ss f e f' h
theorem ok_all {l : Lg} (h : logOk l = true) : ∃ f, LgP.segs 0 0 l.segs = some f ∧ f ≤ l.next ∧ l.segs.length ≤ 60 ∧ 0 ≤ l.start ∧ l.start ≤ l.next ∧ l.next ≤ 1000000000 ∧ LgP.many l.segs ≤ 400 := by
  unfold LgP.logOk LgP.bounds LgP.counts LgP.stands at h
  simp only [Bool.and_eq_true, decide_eq_true_eq, LgP.inR] at h
  obtain ⟨⟨⟨a1, a2⟩, ⟨a3, a4⟩, a5⟩, ⟨a6, a7⟩, a8⟩ := h
  cases hs : LgP.segs 0 0 l.segs with
  | none => rw [hs] at a8; cases a8
  | some f =>
    rw [hs] at a8
    exact ⟨f, rfl, by simpa using a8, a6, a3, a4, a2, a7⟩
set_option maxHeartbeats 3200000 in
theorem offsetS_core (l : Lg) (x : Int) (A : Option Addr) (c : Nat) (w : World) (lo b : Nat) (hb : b ≤ w.heap.size) (hf : FewL l) (hw : ∀ i, i < l.segs.length → -9223372036854775808 ≤ (l.segs.getD i default).base ∧ (l.segs.getD i default).base ≤ 9223372036854775807) (hs : SegsAt w lo b (.slice A l.segs.length c) l.segs) :
    Calls Try.prog 6 #[logVal l (.slice A l.segs.length c), .int .i64 x] w fun e w' => e = .returned (.int .i64 (offs l x)) ∧ Below w.heap.size w w' := by
  have HV : Hid (LogAt w lo b (logVal l (.slice A l.segs.length c)) l) := ⟨_, rfl, hs⟩
  have HF := Seg.hid hf; have HWW := Seg.hid hw
  clear hs hf hw
  unfold logVal at HV ⊢
  go_enter Try.func6, Try.ntmps6
  go_wp2_with fail
  refine (LgS.spec_any _ l (w.alloc _) lo b (HV.out.below ((below1 w _).mono hb)) (by rw [hsz]; omega) HF.out HWW.out).mono ?_
  rintro e w1 ⟨rfl, b1⟩
  have B1 := Seg.hid (chain (below1 w _) b1)
  have T1 : Hid (w1.heap[w.heap.size]? = some (.cells (logArr l (.slice A l.segs.length c)) 29 (0, 0))) := (b1.block w.heap.size (by rw [hsz]; omega)).trans (at1 w _)
  have s1 := b1.size
  rw [hsz] at s1
  clear b1
  cases hok : logOk l with
  | false =>
    have HC : Hid (offs l x = -1) := by show _ = _; simp [offs, hok]
    clear hok
    go_wp2_with fail
    go_ret
    exact ⟨by rw [HC.out]; rfl, B1.out⟩
  | true =>
  have HC : Hid (offs l x = offAt l.start x (flatB l.segs)) := by show _ = _; simp [offs, hok]
  obtain ⟨f, k1, k2, k3, k4, k5, k6, k7⟩ := ok_all hok
  have OKB := Seg.hid (okB_flat k1)
  have FL : (flatB l.segs).length ≤ 400 := by rw [flat_count]; exact k7
  clear hok k1
  obtain ⟨c0, c1, c2, c3⟩ := four T1.out
  have hw1 : w.heap.size < w1.heap.size := by omega
  go_wp2_with fail
  refine (Ft.l3All_any _ l w1 lo b (HV.out.below (B1.out.mono hb)) (by omega) (by omega) (by omega)).mono ?_
  rintro e w2 ⟨v2, rfl, hbs, b2⟩
  have B2 := Seg.hid (chain B1.out b2)
  have T2 := Seg.hid ((b2.block w.heap.size (by omega)).trans T1.out)
  have s2 := b2.size
  generalize flatB l.segs = bs at *
  obtain ⟨H, ⟨_, A2, c2', rfl, hrow⟩, hh⟩ := hbs
  have HROW := Seg.hid hrow; have HH := Seg.hid hh
  clear hrow hh b2 c0 c1 c2 c3 T1 B1
  go_wp2_with fail
  go_loopw [6] (fun i wr => ∃ (j : Nat), j ≤ bs.length ∧ i = .int .i64 j ∧ Hid ((∀ y, y < j → hitB l.start x (bs.getD y default) = none) ∧ Below w2.heap.size w2 wr)) (fun i _ => bs.length - (intOf i).toNat)
  case atStart => exact ⟨0, Nat.zero_le _, rfl, fun y hy => absurd hy (by omega), Below.refl _ _⟩
  case round =>
    obtain ⟨j, hj, rfl, HW⟩ := hrel
    obtain ⟨wo, hwo⟩ : ∃ wo, wo = wr := ⟨wr, rfl⟩
    subst hwo
    by_cases hlt : j < bs.length
    · have h0 : (0 : Int) ≤ (j : Int) := by omega
      have h1 : (j : Int) < (bs.length : Int) := by omega
      obtain ⟨g, o, rfl, hg, hc, hcell, _⟩ := HROW.out.resolve_left (by omega)
      have E7 : Hid (∀ wx, Below w2.heap.size w2 wx → wx.cell? ⟨g, o + j * 7, none⟩ = some (.int .i64 (bs.getD j default).base) ∧ wx.cell? ⟨g, o + j * 7 + 6, none⟩ = some (H j) ∧ wx.cell? ⟨w.heap.size, 0, none⟩ = some (.int .i64 l.start)) := fun wx bx => by
        obtain ⟨e0, e1, e2, e3, e4, e5, e6⟩ := Bats.six (fun i hi q hq => by rw [bx.cell (p := ⟨g, o + i * 7 + q, none⟩) hg]; exact hcell i hi q hq) j hlt
        exact ⟨e0, e6, (bx.cell (p := ⟨w.heap.size, 0, none⟩) (by show w.heap.size < _; omega)).trans (four T2.out).1⟩
      have OKJ := LgP.okLen (OKB.out (bs.getD j default) (by rw [List.getD_eq_getElem?_getD, List.getElem?_eq_getElem hlt]; simp))
      have NXT : Hid (hitB l.start x (bs.getD j default) = none → ∀ y, y < j + 1 → hitB l.start x (bs.getD y default) = none) := fun hn y hy => by
        by_cases e : y = j
        · rw [e]; exact hn
        · exact HW.out.1 y (by omega)
      have STP : Hid (∀ v, hitB l.start x (bs.getD j default) = some v → offs l x = v) := fun v hv => by rw [HC.out]; exact off_at hlt HW.out.1 hv
      have BLO := Seg.hid HW.out.2
      obtain ⟨H2, ⟨_, Ah, ch, hHj, hrow2⟩, hh2⟩ := HH.out j hlt
      have HROW2 := Seg.hid hrow2
      rw [hHj] at E7
      clear hcell HW hHj hrow2 hh2
      generalize bs.getD j default = tj at *
      obtain ⟨e0, e6, _⟩ := E7.out wo BLO.out
      go_wp2_with fail
      clear e0 e6
      go_loopw [7] (fun i wk => ∃ (k : Nat), k ≤ tj.recs.length ∧ i = .int .i64 k ∧ Hid ((∀ y, y < k → qu l.start x tj y = false) ∧ Below w2.heap.size w2 wk)) (fun i _ => tj.recs.length - (intOf i).toNat)
      case atStart => exact ⟨0, Nat.zero_le _, rfl, fun y hy => absurd hy (by omega), BLO.out⟩
      case round =>
        obtain ⟨k, hk, rfl, HK⟩ := hrel
        obtain ⟨e0, e6, l0⟩ := E7.out wr HK.out.2
        by_cases hkl : k < tj.recs.length
        · have q0 : (0 : Int) ≤ (k : Int) := by omega
          have q1 : (k : Int) < (tj.recs.length : Int) := by omega
          obtain ⟨g2, o2, rfl, hg2, hc2, hcell2, _⟩ := HROW2.out.resolve_left (by omega)
          obtain ⟨r0, r1, r2, r3, r4, r5⟩ := RecsW.six (fun i hi q hq => by rw [HK.out.2.cell (p := ⟨g2, o2 + i * 6 + q, none⟩) hg2]; exact hcell2 i hi q hq) k hkl
          have NXK : Hid (qu l.start x tj k = false → ∀ y, y < k + 1 → qu l.start x tj y = false) := fun hn y hy => by
            by_cases e : y = k
            · rw [e]; exact hn
            · exact HK.out.1 y (by omega)
          have HIT : Hid (qu l.start x tj k = true → offs l x = tj.base + (k : Int)) := fun hq => STP.out _ (hit_some HK.out.1 hkl hq)
          have QK : Hid (qu l.start x tj k = (decide (l.start ≤ tj.base + (k : Int)) && decide (x ≤ (tj.recs.getD k default).time))) := rfl
          have BLK := Seg.hid HK.out.2
          clear hcell2 HK
          generalize tj.recs.getD k default = rk at *
          go_wp2_with fail
          have hk40 : (k : Int) ≤ 1000 := by omega
          have ht0 : 0 ≤ tj.base := OKJ.1
          have ht1 : tj.base ≤ 1000000000 := OKJ.2.1
          have BR : Hid (Below w.heap.size w wr) := chain B2.out BLK.out
          by_cases hA : l.start ≤ tj.base + (k : Int)
          · have hd : decide (l.start ≤ tj.base + (k : Int)) = true := decide_eq_true hA
            by_cases hB : x ≤ rk.time
            · have hd2 : decide (x ≤ rk.time) = true := decide_eq_true hB
              have HC2 : Hid (offs l x = tj.base + (k : Int)) := HIT.out (by rw [QK.out, hd, hd2]; rfl)
              go_quiet (fail)
              go_wp2_with fail
              go_ret
              exact ⟨by rw [HC2.out]; rfl, ⟨BR.out.os, BR.out.tape, BR.out.output, BR.out.size, BR.out.block⟩⟩
            · have hd2 : decide (x ≤ rk.time) = false := decide_eq_false hB
              have NK := Seg.hid (NXK.out (by rw [QK.out, hd, hd2]; rfl))
              go_quiet (fail)
              go_wp2_with fail
              go_roundw
              case rel => exact ⟨k + 1, by omega, by go_num, NK.out, ⟨BLK.out.os, BLK.out.tape, BLK.out.output, BLK.out.size, BLK.out.block⟩⟩
              case measure => simp [intOf]; omega
          · have hd : decide (l.start ≤ tj.base + (k : Int)) = false := decide_eq_false hA
            have NK := Seg.hid (NXK.out (by rw [QK.out, hd]; rfl))
            go_quiet (fail)
            go_wp2_with fail
            go_roundw
            case rel => exact ⟨k + 1, by omega, by go_num, NK.out, ⟨BLK.out.os, BLK.out.tape, BLK.out.output, BLK.out.size, BLK.out.block⟩⟩
            case measure => simp [intOf]; omega
        · have HN := Seg.hid (NXT.out (hit_none (fun y hy => HK.out.1 y (by omega))))
          have BLK := Seg.hid HK.out.2
          have q1 : ¬ (k : Int) < (tj.recs.length : Int) := by omega
          clear HK
          go_wp2_with fail
          go_roundw
          case rel => exact ⟨j + 1, by omega, by go_num, HN.out, BLK.out⟩
          case measure => simp [intOf]; omega
    · have HC2 : Hid (offs l x = -1) := by show _ = _; rw [HC.out]; exact off_none (fun i hi => HW.out.1 i (by omega))
      have BR : Hid (Below w.heap.size w wo) := chain B2.out HW.out.2
      have : j = bs.length := by omega
      clear HW
      subst this
      go_wp2_with fail
      go_ret
      exact ⟨by rw [HC2.out]; rfl, BR.out⟩
theorem offsetS_any (v : Value) (l : Lg) (x : Int) (w : World) (lo b : Nat) (hv : LogAt w lo b v l) (hb : b ≤ w.heap.size) (hf : FewL l) (hw : ∀ i, i < l.segs.length → -9223372036854775808 ≤ (l.segs.getD i default).base ∧ (l.segs.getD i default).base ≤ 9223372036854775807) :
    Calls Try.prog 6 #[v, .int .i64 x] w fun e w' => e = .returned (.int .i64 (offs l x)) ∧ Below w.heap.size w w' := by
  obtain ⟨sv, rfl, hs⟩ := hv
  obtain ⟨_, ⟨_, A, c, rfl, _⟩, _⟩ := id hs
  exact offsetS_core l x A c w lo b hb hf hw hs
end Go.Proofs.Ytojalklkpnaofaa.Of
namespace Go.Proofs.Ytojalklkpnaofaa.BOk
set_option maxRecDepth 8000
open Go.RowKit
open Recs
set_option linter.unusedVariables false

theorem seven {w : World} {g tp : Nat} {t : Bat} {hv : Value} (h : w.heap[g]? = some (.cells (BatW.batArr t hv) tp (0, 0))) : w.cell? ⟨g, 0, none⟩ = some (.int .i64 t.base) ∧ w.cell? ⟨g, 1, none⟩ = some (.int .i64 t.epoch) ∧ w.cell? ⟨g, 2, none⟩ = some (.int .i64 t.producer) ∧
    w.cell? ⟨g, 3, none⟩ = some (.int .i64 t.turn) ∧ w.cell? ⟨g, 4, none⟩ = some (.int .i64 t.seq) ∧ w.cell? ⟨g, 5, none⟩ = some (.int .i64 t.flags) ∧ w.cell? ⟨g, 6, none⟩ = some hv :=
  ⟨cell_of_row w g 0 _ tp (0, 0) h, cell_of_row w g 1 _ tp (0, 0) h, cell_of_row w g 2 _ tp (0, 0) h, cell_of_row w g 3 _ tp (0, 0) h, cell_of_row w g 4 _ tp (0, 0) h, cell_of_row w g 5 _ tp (0, 0) h, cell_of_row w g 6 _ tp (0, 0) h⟩
set_option maxHeartbeats 1600000 in
theorem impl_any (v : Value) (t : Bat) (w : World) (lo b : Nat) (hv : BatAt w lo b v t) (hb : b ≤ w.heap.size) :
    Calls Try.prog 39 #[v] w fun e w' => e = .returned (.bool (batOk t)) ∧ Below w.heap.size w w' := by
  rw [← same]
  obtain ⟨rv, rfl, hr⟩ := hv
  have HR := Seg.hid hr
  obtain ⟨H, ⟨hn, A, c, rfl, hcell⟩, hheads⟩ := hr
  have HC := Seg.hid hcell; have HH := Seg.hid hheads
  clear hcell hheads
  unfold batVal
  unfold batI
  go_enter Try.func39, Try.ntmps39
  go_wp2_with fail
  refine (records_any _ t.recs (w.alloc _) lo b (HR.out.below ((below1 w _).mono hb)) (by rw [hsz]; omega)).mono ?_
  rintro e w1 ⟨rfl, b1⟩
  have B1 := Seg.hid (chain (below1 w _) b1)
  have T1 : Hid (w1.heap[w.heap.size]? = some (.cells (BatW.batArr t (.slice A t.recs.length c)) 44 (0, 0))) := (b1.block w.heap.size (by rw [hsz]; omega)).trans (heap_alloc_new _ _)
  have z1 : w.heap.size < w1.heap.size := (Array.getElem?_eq_some_iff.1 T1.out).1
  clear b1
  generalize h1 : (inR (t.recs.length : Int) 1 40 && t.recs.all ROk.okR) = V1
  have RN : V1 = true → 1 ≤ (t.recs.length : Int) ∧ (t.recs.length : Int) ≤ 40 := fun h => by
    rw [h, Bool.and_eq_true] at h1
    simpa [inR] using h1.1
  cases V1 with
  | false =>
    have HV1 := Seg.hid h1
    clear h1
    clear RN
    go_wp2
    go_ret
    exact ⟨Seg.ret_bool (by rw [HV1.out]; simp), B1.out⟩
  | true =>
  have HV1 := Seg.hid h1
  clear h1
  have rn := RN rfl
  clear RN
  obtain ⟨c0, c1, c2, c3, c4, c5, c6⟩ := seven T1.out
  go_wp2_with fail
  clear c0 c1 c2 c3 c4 c5 c6
  refine (place_any t.base t.epoch t.producer t.turn t.seq t.flags A t.recs.length c w1 rn.2).mono ?_
  rintro e w2 ⟨rfl, b2⟩
  have B2 := Seg.hid (chain B1.out b2)
  have T2 := Seg.hid ((b2.block w.heap.size z1).trans T1.out)
  have z2 : w.heap.size < w2.heap.size := (Array.getElem?_eq_some_iff.1 T2.out).1
  clear b2
  generalize h2 : (inR t.base 0 (1000000001 - t.recs.length) && inR t.epoch 0 1000000) = V2
  cases V2 with
  | false =>
    have HV2 := Seg.hid h2
    clear h2
    go_wp2
    go_ret
    exact ⟨Seg.ret_bool (by rw [HV2.out]; simp), B2.out⟩
  | true =>
  have HV2 := Seg.hid h2
  clear h2
  obtain ⟨c0, c1, c2, c3, c4, c5, c6⟩ := seven T2.out
  go_wp2_with fail
  clear c0 c1 c2 c3 c4 c5 c6
  refine (producer_any t.base t.epoch t.producer t.turn t.seq t.flags A t.recs.length c w2 rn.2).mono ?_
  rintro e w3 ⟨rfl, b3⟩
  have B3 := Seg.hid (chain B2.out b3)
  have T3 := Seg.hid ((b3.block w.heap.size z2).trans T2.out)
  clear b3
  generalize h3 : prB t.producer t.turn t.seq t.recs.length = V3
  cases V3 with
  | false =>
    have HV3 := Seg.hid h3
    clear h3
    go_wp2
    go_ret
    exact ⟨Seg.ret_bool (by rw [HV3.out]; simp), B3.out⟩
  | true =>
  have HV3 := Seg.hid h3
  clear h3
  have HL : Hid (Lies w3 A t.recs.length c t.recs H lo b) := by
    obtain ⟨g, o, l1, l2, l3, l4, l5⟩ := HC.out.resolve_left (by omega)
    exact ⟨g, o, l1, Nat.lt_of_lt_of_le l2 (Nat.le_trans hb B3.out.size), l3, RecsW.six' l4 B3.out (by omega), fun i hi => (HH.out i hi).below (B3.out.mono hb), Nat.le_trans hb B3.out.size⟩
  obtain ⟨c0, c1, c2, c3, c4, c5, c6⟩ := seven T3.out
  go_wp2_with fail
  clear c0 c1 c2 c3 c4 c5 c6
  refine (flags_any t.base t.epoch t.producer t.turn t.seq t.flags A t.recs.length c t.recs H lo b w3 rn HL.out).mono ?_
  rintro e w4 ⟨rfl, b4⟩
  have B4 := Seg.hid (chain B3.out b4)
  clear b4
  go_wp2
  go_ret
  exact ⟨Seg.ret_bool (by rw [HV1.out, HV2.out, HV3.out]; simp), B4.out⟩
end Go.Proofs.Ytojalklkpnaofaa.BOk
