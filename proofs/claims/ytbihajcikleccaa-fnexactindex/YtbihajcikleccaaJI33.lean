/- WriteBatch of the model, whatever the batch; Sizes of batches and Index of the model. -/
import Derived.Test.YtbihajcikleccaaJI32
import Derived.Test.YtbihajcikleccaaJI29
namespace Go.Proofs.Ytbihajcikleccaa.WrU
set_option maxRecDepth 8000
open Go.RowKit
open WrI (Wrote wrote_none ok_parts)
open WrP
open Recs
set_option linter.unusedVariables false

set_option maxHeartbeats 800000 in
theorem spec_no0 (v : Value) (t : Bat) (ver : Int) (w : World) (lo b : Nat) (hv : BatAt w lo b v t) (hb : b ≤ w.heap.size) (hok : BOk.batOk t = false) :
    Calls Try.prog 53 #[v, .int .i64 ver] w fun e w' => Wrote w w' t ver e := by
  have HV := Seg.hid hv
  obtain ⟨rv, rfl, hrs⟩ := hv
  obtain ⟨H, ⟨hn, A, c, rfl, hx1⟩, hx2⟩ := hrs
  have HK : Hid ((BOk.batOk t && holds t ver) = false) := by rw [hok]; rfl
  have OK := Seg.hid hok
  clear hx1 hx2 hok
  unfold batVal at HV ⊢
  go_enter Try.func53, Try.ntmps53
  go_wp2_with fail
  refine (BOk.spec_any _ t (w.alloc _) lo b (HV.out.below ((below1 w _).mono hb)) (by rw [hsz]; omega)).mono ?_
  rintro e w1 ⟨rfl, b1⟩
  rw [OK.out]
  have B1 := Seg.hid (chain (below1 w _) b1)
  clear b1
  go_wp2
  go_ret
  exact wrote_none HK.out B1.out _ rfl

set_option maxHeartbeats 800000 in
theorem spec_no1 (v : Value) (t : Bat) (ver : Int) (w : World) (lo b : Nat) (hv : BatAt w lo b v t) (hb : b ≤ w.heap.size) (hok : BOk.batOk t = true) (hver : (decide (1 ≤ ver) && decide (ver ≤ 2)) = false) :
    Calls Try.prog 53 #[v, .int .i64 ver] w fun e w' => Wrote w w' t ver e := by
  have HV := Seg.hid hv
  obtain ⟨rv, rfl, hrs⟩ := hv
  obtain ⟨H, ⟨hn, A, c, rfl, hx1⟩, hx2⟩ := hrs
  have HK : Hid ((BOk.batOk t && holds t ver) = false) := by
    show _ = _
    have h2 : ¬ ver = 2 := by rintro rfl; simp at hver
    have h1 : ¬ ver = 1 := by rintro rfl; simp at hver
    simp [holds, h1, h2]
  have OK := Seg.hid hok; have HVr := Seg.hid hver
  clear hx1 hx2 hok hver
  unfold batVal at HV ⊢
  go_enter Try.func53, Try.ntmps53
  go_wp2_with fail
  refine (BOk.spec_any _ t (w.alloc _) lo b (HV.out.below ((below1 w _).mono hb)) (by rw [hsz]; omega)).mono ?_
  rintro e w1 ⟨rfl, b1⟩
  rw [OK.out]
  have B1 := Seg.hid (chain (below1 w _) b1)
  clear b1
  go_wp2_with fail
  refine (ROk.l1In_b ver 1 2 false HVr.out w1).mono ?_
  rintro e w2 ⟨rfl, rfl⟩
  go_wp2
  go_ret
  exact wrote_none HK.out B1.out _ rfl

set_option maxHeartbeats 800000 in
theorem spec_no2 (v : Value) (t : Bat) (w : World) (lo b : Nat) (hv : BatAt w lo b v t) (hb : b ≤ w.heap.size) (hok : BOk.batOk t = true) (hp : 0 ≤ t.producer) :
    Calls Try.prog 53 #[v, .int .i64 1] w fun e w' => Wrote w w' t 1 e := by
  have HV := Seg.hid hv
  obtain ⟨rv, rfl, hrs⟩ := hv
  obtain ⟨H, ⟨hn, A, c, rfl, hx1⟩, hx2⟩ := hrs
  have HK : Hid ((BOk.batOk t && holds t 1) = false) := by
    show _ = _
    have h2 : ¬ t.producer = -1 := by omega
    simp [holds, h2]
  have OK := Seg.hid hok
  clear hx1 hx2 hok
  unfold batVal at HV ⊢
  go_enter Try.func53, Try.ntmps53
  go_wp2_with fail
  refine (BOk.spec_any _ t (w.alloc _) lo b (HV.out.below ((below1 w _).mono hb)) (by rw [hsz]; omega)).mono ?_
  rintro e w1 ⟨rfl, b1⟩
  rw [OK.out]
  have B1 := Seg.hid (chain (below1 w _) b1)
  have T1 : Hid (w1.heap[w.heap.size]? = some (.cells (BatW.batArr t (.slice A t.recs.length c)) 54 (0, 0))) := (b1.block w.heap.size (by rw [hsz]; omega)).trans (heap_alloc_new _ _)
  clear b1
  go_wp2_with fail
  refine (ROk.l1In_b 1 1 2 true (by decide) w1).mono ?_
  rintro e w2 ⟨rfl, rfl⟩
  obtain ⟨c0, c1, c2, c3, c4, c5, c6⟩ := BOk.seven T1.out
  go_wp2
  go_ret
  exact wrote_none HK.out B1.out _ rfl

set_option maxHeartbeats 1600000 in
theorem spec_no3 (v : Value) (t : Bat) (w : World) (lo b : Nat) (hv : BatAt w lo b v t) (hb : b ≤ w.heap.size) (hok : BOk.batOk t = true) (hp : t.producer = -1) (hhd : ¬ ∀ i, i < t.recs.length → (t.recs.getD i default).heads.length = 0) :
    Calls Try.prog 53 #[v, .int .i64 1] w fun e w' => Wrote w w' t 1 e := by
  have HV := Seg.hid hv
  obtain ⟨rv, rfl, hrs⟩ := hv
  obtain ⟨H, ⟨hn, A, c, rfl, hrow⟩, hh⟩ := hrs
  have HR := Seg.hid hrow; have HHd := Seg.hid hh
  have HK : Hid ((BOk.batOk t && holds t 1) = false) := by
    show _ = _
    rw [hok, Bool.true_and]
    cases hh1 : holds t 1 with
    | false => rfl
    | true => exact absurd (holds_heads hh1).2 hhd
  have OK := Seg.hid hok; have HN := Seg.hid hhd
  have hpn : ¬ 0 ≤ t.producer := by omega
  clear hrow hh hok hhd hp
  unfold batVal at HV ⊢
  go_enter Try.func53, Try.ntmps53
  go_wp2_with fail
  refine (BOk.spec_any _ t (w.alloc _) lo b (HV.out.below ((below1 w _).mono hb)) (by rw [hsz]; omega)).mono ?_
  rintro e w1 ⟨rfl, b1⟩
  rw [OK.out]
  have B1 := Seg.hid (chain (below1 w _) b1)
  have T1 : Hid (w1.heap[w.heap.size]? = some (.cells (BatW.batArr t (.slice A t.recs.length c)) 54 (0, 0))) := (b1.block w.heap.size (by rw [hsz]; omega)).trans (heap_alloc_new _ _)
  have z1 : w.heap.size < w1.heap.size := (Array.getElem?_eq_some_iff.1 T1.out).1
  clear b1
  go_wp2_with fail
  refine (ROk.l1In_b 1 1 2 true (by decide) w1).mono ?_
  rintro e w2 ⟨rfl, rfl⟩
  obtain ⟨c0, c1, c2, c3, c4, c5, c6⟩ := BOk.seven T1.out
  go_wp2_with fail
  go_loop [5] (fun i => ∃ k : Nat, i = .int .i64 k ∧ k ≤ t.recs.length ∧ Hid (∀ i, i < k → (t.recs.getD i default).heads.length = 0)) (fun i => t.recs.length - (intOf i).toNat)
  case atStart => exact ⟨0, rfl, Nat.zero_le _, fun i hi => absurd hi (by omega)⟩
  case round =>
    obtain ⟨k, rfl, hle, HQ⟩ := hrel
    by_cases hlt : k < t.recs.length
    · obtain ⟨gr, o, rfl, hgr, hc, hcell, _⟩ := HR.out.resolve_left (by omega)
      obtain ⟨e0, e1, e2, e3, e4, e5⟩ := RecsW.six (RecsW.six' hcell B1.out (by omega)) k hlt
      obtain ⟨hnh, Ah, ch, hHe, _⟩ := HHd.out k hlt
      rw [hHe] at e5
      have h0 : (0 : Int) ≤ (k : Int) := by omega
      have h1 : (k : Int) < (t.recs.length : Int) := by omega
      clear hcell hHe
      have NX : Hid ((t.recs.getD k default).heads.length = 0 → ∀ i, i < k + 1 → (t.recs.getD i default).heads.length = 0) := fun hz i hi => by
        by_cases he : i = k
        · subst he; exact hz
        · exact HQ.out i (by omega)
      generalize t.recs.getD k default = r at *
      by_cases hz : r.heads.length = 0
      · have N1 := Seg.hid (NX.out hz)
        rw [hz] at e5
        clear hz
        go_wp2
        go_round
        case rel => exact ⟨k + 1, by go_num, by omega, N1.out⟩
        case measure => simp [intOf]; omega
      · have hz0 : (0 : Int) < (r.heads.length : Int) := by omega
        clear hz
        go_wp2
        go_ret
        exact wrote_none HK.out B1.out _ rfl
    · exact absurd (fun i hi => HQ.out i (by omega)) HN.out

theorem spec_any (v : Value) (t : Bat) (ver : Int) (w : World) (lo b : Nat) (hv : BatAt w lo b v t) (hb : b ≤ w.heap.size) :
    Calls Try.prog 53 #[v, .int .i64 ver] w fun e w' => Wrote w w' t ver e := by
  cases hok : BOk.batOk t with
  | false => exact spec_no0 v t ver w lo b hv hb hok
  | true =>
  cases hver : (decide (1 ≤ ver) && decide (ver ≤ 2)) with
  | false => exact spec_no1 v t ver w lo b hv hb hok hver
  | true =>
  have hv12 : ver = 1 ∨ ver = 2 := by
    simp only [Bool.and_eq_true, decide_eq_true_eq] at hver
    omega
  obtain ⟨p1, p2, p3, p4, p5, p6, p7, p8⟩ := ok_parts hok
  rcases hv12 with rfl | rfl
  · by_cases hp : 0 ≤ t.producer
    · exact spec_no2 v t w lo b hv hb hok hp
    have hp' : t.producer = -1 := by omega
    by_cases hhd : ∀ i, i < t.recs.length → (t.recs.getD i default).heads.length = 0
    · have hho : holds t 1 = true := by
        have : (t.recs.all fun r => decide (r.heads.length = 0)) = true := by
          rw [List.all_eq_true]
          intro x hx
          obtain ⟨i, hi, rfl⟩ := List.getElem_of_mem hx
          have := hhd i hi
          simpa [hi] using this
        unfold holds
        rw [this, hp']
        decide
      cases hodd : (t.flags % 2 == 1) with
      | true => exact spec_s1 v t w lo b hv hb hok hho hodd
      | false => exact spec_p1 v t w lo b hv hb hok hho hodd
    · exact spec_no3 v t w lo b hv hb hok hp' hhd
  · have hho : holds t 2 = true := by simp [holds]
    cases hodd : (t.flags % 2 == 1) with
    | true => exact spec_s2 v t w lo b hv hb hok hho hodd
    | false => exact spec_p2 v t w lo b hv hb hok hho hodd
end Go.Proofs.Ytbihajcikleccaa.WrU
namespace Go.Proofs.Ytbihajcikleccaa.IdS
set_option maxRecDepth 8000
open Go.RowKit
open Recs (hsz Row below1 below2 BatAt RecsAt batVal Bat Rec chain chainD)
open Bats SegW Ent IdP
open IdI (size_le infoE lit0 JI)
open InB (l1In_b)
set_option linter.unusedVariables false
def pick (every : Int) (bs : List Bat) : List En := if okAll bs then idx every 0 0 0 bs else []
theorem pick_yes {every : Int} {bs : List Bat} (h : okAll bs = true) : pick every bs = idx every 0 0 0 bs := by rw [pick, if_pos h]
theorem pick_no {every : Int} {bs : List Bat} (h : okAll bs = false) : pick every bs = [] := by rw [pick, h]; rfl
theorem size_any (v : Value) (t : Bat) (w : World) (lo b : Nat) (hv : BatAt w lo b v t) (hb : b ≤ w.heap.size) :
    Calls Try.prog 35 #[v] w fun e w' => e = .returned (.int .i64 (size t)) ∧ Below w.heap.size w w' := by
  have HV := Seg.hid hv
  obtain ⟨rv, rfl, H, ⟨hn, A, c, rfl, hx1⟩, hx2⟩ := hv
  clear hx1 hx2
  unfold batVal at HV ⊢
  go_enter Try.func35, Try.ntmps35
  go_wp2_with fail
  refine (WrU.spec_any _ t 2 (w.alloc _) lo b (HV.out.below ((below1 w _).mono hb)) (by rw [hsz]; omega)).mono ?_
  rintro e w1 ⟨g, cap, rfl, o1, b1⟩
  have B1 := Seg.hid (chain (below1 w _) b1)
  clear b1 o1
  go_wp2
  go_ret
  exact ⟨rfl, B1.out⟩
set_option maxHeartbeats 1600000 in
theorem spec_core (every s0 : Int) (g o c : Nat) (bs : List Bat) (H : Nat → Value) (w : World) (lo b : Nat) (hn : bs.length ≤ 1048576) (hc : bs.length ≤ c) (hg : g < w.heap.size) (hb : b ≤ w.heap.size) (hh : ∀ i, i < bs.length → RecsAt w lo b (H i) (bs.getD i default).recs)
    (ha : ∀ i, i < bs.length → ∀ j, j < 7 → w.cell? ⟨g, o + i * 7 + j, none⟩ = some (batsCells bs H i j)) (he : (decide (1 ≤ every) && decide (every ≤ 20000)) = true) :
    Calls Try.prog 14 #[.agg #[.int .i64 s0, .slice (some ⟨g, o, none⟩) bs.length c], .int .i64 every] w fun e w' => ∃ u, e = .returned u ∧ EsAt w' (w.heap.size + 1) u (pick every bs) ∧ Below w.heap.size w w' := by
  obtain ⟨i0, hi, hz0, hz1, hz2⟩ := info_parts infoE
  have HA := Seg.hid ha
  have HH := Seg.hid hh
  have HE := Seg.hid he
  clear ha hh he
  have hev : 1 ≤ every ∧ every ≤ 20000 := by
    have := HE.out
    simp only [Bool.and_eq_true, decide_eq_true_eq] at this
    exact this
  go_enter Try.func14, Try.ntmps14
  go_wp2_with fail
  refine (l1In_b every 1 20000 true HE.out _).mono ?_
  rintro _ _ ⟨rfl, rfl⟩
  obtain ⟨w2, hw2⟩ : ∃ w2, w2 = (w.alloc (.cells #[.int .i64 s0, .slice (some ⟨g, o, none⟩) bs.length c] 43)).alloc (.cells #[] 68) := ⟨_, rfl⟩
  have hs2 : w2.heap.size = w.heap.size + 2 := by rw [hw2, hsz, hsz]
  have T2 : Hid (∀ wr, Below (w.heap.size + 1) w2 wr → wr.heap[w.heap.size]? = some (.cells #[.int .i64 s0, .slice (some ⟨g, o, none⟩) bs.length c] 43 (0, 0))) := fun wr h => by
    rw [h.block _ (by omega), hw2, heap_alloc_old _ _ (by rw [hsz]; omega), heap_alloc_new]
  have B2 : Hid (Below w.heap.size w w2) := by rw [hw2]; exact below2 w _ _
  have E2 : Hid (EsAt w2 (w.heap.size + 1) (.slice (some ⟨w.heap.size + 1, 0, none⟩) 0 0) []) := by
    have := lit0 (w.alloc (.cells #[.int .i64 s0, .slice (some ⟨g, o, none⟩) bs.length c] 43)) (w.heap.size + 1) (by rw [hsz]; omega)
    rw [hsz] at this
    rw [hw2]
    exact this
  have BW := Seg.hid (fun (wr : World) (h : Below (w.heap.size + 1) w2 wr) => B2.out.trans (h.mono (by omega)))
  rw [← hw2]
  clear hw2
  go_wp2_with fail
  go_loopw [5, 6, 7, 8] (fun u at_ tm i wr => ∃ (k : Nat) (es : List En) (a t d : Int) (ul : Value), k ≤ bs.length ∧ u = ul ∧ at_ = .int .i64 a ∧ tm = .int .i64 t ∧ i = .int .i64 k ∧ 0 ≤ a ∧ a ≤ k * 100000 ∧ es.length ≤ k ∧ Hid (okAll bs = okAll (bs.drop k) ∧ (es = [] ∧ d ≤ a ∨ ∃ (es0 : List En) (e : En), es = es0 ++ [e] ∧ d = e.place + every ∧ 0 ≤ e.place ∧ e.place ≤ a)) ∧ Hid (idx every 0 0 0 bs = es ++ idx every a t d (bs.drop k) ∧ EsAt wr (w.heap.size + 1) ul es ∧ Below (w.heap.size + 1) w2 wr)) (fun _ _ _ i _ => bs.length - (intOf i).toNat)
  case atStart => exact ⟨0, [], 0, 0, 0, _, Nat.zero_le _, rfl, rfl, rfl, rfl, by omega, by omega, by simp, ⟨rfl, .inl ⟨rfl, by omega⟩⟩, rfl, E2.out, Below.refl _ _⟩
  case round =>
    obtain ⟨k, es, a, tm, d, ul, hk, rfl, rfl, rfl, rfl, ha0, ha1, hes, HO, HR⟩ := hrel
    have d1 : wr.cell? ⟨w.heap.size, 1, none⟩ = some (.slice (some ⟨g, o, none⟩) bs.length c) := cell_of_row wr w.heap.size 1 _ _ _ (T2.out wr HR.out.2.2)
    by_cases hlt : k < bs.length
    · obtain ⟨c0, c1, c2, c3, c4, c5, c6⟩ := Bats.six (Bats.six' HA.out (BW.out wr HR.out.2.2) hg) k hlt
      have RX := Seg.hid (HH.out k hlt)
      obtain ⟨A3, k3, e3⟩ : ∃ A3 k3, H k = .slice A3 (bs.getD k default).recs.length k3 := by
        obtain ⟨_, ⟨_, A', c', e, _⟩, _⟩ := RX.out
        exact ⟨A', c', e⟩
      have R1 := HR.out.1
      have R2 := HO.out.1
      rw [LgP.drop_at hlt] at R1 R2
      have RR := Seg.hid R1
      have RO := Seg.hid R2
      clear R1 R2
      rw [e3] at c6 RX
      have h0 : (0 : Int) ≤ (k : Int) := by omega
      have h1 : (k : Int) < (bs.length : Int) := by omega
      have hws := HR.out.2.2.size
      have EW := Seg.hid HR.out.2.1
      have DW := Seg.hid HR.out.2.2
      generalize bs.getD k default = t at *
      have DB := Seg.hid (DW.out.alloc (by omega) (.cells #[.int .i64 t.base, .int .i64 t.epoch, .int .i64 t.producer, .int .i64 t.turn, .int .i64 t.seq, .int .i64 t.flags, .slice A3 t.recs.length k3] 54))
      have RY := Seg.hid (RX.out.below ((BW.out _ DB.out).mono hb))
      have hqb : b ≤ wr.heap.size := by have := (BW.out _ DW.out).size; omega
      have EB := Seg.hid (EW.out.below ((Below.refl wr.heap.size wr).alloc (Nat.le_refl _) (.cells #[.int .i64 t.base, .int .i64 t.epoch, .int .i64 t.producer, .int .i64 t.turn, .int .i64 t.seq, .int .i64 t.flags, .slice A3 t.recs.length k3] 54)) (Nat.le_refl _))
      go_wp2_with fail
      refine (BOk.spec_any (batVal t (.slice A3 t.recs.length k3)) t _ lo b ⟨_, rfl, RY.out⟩ (by rw [hsz]; omega)).mono ?_
      rintro e5 w5 ⟨rfl, b5⟩
      have s5 := b5.size
      rw [hsz] at s5
      have T5 : Hid (w5.heap[wr.heap.size]? = some (.cells #[.int .i64 t.base, .int .i64 t.epoch, .int .i64 t.producer, .int .i64 t.turn, .int .i64 t.seq, .int .i64 t.flags, .slice A3 t.recs.length k3] 54 (0, 0))) := (b5.block _ (by rw [hsz]; omega)).trans (heap_alloc_new _ _)
      have D5 := Seg.hid (DB.out.trans (b5.mono (by rw [hsz]; omega)))
      have E5 := Seg.hid (EB.out.below b5 (Nat.le_refl _))
      clear b5 DB EB RY c0 c1 c2 c3 c4 c5 c6
      cases hok : BOk.batOk t with
      | false =>
        have EH : Hid (okAll bs = false) := by
          show okAll bs = false
          rw [RO.out]
          simp [okAll, hok]
        have EL := Seg.hid (lit0 w5 (w.heap.size + 1) (by omega))
        have DL := Seg.hid (D5.out.alloc (by omega) (.cells #[] 68))
        go_wp2
        go_ret
        exact ⟨_, rfl, by rw [pick_no EH.out]; exact EL.out, BW.out _ DL.out⟩
      | true =>
        have hsz9 := size_le hok
        have RP : Hid (okAll bs = okAll (bs.drop (k + 1))) := by
          show okAll bs = _
          rw [RO.out]
          simp [okAll, hok]
        go_upto_region 11 with fail
        rename_i Qi K2 a2 K1 a1 K0 a0
        have J : ∀ (x32 x33 x34 x35 x36 x37 x38 x39 x40 x41 x42 x43 x44 x45 x46 x47 x48 x49 x50 x51 x52 x53 x54 x55 uL : Value) (es' : List En) (d' : Int) (wq : World), Hid (JI every w w2 wr wq bs es' k a tm d' t uL (.cells #[.int .i64 t.base, .int .i64 t.epoch, .int .i64 t.producer, .int .i64 t.turn, .int .i64 t.seq, .int .i64 t.flags, .slice A3 t.recs.length k3] 54 (0, 0))) → Hid (es' = [] ∧ d' ≤ a + size t ∨ ∃ (es0 : List En) (e : En), es' = es0 ++ [e] ∧ d' = e.place + every ∧ 0 ≤ e.place ∧ e.place ≤ a + size t) → K1 ⟨List.toArray (.agg #[.int .i64 s0, .slice (some ⟨g, o, none⟩) bs.length c] :: .int .i64 every :: .pointer (some ⟨w.heap.size, 0, none⟩) :: undef :: u4 :: uL :: .int .i64 a :: .int .i64 tm :: .int .i64 (k : Int) :: .pointer (some ⟨wr.heap.size, 0, none⟩) :: u10 :: .slice (some ⟨w.heap.size + 1, 0, none⟩) 0 0 :: .int .i64 every :: .bool true :: .bool false :: undef :: .int .i64 (k : Int) :: .pointer (some ⟨w.heap.size, 1, none⟩) :: .slice (some ⟨g, o, none⟩) bs.length c :: .int .i64 (bs.length : Int) :: .bool true :: u21 :: u22 :: .pointer (some ⟨w.heap.size, 1, none⟩) :: .slice (some ⟨g, o, none⟩) bs.length c :: .int .i64 (k : Int) :: .pointer (some ⟨g, o + k * 7, none⟩) :: .agg #[.int .i64 t.base, .int .i64 t.epoch, .int .i64 t.producer, .int .i64 t.turn, .int .i64 t.seq, .int .i64 t.flags, .slice A3 t.recs.length k3] :: .agg #[.int .i64 t.base, .int .i64 t.epoch, .int .i64 t.producer, .int .i64 t.turn, .int .i64 t.seq, .int .i64 t.flags, .slice A3 t.recs.length k3] :: .bool true :: .bool false :: u31 :: x32 :: x33 :: x34 :: x35 :: x36 :: x37 :: x38 :: x39 :: x40 :: x41 :: x42 :: x43 :: x44 :: x45 :: x46 :: x47 :: x48 :: x49 :: x50 :: x51 :: x52 :: x53 :: x54 :: x55 :: u56 :: u57 :: u58 :: u59 :: u60 :: u61 :: u62 :: u63 :: u64 :: u65 :: u66 :: u67 :: u68 :: u69 :: u70 :: u71 :: u72 :: u73 :: u74 :: u75 :: u76 :: u77 :: u78 :: u79 :: u80 :: undef :: []), []⟩ wq := by
          clear a0 K0 EW D5 E5 T5 RR RO HO HR hi hz0 hz1 hz2
          intro x32 x33 x34 x35 x36 x37 x38 x39 x40 x41 x42 x43 x44 x45 x46 x47 x48 x49 x50 x51 x52 x53 x54 x55 uL es' d' wq HJ HJ2
          refine a1 _ _ ?_
          clear a1 K1
          have TH := Seg.hid HJ.out.blk
          have hq := HJ.out.lt
          have DJ := Seg.hid HJ.out.bel
          have RJ := Seg.hid (RX.out.below ((BW.out _ DJ.out).mono hb))
          have hbq : b ≤ wq.heap.size := by have := (BW.out _ DJ.out).size; omega
          go_wp2_with (first | (refine wpList_load_row rfl 54 _ rfl wr.heap.size rfl _ _ _ _ TH.out Try.underlying54 rfl BatW.info40 ?_))
          refine (size_any (batVal t (.slice A3 t.recs.length k3)) t _ lo b ⟨_, rfl, RJ.out⟩ hbq).mono ?_
          rintro e w6 ⟨rfl, b6⟩
          have T6 := (b6.block _ hq).trans TH.out
          have t6 : w6.cell? ⟨wr.heap.size, 6, none⟩ = some (.slice A3 t.recs.length k3) := cell_of_row w6 _ 6 _ _ (0, 0) T6
          have D6 := Seg.hid (DJ.out.trans (b6.mono (by omega)))
          have E6 := Seg.hid (HJ.out.own.below b6 (Nat.le_refl _))
          have EQ := Seg.hid HJ.out.eq
          have hle := HJ.out.le
          have s6 := b6.size
          clear b6 HJ TH T6 DJ RJ
          have hl := LgP.okLen hok
          obtain ⟨H3, ⟨_, A4, k4, e4, hx⟩, hhd⟩ := RX.out
          have HD3 := Seg.hid hhd
          clear hhd
          cases e4
          obtain ⟨g3, o3, rfl, hg3, hc3, hcell3, _⟩ := hx.resolve_left (by omega)
          have HC3 := Seg.hid hcell3
          clear hx hcell3
          go_wp2_with fail
          go_loopw [7, 10] (fun tv j wx => ∃ (m : Nat) (t' : Int), m ≤ t.recs.length ∧ tv = .int .i64 t' ∧ j = .int .i64 m ∧ Hid (tmax tm t.recs = tmax t' (t.recs.drop m)) ∧ wx = w6) (fun _ j _ => t.recs.length - (intOf j).toNat)
          case atStart => exact ⟨0, tm, Nat.zero_le _, rfl, rfl, rfl, rfl⟩
          case round =>
            obtain ⟨m, t', hm, rfl, rfl, HQ, rfl⟩ := hrel
            by_cases hm2 : m < t.recs.length
            · obtain ⟨c0, c1, c2, c3, c4, c5⟩ := RecsW.six (RecsW.six' HC3.out (BW.out _ D6.out) (by omega)) m hm2
              have Q1 := HQ.out
              rw [LgP.drop_at hm2] at Q1
              have QQ := Seg.hid Q1
              clear Q1
              have h2 : (0 : Int) ≤ (m : Int) := by omega
              have h3 : (m : Int) < (t.recs.length : Int) := by omega
              generalize t.recs.getD m default = r at *
              by_cases hgt : t' < r.time
              · have QN : Hid (tmax tm t.recs = tmax r.time (t.recs.drop (m + 1))) := by
                  show tmax tm t.recs = _
                  rw [QQ.out, tmax, if_pos hgt]
                go_wp2_with fail
                go_roundw
                case rel => exact ⟨m + 1, r.time, by omega, rfl, by go_num, QN, trivial⟩
                case measure => simp [intOf]; omega
              · have QN : Hid (tmax tm t.recs = tmax t' (t.recs.drop (m + 1))) := by
                  show tmax tm t.recs = _
                  rw [QQ.out, tmax, if_neg hgt]
                go_wp2_with fail
                go_roundw
                case rel => exact ⟨m + 1, t', by omega, rfl, by go_num, QN, trivial⟩
                case measure => simp [intOf]; omega
            · have : m = t.recs.length := by omega
              subst this
              have EF : Hid (idx every 0 0 0 bs = es' ++ idx every (a + size t) t' d' (bs.drop (k + 1))) := by
                show idx every 0 0 0 bs = _
                rw [EQ.out, HQ.out, List.drop_length]
                rfl
              go_wp2_with fail
              go_roundw
              case rel => exact ⟨k + 1, es', a + size t, t', d', uL, by omega, rfl, rfl, rfl, by go_num, by omega, by omega, hle, ⟨RP.out, HJ2.out⟩, EF.out, E6.out, D6.out⟩
              case measure => simp [intOf]; omega
        clear a1
        obtain ⟨Au, cu, hu⟩ : ∃ Au cu, u5 = .slice Au es.length cu := by
          rcases E5.out.form with ⟨h1, h2⟩ | ⟨g, c, h1, _⟩
          · exact ⟨none, 0, by rw [h1, h2]; rfl⟩
          · exact ⟨_, c, h1⟩
        subst hu
        have t0 : w5.cell? ⟨wr.heap.size, 0, none⟩ = some (.int .i64 t.base) := cell_of_row w5 _ 0 _ _ (0, 0) T5.out
        have HL := Seg.hid HO.out.2
        clear HO
        rcases HL.out with ⟨rfl, hd⟩ | ⟨es0, e, rfl, hde, hp0, hp1⟩
        · have EW' : Hid (EsAt wr (w.heap.size + 1) (.slice Au 0 cu) []) := EW.out
          unfold EsAt at E5 EW
          simp only [List.length_nil] at E5 EW ⊢
          go_wp2_with (at_builtin; (refine wpList_append_lies _ rfl (.tmp 48) (.tmp 54) 39 rfl (w.heap.size + 1) 68 i0 _ 3 24 Try.underlying39 hi hz0 hz1 hz2 rfl (by decide) (.slice Au 0 cu) 0 (ecells []) ?zqs ?zqo ⟨w5.heap.size, 0, none⟩ 1 1 [.int .i64 t.base, .int .i64 tm, .int .i64 a] ?zqx rfl ?zqn ?zq1 (by decide) ?zqb ?zqc ?zqd (w5.heap.size + 1) ?zqe ?_; (case zqs => rfl); (case zqo => exact World.ownsRow.alloc E5.out _); (case zqx => rfl); (case zqn => exact World.news_of_block (cs := #[.int .i64 t.base, .int .i64 tm, .int .i64 a]) (heap_alloc_new _ _)); (case zq1 => simp [Value.oneCell']); (case zqb => unfold maxLen; omega); (case zqc => omega); (case zqd => rw [hsz]; omega); (case zqe => rw [hsz]); intro g6 cap6 w6 hown6 gr6 hat6 hlt6))
          have NX : Hid (JI every w w2 wr w6 bs ([] ++ [⟨t.base, tm, a⟩]) k a tm (a + every) t (.slice (some ⟨g6, 0, none⟩) (0 + 1) cap6) (.cells #[.int .i64 t.base, .int .i64 t.epoch, .int .i64 t.producer, .int .i64 t.turn, .int .i64 t.seq, .int .i64 t.flags, .slice A3 t.recs.length k3] 54 (0, 0))) := by
            have hob : ∀ q, (Value.slice Au 0 cu).ownBlock = some q → w.heap.size + 1 ≤ q ∧ q < wr.heap.size := fun q hq => World.ownsRow.lt EW.out q hq
            have s6 := gr6.size
            rw [hsz] at s6
            refine ⟨?_, ?_, by simp, ?_, ?_, by omega⟩
            · rw [RR.out, idx, if_pos hd, if_pos hd, List.append_assoc]
            · unfold EsAt
              rw [ecells_app, List.length_append]
              exact hown6
            · exact (D5.out.alloc (by omega) _).grown gr6 (by rw [hsz]; omega) (fun q hq => (hob q hq).1)
            · rw [gr6.block _ (by rw [hsz]; omega) (fun e => by have := (hob _ e.symm).2; omega), heap_alloc_old _ _ (by omega)]
              exact T5.out
          clear hown6 gr6 hat6 hlt6
          exact J _ _ _ _ _ _ _ _ _ _ _ _ _ _ _ _ _ _ _ _ _ _ _ _ _ _ _ _ NX (.inr ⟨[], ⟨t.base, tm, a⟩, rfl, rfl, by omega, by show a ≤ _; omega⟩)
        · obtain ⟨gu, rfl⟩ : ∃ gu, Au = some ⟨gu, 0, none⟩ := by
            rcases E5.out.form with ⟨h1, h2⟩ | ⟨g, c, h1, _⟩
            · simp at h2
            · cases h1; exact ⟨g, rfl⟩
          have hle1 : (es0 ++ [e]).length = es0.length + 1 := by simp
          have cl : w5.cell? ⟨gu, es0.length * 3 + 2, none⟩ = some (.int .i64 e.place) := by
            have h' := E5.out
            unfold EsAt at h'
            rw [World.ownsRow.cellAt h' (es0.length * 3 + 2) (by rw [hle1]; omega)]
            rw [ecells_get (es0 ++ [e]) es0.length 2 (by rw [hle1]; omega) (by decide)]
            simp [enCells]
          rw [hle1] at E5 EW ⊢
          have E5' := Seg.hid E5.out
          unfold EsAt at E5 EW
          rw [hle1] at E5 EW hes
          have hx1 : (0 : Int) ≤ (es0.length : Int) := by omega
          by_cases hd : d ≤ a
          · subst hde
            go_wp2_with (at_builtin; (refine wpList_append_lies _ rfl (.tmp 48) (.tmp 54) 39 rfl (w.heap.size + 1) 68 i0 _ 3 24 Try.underlying39 hi hz0 hz1 hz2 rfl (by decide) (.slice (some ⟨gu, 0, none⟩) (es0.length + 1) cu) (es0.length + 1) (ecells (es0 ++ [e])) ?zqs ?zqo ⟨w5.heap.size, 0, none⟩ 1 1 [.int .i64 t.base, .int .i64 tm, .int .i64 a] ?zqx rfl ?zqn ?zq1 (by decide) ?zqb ?zqc ?zqd (w5.heap.size + 1) ?zqe ?_; (case zqs => rfl); (case zqo => exact World.ownsRow.alloc E5.out _); (case zqx => rfl); (case zqn => exact World.news_of_block (cs := #[.int .i64 t.base, .int .i64 tm, .int .i64 a]) (heap_alloc_new _ _)); (case zq1 => simp [Value.oneCell']); (case zqb => unfold maxLen; omega); (case zqc => omega); (case zqd => rw [hsz]; omega); (case zqe => rw [hsz]); intro g6 cap6 w6 hown6 gr6 hat6 hlt6))
            have NX : Hid (JI every w w2 wr w6 bs ((es0 ++ [e]) ++ [⟨t.base, tm, a⟩]) k a tm (a + every) t (.slice (some ⟨g6, 0, none⟩) (es0.length + 1 + 1) cap6) (.cells #[.int .i64 t.base, .int .i64 t.epoch, .int .i64 t.producer, .int .i64 t.turn, .int .i64 t.seq, .int .i64 t.flags, .slice A3 t.recs.length k3] 54 (0, 0))) := by
              have hob : ∀ q, (Value.slice (some ⟨gu, 0, none⟩) (es0.length + 1) cu).ownBlock = some q → w.heap.size + 1 ≤ q ∧ q < wr.heap.size := fun q hq => World.ownsRow.lt EW.out q hq
              have s6 := gr6.size
              rw [hsz] at s6
              refine ⟨?_, ?_, by simp; omega, ?_, ?_, by omega⟩
              · rw [RR.out, idx, if_pos hd, if_pos hd]
                simp only [List.append_assoc]
              · unfold EsAt
                rw [ecells_app, List.length_append, hle1]
                exact hown6
              · exact (D5.out.alloc (by omega) _).grown gr6 (by rw [hsz]; omega) (fun q hq => (hob q hq).1)
              · rw [gr6.block _ (by rw [hsz]; omega) (fun e => by have := (hob _ e.symm).2; omega), heap_alloc_old _ _ (by omega)]
                exact T5.out
            clear hown6 gr6 hat6 hlt6
            exact J _ _ _ _ _ _ _ _ _ _ _ _ _ _ _ _ _ _ _ _ _ _ _ _ _ _ _ _ NX (.inr ⟨es0 ++ [e], ⟨t.base, tm, a⟩, rfl, rfl, by omega, by show a ≤ _; omega⟩)
          · have NX : Hid (JI every w w2 wr w5 bs (es0 ++ [e]) k a tm d t (.slice (some ⟨gu, 0, none⟩) (es0.length + 1) cu) (.cells #[.int .i64 t.base, .int .i64 t.epoch, .int .i64 t.producer, .int .i64 t.turn, .int .i64 t.seq, .int .i64 t.flags, .slice A3 t.recs.length k3] 54 (0, 0))) := by
              refine ⟨?_, E5'.out, by rw [hle1]; omega, D5.out, T5.out, by omega⟩
              rw [RR.out, idx, if_neg hd, if_neg hd]
              rfl
            have LX : Hid (es0 ++ [e] = [] ∧ d ≤ a + size t ∨ ∃ (es1 : List En) (e1 : En), es0 ++ [e] = es1 ++ [e1] ∧ d = e1.place + every ∧ 0 ≤ e1.place ∧ e1.place ≤ a + size t) := .inr ⟨es0, e, rfl, hde, hp0, by omega⟩
            subst hde
            go_wp2_with fail
            exact J _ _ _ _ _ _ _ _ _ _ _ _ _ _ _ _ _ _ _ _ _ _ _ _ _ _ _ _ NX LX
    · have : k = bs.length := by omega
      subst this
      have EH : Hid (okAll bs = true) := by
        show okAll bs = true
        rw [HO.out.1, List.drop_length]
        rfl
      have E : idx every 0 0 0 bs = es := by rw [HR.out.1, List.drop_length]; simp [idx]
      have EE := Seg.hid HR.out.2.1
      rw [← E] at EE
      go_wp2
      go_ret
      exact ⟨_, rfl, by rw [pick_yes EH.out]; exact EE.out, BW.out _ HR.out.2.2⟩
set_option maxHeartbeats 800000 in
theorem spec_no (every s0 : Int) (A : Option Addr) (n c : Nat) (w : World) (he : (decide (1 ≤ every) && decide (every ≤ 20000)) = false) :
    Calls Try.prog 14 #[.agg #[.int .i64 s0, .slice A n c], .int .i64 every] w fun e w' => ∃ u, e = .returned u ∧ EsAt w' (w.heap.size + 1) u [] ∧ Below w.heap.size w w' := by
  have HE := Seg.hid he
  clear he
  have E2 := Seg.hid (lit0 (w.alloc (.cells #[.int .i64 s0, .slice A n c] 43)) (w.heap.size + 1) (by rw [hsz]; omega))
  rw [hsz] at E2
  go_enter Try.func14, Try.ntmps14
  go_wp2_with fail
  refine (l1In_b every 1 20000 false HE.out _).mono ?_
  rintro _ _ ⟨rfl, rfl⟩
  go_wp2
  go_ret
  exact ⟨_, rfl, E2.out, below2 _ _ _⟩
set_option maxHeartbeats 800000 in
theorem spec_zero (every s0 : Int) (A : Option Addr) (c : Nat) (w : World) (he : (decide (1 ≤ every) && decide (every ≤ 20000)) = true) :
    Calls Try.prog 14 #[.agg #[.int .i64 s0, .slice A 0 c], .int .i64 every] w fun e w' => ∃ u, e = .returned u ∧ EsAt w' (w.heap.size + 1) u [] ∧ Below w.heap.size w w' := by
  have HE := Seg.hid he
  clear he
  have E2 := Seg.hid (lit0 (w.alloc (.cells #[.int .i64 s0, .slice A 0 c] 43)) (w.heap.size + 1) (by rw [hsz]; omega))
  rw [hsz] at E2
  go_enter Try.func14, Try.ntmps14
  go_wp2_with fail
  refine (l1In_b every 1 20000 true HE.out _).mono ?_
  rintro _ _ ⟨rfl, rfl⟩
  go_wp2_with fail
  go_loop [5, 6, 7, 8] (fun u a t i => u = .slice (some ⟨w.heap.size + 1, 0, none⟩) 0 0 ∧ a = .int .i64 0 ∧ t = .int .i64 0 ∧ i = .int .i64 0) (fun _ _ _ _ => 0)
  case atStart => exact ⟨rfl, rfl, rfl, rfl⟩
  case round =>
    obtain ⟨rfl, rfl, rfl, rfl⟩ := hrel
    go_wp2
    go_ret
    exact ⟨_, rfl, E2.out, below2 _ _ _⟩
theorem spec_any (every : Int) (v : Value) (s : Sg) (w : World) (lo b : Nat) (hv : SegAt w lo b v s) (hb : b ≤ w.heap.size) (hf : FewS s) :
    Calls Try.prog 14 #[v, .int .i64 every] w fun e w' => ∃ u, e = .returned u ∧ EsAt w' (w.heap.size + 1) u (ans every s.bats) ∧ Below w.heap.size w w' := by
  obtain ⟨rv, rfl, hs⟩ := hv
  obtain ⟨H, ⟨hn, A, c, rfl, h⟩, hh⟩ := hs
  unfold ans
  cases he : (decide (1 ≤ every) && decide (every ≤ 20000)) with
  | false => exact spec_no every s.base A s.bats.length c w he
  | true =>
  have hp : (if (true && okAll s.bats) = true then idx every 0 0 0 s.bats else []) = pick every s.bats := by rw [Bool.true_and]; rfl
  rw [hp]
  by_cases hz : s.bats.length = 0
  · have e : pick every s.bats = [] := by rw [List.length_eq_zero_iff.1 hz]; rfl
    rw [e, hz]
    exact spec_zero every s.base A c w he
  obtain ⟨g, o, rfl, hg, hc, hcell, _⟩ := h.resolve_left hz
  exact spec_core every s.base g o c s.bats H w lo b hf.1 hc (by omega) hb hh hcell he
end Go.Proofs.Ytbihajcikleccaa.IdS
