/- The model's Windows. -/
import Derived.Deep.RegionLaw
import Derived.BigQuiet
import Derived.WalkSmall
import Derived.Test.YtkohhcjpjloaaaaJW44
import Derived.Test.YtkohhcjpjloaaaaJW46
import Derived.Test.YtkohhcjpjloaaaaJW34
namespace Go.Proofs.Ytkohhcjpjloaaaa.WsS
set_option maxRecDepth 8000
open Go.RowKit
open Ls Lp QyP QsP QtP XqP RkP IrA SrP WnP WnI SnI WiI WoP WsP
open Recs (hsz below1 below2 chain)
set_option linter.unusedVariables false
set_option maxHeartbeats 25600000 in
theorem spec_any (x y : Value) (q : Qry) (ts : List Int) (w : World) (S : Nat → Prop) (hx : QryAt w S x q) (hv : IntsAt w S y ts) (hS : ∀ g, S g → g < w.heap.size) (hz : szQry q ≤ 1048576) (hf : ts.length ≤ 1048576) :
    Calls Try.prog 7 #[x, y] w fun e w' => ∃ v, e = .returned v ∧ (∃ B, w.heap.size ≤ B ∧ Ow.LGrow 29 1 Ow.EOI2 w' B v (winsW q ts)) ∧ Below w.heap.size w w' := by
  have HX := Seg.hid hx
  obtain ⟨A5, c5, A6, c6, A10, c10, rfl, hl5, hl6, hl10⟩ := qform hx
  have HV := Seg.hid hv
  obtain ⟨A0, c0, rfl⟩ := hv.form
  clear hv hx hl5 hl6 hl10
  have CQ : Hid (∀ wx, Below w.heap.size w wx → Calls Try.prog 20 #[.agg (qrow q A5 c5 A6 c6 A10 c10)] wx fun e w' => e = .returned (.bool (qOk q)) ∧ Below wx.heap.size wx w') := fun wx b => XqS.spec_any _ q wx S (HX.out.below b hS) (fun y hy => Nat.lt_of_lt_of_le (hS y hy) b.size) hz
  have CT : Hid (∀ wx, Below w.heap.size w wx → Calls Try.prog 21 #[.slice A0 ts.length c0] wx fun e w' => ∃ v, e = .returned v ∧ NRow w' wx.heap.size v (srt ts) ∧ Below wx.heap.size wx w') := fun wx b => SrS.sorted_any _ ts wx S (LAt.below keepsI HV.out b hS) (fun y hy => Nat.lt_of_lt_of_le (hS y hy) b.size) hf
  obtain ⟨W0, hW0⟩ : ∃ W0, w.alloc (.cells (qrow q A5 c5 A6 c6 A10 c10) 28 (0, 0)) = W0 := ⟨_, rfl⟩
  have N0 : Hid (Below w.heap.size w W0) := by show Below _ _ _; rw [← hW0]; exact below1 _ _
  obtain ⟨W1, hW1⟩ : ∃ W1, W0.alloc (.cells #[] 29 (0, 0)) = W1 := ⟨_, rfl⟩
  have N1 : Hid (Below w.heap.size w W1) := by show Below _ _ _; rw [← hW1]; exact chain N0.out (below1 _ _)
  have T1 : Hid (W1.heap[w.heap.size]? = some (.cells (qrow q A5 c5 A6 c6 A10 c10) 28 (0, 0))) := by
    show _ = _
    rw [← hW1, ← hW0]
    exact ((below1 _ _).block _ (by rw [hsz]; omega)).trans (heap_alloc_new _ _)
  have E1 : Hid (Ow.LGrow 29 1 Ow.EOI2 W1 W0.heap.size (.slice (some ⟨W0.heap.size, 0, none⟩) 0 0) ([] : List (List Int))) := by show Ow.LGrow _ _ _ _ _ _ _; rw [← hW1]; exact empty_i2 W0
  have s0 : W0.heap.size = w.heap.size + 1 := by rw [← hW0, hsz]
  have S0 := Seg.hid s0
  have HZ1 : Hid (W1.heap.size = W0.heap.size + 1) := by show _ = _; rw [← hW1, hsz]
  clear s0
  obtain ⟨RR, hRR⟩ : ∃ R, winsW q ts = R := ⟨_, rfl⟩
  rw [hRR]
  unfold winsW at hRR
  have HRR := Seg.hid hRR
  clear hRR
  have HQ : Hid (qOk q = true → winP q.win q.size q.every q.gps.length = true) := fun h => by
    unfold qOk at h
    simp only [Bool.and_eq_true] at h
    exact h.2.2.2.1
  go_enter Try.func7, Try.ntmps7
  go_upto_region 2 with fail
  try rw [hW0]
  try rw [hW1]
  obtain ⟨p0, p1, p2, p3, p4, p5, p6, p7, p8, p9, p10⟩ := qcells T1.out
  clear hW0 hW1
  cases k1 : qOk q with
  | false =>
    have RN : Hid (RR = []) := by show _ = _; rw [← HRR.out, k1]; rfl
    rw [k1] at CQ
    clear k1
    go_wp2_with (first | (go_at_call 20; refine (CQ.out _ N1.out).mono ?_; rintro e w2 ⟨rfl, b2⟩; have B2 := Seg.hid (chain N1.out b2); have T2 := Seg.hid ((b2.block _ (Array.getElem?_eq_some_iff.1 T1.out).1).trans T1.out); have E2 := Seg.hid (E1.out.below Ow.keepsOI2 b2); have Z2 := Seg.hid b2.size; obtain ⟨g0, g1, g2, g3, g4, g5, g6, g7, g8, g9, g10⟩ := qcells T2.out; clear b2))
    go_ret
    exact ⟨_, rfl, ⟨W0.heap.size, by have := S0.out; omega, by rw [RN.out]; exact E2.out⟩, B2.out⟩
  | true =>
  have WP := Seg.hid (HQ.out k1)
  rw [k1, Bool.true_and] at HRR
  rw [k1] at CQ
  clear k1 HQ
  by_cases k2 : 0 < q.gps.length
  case neg =>
    have b2 : ((q.gps.length : Int) == 0) = true := by rw [beq_iff_eq]; omega
    have RN : Hid (RR = []) := by show _ = _; rw [← HRR.out, decide_eq_false k2]; rfl
    clear k2
    go_wp2_with (first | (go_at_call 20; refine (CQ.out _ N1.out).mono ?_; rintro e w2 ⟨rfl, b2⟩; have B2 := Seg.hid (chain N1.out b2); have T2 := Seg.hid ((b2.block _ (Array.getElem?_eq_some_iff.1 T1.out).1).trans T1.out); have E2 := Seg.hid (E1.out.below Ow.keepsOI2 b2); have Z2 := Seg.hid b2.size; obtain ⟨g0, g1, g2, g3, g4, g5, g6, g7, g8, g9, g10⟩ := qcells T2.out; clear b2))
    go_ret
    exact ⟨_, rfl, ⟨W0.heap.size, by have := S0.out; omega, by rw [RN.out]; exact E2.out⟩, B2.out⟩
  have b2 : ((q.gps.length : Int) == 0) = false := by rw [beq_eq_false_iff_ne]; omega
  rw [decide_eq_true k2, Bool.true_and] at HRR
  clear k2
  by_cases k3 : ts.length ≤ 3000
  case neg =>
    have RN : Hid (RR = []) := by show _ = _; rw [← HRR.out]; unfold timesB; rw [decide_eq_false k3, Bool.and_false]; rfl
    have b3 : (3000 : Int) < (ts.length : Int) := by omega
    clear k3
    go_wp2_with (first | (go_at_call 20; refine (CQ.out _ N1.out).mono ?_; rintro e w2 ⟨rfl, b2⟩; have B2 := Seg.hid (chain N1.out b2); have T2 := Seg.hid ((b2.block _ (Array.getElem?_eq_some_iff.1 T1.out).1).trans T1.out); have E2 := Seg.hid (E1.out.below Ow.keepsOI2 b2); have Z2 := Seg.hid b2.size; obtain ⟨g0, g1, g2, g3, g4, g5, g6, g7, g8, g9, g10⟩ := qcells T2.out; clear b2))
    go_ret
    exact ⟨_, rfl, ⟨W0.heap.size, by have := S0.out; omega, by rw [RN.out]; exact E2.out⟩, B2.out⟩
  have b3 : ¬ (3000 : Int) < (ts.length : Int) := by omega
  have K3 := Seg.hid k3
  clear k3
  go_upto_region 5 with (first | (go_at_call 20; refine (CQ.out _ N1.out).mono ?_; rintro e w2 ⟨rfl, b2⟩; have B2 := Seg.hid (chain N1.out b2); have T2 := Seg.hid ((b2.block _ (Array.getElem?_eq_some_iff.1 T1.out).1).trans T1.out); have E2 := Seg.hid (E1.out.below Ow.keepsOI2 b2); have Z2 := Seg.hid b2.size; obtain ⟨g0, g1, g2, g3, g4, g5, g6, g7, g8, g9, g10⟩ := qcells T2.out; clear b2) | (go_at_call 21; refine (CT.out _ B2.out).mono ?_; rintro e w4 ⟨v4, rfl, h4, b4⟩; obtain ⟨A4, c4, rfl⟩ := row_form h4; have R4 := Seg.hid (row_weak (B' := W0.heap.size + 1) h4 (by have := Z2.out; have := HZ1.out; omega)); have B4 := Seg.hid (chain B2.out b4); have T4 := Seg.hid ((b4.block _ (Array.getElem?_eq_some_iff.1 T2.out).1).trans T2.out); have E4 := Seg.hid (E2.out.below Ow.keepsOI2 b4); clear h4 b4))
  clear b2 b3 CQ CT p0 p1 p2 p3 p4 p5 p6 p7 p8 p9 p10 g0 g1 g2 g3 g4 g5 g6 g7 g8 g9 g10
  have SL : Hid ((srt ts).length = ts.length) := srt_len ts
  obtain ⟨b2, hb2⟩ : ∃ b2, W0.heap.size = b2 := ⟨_, rfl⟩
  rw [hb2] at E4 R4 S0 HZ1 ⊢
  clear hb2 E1 E2 B2 T1 T2 N1 HZ1 Z2
  by_cases k4 : 0 < (srt ts).length
  · obtain ⟨gs, cs0, e4, hg1, hg2, hcell, hfz, hcap⟩ := NRow.open R4.out k4
    cases e4
    have EO := Seg.hid (ends_ok k4)
    obtain ⟨n, hn⟩ : ∃ n, (srt ts).length = n := ⟨_, rfl⟩
    obtain ⟨m, hm⟩ : ∃ m, n - 1 = m := ⟨_, rfl⟩
    have d0 := hcell 0 k4
    have d1 := hcell ((srt ts).length - 1) (by omega)
    have HC := Seg.hid hcell
    clear hcell
    rw [hn, hm] at d1 EO
    rw [hn] at hcap k4 SL ⊢
    obtain ⟨x0, hx0⟩ : ∃ x0, (srt ts).getD 0 0 = x0 := ⟨_, rfl⟩
    obtain ⟨x1, hx1⟩ : ∃ x1, (srt ts).getD m 0 = x1 := ⟨_, rfl⟩
    rw [hx0] at d0
    rw [hx1] at d1
    have EO2 : Hid (ts.all inT = (decide (0 ≤ x0) && decide (x1 ≤ 1000000000000))) := by show _ = _; rw [EO.out, ← hx0, ← hx1]; rfl
    have nl : (n : Int) ≤ 3000 := by have := SL.out; have := K3.out; omega
    have nz : (0 : Int) < (n : Int) := by omega
    have wm : IntKind.i64.wrap ((n : Int) - 1) = (m : Int) := by rw [IntKind.wrap_i64] <;> omega
    have m0 : (0 : Int) ≤ (m : Int) := by omega
    have m1 : (m : Int) < (n : Int) := by omega
    have HN := Seg.hid hn
    clear hn hm hx0 hx1 EO
    by_cases e0 : x0 < 0
    · have RN : Hid (RR = []) := by show _ = _; rw [← HRR.out]; unfold timesB; rw [EO2.out, decide_eq_false (by omega : ¬ 0 ≤ x0)]; rfl
      go_wp2
      go_ret
      exact ⟨_, rfl, ⟨b2, by have := S0.out; omega, by rw [RN.out]; exact E4.out⟩, B4.out⟩
    by_cases e1 : 1000000000000 < x1
    · have RN : Hid (RR = []) := by show _ = _; rw [← HRR.out]; unfold timesB; rw [EO2.out, decide_eq_false (by omega : ¬ x1 ≤ 1000000000000), Bool.and_false]; rfl
      go_wp2
      go_ret
      exact ⟨_, rfl, ⟨b2, by have := S0.out; omega, by rw [RN.out]; exact E4.out⟩, B4.out⟩
    have TK : Hid (ts.all inT = true) := by show _ = _; rw [EO2.out, decide_eq_true (by omega : 0 ≤ x0), decide_eq_true (by omega : x1 ≤ 1000000000000)]; rfl
    have TB : Hid (timesB ts = true) := by show _ = _; unfold timesB; rw [TK.out, decide_eq_true K3.out]; rfl
    have TS : Hid ((srt ts).all inT = true) := List.all_eq_true.2 fun y hy => List.all_eq_true.1 TK.out y ((srt_perm ts).mem_iff.1 hy)
    have CM : Hid (∀ j, j < n → 0 ≤ (srt ts).getD j default ∧ (srt ts).getD j default ≤ 1000000000000) := fun j hj => by
      rw [List.getD_eq_getElem?_getD, List.getElem?_eq_getElem (by rw [HN.out]; exact hj)]
      exact inT_iff (List.all_eq_true.1 TS.out _ (List.getElem_mem _))
    obtain ⟨i0, hi, hz0, hz1, hz2⟩ := info_parts infoI
    obtain ⟨i1, hj, hy0, hy1, hy2⟩ := info_parts infoW
    obtain ⟨w5, hw5⟩ : ∃ w5, w4.alloc (.cells #[] 3 (0, 0)) = w5 := ⟨_, rfl⟩
    have N5 : Hid (Below w4.heap.size w4 w5) := by show Below _ _ _; rw [← hw5]; exact below1 _ _
    have RE5 : Hid (NRow w5 w4.heap.size (.slice (some ⟨w4.heap.size, 0, none⟩) 0 0) []) := by show NRow _ _ _ _; rw [← hw5]; exact empty_row w4
    go_upto_region 8 with fail
    try rw [hw5]
    clear hw5
    have T5 := Seg.hid ((N5.out.block _ (Array.getElem?_eq_some_iff.1 T4.out).1).trans T4.out)
    have B5 : Hid (Below w.heap.size w w5) := chain B4.out N5.out
    have LT5 : Hid (b2 < w4.heap.size) := by
      have h1 := (row_lt R4.out gs rfl).1
      show _ < _
      omega
    have EO5 : Hid (w5.ownsRow b2 29 1 (.slice (some ⟨b2, 0, none⟩) 0 0) 0 []) := by
      obtain ⟨F, P, h1⟩ := E4.out
      exact Ow.own_keep (by simpa using h1.own) (fun y _ hy => N5.out.block y hy)
    have E5 : Hid (Ow.LGrow 29 1 Ow.EOI2 w5 b2 (.slice (some ⟨b2, 0, none⟩) 0 0) ([] : List (List Int))) := Ow.LGrow.empty EO5.out
    have s5 : b2 ≤ w5.heap.size := by have := N5.out.size; have := LT5.out; omega
    have QB : Hid (w.heap.size < b2) := by show _ < _; have := S0.out; omega
    have AP5 : Hid (Ap (some ⟨gs, 0, none⟩) w5 w5 (.slice (some ⟨b2, 0, none⟩) 0 0)) := ⟨Nat.le_refl _, fun y hy => by
      cases hy
      exact ⟨by have := N5.out.size; omega, rfl⟩, fun y hy e => by
      cases hy
      have h1 := (row_lt R4.out gs rfl).1
      have h2 : b2 = gs := by injection e
      omega⟩
    clear e0 e1 d1 wm m0 m1 nz
    by_cases o1 : q.win = 1
    · have RN : Hid (RR = winW q.size (cutS q.size q.size ts)) := by show _ = _; rw [← HRR.out, TB.out, if_pos rfl, if_pos o1]
      have SZ : 1 ≤ q.size ∧ q.size ≤ 1000000000000 := by
        have h := WP.out
        unfold winP at h
        rw [if_neg (by omega), if_pos (.inl o1)] at h
        simp only [Bool.and_eq_true] at h
        exact inR_true h.2.1
      have p7 : (q.win == 1) = true := by simpa using o1
      have p6 : (q.win == 0) = false := by simp; omega
      have p5 : (q.win == 3) = false := by simp; omega
      obtain ⟨sz1, sz2⟩ := SZ
      have z1 : (q.size == 0) = false := by simp; omega
      have z2 : ¬ q.size = 0 := by omega
      clear o1
      go_wp2
      go_loopw [5, 7, 8] (fun v v7 i wr => ∃ k : Nat, i = .int .i64 k ∧ v = .slice (some ⟨b2, 0, none⟩) 0 0 ∧ k ≤ n ∧ Hid (Hu w4.heap.size w5 wr q.size q.size (srt ts) k v7)) (fun _ _ i _ => n - (intOf i).toNat)
      case atStart => exact ⟨0, rfl, rfl, Nat.zero_le _, RE5.out, Below.refl _ _⟩
      case round =>
      obtain ⟨k, rfl, rfl, hk, HG⟩ := hrel
      by_cases hlt : k < n
      · have TG := Seg.hid ((HG.out.bel.block _ (by have := LT5.out; have := S0.out; omega)).trans T5.out)
        obtain ⟨r0, r1, r2, r3, r4, r5, r6, r7, r8, r9, r10⟩ := qcells TG.out
        have d0 : wr.cell? ⟨gs, k, none⟩ = some (.int .i64 ((srt ts).getD k 0)) := by
          rw [World.cell?_of_block (w := w5) (a := ⟨gs, k, none⟩) (HG.out.bel.block gs hg2), World.cell?_of_block (w := w4) (a := ⟨gs, k, none⟩) (N5.out.block gs hg2)]
          exact HC.out k (by rw [HN.out]; exact hlt)
        have h0 : (0 : Int) ≤ (k : Int) := by omega
        have h1 : (k : Int) < (n : Int) := by omega
        have NX := Seg.hid (sta_next q.size q.size (ts := srt ts) (k := k) (by rw [HN.out]; exact hlt))
        obtain ⟨p0', p1'⟩ := CM.out k hlt
        obtain ⟨x, hx⟩ : ∃ x, (srt ts).getD k default = x := ⟨_, rfl⟩
        have d0' : wr.cell? ⟨gs, k, none⟩ = some (.int .i64 x) := by rw [← hx]; exact d0
        rw [hx] at NX p0' p1'
        clear d0 hx r0 r1 r2 r3 r4 r5 r6 r10
        obtain ⟨v7, hv7⟩ : ∃ v7, v7 = u7 := ⟨_, rfl⟩
        rw [← hv7] at HG ⊢
        clear hv7
        obtain ⟨A7, c7, rfl⟩ := row_form HG.out.lie
        have HR := Seg.hid HG.out.lie
        have BR := Seg.hid HG.out.bel
        clear HG
        have s5 : w4.heap.size ≤ wr.heap.size := by have := BR.out.size; have := N5.out.size; omega
        have OWS : Hid (∀ ob, (wr.alloc ob).ownsRow w4.heap.size 3 1 (.slice A7 (staL q.size q.size ((srt ts).take k)).length c7) (staL q.size q.size ((srt ts).take k)).length ((staL q.size q.size ((srt ts).take k)).map (Value.int .i64))) := fun ob => HR.out.keep (below1 wr ob)
        have LK : Hid ((staL q.size q.size ((srt ts).take k)).length ≤ 63000) := by show _ ≤ _; have := sta_len q.size q.size ((srt ts).take k); rw [List.length_take] at this; omega
        have HO1 : Hid (hopL q.size q.size x = [x / q.size * q.size]) := by show _ = _; rw [hop_one p0' (by omega), WoP.start_eq]
        obtain ⟨s0, hs0⟩ : ∃ s0, x / q.size * q.size = s0 := ⟨_, rfl⟩
        have sb : 0 ≤ s0 ∧ s0 ≤ 1000000000000 := by
          have e := @WoP.start_eq q.size x
          have a1 := Int.emod_nonneg x (by omega : q.size ≠ 0)
          have a2 : 0 ≤ x / q.size * q.size := Int.mul_nonneg (Int.ediv_nonneg p0' (by omega)) (by omega)
          omega
        have td : Int.tdiv x q.size = x / q.size := Int.tdiv_eq_ediv_of_nonneg p0'
        have dq : 0 ≤ x / q.size ∧ x / q.size ≤ x := ⟨Int.ediv_nonneg p0' (by omega), Int.ediv_le_self _ p0'⟩
        have wq : IntKind.i64.wrap (x / q.size) = x / q.size := by rw [IntKind.wrap_i64]; omega
        rw [hs0] at HO1
        have ws : IntKind.i64.wrap (x / q.size * q.size) = s0 := by rw [hs0, IntKind.wrap_i64]; omega
        clear hs0
        go_upto_region 22 with fail
        go_region_law ((refine step_append_lies _ (by rfl) _ _ _ (by rfl) w4.heap.size 3 i0 _ 1 8 Try.underlying29 hi hz0 hz1 hz2 rfl (by decide) (.slice A7 (staL q.size q.size ((srt ts).take k)).length c7) (staL q.size q.size ((srt ts).take k)).length ((staL q.size q.size ((srt ts).take k)).map (Value.int .i64)) (by rfl) (OWS.out _) ⟨wr.heap.size, 0, none⟩ 1 1 [.int .i64 s0] (by rfl) (by rfl) (World.news_of_block (cs := #[.int .i64 s0]) (heap_alloc_new _ _)) (by simp [Value.oneCell']) (by decide) (by have := LK.out; unfold maxLen; omega) (by have := LK.out; omega) (by show _ ≤ (wr.alloc _).heap.size; rw [hsz]; omega) (wr.heap.size + 1) (hsz _ _) ?_; intro g9 cap9 w9 hown9 gr9' hat9 hlt9; have gr9 : (wr.alloc (.cells #[.int .i64 s0] 3 (0, 0))).grownBy w9 (Value.slice A7 (staL q.size q.size ((srt ts).take k)).length c7).ownBlock := ⟨gr9'.os, gr9'.tape, gr9'.output, gr9'.size, gr9'.block⟩; clear gr9'; have RN9 := Seg.hid (NRow.put hown9); have B9 : Hid (Below w4.heap.size w5 w9) := (BR.out.trans ((below1 wr _).mono (by omega))).grown gr9 (by rw [hsz]; omega) (fun y hy => (row_lt HR.out y hy).1); clear hown9 gr9 hat9 hlt9))
        all_goals (try go_wp2)
        all_goals (try go_roundw)
        all_goals first | (refine ⟨⟨k + 1, by go_num, rfl, hlt, by rw [NX.out, HO1.out]; exact RN9.out, B9.out⟩, ?_⟩; simp [intOf]; omega) | exact ⟨k + 1, by go_num, rfl, hlt, by rw [NX.out, HO1.out]; exact RN9.out, B9.out⟩ | (simp [intOf]; omega)
      · have hkl : k = n := by omega
        have BR := Seg.hid HG.out.bel
        have HR : Hid (NRow wr w4.heap.size u7 (staL q.size q.size (srt ts))) := by have := HG.out.lie; rw [hkl, ← HN.out, List.take_length] at this; exact this
        have z1 : ¬ (k : Int) < (n : Int) := by omega
        clear hkl HG
        have CB : Hid (∀ j, j < (srt (staL q.size q.size (srt ts))).length → 0 ≤ (srt (staL q.size q.size (srt ts))).getD j default ∧ (srt (staL q.size q.size (srt ts))).getD j default ≤ 1000000000000) := fun j hj => by
          rw [List.getD_eq_getElem?_getD, List.getElem?_eq_getElem hj]
          exact sta_mem (size := q.size) (every := q.size) (ts := srt ts) (by omega) TS.out ((srt_perm _).mem_iff.1 (List.getElem_mem hj))
        have FEW : Hid ((srt (staL q.size q.size (srt ts))).length ≤ 63000) := by show _ ≤ _; rw [srt_len]; have := sta_len q.size q.size (srt ts); have := HN.out; omega
        have RN2 : Hid (RR = winW q.size (Lib.compactUpTo (srt (staL q.size q.size (srt ts))).toArray (srt (staL q.size q.size (srt ts))).length)) := by show _ = _; rw [RN.out, cut_srt]; rfl
        obtain ⟨v7, hv7⟩ : ∃ v7, v7 = u7 := ⟨_, rfl⟩
        rw [← hv7] at HR ⊢
        clear hv7
        obtain ⟨A7, c7, rfl⟩ := row_form HR.out
        go_upto_region 29 with (go_at_call 21; refine (SrS.sorted_any _ (staL q.size q.size (srt ts)) wr (seg w4.heap.size wr.heap.size) (row_ints HR.out (by have := sta_len q.size q.size (srt ts); have := HN.out; omega)) (fun y hy => hy.2) (by have := sta_len q.size q.size (srt ts); have := HN.out; omega)).mono ?_; rintro e w8 ⟨v8, rfl, h8, b8⟩; obtain ⟨A8, c8, rfl⟩ := row_form h8; have R8 := Seg.hid h8; have B8 := Seg.hid b8; clear h8 b8)
        have s8 : b2 < wr.heap.size := by have := BR.out.size; have := LT5.out; have := N5.out.size; omega
        have T8 : Hid (w8.heap[w.heap.size]? = some (.cells (qrow q A5 c5 A6 c6 A10 c10) 28 (0, 0))) := (B8.out.block _ (by have := S0.out; omega)).trans ((BR.out.block _ (by have := LT5.out; have := S0.out; omega)).trans T5.out)
        have E8 : Hid (Ow.LGrow 29 1 Ow.EOI2 w8 b2 (.slice (some ⟨b2, 0, none⟩) 0 0) ([] : List (List Int))) := Ow.LGrow.empty (out_keep (out_keep EO5.out (BR.out.block b2 LT5.out)) (B8.out.block b2 s8))
        have BW8 : Hid (Below w.heap.size w w8) := chain (B5.out.trans (BR.out.mono (by have := LT5.out; have := S0.out; omega))) B8.out
        have AP8 : Hid (Ap A8 w8 w8 (.slice (some ⟨b2, 0, none⟩) 0 0)) := ⟨Nat.le_refl _, fun y hy => ⟨(row_lt R8.out y (by rw [hy]; rfl)).2, rfl⟩, fun y hy e => by
          have h1 := (row_lt R8.out y (by rw [hy]; rfl)).1
          have h2 : b2 = y := by injection e
          omega⟩
        have HC8 : Hid (∀ j, j < (srt (staL q.size q.size (srt ts))).length → ∃ y, A8 = some ⟨y, 0, none⟩ ∧ w8.cell? ⟨y, j, none⟩ = some (.int .i64 ((srt (staL q.size q.size (srt ts))).getD j default)) ∧ (srt (staL q.size q.size (srt ts))).length ≤ c8) := fun j hj => by
          obtain ⟨y, cap, e1, e2, e3, e4, e5, e6⟩ := NRow.open R8.out (by omega)
          cases e1
          exact ⟨y, rfl, e4 j hj, e6⟩
        have wb : w.heap.size < b2 := by have := S0.out; omega
        have s9 : b2 ≤ w8.heap.size := by have := B8.out.size; omega
        clear HR BR R8 B8 s8
        generalize srt (staL q.size q.size (srt ts)) = cs at *
        go_wp2
        go_loopw [5, 12] (fun v i wr => ∃ k : Nat, i = .int .i64 k ∧ k ≤ cs.length ∧ Hid (Ht b2 A8 w8 wr (winW q.size (Lib.compactUpTo cs.toArray k)) k v)) (fun _ i _ => cs.length - (intOf i).toNat)
        case atStart => exact ⟨0, rfl, Nat.zero_le _, Ht.start E8.out AP8.out⟩
        case round =>
        clear E8 AP8
        obtain ⟨k, rfl, hk, HG⟩ := hrel
        by_cases hlt : k < cs.length
        · have TG := Seg.hid ((HG.out.bel.block _ wb).trans T8.out)
          obtain ⟨r0, r1, r2, r3, r4, r5, r6, r7, r8, r9, r10⟩ := qcells TG.out
          obtain ⟨gc, rfl, hcell, hcap⟩ := HC8.out k hlt
          obtain ⟨p0, p1⟩ := CB.out k hlt
          have d0 : wr.cell? ⟨gc, k, none⟩ = some (.int .i64 (cs.getD k default)) := by
            rw [World.cell?_of_block (w := w8) (a := ⟨gc, k, none⟩) (HG.out.ap.row gc rfl).2]
            exact hcell
          have UP := Seg.hid (win_up q.size cs k hlt)
          have d1 : Hid (∀ m, m < cs.length → wr.cell? ⟨gc, m, none⟩ = some (.int .i64 (cs.getD m default))) := fun m hm => by
            obtain ⟨gc', e, hcell', -⟩ := HC8.out m hm
            cases e
            rw [World.cell?_of_block (w := w8) (a := ⟨gc, m, none⟩) (HG.out.ap.row gc rfl).2]
            exact hcell'
          have LK : Hid ((winW q.size (Lib.compactUpTo cs.toArray k)).length ≤ 63000) := by
            show _ ≤ _
            unfold winW Lib.compactUpTo
            rw [List.length_map, List.length_map]
            exact Nat.le_trans (List.length_filter_le _ _) (by rw [List.length_range]; have := FEW.out; omega)
          obtain ⟨x, hx⟩ : ∃ x, cs.getD k default = x := ⟨_, rfl⟩
          rw [hx] at d0 p0 p1 UP
          generalize winW q.size (Lib.compactUpTo cs.toArray k) = R at *
          have h0 : (0 : Int) ≤ (k : Int) := by omega
          have h1 : (k : Int) < (cs.length : Int) := by omega
          have we : IntKind.i64.wrap (x + q.size) = x + q.size := by rw [IntKind.wrap_i64]; omega
          have kb : cs.length ≤ 63000 := FEW.out
          clear hx hcell r0 r1 r2 r3 r4 r5 r6 r7 r9 r10
          by_cases hz : k = 0
          · have UP1 : Hid (winW q.size (Lib.compactUpTo cs.toArray (k + 1)) = R ++ [[x, x + q.size]]) := by show _ = _; rw [UP.out, if_pos (.inl hz)]
            have kz : ((k : Int) == 0) = true := by simp [hz]
            clear UP d1 hz
            go_upto_region 32 with fail
            go_quiet (fail)
            obtain ⟨wo, hwo⟩ : ∃ wo, wr.drewN nq = wo := ⟨_, rfl⟩
            have HG2 : Hid (Ht b2 (some ⟨gc, 0, none⟩) w8 wo R k u5) := by show Ht _ _ _ _ _ _ _; rw [← hwo]; exact HG.out.keep s9 (below_drewN (Below.refl _ _) nq)
            have d0o : wo.cell? ⟨gc, k, none⟩ = some (.int .i64 x) := by rw [← hwo]; exact d0
            have r8o : wo.cell? ⟨w.heap.size, 8, none⟩ = some (.int .i64 q.size) := by rw [← hwo]; exact r8
            try rw [hwo]
            clear hwo d0 r8 HG TG
            have HG := HG2
            clear HG2
            obtain ⟨A7, c7, hv⟩ := HG.out.form
            obtain ⟨v7, hv7⟩ : ∃ v7, v7 = u5 := ⟨_, rfl⟩
            rw [← hv7] at HG hv ⊢
            clear hv7
            subst hv
            obtain ⟨F7, P7, LG0, -⟩ := HG.out.gro
            have LG := Seg.hid LG0
            have BL := Seg.hid HG.out.bel
            have AP := Seg.hid HG.out.ap
            have b4 : b2 ≤ wo.heap.size := by have := HG.out.bel.size; omega
            clear LG0 HG
            have OWN : Hid (∀ o1 o2, ((wo.alloc o1).alloc o2).ownsRow b2 29 1 (.slice A7 R.length c7) R.length ((List.range (R.length * 1)).map F7)) := fun o1 o2 => Ow.own_keep LG.out.own (fun y _ hy => (chain (below1 wo o1) (below1 _ o2)).block y hy)
            go_upto_region 33 with fail
            go_region_law (refine step_append_lies _ (by rfl) _ _ _ (by rfl) b2 29 i1 _ 1 24 Try.underlying32 hj hy0 hy1 hy2 rfl (by decide) (.slice A7 R.length c7) R.length ((List.range (R.length * 1)).map F7) (by rfl) (OWN.out _ _) ⟨_, 0, none⟩ 1 1 [.slice (some ⟨wo.heap.size, 0, none⟩) 2 2] (by rfl) (by rfl) (World.news_of_block (cs := #[.slice (some ⟨wo.heap.size, 0, none⟩) 2 2]) (new2 _ _ _)) (by simp [Value.oneCell']) (by decide) (by have := LK.out; unfold maxLen; omega) (by have := LK.out; omega) (by show _ ≤ ((wo.alloc _).alloc _).heap.size; rw [hsz, hsz]; omega) _ rfl ?_; intro g9 cap9 w9 hown9 gr9' hat9 hlt9; have gr9 : ((wo.alloc (.cells #[.int .i64 x, .int .i64 (x + q.size)] 3 (0, 0))).alloc (.cells #[.slice (some ⟨wo.heap.size, 0, none⟩) 2 2] 29 (0, 0))).grownBy w9 (Value.slice A7 R.length c7).ownBlock := ⟨gr9'.os, gr9'.tape, gr9'.output, gr9'.size, gr9'.block⟩; clear gr9'; have HM := Seg.hid (Ht.push (k := k) BL.out AP.out b4 LG.out hown9 gr9 hat9); clear hown9 gr9 hat9 hlt9)
            all_goals (try go_wp2)
            all_goals (try go_roundw)
            all_goals first | (refine ⟨⟨k + 1, by go_num, hlt, by rw [UP1.out]; exact HM.out⟩, ?_⟩; simp [intOf]; omega) | exact ⟨k + 1, by go_num, hlt, by rw [UP1.out]; exact HM.out⟩ | (simp [intOf]; omega)
          · have kz : ((k : Int) == 0) = false := by simp; omega
            obtain ⟨m, hm⟩ : ∃ m, k - 1 = m := ⟨_, rfl⟩
            have d2 := d1.out m (by omega)
            rw [hm] at UP
            obtain ⟨y, hy⟩ : ∃ y, cs.getD m default = y := ⟨_, rfl⟩
            rw [hy] at d2 UP
            have wk : IntKind.i64.wrap ((k : Int) - 1) = (m : Int) := by rw [IntKind.wrap_i64] <;> omega
            have m0 : (0 : Int) ≤ (m : Int) := by omega
            have m1 : (m : Int) < (cs.length : Int) := by omega
            clear hm hy d1
            by_cases hne : y = x
            · have UP1 : Hid (winW q.size (Lib.compactUpTo cs.toArray (k + 1)) = R) := by show _ = _; rw [UP.out, if_neg (by rintro (h | h); exact hz h; exact h hne)]
              have ne0 : (y == x) = true := by simp [hne]
              have ne1 : (y != x) = false := by simp [hne]
              go_upto_region 32 with fail
              go_quiet (fail)
              obtain ⟨wo, hwo⟩ : ∃ wo, wr.drewN nq = wo := ⟨_, rfl⟩
              have HG2 : Hid (Ht b2 (some ⟨gc, 0, none⟩) w8 wo R k u5) := by show Ht _ _ _ _ _ _ _; rw [← hwo]; exact HG.out.keep s9 (below_drewN (Below.refl _ _) nq)
              have d0o : wo.cell? ⟨gc, k, none⟩ = some (.int .i64 x) := by rw [← hwo]; exact d0
              have r8o : wo.cell? ⟨w.heap.size, 8, none⟩ = some (.int .i64 q.size) := by rw [← hwo]; exact r8
              try rw [hwo]
              clear hwo d0 r8 HG TG
              have HG := HG2
              clear HG2
              have HN2 := Seg.hid (HG.out.next (by omega))
              clear UP hz hne HG
              go_wp2
              go_roundw
              case rel => exact ⟨k + 1, by go_num, hlt, by rw [UP1.out]; exact HN2.out⟩
              case measure => simp [intOf]; omega
            · have UP1 : Hid (winW q.size (Lib.compactUpTo cs.toArray (k + 1)) = R ++ [[x, x + q.size]]) := by show _ = _; rw [UP.out, if_pos (.inr hne)]
              have ne0 : (y == x) = false := by simp [hne]
              have ne1 : (y != x) = true := by simp [hne]
              clear UP hz hne
              go_upto_region 32 with fail
              go_quiet (fail)
              obtain ⟨wo, hwo⟩ : ∃ wo, wr.drewN nq = wo := ⟨_, rfl⟩
              have HG2 : Hid (Ht b2 (some ⟨gc, 0, none⟩) w8 wo R k u5) := by show Ht _ _ _ _ _ _ _; rw [← hwo]; exact HG.out.keep s9 (below_drewN (Below.refl _ _) nq)
              have d0o : wo.cell? ⟨gc, k, none⟩ = some (.int .i64 x) := by rw [← hwo]; exact d0
              have r8o : wo.cell? ⟨w.heap.size, 8, none⟩ = some (.int .i64 q.size) := by rw [← hwo]; exact r8
              try rw [hwo]
              clear hwo d0 r8 HG TG
              have HG := HG2
              clear HG2
              obtain ⟨A7, c7, hv⟩ := HG.out.form
              obtain ⟨v7, hv7⟩ : ∃ v7, v7 = u5 := ⟨_, rfl⟩
              rw [← hv7] at HG hv ⊢
              clear hv7
              subst hv
              obtain ⟨F7, P7, LG0, -⟩ := HG.out.gro
              have LG := Seg.hid LG0
              have BL := Seg.hid HG.out.bel
              have AP := Seg.hid HG.out.ap
              have b4 : b2 ≤ wo.heap.size := by have := HG.out.bel.size; omega
              clear LG0 HG
              have OWN : Hid (∀ o1 o2, ((wo.alloc o1).alloc o2).ownsRow b2 29 1 (.slice A7 R.length c7) R.length ((List.range (R.length * 1)).map F7)) := fun o1 o2 => Ow.own_keep LG.out.own (fun y _ hy => (chain (below1 wo o1) (below1 _ o2)).block y hy)
              go_upto_region 33 with fail
              go_region_law (refine step_append_lies _ (by rfl) _ _ _ (by rfl) b2 29 i1 _ 1 24 Try.underlying32 hj hy0 hy1 hy2 rfl (by decide) (.slice A7 R.length c7) R.length ((List.range (R.length * 1)).map F7) (by rfl) (OWN.out _ _) ⟨_, 0, none⟩ 1 1 [.slice (some ⟨wo.heap.size, 0, none⟩) 2 2] (by rfl) (by rfl) (World.news_of_block (cs := #[.slice (some ⟨wo.heap.size, 0, none⟩) 2 2]) (new2 _ _ _)) (by simp [Value.oneCell']) (by decide) (by have := LK.out; unfold maxLen; omega) (by have := LK.out; omega) (by show _ ≤ ((wo.alloc _).alloc _).heap.size; rw [hsz, hsz]; omega) _ rfl ?_; intro g9 cap9 w9 hown9 gr9' hat9 hlt9; have gr9 : ((wo.alloc (.cells #[.int .i64 x, .int .i64 (x + q.size)] 3 (0, 0))).alloc (.cells #[.slice (some ⟨wo.heap.size, 0, none⟩) 2 2] 29 (0, 0))).grownBy w9 (Value.slice A7 R.length c7).ownBlock := ⟨gr9'.os, gr9'.tape, gr9'.output, gr9'.size, gr9'.block⟩; clear gr9'; have HM := Seg.hid (Ht.push (k := k) BL.out AP.out b4 LG.out hown9 gr9 hat9); clear hown9 gr9 hat9 hlt9)
              all_goals (try go_wp2)
              all_goals (try go_roundw)
              all_goals first | (refine ⟨⟨k + 1, by go_num, hlt, by rw [UP1.out]; exact HM.out⟩, ?_⟩; simp [intOf]; omega) | exact ⟨k + 1, by go_num, hlt, by rw [UP1.out]; exact HM.out⟩ | (simp [intOf]; omega)
        · have hkl : k = cs.length := by omega
          have LG : Hid (Ow.LGrow 29 1 Ow.EOI2 wr b2 u5 RR) := by have := HG.out.gone; rw [hkl] at this; rw [RN2.out]; exact this
          have BL := Seg.hid HG.out.bel
          have z1 : ¬ (k : Int) < (cs.length : Int) := by omega
          clear hkl HG
          go_wp2
          go_ret
          exact ⟨u5, rfl, ⟨b2, by omega, LG.out⟩, BW8.out.trans (BL.out.mono (by omega))⟩
    by_cases o2 : q.win = 2
    · have RN : Hid (RR = winW q.size (cutS q.size q.every ts)) := by show _ = _; rw [← HRR.out, TB.out, if_pos rfl, if_neg (by omega), if_pos o2]
      have SZ : (1 ≤ q.size ∧ q.size ≤ 1000000000000) ∧ (1 ≤ q.every ∧ q.every ≤ q.size) ∧ q.size ≤ 20 * q.every := by
        have h := WP.out
        unfold winP at h
        rw [if_neg (by omega), if_neg (by omega), if_pos o2] at h
        simp only [Bool.and_eq_true, decide_eq_true_eq] at h
        exact ⟨inR_true h.2.1, inR_true h.2.2.1, h.2.2.2⟩
      have p7 : (q.win == 2) = true := by simpa using o2
      have p6 : (q.win == 0) = false := by simp; omega
      have p5 : (q.win == 3) = false := by simp; omega
      have p4 : (q.win == 1) = false := by simp; omega
      obtain ⟨⟨sz1, sz2⟩, ⟨ev1, ev2⟩, sz3⟩ := SZ
      have HSE := Seg.hid sz3
      have z1 : (q.every == 0) = false := by simp; omega
      have z2 : ¬ q.every = 0 := by omega
      clear o1 o2 sz3
      go_wp2
      go_loopw [5, 7, 8] (fun v v7 i wr => ∃ k : Nat, i = .int .i64 k ∧ v = .slice (some ⟨b2, 0, none⟩) 0 0 ∧ k ≤ n ∧ Hid (Hu w4.heap.size w5 wr q.size q.every (srt ts) k v7)) (fun _ _ i _ => n - (intOf i).toNat)
      case atStart => exact ⟨0, rfl, rfl, Nat.zero_le _, RE5.out, Below.refl _ _⟩
      case round =>
      obtain ⟨k, rfl, rfl, hk, HG⟩ := hrel
      by_cases hlt : k < n
      · have TG := Seg.hid ((HG.out.bel.block _ (by have := LT5.out; have := S0.out; omega)).trans T5.out)
        obtain ⟨r0, r1, r2, r3, r4, r5, r6, r7, r8, r9, r10⟩ := qcells TG.out
        have d0 : wr.cell? ⟨gs, k, none⟩ = some (.int .i64 ((srt ts).getD k 0)) := by
          rw [World.cell?_of_block (w := w5) (a := ⟨gs, k, none⟩) (HG.out.bel.block gs hg2), World.cell?_of_block (w := w4) (a := ⟨gs, k, none⟩) (N5.out.block gs hg2)]
          exact HC.out k (by rw [HN.out]; exact hlt)
        have h0 : (0 : Int) ≤ (k : Int) := by omega
        have h1 : (k : Int) < (n : Int) := by omega
        have NX := Seg.hid (sta_next q.size q.every (ts := srt ts) (k := k) (by rw [HN.out]; exact hlt))
        obtain ⟨p0', p1'⟩ := CM.out k hlt
        obtain ⟨x, hx⟩ : ∃ x, (srt ts).getD k default = x := ⟨_, rfl⟩
        have d0' : wr.cell? ⟨gs, k, none⟩ = some (.int .i64 x) := by rw [← hx]; exact d0
        rw [hx] at NX p0' p1'
        clear d0 hx r0 r1 r2 r3 r4 r5 r6 r10
        obtain ⟨v7, hv7⟩ : ∃ v7, v7 = u7 := ⟨_, rfl⟩
        rw [← hv7] at HG ⊢
        clear hv7
        obtain ⟨A7, c7, rfl⟩ := row_form HG.out.lie
        have HR := Seg.hid HG.out.lie
        have BR := Seg.hid HG.out.bel
        clear HG
        have s5 : w4.heap.size ≤ wr.heap.size := by have := BR.out.size; have := N5.out.size; omega
        have OWS : Hid (∀ ob, (wr.alloc ob).ownsRow w4.heap.size 3 1 (.slice A7 (staL q.size q.every ((srt ts).take k)).length c7) (staL q.size q.every ((srt ts).take k)).length ((staL q.size q.every ((srt ts).take k)).map (Value.int .i64))) := fun ob => HR.out.keep (below1 wr ob)
        have LK : Hid ((staL q.size q.every ((srt ts).take k)).length ≤ 63000) := by show _ ≤ _; have := sta_len q.size q.every ((srt ts).take k); rw [List.length_take] at this; omega
        have FS0 := Seg.hid (far_start p0' (by omega : 0 < q.every) HSE.out)
        have EQ0 := Seg.hid (@WoP.start_eq q.every x)
        obtain ⟨s0, hs0⟩ : ∃ s0, x / q.every * q.every = s0 := ⟨_, rfl⟩
        rw [hs0] at EQ0
        have sb : 0 ≤ s0 ∧ s0 ≤ x := by
          have e := EQ0.out
          have a1 := Int.emod_nonneg x (by omega : q.every ≠ 0)
          have a2 : 0 ≤ x / q.every * q.every := Int.mul_nonneg (Int.ediv_nonneg p0' (by omega)) (by omega)
          omega
        have td : Int.tdiv x q.every = x / q.every := Int.tdiv_eq_ediv_of_nonneg p0'
        have dq : 0 ≤ x / q.every ∧ x / q.every ≤ x := ⟨Int.ediv_nonneg p0' (by omega), Int.ediv_le_self _ p0'⟩
        have wq : IntKind.i64.wrap (x / q.every) = x / q.every := by rw [IntKind.wrap_i64]; omega
        have ws : IntKind.i64.wrap (x / q.every * q.every) = s0 := by rw [hs0, IntKind.wrap_i64]; omega
        have SLN : Hid ((staL q.size q.every ((srt ts).take k)).length ≤ 21 * k) := by show _ ≤ _; have := sta_len q.size q.every ((srt ts).take k); rw [List.length_take] at this; omega
        clear hs0 OWS LK
        generalize staL q.size q.every ((srt ts).take k) = st at *
        obtain ⟨tar, htar⟩ : ∃ tar, st ++ hopF q.size q.every x 21 s0 = tar := ⟨_, rfl⟩
        have TAR : Hid (staL q.size q.every ((srt ts).take (k + 1)) = tar) := by show _ = _; rw [← htar, NX.out]; unfold hopL; rw [EQ0.out]
        have Q0 : Hid (Hx w4.heap.size w5 wr q.size q.every tar x s0 k (.slice A7 st.length c7) st) := ⟨⟨21, htar, by have := FS0.out; rw [← EQ0.out] at this; exact this, by have := SLN.out; omega, sb.2⟩, HR.out, BR.out⟩
        have sb1 := sb.2
        clear htar NX FS0 HR sb
        go_upto_region 24 with fail
        go_quiet (fail)
        obtain ⟨wo, hwo⟩ : ∃ wo, wr.drewN nq = wo := ⟨_, rfl⟩
        have Q1 : Hid (Hx w4.heap.size w5 wo q.size q.every tar x s0 k (.slice A7 st.length c7) st) := by show Hx _ _ _ _ _ _ _ _ _ _ _; rw [← hwo]; exact Q0.out.keep N5.out.size (below_drewN (Below.refl _ _) nq)
        try rw [hwo]
        clear hwo Q0
        try rw [ws]
        go_wp2
        go_loopw [7, 11] (fun u s wq => ∃ (s9 : Int) (st : List Int), s = .int .i64 s9 ∧ Hid (Hx w4.heap.size w5 wq q.size q.every tar x s9 k u st)) (fun _ s _ => (intOf s + 1 - (x - q.size)).toNat)
        case atStart => exact ⟨s0, st, rfl, Q1.out⟩
        case round =>
        clear Q1 EQ0 ws wq td dq sb1 d0' r7 r8 r9 TG BR s5
        obtain ⟨s9, st9, rfl, HQ⟩ := hrel
        obtain ⟨m, q1, q2, q3, q4⟩ := HQ.out.some
        have LQ := Seg.hid HQ.out.lie
        have BQ := Seg.hid HQ.out.bel
        have TQ := Seg.hid ((HQ.out.bel.block _ (by have := LT5.out; have := S0.out; omega)).trans T5.out)
        clear HQ
        obtain ⟨r0, r1, r2, r3, r4, r5, r6, r7, r8, r9, r10⟩ := qcells TQ.out
        clear r0 r1 r2 r3 r4 r5 r6 r7 r10
        obtain ⟨A9, c9, rfl⟩ := row_form LQ.out
        by_cases hin : 0 ≤ s9 ∧ x - q.size < s9
        · obtain ⟨in0, in1⟩ := hin
          match m, q1, q2, q3 with
          | 0, q1, q2, q3 => exact absurd (far_end q2) (by omega)
          | m + 1, q1, q2, q3 =>
          rw [hop_in in0 in1] at q1
          have F2 := Seg.hid (far_next q2)
          have Q1 : Hid ((st9 ++ [s9]) ++ hopF q.size q.every x m (s9 - q.every) = tar) := by show _ = _; rw [← q1]; simp
          have wt : IntKind.i64.wrap (s9 + q.size) = s9 + q.size := by rw [IntKind.wrap_i64]; omega
          have wn : IntKind.i64.wrap (s9 - q.every) = s9 - q.every := by rw [IntKind.wrap_i64]; omega
          have in2 : x < s9 + q.size := by omega
          have ws0 : w4.heap.size ≤ wr.heap.size := by have := BQ.out.size; have := N5.out.size; omega
          clear q1 q2 in1
          have OW : Hid (∀ ob, (wr.alloc ob).ownsRow w4.heap.size 3 1 (.slice A9 st9.length c9) st9.length (st9.map (Value.int .i64))) := fun ob => LQ.out.keep (below1 wr ob)
          have TQ2 : Hid (∀ w9, Below w4.heap.size w5 w9 → w9.cell? ⟨w.heap.size, 9, none⟩ = some (.int .i64 q.every)) := fun w9 b9 => by
            obtain ⟨t0, t1, t2, t3, t4, t5, t6, t7, t8, t9, t10⟩ := qcells ((b9.block _ (by have := LT5.out; have := S0.out; omega)).trans T5.out)
            exact t9
          go_wp2_with (at_builtin; (refine wpList_append_lies _ rfl _ _ 29 rfl w4.heap.size 3 i0 _ 1 8 Try.underlying29 hi hz0 hz1 hz2 rfl (by decide) (.slice A9 st9.length c9) st9.length (st9.map (Value.int .i64)) rfl (OW.out _) ⟨wr.heap.size, 0, none⟩ 1 1 [.int .i64 s9] rfl rfl (World.news_of_block (cs := #[.int .i64 s9]) (heap_alloc_new _ _)) (by simp [Value.oneCell']) (by decide) (by unfold maxLen; omega) (by omega) (by rw [hsz]; omega) (wr.heap.size + 1) (by rw [hsz]) ?_; intro g9 cap9 w9 hown9 gr9 hat9 hlt9; have RN9 := Seg.hid (NRow.put hown9); have B9 : Hid (Below w4.heap.size w5 w9) := (BQ.out.trans ((below1 wr _).mono (by omega))).grown gr9 (by rw [hsz]; omega) (fun y hy => (row_lt LQ.out y hy).1); have t9 := TQ2.out w9 B9.out; clear hown9 gr9 hat9 hlt9))
          go_roundw
          case rel => exact ⟨s9 - q.every, st9 ++ [s9], by first | rfl | rw [wn], ⟨m, Q1.out, by have := F2.out; omega, by rw [List.length_append, List.length_singleton]; omega, by omega⟩, RN9.out, B9.out⟩
          case measure => simp [intOf]; omega
        · have hx : Hid (st9 = staL q.size q.every ((srt ts).take (k + 1))) := by show _ = _; rw [TAR.out, ← q1, hop_out hin, List.append_nil]
          have wt : 0 ≤ s9 → IntKind.i64.wrap (s9 + q.size) = s9 + q.size := fun h => by rw [IntKind.wrap_i64]; omega
          clear q1 q2 q3
          by_cases hin0 : 0 ≤ s9
          · have hin1 : ¬ x < s9 + q.size := by omega
            have wt' := wt hin0
            clear hin wt
            go_wp2
            go_roundw
            case rel => exact ⟨k + 1, by go_num, rfl, hlt, by rw [← hx.out]; exact LQ.out, BQ.out⟩
            case measure => simp [intOf]; omega
          · clear hin wt
            go_wp2
            go_roundw
            case rel => exact ⟨k + 1, by go_num, rfl, hlt, by rw [← hx.out]; exact LQ.out, BQ.out⟩
            case measure => simp [intOf]; omega
      · have hkl : k = n := by omega
        have BR := Seg.hid HG.out.bel
        have HR : Hid (NRow wr w4.heap.size u7 (staL q.size q.every (srt ts))) := by have := HG.out.lie; rw [hkl, ← HN.out, List.take_length] at this; exact this
        have z1 : ¬ (k : Int) < (n : Int) := by omega
        clear hkl HG
        have CB : Hid (∀ j, j < (srt (staL q.size q.every (srt ts))).length → 0 ≤ (srt (staL q.size q.every (srt ts))).getD j default ∧ (srt (staL q.size q.every (srt ts))).getD j default ≤ 1000000000000) := fun j hj => by
          rw [List.getD_eq_getElem?_getD, List.getElem?_eq_getElem hj]
          exact sta_mem (size := q.size) (every := q.every) (ts := srt ts) (by omega) TS.out ((srt_perm _).mem_iff.1 (List.getElem_mem hj))
        have FEW : Hid ((srt (staL q.size q.every (srt ts))).length ≤ 63000) := by show _ ≤ _; rw [srt_len]; have := sta_len q.size q.every (srt ts); have := HN.out; omega
        have RN2 : Hid (RR = winW q.size (Lib.compactUpTo (srt (staL q.size q.every (srt ts))).toArray (srt (staL q.size q.every (srt ts))).length)) := by show _ = _; rw [RN.out, cut_srt]; rfl
        obtain ⟨v7, hv7⟩ : ∃ v7, v7 = u7 := ⟨_, rfl⟩
        rw [← hv7] at HR ⊢
        clear hv7
        obtain ⟨A7, c7, rfl⟩ := row_form HR.out
        go_upto_region 29 with (go_at_call 21; refine (SrS.sorted_any _ (staL q.size q.every (srt ts)) wr (seg w4.heap.size wr.heap.size) (row_ints HR.out (by have := sta_len q.size q.every (srt ts); have := HN.out; omega)) (fun y hy => hy.2) (by have := sta_len q.size q.every (srt ts); have := HN.out; omega)).mono ?_; rintro e w8 ⟨v8, rfl, h8, b8⟩; obtain ⟨A8, c8, rfl⟩ := row_form h8; have R8 := Seg.hid h8; have B8 := Seg.hid b8; clear h8 b8)
        have s8 : b2 < wr.heap.size := by have := BR.out.size; have := LT5.out; have := N5.out.size; omega
        have T8 : Hid (w8.heap[w.heap.size]? = some (.cells (qrow q A5 c5 A6 c6 A10 c10) 28 (0, 0))) := (B8.out.block _ (by have := S0.out; omega)).trans ((BR.out.block _ (by have := LT5.out; have := S0.out; omega)).trans T5.out)
        have E8 : Hid (Ow.LGrow 29 1 Ow.EOI2 w8 b2 (.slice (some ⟨b2, 0, none⟩) 0 0) ([] : List (List Int))) := Ow.LGrow.empty (out_keep (out_keep EO5.out (BR.out.block b2 LT5.out)) (B8.out.block b2 s8))
        have BW8 : Hid (Below w.heap.size w w8) := chain (B5.out.trans (BR.out.mono (by have := LT5.out; have := S0.out; omega))) B8.out
        have AP8 : Hid (Ap A8 w8 w8 (.slice (some ⟨b2, 0, none⟩) 0 0)) := ⟨Nat.le_refl _, fun y hy => ⟨(row_lt R8.out y (by rw [hy]; rfl)).2, rfl⟩, fun y hy e => by
          have h1 := (row_lt R8.out y (by rw [hy]; rfl)).1
          have h2 : b2 = y := by injection e
          omega⟩
        have HC8 : Hid (∀ j, j < (srt (staL q.size q.every (srt ts))).length → ∃ y, A8 = some ⟨y, 0, none⟩ ∧ w8.cell? ⟨y, j, none⟩ = some (.int .i64 ((srt (staL q.size q.every (srt ts))).getD j default)) ∧ (srt (staL q.size q.every (srt ts))).length ≤ c8) := fun j hj => by
          obtain ⟨y, cap, e1, e2, e3, e4, e5, e6⟩ := NRow.open R8.out (by omega)
          cases e1
          exact ⟨y, rfl, e4 j hj, e6⟩
        have wb : w.heap.size < b2 := by have := S0.out; omega
        have s9 : b2 ≤ w8.heap.size := by have := B8.out.size; omega
        clear HR BR R8 B8 s8
        generalize srt (staL q.size q.every (srt ts)) = cs at *
        go_wp2
        go_loopw [5, 12] (fun v i wr => ∃ k : Nat, i = .int .i64 k ∧ k ≤ cs.length ∧ Hid (Ht b2 A8 w8 wr (winW q.size (Lib.compactUpTo cs.toArray k)) k v)) (fun _ i _ => cs.length - (intOf i).toNat)
        case atStart => exact ⟨0, rfl, Nat.zero_le _, Ht.start E8.out AP8.out⟩
        case round =>
        clear E8 AP8
        obtain ⟨k, rfl, hk, HG⟩ := hrel
        by_cases hlt : k < cs.length
        · have TG := Seg.hid ((HG.out.bel.block _ wb).trans T8.out)
          obtain ⟨r0, r1, r2, r3, r4, r5, r6, r7, r8, r9, r10⟩ := qcells TG.out
          obtain ⟨gc, rfl, hcell, hcap⟩ := HC8.out k hlt
          obtain ⟨p0, p1⟩ := CB.out k hlt
          have d0 : wr.cell? ⟨gc, k, none⟩ = some (.int .i64 (cs.getD k default)) := by
            rw [World.cell?_of_block (w := w8) (a := ⟨gc, k, none⟩) (HG.out.ap.row gc rfl).2]
            exact hcell
          have UP := Seg.hid (win_up q.size cs k hlt)
          have d1 : Hid (∀ m, m < cs.length → wr.cell? ⟨gc, m, none⟩ = some (.int .i64 (cs.getD m default))) := fun m hm => by
            obtain ⟨gc', e, hcell', -⟩ := HC8.out m hm
            cases e
            rw [World.cell?_of_block (w := w8) (a := ⟨gc, m, none⟩) (HG.out.ap.row gc rfl).2]
            exact hcell'
          have LK : Hid ((winW q.size (Lib.compactUpTo cs.toArray k)).length ≤ 63000) := by
            show _ ≤ _
            unfold winW Lib.compactUpTo
            rw [List.length_map, List.length_map]
            exact Nat.le_trans (List.length_filter_le _ _) (by rw [List.length_range]; have := FEW.out; omega)
          obtain ⟨x, hx⟩ : ∃ x, cs.getD k default = x := ⟨_, rfl⟩
          rw [hx] at d0 p0 p1 UP
          generalize winW q.size (Lib.compactUpTo cs.toArray k) = R at *
          have h0 : (0 : Int) ≤ (k : Int) := by omega
          have h1 : (k : Int) < (cs.length : Int) := by omega
          have we : IntKind.i64.wrap (x + q.size) = x + q.size := by rw [IntKind.wrap_i64]; omega
          have kb : cs.length ≤ 63000 := FEW.out
          clear hx hcell r0 r1 r2 r3 r4 r5 r6 r7 r9 r10
          by_cases hz : k = 0
          · have UP1 : Hid (winW q.size (Lib.compactUpTo cs.toArray (k + 1)) = R ++ [[x, x + q.size]]) := by show _ = _; rw [UP.out, if_pos (.inl hz)]
            have kz : ((k : Int) == 0) = true := by simp [hz]
            clear UP d1 hz
            go_upto_region 32 with fail
            go_quiet (fail)
            obtain ⟨wo, hwo⟩ : ∃ wo, wr.drewN nq = wo := ⟨_, rfl⟩
            have HG2 : Hid (Ht b2 (some ⟨gc, 0, none⟩) w8 wo R k u5) := by show Ht _ _ _ _ _ _ _; rw [← hwo]; exact HG.out.keep s9 (below_drewN (Below.refl _ _) nq)
            have d0o : wo.cell? ⟨gc, k, none⟩ = some (.int .i64 x) := by rw [← hwo]; exact d0
            have r8o : wo.cell? ⟨w.heap.size, 8, none⟩ = some (.int .i64 q.size) := by rw [← hwo]; exact r8
            try rw [hwo]
            clear hwo d0 r8 HG TG
            have HG := HG2
            clear HG2
            obtain ⟨A7, c7, hv⟩ := HG.out.form
            obtain ⟨v7, hv7⟩ : ∃ v7, v7 = u5 := ⟨_, rfl⟩
            rw [← hv7] at HG hv ⊢
            clear hv7
            subst hv
            obtain ⟨F7, P7, LG0, -⟩ := HG.out.gro
            have LG := Seg.hid LG0
            have BL := Seg.hid HG.out.bel
            have AP := Seg.hid HG.out.ap
            have b4 : b2 ≤ wo.heap.size := by have := HG.out.bel.size; omega
            clear LG0 HG
            have OWN : Hid (∀ o1 o2, ((wo.alloc o1).alloc o2).ownsRow b2 29 1 (.slice A7 R.length c7) R.length ((List.range (R.length * 1)).map F7)) := fun o1 o2 => Ow.own_keep LG.out.own (fun y _ hy => (chain (below1 wo o1) (below1 _ o2)).block y hy)
            go_upto_region 33 with fail
            go_region_law (refine step_append_lies _ (by rfl) _ _ _ (by rfl) b2 29 i1 _ 1 24 Try.underlying32 hj hy0 hy1 hy2 rfl (by decide) (.slice A7 R.length c7) R.length ((List.range (R.length * 1)).map F7) (by rfl) (OWN.out _ _) ⟨_, 0, none⟩ 1 1 [.slice (some ⟨wo.heap.size, 0, none⟩) 2 2] (by rfl) (by rfl) (World.news_of_block (cs := #[.slice (some ⟨wo.heap.size, 0, none⟩) 2 2]) (new2 _ _ _)) (by simp [Value.oneCell']) (by decide) (by have := LK.out; unfold maxLen; omega) (by have := LK.out; omega) (by show _ ≤ ((wo.alloc _).alloc _).heap.size; rw [hsz, hsz]; omega) _ rfl ?_; intro g9 cap9 w9 hown9 gr9' hat9 hlt9; have gr9 : ((wo.alloc (.cells #[.int .i64 x, .int .i64 (x + q.size)] 3 (0, 0))).alloc (.cells #[.slice (some ⟨wo.heap.size, 0, none⟩) 2 2] 29 (0, 0))).grownBy w9 (Value.slice A7 R.length c7).ownBlock := ⟨gr9'.os, gr9'.tape, gr9'.output, gr9'.size, gr9'.block⟩; clear gr9'; have HM := Seg.hid (Ht.push (k := k) BL.out AP.out b4 LG.out hown9 gr9 hat9); clear hown9 gr9 hat9 hlt9)
            all_goals (try go_wp2)
            all_goals (try go_roundw)
            all_goals first | (refine ⟨⟨k + 1, by go_num, hlt, by rw [UP1.out]; exact HM.out⟩, ?_⟩; simp [intOf]; omega) | exact ⟨k + 1, by go_num, hlt, by rw [UP1.out]; exact HM.out⟩ | (simp [intOf]; omega)
          · have kz : ((k : Int) == 0) = false := by simp; omega
            obtain ⟨m, hm⟩ : ∃ m, k - 1 = m := ⟨_, rfl⟩
            have d2 := d1.out m (by omega)
            rw [hm] at UP
            obtain ⟨y, hy⟩ : ∃ y, cs.getD m default = y := ⟨_, rfl⟩
            rw [hy] at d2 UP
            have wk : IntKind.i64.wrap ((k : Int) - 1) = (m : Int) := by rw [IntKind.wrap_i64] <;> omega
            have m0 : (0 : Int) ≤ (m : Int) := by omega
            have m1 : (m : Int) < (cs.length : Int) := by omega
            clear hm hy d1
            by_cases hne : y = x
            · have UP1 : Hid (winW q.size (Lib.compactUpTo cs.toArray (k + 1)) = R) := by show _ = _; rw [UP.out, if_neg (by rintro (h | h); exact hz h; exact h hne)]
              have ne0 : (y == x) = true := by simp [hne]
              have ne1 : (y != x) = false := by simp [hne]
              go_upto_region 32 with fail
              go_quiet (fail)
              obtain ⟨wo, hwo⟩ : ∃ wo, wr.drewN nq = wo := ⟨_, rfl⟩
              have HG2 : Hid (Ht b2 (some ⟨gc, 0, none⟩) w8 wo R k u5) := by show Ht _ _ _ _ _ _ _; rw [← hwo]; exact HG.out.keep s9 (below_drewN (Below.refl _ _) nq)
              have d0o : wo.cell? ⟨gc, k, none⟩ = some (.int .i64 x) := by rw [← hwo]; exact d0
              have r8o : wo.cell? ⟨w.heap.size, 8, none⟩ = some (.int .i64 q.size) := by rw [← hwo]; exact r8
              try rw [hwo]
              clear hwo d0 r8 HG TG
              have HG := HG2
              clear HG2
              have HN2 := Seg.hid (HG.out.next (by omega))
              clear UP hz hne HG
              go_wp2
              go_roundw
              case rel => exact ⟨k + 1, by go_num, hlt, by rw [UP1.out]; exact HN2.out⟩
              case measure => simp [intOf]; omega
            · have UP1 : Hid (winW q.size (Lib.compactUpTo cs.toArray (k + 1)) = R ++ [[x, x + q.size]]) := by show _ = _; rw [UP.out, if_pos (.inr hne)]
              have ne0 : (y == x) = false := by simp [hne]
              have ne1 : (y != x) = true := by simp [hne]
              clear UP hz hne
              go_upto_region 32 with fail
              go_quiet (fail)
              obtain ⟨wo, hwo⟩ : ∃ wo, wr.drewN nq = wo := ⟨_, rfl⟩
              have HG2 : Hid (Ht b2 (some ⟨gc, 0, none⟩) w8 wo R k u5) := by show Ht _ _ _ _ _ _ _; rw [← hwo]; exact HG.out.keep s9 (below_drewN (Below.refl _ _) nq)
              have d0o : wo.cell? ⟨gc, k, none⟩ = some (.int .i64 x) := by rw [← hwo]; exact d0
              have r8o : wo.cell? ⟨w.heap.size, 8, none⟩ = some (.int .i64 q.size) := by rw [← hwo]; exact r8
              try rw [hwo]
              clear hwo d0 r8 HG TG
              have HG := HG2
              clear HG2
              obtain ⟨A7, c7, hv⟩ := HG.out.form
              obtain ⟨v7, hv7⟩ : ∃ v7, v7 = u5 := ⟨_, rfl⟩
              rw [← hv7] at HG hv ⊢
              clear hv7
              subst hv
              obtain ⟨F7, P7, LG0, -⟩ := HG.out.gro
              have LG := Seg.hid LG0
              have BL := Seg.hid HG.out.bel
              have AP := Seg.hid HG.out.ap
              have b4 : b2 ≤ wo.heap.size := by have := HG.out.bel.size; omega
              clear LG0 HG
              have OWN : Hid (∀ o1 o2, ((wo.alloc o1).alloc o2).ownsRow b2 29 1 (.slice A7 R.length c7) R.length ((List.range (R.length * 1)).map F7)) := fun o1 o2 => Ow.own_keep LG.out.own (fun y _ hy => (chain (below1 wo o1) (below1 _ o2)).block y hy)
              go_upto_region 33 with fail
              go_region_law (refine step_append_lies _ (by rfl) _ _ _ (by rfl) b2 29 i1 _ 1 24 Try.underlying32 hj hy0 hy1 hy2 rfl (by decide) (.slice A7 R.length c7) R.length ((List.range (R.length * 1)).map F7) (by rfl) (OWN.out _ _) ⟨_, 0, none⟩ 1 1 [.slice (some ⟨wo.heap.size, 0, none⟩) 2 2] (by rfl) (by rfl) (World.news_of_block (cs := #[.slice (some ⟨wo.heap.size, 0, none⟩) 2 2]) (new2 _ _ _)) (by simp [Value.oneCell']) (by decide) (by have := LK.out; unfold maxLen; omega) (by have := LK.out; omega) (by show _ ≤ ((wo.alloc _).alloc _).heap.size; rw [hsz, hsz]; omega) _ rfl ?_; intro g9 cap9 w9 hown9 gr9' hat9 hlt9; have gr9 : ((wo.alloc (.cells #[.int .i64 x, .int .i64 (x + q.size)] 3 (0, 0))).alloc (.cells #[.slice (some ⟨wo.heap.size, 0, none⟩) 2 2] 29 (0, 0))).grownBy w9 (Value.slice A7 R.length c7).ownBlock := ⟨gr9'.os, gr9'.tape, gr9'.output, gr9'.size, gr9'.block⟩; clear gr9'; have HM := Seg.hid (Ht.push (k := k) BL.out AP.out b4 LG.out hown9 gr9 hat9); clear hown9 gr9 hat9 hlt9)
              all_goals (try go_wp2)
              all_goals (try go_roundw)
              all_goals first | (refine ⟨⟨k + 1, by go_num, hlt, by rw [UP1.out]; exact HM.out⟩, ?_⟩; simp [intOf]; omega) | exact ⟨k + 1, by go_num, hlt, by rw [UP1.out]; exact HM.out⟩ | (simp [intOf]; omega)
        · have hkl : k = cs.length := by omega
          have LG : Hid (Ow.LGrow 29 1 Ow.EOI2 wr b2 u5 RR) := by have := HG.out.gone; rw [hkl] at this; rw [RN2.out]; exact this
          have BL := Seg.hid HG.out.bel
          have z1 : ¬ (k : Int) < (cs.length : Int) := by omega
          clear hkl HG
          go_wp2
          go_ret
          exact ⟨u5, rfl, ⟨b2, by omega, LG.out⟩, BW8.out.trans (BL.out.mono (by omega))⟩
    by_cases o3 : q.win = 3
    · have RN : Hid (RR = sesK q.size (srt ts) n) := by show _ = _; rw [← HRR.out, TB.out, if_pos rfl, if_neg o1, if_neg o2, if_pos o3, SL.out]
      have SZ : 1 ≤ q.size ∧ q.size ≤ 1000000000000 := by
        have h := WP.out
        unfold winP at h
        rw [if_neg (by omega), if_pos (.inr o3)] at h
        simp only [Bool.and_eq_true] at h
        exact inR_true h.2.1
      have p7 : (q.win == 3) = true := by simpa using o3
      have p6 : (q.win == 0) = false := by simp; omega
      obtain ⟨sz1, sz2⟩ := SZ
      clear o1 o2 o3
      go_wp2
      go_loopw [5, 7, 8] (fun v v7 i wr => ∃ k : Nat, i = .int .i64 k ∧ v7 = .slice (some ⟨w4.heap.size, 0, none⟩) 0 0 ∧ k ≤ n ∧ Hid (Ht b2 (some ⟨gs, 0, none⟩) w5 wr (sesK q.size (srt ts) k) k v)) (fun _ _ i _ => n - (intOf i).toNat)
      case atStart => exact ⟨0, rfl, rfl, Nat.zero_le _, Ht.start E5.out AP5.out⟩
      case round =>
      obtain ⟨k, rfl, rfl, hk, HG⟩ := hrel
      by_cases hlt : k < n
      · have TG := Seg.hid ((HG.out.bel.block _ QB.out).trans T5.out)
        obtain ⟨r0, r1, r2, r3, r4, r5, r6, r7, r8, r9, r10⟩ := qcells TG.out
        have d0 : wr.cell? ⟨gs, k, none⟩ = some (.int .i64 ((srt ts).getD k 0)) := by
          rw [World.cell?_of_block (w := w5) (a := ⟨gs, k, none⟩) (HG.out.ap.row gs rfl).2, World.cell?_of_block (w := w4) (a := ⟨gs, k, none⟩) (N5.out.block gs hg2)]
          exact HC.out k (by rw [HN.out]; exact hlt)
        have h0 : (0 : Int) ≤ (k : Int) := by omega
        have h1 : (k : Int) < (n : Int) := by omega
        have UP : Hid (sesK q.size (srt ts) (k + 1) = if k = 0 ∨ q.size < (srt ts).getD k default - (srt ts).getD (k - 1) default then sesK q.size (srt ts) k ++ [[(srt ts).getD k default, (srt ts).getD k default + q.size + 1]] else (sesK q.size (srt ts) k).set ((sesK q.size (srt ts) k).length - 1) [((sesK q.size (srt ts) k).getD ((sesK q.size (srt ts) k).length - 1) default).getD 0 0, (srt ts).getD k default + q.size + 1]) := rfl
        have ASK : Hid (∀ a b, 0 < k → (sesK q.size (srt ts) k).getD ((sesK q.size (srt ts) k).length - 1) default = [a, b] → b = (srt ts).getD (k - 1) default + q.size + 1) := fun a b h0 h => ses_ask h0 h
        obtain ⟨l1, l2⟩ := ses_len q.size (srt ts) k
        obtain ⟨p0', p1'⟩ := CM.out k hlt
        have PV : Hid (∀ m, m < n → 0 ≤ (srt ts).getD m default ∧ (srt ts).getD m default ≤ 1000000000000) := CM.out
        obtain ⟨x, hx⟩ : ∃ x, (srt ts).getD k default = x := ⟨_, rfl⟩
        have d0' : wr.cell? ⟨gs, k, none⟩ = some (.int .i64 x) := by rw [← hx]; exact d0
        rw [hx] at UP p0' p1'
        clear d0 hx
        generalize sesK q.size (srt ts) k = R at *
        have LK : Hid (R.length ≤ 63000) := by show _ ≤ _; omega
        have we : IntKind.i64.wrap (x + q.size) = x + q.size := by rw [IntKind.wrap_i64]; omega
        have we2 : IntKind.i64.wrap (x + q.size + 1) = x + q.size + 1 := by rw [IntKind.wrap_i64]; omega
        clear r0 r1 r2 r3 r4 r5 r6 r9 r10
        by_cases hz : k = 0
        · have UP1 : Hid (sesK q.size (srt ts) (k + 1) = R ++ [[x, x + q.size + 1]]) := by show _ = _; rw [UP.out, if_pos (.inl hz)]
          have l0 : R.length = 0 := by omega
          have lz : ¬ (0 : Int) < (R.length : Int) := by omega
          clear UP hz l0 l1 l2 ASK PV
          obtain ⟨A7, c7, hv⟩ := HG.out.form
          obtain ⟨v7, hv7⟩ : ∃ v7, v7 = u5 := ⟨_, rfl⟩
          rw [← hv7] at HG hv ⊢
          clear hv7
          subst hv
          obtain ⟨F7, P7, LG0, -⟩ := HG.out.gro
          have LG := Seg.hid LG0
          have BL := Seg.hid HG.out.bel
          have AP := Seg.hid HG.out.ap
          have b4 : b2 ≤ wr.heap.size := by have := HG.out.bel.size; omega
          clear LG0 HG
          have OWN : Hid (∀ o1 o2, ((wr.alloc o1).alloc o2).ownsRow b2 29 1 (.slice A7 R.length c7) R.length ((List.range (R.length * 1)).map F7)) := fun o1 o2 => Ow.own_keep LG.out.own (fun y _ hy => (chain (below1 wr o1) (below1 _ o2)).block y hy)
          go_wp2_with (at_builtin; (refine wpList_append_lies _ rfl _ _ 32 rfl b2 29 i1 _ 1 24 Try.underlying32 hj hy0 hy1 hy2 rfl (by decide) (.slice A7 R.length c7) R.length ((List.range (R.length * 1)).map F7) rfl (OWN.out _ _) ⟨_, 0, none⟩ 1 1 [.slice (some ⟨wr.heap.size, 0, none⟩) 2 2] rfl rfl (World.news_of_block (cs := #[.slice (some ⟨wr.heap.size, 0, none⟩) 2 2]) (new2 _ _ _)) (by simp [Value.oneCell']) (by decide) (by have := LK.out; unfold maxLen; omega) (by have := LK.out; omega) (by rw [hsz, hsz]; omega) _ rfl ?_; intro g9 cap9 w9 hown9 gr9 hat9 hlt9; have HM := Seg.hid (Ht.push (k := k) BL.out AP.out b4 LG.out hown9 gr9 hat9); clear hown9 gr9 hat9 hlt9))
          go_roundw
          case rel => exact ⟨k + 1, by go_num, rfl, hlt, by rw [UP1.out]; exact HM.out⟩
          case measure => simp [intOf]; omega
        · obtain ⟨gl, a, b, g7, c7, hv, hc7, q0, q1, q2, hab, PUT⟩ := HG.out.last (by omega) (l2 (by omega))
          have hbv := ASK.out a b (by omega) hab
          obtain ⟨pv, hpv⟩ : ∃ pv, (srt ts).getD (k - 1) default = pv := ⟨_, rfl⟩
          obtain ⟨p2, p3⟩ := PV.out (k - 1) (by omega)
          rw [hpv] at UP p2 p3 hbv
          have lp := l2 (by omega)
          obtain ⟨m, hm⟩ : ∃ m, R.length - 1 = m := ⟨_, rfl⟩
          rw [hm] at q0 hab PUT UP
          have wm : IntKind.i64.wrap ((R.length : Int) - 1) = (m : Int) := by rw [IntKind.wrap_i64] <;> omega
          have m0 : (0 : Int) ≤ (m : Int) := by omega
          have m1 : (m : Int) < (R.length : Int) := by omega
          have m2 : m < R.length := by omega
          have lz : (0 : Int) < (R.length : Int) := by omega
          have PT := Seg.hid (PUT (x + q.size + 1))
          clear PUT hpv ASK PV
          by_cases hg : x < b
          · have UP1 : Hid (sesK q.size (srt ts) (k + 1) = R.set m [a, x + q.size + 1]) := by show _ = _; rw [UP.out, if_neg (by omega), hab]; rfl
            obtain ⟨v7, hv7⟩ : ∃ v7, v7 = u5 := ⟨_, rfl⟩
            rw [← hv7] at PT hv ⊢
            clear hv7 HG UP hab hz hbv l1 l2 lp hm
            subst hv
            go_upto_region 19 with fail
            go_region
            go_wp2
            go_roundw
            case rel => exact ⟨k + 1, by go_num, rfl, hlt, by rw [UP1.out]; exact PT.out.keep s5 ⟨rfl, rfl, rfl, Nat.le_refl _, fun _ _ => rfl⟩⟩
            case measure => simp [intOf]; omega
          · have UP1 : Hid (sesK q.size (srt ts) (k + 1) = R ++ [[x, x + q.size + 1]]) := by show _ = _; rw [UP.out, if_pos (.inr (by omega))]
            clear UP hab hz hbv l1 l2 PT
            have hv' := hv
            clear hv
            obtain ⟨A7', c7', hv⟩ := HG.out.form
            have eA : A7' = some ⟨g7, 0, none⟩ ∧ c7' = c7 := by rw [hv'] at hv; simp only [Value.slice.injEq, true_and] at hv; exact ⟨hv.1.symm, hv.2.symm⟩
            obtain ⟨rfl, rfl⟩ := eA
            clear hv'
            obtain ⟨v7, hv7⟩ : ∃ v7, v7 = u5 := ⟨_, rfl⟩
            rw [← hv7] at HG hv ⊢
            clear hv7
            subst hv
            obtain ⟨F7, P7, LG0, -⟩ := HG.out.gro
            have LG := Seg.hid LG0
            have BL := Seg.hid HG.out.bel
            have AP := Seg.hid HG.out.ap
            have b4 : b2 ≤ wr.heap.size := by have := HG.out.bel.size; omega
            clear LG0 HG
            have OWN : Hid (∀ o1 o2, ((wr.alloc o1).alloc o2).ownsRow b2 29 1 (.slice (some ⟨g7, 0, none⟩) R.length c7') R.length ((List.range (R.length * 1)).map F7)) := fun o1 o2 => Ow.own_keep LG.out.own (fun y _ hy => (chain (below1 wr o1) (below1 _ o2)).block y hy)
            go_wp2_with (at_builtin; (refine wpList_append_lies _ rfl _ _ 32 rfl b2 29 i1 _ 1 24 Try.underlying32 hj hy0 hy1 hy2 rfl (by decide) (.slice (some ⟨g7, 0, none⟩) R.length c7') R.length ((List.range (R.length * 1)).map F7) rfl (OWN.out _ _) ⟨_, 0, none⟩ 1 1 [.slice (some ⟨wr.heap.size, 0, none⟩) 2 2] rfl rfl (World.news_of_block (cs := #[.slice (some ⟨wr.heap.size, 0, none⟩) 2 2]) (new2 _ _ _)) (by simp [Value.oneCell']) (by decide) (by have := LK.out; unfold maxLen; omega) (by have := LK.out; omega) (by rw [hsz, hsz]; omega) _ rfl ?_; intro g9 cap9 w9 hown9 gr9 hat9 hlt9; have HM := Seg.hid (Ht.push (k := k) BL.out AP.out b4 LG.out hown9 gr9 hat9); clear hown9 gr9 hat9 hlt9))
            go_roundw
            case rel => exact ⟨k + 1, by go_num, rfl, hlt, by rw [UP1.out]; exact HM.out⟩
            case measure => simp [intOf]; omega
      · have hkl : k = n := by omega
        have LG : Hid (Ow.LGrow 29 1 Ow.EOI2 wr b2 u5 RR) := by have := HG.out.gone; rw [hkl] at this; rw [RN.out]; exact this
        have BL : Hid (Below w.heap.size w wr) := B5.out.trans (HG.out.bel.mono (by have := S0.out; omega))
        have z1 : ¬ (k : Int) < (n : Int) := by omega
        clear hkl HG
        go_upto_region 29 with (go_at_call 21; refine (SrS.sorted_any _ [] _ (fun _ => False) (nil_ints _ _ _) (fun y hy => hy.elim) (by simp)).mono ?_; rintro e w8 ⟨v8, rfl, h8, b8⟩; rw [srt_nil] at h8; obtain ⟨A8, c8, rfl⟩ := row_form h8; have L8 := Seg.hid (Ow.LGrow.below Ow.keepsOI2 LG.out b8); have B8 := Seg.hid (chain BL.out b8); clear h8 b8)
        go_wp2
        go_loopw [5, 12] (fun v i wr => i = .int .i64 0 ∧ Hid (Ow.LGrow 29 1 Ow.EOI2 wr b2 v RR ∧ Below w.heap.size w wr)) (fun _ _ _ => 0)
        case atStart => exact ⟨rfl, L8.out, B8.out⟩
        case round =>
        obtain ⟨rfl, HT⟩ := hrel
        go_wp2
        go_ret
        exact ⟨_, rfl, ⟨b2, by have := S0.out; omega, HT.out.1⟩, HT.out.2⟩
    have RN : Hid (RR = allW n) := by show _ = _; rw [← HRR.out, TB.out, if_pos rfl, if_neg o1, if_neg o2, if_neg o3, SL.out]
    have o0 : q.win = 0 := by
      have h := WP.out
      unfold winP at h
      by_cases e : q.win = 0
      · exact e
      · rw [if_neg e, if_neg (by omega), if_neg o2] at h; cases h
    have p7 : (q.win == 0) = true := by simpa using o0
    clear o0 o1 o2 o3
    go_wp2
    go_loopw [5, 7, 8] (fun v v7 i wr => ∃ k : Nat, i = .int .i64 k ∧ v7 = .slice (some ⟨w4.heap.size, 0, none⟩) 0 0 ∧ k ≤ n ∧ Hid (Ht b2 (some ⟨gs, 0, none⟩) w5 wr (allW k) k v)) (fun _ _ i _ => n - (intOf i).toNat)
    case atStart => exact ⟨0, rfl, rfl, Nat.zero_le _, Ht.start E5.out AP5.out⟩
    case round =>
    obtain ⟨k, rfl, rfl, hk, HG⟩ := hrel
    by_cases hlt : k < n
    · have TG := Seg.hid ((HG.out.bel.block _ QB.out).trans T5.out)
      obtain ⟨r0, r1, r2, r3, r4, r5, r6, r7, r8, r9, r10⟩ := qcells TG.out
      have d0 : wr.cell? ⟨gs, k, none⟩ = some (.int .i64 ((srt ts).getD k 0)) := by
        rw [World.cell?_of_block (w := w5) (a := ⟨gs, k, none⟩) (HG.out.ap.row gs rfl).2, World.cell?_of_block (w := w4) (a := ⟨gs, k, none⟩) (N5.out.block gs hg2)]
        exact HC.out k (by rw [HN.out]; exact hlt)
      have h0 : (0 : Int) ≤ (k : Int) := by omega
      have h1 : (k : Int) < (n : Int) := by omega
      generalize (srt ts).getD k 0 = x at *
      clear r0 r1 r2 r3 r4 r5 r6 r8 r9 r10
      have UP := Seg.hid (@all_next k)
      have LN := all_len k
      generalize allW k = R at *
      by_cases hz : k = 0
      · have UP1 : Hid (allW (k + 1) = R ++ [[0, 1000000000001]]) := by show _ = _; rw [UP.out, if_pos hz]
        rw [if_pos hz] at LN
        have LK : Hid (R.length ≤ 63000) := by show _ ≤ _; omega
        have lz : ((R.length : Int) == 0) = true := by rw [LN]; rfl
        have lz1 : (R.length == 0) = true := by rw [LN]; rfl
        clear UP hz LN
        obtain ⟨A7, c7, hv⟩ := HG.out.form
        obtain ⟨v7, hv7⟩ : ∃ v7, v7 = u5 := ⟨_, rfl⟩
        rw [← hv7] at HG hv ⊢
        clear hv7
        subst hv
        obtain ⟨F7, P7, LG0, -⟩ := HG.out.gro
        have LG := Seg.hid LG0
        have BL := Seg.hid HG.out.bel
        have AP := Seg.hid HG.out.ap
        have b4 : b2 ≤ wr.heap.size := by have := HG.out.bel.size; omega
        clear LG0 HG
        have OWN : Hid (∀ o1 o2, ((wr.alloc o1).alloc o2).ownsRow b2 29 1 (.slice A7 R.length c7) R.length ((List.range (R.length * 1)).map F7)) := fun o1 o2 => Ow.own_keep LG.out.own (fun y _ hy => (chain (below1 wr o1) (below1 _ o2)).block y hy)
        go_wp2_with (at_builtin; (refine wpList_append_lies _ rfl _ _ 32 rfl b2 29 i1 _ 1 24 Try.underlying32 hj hy0 hy1 hy2 rfl (by decide) (.slice A7 R.length c7) R.length ((List.range (R.length * 1)).map F7) rfl (OWN.out _ _) ⟨_, 0, none⟩ 1 1 [.slice (some ⟨wr.heap.size, 0, none⟩) 2 2] rfl rfl (World.news_of_block (cs := #[.slice (some ⟨wr.heap.size, 0, none⟩) 2 2]) (new2 _ _ _)) (by simp [Value.oneCell']) (by decide) (by have := LK.out; unfold maxLen; omega) (by have := LK.out; omega) (by rw [hsz, hsz]; omega) _ rfl ?_; intro g9 cap9 w9 hown9 gr9 hat9 hlt9; have HM := Seg.hid (Ht.push (k := k) BL.out AP.out b4 LG.out hown9 gr9 hat9); clear hown9 gr9 hat9 hlt9))
        go_roundw
        case rel => exact ⟨k + 1, by go_num, rfl, hlt, by rw [UP1.out]; exact HM.out⟩
        case measure => simp [intOf]; omega
      · have UP1 : Hid (allW (k + 1) = R) := by show _ = _; rw [UP.out, if_neg hz]
        rw [if_neg hz] at LN
        have HN2 := Seg.hid (HG.out.next (by omega))
        obtain ⟨A7, c7, hv⟩ := HG.out.form
        rw [LN] at hv
        clear UP hz LN HG
        subst hv
        go_wp2
        go_roundw
        case rel => exact ⟨k + 1, by go_num, rfl, hlt, by rw [UP1.out]; exact HN2.out⟩
        case measure => simp [intOf]; omega
    · have hkl : k = n := by omega
      have LG : Hid (Ow.LGrow 29 1 Ow.EOI2 wr b2 u5 RR) := by have := HG.out.gone; rw [hkl] at this; rw [RN.out]; exact this
      have BL : Hid (Below w.heap.size w wr) := B5.out.trans (HG.out.bel.mono (by have := S0.out; omega))
      have z1 : ¬ (k : Int) < (n : Int) := by omega
      clear hkl HG
      go_upto_region 29 with (go_at_call 21; refine (SrS.sorted_any _ [] _ (fun _ => False) (nil_ints _ _ _) (fun y hy => hy.elim) (by simp)).mono ?_; rintro e w8 ⟨v8, rfl, h8, b8⟩; rw [srt_nil] at h8; obtain ⟨A8, c8, rfl⟩ := row_form h8; have L8 := Seg.hid (Ow.LGrow.below Ow.keepsOI2 LG.out b8); have B8 := Seg.hid (chain BL.out b8); clear h8 b8)
      go_wp2
      go_loopw [5, 12] (fun v i wr => i = .int .i64 0 ∧ Hid (Ow.LGrow 29 1 Ow.EOI2 wr b2 v RR ∧ Below w.heap.size w wr)) (fun _ _ _ => 0)
      case atStart => exact ⟨rfl, L8.out, B8.out⟩
      case round =>
      obtain ⟨rfl, HT⟩ := hrel
      go_wp2
      go_ret
      exact ⟨_, rfl, ⟨b2, by have := S0.out; omega, HT.out.1⟩, HT.out.2⟩
  · have LZ : Hid (RR = []) := by
      show _ = _
      have hz : ts.length = 0 := by have := SL.out; omega
      have ht : ts = [] := List.length_eq_zero_iff.1 hz
      rw [← HRR.out, ht]
      unfold timesB winW cutS staL allW sesK Lib.compact Lib.compactUpTo
      simp [srt]
    have k5 : ((srt ts).length : Int) = 0 := by omega
    have k6 : (srt ts).length = 0 := by omega
    obtain ⟨w5, hw5⟩ : ∃ w5, w4.alloc (.cells #[] 3 (0, 0)) = w5 := ⟨_, rfl⟩
    have L5 : Hid (Ow.LGrow 29 1 Ow.EOI2 w5 b2 (.slice (some ⟨b2, 0, none⟩) 0 0) ([] : List (List Int))) := by show Ow.LGrow _ _ _ _ _ _ _; rw [← hw5]; exact E4.out.below Ow.keepsOI2 (below1 _ _)
    have B5 : Hid (Below w.heap.size w w5) := by show Below _ _ _; rw [← hw5]; exact chain B4.out (below1 _ _)
    rw [k6]
    go_upto_region 8 with fail
    try rw [hw5]
    clear hw5
    go_wp2
    go_loopw [5, 7, 8] (fun v7 v i wr => i = .int .i64 0 ∧ v = .slice (some ⟨w4.heap.size, 0, none⟩) 0 0 ∧ Hid (Ow.LGrow 29 1 Ow.EOI2 wr b2 v7 RR ∧ Below w.heap.size w wr)) (fun _ _ _ _ => 0)
    case atStart => exact ⟨rfl, rfl, by rw [LZ.out]; exact L5.out, B5.out⟩
    case round =>
    obtain ⟨rfl, rfl, HG⟩ := hrel
    go_upto_region 29 with (go_at_call 21; refine (SrS.sorted_any _ [] _ (fun _ => False) (nil_ints _ _ _) (fun y hy => hy.elim) (by simp)).mono ?_; rintro e w8 ⟨v8, rfl, h8, b8⟩; rw [srt_nil] at h8; obtain ⟨A8, c8, rfl⟩ := row_form h8; have L8 := Seg.hid (Ow.LGrow.below Ow.keepsOI2 HG.out.1 b8); have B8 := Seg.hid (chain HG.out.2 b8); clear h8 b8)
    go_wp2
    go_loopw [5, 12] (fun v i wr => i = .int .i64 0 ∧ Hid (Ow.LGrow 29 1 Ow.EOI2 wr b2 v RR ∧ Below w.heap.size w wr)) (fun _ _ _ => 0)
    case atStart => exact ⟨rfl, L8.out, B8.out⟩
    case round =>
    obtain ⟨rfl, HT⟩ := hrel
    go_wp2
    go_ret
    exact ⟨_, rfl, ⟨b2, by have := S0.out; omega, HT.out.1⟩, HT.out.2⟩
end Go.Proofs.Ytkohhcjpjloaaaa.WsS
