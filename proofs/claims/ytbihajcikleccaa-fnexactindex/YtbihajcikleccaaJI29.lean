/- Sizes of batches and Index of the program; Index of the program: the walk. -/
import Derived.Deep.AppendLies
import Derived.Test.YtbihajcikleccaaJI16
import Derived.Test.YtbihajcikleccaaJI28
import Derived.Test.YtbihajcikleccaaJI22
namespace Go.Proofs.Ytbihajcikleccaa.IdI
set_option maxRecDepth 8000
open Go.RowKit
open Recs (hsz Row below1 below2 BatAt RecsAt batVal Bat Rec chain chainD)
open Bats SegW Ent IdP
set_option linter.unusedVariables false
theorem size_le {t : Bat} (h : BOk.batOk t = true) : 1 ≤ size t ∧ size t ≤ 100000 := by
  obtain ⟨p1, p2, p3, p4, p5, p6, p7, p8⟩ := WrI.ok_parts h
  have hk := WrI.bodyS_facts t 2 p8 p7
  have hb : (WrP.numsB (WrP.headN 2 t (WrP.bodyS t 2).length)).length ≤ 10 * 7 := PuI.numsB_le _ fun x hx => by
    simp [WrP.headN] at hx
    omega
  have e : size t = (WrP.pre t 2).length + 4 := by
    unfold size
    rw [WrI.wr_yes h rfl, List.length_append]
    rfl
  have e2 : (WrP.pre t 2).length = 2 + (WrP.numsB (WrP.headN 2 t (WrP.bodyS t 2).length)).length + (WrP.bodyS t 2).length := by
    simp only [WrP.pre, List.length_append, List.length_cons, List.length_nil]
  omega
theorem batchSize_any (v : Value) (t : Bat) (w : World) (lo b : Nat) (hv : BatAt w lo b v t) (hb : b ≤ w.heap.size) :
    Calls Try.prog 39 #[v] w fun e w' => e = .returned (.int .i64 (size t)) ∧ Below w.heap.size w w' := by
  have HV := Seg.hid hv
  obtain ⟨rv, rfl, H, ⟨hn, A, c, rfl, hx1⟩, hx2⟩ := hv
  clear hx1 hx2
  unfold batVal at HV ⊢
  go_enter Try.func39, Try.ntmps39
  go_wp2_with fail
  refine (WrI.impl_any _ t 2 (w.alloc _) lo b (HV.out.below ((below1 w _).mono hb)) (by rw [hsz]; omega)).mono ?_
  rintro e w1 ⟨g, cap, rfl, o1, b1⟩
  have B1 := Seg.hid (chain (below1 w _) b1)
  clear b1 o1
  go_wp2
  go_ret
  exact ⟨rfl, B1.out⟩
set_option maxHeartbeats 800000 in
theorem batchesOk_core (g o c : Nat) (bs : List Bat) (H : Nat → Value) (w : World) (lo b : Nat) (hn : bs.length ≤ 1048576) (hc : bs.length ≤ c) (hg : g < w.heap.size) (hb : b ≤ w.heap.size) (hh : ∀ i, i < bs.length → RecsAt w lo b (H i) (bs.getD i default).recs)
    (ha : ∀ i, i < bs.length → ∀ j, j < 7 → w.cell? ⟨g, o + i * 7 + j, none⟩ = some (batsCells bs H i j)) :
    Calls Try.prog 38 #[.slice (some ⟨g, o, none⟩) bs.length c] w fun e w' => e = .returned (.bool (okAll bs)) ∧ Below w.heap.size w w' := by
  have HA := Seg.hid ha
  have HH := Seg.hid hh
  clear ha hh
  go_enter Try.func38, Try.ntmps38
  go_wp2_with fail
  go_loopw [7] (fun i wr => ∃ k : Nat, k ≤ bs.length ∧ i = .int .i64 k ∧ Hid (okAll bs = okAll (bs.drop k) ∧ Below w.heap.size w wr)) (fun i _ => bs.length - (intOf i).toNat)
  case atStart => exact ⟨0, Nat.zero_le _, rfl, rfl, Below.refl _ _⟩
  case round =>
    obtain ⟨k, hk, rfl, HR⟩ := hrel
    by_cases hlt : k < bs.length
    · obtain ⟨c0, c1, c2, c3, c4, c5, c6⟩ := Bats.six (Bats.six' HA.out HR.out.2 hg) k hlt
      have RX := Seg.hid (HH.out k hlt)
      obtain ⟨A3, k3, e3⟩ : ∃ A3 k3, H k = .slice A3 (bs.getD k default).recs.length k3 := by
        obtain ⟨_, ⟨_, A', c', e, _⟩, _⟩ := RX.out
        exact ⟨A', c', e⟩
      have R1 := HR.out.1
      rw [LgP.drop_at hlt] at R1
      have RR := Seg.hid R1
      clear R1
      rw [e3] at c6 RX
      have h0 : (0 : Int) ≤ (k : Int) := by omega
      have h1 : (k : Int) < (bs.length : Int) := by omega
      have hws := HR.out.2.size
      generalize bs.getD k default = t at *
      have DQ := Seg.hid (HR.out.2.alloc hws (.cells #[.int .i64 t.base, .int .i64 t.epoch, .int .i64 t.producer, .int .i64 t.turn, .int .i64 t.seq, .int .i64 t.flags, .slice A3 t.recs.length k3] 54))
      have RY := Seg.hid (RX.out.below (DQ.out.mono hb))
      go_wp2_with fail
      refine (BOk.impl_any (batVal t (.slice A3 t.recs.length k3)) t _ lo b ⟨_, rfl, RY.out⟩ (by rw [hsz]; omega)).mono ?_
      rintro e5 w5 ⟨rfl, b5⟩
      have D5 := Seg.hid (DQ.out.trans (b5.mono DQ.out.size))
      clear b5 DQ RY
      cases hok : BOk.batOk t with
      | false =>
        have EH : Hid (okAll bs = false) := by
          show okAll bs = false
          rw [RR.out]
          simp [okAll, hok]
        go_wp2
        go_ret
        exact ⟨Seg.ret_bool EH.out.symm, D5.out⟩
      | true =>
        have EH : Hid (okAll bs = okAll (bs.drop (k + 1))) := by
          show okAll bs = _
          rw [RR.out]
          simp [okAll, hok]
        go_wp2_with fail
        go_roundw
        case rel => exact ⟨k + 1, by omega, by go_num, EH.out, D5.out⟩
        case measure => simp [intOf]; omega
    · have : k = bs.length := by omega
      subst this
      have EH : Hid (okAll bs = true) := by
        show okAll bs = true
        rw [HR.out.1, List.drop_length]
        rfl
      go_wp2
      go_ret
      exact ⟨Seg.ret_bool EH.out.symm, HR.out.2⟩
theorem batchesOk_none (A : Option Addr) (c : Nat) (w : World) :
    Calls Try.prog 38 #[.slice A 0 c] w fun e w' => e = .returned (.bool true) ∧ Below w.heap.size w w' := by
  go_enter Try.func38, Try.ntmps38
  go_wp2_with fail
  go_loop [7] (fun i => i = .int .i64 0) (fun _ => 0)
  case atStart => rfl
  case round =>
    subst hrel
    go_wp2
    go_ret
    exact ⟨rfl, Below.refl _ _⟩
theorem batchesOk_any (v : Value) (bs : List Bat) (w : World) (lo b : Nat) (hv : BatsAt w lo b v bs) (hb : b ≤ w.heap.size) (hl : bs.length ≤ 1048576) :
    Calls Try.prog 38 #[v] w fun e w' => e = .returned (.bool (okAll bs)) ∧ Below w.heap.size w w' := by
  obtain ⟨H, ⟨hn, A, c, rfl, h⟩, hh⟩ := hv
  by_cases hz : bs.length = 0
  · rw [hz]
    obtain rfl := List.length_eq_zero_iff.1 hz
    exact batchesOk_none A c w
  obtain ⟨g, o, rfl, hg, hc, hcell, _⟩ := h.resolve_left hz
  exact batchesOk_core g o c bs H w lo b hl hc (by omega) hb hh hcell
end Go.Proofs.Ytbihajcikleccaa.IdI
namespace Go.Proofs.Ytbihajcikleccaa.IdI
set_option maxRecDepth 8000
open Go.RowKit
open Recs (hsz Row below1 below2 BatAt RecsAt batVal Bat Rec chain chainD)
open Bats SegW Ent IdP
open InB (within_b)
set_option linter.unusedVariables false
theorem infoE : (Try.prog.info? 68).map (fun i => (i.zero, i.size, i.bytes)) = some (some (.agg #[.int .i64 0, .int .i64 0, .int .i64 0]), 3, 24) := by kernel_rfl
theorem okAll_get {bs : List Bat} (h : okAll bs = true) (k : Nat) (hk : k < bs.length) : BOk.batOk (bs.getD k default) = true := by
  unfold okAll at h
  rw [List.all_eq_true] at h
  have := h bs[k] (List.getElem_mem hk)
  simpa [hk] using this
theorem lit0 (w : World) (hb : Nat) (h : hb ≤ w.heap.size) : EsAt (w.alloc (.cells #[] 68)) hb (.slice (some ⟨w.heap.size, 0, none⟩) 0 0) [] := World.ownsRow_lit w #[] 0 h (Nat.zero_le _) rfl
/-- Behind the entry: what is told of the list, of the batch's block and of the rest. -/
structure JI (every : Int) (w w2 wr wq : World) (bs : List Bat) (es : List En) (k : Nat) (a tm d : Int) (t : Bat) (u : Value) (o : Obj) : Prop where
  eq : idx every 0 0 0 bs = es ++ idx every (a + size t) (tmax tm t.recs) d (bs.drop (k + 1))
  own : EsAt wq (w.heap.size + 1) u es
  le : es.length ≤ k + 1
  bel : Below (w.heap.size + 1) w2 wq
  blk : wq.heap[wr.heap.size]? = some o
  lt : wr.heap.size < wq.heap.size
set_option maxHeartbeats 1600000 in
theorem impl_core (every s0 : Int) (g o c : Nat) (bs : List Bat) (H : Nat → Value) (w : World) (lo b : Nat) (hn : bs.length ≤ 1048576) (hc : bs.length ≤ c) (hg : g < w.heap.size) (hb : b ≤ w.heap.size) (hbs : BatsAt w lo b (.slice (some ⟨g, o, none⟩) bs.length c) bs) (hh : ∀ i, i < bs.length → RecsAt w lo b (H i) (bs.getD i default).recs)
    (ha : ∀ i, i < bs.length → ∀ j, j < 7 → w.cell? ⟨g, o + i * 7 + j, none⟩ = some (batsCells bs H i j)) (he : (decide (1 ≤ every) && decide (every ≤ 20000)) = true) (hok : okAll bs = true) :
    Calls Try.prog 16 #[.agg #[.int .i64 s0, .slice (some ⟨g, o, none⟩) bs.length c], .int .i64 every] w fun e w' => ∃ u, e = .returned u ∧ EsAt w' (w.heap.size + 1) u (idx every 0 0 0 bs) ∧ Below w.heap.size w w' := by
  obtain ⟨i0, hi, hz0, hz1, hz2⟩ := info_parts infoE
  have HA := Seg.hid ha
  have HH := Seg.hid hh
  have HS := Seg.hid hbs
  have HE := Seg.hid he
  have HK := Seg.hid hok
  clear ha hh hbs he hok
  go_enter Try.func16, Try.ntmps16
  go_wp2_with fail
  refine (within_b every 1 20000 true HE.out _).mono ?_
  rintro _ _ ⟨rfl, rfl⟩
  go_wp2_with fail
  have hbw : b ≤ ((w.alloc (.cells #[.int .i64 s0, .slice (some ⟨g, o, none⟩) bs.length c] 43)).alloc (.cells #[] 68)).heap.size := by rw [hsz, hsz]; omega
  refine (batchesOk_any _ bs _ lo b (HS.out.below ((below2 w _ _).mono hb)) hbw hn).mono ?_
  rw [HK.out]
  rintro e w2 ⟨rfl, b2⟩
  have hs2 := b2.size
  rw [hsz, hsz] at hs2
  have T2 : Hid (∀ wr, Below (w.heap.size + 1) w2 wr → wr.heap[w.heap.size]? = some (.cells #[.int .i64 s0, .slice (some ⟨g, o, none⟩) bs.length c] 43 (0, 0))) := fun wr h => by
    rw [h.block _ (by omega), b2.block _ (by rw [hsz, hsz]; omega), heap_alloc_old _ _ (by rw [hsz]; omega), heap_alloc_new]
  have B2 := Seg.hid (chain (below2 w _ _) b2)
  have E2 : Hid (EsAt w2 (w.heap.size + 1) (.slice (some ⟨w.heap.size + 1, 0, none⟩) 0 0) []) := by
    have := lit0 (w.alloc (.cells #[.int .i64 s0, .slice (some ⟨g, o, none⟩) bs.length c] 43)) (w.heap.size + 1) (by rw [hsz]; omega)
    rw [hsz] at this
    exact this.below b2 (Nat.le_refl _)
  have BW := Seg.hid (fun (wr : World) (h : Below (w.heap.size + 1) w2 wr) => B2.out.trans (h.mono (by omega)))
  clear b2 hbw
  have d1 := cell_of_row w2 w.heap.size 1 _ _ _ (T2.out w2 (Below.refl _ _))
  simp at d1
  go_wp2_with fail
  go_loopw [5, 6, 7, 8, 27] (fun u at_ tm du i wr => ∃ (k : Nat) (es : List En) (a t d : Int) (ul : Value), k ≤ bs.length ∧ u = ul ∧ at_ = .int .i64 a ∧ tm = .int .i64 t ∧ du = .int .i64 d ∧ i = .int .i64 k ∧ 0 ≤ a ∧ a ≤ k * 100000 ∧ es.length ≤ k ∧ Hid (idx every 0 0 0 bs = es ++ idx every a t d (bs.drop k) ∧ EsAt wr (w.heap.size + 1) ul es ∧ Below (w.heap.size + 1) w2 wr)) (fun _ _ _ _ i _ => bs.length - (intOf i).toNat)
  case atStart => exact ⟨0, [], 0, 0, 0, _, Nat.zero_le _, rfl, rfl, rfl, rfl, rfl, by omega, by omega, by simp, rfl, E2.out, Below.refl _ _⟩
  case round =>
    obtain ⟨k, es, a, tm, d, ul, hk, rfl, rfl, rfl, rfl, rfl, ha0, ha1, hes, HR⟩ := hrel
    by_cases hlt : k < bs.length
    · obtain ⟨c0, c1, c2, c3, c4, c5, c6⟩ := Bats.six (Bats.six' HA.out (BW.out wr HR.out.2.2) hg) k hlt
      have RX := Seg.hid (HH.out k hlt)
      obtain ⟨A3, k3, e3⟩ : ∃ A3 k3, H k = .slice A3 (bs.getD k default).recs.length k3 := by
        obtain ⟨_, ⟨_, A', c', e, _⟩, _⟩ := RX.out
        exact ⟨A', c', e⟩
      have R1 := HR.out.1
      rw [LgP.drop_at hlt] at R1
      have RR := Seg.hid R1
      clear R1
      rw [e3] at c6 RX
      have okt := okAll_get HK.out k hlt
      have h0 : (0 : Int) ≤ (k : Int) := by omega
      have h1 : (k : Int) < (bs.length : Int) := by omega
      have hws := HR.out.2.2.size
      have EW := Seg.hid HR.out.2.1
      have DW := Seg.hid HR.out.2.2
      generalize bs.getD k default = t at *
      have hsz9 := size_le okt
      have DB := Seg.hid (DW.out.alloc (by omega) (.cells #[.int .i64 t.base, .int .i64 t.epoch, .int .i64 t.producer, .int .i64 t.turn, .int .i64 t.seq, .int .i64 t.flags, .slice A3 t.recs.length k3] 54))
      have BB : Hid ((wr.alloc (.cells #[.int .i64 t.base, .int .i64 t.epoch, .int .i64 t.producer, .int .i64 t.turn, .int .i64 t.seq, .int .i64 t.flags, .slice A3 t.recs.length k3] 54)).heap[wr.heap.size]? = some (.cells #[.int .i64 t.base, .int .i64 t.epoch, .int .i64 t.producer, .int .i64 t.turn, .int .i64 t.seq, .int .i64 t.flags, .slice A3 t.recs.length k3] 54 (0, 0))) := heap_alloc_new _ _
      have EB := Seg.hid (EW.out.below ((Below.refl wr.heap.size wr).alloc (Nat.le_refl _) (.cells #[.int .i64 t.base, .int .i64 t.epoch, .int .i64 t.producer, .int .i64 t.turn, .int .i64 t.seq, .int .i64 t.flags, .slice A3 t.recs.length k3] 54)) (Nat.le_refl _))
      go_upto_region 8 with fail
      rename_i Qi K2 a2 K1 a1 K0 a0
      have J : ∀ (x31 x32 x33 x34 x35 x36 x37 x38 x39 x40 x41 x42 x43 x44 uL : Value) (es' : List En) (d' : Int) (wq : World), Hid (JI every w w2 wr wq bs es' k a tm d' t uL (.cells #[.int .i64 t.base, .int .i64 t.epoch, .int .i64 t.producer, .int .i64 t.turn, .int .i64 t.seq, .int .i64 t.flags, .slice A3 t.recs.length k3] 54 (0, 0))) → K1 ⟨List.toArray (.agg #[.int .i64 s0, .slice (some ⟨g, o, none⟩) bs.length c] :: .int .i64 every :: .pointer (some ⟨w.heap.size, 0, none⟩) :: undef :: .slice none 0 0 :: uL :: .int .i64 a :: .int .i64 tm :: .int .i64 d' :: undef :: .pointer (some ⟨wr.heap.size, 0, none⟩) :: undef :: u12 :: .slice (some ⟨w.heap.size + 1, 0, none⟩) 0 0 :: .int .i64 every :: .bool true :: .bool false :: .bool false :: .pointer (some ⟨w.heap.size, 1, none⟩) :: .slice (some ⟨g, o, none⟩) bs.length c :: .bool true :: .bool false :: .bool false :: undef :: .pointer (some ⟨w.heap.size, 1, none⟩) :: .slice (some ⟨g, o, none⟩) bs.length c :: .int .i64 (bs.length : Int) :: .int .i64 (k : Int) :: .bool true :: .pointer (some ⟨g, o + k * 7, none⟩) :: .agg #[.int .i64 t.base, .int .i64 t.epoch, .int .i64 t.producer, .int .i64 t.turn, .int .i64 t.seq, .int .i64 t.flags, .slice A3 t.recs.length k3] :: x31 :: x32 :: x33 :: x34 :: x35 :: x36 :: x37 :: x38 :: x39 :: x40 :: x41 :: x42 :: x43 :: x44 :: u45 :: u46 :: u47 :: u48 :: u49 :: u50 :: u51 :: u52 :: u53 :: u54 :: u55 :: u56 :: u57 :: u58 :: u59 :: u60 :: u61 :: undef :: []), []⟩ wq := by
        clear a0 K0 EB EW DB BB RR c0 c1 c2 c3 c4 c5 c6 hi hz0 hz1 hz2
        intro x31 x32 x33 x34 x35 x36 x37 x38 x39 x40 x41 x42 x43 x44 uL es' d' wq HJ
        refine a1 _ _ ?_
        clear a1 K1
        have TH := Seg.hid HJ.out.blk
        have hq := HJ.out.lt
        have DJ := Seg.hid HJ.out.bel
        have RJ := Seg.hid (RX.out.below ((BW.out _ DJ.out).mono hb))
        have hbq : b ≤ wq.heap.size := by have := (BW.out _ DJ.out).size; omega
        go_wp2_with (first | (refine wpList_load_row rfl 54 _ rfl wr.heap.size rfl _ _ _ _ TH.out Try.underlying54 rfl BatW.info40 ?_))
        refine (batchSize_any (batVal t (.slice A3 t.recs.length k3)) t _ lo b ⟨_, rfl, RJ.out⟩ hbq).mono ?_
        rintro e w6 ⟨rfl, b6⟩
        have T6 := (b6.block _ hq).trans TH.out
        have t6 : w6.cell? ⟨wr.heap.size, 6, none⟩ = some (.slice A3 t.recs.length k3) := cell_of_row w6 _ 6 _ _ (0, 0) T6
        have D6 := Seg.hid (DJ.out.trans (b6.mono (by omega)))
        have E6 := Seg.hid (HJ.out.own.below b6 (Nat.le_refl _))
        have EQ := Seg.hid HJ.out.eq
        have hle := HJ.out.le
        have s6 := b6.size
        clear b6 HJ TH T6 DJ RJ
        have hl := LgP.okLen okt
        obtain ⟨H3, ⟨_, A4, k4, e4, hx⟩, hhd⟩ := RX.out
        have HD3 := Seg.hid hhd
        clear hhd
        cases e4
        obtain ⟨g3, o3, rfl, hg3, hc3, hcell3, _⟩ := hx.resolve_left (by omega)
        have HC3 := Seg.hid hcell3
        clear hx hcell3
        go_wp2_with fail
        go_loopw [7, 52] (fun tv j wx => ∃ (m : Nat) (t' : Int), m ≤ t.recs.length ∧ tv = .int .i64 t' ∧ j = .int .i64 m ∧ Hid (tmax tm t.recs = tmax t' (t.recs.drop m) ∧ Below w6.heap.size w6 wx)) (fun _ j _ => t.recs.length - (intOf j).toNat)
        case atStart => exact ⟨0, tm, Nat.zero_le _, rfl, rfl, rfl, Below.refl _ _⟩
        case round =>
          obtain ⟨m, t', hm, rfl, rfl, HQ⟩ := hrel
          have DX := Seg.hid (D6.out.trans (HQ.out.2.mono (by omega)))
          by_cases hm2 : m < t.recs.length
          · obtain ⟨c0, c1, c2, c3, c4, c5⟩ := RecsW.six (RecsW.six' HC3.out (BW.out _ DX.out) (by omega)) m hm2
            have Q1 := HQ.out.1
            rw [LgP.drop_at hm2] at Q1
            have QQ := Seg.hid Q1
            clear Q1
            have h2 : (0 : Int) ≤ (m : Int) := by omega
            have h3 : (m : Int) < (t.recs.length : Int) := by omega
            obtain ⟨_, A5, k5, e5, _⟩ := HD3.out m hm2
            rw [e5] at c5
            clear e5
            generalize t.recs.getD m default = r at *
            have DN := Seg.hid (HQ.out.2.alloc HQ.out.2.size (.cells #[.int .i64 r.time, .bool r.keyed, .string r.key, .bool r.gone, .string r.val, .slice A5 r.heads.length k5] 63))
            by_cases hgt : t' < r.time
            · have QN : Hid (tmax tm t.recs = tmax r.time (t.recs.drop (m + 1))) := by
                show tmax tm t.recs = _
                rw [QQ.out, tmax, if_pos hgt]
              go_wp2_with fail
              go_roundw
              case rel => exact ⟨m + 1, r.time, by omega, rfl, by go_num, QN.out, DN.out⟩
              case measure => simp [intOf]; omega
            · have QN : Hid (tmax tm t.recs = tmax t' (t.recs.drop (m + 1))) := by
                show tmax tm t.recs = _
                rw [QQ.out, tmax, if_neg hgt]
              go_wp2_with fail
              go_roundw
              case rel => exact ⟨m + 1, t', by omega, rfl, by go_num, QN.out, DN.out⟩
              case measure => simp [intOf]; omega
          · have : m = t.recs.length := by omega
            subst this
            have EF : Hid (idx every 0 0 0 bs = es' ++ idx every (a + size t) t' d' (bs.drop (k + 1))) := by
              show idx every 0 0 0 bs = _
              rw [EQ.out, HQ.out.1, List.drop_length]
              rfl
            have EX := Seg.hid (E6.out.below HQ.out.2 (Nat.le_refl _))
            go_wp2_with fail
            go_roundw
            case rel => exact ⟨k + 1, es', a + size t, t', d', uL, by omega, rfl, rfl, rfl, rfl, by go_num, by omega, by omega, hle, EF.out, EX.out, DX.out⟩
            case measure => simp [intOf]; omega
      clear a1
      by_cases hd : d ≤ a
      · have hev : 1 ≤ every ∧ every ≤ 20000 := by
          have := HE.out
          simp only [Bool.and_eq_true, decide_eq_true_eq] at this
          exact this
        unfold EsAt at EB
        go_wp2_with (at_builtin; (refine wpList_append_lies _ rfl (.tmp 34) (.tmp 40) 39 rfl (w.heap.size + 1) 68 i0 _ 3 24 Try.underlying39 hi hz0 hz1 hz2 rfl (by decide) u5 es.length (ecells es) ?zqs ?zqo ⟨wr.heap.size + 1, 0, none⟩ 1 1 [.int .i64 t.base, .int .i64 tm, .int .i64 a] ?zqx rfl ?zqn ?zq1 (by decide) ?zqb ?zqc ?zqd (wr.heap.size + 2) ?zqe ?_; (case zqs => rfl); (case zqo => exact World.ownsRow.alloc EB.out _); (case zqx => rfl); (case zqn => exact World.news_of_block (cs := #[.int .i64 t.base, .int .i64 tm, .int .i64 a]) (by have := heap_alloc_new (wr.alloc (.cells #[.int .i64 t.base, .int .i64 t.epoch, .int .i64 t.producer, .int .i64 t.turn, .int .i64 t.seq, .int .i64 t.flags, .slice A3 t.recs.length k3] 54)) (.cells #[.int .i64 t.base, .int .i64 tm, .int .i64 a] 68); rw [hsz] at this; exact this)); (case zq1 => simp [Value.oneCell']); (case zqb => unfold maxLen; omega); (case zqc => omega); (case zqd => rw [hsz, hsz]; omega); (case zqe => rw [hsz, hsz]); intro g6 cap6 w6 hown6 gr6 hat6 hlt6))
        have gA : (wr.alloc (.cells #[.int .i64 t.base, .int .i64 t.epoch, .int .i64 t.producer, .int .i64 t.turn, .int .i64 t.seq, .int .i64 t.flags, .slice A3 t.recs.length k3] 54)).heap.size = wr.heap.size + 1 := hsz _ _
        have NX : Hid (JI every w w2 wr w6 bs (es ++ [⟨t.base, tm, a⟩]) k a tm (a + every) t (.slice (some ⟨g6, 0, none⟩) (es.length + 1) cap6) (.cells #[.int .i64 t.base, .int .i64 t.epoch, .int .i64 t.producer, .int .i64 t.turn, .int .i64 t.seq, .int .i64 t.flags, .slice A3 t.recs.length k3] 54 (0, 0))) := by
          have hob : ∀ q, u5.ownBlock = some q → w.heap.size + 1 ≤ q ∧ q < wr.heap.size := fun q hq => World.ownsRow.lt EW.out q hq
          have s6 := gr6.size
          rw [hsz, hsz] at s6
          refine ⟨?_, ?_, by simp; omega, ?_, ?_, by omega⟩
          · rw [RR.out, idx, if_pos hd, if_pos hd, List.append_assoc]
          · unfold EsAt
            rw [ecells_app, List.length_append]
            exact hown6
          · exact (DB.out.alloc (by rw [hsz]; omega) _).grown gr6 (by rw [hsz, hsz]; omega) (fun q hq => (hob q hq).1)
          · rw [gr6.block _ (by rw [hsz, hsz]; omega) (fun e => by have := (hob _ e.symm).2; omega), heap_alloc_old _ _ (by rw [hsz]; omega)]
            exact BB.out
        clear hown6 gr6 hat6 hlt6
        exact J _ _ _ _ _ _ _ _ _ _ _ _ _ _ _ _ _ _ NX
      · have NX : Hid (JI every w w2 wr (wr.alloc (.cells #[.int .i64 t.base, .int .i64 t.epoch, .int .i64 t.producer, .int .i64 t.turn, .int .i64 t.seq, .int .i64 t.flags, .slice A3 t.recs.length k3] 54)) bs es k a tm d t u5 (.cells #[.int .i64 t.base, .int .i64 t.epoch, .int .i64 t.producer, .int .i64 t.turn, .int .i64 t.seq, .int .i64 t.flags, .slice A3 t.recs.length k3] 54 (0, 0))) := by
          refine ⟨?_, EB.out, by omega, DB.out, BB.out, by rw [hsz]; omega⟩
          rw [RR.out, idx, if_neg hd, if_neg hd]
          rfl
        go_wp2_with fail
        exact J _ _ _ _ _ _ _ _ _ _ _ _ _ _ _ _ _ _ NX
    · have : k = bs.length := by omega
      subst this
      have E : idx every 0 0 0 bs = es := by rw [HR.out.1, List.drop_length]; simp [idx]
      have EE := Seg.hid HR.out.2.1
      rw [← E] at EE
      go_wp2
      go_ret
      exact ⟨_, rfl, EE.out, BW.out _ HR.out.2.2⟩
set_option maxHeartbeats 800000 in
theorem impl_no1 (every s0 : Int) (A : Option Addr) (n c : Nat) (w : World) (he : (decide (1 ≤ every) && decide (every ≤ 20000)) = false) :
    Calls Try.prog 16 #[.agg #[.int .i64 s0, .slice A n c], .int .i64 every] w fun e w' => ∃ u, e = .returned u ∧ EsAt w' (w.heap.size + 1) u [] ∧ Below w.heap.size w w' := by
  have HE := Seg.hid he
  clear he
  have E2 := Seg.hid (lit0 (w.alloc (.cells #[.int .i64 s0, .slice A n c] 43)) (w.heap.size + 1) (by rw [hsz]; omega))
  rw [hsz] at E2
  go_enter Try.func16, Try.ntmps16
  go_wp2_with fail
  refine (within_b every 1 20000 false HE.out _).mono ?_
  rintro _ _ ⟨rfl, rfl⟩
  go_wp2
  go_ret
  exact ⟨_, rfl, E2.out, below2 _ _ _⟩
set_option maxHeartbeats 800000 in
theorem impl_no2 (every s0 : Int) (A : Option Addr) (c : Nat) (bs : List Bat) (w : World) (lo b : Nat) (hn : bs.length ≤ 1048576) (hb : b ≤ w.heap.size) (hbs : BatsAt w lo b (.slice A bs.length c) bs) (he : (decide (1 ≤ every) && decide (every ≤ 20000)) = true) (hok : okAll bs = false) :
    Calls Try.prog 16 #[.agg #[.int .i64 s0, .slice A bs.length c], .int .i64 every] w fun e w' => ∃ u, e = .returned u ∧ EsAt w' (w.heap.size + 1) u [] ∧ Below w.heap.size w w' := by
  have HE := Seg.hid he
  have HS := Seg.hid hbs
  have HK := Seg.hid hok
  clear he hbs hok
  have E2 := Seg.hid (lit0 (w.alloc (.cells #[.int .i64 s0, .slice A bs.length c] 43)) (w.heap.size + 1) (by rw [hsz]; omega))
  rw [hsz] at E2
  go_enter Try.func16, Try.ntmps16
  go_wp2_with fail
  refine (within_b every 1 20000 true HE.out _).mono ?_
  rintro _ _ ⟨rfl, rfl⟩
  go_wp2_with fail
  refine (batchesOk_any _ bs _ lo b (HS.out.below ((below2 w _ _).mono hb)) (by rw [hsz, hsz]; omega) hn).mono ?_
  rw [HK.out]
  rintro e w2 ⟨rfl, b2⟩
  have B2 := Seg.hid (chain (below2 w _ _) b2)
  have E3 := Seg.hid (E2.out.below b2 (Nat.le_refl _))
  clear b2
  go_wp2
  go_ret
  exact ⟨_, rfl, E3.out, B2.out⟩
set_option maxHeartbeats 800000 in
theorem impl_zero (every s0 : Int) (A : Option Addr) (c : Nat) (w : World) (he : (decide (1 ≤ every) && decide (every ≤ 20000)) = true) :
    Calls Try.prog 16 #[.agg #[.int .i64 s0, .slice A 0 c], .int .i64 every] w fun e w' => ∃ u, e = .returned u ∧ EsAt w' (w.heap.size + 1) u [] ∧ Below w.heap.size w w' := by
  have HE := Seg.hid he
  clear he
  have E2 := Seg.hid (lit0 (w.alloc (.cells #[.int .i64 s0, .slice A 0 c] 43)) (w.heap.size + 1) (by rw [hsz]; omega))
  rw [hsz] at E2
  go_enter Try.func16, Try.ntmps16
  go_wp2_with fail
  refine (within_b every 1 20000 true HE.out _).mono ?_
  rintro _ _ ⟨rfl, rfl⟩
  go_wp2_with fail
  refine (batchesOk_none A c _).mono ?_
  rintro e w2 ⟨rfl, b2⟩
  have T2 : w2.heap[w.heap.size]? = some (.cells #[.int .i64 s0, .slice A 0 c] 43 (0, 0)) := by
    rw [b2.block _ (by rw [hsz, hsz]; omega), heap_alloc_old _ _ (by rw [hsz]; omega), heap_alloc_new]
  have d1 : w2.cell? ⟨w.heap.size, 1, none⟩ = some (.slice A 0 c) := cell_of_row w2 _ 1 _ _ (0, 0) T2
  have B2 := Seg.hid (chain (below2 w _ _) b2)
  have E3 := Seg.hid (E2.out.below b2 (Nat.le_refl _))
  clear b2 T2 E2
  go_wp2_with fail
  go_loop [5, 6, 7, 8, 27] (fun u a t d i => u = .slice (some ⟨w.heap.size + 1, 0, none⟩) 0 0 ∧ a = .int .i64 0 ∧ t = .int .i64 0 ∧ d = .int .i64 0 ∧ i = .int .i64 0) (fun _ _ _ _ _ => 0)
  case atStart => exact ⟨rfl, rfl, rfl, rfl, rfl⟩
  case round =>
    obtain ⟨rfl, rfl, rfl, rfl, rfl⟩ := hrel
    go_wp2
    go_ret
    exact ⟨_, rfl, E3.out, B2.out⟩
theorem impl_any (every : Int) (v : Value) (s : Sg) (w : World) (lo b : Nat) (hv : SegAt w lo b v s) (hb : b ≤ w.heap.size) (hf : FewS s) :
    Calls Try.prog 16 #[v, .int .i64 every] w fun e w' => ∃ u, e = .returned u ∧ EsAt w' (w.heap.size + 1) u (ans every s.bats) ∧ Below w.heap.size w w' := by
  obtain ⟨rv, rfl, hs⟩ := hv
  have hs' := hs
  obtain ⟨H, ⟨hn, A, c, rfl, h⟩, hh⟩ := hs'
  unfold ans
  cases he : (decide (1 ≤ every) && decide (every ≤ 20000)) with
  | false => exact impl_no1 every s.base A s.bats.length c w he
  | true =>
  cases hok : okAll s.bats with
  | false => exact impl_no2 every s.base A c s.bats w lo b hf.1 hb hs he hok
  | true =>
  show Calls Try.prog 16 #[segVal s (.slice A s.bats.length c), .int .i64 every] w fun e w' => ∃ u, e = .returned u ∧ EsAt w' (w.heap.size + 1) u (idx every 0 0 0 s.bats) ∧ Below w.heap.size w w'
  by_cases hz : s.bats.length = 0
  · have e : idx every 0 0 0 s.bats = [] := by rw [List.length_eq_zero_iff.1 hz]; rfl
    rw [e, hz]
    exact impl_zero every s.base A c w he
  obtain ⟨g, o, rfl, hg, hc, hcell, _⟩ := h.resolve_left hz
  exact impl_core every s.base g o c s.bats H w lo b hf.1 hc (by omega) hb hs hh hcell he hok
end Go.Proofs.Ytbihajcikleccaa.IdI
