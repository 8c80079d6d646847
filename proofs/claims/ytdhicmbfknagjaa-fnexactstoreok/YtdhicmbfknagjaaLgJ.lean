/- LogOk of the program: the walk. -/
import Derived.Test.YtdhicmbfknagjaaLgI
namespace Go.Proofs.Ytdhicmbfknagjaa.LgI
set_option maxRecDepth 8000
open Go.RowKit
open LgP (inR many logOk)
open Bats SegW Segs LogW
open Recs (hsz Row below1 below2 BatAt RecsAt batVal Bat chain)
set_option linter.unusedVariables false
set_option maxHeartbeats 800000 in
theorem impl_no1 (v : Value) (l : Lg) (w : World) (lo b : Nat) (hv : LogAt w lo b v l) (hb : b ≤ w.heap.size) (h : LgP.bounds l = false) :
    Calls Try.prog 76 #[v] w fun e w' => e = .returned (.bool false) ∧ Below w.heap.size w w' := by
  obtain ⟨rv, rfl, H, ⟨hn, A, c, rfl, _⟩, _⟩ := hv
  have HB := Seg.hid h
  clear h
  unfold logVal
  go_enter Try.func76, Try.ntmps76
  go_wp2_with fail
  refine (bounds_any l.start l.next l.roll _ false HB.out _).mono ?_
  rintro e w1 ⟨rfl, b1⟩
  have B1 := Seg.hid (chain (below1 w _) b1)
  clear b1
  go_wp2
  go_ret
  exact ⟨rfl, B1.out⟩
set_option maxHeartbeats 800000 in
theorem impl_no2 (v : Value) (l : Lg) (w : World) (lo b : Nat) (hv : LogAt w lo b v l) (hb : b ≤ w.heap.size) (hf : FewL l) (h : LgP.bounds l = true) (h2 : LgP.counts l.segs = false) :
    Calls Try.prog 76 #[v] w fun e w' => e = .returned (.bool false) ∧ Below w.heap.size w w' := by
  obtain ⟨rv, rfl, hs⟩ := hv
  have HS := Seg.hid hs
  obtain ⟨H, ⟨hn, A, c, rfl, _⟩, _⟩ := hs
  have HB := Seg.hid h
  have HC := Seg.hid h2
  clear h h2
  unfold logVal
  go_enter Try.func76, Try.ntmps76
  go_wp2_with fail
  refine (bounds_any l.start l.next l.roll _ true HB.out _).mono ?_
  rintro e w1 ⟨rfl, b1⟩
  have B1 := Seg.hid (chain (below1 w _) b1)
  have T1 : w1.heap[w.heap.size]? = some (.cells (logArr l (.slice A l.segs.length c)) 70 (0, 0)) := (b1.block w.heap.size (by rw [hsz]; omega)).trans (heap_alloc_new _ _)
  have c3 : w1.cell? ⟨w.heap.size, 3, none⟩ = some (.slice A l.segs.length c) := cell_of_row w1 _ 3 _ _ (0, 0) T1
  clear b1 T1
  go_wp2_with fail
  refine (counts_any _ l.segs w1 lo b false HC.out (HS.out.below (B1.out.mono hb)) (Nat.le_trans hb B1.out.size) hf.1.1 hf.1.2).mono ?_
  rintro e w2 ⟨rfl, b2⟩
  have B2 := Seg.hid (chain B1.out b2)
  clear b2
  go_wp2
  go_ret
  exact ⟨rfl, B2.out⟩
set_option maxHeartbeats 1600000 in
theorem impl_core (l : Lg) (g o c : Nat) (H : Nat → Value) (w : World) (lo b : Nat) (hs : SegsAt w lo b (.slice (some ⟨g, o, none⟩) l.segs.length c) l.segs) (hb : b ≤ w.heap.size) (hf : FewL l) (h : LgP.bounds l = true) (h2 : LgP.counts l.segs = true) (hc : l.segs.length ≤ c) (hg : g < w.heap.size)
    (hh : ∀ i, i < l.segs.length → BatsAt w lo b (H i) (l.segs.getD i default).bats) (ha : ∀ i, i < l.segs.length → ∀ j, j < 2 → w.cell? ⟨g, o + i * 2 + j, none⟩ = some (segsCells l.segs H i j)) :
    Calls Try.prog 76 #[logVal l (.slice (some ⟨g, o, none⟩) l.segs.length c)] w fun e w' => e = .returned (.bool (LgP.stands l.next (LgP.segs 0 0 l.segs))) ∧ Below w.heap.size w w' := by
  have HS := Seg.hid hs
  have HB := Seg.hid h
  have HC := Seg.hid h2
  have HH := Seg.hid hh
  have HA := Seg.hid ha
  clear h h2 hs hh ha
  unfold logVal
  go_enter Try.func76, Try.ntmps76
  go_wp2_with fail
  refine (bounds_any l.start l.next l.roll _ true HB.out _).mono ?_
  rintro e w1 ⟨rfl, b1⟩
  have B1 := Seg.hid (chain (below1 w _) b1)
  have T1 : w1.heap[w.heap.size]? = some (.cells (logArr l (.slice (some ⟨g, o, none⟩) l.segs.length c)) 70 (0, 0)) := (b1.block w.heap.size (by rw [hsz]; omega)).trans (heap_alloc_new _ _)
  have c3 : w1.cell? ⟨w.heap.size, 3, none⟩ = some (.slice (some ⟨g, o, none⟩) l.segs.length c) := cell_of_row w1 _ 3 _ _ (0, 0) T1
  have hs1 := b1.size
  rw [hsz] at hs1
  have TT := Seg.hid T1
  clear b1 T1
  go_wp2_with fail
  refine (counts_any _ l.segs w1 lo b true HC.out (HS.out.below (B1.out.mono hb)) (Nat.le_trans hb B1.out.size) hf.1.1 hf.1.2).mono ?_
  rintro e w2 ⟨rfl, b2⟩
  have B2 := Seg.hid (chain B1.out b2)
  have T2 := Seg.hid ((b2.block w.heap.size (by omega)).trans TT.out)
  have hs2 := b2.size
  clear b2 TT c3
  have d3 : w2.cell? ⟨w.heap.size, 3, none⟩ = some (.slice (some ⟨g, o, none⟩) l.segs.length c) := cell_of_row w2 _ 3 _ _ (0, 0) T2.out
  go_wp2_with fail
  have BW := Seg.hid (fun (wr : World) (h : Below w2.heap.size w2 wr) => B2.out.trans (h.mono B2.out.size))
  have LW : Hid (∀ wr, Below w2.heap.size w2 wr → wr.heap[w.heap.size]? = some (.cells (logArr l (.slice (some ⟨g, o, none⟩) l.segs.length c)) 70 (0, 0))) := fun wr h => (h.block w.heap.size (by omega)).trans T2.out
  have hf1 := hf.1.1
  clear HB HC HS B1 d3
  go_loopw [3, 4, 21] (fun fr ep i wr => ∃ (k : Nat) (f e : Int), k ≤ l.segs.length ∧ fr = .int .i64 f ∧ ep = .int .i64 e ∧ i = .int .i64 k ∧ Hid (LgP.segs 0 0 l.segs = LgP.segs f e (l.segs.drop k) ∧ Below w2.heap.size w2 wr)) (fun _ _ i _ => l.segs.length - (intOf i).toNat)
  case atStart => exact ⟨0, 0, 0, Nat.zero_le _, rfl, rfl, rfl, rfl, Below.refl _ _⟩
  case round =>
    obtain ⟨k, f, e, hk, rfl, rfl, rfl, HR⟩ := hrel
    have L1 := LW.out wr HR.out.2
    have d3 : wr.cell? ⟨w.heap.size, 3, none⟩ = some (.slice (some ⟨g, o, none⟩) l.segs.length c) := cell_of_row wr _ 3 _ _ (0, 0) L1
    have d1 : wr.cell? ⟨w.heap.size, 1, none⟩ = some (.int .i64 l.next) := cell_of_row wr _ 1 _ _ (0, 0) L1
    by_cases hlt : k < l.segs.length
    · obtain ⟨c0, c1⟩ := six (six' HA.out (BW.out wr HR.out.2) hg) k hlt
      have SB := Seg.hid (HH.out k hlt)
      have FS := Seg.hid (hf.1.2 k hlt)
      obtain ⟨A1, k1, e1⟩ : ∃ A1 k1, H k = .slice A1 (l.segs.getD k default).bats.length k1 := by
        obtain ⟨_, ⟨_, A', c', e, _⟩, _⟩ := SB.out
        exact ⟨A', c', e⟩
      have R1 := HR.out.1
      rw [LgP.drop_at hlt] at R1
      rw [e1] at c1 SB
      have hdl : (l.segs.drop (k + 1)).length = l.segs.length - (k + 1) := List.length_drop
      have h0 : (0 : Int) ≤ (k : Int) := by omega
      have h1 : (k : Int) < (l.segs.length : Int) := by omega
      have l3 : ∀ o', (wr.alloc o').cell? ⟨w.heap.size, 3, none⟩ = some (.slice (some ⟨g, o, none⟩) l.segs.length c) := fun o' => by
        rw [((Below.refl wr.heap.size wr).alloc (Nat.le_refl _) o').cell (p := ⟨w.heap.size, 3, none⟩) (by have := HR.out.2.size; show w.heap.size < wr.heap.size; omega)]
        exact d3
      have RR := Seg.hid R1
      clear R1
      generalize l.segs.getD k default = sk at *
      have hws : w.heap.size < wr.heap.size := by have := HR.out.2.size; omega
      by_cases b1 : sk.base < f
      · have E : LgP.stands l.next (LgP.segs 0 0 l.segs) = false := by rw [RR.out, LgP.segs, if_neg (by omega)]; rfl
        have EH := Seg.hid E
        clear E
        have DN := Seg.hid ((BW.out wr HR.out.2).alloc (Nat.le_of_lt hws) (.cells #[.int .i64 sk.base, .slice A1 sk.bats.length k1] 115))
        go_wp2
        go_ret
        exact ⟨Seg.ret_bool EH.out.symm, DN.out⟩
      · by_cases b2 : sk.bats.length = 0
        · have e2 : sk.bats = [] := List.length_eq_zero_iff.1 b2
          have d4 := l3 (.cells #[.int .i64 sk.base, .slice A1 sk.bats.length k1] 115)
          have DN := Seg.hid ((BW.out wr HR.out.2).alloc (Nat.le_of_lt hws) (.cells #[.int .i64 sk.base, .slice A1 sk.bats.length k1] 115))
          have DM := Seg.hid (HR.out.2.alloc HR.out.2.size (.cells #[.int .i64 sk.base, .slice A1 sk.bats.length k1] 115))
          rw [b2] at d4 DN DM c1
          by_cases b3 : (k : Int) < (l.segs.length : Int) - 1
          · have E : LgP.stands l.next (LgP.segs 0 0 l.segs) = false := by rw [RR.out, LgP.segs, if_neg (by omega)]; rfl
            have EH := Seg.hid E
            clear E
            go_wp2
            go_ret
            exact ⟨Seg.ret_bool EH.out.symm, DN.out⟩
          · have E : LgP.segs 0 0 l.segs = LgP.segs sk.base e (l.segs.drop (k + 1)) := by
              rw [RR.out, LgP.segs, if_pos ⟨by omega, by omega⟩, e2]
              rfl
            have EE := Seg.hid E
            clear E
            go_wp2_with fail
            go_loop [3, 4, 49] (fun fr ep j => fr = .int .i64 sk.base ∧ ep = .int .i64 e ∧ j = .int .i64 0) (fun _ _ _ => 0)
            case atStart => exact ⟨rfl, rfl, rfl⟩
            case round =>
              obtain ⟨rfl, rfl, rfl⟩ := hrel
              go_wp2_with fail
              go_roundw
              case rel => exact ⟨k + 1, sk.base, e, by omega, rfl, rfl, by go_num, EE.out, DM.out⟩
              case measure => simp [intOf]; omega
        · obtain ⟨HB2, ⟨_, A2, k2, e2, hx⟩, hx2⟩ := SB.out
          cases e2
          obtain ⟨g2, o2, rfl, hg2, hc2, hcell2, _⟩ := hx.resolve_left b2
          have HX2 := Seg.hid hx2
          have HC2 := Seg.hid hcell2
          have hbl := FS.out.1
          clear hx hx2 hcell2 l3
          have DM := Seg.hid (HR.out.2.alloc HR.out.2.size (.cells #[.int .i64 sk.base, .slice (some ⟨g2, o2, none⟩) sk.bats.length k1] 115))
          have EE : Hid (LgP.segs 0 0 l.segs = match LgP.bats sk.base e sk.bats with | none => none | some (f, e) => LgP.segs f e (l.segs.drop (k + 1))) := by
            show LgP.segs 0 0 l.segs = _
            rw [RR.out, LgP.segs, if_pos ⟨by omega, fun h => absurd h b2⟩]
            cases LgP.bats sk.base e sk.bats <;> rfl
          clear RR
          go_wp2_with fail
          go_loopw [3, 4, 49] (fun fr ep j wq => ∃ (m : Nat) (f' e' : Int), m ≤ sk.bats.length ∧ fr = .int .i64 f' ∧ ep = .int .i64 e' ∧ j = .int .i64 m ∧ Hid (LgP.bats sk.base e sk.bats = LgP.bats f' e' (sk.bats.drop m) ∧ Below w2.heap.size w2 wq)) (fun _ _ j _ => sk.bats.length - (intOf j).toNat)
          case atStart => exact ⟨0, sk.base, e, Nat.zero_le _, rfl, rfl, rfl, rfl, DM.out⟩
          case round =>
            obtain ⟨m, f', e', hm, rfl, rfl, rfl, HQ⟩ := hrel
            have BQ := Seg.hid (BW.out _ HQ.out.2)
            by_cases hm2 : m < sk.bats.length
            · obtain ⟨c0, c1, c2, c3, c4, c5, c6⟩ := Bats.six (Bats.six' HC2.out BQ.out (by omega)) m hm2
              have Q1 := HQ.out.1
              rw [LgP.drop_at hm2] at Q1
              have QQ := Seg.hid Q1
              clear Q1
              have RX := Seg.hid (HX2.out m hm2)
              obtain ⟨A3, k3, e3⟩ : ∃ A3 k3, HB2 m = .slice A3 (sk.bats.getD m default).recs.length k3 := by
                obtain ⟨_, ⟨_, A', c', e, _⟩, _⟩ := RX.out
                exact ⟨A', c', e⟩
              rw [e3] at c6 RX
              have h2 : (0 : Int) ≤ (m : Int) := by omega
              have h3 : (m : Int) < (sk.bats.length : Int) := by omega
              generalize sk.bats.getD m default = t at *
              have hqs : w.heap.size < wr.heap.size := by have := HQ.out.2.size; omega
              have DQ := Seg.hid (HQ.out.2.alloc HQ.out.2.size (.cells #[.int .i64 t.base, .int .i64 t.epoch, .int .i64 t.producer, .int .i64 t.turn, .int .i64 t.seq, .int .i64 t.flags, .slice A3 t.recs.length k3] 118))
              have RY := Seg.hid (RX.out.below ((BW.out _ DQ.out).mono hb))
              go_wp2_with fail
              refine (BOk.impl_any (batVal t (.slice A3 t.recs.length k3)) t _ lo b ⟨_, rfl, RY.out⟩ (by rw [hsz]; omega)).mono ?_
              rintro e5 w5 ⟨rfl, b5⟩
              have s5 := b5.size
              rw [hsz] at s5
              have T5 : w5.heap[wr.heap.size]? = some (.cells (BatW.batArr t (.slice A3 t.recs.length k3)) 118 (0, 0)) := (b5.block _ (by rw [hsz]; omega)).trans (heap_alloc_new _ _)
              have D5 := Seg.hid (DQ.out.trans (b5.mono DQ.out.size))
              have R5 := Seg.hid (RY.out.below (b5.mono (show b ≤ _ by rw [hsz]; omega)))
              have t0 : w5.cell? ⟨wr.heap.size, 0, none⟩ = some (.int .i64 t.base) := cell_of_row w5 _ 0 _ _ (0, 0) T5
              have t1 : w5.cell? ⟨wr.heap.size, 1, none⟩ = some (.int .i64 t.epoch) := cell_of_row w5 _ 1 _ _ (0, 0) T5
              have TH := Seg.hid T5
              clear b5 DQ RY T5 c0 c1 c2 c3 c4 c5 c6
              have NO : Hid (¬ (BOk.batOk t = true ∧ f' ≤ t.base ∧ e' ≤ t.epoch) → LgP.stands l.next (LgP.segs 0 0 l.segs) = false) := fun hno => by
                rw [EE.out, QQ.out, LgP.bats, if_neg hno]
                rfl
              cases hok : BOk.batOk t with
              | false =>
                have EH := Seg.hid (NO.out (by rw [hok]; simp))
                go_wp2
                go_ret
                exact ⟨Seg.ret_bool EH.out.symm, BW.out _ D5.out⟩
              | true =>
                by_cases q1 : t.base < f'
                · have EH := Seg.hid (NO.out (by omega))
                  go_wp2
                  go_ret
                  exact ⟨Seg.ret_bool EH.out.symm, BW.out _ D5.out⟩
                by_cases q2 : t.epoch < e'
                · have EH := Seg.hid (NO.out (by omega))
                  go_wp2
                  go_ret
                  exact ⟨Seg.ret_bool EH.out.symm, BW.out _ D5.out⟩
                have YE : Hid (LgP.bats sk.base e sk.bats = LgP.bats (t.base + t.recs.length) t.epoch (sk.bats.drop (m + 1))) := by
                  show LgP.bats sk.base e sk.bats = _
                  rw [QQ.out, LgP.bats, if_pos ⟨hok, by omega, by omega⟩]
                clear NO QQ
                have t2 : w5.cell? ⟨wr.heap.size, 2, none⟩ = some (.int .i64 t.producer) := cell_of_row w5 _ 2 _ _ (0, 0) TH.out
                have t3 : w5.cell? ⟨wr.heap.size, 3, none⟩ = some (.int .i64 t.turn) := cell_of_row w5 _ 3 _ _ (0, 0) TH.out
                have t4 : w5.cell? ⟨wr.heap.size, 4, none⟩ = some (.int .i64 t.seq) := cell_of_row w5 _ 4 _ _ (0, 0) TH.out
                have t5 : w5.cell? ⟨wr.heap.size, 5, none⟩ = some (.int .i64 t.flags) := cell_of_row w5 _ 5 _ _ (0, 0) TH.out
                have t6 : w5.cell? ⟨wr.heap.size, 6, none⟩ = some (.slice A3 t.recs.length k3) := cell_of_row w5 _ 6 _ _ (0, 0) TH.out
                have RD : Hid (RecsAt w5.drew lo b (.slice A3 t.recs.length k3) t.recs) := R5.out
                clear TH R5
                go_wp2_with fail
                go_region_with (go_at_call 111; refine (behind_any (batVal t (.slice A3 t.recs.length k3)) t w5.drew lo b ⟨_, rfl, RD.out⟩ hok).mono ?_; rintro e6 w6 ⟨rfl, b6⟩; have u1 : w6.cell? ⟨wr.heap.size, 1, none⟩ = some (.int .i64 t.epoch) := (by rw [b6.cell (p := ⟨wr.heap.size, 1, none⟩) (by show wr.heap.size < w5.heap.size; omega)]; exact t1); have D6 := Seg.hid (D5.out.drew.trans (b6.mono (by exact D5.out.size))); clear b6)
                all_goals
                  go_wp2_with fail
                  go_roundw
                  case rel => exact ⟨m + 1, _, _, by omega, rfl, rfl, by go_num, YE.out, D6.out⟩
                  case measure => simp [intOf]; omega
            · have : m = sk.bats.length := by omega
              subst this
              have E3 : LgP.segs 0 0 l.segs = LgP.segs f' e' (l.segs.drop (k + 1)) := by
                rw [EE.out, HQ.out.1, List.drop_length]
                rfl
              have E4 := Seg.hid E3
              clear E3
              go_wp2_with fail
              go_roundw
              case rel => exact ⟨k + 1, f', e', by omega, rfl, rfl, by go_num, E4.out, HQ.out.2⟩
              case measure => simp [intOf]; omega
    · have : k = l.segs.length := by omega
      subst this
      have E : LgP.stands l.next (LgP.segs 0 0 l.segs) = decide (f ≤ l.next) := by
        rw [HR.out.1, List.drop_length]
        rfl
      have EH := Seg.hid E
      clear E
      go_wp2
      go_ret
      exact ⟨Seg.ret_bool EH.out.symm, BW.out _ HR.out.2⟩
end Go.Proofs.Ytdhicmbfknagjaa.LgI
