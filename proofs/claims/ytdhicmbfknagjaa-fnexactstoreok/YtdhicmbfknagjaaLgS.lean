/- LogOk of the model. -/
import Derived.Test.YtdhicmbfknagjaaLgP
import Derived.Test.YtdhicmbfknagjaaBOkM
import Derived.Test.YtdhicmbfknagjaaInB
namespace Go.Proofs.Ytdhicmbfknagjaa.LgS
set_option maxRecDepth 8000
open Go.RowKit
open LgP (inR many logOk)
open InB (l1In_b)
open Bats SegW Segs LogW
open Recs (hsz Row below1 below2 BatAt RecsAt batVal Bat chain)
set_option linter.unusedVariables false
/-- What the model asks ahead of the segments. -/
def ahead (l : Lg) : Bool := decide (l.segs.length ≤ 60) && (inR l.roll 1 20000 && (inR l.next 0 1000000000 && inR l.start 0 l.next))
set_option maxHeartbeats 800000 in
theorem spec_core (l : Lg) (g o c : Nat) (H : Nat → Value) (w : World) (lo b : Nat) (hb : b ≤ w.heap.size) (hf : FewL l) (hw : ∀ i, i < l.segs.length → -9223372036854775808 ≤ (l.segs.getD i default).base ∧ (l.segs.getD i default).base ≤ 9223372036854775807) (h0 : l.segs.length ≤ 60) (h1 : inR l.roll 1 20000 = true) (h2 : inR l.next 0 1000000000 = true) (h3 : inR l.start 0 l.next = true) (hc : l.segs.length ≤ c) (hg : g < w.heap.size)
    (hh : ∀ i, i < l.segs.length → BatsAt w lo b (H i) (l.segs.getD i default).bats) (ha : ∀ i, i < l.segs.length → ∀ j, j < 2 → w.cell? ⟨g, o + i * 2 + j, none⟩ = some (segsCells l.segs H i j)) :
    Calls Try.prog 36 #[logVal l (.slice (some ⟨g, o, none⟩) l.segs.length c)] w fun e w' => e = .returned (.bool (LgP.stands l.next (LgP.segs 0 0 l.segs) && decide (many l.segs ≤ 400))) ∧ Below w.heap.size w w' := by
  have H1 := Seg.hid h1
  have H2 := Seg.hid h2
  have H3 := Seg.hid h3
  have HH := Seg.hid hh
  have HA := Seg.hid ha
  clear h1 h2 h3 hh ha
  unfold logVal
  go_enter Try.func36, Try.ntmps36
  go_wp2_with fail
  refine (l1In_b l.roll 1 20000 true H1.out _).mono ?_
  rintro _ _ ⟨rfl, rfl⟩
  go_wp2_with fail
  refine (l1In_b l.next 0 1000000000 true H2.out _).mono ?_
  rintro _ _ ⟨rfl, rfl⟩
  go_wp2_with fail
  refine (l1In_b l.start 0 l.next true H3.out _).mono ?_
  rintro _ _ ⟨rfl, rfl⟩
  go_wp2_with fail
  obtain ⟨w1, hw1⟩ : ∃ w1, w1 = w.alloc (.cells #[.int .i64 l.start, .int .i64 l.next, .int .i64 l.roll, .slice (some ⟨g, o, none⟩) l.segs.length c] 70) := ⟨_, rfl⟩
  have B1 : Hid (Below w.heap.size w w1) := by rw [hw1]; exact below1 w _
  have hs1 : w1.heap.size = w.heap.size + 1 := by rw [hw1]; exact hsz _ _
  have LW : Hid (∀ wr, Below w1.heap.size w1 wr → wr.heap[w.heap.size]? = some (.cells (logArr l (.slice (some ⟨g, o, none⟩) l.segs.length c)) 70 (0, 0))) := fun wr h => (h.block w.heap.size (by omega)).trans (by rw [hw1]; exact heap_alloc_new _ _)
  rw [← hw1]
  clear hw1
  have BW := Seg.hid (fun (wr : World) (h : Below w1.heap.size w1 wr) => B1.out.trans (h.mono B1.out.size))
  have hf1 := hf.1.1
  go_loopw [3, 4, 5, 6] (fun bh ep mn i wr => ∃ (k q : Nat) (f e : Int), k ≤ l.segs.length ∧ bh = .int .i64 (f - 1) ∧ ep = .int .i64 e ∧ mn = .int .i64 q ∧ i = .int .i64 k ∧ 0 ≤ f ∧ q ≤ k * 1048576 ∧ Hid (q = many (l.segs.take k)) ∧ Hid (LgP.segs 0 0 l.segs = LgP.segs f e (l.segs.drop k) ∧ Below w1.heap.size w1 wr)) (fun _ _ _ i _ => l.segs.length - (intOf i).toNat)
  case atStart => exact ⟨0, 0, 0, 0, Nat.zero_le _, rfl, rfl, rfl, rfl, by omega, by omega, rfl, rfl, Below.refl _ _⟩
  case round =>
    obtain ⟨k, q, f, e, hk, rfl, rfl, rfl, rfl, hf0, hq2, HM, HR⟩ := hrel
    have L1 := LW.out wr HR.out.2
    have d3 : wr.cell? ⟨w.heap.size, 3, none⟩ = some (.slice (some ⟨g, o, none⟩) l.segs.length c) := cell_of_row wr _ 3 _ _ (0, 0) L1
    have d1 : wr.cell? ⟨w.heap.size, 1, none⟩ = some (.int .i64 l.next) := cell_of_row wr _ 1 _ _ (0, 0) L1
    by_cases hlt : k < l.segs.length
    · obtain ⟨c0, c1⟩ := six (six' HA.out (BW.out wr HR.out.2) hg) k hlt
      have SB := Seg.hid (HH.out k hlt)
      have FS := Seg.hid (hf.1.2 k hlt)
      have hwk := hw k hlt
      obtain ⟨A1, k1, e1⟩ : ∃ A1 k1, H k = .slice A1 (l.segs.getD k default).bats.length k1 := by
        obtain ⟨_, ⟨_, A', c', e, _⟩, _⟩ := SB.out
        exact ⟨A', c', e⟩
      have R1 := HR.out.1
      rw [LgP.drop_at hlt] at R1
      rw [e1] at c1 SB
      have MD := Seg.hid (LgP.many_drop l.segs k hlt)
      have hdl : (l.segs.drop (k + 1)).length = l.segs.length - (k + 1) := List.length_drop
      have h0' : (0 : Int) ≤ (k : Int) := by omega
      have h1 : (k : Int) < (l.segs.length : Int) := by omega
      have hws : w.heap.size < wr.heap.size := by have := HR.out.2.size; omega
      have RR := Seg.hid R1
      clear R1
      clear hw
      generalize l.segs.getD k default = sk at *
      have d4 : (wr.alloc (.cells #[.int .i64 sk.base, .slice A1 sk.bats.length k1] 115)).cell? ⟨w.heap.size, 3, none⟩ = some (.slice (some ⟨g, o, none⟩) l.segs.length c) := by
        rw [((Below.refl wr.heap.size wr).alloc (Nat.le_refl _) (.cells #[.int .i64 sk.base, .slice A1 sk.bats.length k1] 115)).cell (p := ⟨w.heap.size, 3, none⟩) hws]
        exact d3
      have DM := Seg.hid (HR.out.2.alloc HR.out.2.size (.cells #[.int .i64 sk.base, .slice A1 sk.bats.length k1] 115))
      by_cases b1 : sk.base < f
      · have E : LgP.stands l.next (LgP.segs 0 0 l.segs) = false := by rw [RR.out, LgP.segs, if_neg (by omega)]; rfl
        have EH := Seg.hid E
        clear E
        go_wp2
        go_ret
        exact ⟨Seg.ret_bool (by rw [EH.out]; rfl), BW.out _ DM.out⟩
      · by_cases b2 : sk.bats.length = 0
        · have e2 : sk.bats = [] := List.length_eq_zero_iff.1 b2
          rw [b2] at d4 DM c1
          by_cases b3 : (k : Int) < (l.segs.length : Int) - 1
          · have E : LgP.stands l.next (LgP.segs 0 0 l.segs) = false := by rw [RR.out, LgP.segs, if_neg (by omega)]; rfl
            have EH := Seg.hid E
            clear E
            go_wp2
            go_ret
            exact ⟨Seg.ret_bool (by rw [EH.out]; rfl), BW.out _ DM.out⟩
          · have E : LgP.segs 0 0 l.segs = LgP.segs sk.base e (l.segs.drop (k + 1)) := by
              rw [RR.out, LgP.segs, if_pos ⟨by omega, by omega⟩, e2]
              rfl
            have EE := Seg.hid E
            clear E
            have hq3 : q ≤ (k + 1) * 1048576 := by rw [Nat.succ_mul]; exact Nat.le_trans hq2 (Nat.le_add_right _ _)
            have MZ : Hid (q = many (l.segs.take (k + 1))) := by
              show q = _
              rw [MD.out, b2, HM.out]
              omega
            go_wp2_with fail
            go_loop [3, 4, 5, 8] (fun bh ep mn j => bh = .int .i64 (f - 1) ∧ ep = .int .i64 e ∧ mn = .int .i64 q ∧ j = .int .i64 0) (fun _ _ _ _ => 0)
            case atStart => exact ⟨rfl, rfl, rfl, rfl⟩
            case round =>
              obtain ⟨rfl, rfl, rfl, rfl⟩ := hrel
              by_cases b4 : f - 1 < sk.base - 1
              · go_wp2_with fail
                go_roundw
                case rel => exact ⟨k + 1, q, sk.base, e, by omega, rfl, rfl, rfl, by go_num, by omega, hq3, MZ, EE.out, DM.out⟩
                case measure => simp [intOf]; omega
              · go_wp2_with fail
                go_roundw
                case rel => exact ⟨k + 1, q, sk.base, e, by omega, by rw [show sk.base = f by omega], rfl, rfl, by go_num, by omega, hq3, MZ, EE.out, DM.out⟩
                case measure => simp [intOf]; omega
        · obtain ⟨HB2, ⟨_, A2, k2, e2, hx⟩, hx2⟩ := SB.out
          cases e2
          obtain ⟨g2, o2, rfl, hg2, hc2, hcell2, _⟩ := hx.resolve_left b2
          have HX2 := Seg.hid hx2
          have HC2 := Seg.hid hcell2
          have hbl := FS.out.1
          clear hx hx2 hcell2
          have EE : Hid (LgP.segs 0 0 l.segs = match LgP.bats sk.base e sk.bats with | none => none | some (f, e) => LgP.segs f e (l.segs.drop (k + 1))) := by
            show LgP.segs 0 0 l.segs = _
            rw [RR.out, LgP.segs, if_pos ⟨by omega, fun h => absurd h b2⟩]
            cases LgP.bats sk.base e sk.bats <;> rfl
          clear RR
          obtain ⟨wr0, hwr0⟩ : ∃ wr0, wr0 = wr := ⟨_, rfl⟩
          obtain ⟨w3, hw3⟩ : ∃ w3, w3 = wr.alloc (.cells #[.int .i64 sk.base, .slice (some ⟨g2, o2, none⟩) sk.bats.length k1] 115) := ⟨_, rfl⟩
          have D3 : Hid (Below w1.heap.size w1 w3) := by rw [hw3]; exact DM.out
          have hs3 : w3.heap.size = wr.heap.size + 1 := by rw [hw3]; exact hsz _ _
          have SW : Hid (∀ wq, Below w3.heap.size w3 wq → wq.heap[wr0.heap.size]? = some (.cells #[.int .i64 sk.base, .slice (some ⟨g2, o2, none⟩) sk.bats.length k1] 115 (0, 0))) := fun wq h => by rw [hwr0]; exact (h.block _ (by omega)).trans (by rw [hw3]; exact heap_alloc_new _ _)
          have B3 := Seg.hid (fun (wq : World) (h : Below w3.heap.size w3 wq) => D3.out.trans (h.mono D3.out.size))
          go_wp2_with fail
          rw [← hw3]
          clear hw3 DM d4
          rw [← hwr0] at hs3 ⊢
          clear hwr0
          go_loopw [3, 4, 5, 8] (fun bh ep mn j wq => ∃ (m : Nat) (f' e' bv : Int), m ≤ sk.bats.length ∧ bh = .int .i64 bv ∧ ep = .int .i64 e' ∧ mn = .int .i64 ((q + m : Nat) : Int) ∧ j = .int .i64 m ∧ (bv = f' - 1 ∧ sk.base ≤ bv ∨ m = 0 ∧ bv = f - 1 ∧ f' = sk.base) ∧ Hid (LgP.bats sk.base e sk.bats = LgP.bats f' e' (sk.bats.drop m) ∧ Below w3.heap.size w3 wq)) (fun _ _ _ j _ => sk.bats.length - (intOf j).toNat)
          case atStart => exact ⟨0, sk.base, e, f - 1, Nat.zero_le _, rfl, rfl, rfl, rfl, .inr ⟨rfl, rfl, rfl⟩, rfl, Below.refl _ _⟩
          case round =>
            obtain ⟨m, f', e', bv, hm, rfl, rfl, rfl, rfl, hbv, HQ⟩ := hrel
            have S1 := SW.out wr HQ.out.2
            have s0 : wr.cell? ⟨wr0.heap.size, 0, none⟩ = some (.int .i64 sk.base) := cell_of_row wr _ 0 _ _ (0, 0) S1
            have s1 : wr.cell? ⟨wr0.heap.size, 1, none⟩ = some (.slice (some ⟨g2, o2, none⟩) sk.bats.length k1) := cell_of_row wr _ 1 _ _ (0, 0) S1
            have BQ := Seg.hid (BW.out _ (B3.out _ HQ.out.2))
            have hqs := HQ.out.2.size
            by_cases hm2 : m < sk.bats.length
            · obtain ⟨c0, c1, c2, c3, c4, c5, c6⟩ := Bats.six (Bats.six' HC2.out BQ.out (by omega)) m hm2
              have Q1 := HQ.out.1
              rw [LgP.drop_at hm2] at Q1
              have QQ := Seg.hid Q1
              clear Q1
              have RX := Seg.hid (HX2.out m hm2)
              obtain ⟨A3, k3, e3⟩ : ∃ A3 k3, HB2 m = .slice A3 (sk.bats.getD m default).recs.length k3 := by
                obtain ⟨_, ⟨_, A', c', e, _⟩, _⟩ := RX.out
                exact ⟨A', c', e⟩
              rw [e3] at c6 RX
              have h2 : (0 : Int) ≤ (m : Int) := by omega
              have h3 : (m : Int) < (sk.bats.length : Int) := by omega
              generalize sk.bats.getD m default = t at *
              have DQ := Seg.hid (HQ.out.2.alloc HQ.out.2.size (.cells #[.int .i64 t.base, .int .i64 t.epoch, .int .i64 t.producer, .int .i64 t.turn, .int .i64 t.seq, .int .i64 t.flags, .slice A3 t.recs.length k3] 118))
              have RY := Seg.hid (RX.out.below ((BW.out _ (B3.out _ DQ.out)).mono hb))
              have hqb : b ≤ wr.heap.size := by have := BQ.out.size; omega
              go_wp2_with fail
              refine (BOk.spec_any (batVal t (.slice A3 t.recs.length k3)) t _ lo b ⟨_, rfl, RY.out⟩ (by rw [hsz]; omega)).mono ?_
              rintro e5 w5 ⟨rfl, b5⟩
              have s5 := b5.size
              rw [hsz] at s5
              have T5 : w5.heap[wr.heap.size]? = some (.cells (BatW.batArr t (.slice A3 t.recs.length k3)) 118 (0, 0)) := (b5.block _ (by rw [hsz]; omega)).trans (heap_alloc_new _ _)
              have D5 := Seg.hid (DQ.out.trans (b5.mono DQ.out.size))
              have R5 := Seg.hid (RY.out.below (b5.mono (show b ≤ _ by rw [hsz]; omega)))
              have t0 : w5.cell? ⟨wr.heap.size, 0, none⟩ = some (.int .i64 t.base) := cell_of_row w5 _ 0 _ _ (0, 0) T5
              have t1 : w5.cell? ⟨wr.heap.size, 1, none⟩ = some (.int .i64 t.epoch) := cell_of_row w5 _ 1 _ _ (0, 0) T5
              have v0 : w5.cell? ⟨wr0.heap.size, 0, none⟩ = some (.int .i64 sk.base) := cell_of_row w5 _ 0 _ _ (0, 0) (SW.out w5 D5.out)
              have TH := Seg.hid T5
              clear b5 DQ RY T5 c0 c1 c2 c3 c4 c5 c6 s0 s1 S1
              have NO : Hid (¬ (BOk.batOk t = true ∧ f' ≤ t.base ∧ e' ≤ t.epoch) → LgP.stands l.next (LgP.segs 0 0 l.segs) = false) := fun hno => by
                rw [EE.out, QQ.out, LgP.bats, if_neg hno]
                rfl
              cases hok : BOk.batOk t with
              | false =>
                have EH := Seg.hid (NO.out (by rw [hok]; simp))
                go_wp2
                go_ret
                exact ⟨Seg.ret_bool (by rw [EH.out]; rfl), BW.out _ (B3.out _ D5.out)⟩
              | true =>
                by_cases q1 : t.base ≤ bv
                · have EH := Seg.hid (NO.out (by omega))
                  go_wp2
                  go_ret
                  exact ⟨Seg.ret_bool (by rw [EH.out]; rfl), BW.out _ (B3.out _ D5.out)⟩
                by_cases q0 : t.base < sk.base
                · have EH := Seg.hid (NO.out (by omega))
                  go_wp2
                  go_ret
                  exact ⟨Seg.ret_bool (by rw [EH.out]; rfl), BW.out _ (B3.out _ D5.out)⟩
                by_cases q2 : t.epoch < e'
                · have EH := Seg.hid (NO.out (by omega))
                  go_wp2
                  go_ret
                  exact ⟨Seg.ret_bool (by rw [EH.out]; rfl), BW.out _ (B3.out _ D5.out)⟩
                have YE : Hid (LgP.bats sk.base e sk.bats = LgP.bats (t.base + t.recs.length) t.epoch (sk.bats.drop (m + 1))) := by
                  show LgP.bats sk.base e sk.bats = _
                  rw [QQ.out, LgP.bats, if_pos ⟨hok, by omega, by omega⟩]
                have hol := LgP.okLen hok
                have LL : BOk.last t = t.base + t.recs.length - 1 := by unfold BOk.last; rw [if_pos hok]
                clear NO QQ
                go_wp2_with (first | (refine wpList_load_row rfl 118 _ rfl wr.heap.size rfl _ _ _ _ TH.out Try.underlying118 rfl BatW.info40 ?_))
                refine (BOk.specLast_any (batVal t (.slice A3 t.recs.length k3)) t _ lo b ⟨_, rfl, R5.out⟩ (by omega)).mono ?_
                rintro e6 w6 ⟨rfl, b6⟩
                rw [LL]
                have u1 : w6.cell? ⟨wr.heap.size, 1, none⟩ = some (.int .i64 t.epoch) := by rw [b6.cell (p := ⟨wr.heap.size, 1, none⟩) (by show wr.heap.size < _; omega)]; exact t1
                have D6 := Seg.hid (D5.out.trans (b6.mono D5.out.size))
                clear b6 D5 R5 t0 t1 v0 TH LL
                go_wp2_with fail
                go_roundw
                case rel => exact ⟨m + 1, t.base + t.recs.length, t.epoch, t.base + t.recs.length - 1, by omega, rfl, rfl, by go_num, by go_num, .inl ⟨rfl, by omega⟩, YE.out, D6.out⟩
                case measure => simp [intOf]; omega
            · have : m = sk.bats.length := by omega
              subst this
              have hbe : bv = f' - 1 ∧ sk.base ≤ bv := hbv.resolve_right (fun h => b2 h.1)
              have E3 : LgP.segs 0 0 l.segs = LgP.segs f' e' (l.segs.drop (k + 1)) := by
                rw [EE.out, HQ.out.1, List.drop_length]
                rfl
              have E4 := Seg.hid E3
              have MZ : Hid (q + sk.bats.length = many (l.segs.take (k + 1))) := by
                show _ = _
                rw [MD.out, HM.out]
              have D7 := Seg.hid (B3.out _ HQ.out.2)
              clear E3
              go_wp2_with fail
              go_roundw
              case rel => exact ⟨k + 1, q + sk.bats.length, f', e', by omega, by rw [hbe.1], rfl, rfl, by go_num, by omega, by omega, MZ, E4.out, D7.out⟩
              case measure => simp [intOf]; omega
    · have : k = l.segs.length := by omega
      subst this
      have E : LgP.stands l.next (LgP.segs 0 0 l.segs) = decide (f ≤ l.next) := by
        rw [HR.out.1, List.drop_length]
        rfl
      have EH := Seg.hid E
      have HM2 : Hid (q = many l.segs) := by
        have := HM.out
        rw [List.take_length] at this
        exact this
      clear E
      by_cases hfn : f - 1 < l.next
      · go_wp2
        go_ret
        exact ⟨Seg.ret_bool (by rw [EH.out, decide_eq_true (show f ≤ l.next by omega), Bool.true_and]; rw [Bool.eq_iff_iff]; have := HM2.out; simp; omega), BW.out _ HR.out.2⟩
      · go_wp2
        go_ret
        exact ⟨Seg.ret_bool (by rw [EH.out, decide_eq_false (show ¬ f ≤ l.next by omega)]; rfl), BW.out _ HR.out.2⟩
end Go.Proofs.Ytdhicmbfknagjaa.LgS
