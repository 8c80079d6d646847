/- QuorumOk of the model. -/
import Derived.Test.YtdkfhjcockkleaaQkS
namespace Go.Proofs.Ytdkfhjcockkleaa.QkS
set_option maxRecDepth 8000
open Go.RowKit
open Ls QkP QkI
open Recs (hsz below1 below2 chain)
set_option linter.unusedVariables false
theorem l1In_q (x lo hi : Int) (b : Bool) (hb : inR lo x hi = b) (w : World) : Calls Try.prog 19 #[.int .i64 x, .int .i64 lo, .int .i64 hi] w fun e w' => e = .returned (.bool b) ∧ w' = w :=
  (InB.l1In_b x lo hi b hb w).mono fun e w' ⟨h1, h2⟩ => ⟨h1, h2.symm⟩
/-- The number ahead of place k (-1: none). -/
def pv (ns : List Int) (k : Nat) : Int := if k = 0 then -1 else ns.getD (k - 1) default
theorem St.drewN {w wr : World} {A0 A1 : Option Addr} {n0 n1 c0 c1 : Nat} (h : St w wr A0 A1 n0 n1 c0 c1) (d : Nat) : St w (wr.drewN d) A0 A1 n0 n1 c0 c1 := ⟨⟨h.bel.os, h.bel.tape, h.bel.output, h.bel.size, h.bel.block⟩, h.row⟩
/-- A world that has only drawn since. -/
structure Qt (a b : World) : Prop where
  heap : b.heap = a.heap
  os : b.os = a.os
  tape : b.tape = a.tape
  output : b.output = a.output
theorem Qt.drewN {a b : World} (h : Qt a b) (n : Nat) : Qt a (b.drewN n) := ⟨h.heap, h.os, h.tape, h.output⟩
theorem Qt.cell {a b : World} (h : Qt a b) (p : Addr) : b.cell? p = a.cell? p := World.cell?_of_block (w := a) (a := p) (by rw [h.heap])
theorem Qt.bel {a b : World} (h : Qt a b) (B : Nat) : Below B a b := ⟨h.os, h.tape, h.output, by rw [h.heap]; exact Nat.le_refl _, fun k _ => by rw [h.heap]⟩
set_option maxHeartbeats 3200000 in
theorem spec_any (x : Value) (q : Qrm) (w : World) (S : Nat → Prop) (hv : QrmAt w S x q) (hS : ∀ g, S g → g < w.heap.size) (hf : szQrm q ≤ 1048576) :
    Calls Try.prog 7 #[x] w fun e w' => e = .returned (.bool (quorum q)) ∧ Below w.heap.size w w' := by
  obtain ⟨f, rfl, y0, y1⟩ := hv
  unfold arrQrm
  obtain ⟨A0, c0, ga, oa, Fa, g0, OA, n0⟩ := opn y0 hS
  obtain ⟨A1, c1, gb, ob, Fb, g1, OB, n1⟩ := opn y1 hS
  rw [g0, g1]
  have HA := Seg.hid OA; have HB := Seg.hid OB
  have L0 : Hid (∀ i, i < q.voters.length → szVtr (q.voters.getD i default) ≤ 1048576) := fun i hi => szL_one _ (show szL szVtr q.voters ≤ 1048576 by unfold szQrm at hf; omega) hi
  have L1 : Hid (∀ i, i < q.net.length → szL szCmd (q.net.getD i default).cmds ≤ 1048576) := fun i hi => by
    have := szL_one _ (show szL szMsg q.net ≤ 1048576 by unfold szQrm at hf; omega) hi
    unfold szMsg at this; exact this
  clear y0 y1 OA OB g0 g1 hf
  go_enter Try.func7, Try.ntmps7
  have no : ∀ (w' : World), quorum q = false → Below w.heap.size w w' → (Ending.returned (.bool false) = .returned (.bool (quorum q)) ∧ Below w.heap.size w w') := fun w' h b => ⟨by rw [h], b⟩
  have NO := Seg.hid no
  clear no
  go_wp2_with fail
  cases h1 : inR 1 q.voters.length 5 with
  | false =>
    refine (InB.l1In_b _ _ _ false h1 _).mono ?_
    rintro e w1 ⟨rfl, rfl⟩
    have Z : Hid (quorum q = false) := by show _ = _; simp [quorum, h1]
    clear h1
    go_wp2
    go_ret
    exact NO.out _ Z.out (below1 _ _)
  | true =>
  refine (InB.l1In_b _ _ _ true h1 _).mono ?_
  rintro e w1 ⟨rfl, rfl⟩
  have K1 := Seg.hid h1
  have hn5 : 1 ≤ q.voters.length ∧ q.voters.length ≤ 5 := by simp [inR] at h1; omega
  clear h1
  by_cases hnet : q.net.length ≤ 400
  case neg =>
    have Z : Hid (quorum q = false) := by show _ = _; simp [quorum, hnet]
    go_wp2
    go_ret
    exact NO.out _ Z.out (below1 _ _)
  have KQ : Hid (quorum q = (voters q.voters.length q.voters && net q.net)) := by show _ = _; simp [quorum, K1.out, hnet]
  clear K1
  have ST : Hid (St w (w.alloc (.cells #[.slice A0 q.voters.length c0, .slice A1 q.net.length c1] 31 (0, 0))) A0 A1 q.voters.length q.net.length c0 c1) := ⟨below1 _ _, heap_alloc_new _ _⟩
  have e1 : IntKind.i64.wrap ((q.voters.length : Int) - 1) = (q.voters.length : Int) - 1 := by rw [IntKind.wrap_i64] <;> omega
  go_wp2_with fail
  go_loopw [4] (fun i wr => ∃ (k : Nat), k ≤ q.voters.length ∧ i = .int .i64 k ∧ Hid (voters q.voters.length (q.voters.drop k) = voters q.voters.length q.voters ∧ St w wr A0 A1 q.voters.length q.net.length c0 c1)) (fun i _ => q.voters.length - (intOf i).toNat)
  case atStart => exact ⟨0, Nat.zero_le _, rfl, rfl, ST.out⟩
  case round =>
    clear ST
    obtain ⟨k, hk, rfl, HR⟩ := hrel
    by_cases hlt : k < q.voters.length
    · obtain ⟨ea, hc, hga⟩ := HA.out.addr.resolve_left (by omega)
      have CL := cells_later HA.out.cells HR.out.2.bel hga
      have EL : EVtr wr S (Fa k) (q.voters.getD k default) := keepsVtr _ _ _ _ _ _ (HA.out.el k hlt) (fun g hg => HR.out.2.bel.block g (hS g hg)) (fun _ _ => rfl)
      have EL' := Seg.hid EL
      obtain ⟨A3, c3, A4, c4, A5, c5, A6, c6, ⟨d0, d1, d2, d3, d4, d5, d6, d7⟩, VA⟩ := vtr_cells (i := k) (fun j hj => CL k hlt j hj) EL
      have VF := Seg.hid (L0.out k hlt)
      have HD := HR.out.1
      rw [drop_cons hlt] at HD
      have HD' := Seg.hid HD
      obtain ⟨p0, p1⟩ := HR.out.2.cells
      have hlt1 := HR.out.2.lt
      have hSr : Hid (∀ g, S g → g < wr.heap.size) := fun g hg => Nat.lt_of_lt_of_le (hS g hg) HR.out.2.bel.size
      have h0 : (0 : Int) ≤ (k : Int) := by omega
      have h1 : (k : Int) < (q.voters.length : Int) := by omega
      have LL : Hid (IntsAt wr S (.slice A3 (q.voters.getD k default).votes.length c3) (q.voters.getD k default).votes ∧ LAt 2 ECmd wr S (.slice A4 (q.voters.getD k default).log.length c4) (q.voters.getD k default).log ∧ IntsAt wr S (.slice A5 (q.voters.getD k default).next.length c5) (q.voters.getD k default).next ∧ IntsAt wr S (.slice A6 (q.voters.getD k default).mtch.length c6) (q.voters.getD k default).mtch) := by
        obtain ⟨F, hF, y0, y1, y2, y3, y4, y5, y6, y7⟩ := VA
        simp only [arrVtr, Value.agg.injEq, Array.mk.injEq, List.cons.injEq, and_true] at hF
        obtain ⟨_, _, _, e3, e4, e5, e6, _⟩ := hF
        exact ⟨e3 ▸ y3, e4 ▸ y4, e5 ▸ y5, e6 ▸ y6⟩
      have HL : Hid (szL szCmd (q.voters.getD k default).log ≤ 1048576) := by show _ ≤ _; have := VF.out; unfold szVtr at this; omega
      clear CL EL VA HD EL' VF
      generalize q.voters.getD k default = vk at *
      have ZF : Hid (voter q.voters.length vk = false → quorum q = false) := fun hb => by rw [KQ.out, ← HD'.out]; simp [voters, hb]
      subst ea
      go_wp2_with fail
      cases b1 : inR 0 vk.term 1000000000000 with
      | false =>
        refine (InB.l1In_b _ _ _ false b1 _).mono ?_
        rintro e w1 ⟨rfl, rfl⟩
        have Z := Seg.hid (ZF.out (by simp [voter, first, b1]))
        clear b1
        go_wp2
        go_ret
        exact NO.out _ Z.out (HR.out.2.alloc _).bel
      | true =>
      refine (InB.l1In_b _ _ _ true b1 _).mono ?_
      rintro e w1 ⟨rfl, rfl⟩
      have K1 := Seg.hid b1
      clear b1
      go_wp2_with fail
      cases b2 : inR (-1) vk.vote ((q.voters.length : Int) - 1) with
      | false =>
        refine (InB.l1In_b _ _ _ false b2 _).mono ?_
        rintro e w1 ⟨rfl, rfl⟩
        have Z := Seg.hid (ZF.out (by simp [voter, first, b2]))
        clear b2
        go_wp2
        go_ret
        exact NO.out _ Z.out (HR.out.2.alloc _).bel
      | true =>
      refine (InB.l1In_b _ _ _ true b2 _).mono ?_
      rintro e w1 ⟨rfl, rfl⟩
      have K2 := Seg.hid b2
      clear b2
      go_wp2_with fail
      cases b3 : inR 0 vk.role 2 with
      | false =>
        refine (InB.l1In_b _ _ _ false b3 _).mono ?_
        rintro e w1 ⟨rfl, rfl⟩
        have Z := Seg.hid (ZF.out (by simp [voter, first, b3]))
        clear b3
        go_wp2
        go_ret
        exact NO.out _ Z.out (HR.out.2.alloc _).bel
      | true =>
      refine (InB.l1In_b _ _ _ true b3 _).mono ?_
      rintro e w1 ⟨rfl, rfl⟩
      have KF : Hid (first q.voters.length vk = true) := by show _ = _; simp [first, K1.out, K2.out, b3]
      clear b3 K1 K2
      go_wp2_with fail
      cases b4 : (cmds vk.log && terms vk.term 0 vk.log) with
      | false =>
        refine (cmds_any _ vk.log 0 vk.term false _ S (LL.out.2.1.below keepsCmd (below1 wr _) hSr.out) HL.out b4).mono ?_
        rintro e w1 ⟨rfl, rfl⟩
        have Z := Seg.hid (ZF.out (by
          have : second q.voters.length vk = false := by
            unfold second
            rw [← Bool.and_assoc (cmds vk.log), b4]; simp
          simp [voter, this]))
        clear b4
        go_wp2
        go_ret
        exact NO.out _ Z.out (HR.out.2.alloc _).bel
      | true =>
      refine (cmds_any _ vk.log 0 vk.term true _ S (LL.out.2.1.below keepsCmd (below1 wr _) hSr.out) HL.out b4).mono ?_
      rintro e w1 ⟨rfl, rfl⟩
      have K4 := Seg.hid b4
      clear b4
      go_wp2_with fail
      cases b5 : inR 0 vk.sealed vk.log.length with
      | false =>
        refine (InB.l1In_b _ _ _ false b5 _).mono ?_
        rintro e w1 ⟨rfl, rfl⟩
        have Z := Seg.hid (ZF.out (by simp [voter, second, b5]))
        clear b5
        go_wp2
        go_ret
        exact NO.out _ Z.out (HR.out.2.alloc _).bel
      | true =>
      refine (InB.l1In_b _ _ _ true b5 _).mono ?_
      rintro e w1 ⟨rfl, rfl⟩
      have KS : Hid (second q.voters.length vk = asc ((q.voters.length : Int) - 1) (-1) vk.votes) := by
        show _ = _
        unfold second
        rw [← Bool.and_assoc (cmds vk.log), K4.out, b5]; simp
      clear b5 K4
      obtain ⟨A3', c3', g3, o3, F3, e3, O3, n3⟩ := opn (LL.out.1.below keepsI (below1 wr _) hSr.out) (fun g hg => by rw [hsz]; have := hSr.out g hg; omega)
      simp only [Value.slice.injEq, true_and] at e3
      obtain ⟨rfl, rfl⟩ := e3
      have H3 := Seg.hid O3
      clear O3
      go_wp2_with fail
      obtain ⟨wi, hwi⟩ : ∃ wi, wr.alloc (.cells #[.int .i64 vk.term, .int .i64 vk.vote, .int .i64 vk.role, .slice A3 vk.votes.length c3, .slice A4 vk.log.length c4, .slice A5 vk.next.length c5, .slice A6 vk.mtch.length c6, .int .i64 vk.sealed] 45 (0, 0)) = wi := ⟨_, rfl⟩
      rw [hwi]
      have S1 : Hid (St w wi (some ⟨ga, oa, none⟩) A1 q.voters.length q.net.length c0 c1) := hwi ▸ HR.out.2.alloc _
      have V1 : Hid (Vs vk A3 A4 A5 A6 c3 c4 c5 c6 wi wr.heap.size) := ⟨hwi ▸ heap_alloc_new _ _⟩
      have LI : Hid (IntsAt wi S (.slice A5 vk.next.length c5) vk.next ∧ IntsAt wi S (.slice A6 vk.mtch.length c6) vk.mtch) := ⟨hwi ▸ LL.out.2.2.1.below keepsI (below1 wr _) hSr.out, hwi ▸ LL.out.2.2.2.below keepsI (below1 wr _) hSr.out⟩
      rw [hwi] at H3
      clear hwi LL d0 d1 d2 d3 d4 d5 d6 d7 p0 p1 HR
      obtain ⟨wo, hwo⟩ : ∃ wo, wo = wr := ⟨wr, rfl⟩
      subst hwo
      have VM : Hid ((q.voters.length : Int) - 1 ≤ 4) := by show _ ≤ _; omega
      go_loopw [6] (fun i wx => ∃ (j : Nat), j ≤ vk.votes.length ∧ i = .int .i64 j ∧ Hid (Qt wi wx) ∧ Hid (asc ((q.voters.length : Int) - 1) (pv vk.votes j) (vk.votes.drop j) = asc ((q.voters.length : Int) - 1) (-1) vk.votes ∧ -1 ≤ pv vk.votes j)) (fun i _ => vk.votes.length - (intOf i).toNat)
      case atStart => exact ⟨0, Nat.zero_le _, rfl, ⟨rfl, rfl, rfl, rfl⟩, rfl, by simp [pv]⟩
      case round =>
        obtain ⟨j, hj, rfl, HW, HQ⟩ := hrel
        obtain ⟨s0, s1, s2, s3, s4, s5, s6, s7⟩ := Vs.cells (v := vk) (w := wr) (g := wo.heap.size) ⟨by rw [HW.out.heap]; exact V1.out.row⟩
        by_cases hlj : j < vk.votes.length
        · obtain ⟨ea3, hc3, hga3⟩ := H3.out.addr.resolve_left (by omega)
          have IC : ∀ i, i < vk.votes.length → wr.cell? ⟨g3, o3 + i, none⟩ = some (.int .i64 (vk.votes.getD i default)) := fun i hi => by rw [HW.out.cell]; exact int_cell H3.out.cells H3.out.el i hi
          have i1 := IC j hlj
          have HQ1 := HQ.out.1
          rw [drop_cons hlj] at HQ1
          have HQ2 := HQ.out.2
          have i2 : Hid (0 < j → wr.cell? ⟨g3, o3 + (j - 1), none⟩ = some (.int .i64 (vk.votes.getD (j - 1) default)) ∧ pv vk.votes j = vk.votes.getD (j - 1) default) := fun h => ⟨IC (j - 1) (by omega), by simp [pv, show ¬ j = 0 by omega]⟩
          have hpn : Hid (pv vk.votes (j + 1) = vk.votes.getD j default) := by show _ = _; simp [pv]
          have hp0 : Hid (j = 0 → pv vk.votes j = -1) := fun h => by simp [pv, h]
          have k0 : (0 : Int) ≤ (j : Int) := by omega
          have k1 : (j : Int) < (vk.votes.length : Int) := by omega
          clear IC
          generalize vk.votes.getD j default = nj at *
          generalize pv vk.votes j = pj at *
          have HQ1' := Seg.hid HQ1
          clear HQ1
          subst ea3
          have ZA : Hid (inR (pj + 1) nj ((q.voters.length : Int) - 1) = false → quorum q = false) := fun hb => ZF.out (by
            have : second q.voters.length vk = false := by rw [KS.out, ← HQ1'.out]; simp only [asc, hb, Bool.false_and]
            simp [voter, this])
          cases hb : inR 0 nj ((q.voters.length : Int) - 1) with
          | false =>
            have Z := Seg.hid (ZA.out (by have hb' := hb; simp only [inR, Bool.and_eq_false_iff, decide_eq_false_iff_not] at hb' ⊢; omega))
            have HBn := Seg.hid hb
            clear hb
            go_wp2_with fail
            go_quiet (first | (go_at_call 19; refine Calls.quiet_of_same (l1In_q _ _ _ _ HBn.out _)))
            go_wp2
            go_ret
            exact NO.out _ Z.out (St.next S1.out ((HW.out.drewN _).bel _)).bel
          | true =>
            have hbb : 0 ≤ nj ∧ nj ≤ (q.voters.length : Int) - 1 := by simpa [inR] using hb
            have HBn := Seg.hid hb
            clear hb
            by_cases hj0 : j = 0
            · have hpj := hp0.out hj0
              have HE : Hid (asc ((q.voters.length : Int) - 1) nj (vk.votes.drop (j + 1)) = asc ((q.voters.length : Int) - 1) (-1) vk.votes) := by
                show _ = _
                rw [← HQ1'.out]
                have : inR (pj + 1) nj ((q.voters.length : Int) - 1) = true := by rw [hpj]; exact HBn.out
                simp only [asc, this, Bool.true_and]
              have hgd : decide ((0 : Int) < (j : Int)) = false := decide_eq_false (by omega)
              have hgd2 : decide (0 < j) = false := decide_eq_false (by omega)
              clear hpj hj0
              go_wp2_with fail
              go_quiet (first | (go_at_call 19; refine Calls.quiet_of_same (l1In_q _ _ _ _ HBn.out _)))
              go_wp2
              go_roundw
              case rel => exact ⟨j + 1, by omega, by go_num, HW.out.drewN _, by rw [hpn.out]; exact HE.out, by rw [hpn.out]; omega⟩
              case measure => simp [intOf]; omega
            · obtain ⟨i3, hpj⟩ := i2.out (by omega)
              have HPJ := Seg.hid hpj
              clear hpj
              have w1 : IntKind.i64.wrap ((j : Int) - 1) = (j : Int) - 1 := by rw [IntKind.wrap_i64] <;> omega
              have k2 : (0 : Int) ≤ (j : Int) - 1 := by omega
              have k3 : (j : Int) - 1 < (vk.votes.length : Int) := by omega
              have k4 : (0 : Int) < (j : Int) := by omega
              have k5 : 0 < j := by omega
              have k6 : (1 : Int) ≤ (j : Int) := by omega
              have k7 : 1 ≤ j := by omega
              generalize vk.votes.getD (j - 1) default = mj at *
              by_cases hge : nj ≤ mj
              · have Z := Seg.hid (ZA.out (by rw [HPJ.out]; simp only [inR, Bool.and_eq_false_iff, decide_eq_false_iff_not]; omega))
                go_wp2_with fail
                go_quiet (first | (go_at_call 19; refine Calls.quiet_of_same (l1In_q _ _ _ _ HBn.out _)))
                go_wp2
                go_ret
                exact NO.out _ Z.out (St.next S1.out ((HW.out.drewN _).bel _)).bel
              · have HE : Hid (asc ((q.voters.length : Int) - 1) nj (vk.votes.drop (j + 1)) = asc ((q.voters.length : Int) - 1) (-1) vk.votes) := by
                  show _ = _
                  rw [← HQ1'.out]
                  have : inR (pj + 1) nj ((q.voters.length : Int) - 1) = true := by rw [HPJ.out]; simp only [inR, Bool.and_eq_true, decide_eq_true_eq]; omega
                  simp only [asc, this, Bool.true_and]
                have hge2 : decide (nj ≤ mj) = false := decide_eq_false hge
                go_wp2_with fail
                go_quiet (first | (go_at_call 19; refine Calls.quiet_of_same (l1In_q _ _ _ _ HBn.out _)))
                go_wp2
                go_roundw
                case rel => exact ⟨j + 1, by omega, by go_num, HW.out.drewN _, by rw [hpn.out]; exact HE.out, by rw [hpn.out]; omega⟩
                case measure => simp [intOf]; omega
        · have hj' : j = vk.votes.length := by omega
          have KV : Hid (voter q.voters.length vk = third q.voters.length vk) := by
            show _ = _
            have := HQ.out.1
            rw [List.drop_eq_nil_of_le (by omega)] at this
            have h2 : second q.voters.length vk = true := by rw [KS.out, ← this]; rfl
            simp [voter, KF.out, h2]
          subst hj'
          clear HQ
          have S2 := Seg.hid (St.next S1.out (HW.out.bel _))
          have LI2 : Hid (IntsAt wr S (.slice A5 vk.next.length c5) vk.next ∧ IntsAt wr S (.slice A6 vk.mtch.length c6) vk.mtch) := ⟨LI.out.1.keep keepsI (fun g _ => by rw [HW.out.heap]), LI.out.2.keep keepsI (fun g _ => by rw [HW.out.heap])⟩
          have HE : Hid (voter q.voters.length vk = true → voters q.voters.length (q.voters.drop (k + 1)) = voters q.voters.length q.voters) := fun hb => by rw [← HD'.out]; simp [voters, hb]
          by_cases hr : vk.role = 2
          · have HRl := Seg.hid hr
            have hr2 : (vk.role == 2) = true := by simp [hr]
            clear hr
            cases h8 : nums vk.next q.voters.length vk.log.length with
            | false =>
              have Z := Seg.hid (ZF.out (by rw [KV.out]; simp [third, HRl.out, h8]))
              go_wp2_with fail
              refine (nums_any _ vk.next q.voters.length vk.log.length false _ S LI2.out.1 h8).mono ?_
              rintro e w3 ⟨rfl, rfl⟩
              clear h8
              go_wp2
              go_ret
              exact NO.out _ Z.out S2.out.bel
            | true =>
              go_wp2_with fail
              refine (nums_any _ vk.next q.voters.length vk.log.length true _ S LI2.out.1 h8).mono ?_
              rintro e w3 ⟨rfl, rfl⟩
              have K8 := Seg.hid h8
              clear h8
              go_wp2_with fail
              cases h9 : nums vk.mtch q.voters.length vk.log.length with
              | false =>
                have Z := Seg.hid (ZF.out (by rw [KV.out]; simp [third, HRl.out, K8.out, h9]))
                refine (nums_any _ vk.mtch q.voters.length vk.log.length false _ S LI2.out.2 h9).mono ?_
                rintro e w3 ⟨rfl, rfl⟩
                clear h9
                go_wp2
                go_ret
                exact NO.out _ Z.out S2.out.bel
              | true =>
                have E2 := Seg.hid (HE.out (by rw [KV.out]; simp [third, HRl.out, K8.out, h9]))
                refine (nums_any _ vk.mtch q.voters.length vk.log.length true _ S LI2.out.2 h9).mono ?_
                rintro e w3 ⟨rfl, rfl⟩
                clear h9
                go_wp2
                go_roundw
                case rel => exact ⟨k + 1, by omega, by go_num, E2.out, S2.out⟩
                case measure => simp [intOf]; omega
          · have HT3 : Hid (third q.voters.length vk = (nums vk.next 0 vk.log.length && nums vk.mtch 0 vk.log.length)) := by show _ = _; rw [nums_zero, nums_zero]; simp [third, hr]
            have hr2 : (vk.role == 2) = false := by simpa using hr
            clear hr
            cases h8 : nums vk.next 0 vk.log.length with
            | false =>
              have Z := Seg.hid (ZF.out (by rw [KV.out, HT3.out]; simp [h8]))
              go_wp2_with fail
              refine (nums_any _ vk.next 0 vk.log.length false _ S LI2.out.1 h8).mono ?_
              rintro e w3 ⟨rfl, rfl⟩
              clear h8
              go_wp2
              go_ret
              exact NO.out _ Z.out S2.out.bel
            | true =>
              go_wp2_with fail
              refine (nums_any _ vk.next 0 vk.log.length true _ S LI2.out.1 h8).mono ?_
              rintro e w3 ⟨rfl, rfl⟩
              have K8 := Seg.hid h8
              clear h8
              go_wp2_with fail
              cases h9 : nums vk.mtch 0 vk.log.length with
              | false =>
                have Z := Seg.hid (ZF.out (by rw [KV.out, HT3.out]; simp [K8.out, h9]))
                refine (nums_any _ vk.mtch 0 vk.log.length false _ S LI2.out.2 h9).mono ?_
                rintro e w3 ⟨rfl, rfl⟩
                clear h9
                go_wp2
                go_ret
                exact NO.out _ Z.out S2.out.bel
              | true =>
                have E2 := Seg.hid (HE.out (by rw [KV.out, HT3.out]; simp [K8.out, h9]))
                refine (nums_any _ vk.mtch 0 vk.log.length true _ S LI2.out.2 h9).mono ?_
                rintro e w3 ⟨rfl, rfl⟩
                clear h9
                go_wp2
                go_roundw
                case rel => exact ⟨k + 1, by omega, by go_num, E2.out, S2.out⟩
                case measure => simp [intOf]; omega
    · have hk' : k = q.voters.length := by omega
      have KN : Hid (quorum q = net q.net) := by
        show _ = _
        have := HR.out.1
        rw [List.drop_eq_nil_of_le (by omega)] at this
        rw [KQ.out, ← this]; rfl
      have ST := Seg.hid HR.out.2
      clear HR
      subst hk'
      obtain ⟨wo, hwo⟩ : ∃ wo, wo = wr := ⟨wr, rfl⟩
      subst hwo
      go_wp2_with fail
      go_loopw [8] (fun i wr => ∃ (k : Nat), k ≤ q.net.length ∧ i = .int .i64 k ∧ Hid (net (q.net.drop k) = net q.net ∧ St w wr A0 A1 q.voters.length q.net.length c0 c1)) (fun i _ => q.net.length - (intOf i).toNat)
      case atStart => exact ⟨0, Nat.zero_le _, rfl, rfl, ST.out⟩
      case round =>
        clear ST
        obtain ⟨k, hk, rfl, HR⟩ := hrel
        obtain ⟨p0, p1⟩ := HR.out.2.cells
        by_cases hlt : k < q.net.length
        · obtain ⟨ea, hc, hga⟩ := HB.out.addr.resolve_left (by omega)
          have CL := cells_later HB.out.cells HR.out.2.bel hga
          have EL : EMsg wr S (Fb k) (q.net.getD k default) := keepsMsg _ _ _ _ _ _ (HB.out.el k hlt) (fun g hg => HR.out.2.bel.block g (hS g hg)) (fun _ _ => rfl)
          obtain ⟨A6, c6, ⟨d0, d1, d2, d3, d4, d5, d6, d7, d8⟩, VA⟩ := msg_cells (i := k) (fun j hj => CL k hlt j hj) EL
          obtain ⟨A6', c6', g6, o6, F6, e6, O6, n6⟩ := opn VA (fun g hg => Nat.lt_of_lt_of_le (hS g hg) HR.out.2.bel.size)
          simp only [Value.slice.injEq, true_and] at e6
          obtain ⟨rfl, rfl⟩ := e6
          have H6 := Seg.hid O6
          have VF := Seg.hid (L1.out k hlt)
          have HD := HR.out.1
          rw [drop_cons hlt] at HD
          have HD' := Seg.hid HD
          have h0 : (0 : Int) ≤ (k : Int) := by omega
          have h1 : (k : Int) < (q.net.length : Int) := by omega
          clear CL EL VA HD O6 d0 d1 d2 d3 d4 d5 d7 d8
          generalize q.net.getD k default = vk at *
          have ZF : Hid (cmds vk.cmds = false → quorum q = false) := fun hb => by rw [KN.out, ← HD'.out]; simp [net, hb]
          subst ea
          by_cases h2 : vk.cmds.length ≤ 200
          case neg =>
            have Z := Seg.hid (ZF.out (by simp [cmds, h2]))
            go_wp2
            go_ret
            exact NO.out _ Z.out HR.out.2.bel
          have KC : Hid (cmds vk.cmds = texts vk.cmds) := by show _ = _; simp [cmds, h2]
          go_wp2_with fail
          clear d6
          go_loop [10] (fun i => ∃ (j : Nat), j ≤ vk.cmds.length ∧ i = .int .i64 j ∧ Hid (texts (vk.cmds.drop j) = texts vk.cmds)) (fun i => vk.cmds.length - (intOf i).toNat)
          case atStart => exact ⟨0, Nat.zero_le _, rfl, rfl⟩
          case round =>
            obtain ⟨j, hj, rfl, HQ⟩ := hrel
            by_cases hlj : j < vk.cmds.length
            · obtain ⟨ea, hc6, hga6⟩ := H6.out.addr.resolve_left (by omega)
              obtain ⟨i0, i1⟩ := cmd_cells H6.out.cells H6.out.el j hlj
              have FT : (vk.cmds.getD j default).text.size ≤ 1048576 := by have := szL_one _ VF.out hlj; unfold szCmd at this; exact this
              have HQ1 := HQ.out
              rw [drop_cons hlj] at HQ1
              have HQ' := Seg.hid HQ1
              have k0 : (0 : Int) ≤ (j : Int) := by omega
              have k1 : (j : Int) < (vk.cmds.length : Int) := by omega
              clear HQ1
              generalize vk.cmds.getD j default = cj at *
              subst ea
              by_cases ht : cj.text.size ≤ 100
              · have HE : Hid (texts (vk.cmds.drop (j + 1)) = texts vk.cmds) := by show _ = _; rw [← HQ'.out]; simp [texts, ht]
                go_wp2
                go_round
                case rel => exact ⟨j + 1, by omega, by go_num, HE⟩
                case measure => simp [intOf]; omega
              · have Z := Seg.hid (ZF.out (by rw [KC.out, ← HQ'.out]; simp [texts, ht]))
                go_wp2
                go_ret
                exact NO.out _ Z.out HR.out.2.bel
            · have hj' : j = vk.cmds.length := by omega
              have HE : Hid (net (q.net.drop (k + 1)) = net q.net) := by
                show _ = _
                have := HQ.out
                rw [List.drop_eq_nil_of_le (by omega)] at this
                rw [← HD'.out]; simp [net, KC.out, ← this, texts]
              subst hj'
              go_wp2
              go_roundw
              case rel => exact ⟨k + 1, by omega, by go_num, HE.out, HR.out.2⟩
              case measure => simp [intOf]; omega
        · have hk' : k = q.net.length := by omega
          have Z : Hid (true = quorum q) := by
            show _ = _
            have := HR.out.1
            rw [List.drop_eq_nil_of_le (by omega)] at this
            rw [KN.out, ← this]; rfl
          subst hk'
          go_wp2
          go_ret
          exact ⟨Seg.ret_bool Z.out, HR.out.2.bel⟩
end Go.Proofs.Ytdkfhjcockkleaa.QkS
