/- The model's LatestAt. -/
import Derived.Test.YtekhidflncfeiaaTbP
import Derived.Test.YtekhidflncfeiaaIrA
import Derived.Deep.QuietTactic
import Derived.BigQuiet
import Derived.Deep.Cut
namespace Go.Proofs.Ytekhidflncfeiaa.TbS
set_option maxRecDepth 8000
open Go.RowKit
open Ls Lp TbP RkP IrA
open Recs (hsz below1 below2 chain chainD)
set_option linter.unusedVariables false
set_option maxHeartbeats 6400000 in
theorem spec_any (v : Value) (us : List Arr) (key time : Int) (w : World) (S : Nat → Prop) (hv : LAt 3 EArr w S v us) (hS : ∀ g, S g → g < w.heap.size) (hf : szL szArr us ≤ 1048576) :
    Calls Try.prog 16 #[v, .int .i64 key, .int .i64 time] w fun e w' => ∃ x, e = .returned (.tuple #[x, .bool (latOk us key time)]) ∧ NRow w' w.heap.size x (latest us key time) ∧ Below w.heap.size w w' := by
  obtain ⟨A, c, g, o, F, rfl, OP, hn⟩ := opn hv hS
  have HO := Seg.hid OP
  have HZ := Seg.hid hf
  clear hv OP hf
  obtain ⟨RB, hB⟩ : ∃ R, latOk us key time = R := ⟨_, rfl⟩
  obtain ⟨RL, hL⟩ : ∃ R, latest us key time = R := ⟨_, rfl⟩
  rw [hB, hL]
  have HB := Seg.hid hB
  have HL := Seg.hid hL
  clear hB hL
  go_enter Try.func16, Try.ntmps16
  go_wp2
  go_loopw [8, 9] (fun p i wr => ∃ k : Nat, k ≤ us.length ∧ i = .int .i64 k ∧ p = .int .i64 (plc us key time k) ∧ Hid (Below w.heap.size w wr)) (fun _ i _ => us.length - (intOf i).toNat)
  case atStart => exact ⟨0, Nat.zero_le _, rfl, rfl, Below.refl _ _⟩
  case round =>
    obtain ⟨k, hk, rfl, rfl, BW⟩ := hrel
    have PL := plc_le us key time k
    by_cases hlt : k < us.length
    · obtain ⟨ea, hc, hgw⟩ := HO.out.addr.resolve_left (by omega)
      subst ea
      obtain ⟨A', c', hcl, d0, d1, d2⟩ := arr_at HO.out hS BW.out hlt
      have h0 : (0 : Int) ≤ (k : Int) := by omega
      have h1 : (k : Int) < (us.length : Int) := by omega
      have NO := Seg.hid (tells_no (us := us) (key := key) (time := time) (k := k))
      have NW := Seg.hid (tells_new (us := us) (key := key) (time := time) (k := k))
      have OD := Seg.hid (tells_old (us := us) (key := key) (time := time) (k := k))
      have DP : Hid (∀ p : Nat, plc us key time k = (p : Int) → wr.cell? ⟨g, o + p * 3, none⟩ = some (.int .i64 (us.getD p default).time)) := fun p hp => by
        obtain ⟨_, _, _, e0, -, -⟩ := arr_at HO.out hS BW.out (k := p) (by omega)
        exact e0
      have hgr : g < wr.heap.size := Nat.lt_of_lt_of_le hgw BW.out.size
      obtain ⟨P, hP⟩ : ∃ P, plc us key time k = P := ⟨_, rfl⟩
      obtain ⟨P', hP'⟩ : ∃ P', plc us key time (k + 1) = P' := ⟨_, rfl⟩
      rw [hP, hP'] at NO
      rw [hP, hP'] at NW
      rw [hP, hP'] at OD
      rw [hP] at DP PL
      rw [hP]
      have HP' := Seg.hid hP'
      clear hP hP'
      have HC := Seg.hid hcl
      clear hcl
      obtain ⟨a, ha⟩ : ∃ a, us.getD k default = a := ⟨_, rfl⟩
      rw [ha] at d0 d1 d2 HC NO NW OD
      clear ha
      obtain ⟨w5, hw5⟩ : ∃ w5, wr.alloc (.cells #[.int .i64 a.time, .slice A' a.row.length c', .bool a.gone] 79 (0, 0)) = w5 := ⟨_, rfl⟩
      have T5 : Hid (w5.heap[wr.heap.size]? = some (.cells #[.int .i64 a.time, .slice A' a.row.length c', .bool a.gone] 79 (0, 0))) := by show _ = _; rw [← hw5]; exact heap_alloc_new _ _
      have N5 : Hid (Below wr.heap.size wr w5) := by show Below _ _ _; rw [← hw5]; exact below1 _ _
      go_upto_region 6 with fail
      try rw [hw5]
      clear hw5 d0 d1 d2
      obtain ⟨q0, q1, q2⟩ := arrB T5.out
      have TT : Hid (tells a key time = ((decide (0 < a.row.length) && decide (a.row.getD 0 0 = key)) && decide (a.time ≤ time))) := rfl
      by_cases hr : 0 < a.row.length
      · obtain ⟨A2, c2, g2, o2, F2, e2, OP2, -⟩ := opn HC.out (fun y hy => Nat.lt_of_lt_of_le (hS y hy) BW.out.size)
        obtain ⟨ea, hc2, hg2⟩ := OP2.addr.resolve_left (by omega)
        simp only [Value.slice.injEq, true_and] at e2
        obtain ⟨rfl, rfl⟩ := e2
        subst ea
        have dh : w5.cell? ⟨g2, o2, none⟩ = some (.int .i64 (a.row.getD 0 0)) := (N5.out.cell (p := ⟨g2, o2, none⟩) hg2).trans (ints_cell OP2 hr)
        clear OP2
        have r0 : (0 : Int) < (a.row.length : Int) := by omega
        obtain ⟨hd, hhd⟩ : ∃ hd, a.row.getD 0 0 = hd := ⟨_, rfl⟩
        rw [hhd] at dh TT
        clear hhd
        by_cases hky : hd = key
        · subst hky
          by_cases htm : a.time ≤ time
          · have TB : Hid (tells a hd time = true) := by show _ = _; rw [TT.out]; simp [hr, htm]
            have NW2 := Seg.hid (NW.out TB.out)
            clear NO NW TT
            by_cases hn0 : P < 0
            · have PF : Hid (P' = k) := NW2.out (.inl hn0)
              clear NW2 OD DP
              go_quiet (fail)
              all_goals
                go_wp2
                go_roundw
                case rel => exact ⟨k + 1, by omega, by go_num, by rw [HP'.out, PF.out], chain BW.out ⟨N5.out.os, N5.out.tape, N5.out.output, N5.out.size, N5.out.block⟩⟩
                case measure => simp [intOf]; omega
            · obtain ⟨p, rfl⟩ : ∃ p : Nat, P = (p : Int) := ⟨P.toNat, by omega⟩
              have dp : w5.cell? ⟨g, o + p * 3, none⟩ = some (.int .i64 (us.getD p default).time) := (N5.out.cell (p := ⟨g, o + p * 3, none⟩) hgr).trans (DP.out p rfl)
              have AR : Hid ((ari us (p : Int)).time = (us.getD p default).time) := rfl
              have hp1 : (p : Int) < (us.length : Int) := by omega
              have hp0 : (0 : Int) ≤ (p : Int) := by omega
              have hn1 : decide ((p : Int) < 0) = false := decide_eq_false hn0
              generalize (us.getD p default).time = tp at *
              by_cases hle : tp ≤ a.time
              · have PF : Hid (P' = k) := NW2.out (.inr (by rw [AR.out]; exact hle))
                have hld : decide (tp ≤ a.time) = true := decide_eq_true hle
                clear NW2 OD DP
                go_quiet (fail)
                all_goals
                  go_wp2
                  go_roundw
                  case rel => exact ⟨k + 1, by omega, by go_num, by rw [HP'.out, PF.out], chain BW.out ⟨N5.out.os, N5.out.tape, N5.out.output, N5.out.size, N5.out.block⟩⟩
                  case measure => simp [intOf]; omega
              · have PF : Hid (P' = p) := OD.out hn0 (by rw [AR.out]; exact hle)
                have hld : decide (tp ≤ a.time) = false := decide_eq_false hle
                clear NW2 OD DP
                go_quiet (fail)
                all_goals
                  go_wp2
                  go_roundw
                  case rel => exact ⟨k + 1, by omega, by go_num, by rw [HP'.out, PF.out], chain BW.out ⟨N5.out.os, N5.out.tape, N5.out.output, N5.out.size, N5.out.block⟩⟩
                  case measure => simp [intOf]; omega
          · have PF : Hid (P' = P) := NO.out (by rw [TT.out]; simp [htm])
            have htd : decide (a.time ≤ time) = false := decide_eq_false htm
            clear NO NW OD TT DP
            go_quiet (fail)
            all_goals
              go_wp2
              go_roundw
              case rel => exact ⟨k + 1, by omega, by go_num, by rw [HP'.out, PF.out], chain BW.out ⟨N5.out.os, N5.out.tape, N5.out.output, N5.out.size, N5.out.block⟩⟩
              case measure => simp [intOf]; omega
        · have PF : Hid (P' = P) := NO.out (by rw [TT.out]; simp [hky])
          have hkd : (hd == key) = false := by simpa using hky
          clear NO NW OD TT DP
          go_quiet (fail)
          all_goals
            go_wp2
            go_roundw
            case rel => exact ⟨k + 1, by omega, by go_num, by rw [HP'.out, PF.out], chain BW.out ⟨N5.out.os, N5.out.tape, N5.out.output, N5.out.size, N5.out.block⟩⟩
            case measure => simp [intOf]; omega
      · have PF : Hid (P' = P) := NO.out (by rw [TT.out]; simp [hr])
        have hrd : decide ((0 : Int) < (a.row.length : Int)) = false := decide_eq_false (by omega)
        clear NO NW OD TT DP
        go_quiet (fail)
        all_goals
          go_wp2
          go_roundw
          case rel => exact ⟨k + 1, by omega, by go_num, by rw [HP'.out, PF.out], chain BW.out ⟨N5.out.os, N5.out.tape, N5.out.output, N5.out.size, N5.out.block⟩⟩
          case measure => simp [intOf]; omega
    · have hkl : k = us.length := by omega
      have hx1 : ¬ (k : Int) < (us.length : Int) := by omega
      have PE : Hid (plc us key time us.length = plc us key time k) := by show _ = _; rw [hkl]
      obtain ⟨P, hP⟩ : ∃ P, plc us key time k = P := ⟨_, rfl⟩
      rw [hP] at PE PL
      rw [hP]
      clear hP
      by_cases hn0 : P < 0
      · have RF : Hid (RB = false) := by show _ = _; rw [← HB.out, latOk, latP, PE.out, decide_eq_false (by omega)]; rfl
        have LF : Hid (RL = []) := by show _ = _; rw [← HL.out, latest, if_neg (by rw [HB.out, RF.out]; simp)]
        clear hkl
        go_wp2
        go_ret2
        exact ⟨_, by rw [RF.out]; rfl, by rw [LF.out]; exact row_weak (empty_row _) (BW.out.size), chain BW.out (below1 _ _)⟩
      · obtain ⟨p, rfl⟩ : ∃ p : Nat, P = (p : Int) := ⟨P.toNat, by omega⟩
        have hpl : p < us.length := by omega
        obtain ⟨ea, hc, hgw⟩ := HO.out.addr.resolve_left (by omega)
        subst ea
        obtain ⟨A', c', hcl, d0, d1, d2⟩ := arr_at HO.out hS BW.out hpl
        have HC := Seg.hid hcl
        have HZP := Seg.hid (sz_row HZ.out hpl)
        clear hcl
        have hp1 : (p : Int) < (us.length : Int) := by omega
        have hp0 : (0 : Int) ≤ (p : Int) := by omega
        have hn1 : decide ((p : Int) < 0) = false := decide_eq_false hn0
        have RX : Hid (RB = !(us.getD p default).gone) := by show _ = _; rw [← HB.out, latOk, latP, PE.out, decide_eq_true (by omega)]; rfl
        have LX : Hid (RL = if RB then (us.getD p default).row else []) := by show _ = _; rw [← HL.out, latest, latP, PE.out, HB.out]; rfl
        generalize us.getD p default = a at *
        clear hkl
        obtain ⟨gn, hgn⟩ : ∃ gn, a.gone = gn := ⟨_, rfl⟩
        rw [hgn] at d2 RX
        clear hgn
        cases gn with
        | true =>
          have LF : Hid (RL = []) := by show _ = _; rw [LX.out, RX.out]; rfl
          go_wp2
          go_ret2
          exact ⟨_, by rw [RX.out]; rfl, by rw [LF.out]; exact row_weak (empty_row _) (BW.out.size), chain BW.out (below1 _ _)⟩
        | false =>
          have LF : Hid (RL = a.row) := by show _ = _; rw [LX.out, RX.out]; rfl
          obtain ⟨i0, hi, hz0, hz1, hz2⟩ := info_parts infoI
          have OW : Hid ((wr.alloc (.cells #[] 3 (0, 0))).ownsRow wr.heap.size 3 1 (.slice (some ⟨wr.heap.size, 0, none⟩) 0 0) 0 []) := empty_row wr
          have NWS : Hid (a.row.length ≠ 0 → ∃ ad', A' = some ad' ∧ ∀ j u, (a.row.map (Value.int .i64))[j]? = some u → (wr.alloc (.cells #[] 3 (0, 0))).cell? (ad'.add j) = some u) := news_of HC.out (fun y hy => (below1 wr _).block y (Nat.lt_of_lt_of_le (hS y hy) BW.out.size))
          have hlr := HZP.out
          have hgr : g < wr.heap.size := Nat.lt_of_lt_of_le hgw BW.out.size
          have d1a : (wr.alloc (.cells #[] 3 (0, 0))).cell? ⟨g, o + p * 3 + 1, none⟩ = some (.slice A' a.row.length c') := ((below1 wr _).cell (p := ⟨g, o + p * 3 + 1, none⟩) hgr).trans d1
          go_wp2_with (at_builtin; refine AppW.wpList_append_all _ rfl _ _ 36 rfl wr.heap.size 3 i0 _ 1 8 Try.underlying36 hi hz0 hz1 hz2 rfl (by decide) (.slice (some ⟨wr.heap.size, 0, none⟩) 0 0) 0 [] rfl OW.out A' a.row.length c' (a.row.map (Value.int .i64)) rfl (by simp) NWS.out (by simp [Value.oneCell']) (by unfold maxLen; omega) (by omega) (by rw [hsz]; omega) ?_; intro v6 w6 hown hgr hvb; have R6 : Hid (NRow w6 wr.heap.size v6 a.row) := row_all hown; have B6 : Hid (Below wr.heap.size wr w6) := (below1 wr _).grown hgr (by rw [hsz]; omega) (fun k hk => by simp only [Value.ownBlock, Option.some.injEq] at hk; omega); clear hown hgr hvb)
          go_ret2
          exact ⟨_, by rw [RX.out]; rfl, by rw [LF.out]; exact row_weak R6.out BW.out.size, chain BW.out B6.out⟩
end Go.Proofs.Ytekhidflncfeiaa.TbS
