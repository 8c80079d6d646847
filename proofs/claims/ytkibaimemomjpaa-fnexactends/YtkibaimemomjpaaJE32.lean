/- The model's InputsOk. -/
import Derived.Deep.QuietTactic
import Derived.BigQuiet
import Derived.Deep.Cut
import Derived.Test.YtkibaimemomjpaaJE13
import Derived.Test.YtkibaimemomjpaaJE31
import Derived.Test.YtkibaimemomjpaaJE09
namespace Go.Proofs.Ytkibaimemomjpaa.IoS
set_option maxRecDepth 8000
open Go.RowKit
open Ls Lp QyP QsP QtP QuP TbP IoP
open Recs (hsz below1 below2 chain chainD)
set_option linter.unusedVariables false
set_option maxHeartbeats 25600000 in
theorem spec_any (v z : Value) (l : List Src) (us : List (List Arr)) (w : World) (S : Nat → Prop) (hv : LAt 3 ESrc w S v l) (hz : LAt 1 EArr2 w S z us) (hS : ∀ g, S g → g < w.heap.size) (hf : szL szSrc l ≤ 1048576) (hfz : szL szArr2 us ≤ 1048576) :
    Calls Try.prog 53 #[v, z] w fun e w' => e = .returned (.bool (inpOk l us)) ∧ Below w.heap.size w w' := by
  have HV := Seg.hid hv
  obtain ⟨A, c, g, o, F, rfl, OP, hn⟩ := opn hv hS
  have HO := Seg.hid OP
  obtain ⟨A2, c2, g2, o2, F2, rfl, OP2, hn2⟩ := opn hz hS
  have HO2 := Seg.hid OP2
  clear hv hz OP OP2
  have HZ := Seg.hid hf
  have HZ2 := Seg.hid (cnt_max hfz)
  clear hf hfz
  obtain ⟨R, hR⟩ : ∃ R, inpOk l us = R := ⟨_, rfl⟩
  rw [hR]
  have HR : Hid ((srcsOk l && (decide (us.length = l.length) && (decide (cnt us ≤ 300) && rowsK l us us.length))) = R) := hR
  clear hR
  have CS : ∀ b, srcsOk l = b → Hid (Calls Try.prog 90 #[.slice A l.length c] w fun e w' => e = .returned (.bool b) ∧ Below w.heap.size w w') := fun b hb => by subst hb; exact QsS.spec_any _ l w S HV.out hS HZ.out
  go_enter Try.func53, Try.ntmps53
  cases hso : srcsOk l with
  | false =>
    have CC := CS false hso
    have RF : Hid (R = false) := by show _ = _; rw [← HR.out, hso]; rfl
    clear CS hso
    go_wp2_with (go_at_call 90; refine CC.out.mono ?_; rintro e w1 ⟨rfl, b1⟩; have B1 := Seg.hid b1; clear b1)
    go_ret
    exact ⟨by rw [RF.out]; rfl, B1.out⟩
  | true =>
  have CC := CS true hso
  have R1 : Hid (R = (decide (us.length = l.length) && (decide (cnt us ≤ 300) && rowsK l us us.length))) := by show _ = _; rw [← HR.out, hso]; rfl
  clear CS hso HR
  by_cases hle : us.length = l.length
  case neg =>
    have RF : Hid (R = false) := by show _ = _; rw [R1.out, decide_eq_false hle]; rfl
    have hq : ((us.length : Int) == (l.length : Int)) = false := by simp; omega
    go_wp2_with (go_at_call 90; refine CC.out.mono ?_; rintro e w1 ⟨rfl, b1⟩; have B1 := Seg.hid b1; clear b1)
    go_ret
    exact ⟨by rw [RF.out]; rfl, B1.out⟩
  case pos =>
  have R2 : Hid (R = (decide (cnt us ≤ 300) && rowsK l us us.length)) := by show _ = _; rw [R1.out, decide_eq_true hle]; rfl
  have hle2 : (us.length : Int) = (l.length : Int) := by omega
  clear R1
  go_wp2_with (go_at_call 90; refine CC.out.mono ?_; rintro e w1 ⟨rfl, b1⟩; have B1 := Seg.hid b1; clear b1)
  clear CC
  go_loopw [5, 6] (fun n i wr => ∃ k : Nat, k ≤ us.length ∧ i = .int .i64 k ∧ n = .int .i64 (cnt (us.take k)) ∧ Hid (rowsK l us k = true ∧ Below w.heap.size w wr)) (fun _ i _ => us.length - (intOf i).toNat)
  case atStart => exact ⟨0, Nat.zero_le _, rfl, by simp [cnt], rfl, B1.out⟩
  case round =>
    clear B1
    obtain ⟨wo, rfl⟩ : ∃ wo, wo = wr := ⟨_, rfl⟩
    obtain ⟨k, hk, rfl, rfl, HG⟩ := hrel
    have BW := Seg.hid HG.out.2
    have GR := Seg.hid HG.out.1
    clear HG
    by_cases hlt : k < us.length
    · obtain ⟨ea, hc2, hgw2⟩ := HO2.out.addr.resolve_left (by omega)
      subst ea
      obtain ⟨ea, hc, hgw⟩ := HO.out.addr.resolve_left (by omega)
      subst ea
      obtain ⟨A3, c3, hl3, d3⟩ := arrs_at HO2.out hS BW.out hlt
      have CN := cnt_next hlt
      have CL := cnt_le us (k + 1)
      have CM := HZ2.out
      have RX : Hid ((us.getD k default).all (arrOk (l.getD k default)) = true → rowsK l us (k + 1) = true) := fun h => rows_next GR.out h
      have RY : Hid ((us.getD k default).all (arrOk (l.getD k default)) = false → rowsK l us us.length = false) := fun h => rows_bad hlt h
      have hSr : ∀ y, S y → y < wo.heap.size := fun y hy => Nat.lt_of_lt_of_le (hS y hy) BW.out.size
      obtain ⟨As, cs, hls, e0, e1, e2⟩ := src_at HO.out hS BW.out (k := k) (by omega)
      clear hls
      have h0 : (0 : Int) ≤ (k : Int) := by omega
      have h1 : (k : Int) < (us.length : Int) := by omega
      have h2 : (k : Int) < (l.length : Int) := by omega
      generalize us.getD k default = ak at *
      generalize l.getD k default = s at *
      obtain ⟨n, hnn⟩ : ∃ n, cnt (us.take k) = n := ⟨_, rfl⟩
      rw [hnn] at CN ⊢
      obtain ⟨n', hnn'⟩ : ∃ n, cnt (us.take (k + 1)) = n := ⟨_, rfl⟩
      rw [hnn'] at CN CL
      have HN' := Seg.hid hnn'
      have wz : IntKind.i64.wrap ((n : Int) + (ak.length : Int)) = (n' : Int) := by rw [IntKind.wrap_i64] <;> omega
      clear hnn hnn'
      obtain ⟨A4, c4, g4, o4, F4, e4, OP4, hn4⟩ := opn hl3 hSr
      simp only [Value.slice.injEq, true_and] at e4
      obtain ⟨rfl, rfl⟩ := e4
      have HO4 := Seg.hid OP4
      clear hl3 OP4
      go_wp2
      go_loopw [7] (fun j wr => ∃ q : Nat, q ≤ ak.length ∧ j = .int .i64 q ∧ Hid ((ak.take q).all (arrOk s) = true ∧ Below wo.heap.size wo wr)) (fun j _ => ak.length - (intOf j).toNat)
      case atStart => exact ⟨0, Nat.zero_le _, rfl, by simp, Below.refl _ _⟩
      case round =>
        obtain ⟨q, hq, rfl, HQ⟩ := hrel
        have BQ := Seg.hid HQ.out.2
        have GQ := Seg.hid HQ.out.1
        clear HQ
        have dk := (BQ.out.cell (p := ⟨g2, o2 + k, none⟩) (Nat.lt_of_lt_of_le hgw2 BW.out.size)).trans d3
        have hgk : g2 < wr.heap.size := Nat.lt_of_lt_of_le hgw2 (Nat.le_trans BW.out.size BQ.out.size)
        by_cases hqt : q < ak.length
        · obtain ⟨ea, hc4, hgw4⟩ := HO4.out.addr.resolve_left (by omega)
          subst ea
          obtain ⟨A', c', hcl, d0, d1, d2⟩ := arr_at HO4.out hSr BQ.out hqt
          have NX := Seg.hid (all_next (arrOk s) ak q hqt GQ.out)
          have BX := Seg.hid (all_bad (arrOk s) ak q hqt)
          have hq0 : (0 : Int) ≤ (q : Int) := by omega
          have hq1 : (q : Int) < (ak.length : Int) := by omega
          generalize ak.getD q default = a at *
          have HC := Seg.hid hcl
          have s0 := (BQ.out.cell (p := ⟨g, o + k * 3, none⟩) (Nat.lt_of_lt_of_le hgw BW.out.size)).trans e0
          have s1 := (BQ.out.cell (p := ⟨g, o + k * 3 + 1, none⟩) (Nat.lt_of_lt_of_le hgw BW.out.size)).trans e1
          have s2 := (BQ.out.cell (p := ⟨g, o + k * 3 + 2, none⟩) (Nat.lt_of_lt_of_le hgw BW.out.size)).trans e2
          have hgq : g < wr.heap.size := Nat.lt_of_lt_of_le hgw (Nat.le_trans BW.out.size BQ.out.size)
          have hSq : ∀ y, S y → y < wr.heap.size := fun y hy => Nat.lt_of_lt_of_le (hSr y hy) BQ.out.size
          clear hcl
          obtain ⟨w5, hw5⟩ : ∃ w5, wr.alloc (.cells #[.int .i64 a.time, .slice A' a.row.length c', .bool a.gone] 88 (0, 0)) = w5 := ⟨_, rfl⟩
          have T5 : Hid (w5.heap[wr.heap.size]? = some (.cells #[.int .i64 a.time, .slice A' a.row.length c', .bool a.gone] 88 (0, 0))) := by show _ = _; rw [← hw5]; exact heap_alloc_new _ _
          have N5 : Hid (Below wr.heap.size wr w5) := by show Below _ _ _; rw [← hw5]; exact below1 _ _
          go_upto_region 12 with fail
          try rw [hw5]
          clear hw5 d0 d1 d2
          obtain ⟨q0, q1, q2⟩ := arrB T5.out
          have p0 := (N5.out.cell (p := ⟨g, o + k * 3, none⟩) hgq).trans s0
          have p1 := (N5.out.cell (p := ⟨g, o + k * 3 + 1, none⟩) hgq).trans s1
          have p2 := (N5.out.cell (p := ⟨g, o + k * 3 + 2, none⟩) hgq).trans s2
          have dk5 := (N5.out.cell (p := ⟨g2, o2 + k, none⟩) hgk).trans dk
          have HR5 : Hid (∀ i, i < a.row.length → A' ≠ none ∧ ∀ g o, A' = some ⟨g, o, none⟩ → w5.cell? ⟨g, o + i, none⟩ = some (.int .i64 (a.row.getD i default))) := fun i hi => by
            obtain ⟨A6, c6, g6, o6, F6, e6, OP6, -⟩ := opn (LAt.below keepsI HC.out N5.out hSq) (fun y hy => Nat.lt_of_lt_of_le (hSq y hy) N5.out.size)
            obtain ⟨ea, hc6, hg6⟩ := OP6.addr.resolve_left (by omega)
            simp only [Value.slice.injEq, true_and] at e6
            obtain ⟨rfl, rfl⟩ := e6
            refine ⟨by rw [ea]; simp, fun g o hh => ?_⟩
            rw [ea] at hh
            cases hh
            exact ints_cell OP6 hi
          clear e0 e1 e2 s0 s1 s2
          have AO : Hid (arrOk s a = ((inR 0 a.time 1000000000000 && (!a.gone || s.tab)) && (decide (a.row.length = s.cols.length) && a.row.all inN))) := rfl
          have BN : Hid (Below wo.heap.size wo w5) := chain BQ.out N5.out
          obtain ⟨bt, hbt⟩ : ∃ b, inR 0 a.time 1000000000000 = b := ⟨_, rfl⟩
          rw [hbt] at AO
          have CT : Hid (∀ wx, Calls Try.prog 54 #[.int .i64 a.time, .int .i64 0, .int .i64 1000000000000] wx fun e w' => e = .returned (.bool bt) ∧ w' = wx) := fun wx => InB.l1In_q _ _ _ _ hbt wx
          clear hbt
          obtain ⟨tm, htm⟩ : ∃ t, a.time = t := ⟨_, rfl⟩
          rw [htm] at q0 CT
          obtain ⟨gn, hgn⟩ : ∃ t, a.gone = t := ⟨_, rfl⟩
          rw [hgn] at q2 AO
          obtain ⟨tb, htb⟩ : ∃ t, s.tab = t := ⟨_, rfl⟩
          rw [htb] at p1 AO
          clear htm hgn htb
          cases bt with
          | false =>
            have RF : Hid (R = false) := by show _ = _; rw [R2.out, RY.out (BX.out (by rw [AO.out]; rfl))]; simp
            clear NX BX AO
            go_quiet (first | (go_at_call 54; (with_reducible refine Calls.quiet_of_same (CT.out _))))
            all_goals
              go_wp2
              go_ret
              exact ⟨by rw [RF.out]; rfl, chain BW.out ⟨BN.out.os, BN.out.tape, BN.out.output, BN.out.size, BN.out.block⟩⟩
          | true =>
            cases gn with
            | false =>
              by_cases hl : a.row.length = s.cols.length
              case neg =>
                have hlb : ((a.row.length : Int) == (s.cols.length : Int)) = false := by simp; omega
                have hlc : ((a.row.length : Int) != (s.cols.length : Int)) = true := by simp; omega
                have RF : Hid (R = false) := by show _ = _; rw [R2.out, RY.out (BX.out (by rw [AO.out]; rw [decide_eq_false hl]; simp))]; simp
                clear NX BX AO
                go_quiet (first | (go_at_call 54; (with_reducible refine Calls.quiet_of_same (CT.out _))))
                all_goals
                  go_wp2
                  go_ret
                  exact ⟨by rw [RF.out]; rfl, chain BW.out ⟨BN.out.os, BN.out.tape, BN.out.output, BN.out.size, BN.out.block⟩⟩
              case pos =>
                have HL := Seg.hid hl
                have hlb : ((a.row.length : Int) == (s.cols.length : Int)) = true := by simp; omega
                have hlc : ((a.row.length : Int) != (s.cols.length : Int)) = false := by simp; omega
                have AO2 : Hid (arrOk s a = a.row.all inN) := by show _ = _; rw [AO.out, decide_eq_true hl]; simp
                clear hl AO
                go_quiet (first | (go_at_call 54; (with_reducible refine Calls.quiet_of_same (CT.out _))))
                all_goals
                  go_wp2
                  go_loop [9] (fun j => ∃ r : Nat, r ≤ a.row.length ∧ j = .int .i64 r ∧ Hid ((a.row.take r).all inN = true)) (fun j => a.row.length - (intOf j).toNat)
                  case atStart => exact ⟨0, Nat.zero_le _, rfl, by show _ = _; simp⟩
                  case round =>
                    obtain ⟨r, hr, rfl, HG⟩ := hrel
                    by_cases hrt : r < a.row.length
                    · obtain ⟨hA, hcell⟩ := HR5.out r hrt
                      obtain ⟨g7, o7, rfl⟩ : ∃ g o, A' = some ⟨g, o, none⟩ := by
                        obtain ⟨A6, c6, g6, o6, F6, e6, OP6, -⟩ := opn HC.out hSq
                        obtain ⟨ea, -, -⟩ := OP6.addr.resolve_left (by omega)
                        simp only [Value.slice.injEq, true_and] at e6
                        exact ⟨g6, o6, by rw [e6.1, ea]⟩
                      have d7 := hcell g7 o7 rfl
                      have hc7 : a.row.length ≤ c' := by
                        obtain ⟨A6, c6, g6, o6, F6, e6, OP6, -⟩ := opn HC.out hSq
                        obtain ⟨-, h, -⟩ := OP6.addr.resolve_left (by omega)
                        simp only [Value.slice.injEq, true_and] at e6
                        rw [e6.2]; exact h
                      clear hcell hA
                      have hr0 : (0 : Int) ≤ (r : Int) := by omega
                      have hrm : a.row.length ≤ 9223372036854775807 := HC.out.1
                      have hr1 : (r : Int) < (a.row.length : Int) := by omega
                      have NX3 := Seg.hid (all_next inN a.row r hrt HG.out)
                      have BX3 := Seg.hid (all_bad inN a.row r hrt)
                      generalize a.row.getD r default = nk at *
                      cases hy : inN nk with
                      | true =>
                        have NY3 := Seg.hid (NX3.out hy)
                        have C3 := Seg.hid (InB.l1In_b nk (-1000000000000000) 1000000000000000 true hy)
                        clear hy NX3 BX3
                        go_wp2_with (go_at_call 54; refine (C3.out _).mono ?_; rintro e w6 ⟨rfl, rfl⟩)
                        go_round
                        case rel => exact ⟨r + 1, by omega, by go_num, NY3.out⟩
                        case measure => simp [intOf]; omega
                      | false =>
                        have C3 := Seg.hid (InB.l1In_b nk (-1000000000000000) 1000000000000000 false hy)
                        have RF : Hid (R = false) := by show _ = _; rw [R2.out, RY.out (BX.out (by rw [AO2.out]; exact BX3.out hy))]; simp
                        clear hy NX3 BX3
                        go_wp2_with (go_at_call 54; refine (C3.out _).mono ?_; rintro e w6 ⟨rfl, rfl⟩)
                        go_ret
                        exact ⟨by rw [RF.out]; rfl, chain BW.out ⟨BN.out.os, BN.out.tape, BN.out.output, BN.out.size, BN.out.block⟩⟩
                    · have hrl : r = a.row.length := by omega
                      have hx1 : ¬ (r : Int) < (a.row.length : Int) := by omega
                      have NY := Seg.hid (NX.out (by rw [AO2.out]; have := HG.out; rw [hrl, List.take_length] at this; exact this))
                      clear hrl
                      go_wp2
                      go_roundw
                      case rel => exact ⟨q + 1, by omega, by go_num, NY.out, ⟨BN.out.os, BN.out.tape, BN.out.output, BN.out.size, BN.out.block⟩⟩
                      case measure => simp [intOf]; omega
            | true =>
              cases tb with
              | false =>
                by_cases hl : a.row.length = s.cols.length
                case neg =>
                  have hlb : ((a.row.length : Int) == (s.cols.length : Int)) = false := by simp; omega
                  have hlc : ((a.row.length : Int) != (s.cols.length : Int)) = true := by simp; omega
                  have RF : Hid (R = false) := by show _ = _; rw [R2.out, RY.out (BX.out (by rw [AO.out]; rfl))]; simp
                  clear NX BX AO
                  go_quiet (first | (go_at_call 54; (with_reducible refine Calls.quiet_of_same (CT.out _))))
                  all_goals
                    go_wp2
                    go_ret
                    exact ⟨by rw [RF.out]; rfl, chain BW.out ⟨BN.out.os, BN.out.tape, BN.out.output, BN.out.size, BN.out.block⟩⟩
                case pos =>
                  have HL := Seg.hid hl
                  have hlb : ((a.row.length : Int) == (s.cols.length : Int)) = true := by simp; omega
                  have hlc : ((a.row.length : Int) != (s.cols.length : Int)) = false := by simp; omega
                  clear hl
                  have RF : Hid (R = false) := by show _ = _; rw [R2.out, RY.out (BX.out (by rw [AO.out]; rfl))]; simp
                  clear NX BX AO
                  go_quiet (first | (go_at_call 54; (with_reducible refine Calls.quiet_of_same (CT.out _))))
                  all_goals
                    go_wp2
                    go_ret
                    exact ⟨by rw [RF.out]; rfl, chain BW.out ⟨BN.out.os, BN.out.tape, BN.out.output, BN.out.size, BN.out.block⟩⟩
              | true =>
                by_cases hl : a.row.length = s.cols.length
                case neg =>
                  have hlb : ((a.row.length : Int) == (s.cols.length : Int)) = false := by simp; omega
                  have hlc : ((a.row.length : Int) != (s.cols.length : Int)) = true := by simp; omega
                  have RF : Hid (R = false) := by show _ = _; rw [R2.out, RY.out (BX.out (by rw [AO.out]; rw [decide_eq_false hl]; simp))]; simp
                  clear NX BX AO
                  go_quiet (first | (go_at_call 54; (with_reducible refine Calls.quiet_of_same (CT.out _))))
                  all_goals
                    go_wp2
                    go_ret
                    exact ⟨by rw [RF.out]; rfl, chain BW.out ⟨BN.out.os, BN.out.tape, BN.out.output, BN.out.size, BN.out.block⟩⟩
                case pos =>
                  have HL := Seg.hid hl
                  have hlb : ((a.row.length : Int) == (s.cols.length : Int)) = true := by simp; omega
                  have hlc : ((a.row.length : Int) != (s.cols.length : Int)) = false := by simp; omega
                  have AO2 : Hid (arrOk s a = a.row.all inN) := by show _ = _; rw [AO.out, decide_eq_true hl]; simp
                  clear hl AO
                  go_quiet (first | (go_at_call 54; (with_reducible refine Calls.quiet_of_same (CT.out _))))
                  all_goals
                    go_wp2
                    go_loop [9] (fun j => ∃ r : Nat, r ≤ a.row.length ∧ j = .int .i64 r ∧ Hid ((a.row.take r).all inN = true)) (fun j => a.row.length - (intOf j).toNat)
                    case atStart => exact ⟨0, Nat.zero_le _, rfl, by show _ = _; simp⟩
                    case round =>
                      obtain ⟨r, hr, rfl, HG⟩ := hrel
                      by_cases hrt : r < a.row.length
                      · obtain ⟨hA, hcell⟩ := HR5.out r hrt
                        obtain ⟨g7, o7, rfl⟩ : ∃ g o, A' = some ⟨g, o, none⟩ := by
                          obtain ⟨A6, c6, g6, o6, F6, e6, OP6, -⟩ := opn HC.out hSq
                          obtain ⟨ea, -, -⟩ := OP6.addr.resolve_left (by omega)
                          simp only [Value.slice.injEq, true_and] at e6
                          exact ⟨g6, o6, by rw [e6.1, ea]⟩
                        have d7 := hcell g7 o7 rfl
                        have hc7 : a.row.length ≤ c' := by
                          obtain ⟨A6, c6, g6, o6, F6, e6, OP6, -⟩ := opn HC.out hSq
                          obtain ⟨-, h, -⟩ := OP6.addr.resolve_left (by omega)
                          simp only [Value.slice.injEq, true_and] at e6
                          rw [e6.2]; exact h
                        clear hcell hA
                        have hr0 : (0 : Int) ≤ (r : Int) := by omega
                        have hrm : a.row.length ≤ 9223372036854775807 := HC.out.1
                        have hr1 : (r : Int) < (a.row.length : Int) := by omega
                        have NX3 := Seg.hid (all_next inN a.row r hrt HG.out)
                        have BX3 := Seg.hid (all_bad inN a.row r hrt)
                        generalize a.row.getD r default = nk at *
                        cases hy : inN nk with
                        | true =>
                          have NY3 := Seg.hid (NX3.out hy)
                          have C3 := Seg.hid (InB.l1In_b nk (-1000000000000000) 1000000000000000 true hy)
                          clear hy NX3 BX3
                          go_wp2_with (go_at_call 54; refine (C3.out _).mono ?_; rintro e w6 ⟨rfl, rfl⟩)
                          go_round
                          case rel => exact ⟨r + 1, by omega, by go_num, NY3.out⟩
                          case measure => simp [intOf]; omega
                        | false =>
                          have C3 := Seg.hid (InB.l1In_b nk (-1000000000000000) 1000000000000000 false hy)
                          have RF : Hid (R = false) := by show _ = _; rw [R2.out, RY.out (BX.out (by rw [AO2.out]; exact BX3.out hy))]; simp
                          clear hy NX3 BX3
                          go_wp2_with (go_at_call 54; refine (C3.out _).mono ?_; rintro e w6 ⟨rfl, rfl⟩)
                          go_ret
                          exact ⟨by rw [RF.out]; rfl, chain BW.out ⟨BN.out.os, BN.out.tape, BN.out.output, BN.out.size, BN.out.block⟩⟩
                      · have hrl : r = a.row.length := by omega
                        have hx1 : ¬ (r : Int) < (a.row.length : Int) := by omega
                        have NY := Seg.hid (NX.out (by rw [AO2.out]; have := HG.out; rw [hrl, List.take_length] at this; exact this))
                        clear hrl
                        go_wp2
                        go_roundw
                        case rel => exact ⟨q + 1, by omega, by go_num, NY.out, ⟨BN.out.os, BN.out.tape, BN.out.output, BN.out.size, BN.out.block⟩⟩
                        case measure => simp [intOf]; omega
        · have hql : q = ak.length := by omega
          have RN := Seg.hid (RX.out (by have := GQ.out; rw [hql, List.take_length] at this; exact this))
          have hx1 : ¬ (q : Int) < (ak.length : Int) := by omega
          clear hql
          go_wp2
          go_roundw
          case rel => exact ⟨k + 1, by omega, by go_num, by rw [HN'.out]; exact (congrArg (Value.int .i64) (by omega)), RN.out, chain BW.out BQ.out⟩
          case measure => simp [intOf]; omega
    · have hkl : k = us.length := by omega
      have hx1 : ¬ (k : Int) < (us.length : Int) := by omega
      have RF : Hid (R = decide ((cnt (us.take k) : Int) ≤ 300)) := by
        show _ = _
        have h4 := GR.out
        rw [hkl] at h4
        rw [R2.out, h4, hkl, List.take_length, Bool.and_true, decide_eq_decide]
        omega
      clear hkl
      generalize cnt (us.take k) = n at *
      by_cases h3 : (n : Int) ≤ 300
      · go_wp2
        go_ret
        exact ⟨by rw [RF.out, decide_eq_true h3]; first | rfl | simp [h3], BW.out⟩
      · go_wp2
        go_ret
        exact ⟨by rw [RF.out, decide_eq_false (by omega)]; first | rfl | simp [h3], BW.out⟩
end Go.Proofs.Ytkibaimemomjpaa.IoS
