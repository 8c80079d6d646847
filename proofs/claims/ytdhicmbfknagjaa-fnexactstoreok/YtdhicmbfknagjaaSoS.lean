/- StoreOk of the model. -/
import Derived.Test.YtdhicmbfknagjaaSoP
import Derived.Test.YtdhicmbfknagjaaLgT
import Derived.Test.YtdhicmbfknagjaaInQ
namespace Go.Proofs.Ytdhicmbfknagjaa.SoS
set_option maxRecDepth 8000
open Go.RowKit
open Ls SoP
open Recs (hsz below1 below2 chain chainD)
open SegW (Sg)
open LogW (Lg LogAt)
open LgP (logOk)
open Asc (asc)
open Lp (inR Opn opn drop_cons inR_true Qt)
set_option linter.unusedVariables false
def pv (ns : List Int) (k : Nat) : Int := if k = 0 then -1 else ns.getD (k - 1) default
theorem clash_comm (a b : Txn) : clash a b = clash b a := by simp [clash, eq_comm]
theorem asc_inR (x y z : Int) : Asc.inR x y z = inR x y z := rfl
theorem take_any {l : List Txn} {j k : Nat} {p : Txn → Bool} (h : j < k) (hk : k ≤ l.length) (hp : p (l.getD j default) = true) : (l.take k).any p = true := by
  simp only [List.any_eq_true]
  refine ⟨l.getD j default, ?_, hp⟩
  have e : l.getD j default = (l.take k)[j]'(by rw [List.length_take]; omega) := by simp [show j < l.length by omega]
  rw [e]
  exact List.getElem_mem _
theorem take_next {l : List Txn} {j : Nat} {p : Txn → Bool} (h : j < l.length) (h1 : (l.take j).any p = false) (hp : p (l.getD j default) = false) : (l.take (j + 1)).any p = false := by
  have e : l.take (j + 1) = l.take j ++ [l.getD j default] := by
    rw [List.take_add_one, List.getElem?_eq_getElem h]
    simp [h]
  rw [e, List.any_append, h1]
  generalize l.getD j default = x at *
  simp [hp]
set_option maxHeartbeats 6400000 in
theorem spec_any (v : Value) (u : Sto) (w : World) (lo b : Nat) (hv : StoAt w (seg lo b) v u) (hb : b ≤ w.heap.size) (hf : szSto u ≤ 1048576) (hfi : FineSto u) :
    Calls Try.prog 8 #[v] w fun e w' => e = .returned (.bool (storeOk u)) ∧ Below w.heap.size w w' := by
  have hS : ∀ g, seg lo b g → g < w.heap.size := fun g hg => Nat.lt_of_lt_of_le hg.2 hb
  obtain ⟨A0, c0, A1, c1, rfl⟩ := form hv
  obtain ⟨A0', c0', gl, ol, Fl, g0, OL, n0⟩ := opn (parts hv).1 hS
  simp only [Value.slice.injEq, true_and] at g0
  obtain ⟨rfl, rfl⟩ := g0
  obtain ⟨A1', c1', ga, oa, Fa, g1, OA, n1⟩ := opn (parts hv).2 hS
  simp only [Value.slice.injEq, true_and] at g1
  obtain ⟨rfl, rfl⟩ := g1
  have HL := Seg.hid OL; have HA := Seg.hid OA
  have hn : u.txns.length ≤ 1048576 := szL_len szTxn (l := 1048576) (by unfold szSto at hf; omega)
  have LG : Hid (∀ i, i < u.logs.length → szLg (u.logs.getD i default) ≤ 1048576) := fun i hi => szL_one (l := 1048576) szLg (show szL szLg u.logs ≤ 1048576 by unfold szSto at hf; omega) hi
  have LW : Hid (∀ i, i < u.logs.length → ∀ j, j < (u.logs.getD i default).segs.length → I64 ((u.logs.getD i default).segs.getD j default).base) := fun i hi j hj => ((hfi.1.2 i hi).2.2.2.2 j hj).1
  have L0 : Hid (∀ i, i < u.txns.length → (u.txns.getD i default).name.size ≤ maxLen ∧ (u.txns.getD i default).parts.length ≤ 1048576) := fun i hi => by
    have := szL_one (l := 1048576) szTxn (show szL szTxn u.txns ≤ 1048576 by unfold szSto at hf; omega) hi
    unfold szTxn at this
    unfold maxLen
    omega
  clear hv OL OA hf hfi n0 n1
  go_enter Try.func8, Try.ntmps8
  have no : ∀ (w' : World), storeOk u = false → Below w.heap.size w w' → (Ending.returned (.bool false) = .returned (.bool (storeOk u)) ∧ Below w.heap.size w w') := fun w' h b => ⟨by rw [h], b⟩
  have NO := Seg.hid no
  clear no
  go_wp2_with fail
  cases h1 : inR 1 u.logs.length 12 with
  | false =>
    refine (InB.l1In_b _ _ _ false h1 _).mono ?_
    rintro e w1 ⟨rfl, rfl⟩
    have Z : Hid (storeOk u = false) := by show _ = _; simp [storeOk, logs, h1]
    clear h1
    go_wp2
    go_ret
    exact NO.out _ Z.out (below1 _ _)
  | true =>
  refine (InB.l1In_b _ _ _ true h1 _).mono ?_
  rintro e w1 ⟨rfl, rfl⟩
  have K1 := Seg.hid h1
  have hn12 : 1 ≤ u.logs.length ∧ u.logs.length ≤ 12 := by simp [inR] at h1; omega
  clear h1
  by_cases h20 : u.txns.length ≤ 20
  case neg =>
    have Z : Hid (storeOk u = false) := by show _ = _; simp [storeOk, txns, h20]
    have h2 : decide (20 < (u.txns.length : Int)) = true := decide_eq_true (by omega)
    go_wp2
    go_ret
    exact NO.out _ Z.out (below1 _ _)
  have h2 : decide (20 < (u.txns.length : Int)) = false := decide_eq_false (by omega)
  go_wp2_with fail
  cases h3 : inR 0 u.used 1000000000 with
  | false =>
    refine (InB.l1In_b _ _ _ false h3 _).mono ?_
    rintro e w1 ⟨rfl, rfl⟩
    have Z : Hid (storeOk u = false) := by show _ = _; simp [storeOk, h3]
    clear h3
    go_wp2
    go_ret
    exact NO.out _ Z.out (below1 _ _)
  | true =>
  refine (InB.l1In_b _ _ _ true h3 _).mono ?_
  rintro e w1 ⟨rfl, rfl⟩
  have hu := inR_true h3
  have KA : Hid (storeOk u = (lgs u.logs && txs u.logs.length u.used u.txns 0)) := by show _ = _; simp [storeOk, logs, txns, K1.out, h3, h20]
  have e1 : IntKind.i64.wrap ((u.logs.length : Int) - 1) = (u.logs.length : Int) - 1 := by rw [IntKind.wrap_i64] <;> omega
  have e2 : IntKind.i64.wrap (u.used - 1) = u.used - 1 := by rw [IntKind.wrap_i64] <;> omega
  clear h3 K1 h2
  go_upto_region 3 with fail
  have S0 : Hid (Sr w (w.alloc (.cells #[.slice A0 u.logs.length c0, .slice A1 u.txns.length c1, .int .i64 u.used] 31 (0, 0))) u A0 A1 c0 c1) := ⟨heap_alloc_new _ _, below1 _ _⟩
  generalize w.alloc (.cells #[.slice A0 u.logs.length c0, .slice A1 u.txns.length c1, .int .i64 u.used] 31 (0, 0)) = w2 at *
  go_wp2_with fail
  go_loopw [3] (fun i wr => ∃ (k : Nat), k ≤ u.logs.length ∧ i = .int .i64 k ∧ Hid (lgs (u.logs.drop k) = lgs u.logs ∧ Sr w wr u A0 A1 c0 c1)) (fun i _ => u.logs.length - (intOf i).toNat)
  case atStart => exact ⟨0, Nat.zero_le _, rfl, rfl, S0.out⟩
  case round =>
    clear S0
    obtain ⟨k, hk, rfl, HR⟩ := hrel
    obtain ⟨m0, m1, m2⟩ := HR.out.2.cells
    have hlw : w.heap.size < wr.heap.size := (Array.getElem?_eq_some_iff.1 HR.out.2.rp).1
    by_cases hlt : k < u.logs.length
    · obtain ⟨ea, hc, hga⟩ := HL.out.addr.resolve_left (by omega)
      have OL := HL.out.later keepsLg hS HR.out.2.bel
      obtain ⟨A3, c3, ⟨d0, d1, d2, d3⟩, LA⟩ := lg_cells (i := k) (fun j hj => OL.cells k hlt j hj) (OL.el k hlt)
      have LA' := Seg.hid LA
      have VF := Seg.hid (OldL.few_log (LG.out k hlt))
      have VW := Seg.hid (LW.out k hlt)
      have HD := HR.out.1
      rw [drop_cons hlt] at HD
      have HD' := Seg.hid HD
      have h0 : (0 : Int) ≤ (k : Int) := by omega
      have h1 : (k : Int) < (u.logs.length : Int) := by omega
      have hgr : gl < wr.heap.size := Nat.lt_of_lt_of_le hga HR.out.2.bel.size
      have hbr : b ≤ wr.heap.size := Nat.le_trans hb HR.out.2.bel.size
      clear OL LA HD
      generalize u.logs.getD k default = r at *
      subst ea
      go_wp2_with fail
      refine (LgS.spec_any _ r wr lo b LA'.out hbr VF.out VW.out).mono ?_
      rintro e w8 ⟨rfl, b8⟩
      have S8 := Seg.hid (HR.out.2.next b8)
      clear b8 d0 d1 d2 d3 m0 m1 m2
      cases hl : logOk r with
      | false =>
        have Z : Hid (storeOk u = false) := by show _ = _; rw [KA.out, ← HD'.out]; simp [lgs, hl]
        clear hl
        go_wp2
        go_ret
        exact NO.out _ Z.out S8.out.bel
      | true =>
        have Z : Hid (lgs (u.logs.drop (k + 1)) = lgs u.logs) := by show _ = _; rw [← HD'.out]; simp [lgs, hl]
        clear hl
        go_wp2
        go_roundw
        case rel => exact ⟨k + 1, by omega, by go_num, Z.out, S8.out⟩
        case measure => simp [intOf]; omega
    · have KB : Hid (storeOk u = txs u.logs.length u.used u.txns 0) := by
        show _ = _
        have := HR.out.1
        rw [List.drop_eq_nil_of_le (by omega)] at this
        rw [KA.out, ← this]; simp [lgs]
      have hk' : k = u.logs.length := by omega
      have S1 := Seg.hid HR.out.2
      clear HR KA
      subst hk'
      go_wp2_with fail
      clear m0 m1 m2
      go_loopw [4] (fun i wr => ∃ (k : Nat), k ≤ u.txns.length ∧ i = .int .i64 k ∧ Hid (txs u.logs.length u.used u.txns k = storeOk u ∧ Sr w wr u A0 A1 c0 c1)) (fun i _ => u.txns.length - (intOf i).toNat)
      case atStart => exact ⟨0, Nat.zero_le _, rfl, KB.out.symm, S1.out⟩
      case round =>
        clear S1 KB
        obtain ⟨k, hk, rfl, HR⟩ := hrel
        obtain ⟨m0, m1, m2⟩ := HR.out.2.cells
        have hlw : w.heap.size < wr.heap.size := (Array.getElem?_eq_some_iff.1 HR.out.2.rp).1
        by_cases hlt : k < u.txns.length
        · obtain ⟨ea, hc, hga⟩ := HA.out.addr.resolve_left (by omega)
          have OL := HA.out.later keepsTxn hS HR.out.2.bel
          have OL' := Seg.hid OL
          obtain ⟨A4, c4, ⟨d0, d1, d2, d3, d4⟩, IP⟩ := txn_cells (i := k) (fun j hj => OL.cells k hlt j hj) (OL.el k hlt)
          have NS := (L0.out k hlt).1
          have PL := (L0.out k hlt).2
          have HD := HR.out.1
          rw [txs_step hlt] at HD
          have HD' := Seg.hid HD
          have TX : Hid (tx u.logs.length u.used u.txns k = (txOk u.logs.length u.used (u.txns.getD k default) && !((u.txns.take k).any (clash (u.txns.getD k default))))) := rfl
          have h0 : (0 : Int) ≤ (k : Int) := by omega
          have h1 : (k : Int) < (u.txns.length : Int) := by omega
          have hgr : ga < wr.heap.size := Nat.lt_of_lt_of_le hga HR.out.2.bel.size
          have hSr : ∀ g, seg lo b g → g < wr.heap.size := fun g hg => Nat.lt_of_lt_of_le (hS g hg) HR.out.2.bel.size
          obtain ⟨A4', c4', gp, op, Fp, g4, OP, _⟩ := opn IP hSr
          simp only [Value.slice.injEq, true_and] at g4
          obtain ⟨rfl, rfl⟩ := g4
          have IC0 : Hid (∀ i, i < (u.txns.getD k default).parts.length → wr.cell? ⟨gp, op + i, none⟩ = some (.int .i64 ((u.txns.getD k default).parts.getD i default))) := int_cell OP.cells OP.el
          have PA := Seg.hid OP.addr
          clear OL IP HD OP
          generalize u.txns.getD k default = tk at *
          subst ea
          have ZT : Hid (txOk u.logs.length u.used tk = false → storeOk u = false) := fun h => by rw [← HD'.out, TX.out, h]; rfl
          have ZC : Hid ((u.txns.take k).any (clash tk) = true → storeOk u = false) := fun h => by rw [← HD'.out, TX.out, h]; simp
          have ZY : Hid (txOk u.logs.length u.used tk = true → (u.txns.take k).any (clash tk) = false → txs u.logs.length u.used u.txns (k + 1) = storeOk u) := fun h h' => by rw [← HD'.out, TX.out, h, h']; rfl
          go_upto_region 12 with fail
          have R0 : Hid (Tr w (wr.alloc (.cells #[.string tk.name, .int .i64 tk.producer, .int .i64 tk.turn, .bool tk.opn, .slice A4 tk.parts.length c4] 72 (0, 0))) w.heap.size wr.heap.size tk u A0 (some ⟨ga, oa, none⟩) A4 c0 c1 c4) := ⟨heap_alloc_new _ _, ((below1 wr _).block w.heap.size hlw).trans HR.out.2.rp, chain HR.out.2.bel (below1 wr _)⟩
          have OI : Hid (Opn 5 ETxn (wr.alloc (.cells #[.string tk.name, .int .i64 tk.producer, .int .i64 tk.turn, .bool tk.opn, .slice A4 tk.parts.length c4] 72 (0, 0))) (seg lo b) (some ⟨ga, oa, none⟩) c1 u.txns ga oa Fa) := OL'.out.later keepsTxn hSr (below1 wr _)
          have IC : Hid (tk.parts.length = 0 ∨ (A4 = some ⟨gp, op, none⟩ ∧ tk.parts.length ≤ c4 ∧ (∀ i, i < tk.parts.length → (wr.alloc (.cells #[.string tk.name, .int .i64 tk.producer, .int .i64 tk.turn, .bool tk.opn, .slice A4 tk.parts.length c4] 72 (0, 0))).cell? ⟨gp, op + i, none⟩ = some (.int .i64 (tk.parts.getD i default))))) := PA.out.imp id fun ⟨h1, h2, h3⟩ => ⟨h1, h2, fun i hi => by rw [(below1 wr _).cell (p := ⟨gp, op + i, none⟩) h3]; exact IC0.out i hi⟩
          have hlr : wr.heap.size < (wr.alloc (.cells #[.string tk.name, .int .i64 tk.producer, .int .i64 tk.turn, .bool tk.opn, .slice A4 tk.parts.length c4] 72 (0, 0))).heap.size := by rw [hsz]; omega
          generalize hwi : wr.alloc (.cells #[.string tk.name, .int .i64 tk.producer, .int .i64 tk.turn, .bool tk.opn, .slice A4 tk.parts.length c4] 72 (0, 0)) = wi at *
          clear d0 d1 d2 d3 d4 HR OL' IC0 PA m0 m1 m2 hwi
          obtain ⟨s0, s1, s2, s3, s4⟩ := R0.out.cells
          obtain ⟨u0, u1, u2⟩ := R0.out.cellp
          generalize wr.heap.size = pr at *
          go_wp2_with fail
          refine (Nm.spec_any tk.name _ NS).mono ?_
          rintro e wq ⟨rfl, rfl⟩
          cases f1 : Nm.nameOk tk.name with
          | false =>
            have Z := Seg.hid (ZT.out (by simp [txOk, front, f1]))
            clear f1
            go_wp2
            go_ret
            exact NO.out _ Z.out R0.out.bel
          | true =>
          go_wp2_with fail
          cases f2 : inR 0 tk.producer (u.used - 1) with
          | false =>
            refine (InB.l1In_b _ _ _ false f2 _).mono ?_
            rintro e wq ⟨rfl, rfl⟩
            have Z := Seg.hid (ZT.out (by simp [txOk, front, f2]))
            clear f1 f2
            go_wp2
            go_ret
            exact NO.out _ Z.out R0.out.bel
          | true =>
          refine (InB.l1In_b _ _ _ true f2 _).mono ?_
          rintro e wq ⟨rfl, rfl⟩
          go_wp2_with fail
          cases f3 : inR 0 tk.turn 1000 with
          | false =>
            refine (InB.l1In_b _ _ _ false f3 _).mono ?_
            rintro e wq ⟨rfl, rfl⟩
            have Z := Seg.hid (ZT.out (by simp [txOk, front, f3]))
            clear f1 f2 f3
            go_wp2
            go_ret
            exact NO.out _ Z.out R0.out.bel
          | true =>
          refine (InB.l1In_b _ _ _ true f3 _).mono ?_
          rintro e wq ⟨rfl, rfl⟩
          have KF : Hid (txOk u.logs.length u.used tk = (asc ((u.logs.length : Int) - 1) (-1) tk.parts && empt tk)) := by show _ = _; simp [txOk, front, f1, f2, f3]
          clear f1 f2 f3
          by_cases f4 : tk.parts.length = 0
          · have f5 : decide (0 < (tk.parts.length : Int)) = false := decide_eq_false (by omega)
            have f6 : decide (0 < tk.parts.length) = false := decide_eq_false (by omega)
            have f8 : ¬ 0 < tk.parts.length := by omega
            have KE : Hid (empt tk = true) := by show _ = _; simp [empt, f4]
            clear f4
            go_wp2_with fail
            go_loopw [6] (fun i wx => ∃ (j : Nat), j ≤ k ∧ i = .int .i64 j ∧ Hid (Qt wi wx) ∧ Hid ((u.txns.take j).any (clash tk) = false)) (fun i _ => k - (intOf i).toNat)
            case atStart => exact ⟨0, Nat.zero_le _, rfl, ⟨rfl, rfl, rfl, rfl⟩, rfl⟩
            case round =>
              obtain ⟨j, hj, rfl, HW, HC⟩ := hrel
              have R1 := Seg.hid (R0.out.next (HW.out.bel _))
              by_cases hlj : j < k
              · have OJ := OI.out.cells j (by omega)
                obtain ⟨B4, e4, ⟨y0, y1, y2, y3, y4⟩, _⟩ := txn_cells (i := j) (fun q hq => (HW.out.cell _).trans (OJ q hq)) (keepsTxn _ _ _ _ _ _ (OI.out.el j (by omega)) (fun g hg => by rw [HW.out.heap]) (fun _ _ => rfl))
                have k0 : (0 : Int) ≤ (j : Int) := by omega
                have k1 : (j : Int) < (k : Int) := by omega
                have k2 : (j : Int) < (u.txns.length : Int) := by omega
                obtain ⟨s0, s1, s2, s3, s4⟩ := R1.out.cells
                obtain ⟨u0, u1, u2⟩ := R1.out.cellp
                have ZD : Hid (clash tk (u.txns.getD j default) = true → storeOk u = false) := fun h => ZC.out (take_any hlj hk h)
                have ZN : Hid (clash tk (u.txns.getD j default) = false → (u.txns.take (j + 1)).any (clash tk) = false) := fun h => take_next (by omega) HC.out h
                clear OJ
                generalize u.txns.getD j default = tj at *
                by_cases p1 : tj.name.toList = tk.name.toList
                · have p4 : (tj.name.toList == tk.name.toList) = true := by simp [p1]
                  have Z := Seg.hid (ZD.out (by simp [clash, p1]))
                  go_wp2_with fail
                  go_quiet (fail)
                  go_wp2
                  go_ret
                  exact NO.out _ Z.out (chain R1.out.bel ((Qt.refl _).drewN _ |>.bel _))
                · have p4 : (tj.name.toList == tk.name.toList) = false := beq_false_of_ne p1
                  by_cases p2 : tj.producer = tk.producer
                  · have Z := Seg.hid (ZD.out (by simp [clash, p2]))
                    have p3 : (tj.producer == tk.producer) = true := by simp [p2]
                    go_wp2_with fail
                    go_quiet (fail)
                    go_wp2
                    go_ret
                    exact NO.out _ Z.out (chain R1.out.bel ((Qt.refl _).drewN _ |>.bel _))
                  · have ZZ := Seg.hid (ZN.out (by rw [clash_comm]; simp [clash, p1, p2]))
                    have p3 : (tj.producer == tk.producer) = false := by simp [p2]
                    go_wp2_with fail
                    go_quiet (fail)
                    go_wp2
                    go_roundw
                    case rel => exact ⟨j + 1, by omega, by go_num, HW.out.drewN _, ZZ.out⟩
                    case measure => simp [intOf]; omega
              · have hj' : k = j := by omega
                subst hj'
                have KC : Hid ((u.txns.take k).any (clash tk) = false) := HC.out
                obtain ⟨s0, s1, s2, s3, s4⟩ := R1.out.cells
                obtain ⟨u0, u1, u2⟩ := R1.out.cellp
                obtain ⟨wj, hwj⟩ : ∃ wj, wj = wr := ⟨wr, rfl⟩
                subst hwj
                have ZA : Hid (asc ((u.logs.length : Int) - 1) (-1) tk.parts = false → storeOk u = false) := fun h => ZT.out (by rw [KF.out, h]; rfl)
                clear HC hj
                go_wp2_with fail
                clear s0 s1 s2 s3 s4 u0 u1 u2
                go_loopw [7] (fun i wx => ∃ (j : Nat), j ≤ tk.parts.length ∧ i = .int .i64 j ∧ Hid (Qt wi wx) ∧ Hid (asc ((u.logs.length : Int) - 1) (pv tk.parts j) (tk.parts.drop j) = asc ((u.logs.length : Int) - 1) (-1) tk.parts ∧ -1 ≤ pv tk.parts j)) (fun i _ => tk.parts.length - (intOf i).toNat)
                case atStart => exact ⟨0, Nat.zero_le _, rfl, HW.out, rfl, by simp [pv]⟩
                case round =>
                  clear HW R1
                  obtain ⟨j, hj, rfl, HW, HQ⟩ := hrel
                  have R1 := Seg.hid (R0.out.next (HW.out.bel _))
                  obtain ⟨s0, s1, s2, s3, s4⟩ := R1.out.cells
                  obtain ⟨u0, u1, u2⟩ := R1.out.cellp
                  by_cases hlj : j < tk.parts.length
                  · exact absurd hlj (by omega)
                  · have KL : Hid (txs u.logs.length u.used u.txns (k + 1) = storeOk u) := by
                      show _ = _
                      have := HQ.out.1
                      rw [List.drop_eq_nil_of_le (by omega)] at this
                      refine ZY.out ?_ KC.out
                      rw [KF.out, ← this, KE.out]; rfl
                    go_wp2
                    go_roundw
                    case rel => exact ⟨k + 1, by omega, by go_num, KL.out, R1.out.rp, R1.out.bel⟩
                    case measure => simp [intOf]; omega
          have f5 : decide (0 < (tk.parts.length : Int)) = true := decide_eq_true (by omega)
          have f6 : decide (0 < tk.parts.length) = true := decide_eq_true (by omega)
          have f8 : 0 < tk.parts.length := by omega
          cases f7 : tk.opn with
          | false =>
            have Z := Seg.hid (ZT.out (by rw [KF.out]; simp [empt, f4, f7]))
            rw [f7] at s3
            clear f4
            go_wp2
            go_ret
            exact NO.out _ Z.out R0.out.bel
          | true =>
            have KE : Hid (empt tk = true) := by show _ = _; simp [empt, f7]
            rw [f7] at s3
            clear f4
            go_wp2_with fail
            go_loopw [6] (fun i wx => ∃ (j : Nat), j ≤ k ∧ i = .int .i64 j ∧ Hid (Qt wi wx) ∧ Hid ((u.txns.take j).any (clash tk) = false)) (fun i _ => k - (intOf i).toNat)
            case atStart => exact ⟨0, Nat.zero_le _, rfl, ⟨rfl, rfl, rfl, rfl⟩, rfl⟩
            case round =>
              obtain ⟨j, hj, rfl, HW, HC⟩ := hrel
              have R1 := Seg.hid (R0.out.next (HW.out.bel _))
              by_cases hlj : j < k
              · have OJ := OI.out.cells j (by omega)
                obtain ⟨B4, e4, ⟨y0, y1, y2, y3, y4⟩, _⟩ := txn_cells (i := j) (fun q hq => (HW.out.cell _).trans (OJ q hq)) (keepsTxn _ _ _ _ _ _ (OI.out.el j (by omega)) (fun g hg => by rw [HW.out.heap]) (fun _ _ => rfl))
                have k0 : (0 : Int) ≤ (j : Int) := by omega
                have k1 : (j : Int) < (k : Int) := by omega
                have k2 : (j : Int) < (u.txns.length : Int) := by omega
                obtain ⟨s0, s1, s2, s3, s4⟩ := R1.out.cells
                obtain ⟨u0, u1, u2⟩ := R1.out.cellp
                have ZD : Hid (clash tk (u.txns.getD j default) = true → storeOk u = false) := fun h => ZC.out (take_any hlj hk h)
                have ZN : Hid (clash tk (u.txns.getD j default) = false → (u.txns.take (j + 1)).any (clash tk) = false) := fun h => take_next (by omega) HC.out h
                clear OJ
                generalize u.txns.getD j default = tj at *
                by_cases p1 : tj.name.toList = tk.name.toList
                · have p4 : (tj.name.toList == tk.name.toList) = true := by simp [p1]
                  have Z := Seg.hid (ZD.out (by simp [clash, p1]))
                  go_wp2_with fail
                  go_quiet (fail)
                  go_wp2
                  go_ret
                  exact NO.out _ Z.out (chain R1.out.bel ((Qt.refl _).drewN _ |>.bel _))
                · have p4 : (tj.name.toList == tk.name.toList) = false := beq_false_of_ne p1
                  by_cases p2 : tj.producer = tk.producer
                  · have Z := Seg.hid (ZD.out (by simp [clash, p2]))
                    have p3 : (tj.producer == tk.producer) = true := by simp [p2]
                    go_wp2_with fail
                    go_quiet (fail)
                    go_wp2
                    go_ret
                    exact NO.out _ Z.out (chain R1.out.bel ((Qt.refl _).drewN _ |>.bel _))
                  · have ZZ := Seg.hid (ZN.out (by rw [clash_comm]; simp [clash, p1, p2]))
                    have p3 : (tj.producer == tk.producer) = false := by simp [p2]
                    go_wp2_with fail
                    go_quiet (fail)
                    go_wp2
                    go_roundw
                    case rel => exact ⟨j + 1, by omega, by go_num, HW.out.drewN _, ZZ.out⟩
                    case measure => simp [intOf]; omega
              · have hj' : k = j := by omega
                subst hj'
                have KC : Hid ((u.txns.take k).any (clash tk) = false) := HC.out
                obtain ⟨s0, s1, s2, s3, s4⟩ := R1.out.cells
                obtain ⟨u0, u1, u2⟩ := R1.out.cellp
                obtain ⟨wj, hwj⟩ : ∃ wj, wj = wr := ⟨wr, rfl⟩
                subst hwj
                have ZA : Hid (asc ((u.logs.length : Int) - 1) (-1) tk.parts = false → storeOk u = false) := fun h => ZT.out (by rw [KF.out, h]; rfl)
                clear HC hj
                go_wp2_with fail
                clear s0 s1 s2 s3 s4 u0 u1 u2
                go_loopw [7] (fun i wx => ∃ (j : Nat), j ≤ tk.parts.length ∧ i = .int .i64 j ∧ Hid (Qt wi wx) ∧ Hid (asc ((u.logs.length : Int) - 1) (pv tk.parts j) (tk.parts.drop j) = asc ((u.logs.length : Int) - 1) (-1) tk.parts ∧ -1 ≤ pv tk.parts j)) (fun i _ => tk.parts.length - (intOf i).toNat)
                case atStart => exact ⟨0, Nat.zero_le _, rfl, HW.out, rfl, by simp [pv]⟩
                case round =>
                  clear HW R1
                  obtain ⟨j, hj, rfl, HW, HQ⟩ := hrel
                  have R1 := Seg.hid (R0.out.next (HW.out.bel _))
                  obtain ⟨s0, s1, s2, s3, s4⟩ := R1.out.cells
                  obtain ⟨u0, u1, u2⟩ := R1.out.cellp
                  by_cases hlj : j < tk.parts.length
                  · obtain ⟨ea3, hc3, hcel⟩ := IC.out.resolve_left (by omega)
                    have IX : ∀ i, i < tk.parts.length → wr.cell? ⟨gp, op + i, none⟩ = some (.int .i64 (tk.parts.getD i default)) := fun i hi => (HW.out.cell _).trans (hcel i hi)
                    have i1 := IX j hlj
                    have HQ1 := HQ.out.1
                    rw [drop_cons hlj] at HQ1
                    have HQ2 := HQ.out.2
                    have i2 : Hid (0 < j → wr.cell? ⟨gp, op + (j - 1), none⟩ = some (.int .i64 (tk.parts.getD (j - 1) default)) ∧ pv tk.parts j = tk.parts.getD (j - 1) default) := fun h => ⟨IX (j - 1) (by omega), by simp [pv, show ¬ j = 0 by omega]⟩
                    have hpn : Hid (pv tk.parts (j + 1) = tk.parts.getD j default) := by show _ = _; simp [pv]
                    have hp0 : Hid (j = 0 → pv tk.parts j = -1) := fun h => by simp [pv, h]
                    have k0 : (0 : Int) ≤ (j : Int) := by omega
                    have k1 : (j : Int) < (tk.parts.length : Int) := by omega
                    clear IX hcel
                    generalize tk.parts.getD j default = nj at *
                    generalize pv tk.parts j = pj at *
                    have HQ1' := Seg.hid HQ1
                    clear HQ1
                    subst ea3
                    have ZB : Hid (inR (pj + 1) nj ((u.logs.length : Int) - 1) = false → storeOk u = false) := fun hb => ZA.out (by rw [← HQ1'.out]; simp only [asc, asc_inR, hb, Bool.false_and])
                    cases hb2 : inR 0 nj ((u.logs.length : Int) - 1) with
                    | false =>
                      have Z := Seg.hid (ZB.out (by have hb' := hb2; simp only [inR, Bool.and_eq_false_iff, decide_eq_false_iff_not] at hb' ⊢; omega))
                      have HBn := Seg.hid hb2
                      clear hb2
                      go_wp2_with fail
                      go_quiet (first | (go_at_call 35; refine Calls.quiet_of_same (InB.l1In_q _ _ _ _ HBn.out _)))
                      go_wp2
                      go_ret
                      exact NO.out _ Z.out (chain R1.out.bel ((Qt.refl _).drewN _ |>.bel _))
                    | true =>
                      have hbb : 0 ≤ nj ∧ nj ≤ (u.logs.length : Int) - 1 := by simpa [inR] using hb2
                      have HBn := Seg.hid hb2
                      clear hb2
                      by_cases hj0 : j = 0
                      · have hpj := hp0.out hj0
                        have HE : Hid (asc ((u.logs.length : Int) - 1) nj (tk.parts.drop (j + 1)) = asc ((u.logs.length : Int) - 1) (-1) tk.parts) := by
                          show _ = _
                          rw [← HQ1'.out]
                          have : inR (pj + 1) nj ((u.logs.length : Int) - 1) = true := by rw [hpj]; exact HBn.out
                          simp only [asc, asc_inR, this, Bool.true_and]
                        have hgd : decide ((0 : Int) < (j : Int)) = false := decide_eq_false (by omega)
                        have hgd2 : decide (0 < j) = false := decide_eq_false (by omega)
                        clear hpj hj0
                        go_wp2_with fail
                        go_quiet (first | (go_at_call 35; refine Calls.quiet_of_same (InB.l1In_q _ _ _ _ HBn.out _)))
                        go_wp2
                        go_roundw
                        case rel => exact ⟨j + 1, by omega, by go_num, HW.out.drewN _, by rw [hpn.out]; exact HE.out, by rw [hpn.out]; omega⟩
                        case measure => simp [intOf]; omega
                      · obtain ⟨i3, hpj⟩ := i2.out (by omega)
                        have HPJ := Seg.hid hpj
                        clear hpj
                        have w1 : IntKind.i64.wrap ((j : Int) - 1) = (j : Int) - 1 := by rw [IntKind.wrap_i64] <;> omega
                        have k2 : (0 : Int) ≤ (j : Int) - 1 := by omega
                        have k3 : (j : Int) - 1 < (tk.parts.length : Int) := by omega
                        have k4 : (0 : Int) < (j : Int) := by omega
                        have k5 : 0 < j := by omega
                        have k6 : (1 : Int) ≤ (j : Int) := by omega
                        have k7 : 1 ≤ j := by omega
                        generalize tk.parts.getD (j - 1) default = mj at *
                        by_cases hge : nj ≤ mj
                        · have Z := Seg.hid (ZB.out (by rw [HPJ.out]; simp only [inR, Bool.and_eq_false_iff, decide_eq_false_iff_not]; omega))
                          go_wp2_with fail
                          go_quiet (first | (go_at_call 35; refine Calls.quiet_of_same (InB.l1In_q _ _ _ _ HBn.out _)))
                          go_wp2
                          go_ret
                          exact NO.out _ Z.out (chain R1.out.bel ((Qt.refl _).drewN _ |>.bel _))
                        · have HE : Hid (asc ((u.logs.length : Int) - 1) nj (tk.parts.drop (j + 1)) = asc ((u.logs.length : Int) - 1) (-1) tk.parts) := by
                            show _ = _
                            rw [← HQ1'.out]
                            have : inR (pj + 1) nj ((u.logs.length : Int) - 1) = true := by rw [HPJ.out]; simp only [inR, Bool.and_eq_true, decide_eq_true_eq]; omega
                            simp only [asc, asc_inR, this, Bool.true_and]
                          have hge2 : decide (nj ≤ mj) = false := decide_eq_false hge
                          go_wp2_with fail
                          go_quiet (first | (go_at_call 35; refine Calls.quiet_of_same (InB.l1In_q _ _ _ _ HBn.out _)))
                          go_wp2
                          go_roundw
                          case rel => exact ⟨j + 1, by omega, by go_num, HW.out.drewN _, by rw [hpn.out]; exact HE.out, by rw [hpn.out]; omega⟩
                          case measure => simp [intOf]; omega
                  · have KL : Hid (txs u.logs.length u.used u.txns (k + 1) = storeOk u) := by
                      show _ = _
                      have := HQ.out.1
                      rw [List.drop_eq_nil_of_le (by omega)] at this
                      refine ZY.out ?_ KC.out
                      rw [KF.out, ← this, KE.out]; rfl
                    go_wp2
                    go_roundw
                    case rel => exact ⟨k + 1, by omega, by go_num, KL.out, R1.out.rp, R1.out.bel⟩
                    case measure => simp [intOf]; omega
        · have HE := HR.out.1
          rw [txs_end (by omega)] at HE
          have HE' := Seg.hid HE
          clear HE
          go_wp2
          go_ret
          exact ⟨Seg.ret_bool HE'.out, HR.out.2.bel⟩
end Go.Proofs.Ytdhicmbfknagjaa.SoS
