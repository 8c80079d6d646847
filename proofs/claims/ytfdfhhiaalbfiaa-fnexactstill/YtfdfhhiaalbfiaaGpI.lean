/- GroupOk of the program. -/
import Derived.Test.YtfdfhhiaalbfiaaGmI
import Derived.Test.YtfdfhhiaalbfiaaGsI
import Derived.Test.YtfdfhhiaalbfiaaTpI
import Derived.Test.YtfdfhhiaalbfiaaInB
namespace Go.Proofs.Ytfdfhhiaalbfiaa.GpI
set_option maxRecDepth 8000
open Go.RowKit Go.Maps
open Ls Lp WnP GpP GmP
open Recs (hsz below1 below2 chain)
set_option linter.unusedVariables false
abbrev grow (t : Grp) (A4 : Option Addr) (c4 : Nat) (A5 : Option Addr) (c5 : Nat) : Array Value := #[.int .i64 t.kind, .int .i64 t.timeout, .int .i64 t.now, .int .i64 t.round, .slice A4 t.topics.length c4, .slice A5 t.members.length c5]
theorem inW (x lo hi : Int) (b : Bool) (h : inR lo x hi = b) (w : World) : Calls Try.prog 40 #[.int .i64 x, .int .i64 lo, .int .i64 hi] w fun e w' => e = .returned (.bool b) ∧ w = w' := InB.within_b x lo hi b h w
set_option maxHeartbeats 6400000 in
theorem members_any (t : Grp) (A4 A5 : Option Addr) (c4 c5 : Nat) (w : World) (S : Nat → Prop) (hv : LAt 7 EMbr w S (.slice A5 t.members.length c5) t.members) (hS : ∀ g, S g → g < w.heap.size) (hf : szL szMbr t.members ≤ 1048576) :
    Calls Try.prog 42 #[.agg (grow t A4 c4 A5 c5)] w fun e w' => e = .returned (.bool (memb t)) ∧ Below w.heap.size w w' := by
  have HV := Seg.hid hv
  obtain ⟨_, _, g, o, F, gq, OA, n3⟩ := opn hv hS
  simp only [Value.slice.injEq, true_and] at gq
  obtain ⟨rfl, rfl⟩ := gq
  have HA := Seg.hid OA
  have hn : t.members.length ≤ 1048576 := szL_len _ hf
  have HL : Hid (∀ i, i < t.members.length → szMbr (t.members.getD i default) ≤ 1048576) := fun i hi => szL_one _ hf hi
  have HF := Seg.hid hf
  have hz3 : szL szWnt (t.members.map toW) ≤ 1048576 := Nat.le_trans (sz_wants _) hf
  have HW := Seg.hid hz3
  clear hv OA hf n3 hz3
  have no : ∀ (w' : World), memb t = false → Below w.heap.size w w' → (Ending.returned (.bool false) = .returned (.bool (memb t)) ∧ Below w.heap.size w w') := fun w' h b => ⟨by rw [h], b⟩
  have NO := Seg.hid no
  clear no
  go_enter Try.func42, Try.ntmps42
  obtain ⟨w1, hw1⟩ : ∃ w1, w.alloc (.cells (grow t A4 c4 A5 c5) 31 (0, 0)) = w1 := ⟨_, rfl⟩
  have R1 : Hid (w1.heap[w.heap.size]? = some (.cells (grow t A4 c4 A5 c5) 31 (0, 0))) := by show _ = _; rw [← hw1]; exact heap_alloc_new _ _
  have B1 : Hid (Below w.heap.size w w1) := by show Below _ _ _; rw [← hw1]; exact below1 w _
  have hl1 : w.heap.size < w1.heap.size := (Array.getElem?_eq_some_iff.1 R1.out).1
  have hS1 : ∀ g, S g → g < w1.heap.size := fun g hg => Nat.lt_trans (hS g hg) hl1
  have C1 : Hid (Calls Try.prog 73 #[.slice A5 t.members.length c5] w1 fun e w' => ∃ v, e = .returned v ∧ LAt 3 EWnt w' (fun g => g < w'.heap.size) v (t.members.map toW) ∧ Below w1.heap.size w1 w') := GmI.wantsOf_any _ _ w1 S (LAt.below keepsMbr HV.out B1.out hS) hS1 hn
  go_upto_region 1 with fail
  try rw [hw1]
  clear hw1
  have p5 : w1.cell? ⟨w.heap.size, 5, none⟩ = some (.slice A5 t.members.length c5) := cell_of_row w1 _ 5 _ _ (0, 0) R1.out
  cases a1 : wants (t.members.map toW) with
  | false =>
    have Z : Hid (memb t = false) := by show _ = _; simp [memb, a1]
    have CW : Hid (∀ v w2, LAt 3 EWnt w2 (fun g => g < w2.heap.size) v (t.members.map toW) → Calls Try.prog 72 #[v] w2 fun e w' => e = .returned (.bool false) ∧ Below w2.heap.size w2 w') := fun v w2 h => by rw [← a1]; exact WnI.impl_any v _ w2 _ h (fun g hg => hg) HW.out
    clear a1
    go_wp2_with (first | (go_at_call 73; refine C1.out.mono ?_; rintro e w2 ⟨v2, rfl, lw, b2⟩; have LW := Seg.hid lw; have B2 := Seg.hid b2; clear lw b2) | (go_at_call 72; refine (CW.out _ _ LW.out).mono ?_; rintro e w3 ⟨rfl, b3⟩; have B3 := Seg.hid b3; clear b3))
    go_ret
    exact NO.out _ Z.out (chain (chain B1.out B2.out) B3.out)
  | true =>
  have CW : Hid (∀ v w2, LAt 3 EWnt w2 (fun g => g < w2.heap.size) v (t.members.map toW) → Calls Try.prog 72 #[v] w2 fun e w' => e = .returned (.bool true) ∧ Below w2.heap.size w2 w') := fun v w2 h => by rw [← a1]; exact WnI.impl_any v _ w2 _ h (fun g hg => hg) HW.out
  have CT : Hid (∀ w3, Below w.heap.size w w3 → Calls Try.prog 74 #[.slice A5 t.members.length c5] w3 fun e w' => e = .returned (.bool (stats t.members 0)) ∧ Below w3.heap.size w3 w') := fun w3 b => GsI.statics_any _ _ w3 S (LAt.below keepsMbr HV.out b hS) (fun g hg => Nat.lt_of_lt_of_le (hS g hg) b.size) HF.out
  have h30 : t.members.length ≤ 30 := by
    have := a1
    unfold wants at this
    simp only [Bool.and_eq_true, decide_eq_true_eq, List.length_map] at this
    exact this.1
  cases a2 : stats t.members 0 with
  | false =>
    have Z : Hid (memb t = false) := by show _ = _; simp [memb, a2]
    rw [a2] at CT
    clear a1 a2
    go_wp2_with (first | (go_at_call 73; refine C1.out.mono ?_; rintro e w2 ⟨v2, rfl, lw, b2⟩; have LW := Seg.hid lw; have B2 := Seg.hid b2; clear lw b2) | (go_at_call 72; refine (CW.out _ _ LW.out).mono ?_; rintro e w3 ⟨rfl, b3⟩; have B3 := Seg.hid (chain B2.out b3); have p5' := (B3.out.cell (p := ⟨w.heap.size, 5, none⟩) hl1).trans p5; clear b3) | (go_at_call 74; refine (CT.out _ (chain B1.out B3.out)).mono ?_; rintro e w4 ⟨rfl, b4⟩; have B4 := Seg.hid b4; clear b4))
    go_ret
    exact NO.out _ Z.out (chain (chain B1.out B3.out) B4.out)
  | true =>
  have Z : Hid (memb t = (t.members.all (okB t) && once t.members)) := by show _ = _; simp [memb, a1, a2]
  rw [a2] at CT
  clear a1 a2
  go_upto_region 3 with (first | (go_at_call 73; refine C1.out.mono ?_; rintro e w2 ⟨v2, rfl, lw, b2⟩; have LW := Seg.hid lw; have B2 := Seg.hid b2; clear lw b2) | (go_at_call 72; refine (CW.out _ _ LW.out).mono ?_; rintro e w3 ⟨rfl, b3⟩; have B3 := Seg.hid (chain B2.out b3); have p5' := (B3.out.cell (p := ⟨w.heap.size, 5, none⟩) hl1).trans p5; clear b3) | (go_at_call 74; refine (CT.out _ (chain B1.out B3.out)).mono ?_; rintro e w4 ⟨rfl, b4⟩; have B4 := Seg.hid (chain B3.out b4); clear b4))
  have R4 : Hid (w4.heap[w.heap.size]? = some (.cells (grow t A4 c4 A5 c5) 31 (0, 0))) := by show _ = _; rw [B4.out.block _ hl1]; exact R1.out
  have BB : Hid (Below w.heap.size w w4) := chain B1.out B4.out
  have hl4 : w.heap.size < w4.heap.size := Nat.lt_of_lt_of_le hl1 B4.out.size
  have q5 : w4.cell? ⟨w.heap.size, 5, none⟩ = some (.slice A5 t.members.length c5) := cell_of_row w4 _ 5 _ _ (0, 0) R4.out
  clear p5 p5' LW CW CT C1 R1 B2 B3 B4 B1
  go_wp2_with fail
  clear q5
  go_loopw [19] (fun i wr => ∃ (k : Nat), k ≤ t.members.length ∧ i = .int .i64 k ∧ Hid ((t.members.drop k).all (okB t) = t.members.all (okB t) ∧ Below w4.heap.size w4 wr)) (fun i _ => t.members.length - (intOf i).toNat)
  case atStart => exact ⟨0, Nat.zero_le _, rfl, rfl, Below.refl _ _⟩
  case round =>
    obtain ⟨k, hk, rfl, HR⟩ := hrel
    have HB : Hid (Below w.heap.size w wr) := chain BB.out HR.out.2
    have RR : Hid (wr.heap[w.heap.size]? = some (.cells (grow t A4 c4 A5 c5) 31 (0, 0))) := by show _ = _; rw [HR.out.2.block _ hl4]; exact R4.out
    have hlr : w.heap.size < wr.heap.size := Nat.lt_of_lt_of_le hl4 HR.out.2.size
    by_cases hlt : k < t.members.length
    · obtain ⟨ea, hc, hga⟩ := HA.out.addr.resolve_left (by omega)
      have OL := HA.out.later keepsMbr hS HB.out
      obtain ⟨B2, b2, B5, b5, B6, b6, ⟨e0, e1, e2, e3, e4, e5, e6⟩, _, _, LT⟩ := mbr_cells (i := k) (fun j hj => OL.cells k (by omega) j hj) (OL.el k (by omega))
      have HT := Seg.hid LT
      have h0 : (0 : Int) ≤ (k : Int) := by omega
      have h1 : (k : Int) < (t.members.length : Int) := by omega
      have hgr : g < wr.heap.size := Nat.lt_of_lt_of_le hga HB.out.size
      have hsz1 := HL.out k hlt
      have HD := HR.out.1
      rw [SlI.all_step (okB t) hlt] at HD
      have HD' := Seg.hid HD
      clear HD OL LT
      generalize t.members.getD k default = m at *
      have Z2 : Hid (szL szSlt m.target ≤ 1048576) := by show _ ≤ _; unfold szMbr at hsz1; omega
      clear hsz1
      obtain ⟨wz, hwz⟩ : ∃ wz, wr.alloc (.cells (mrow m B2 b2 B5 b5 B6 b6) 67 (0, 0)) = wz := ⟨_, rfl⟩
      have RZ : Hid (wz.heap[wr.heap.size]? = some (.cells (mrow m B2 b2 B5 b5 B6 b6) 67 (0, 0))) := by show _ = _; rw [← hwz]; exact heap_alloc_new _ _
      have BR : Hid (Below wr.heap.size wr wz) := by show Below _ _ _; rw [← hwz]; exact below1 wr _
      have BI : Hid (Below w4.heap.size w4 wz) := chain HR.out.2 BR.out
      have hlz : wr.heap.size < wz.heap.size := (Array.getElem?_eq_some_iff.1 RZ.out).1
      have hSr : ∀ g, S g → g < wr.heap.size := fun g hg => Nat.lt_of_lt_of_le (hS g hg) HB.out.size
      have CS : Hid (Calls Try.prog 75 #[.slice B6 m.target.length b6] wz fun e w' => e = .returned (.bool (slots m.target)) ∧ Below wz.heap.size wz w') := SlI.slotsOk_any _ m.target wz S (LAt.below keepsSlt HT.out BR.out hSr) (fun g hg => Nat.lt_trans (hSr g hg) hlz) Z2.out
      have RQ : Hid (wz.heap[w.heap.size]? = some (.cells (grow t A4 c4 A5 c5) 31 (0, 0))) := by show _ = _; rw [BR.out.block _ hlr]; exact RR.out
      have hlw : w.heap.size < wz.heap.size := Nat.lt_trans hlr hlz
      subst ea
      go_upto_region 6 with fail
      try rw [hwz]
      clear hwz e0 e1 e2 e3 e4 e5 e6 HT
      have p3 : wz.cell? ⟨wr.heap.size, 3, none⟩ = some (.int .i64 m.beat) := cell_of_row wz _ 3 _ _ (0, 0) RZ.out
      have p4 : wz.cell? ⟨wr.heap.size, 4, none⟩ = some (.int .i64 m.round) := cell_of_row wz _ 4 _ _ (0, 0) RZ.out
      have p6 : wz.cell? ⟨wr.heap.size, 6, none⟩ = some (.slice B6 m.target.length b6) := cell_of_row wz _ 6 _ _ (0, 0) RZ.out
      have r2 : wz.cell? ⟨w.heap.size, 2, none⟩ = some (.int .i64 t.now) := cell_of_row wz _ 2 _ _ (0, 0) RQ.out
      have r3 : wz.cell? ⟨w.heap.size, 3, none⟩ = some (.int .i64 t.round) := cell_of_row wz _ 3 _ _ (0, 0) RQ.out
      cases k1 : inR 0 m.beat t.now with
      | false =>
        have ZN : Hid (memb t = false) := by show _ = _; rw [Z.out, ← HD'.out]; simp [okB, k1]
        have K1 := Seg.hid k1
        clear k1
        go_wp2_with (first | (go_at_call_of 40 (Value.int IntKind.i64 m.beat); refine (inW _ _ _ false K1.out _).mono ?_; rintro e w5 ⟨rfl, rfl⟩))
        go_ret
        exact NO.out _ ZN.out (chain BB.out BI.out)
      | true =>
      have K1 := Seg.hid k1
      cases k2 : inR 0 m.round t.round with
      | false =>
        have ZN : Hid (memb t = false) := by show _ = _; rw [Z.out, ← HD'.out]; simp [okB, k2]
        have K2 := Seg.hid k2
        clear k1 k2
        go_wp2_with (first | (go_at_call_of 40 (Value.int IntKind.i64 m.beat); refine (inW _ _ _ true K1.out _).mono ?_; rintro e w5 ⟨rfl, rfl⟩) | (go_at_call_of 40 (Value.int IntKind.i64 m.round); refine (inW _ _ _ false K2.out _).mono ?_; rintro e w5 ⟨rfl, rfl⟩))
        go_ret
        exact NO.out _ ZN.out (chain BB.out BI.out)
      | true =>
      have K2 := Seg.hid k2
      cases k3 : slots m.target with
      | false =>
        have ZN : Hid (memb t = false) := by show _ = _; rw [Z.out, ← HD'.out]; simp [okB, k3]
        rw [k3] at CS
        clear k1 k2 k3
        go_wp2_with (first | (go_at_call_of 40 (Value.int IntKind.i64 m.beat); refine (inW _ _ _ true K1.out _).mono ?_; rintro e w5 ⟨rfl, rfl⟩) | (go_at_call_of 40 (Value.int IntKind.i64 m.round); refine (inW _ _ _ true K2.out _).mono ?_; rintro e w5 ⟨rfl, rfl⟩) | (go_at_call 75; refine CS.out.mono ?_; rintro e w6 ⟨rfl, b6⟩; have B6 := Seg.hid b6; clear b6))
        go_ret
        exact NO.out _ ZN.out (chain (chain BB.out BI.out) B6.out)
      | true =>
        have ZN : Hid ((t.members.drop (k + 1)).all (okB t) = t.members.all (okB t)) := by show _ = _; rw [← HD'.out]; simp [okB, k1, k2, k3]
        rw [k3] at CS
        clear k1 k2 k3
        go_wp2_with (first | (go_at_call_of 40 (Value.int IntKind.i64 m.beat); refine (inW _ _ _ true K1.out _).mono ?_; rintro e w5 ⟨rfl, rfl⟩) | (go_at_call_of 40 (Value.int IntKind.i64 m.round); refine (inW _ _ _ true K2.out _).mono ?_; rintro e w5 ⟨rfl, rfl⟩) | (go_at_call 75; refine CS.out.mono ?_; rintro e w6 ⟨rfl, b6⟩; have B6 := Seg.hid b6; clear b6))
        go_roundw
        case rel => exact ⟨k + 1, by omega, by go_num, ZN.out, chain BI.out B6.out⟩
        case measure => simp [intOf]; omega
    · have AL : Hid (t.members.all (okB t) = true) := by
        show _ = _
        have h2 := HR.out.1
        rw [List.drop_eq_nil_of_le (by omega)] at h2
        rw [← h2]; rfl
      have ZN : Hid (memb t = once t.members) := by show _ = _; rw [Z.out, AL.out]; rfl
      have FW := Seg.hid (few_tgs h30 AL.out)
      have p5 : wr.cell? ⟨w.heap.size, 5, none⟩ = some (.slice A5 t.members.length c5) := cell_of_row wr _ 5 _ _ (0, 0) RR.out
      have C3 : Hid (Calls Try.prog 77 #[.slice A5 t.members.length c5] wr fun e w' => ∃ v, e = .returned v ∧ LAt 1 ESlt2 w' (fun g => g < w'.heap.size) v (tgs t.members) ∧ Below wr.heap.size wr w') := GmI.targetsOf_any _ _ wr S (LAt.below keepsMbr HV.out HB.out hS) (fun g hg => Nat.lt_of_lt_of_le (hS g hg) HB.out.size) hn
      go_wp2_with (first | (go_at_call 77; refine C3.out.mono ?_; rintro e w2 ⟨v2, rfl, lh, q2⟩; have B2 := Seg.hid q2; have H2 := Seg.hid lh; clear q2 lh) | (go_at_call 76; refine (HoI.once_any _ _ (once t.members) _ _ H2.out (fun g hg => hg) FW.out rfl).mono ?_; rintro e w3 ⟨rfl, q3⟩; have B3 := Seg.hid q3; clear q3))
      go_ret
      exact ⟨Seg.ret_bool ZN.out.symm, chain (chain HB.out B2.out) B3.out⟩
set_option maxHeartbeats 6400000 in
theorem impl_any (x : Value) (t : Grp) (w : World) (S : Nat → Prop) (hv : GrpAt w S x t) (hS : ∀ g, S g → g < w.heap.size) (hf : szGrp t ≤ 1048576) :
    Calls Try.prog 11 #[x] w fun e w' => e = .returned (.bool (groupOk t)) ∧ Below w.heap.size w w' := by
  obtain ⟨A4, c4, A5, c5, rfl, HT, HM⟩ := grp_form hv
  have HTT := Seg.hid HT
  have HMM := Seg.hid HM
  have ZT : Hid (szL szTpc t.topics ≤ 1048576) := by show _ ≤ _; unfold szGrp at hf; omega
  have ZM : Hid (szL szMbr t.members ≤ 1048576) := by show _ ≤ _; unfold szGrp at hf; omega
  clear hv HT HM hf
  have no : ∀ (w' : World), groupOk t = false → Below w.heap.size w w' → (Ending.returned (.bool false) = .returned (.bool (groupOk t)) ∧ Below w.heap.size w w') := fun w' h b => ⟨by rw [h], b⟩
  have NO := Seg.hid no
  clear no
  go_enter Try.func11, Try.ntmps11
  obtain ⟨w1, hw1⟩ : ∃ w1, w.alloc (.cells (grow t A4 c4 A5 c5) 31 (0, 0)) = w1 := ⟨_, rfl⟩
  have R1 : Hid (w1.heap[w.heap.size]? = some (.cells (grow t A4 c4 A5 c5) 31 (0, 0))) := by show _ = _; rw [← hw1]; exact heap_alloc_new _ _
  have B1 : Hid (Below w.heap.size w w1) := by show Below _ _ _; rw [← hw1]; exact below1 w _
  have hl1 : w.heap.size < w1.heap.size := (Array.getElem?_eq_some_iff.1 R1.out).1
  have hS1 : ∀ g, S g → g < w1.heap.size := fun g hg => Nat.lt_trans (hS g hg) hl1
  have C1 : Hid (Calls Try.prog 41 #[.slice A4 t.topics.length c4] w1 fun e w' => e = .returned (.bool (TpP.topics t.topics)) ∧ Below w1.heap.size w1 w') := TpI.impl_any _ _ w1 S (LAt.below keepsTpc HTT.out B1.out hS) hS1 ZT.out
  have C2 : Hid (∀ w2, Below w.heap.size w w2 → Calls Try.prog 42 #[.agg (grow t A4 c4 A5 c5)] w2 fun e w' => e = .returned (.bool (memb t)) ∧ Below w2.heap.size w2 w') := fun w2 b => members_any t A4 A5 c4 c5 w2 S (LAt.below keepsMbr HMM.out b hS) (fun g hg => Nat.lt_of_lt_of_le (hS g hg) b.size) ZM.out
  go_upto_region 1 with fail
  try rw [hw1]
  clear hw1 HTT HMM
  have p0 : w1.cell? ⟨w.heap.size, 0, none⟩ = some (.int .i64 t.kind) := cell_of_row w1 _ 0 _ _ (0, 0) R1.out
  have p1 : w1.cell? ⟨w.heap.size, 1, none⟩ = some (.int .i64 t.timeout) := cell_of_row w1 _ 1 _ _ (0, 0) R1.out
  have p2 : w1.cell? ⟨w.heap.size, 2, none⟩ = some (.int .i64 t.now) := cell_of_row w1 _ 2 _ _ (0, 0) R1.out
  have p3 : w1.cell? ⟨w.heap.size, 3, none⟩ = some (.int .i64 t.round) := cell_of_row w1 _ 3 _ _ (0, 0) R1.out
  have p4 : w1.cell? ⟨w.heap.size, 4, none⟩ = some (.slice A4 t.topics.length c4) := cell_of_row w1 _ 4 _ _ (0, 0) R1.out
  have p5 : w1.cell? ⟨w.heap.size, 5, none⟩ = some (.slice A5 t.members.length c5) := cell_of_row w1 _ 5 _ _ (0, 0) R1.out
  cases k1 : inR 1 t.kind 3 with
  | false =>
    have Z : Hid (groupOk t = false) := by show _ = _; rw [group_eq]; simp [k1]
    have K1 := Seg.hid k1
    clear k1
    go_wp2_with (first | (go_at_call_of 40 (Value.int IntKind.i64 t.kind); refine (inW _ _ _ false K1.out _).mono ?_; rintro e w5 ⟨rfl, rfl⟩))
    go_ret
    exact NO.out _ Z.out B1.out
  | true =>
  have K1 := Seg.hid k1
  cases k2 : inR 1 t.timeout 1000000000000 with
  | false =>
    have Z : Hid (groupOk t = false) := by show _ = _; rw [group_eq]; simp [k2]
    have K2 := Seg.hid k2
    clear k1 k2
    go_wp2_with (first | (go_at_call_of 40 (Value.int IntKind.i64 t.kind); refine (inW _ _ _ true K1.out _).mono ?_; rintro e w5 ⟨rfl, rfl⟩) | (go_at_call_of 40 (Value.int IntKind.i64 t.timeout); refine (inW _ _ _ false K2.out _).mono ?_; rintro e w5 ⟨rfl, rfl⟩))
    go_ret
    exact NO.out _ Z.out B1.out
  | true =>
  have K2 := Seg.hid k2
  cases k3 : inR 0 t.now 1000000000000 with
  | false =>
    have Z : Hid (groupOk t = false) := by show _ = _; rw [group_eq]; simp [k3]
    have K3 := Seg.hid k3
    clear k1 k2 k3
    go_wp2_with (first | (go_at_call_of 40 (Value.int IntKind.i64 t.kind); refine (inW _ _ _ true K1.out _).mono ?_; rintro e w5 ⟨rfl, rfl⟩) | (go_at_call_of 40 (Value.int IntKind.i64 t.timeout); refine (inW _ _ _ true K2.out _).mono ?_; rintro e w5 ⟨rfl, rfl⟩) | (go_at_call_of 40 (Value.int IntKind.i64 t.now); refine (inW _ _ _ false K3.out _).mono ?_; rintro e w5 ⟨rfl, rfl⟩))
    go_ret
    exact NO.out _ Z.out B1.out
  | true =>
  have K3 := Seg.hid k3
  cases k4 : inR 0 t.round 1000000000 with
  | false =>
    have Z : Hid (groupOk t = false) := by show _ = _; rw [group_eq]; simp [k4]
    have K4 := Seg.hid k4
    clear k1 k2 k3 k4
    go_wp2_with (first | (go_at_call_of 40 (Value.int IntKind.i64 t.kind); refine (inW _ _ _ true K1.out _).mono ?_; rintro e w5 ⟨rfl, rfl⟩) | (go_at_call_of 40 (Value.int IntKind.i64 t.timeout); refine (inW _ _ _ true K2.out _).mono ?_; rintro e w5 ⟨rfl, rfl⟩) | (go_at_call_of 40 (Value.int IntKind.i64 t.now); refine (inW _ _ _ true K3.out _).mono ?_; rintro e w5 ⟨rfl, rfl⟩) | (go_at_call_of 40 (Value.int IntKind.i64 t.round); refine (inW _ _ _ false K4.out _).mono ?_; rintro e w5 ⟨rfl, rfl⟩))
    go_ret
    exact NO.out _ Z.out B1.out
  | true =>
  have K4 := Seg.hid k4
  have GE : Hid (groupOk t = (TpP.topics t.topics && memb t)) := by show _ = _; rw [group_eq, k1, k2, k3, k4]; simp
  cases k5 : TpP.topics t.topics with
  | false =>
    have Z : Hid (groupOk t = false) := by show _ = _; rw [GE.out, k5]; rfl
    rw [k5] at C1
    clear k1 k2 k3 k4 k5
    go_wp2_with (first | (go_at_call_of 40 (Value.int IntKind.i64 t.kind); refine (inW _ _ _ true K1.out _).mono ?_; rintro e w5 ⟨rfl, rfl⟩) | (go_at_call_of 40 (Value.int IntKind.i64 t.timeout); refine (inW _ _ _ true K2.out _).mono ?_; rintro e w5 ⟨rfl, rfl⟩) | (go_at_call_of 40 (Value.int IntKind.i64 t.now); refine (inW _ _ _ true K3.out _).mono ?_; rintro e w5 ⟨rfl, rfl⟩) | (go_at_call_of 40 (Value.int IntKind.i64 t.round); refine (inW _ _ _ true K4.out _).mono ?_; rintro e w5 ⟨rfl, rfl⟩) | (go_at_call 41; refine C1.out.mono ?_; rintro e w6 ⟨rfl, b6⟩; have B6 := Seg.hid b6; clear b6))
    go_ret
    exact NO.out _ Z.out (chain B1.out B6.out)
  | true =>
    have Z : Hid (groupOk t = memb t) := by show _ = _; rw [GE.out, k5]; rfl
    rw [k5] at C1
    clear k1 k2 k3 k4 k5
    go_wp2_with (first | (go_at_call_of 40 (Value.int IntKind.i64 t.kind); refine (inW _ _ _ true K1.out _).mono ?_; rintro e w5 ⟨rfl, rfl⟩) | (go_at_call_of 40 (Value.int IntKind.i64 t.timeout); refine (inW _ _ _ true K2.out _).mono ?_; rintro e w5 ⟨rfl, rfl⟩) | (go_at_call_of 40 (Value.int IntKind.i64 t.now); refine (inW _ _ _ true K3.out _).mono ?_; rintro e w5 ⟨rfl, rfl⟩) | (go_at_call_of 40 (Value.int IntKind.i64 t.round); refine (inW _ _ _ true K4.out _).mono ?_; rintro e w5 ⟨rfl, rfl⟩) | (go_at_call 41; refine C1.out.mono ?_; rintro e w6 ⟨rfl, b6⟩; have B6 := Seg.hid b6; have s0 := (b6.cell (p := ⟨w.heap.size, 0, none⟩) hl1).trans p0; have s1 := (b6.cell (p := ⟨w.heap.size, 1, none⟩) hl1).trans p1; have s2 := (b6.cell (p := ⟨w.heap.size, 2, none⟩) hl1).trans p2; have s3 := (b6.cell (p := ⟨w.heap.size, 3, none⟩) hl1).trans p3; have s4 := (b6.cell (p := ⟨w.heap.size, 4, none⟩) hl1).trans p4; have s5 := (b6.cell (p := ⟨w.heap.size, 5, none⟩) hl1).trans p5; clear b6) | (go_at_call 42; refine (C2.out _ (chain B1.out B6.out)).mono ?_; rintro e w7 ⟨rfl, b7⟩; have B7 := Seg.hid b7; clear b7))
    go_ret
    exact ⟨Seg.ret_bool Z.out.symm, chain (chain B1.out B6.out) B7.out⟩
end Go.Proofs.Ytfdfhhiaalbfiaa.GpI
