/- The model's EndOf. -/
import Derived.Test.YteaiceeapambdaaEoP
import Derived.Test.YteaiceeapambdaaOfB
import Derived.Test.YteaiceeapambdaaL3A
import Derived.Test.YteaiceeapambdaaLgT
import Derived.BigQuiet
namespace Go.Proofs.Yteaiceeapambdaa.Eo
set_option maxRecDepth 8000
open Go.RowKit
open Recs
open Bats SegW Segs LogW BfP EoP
open LgP (logOk)
open Of (four ok_all flat_count okB_flat at1)
set_option linter.unusedVariables false
set_option maxHeartbeats 3200000 in
theorem endS_core (l : Lg) (x : Int) (A : Option Addr) (c : Nat) (w : World) (lo b : Nat) (hb : b ≤ w.heap.size) (hf : FewL l) (hw : ∀ i, i < l.segs.length → -9223372036854775808 ≤ (l.segs.getD i default).base ∧ (l.segs.getD i default).base ≤ 9223372036854775807) (hs : SegsAt w lo b (.slice A l.segs.length c) l.segs) :
    Calls Try.prog 5 #[logVal l (.slice A l.segs.length c), .int .i64 x] w fun e w' => e = .returned (.tuple #[.int .i64 (endOf l x).1, .int .i64 (endOf l x).2]) ∧ Below w.heap.size w w' := by
  have HV : Hid (LogAt w lo b (logVal l (.slice A l.segs.length c)) l) := ⟨_, rfl, hs⟩
  have HF := Seg.hid hf; have HWW := Seg.hid hw
  clear hs hf hw
  unfold logVal at HV ⊢
  go_enter Try.func5, Try.ntmps5
  go_wp2_with fail
  refine (LgS.spec_any _ l (w.alloc _) lo b (HV.out.below ((below1 w _).mono hb)) (by rw [hsz]; omega) HF.out HWW.out).mono ?_
  rintro e w1 ⟨rfl, b1⟩
  have B1 := Seg.hid (chain (below1 w _) b1)
  have T1 : Hid (w1.heap[w.heap.size]? = some (.cells (logArr l (.slice A l.segs.length c)) 30 (0, 0))) := (b1.block w.heap.size (by rw [hsz]; omega)).trans (at1 w _)
  have s1 := b1.size
  rw [hsz] at s1
  clear b1
  cases hok : logOk l with
  | false =>
    have HC : Hid (endOf l x = (0, 0)) := by show _ = _; simp [endOf, hok]
    clear hok
    go_wp2_with fail
    (try simp only [Exit.inBlock, Exit.then])
    refine bodyPost_ret (results_tmp2 rfl _ _ _) rfl ?_
    exact ⟨by rw [HC.out]; rfl, B1.out⟩
  | true =>
  have HC : Hid (endOf l x = told l.start (endB x (-1) l.next (flatB l.segs))) := by show _ = _; simp [endOf, endF, hok]
  obtain ⟨f, k1, k2, k3, k4, k5, k6, k7⟩ := ok_all hok
  have OKB := Seg.hid (okB_flat k1)
  have FL : (flatB l.segs).length ≤ 400 := by rw [flat_count]; exact k7
  clear hok k1
  obtain ⟨c0, c1, c2, c3⟩ := four T1.out
  have hw1 : w.heap.size < w1.heap.size := by omega
  go_wp2_with fail
  refine (Ft.l3All_any _ l w1 lo b (HV.out.below (B1.out.mono hb)) (by omega) (by omega) (by omega)).mono ?_
  rintro e w2 ⟨v2, rfl, hbs, b2⟩
  have B2 := Seg.hid (chain B1.out b2)
  have T2 := Seg.hid ((b2.block w.heap.size (by omega)).trans T1.out)
  have s2 := b2.size
  generalize flatB l.segs = bs at *
  obtain ⟨H, ⟨_, A2, c2', rfl, hrow⟩, hh⟩ := hbs
  have HROW := Seg.hid hrow
  have E0 : Hid (∀ y ∈ bs, 0 ≤ y.epoch) := fun y hy => epoch0 (OKB.out y hy)
  clear hrow hh b2 c0 c1 c2 c3 T1 B1
  obtain ⟨c0, c1, c2, c3⟩ := four T2.out
  go_wp2_with fail
  go_quiet (fail)
  go_wp2_with fail
  clear c1 c2 c3
  go_loopw [7, 8, 9] (fun f e i wr => ∃ (j : Nat) (fv : Int), j ≤ bs.length ∧ f = .int .i64 fv ∧ e = .int .i64 l.next ∧ i = .int .i64 j ∧ Hid (fv = lastE (-1) (bs.take j) ∧ (∀ y ∈ bs.take j, ¬ x < y.epoch) ∧ Below w2.heap.size w2 wr)) (fun f e i _ => bs.length - (intOf i).toNat)
  case atStart => exact ⟨0, -1, Nat.zero_le _, rfl, rfl, rfl, rfl, fun y hy => by simp at hy, ⟨rfl, rfl, rfl, Nat.le_refl _, fun _ _ => rfl⟩⟩
  case round =>
    obtain ⟨j, fv, hj, rfl, rfl, rfl, HW⟩ := hrel
    have BR : Hid (Below w.heap.size w wr) := chain B2.out HW.out.2.2
    have l0 : wr.cell? ⟨w.heap.size, 0, none⟩ = some (.int .i64 l.start) := (HW.out.2.2.cell (p := ⟨w.heap.size, 0, none⟩) (by show w.heap.size < _; omega)).trans (four T2.out).1
    have TOLD : Hid (∀ e, (fv < 0 → told l.start (fv, e) = (0, l.start)) ∧ (¬ fv < 0 → told l.start (fv, e) = (fv, e))) := fun e => ⟨fun h => by unfold told; rw [if_pos h], fun h => by unfold told; rw [if_neg h]⟩
    by_cases hlt : j < bs.length
    · have h0 : (0 : Int) ≤ (j : Int) := by omega
      have h1 : (j : Int) < (bs.length : Int) := by omega
      obtain ⟨g, o, rfl, hg, hc, hcell, _⟩ := HROW.out.resolve_left (by omega)
      obtain ⟨e0, e1, _⟩ := Bats.six (fun i hi q hq => by rw [HW.out.2.2.cell (p := ⟨g, o + i * 7 + q, none⟩) hg]; exact hcell i hi q hq) j hlt
      have SPL : Hid (bs = bs.take j ++ bs.getD j default :: bs.drop (j + 1)) := by
        show _ = _
        conv => lhs; rw [← List.take_append_drop j bs, List.drop_eq_getElem_cons hlt]
        simp [hlt]
      have NXT : Hid (¬ x < (bs.getD j default).epoch → (bs.getD j default).epoch = lastE (-1) (bs.take (j + 1)) ∧ (∀ y ∈ bs.take (j + 1), ¬ x < y.epoch) ∧ Below w2.heap.size w2 wr) := fun hn => by
        rw [takeOne hlt]
        refine ⟨lastE_app.symm, fun y hy => ?_, HW.out.2.2⟩
        rcases List.mem_append.1 hy with hy | hy
        · exact HW.out.2.1 y hy
        · rw [List.mem_singleton.1 hy]; exact hn
      have STP : Hid (x < (bs.getD j default).epoch → endOf l x = told l.start (fv, (bs.getD j default).base)) := fun hn => by
        have := endB_stop (x := x) (n := l.next) (f := -1) (r := bs.drop (j + 1)) HW.out.2.1 hn
        rw [← SPL.out] at this
        rw [HC.out, this, ← HW.out.1]
      clear hcell HW SPL
      generalize bs.getD j default = tj at *
      by_cases hx : x < tj.epoch
      · have HE := Seg.hid (STP.out hx)
        have hd : decide (x < tj.epoch) = true := decide_eq_true hx
        by_cases hn : fv < 0
        · have HR : Hid (endOf l x = (0, l.start)) := by show _ = _; rw [HE.out]; exact (TOLD.out _).1 hn
          have hd2 : decide (fv < 0) = true := decide_eq_true hn
          go_wp2_with fail
          go_quiet (fail)
          go_wp2_with fail
          (try simp only [Exit.inBlock, Exit.then])
          refine bodyPost_ret (results_tmp2 rfl _ _ _) rfl ?_
          exact ⟨by rw [HR.out]; rfl, ⟨BR.out.os, BR.out.tape, BR.out.output, BR.out.size, BR.out.block⟩⟩
        · have HR : Hid (endOf l x = (fv, tj.base)) := by show _ = _; rw [HE.out]; exact (TOLD.out _).2 hn
          have hd2 : decide (fv < 0) = false := decide_eq_false hn
          go_wp2_with fail
          (try simp only [Exit.inBlock, Exit.then])
          refine bodyPost_ret (results_tmp2 rfl _ _ _) rfl ?_
          exact ⟨by rw [HR.out]; rfl, ⟨BR.out.os, BR.out.tape, BR.out.output, BR.out.size, BR.out.block⟩⟩
      · have hd : decide (x < tj.epoch) = false := decide_eq_false hx
        have NX := Seg.hid (NXT.out hx)
        go_wp2_with fail
        go_roundw
        case rel => exact ⟨j + 1, tj.epoch, by omega, rfl, rfl, by go_num, NX.out⟩
        case measure => simp [intOf]; omega
    · have HE : Hid (endOf l x = told l.start (fv, l.next)) := by
        show _ = _
        have h2 := HW.out.2.1
        have h1 := HW.out.1
        rw [List.take_of_length_le (by omega)] at h1 h2
        rw [HC.out, endB_all h2, ← h1]
      have : j = bs.length := by omega
      clear HW
      subst this
      by_cases hn : fv < 0
      · have HR : Hid (endOf l x = (0, l.start)) := by show _ = _; rw [HE.out]; exact (TOLD.out _).1 hn
        have hd2 : decide (fv < 0) = true := decide_eq_true hn
        go_wp2_with fail
        go_quiet (fail)
        go_wp2_with fail
        (try simp only [Exit.inBlock, Exit.then])
        refine bodyPost_ret (results_tmp2 rfl _ _ _) rfl ?_
        exact ⟨by rw [HR.out]; rfl, ⟨BR.out.os, BR.out.tape, BR.out.output, BR.out.size, BR.out.block⟩⟩
      · have HR : Hid (endOf l x = (fv, l.next)) := by show _ = _; rw [HE.out]; exact (TOLD.out _).2 hn
        have hd2 : decide (fv < 0) = false := decide_eq_false hn
        go_wp2_with fail
        (try simp only [Exit.inBlock, Exit.then])
        refine bodyPost_ret (results_tmp2 rfl _ _ _) rfl ?_
        exact ⟨by rw [HR.out]; rfl, ⟨BR.out.os, BR.out.tape, BR.out.output, BR.out.size, BR.out.block⟩⟩
theorem endS_any (v : Value) (l : Lg) (x : Int) (w : World) (lo b : Nat) (hv : LogAt w lo b v l) (hb : b ≤ w.heap.size) (hf : FewL l) (hw : ∀ i, i < l.segs.length → -9223372036854775808 ≤ (l.segs.getD i default).base ∧ (l.segs.getD i default).base ≤ 9223372036854775807) :
    Calls Try.prog 5 #[v, .int .i64 x] w fun e w' => e = .returned (.tuple #[.int .i64 (endOf l x).1, .int .i64 (endOf l x).2]) ∧ Below w.heap.size w w' := by
  obtain ⟨sv, rfl, hs⟩ := hv
  obtain ⟨_, ⟨_, A, c, rfl, _⟩, _⟩ := id hs
  exact endS_core l x A c w lo b hb hf hw hs
end Go.Proofs.Yteaiceeapambdaa.Eo
