/- The program's CutFrom; The model's LastOffset. -/
import Derived.Test.YtlpckaflogikpaaJC25
import Derived.Test.YtlpckaflogikpaaJC27
import Derived.Test.YtlpckaflogikpaaJC16
namespace Go.Proofs.Ytlpckaflogikpaa.Ft
set_option maxRecDepth 8000
open Go.RowKit
open Recs
open Bats SegW Segs LogW SrP
open LgP (logOk inR)
set_option linter.unusedVariables false
set_option maxHeartbeats 12800000 in
theorem cutFrom_core (l : Lg) (x : Int) (A : Option Addr) (c : Nat) (w : World) (lo b : Nat) (hb : b ≤ w.heap.size) (hf : FewL l) (hs : SegsAt w lo b (.slice A l.segs.length c) l.segs) :
    Calls Try.prog 13 #[logVal l (.slice A l.segs.length c), .int .i64 x] w fun e w' => ∃ sv, e = .returned (.tuple #[logVal (cutF l x).1 sv, .bool (cutF l x).2]) ∧ OwnS w' (seg w.heap.size w'.heap.size) sv (cutF l x).1.segs ∧ Below w.heap.size w w' := by
  have HS := Seg.hid hs
  have HV : Hid (LogAt w lo b (logVal l (.slice A l.segs.length c)) l) := ⟨_, rfl, hs⟩
  have HF := Seg.hid hf
  clear hs hf
  unfold logVal at HV ⊢
  go_enter Try.func13, Try.ntmps13
  go_wp2_with fail
  refine (LgI.impl_any _ l ((w.alloc _).alloc _) lo b (HV.out.below ((below2 w _ _).mono hb)) (by rw [hsz, hsz]; omega) HF.out).mono ?_
  rintro e w1 ⟨rfl, b1⟩
  have B1 := Seg.hid (chain (below2 w _ _) b1)
  have T1 : Hid (w1.heap[w.heap.size]? = some (.cells (logArr l (.slice A l.segs.length c)) 28 (0, 0))) := (b1.block w.heap.size (by rw [hsz, hsz]; omega)).trans (at1 w _ _)
  have T2 : Hid (w1.heap[w.heap.size + 1]? = some (.cells (logArr ⟨0, 0, 0, []⟩ (.slice none 0 0)) 28 (0, 0))) := (b1.block (w.heap.size + 1) (by rw [hsz, hsz]; omega)).trans (at2 w _ _)
  have s1 := b1.size
  rw [hsz, hsz] at s1
  clear b1
  have NO : Hid (∀ w2, Below w1.heap.size w1 w2 → w2.there (w.heap.size + 1) 0 (logArr ⟨0, 0, 0, []⟩ (.slice none 0 0)).size ∧ (w2.setCells (w.heap.size + 1) 0 (logArr ⟨0, 0, 0, []⟩ (.slice none 0 0)).toList).heap[w.heap.size + 1]? = some (.cells (logArr ⟨0, 0, 0, []⟩ (.slice none 0 0)) 28 (0, 0)) ∧ Below w.heap.size w (w2.setCells (w.heap.size + 1) 0 (logArr ⟨0, 0, 0, []⟩ (.slice none 0 0)).toList)) := fun w2 b2 => by
    have T := (b2.block (w.heap.size + 1) (by omega)).trans T2.out
    exact ⟨Cells.there_of T, Cells.whole (vs := logArr ⟨0, 0, 0, []⟩ (.slice none 0 0)) T rfl, Cells.below_setCells (by omega) _ _ _ _ (chain B1.out b2)⟩
  cases hok : logOk l with
  | false =>
    have HC : Hid (cutF l x = (⟨0, 0, 0, []⟩, false)) := by show _ = _; simp [cutF, hok]
    clear hok
    go_wp2_with (first | (refine wpList_store_mid rfl 28 _ _ rfl (w.heap.size + 1) 0 (logArr ⟨0, 0, 0, []⟩ (.slice none 0 0)) rfl rfl (NO.out _ (Below.refl _ _)).1 infoN (logArr_one _ _ rfl) ?_))
    exact bodyPost_ret (v := .tuple #[logVal ⟨0, 0, 0, []⟩ (.slice none 0 0), .bool false]) (results_row_tmp rfl _ _ (w.heap.size + 1) _ _ _ _ _ rfl rfl (NO.out _ (Below.refl _ _)).2.1 Try.underlying28 rfl infoN) rfl ⟨.slice none 0 0, by rw [HC.out]; rfl, by rw [HC.out]; exact LOwn.nil _ _ _ _, (NO.out _ (Below.refl _ _)).2.2⟩
  | true =>
  obtain ⟨c0, c1, c2, c3⟩ := four T1.out
  have IN : ∀ t, (decide (l.start ≤ x) && decide (x ≤ l.next)) = t → inR x l.start l.next = t := fun t h => h
  cases hin : (decide (l.start ≤ x) && decide (x ≤ l.next)) with
  | false =>
    have HC : Hid (cutF l x = (⟨0, 0, 0, []⟩, false)) := by show _ = _; simp [cutF, hok, IN false hin]
    clear IN hok
    go_wp2_with fail
    refine (InB.within_b x l.start l.next false hin w1).mono ?_
    rintro e w1' ⟨rfl, rfl⟩
    clear hin
    go_wp2_with (first | (refine wpList_store_mid rfl 28 _ _ rfl (w.heap.size + 1) 0 (logArr ⟨0, 0, 0, []⟩ (.slice none 0 0)) rfl rfl (NO.out _ (Below.refl _ _)).1 infoN (logArr_one _ _ rfl) ?_))
    exact bodyPost_ret (v := .tuple #[logVal ⟨0, 0, 0, []⟩ (.slice none 0 0), .bool false]) (results_row_tmp rfl _ _ (w.heap.size + 1) _ _ _ _ _ rfl rfl (NO.out _ (Below.refl _ _)).2.1 Try.underlying28 rfl infoN) rfl ⟨.slice none 0 0, by rw [HC.out]; rfl, by rw [HC.out]; exact LOwn.nil _ _ _ _, (NO.out _ (Below.refl _ _)).2.2⟩
  | true =>
  have HC : Hid (cutF l x = (⟨x, l.next, l.roll, l.segs.drop (kf (pS x) l.segs)⟩, true)) := by show _ = _; simp [cutF, hok, IN true hin]
  obtain ⟨f, k1, k2, k3, k4, k5, k6⟩ := ok_parts hok
  have SO := Seg.hid (segs_ok _ _ _ _ k1); have SM := Seg.hid (segs_mono _ _ _ _ k1)
  clear IN hok k1
  go_wp2_with fail
  refine (InB.within_b x l.start l.next true hin w1).mono ?_
  rintro e w1' ⟨rfl, rfl⟩
  clear hin
  go_wp2_with fail
  refine (SrW.segmentAt_any _ x l.segs w1 lo b (HS.out.below (B1.out.mono hb)) (by omega) (fun i hi => (HF.out.1.2 i hi).1) SO.out (fun i j a1 a2 => SM.out i j a1 a2 x) HF.out.1.1).mono ?_
  rintro e w2 ⟨r, rfl, hF, b2⟩
  have KF := Seg.hid (kf_found (pS x) l.segs r hF)
  have hrn := hF.le
  have B2 := Seg.hid (chain B1.out b2)
  have U1 := Seg.hid ((b2.block w.heap.size (by omega)).trans T1.out)
  have U2 := Seg.hid ((b2.block (w.heap.size + 1) (by omega)).trans T2.out)
  have s2 := b2.size
  clear hF b2 c0 c1 c2 c3
  obtain ⟨c0, c1, c2, c3⟩ := four U1.out
  have FIN : Hid (∀ w3 sv ss, LGrow 40 2 ES w3 w2.heap.size sv ss → Below w2.heap.size w2 w3 → ss.length ≤ 1048576 → w3.there (w.heap.size + 1) 0 (logArr ⟨x, l.next, l.roll, []⟩ sv).size ∧ (w3.setCells (w.heap.size + 1) 0 (logArr ⟨x, l.next, l.roll, []⟩ sv).toList).heap[w.heap.size + 1]? = some (.cells (logArr ⟨x, l.next, l.roll, []⟩ sv) 28 (0, 0)) ∧ Below w.heap.size w (w3.setCells (w.heap.size + 1) 0 (logArr ⟨x, l.next, l.roll, []⟩ sv).toList) ∧ OwnS (w3.setCells (w.heap.size + 1) 0 (logArr ⟨x, l.next, l.roll, []⟩ sv).toList) (seg w.heap.size (w3.setCells (w.heap.size + 1) 0 (logArr ⟨x, l.next, l.roll, []⟩ sv).toList).heap.size) sv ss) := fun w3 sv ss hG b3 hl => by
    have T := (b3.block (w.heap.size + 1) (by omega)).trans U2.out
    have TH := Cells.there_of T
    refine ⟨TH, Cells.whole (vs := logArr ⟨x, l.next, l.roll, []⟩ sv) T rfl, Cells.below_setCells (by omega) _ _ _ _ (chain B2.out b3), ?_⟩
    refine (LOwn.keep keepsS (LGrow.own hG hl) (by rw [Cells.size_setCells]; exact Nat.le_refl _) (fun g h1 => ?_)).mono (fun y hy => ?_)
    · have := h1.1
      exact Cells.heap_setCells_other _ _ (by omega)
    · obtain ⟨x1, x2⟩ := hy
      refine ⟨by omega, ?_⟩
      rw [Cells.size_setCells]
      exact x2
  have hl1 := HF.out.1.1
  have FW := Seg.hid HF.out.1.2
  by_cases hz : l.segs.length = 0
  · have hr0 : r = 0 := by omega
    subst hr0
    rw [hz] at c3
    have hn0 : l.segs = [] := List.length_eq_zero_iff.1 hz
    obtain ⟨SS, hSS⟩ : ∃ SS : List Sg, SS = [] := ⟨_, rfl⟩
    have HC2 : Hid (cutF l x = (⟨x, l.next, l.roll, SS⟩, true)) := by have := HC.out; rw [hn0] at this; rw [hSS]; exact this
    clear HC KF
    have LEN : Hid (SS.length ≤ 1048576) := by show _ ≤ _; rw [hSS]; simp
    have FEW : Hid (∀ i, i < SS.length → FewS (SS.getD i default)) := fun i hi => by rw [hSS] at hi; simp at hi
    have SAT : Hid (SegsAt w lo b (.slice A 0 c) SS) := by rw [hSS]; exact segs_nil
    have HSS := Seg.hid hSS
    clear hSS hn0 hz
    go_wp2_with fail
    go_region_law
      ((first | (go_simp; go_at_call 22; refine (copySegments_any _ SS w2.drew lo b (by show b ≤ w2.heap.size; omega) LEN.out FEW.out (SAT.out.below ((B2.out.drew).mono hb))).mono ?_; rintro e w3 ⟨sv, rfl, hG, b3'⟩; have b3 : Hid (Below w2.heap.size w2 w3) := ⟨b3'.os, b3'.tape, b3'.output, b3'.size, b3'.block⟩; have FI := Seg.hid (FIN.out w3 sv SS hG b3.out LEN.out); obtain ⟨A3, c3', hA3⟩ := LGrow.form hG; subst hA3; have V1 := Seg.hid ((b3.out.block w.heap.size (by omega)).trans U1.out); obtain ⟨j0, j1, j2, j3⟩ := four V1.out; have V2 := Seg.hid ((b3.out.block (w.heap.size + 1) (by omega)).trans U2.out); obtain ⟨r0, r1, r2, r3⟩ := four V2.out; have y0 := frozen_of_row w3 (w.heap.size + 1) 0 _ _ V2.out; have y1 := frozen_of_row w3 (w.heap.size + 1) 1 _ _ V2.out; have y2 := frozen_of_row w3 (w.heap.size + 1) 2 _ _ V2.out; have y3 := frozen_of_row w3 (w.heap.size + 1) 3 _ _ V2.out; clear hG b3')))
    all_goals
      clear j0 j1 j2 j3 r0 r1 r2 r3 y0 y1 y2 y3 c0 c1 c2 c3
      go_wp2_with fail
      exact bodyPost_ret (v := .tuple #[logVal ⟨x, l.next, l.roll, []⟩ (.slice A3 SS.length c3'), .bool true]) (results_row_tmp rfl _ _ (w.heap.size + 1) _ (logArr ⟨x, l.next, l.roll, []⟩ (.slice A3 SS.length c3')) _ _ _ rfl rfl FI.out.2.1 Try.underlying28 rfl infoN) rfl ⟨.slice A3 SS.length c3', by rw [HC2.out]; rfl, by rw [HC2.out]; exact FI.out.2.2.2, FI.out.2.2.1⟩
  · obtain ⟨g, o, hA, hg0, hc0⟩ : ∃ g o, A = some ⟨g, o, none⟩ ∧ g < b ∧ l.segs.length ≤ c := by
      obtain ⟨_, ⟨_, A', c', hsl, hrow⟩, _⟩ := HS.out
      simp only [Value.slice.injEq] at hsl
      obtain ⟨rfl, _, rfl⟩ := hsl
      obtain ⟨g, o, h1, h2, h3, _⟩ := hrow.resolve_left hz
      exact ⟨g, o, h1, h2, h3⟩
    subst hA
    by_cases hrn2 : r = l.segs.length
    · have KF2 : Hid (kf (pS x) l.segs = l.segs.length - 1) := by show _ = _; rw [KF.out, if_pos ⟨hrn2, by omega⟩, hrn2]
      clear KF
      subst hrn2
      have q0 : (0 : Int) < (l.segs.length : Int) := by omega
      have z0 : (0 : Int) ≤ (l.segs.length : Int) - 1 := by omega
      have z1 : (l.segs.length : Int) - 1 ≤ (l.segs.length : Int) := by omega
      have z2 : (l.segs.length : Int) - 1 ≤ (c : Int) := by omega
      have z3 : (1 : Int) ≤ (l.segs.length : Int) := by omega
      have zc : ¬ c = l.segs.length - 1 := by omega
      have zw : IntKind.i64.wrap ((l.segs.length : Int) - 1) = (l.segs.length : Int) - 1 := by rw [IntKind.wrap_i64]; omega
      obtain ⟨SS, hSS⟩ : ∃ SS : List Sg, SS = l.segs.drop (l.segs.length - 1) := ⟨_, rfl⟩
      have LEN : Hid (SS.length ≤ 1048576) := by show _ ≤ _; rw [hSS, List.length_drop]; omega
      have FEW : Hid (∀ i, i < SS.length → FewS (SS.getD i default)) := fun i hi => by
        rw [hSS, List.length_drop] at hi
        rw [hSS, getD_drop]
        exact FW.out _ (by omega)
      have SAT : Hid (SegsAt w lo b (.slice (some ⟨g, o + (l.segs.length - 1) * 2, none⟩) (l.segs.length - (l.segs.length - 1)) (c - (l.segs.length - 1))) SS) := by rw [hSS]; exact segs_drop HS.out (by omega)
      have HC2 : Hid (cutF l x = (⟨x, l.next, l.roll, SS⟩, true)) := by have := HC.out; rw [KF2.out] at this; rw [hSS]; exact this
      clear hSS HC KF2
      go_wp2_with fail
      go_region_law
        ((first | (go_simp; go_at_call 22; refine (copySegments_any _ SS w2.drew lo b (by show b ≤ w2.heap.size; omega) LEN.out FEW.out (SAT.out.below ((B2.out.drew).mono hb))).mono ?_; rintro e w3 ⟨sv, rfl, hG, b3'⟩; have b3 : Hid (Below w2.heap.size w2 w3) := ⟨b3'.os, b3'.tape, b3'.output, b3'.size, b3'.block⟩; have FI := Seg.hid (FIN.out w3 sv SS hG b3.out LEN.out); obtain ⟨A3, c3', hA3⟩ := LGrow.form hG; subst hA3; have V1 := Seg.hid ((b3.out.block w.heap.size (by omega)).trans U1.out); obtain ⟨j0, j1, j2, j3⟩ := four V1.out; have V2 := Seg.hid ((b3.out.block (w.heap.size + 1) (by omega)).trans U2.out); obtain ⟨r0, r1, r2, r3⟩ := four V2.out; have y0 := frozen_of_row w3 (w.heap.size + 1) 0 _ _ V2.out; have y1 := frozen_of_row w3 (w.heap.size + 1) 1 _ _ V2.out; have y2 := frozen_of_row w3 (w.heap.size + 1) 2 _ _ V2.out; have y3 := frozen_of_row w3 (w.heap.size + 1) 3 _ _ V2.out; clear hG b3')))
      all_goals
        clear j0 j1 j2 j3 r0 r1 r2 r3 y0 y1 y2 y3 c0 c1 c2 c3
        go_wp2_with fail
        exact bodyPost_ret (v := .tuple #[logVal ⟨x, l.next, l.roll, []⟩ (.slice A3 SS.length c3'), .bool true]) (results_row_tmp rfl _ _ (w.heap.size + 1) _ (logArr ⟨x, l.next, l.roll, []⟩ (.slice A3 SS.length c3')) _ _ _ rfl rfl FI.out.2.1 Try.underlying28 rfl infoN) rfl ⟨.slice A3 SS.length c3', by rw [HC2.out]; rfl, by rw [HC2.out]; exact FI.out.2.2.2, FI.out.2.2.1⟩
    · have KF2 : Hid (kf (pS x) l.segs = r) := by show _ = _; rw [KF.out, if_neg (by omega)]
      have hlt : r < l.segs.length := by omega
      have q1 : ¬ (r : Int) = (l.segs.length : Int) := by omega
      have q2 : ((r : Int) == (l.segs.length : Int)) = false := beq_false_of_ne q1
      clear KF
      have z0 : (0 : Int) ≤ (r : Int) := by omega
      have z1 : (r : Int) ≤ (l.segs.length : Int) := by omega
      have z2 : (r : Int) ≤ (c : Int) := by omega
      have z3 : (l.segs.length : Int) ≤ (c : Int) := by omega
      have zc : ¬ c = r := by omega
      obtain ⟨SS, hSS⟩ : ∃ SS : List Sg, SS = l.segs.drop (r) := ⟨_, rfl⟩
      have LEN : Hid (SS.length ≤ 1048576) := by show _ ≤ _; rw [hSS, List.length_drop]; omega
      have FEW : Hid (∀ i, i < SS.length → FewS (SS.getD i default)) := fun i hi => by
        rw [hSS, List.length_drop] at hi
        rw [hSS, getD_drop]
        exact FW.out _ (by omega)
      have SAT : Hid (SegsAt w lo b (.slice (some ⟨g, o + (r) * 2, none⟩) (l.segs.length - (r)) (c - (r))) SS) := by rw [hSS]; exact segs_drop HS.out hlt
      have HC2 : Hid (cutF l x = (⟨x, l.next, l.roll, SS⟩, true)) := by have := HC.out; rw [KF2.out] at this; rw [hSS]; exact this
      clear hSS HC KF2
      go_wp2_with fail
      go_region_law
        ((first | (go_simp; go_at_call 22; refine (copySegments_any _ SS w2.drew lo b (by show b ≤ w2.heap.size; omega) LEN.out FEW.out (SAT.out.below ((B2.out.drew).mono hb))).mono ?_; rintro e w3 ⟨sv, rfl, hG, b3'⟩; have b3 : Hid (Below w2.heap.size w2 w3) := ⟨b3'.os, b3'.tape, b3'.output, b3'.size, b3'.block⟩; have FI := Seg.hid (FIN.out w3 sv SS hG b3.out LEN.out); obtain ⟨A3, c3', hA3⟩ := LGrow.form hG; subst hA3; have V1 := Seg.hid ((b3.out.block w.heap.size (by omega)).trans U1.out); obtain ⟨j0, j1, j2, j3⟩ := four V1.out; have V2 := Seg.hid ((b3.out.block (w.heap.size + 1) (by omega)).trans U2.out); obtain ⟨r0, r1, r2, r3⟩ := four V2.out; have y0 := frozen_of_row w3 (w.heap.size + 1) 0 _ _ V2.out; have y1 := frozen_of_row w3 (w.heap.size + 1) 1 _ _ V2.out; have y2 := frozen_of_row w3 (w.heap.size + 1) 2 _ _ V2.out; have y3 := frozen_of_row w3 (w.heap.size + 1) 3 _ _ V2.out; clear hG b3')))
      all_goals
        clear j0 j1 j2 j3 r0 r1 r2 r3 y0 y1 y2 y3 c0 c1 c2 c3
        go_wp2_with fail
        exact bodyPost_ret (v := .tuple #[logVal ⟨x, l.next, l.roll, []⟩ (.slice A3 SS.length c3'), .bool true]) (results_row_tmp rfl _ _ (w.heap.size + 1) _ (logArr ⟨x, l.next, l.roll, []⟩ (.slice A3 SS.length c3')) _ _ _ rfl rfl FI.out.2.1 Try.underlying28 rfl infoN) rfl ⟨.slice A3 SS.length c3', by rw [HC2.out]; rfl, by rw [HC2.out]; exact FI.out.2.2.2, FI.out.2.2.1⟩
theorem cutFrom_any (v : Value) (l : Lg) (x : Int) (w : World) (lo b : Nat) (hv : LogAt w lo b v l) (hb : b ≤ w.heap.size) (hf : FewL l) :
    Calls Try.prog 13 #[v, .int .i64 x] w fun e w' => ∃ sv, e = .returned (.tuple #[logVal (cutF l x).1 sv, .bool (cutF l x).2]) ∧ OwnS w' (seg w.heap.size w'.heap.size) sv (cutF l x).1.segs ∧ Below w.heap.size w w' := by
  obtain ⟨sv, rfl, hs⟩ := hv
  obtain ⟨_, ⟨_, A, c, rfl, _⟩, _⟩ := id hs
  exact cutFrom_core l x A c w lo b hb hf hs
end Go.Proofs.Ytlpckaflogikpaa.Ft
namespace Go.Proofs.Ytlpckaflogikpaa.BOk
set_option maxRecDepth 8000
open Go.RowKit
open Recs
set_option linter.unusedVariables false

def last (t : Bat) : Int := if batOk t = true then t.base + t.recs.length - 1 else -1
theorem okNum {t : Bat} (h : batOk t = true) : 0 ≤ t.base ∧ t.base ≤ 1000000000 ∧ 1 ≤ (t.recs.length : Int) ∧ (t.recs.length : Int) ≤ 40 := by
  simp only [batOk, okB1, okB3, inR, Bool.and_eq_true, decide_eq_true_eq] at h
  omega

set_option maxHeartbeats 400000 in
theorem specLast_any (v : Value) (t : Bat) (w : World) (lo b : Nat) (hv : BatAt w lo b v t) (hb : b ≤ w.heap.size) :
    Calls Try.prog 31 #[v] w fun e w' => e = .returned (.int .i64 (last t)) ∧ Below w.heap.size w w' := by
  have HV := Seg.hid hv
  obtain ⟨rv, rfl, H, ⟨hn, A, c, rfl, hx1⟩, hx2⟩ := hv
  clear hx1 hx2
  unfold batVal at HV ⊢
  unfold last
  go_enter Try.func31, Try.ntmps31
  go_wp2_with fail
  refine (spec_any _ t (w.alloc _) lo b (HV.out.below ((below1 w _).mono hb)) (by rw [hsz]; omega)).mono ?_
  rintro e w1 ⟨rfl, b1⟩
  have B1 := Seg.hid (chain (below1 w _) b1)
  have T1 : w1.heap[w.heap.size]? = some (.cells (BatW.batArr t (.slice A t.recs.length c)) 43 (0, 0)) := (b1.block w.heap.size (by rw [hsz]; omega)).trans (heap_alloc_new _ _)
  have c0 : w1.cell? ⟨w.heap.size, 0, none⟩ = some (.int .i64 t.base) := cell_of_row w1 _ 0 _ _ (0, 0) T1
  have c6 : w1.cell? ⟨w.heap.size, 6, none⟩ = some (.slice A t.recs.length c) := cell_of_row w1 _ 6 _ _ (0, 0) T1
  clear b1 T1
  cases h1 : batOk t with
  | false =>
    have HO : Hid (batOk t = false) := h1
    go_wp2
    all_goals
      go_ret
      exact ⟨rfl, B1.out⟩
  | true =>
    obtain ⟨n1, n2, n3, n4⟩ := okNum h1
    go_wp2
    all_goals
      go_ret
      exact ⟨rfl, B1.out⟩

end Go.Proofs.Ytlpckaflogikpaa.BOk
