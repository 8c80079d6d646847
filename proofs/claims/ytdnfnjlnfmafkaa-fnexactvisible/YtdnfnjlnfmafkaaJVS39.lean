/- Stable and Aborted of the model. -/
import Derived.BigQuiet
import Derived.Test.YtdnfnjlnfmafkaaJVS36
import Derived.Test.YtdnfnjlnfmafkaaJVS12
import Derived.Test.YtdnfnjlnfmafkaaJVS26
import Derived.Test.YtdnfnjlnfmafkaaJVS37
import Derived.Test.YtdnfnjlnfmafkaaJVS38
namespace Go.Proofs.Ytdnfnjlnfmafkaa.SdS
set_option maxRecDepth 8000
open Go.RowKit
open Ls Ow SdQ SdP SdJ SdO
open Recs (hsz below1 below2 chain)
open Bats SegW Segs LogW BfP
open LgP (logOk)
open Of (four ok_all flat_count okB_flat at1)
set_option linter.unusedVariables false
theorem l5Least_any (a b : Int) (w : World) : Calls Try.prog 36 #[.int .i64 a, .int .i64 b] w fun e w' => e = .returned (.int .i64 (min a b)) ∧ Below w.heap.size w w' := by
  go_enter Try.func36, Try.ntmps36
  by_cases h : a < b
  · have e : Hid (min a b = a) := by show _ = _; omega
    go_wp2
    go_ret
    exact ⟨by rw [e.out]; rfl, Below.refl _ _⟩
  · have e : Hid (min a b = b) := by show _ = _; omega
    go_wp2
    go_ret
    exact ⟨by rw [e.out]; rfl, Below.refl _ _⟩
theorem least_take (n : Int) (st : List Gon) (j : Nat) (hj : j < st.length) : least n (st.take (j + 1)) = min (least n (st.take j)) (st.getD j default).first := by
  unfold least
  rw [List.take_add_one, List.getElem?_eq_getElem hj, List.foldl_append]
  simp [hj]
set_option maxHeartbeats 3200000 in
theorem stable_core (l : Lg) (A : Option Addr) (c : Nat) (w : World) (lo b : Nat) (hb : b ≤ w.heap.size) (hf : FewL l) (hw : ∀ i, i < l.segs.length → -9223372036854775808 ≤ (l.segs.getD i default).base ∧ (l.segs.getD i default).base ≤ 9223372036854775807) (hs : SegsAt w lo b (.slice A l.segs.length c) l.segs) :
    Calls Try.prog 17 #[logVal l (.slice A l.segs.length c)] w fun e w' => e = .returned (.int .i64 (stable l)) ∧ Below w.heap.size w w' := by
  have HV : Hid (LogAt w lo b (logVal l (.slice A l.segs.length c)) l) := ⟨_, rfl, hs⟩
  have HF := Seg.hid hf; have HWW := Seg.hid hw
  clear hs hf hw
  unfold logVal at HV ⊢
  go_enter Try.func17, Try.ntmps17
  go_wp2_with fail
  refine (LgS.spec_any _ l (w.alloc _) lo b (HV.out.below ((below1 w _).mono hb)) (by rw [hsz]; omega) HF.out HWW.out).mono ?_
  rintro e w1 ⟨rfl, b1⟩
  have B1 := Seg.hid (chain (below1 w _) b1)
  have T1 : Hid (w1.heap[w.heap.size]? = some (.cells (logArr l (.slice A l.segs.length c)) 31 (0, 0))) := (b1.block w.heap.size (by rw [hsz]; omega)).trans (at1 w _)
  have s1 := b1.size
  rw [hsz] at s1
  clear b1
  cases hok : logOk l with
  | false =>
    have Z : Hid (stable l = -1) := by show _ = _; simp [stable, hok]
    clear hok
    go_wp2
    go_ret
    exact ⟨by rw [Z.out]; rfl, B1.out⟩
  | true =>
  have Z : Hid (stable l = least l.next (runB ([], []) (flatB l.segs)).1) := by show _ = _; simp [stable, settled, hok]
  obtain ⟨f, k1, k2, k3, k4, k5, k6, k7⟩ := ok_all hok
  have OKB := Seg.hid (okB_flat k1)
  have FL : (flatB l.segs).length ≤ 400 := by rw [flat_count]; exact k7
  clear hok k1
  obtain ⟨c0, c1, c2, c3⟩ := four T1.out
  have hw1 : w.heap.size < w1.heap.size := by omega
  go_wp2_with fail
  refine (Ft.l3All_any _ l w1 lo b (HV.out.below (B1.out.mono hb)) (by omega) (by omega) (by omega)).mono ?_
  rintro e w2 ⟨v2, rfl, hbs, b2⟩
  have B2 := Seg.hid (chain B1.out b2)
  have T2 := Seg.hid ((b2.block w.heap.size (by omega)).trans T1.out)
  have s2 := b2.size
  generalize flatB l.segs = bs at *
  clear c0 c1 c2 c3 T1 B1 b2
  go_wp2_with fail
  refine (open_any v2 bs w2 0 w2.heap.size hbs (Nat.le_refl _) FL (fun i hi => OKB.out _ (by rw [List.getD_eq_getElem?_getD, List.getElem?_eq_getElem hi]; exact List.getElem_mem hi))).mono ?_
  rintro e w3 ⟨ov, gv, rfl, O3⟩
  have r1 := O3.r1
  have B3 := Seg.hid (chain B2.out O3.bel)
  have s3 := O3.bel.size
  have T3 := Seg.hid ((O3.bel.block w.heap.size (by omega)).trans T2.out)
  have hl := os_le bs ([], [])
  simp only [List.length_nil, Nat.zero_add] at hl
  generalize (runB ([], []) bs).1 = st at *
  generalize (runB ([], []) bs).2 = gs at *
  clear O3 hbs OKB HV T2 B2
  obtain ⟨c0, c1, c2, c3⟩ := four T3.out
  have hw3 : w.heap.size < w3.heap.size := by omega
  go_wp2_with fail
  obtain ⟨Ao, co, hov⟩ : ∃ Ao co, ov = .slice Ao st.length co := by
    rcases r1.2 with ⟨h1, h0⟩ | ⟨g, cap, cur, h1, _⟩
    · exact ⟨none, 0, by rw [h1, h0]⟩
    · exact ⟨_, _, h1⟩
  subst hov
  have R1 := Seg.hid r1
  clear r1 c0 c1 c2 c3
  go_loopw [5, 6] (fun a i wr => ∃ (j : Nat), j ≤ st.length ∧ a = .int .i64 (least l.next (st.take j)) ∧ i = .int .i64 j ∧ Hid (Below w3.heap.size w3 wr)) (fun _ i _ => st.length - (intOf i).toNat)
  case atStart => exact ⟨0, Nat.zero_le _, rfl, rfl, ⟨rfl, rfl, rfl, Nat.le_refl _, fun _ _ => rfl⟩⟩
  case round =>
    obtain ⟨j, hj, rfl, rfl, HW⟩ := hrel
    by_cases hlt : j < st.length
    · have h0 : (0 : Int) ≤ (j : Int) := by omega
      have h1 : (j : Int) < (st.length : Int) := by omega
      obtain ⟨g2, cap, e2, hcp, hg2, x0, x1⟩ := row_gon (row_kept R1.out (fun x hx => HW.out.block x (World.ownsRow.lt R1.out x hx).2)) hlt
      simp only [Value.slice.injEq, true_and] at e2
      obtain ⟨rfl, rfl⟩ := e2
      have LT := Seg.hid (least_take l.next st j hlt)
      generalize st.getD j default = gj at *
      generalize least l.next (st.take j) = lj at *
      go_wp2_with fail
      refine (l5Least_any lj gj.first wr).mono ?_
      rintro e w8 ⟨rfl, b8⟩
      have B8 := Seg.hid (chain HW.out b8)
      clear b8 x0 x1
      go_wp2_with fail
      go_roundw
      case rel => exact ⟨j + 1, by omega, by rw [LT.out], by go_num, B8.out⟩
      case measure => simp [intOf]; omega
    · have E : Hid (least l.next (st.take j) = least l.next st) := by show _ = _; rw [List.take_of_length_le (by omega)]
      go_wp2
      go_ret
      exact ⟨by rw [Z.out, E.out]; rfl, chain B3.out HW.out⟩
theorem stable_any (v : Value) (l : Lg) (w : World) (lo b : Nat) (hv : LogAt w lo b v l) (hb : b ≤ w.heap.size) (hf : FewL l) (hw : ∀ i, i < l.segs.length → -9223372036854775808 ≤ (l.segs.getD i default).base ∧ (l.segs.getD i default).base ≤ 9223372036854775807) :
    Calls Try.prog 17 #[v] w fun e w' => e = .returned (.int .i64 (stable l)) ∧ Below w.heap.size w w' := by
  obtain ⟨sv, rfl, hs⟩ := hv
  obtain ⟨_, ⟨_, A, c, rfl, _⟩, _⟩ := id hs
  exact stable_core l A c w lo b hb hf hw hs
set_option maxHeartbeats 3200000 in
theorem aborted_core (l : Lg) (A : Option Addr) (c : Nat) (w : World) (lo b : Nat) (hb : b ≤ w.heap.size) (hf : FewL l) (hw : ∀ i, i < l.segs.length → -9223372036854775808 ≤ (l.segs.getD i default).base ∧ (l.segs.getD i default).base ≤ 9223372036854775807) (hs : SegsAt w lo b (.slice A l.segs.length c) l.segs) :
    Calls Try.prog 16 #[logVal l (.slice A l.segs.length c)] w fun e w' => ∃ gv, e = .returned gv ∧ GonsOwn w' (seg w.heap.size w'.heap.size) gv (aborted l) ∧ Below w.heap.size w w' := by
  have HV : Hid (LogAt w lo b (logVal l (.slice A l.segs.length c)) l) := ⟨_, rfl, hs⟩
  have HF := Seg.hid hf; have HWW := Seg.hid hw
  clear hs hf hw
  unfold logVal at HV ⊢
  go_enter Try.func16, Try.ntmps16
  go_wp2_with fail
  refine (LgS.spec_any _ l (w.alloc _) lo b (HV.out.below ((below1 w _).mono hb)) (by rw [hsz]; omega) HF.out HWW.out).mono ?_
  rintro e w1 ⟨rfl, b1⟩
  have B1 := Seg.hid (chain (below1 w _) b1)
  have T1 : Hid (w1.heap[w.heap.size]? = some (.cells (logArr l (.slice A l.segs.length c)) 31 (0, 0))) := (b1.block w.heap.size (by rw [hsz]; omega)).trans (at1 w _)
  have s1 := b1.size
  rw [hsz] at s1
  clear b1
  cases hok : logOk l with
  | false =>
    have Z : Hid (aborted l = []) := by show _ = _; simp [aborted, hok]
    clear hok
    go_wp2
    go_ret
    refine ⟨_, rfl, ?_, chain B1.out (below1 w1 _)⟩
    rw [Z.out]
    exact ⟨by simp, _, 0, rfl, .inl rfl⟩
  | true =>
  have Z : Hid (aborted l = (runB ([], []) (flatB l.segs)).2) := by show _ = _; simp [aborted, settled, hok]
  obtain ⟨f, k1, k2, k3, k4, k5, k6, k7⟩ := ok_all hok
  have OKB := Seg.hid (okB_flat k1)
  have FL : (flatB l.segs).length ≤ 400 := by rw [flat_count]; exact k7
  clear hok k1
  obtain ⟨c0, c1, c2, c3⟩ := four T1.out
  have hw1 : w.heap.size < w1.heap.size := by omega
  go_wp2_with fail
  refine (Ft.l3All_any _ l w1 lo b (HV.out.below (B1.out.mono hb)) (by omega) (by omega) (by omega)).mono ?_
  rintro e w2 ⟨v2, rfl, hbs, b2⟩
  have B2 := Seg.hid (chain B1.out b2)
  have s2 := b2.size
  generalize flatB l.segs = bs at *
  clear c0 c1 c2 c3 T1 B1 b2
  go_wp2_with fail
  refine (open_any v2 bs w2 0 w2.heap.size hbs (Nat.le_refl _) FL (fun i hi => OKB.out _ (by rw [List.getD_eq_getElem?_getD, List.getElem?_eq_getElem hi]; exact List.getElem_mem hi))).mono ?_
  rintro e w3 ⟨ov, gv, rfl, O3⟩
  have R2 := Seg.hid O3.r2
  have B3 := Seg.hid (chain B2.out O3.bel)
  have s3 := O3.bel.size
  have hl := gs_le bs ([], [])
  simp only [List.length_nil, Nat.zero_add] at hl
  generalize (runB ([], []) bs).1 = st at *
  generalize (runB ([], []) bs).2 = gs at *
  clear O3 hbs OKB HV B2
  go_wp2_with fail
  go_ret
  refine ⟨_, rfl, ?_, B3.out⟩
  rw [Z.out]
  exact own_gons (base := w2.heap.size) _ R2.out (by omega) (fun x hx => ⟨by have := (World.ownsRow.lt R2.out x hx).1; omega, (World.ownsRow.lt R2.out x hx).2⟩)
theorem aborted_any (v : Value) (l : Lg) (w : World) (lo b : Nat) (hv : LogAt w lo b v l) (hb : b ≤ w.heap.size) (hf : FewL l) (hw : ∀ i, i < l.segs.length → -9223372036854775808 ≤ (l.segs.getD i default).base ∧ (l.segs.getD i default).base ≤ 9223372036854775807) :
    Calls Try.prog 16 #[v] w fun e w' => ∃ gv, e = .returned gv ∧ GonsOwn w' (seg w.heap.size w'.heap.size) gv (aborted l) ∧ Below w.heap.size w w' := by
  obtain ⟨sv, rfl, hs⟩ := hv
  obtain ⟨_, ⟨_, A, c, rfl, _⟩, _⟩ := id hs
  exact aborted_core l A c w lo b hb hf hw hs
end Go.Proofs.Ytdnfnjlnfmafkaa.SdS
