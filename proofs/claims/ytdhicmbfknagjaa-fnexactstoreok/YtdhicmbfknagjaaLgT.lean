/- LogOk of the model: at every log. -/
import Derived.Test.YtdhicmbfknagjaaLgS
namespace Go.Proofs.Ytdhicmbfknagjaa.LgS
set_option maxRecDepth 8000
open Go.RowKit
open LgP (inR many logOk)
open InB (l1In_b)
open Bats SegW Segs LogW
open Recs (hsz Row below1 below2 BatAt RecsAt batVal Bat chain)
set_option linter.unusedVariables false
set_option maxHeartbeats 800000 in
theorem spec_no (l : Lg) (A : Option Addr) (c : Nat) (w : World) (hn : l.segs.length ≤ 1048576) (h : ahead l = false) :
    Calls Try.prog 36 #[logVal l (.slice A l.segs.length c)] w fun e w' => e = .returned (.bool false) ∧ Below w.heap.size w w' := by
  unfold logVal
  by_cases h0 : l.segs.length ≤ 60
  · cases h1 : inR l.roll 1 20000 with
    | false =>
      have H1 := Seg.hid h1
      clear h h1
      go_enter Try.func36, Try.ntmps36
      go_wp2_with fail
      refine (l1In_b l.roll 1 20000 false H1.out _).mono ?_
      rintro _ _ ⟨rfl, rfl⟩
      go_wp2
      go_ret
      exact ⟨rfl, below1 _ _⟩
    | true =>
      cases h2 : inR l.next 0 1000000000 with
      | false =>
        have H1 := Seg.hid h1
        have H2 := Seg.hid h2
        clear h h1 h2
        go_enter Try.func36, Try.ntmps36
        go_wp2_with fail
        refine (l1In_b l.roll 1 20000 true H1.out _).mono ?_
        rintro _ _ ⟨rfl, rfl⟩
        go_wp2_with fail
        refine (l1In_b l.next 0 1000000000 false H2.out _).mono ?_
        rintro _ _ ⟨rfl, rfl⟩
        go_wp2
        go_ret
        exact ⟨rfl, below1 _ _⟩
      | true =>
        have h3 : inR l.start 0 l.next = false := by
          simp only [ahead, decide_eq_true h0, h1, h2, Bool.true_and] at h
          exact h
        have H1 := Seg.hid h1
        have H2 := Seg.hid h2
        have H3 := Seg.hid h3
        clear h h1 h2 h3
        go_enter Try.func36, Try.ntmps36
        go_wp2_with fail
        refine (l1In_b l.roll 1 20000 true H1.out _).mono ?_
        rintro _ _ ⟨rfl, rfl⟩
        go_wp2_with fail
        refine (l1In_b l.next 0 1000000000 true H2.out _).mono ?_
        rintro _ _ ⟨rfl, rfl⟩
        go_wp2_with fail
        refine (l1In_b l.start 0 l.next false H3.out _).mono ?_
        rintro _ _ ⟨rfl, rfl⟩
        go_wp2
        go_ret
        exact ⟨rfl, below1 _ _⟩
  · clear h
    go_enter Try.func36, Try.ntmps36
    go_wp2
    go_ret
    exact ⟨rfl, below1 _ _⟩
set_option maxHeartbeats 800000 in
theorem spec_zero (l : Lg) (A : Option Addr) (c : Nat) (w : World) (h1 : inR l.roll 1 20000 = true) (h2 : inR l.next 0 1000000000 = true) (h3 : inR l.start 0 l.next = true) :
    Calls Try.prog 36 #[logVal l (.slice A 0 c)] w fun e w' => e = .returned (.bool true) ∧ Below w.heap.size w w' := by
  have hnx : -1 < l.next := by
    simp only [inR, Bool.and_eq_true, decide_eq_true_eq] at h2
    omega
  have H1 := Seg.hid h1
  have H2 := Seg.hid h2
  have H3 := Seg.hid h3
  clear h1 h2 h3
  unfold logVal
  go_enter Try.func36, Try.ntmps36
  go_wp2_with fail
  refine (l1In_b l.roll 1 20000 true H1.out _).mono ?_
  rintro _ _ ⟨rfl, rfl⟩
  go_wp2_with fail
  refine (l1In_b l.next 0 1000000000 true H2.out _).mono ?_
  rintro _ _ ⟨rfl, rfl⟩
  go_wp2_with fail
  refine (l1In_b l.start 0 l.next true H3.out _).mono ?_
  rintro _ _ ⟨rfl, rfl⟩
  go_wp2_with fail
  go_loop [3, 4, 5, 6] (fun bh ep mn i => bh = .int .i64 (-1) ∧ ep = .int .i64 0 ∧ mn = .int .i64 0 ∧ i = .int .i64 0) (fun _ _ _ _ => 0)
  case atStart => exact ⟨rfl, rfl, rfl, rfl⟩
  case round =>
    obtain ⟨rfl, rfl, rfl, rfl⟩ := hrel
    go_wp2
    go_ret
    exact ⟨rfl, below1 _ _⟩
theorem logOk_eq (l : Lg) : logOk l = (ahead l && (LgP.stands l.next (LgP.segs 0 0 l.segs) && decide (many l.segs ≤ 400))) := by
  simp only [logOk, ahead, LgP.bounds, LgP.counts]
  generalize LgP.stands l.next (LgP.segs 0 0 l.segs) = s
  generalize inR l.roll 1 20000 = a
  generalize inR l.next 0 1000000000 = b
  generalize inR l.start 0 l.next = c
  generalize decide (many l.segs ≤ 400) = d
  generalize decide (l.segs.length ≤ 60) = e
  cases s <;> cases a <;> cases b <;> cases c <;> cases d <;> cases e <;> rfl
theorem spec_any (v : Value) (l : Lg) (w : World) (lo b : Nat) (hv : LogAt w lo b v l) (hb : b ≤ w.heap.size) (hf : FewL l) (hw : ∀ i, i < l.segs.length → -9223372036854775808 ≤ (l.segs.getD i default).base ∧ (l.segs.getD i default).base ≤ 9223372036854775807) :
    Calls Try.prog 36 #[v] w fun e w' => e = .returned (.bool (logOk l)) ∧ Below w.heap.size w w' := by
  obtain ⟨rv, rfl, H, ⟨hn, A, c, rfl, h⟩, hh⟩ := hv
  rw [logOk_eq]
  cases ha : ahead l with
  | false => exact spec_no l A c w hf.1.1 ha
  | true =>
  have ha' := ha
  simp only [ahead, Bool.and_eq_true, decide_eq_true_eq] at ha'
  obtain ⟨h0, h1, h2, h3⟩ := ha'
  by_cases hz : l.segs.length = 0
  · have e : (true && (LgP.stands l.next (LgP.segs 0 0 l.segs) && decide (many l.segs ≤ 400))) = true := by
      rw [List.length_eq_zero_iff.1 hz]
      simp only [inR, Bool.and_eq_true, decide_eq_true_eq] at h2
      simp [LgP.segs, LgP.stands, many]
      omega
    rw [e, hz]
    exact spec_zero l A c w h1 h2 h3
  obtain ⟨g, o, rfl, hg, hc, hcell, _⟩ := h.resolve_left hz
  rw [Bool.true_and]
  exact spec_core l g o c H w lo b hb hf hw h0 h1 h2 h3 hc (by omega) hh hcell
end Go.Proofs.Ytdhicmbfknagjaa.LgS
