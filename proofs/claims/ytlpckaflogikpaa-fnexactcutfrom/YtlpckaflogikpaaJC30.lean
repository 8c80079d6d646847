/- LogOk of the model: at every log; The model's CutFrom. -/
import Derived.Test.YtlpckaflogikpaaJC29
import Derived.Test.YtlpckaflogikpaaJC25
import Derived.Test.YtlpckaflogikpaaJC28
namespace Go.Proofs.Ytlpckaflogikpaa.LgS
set_option maxRecDepth 8000
open Go.RowKit
open LgP (inR many logOk)
open InB (l1In_b)
open Bats SegW Segs LogW
open Recs (hsz Row below1 below2 BatAt RecsAt batVal Bat chain)
set_option linter.unusedVariables false
set_option maxHeartbeats 800000 in
theorem spec_no (l : Lg) (A : Option Addr) (c : Nat) (w : World) (hn : l.segs.length ≤ 1048576) (h : ahead l = false) :
    Calls Try.prog 15 #[logVal l (.slice A l.segs.length c)] w fun e w' => e = .returned (.bool false) ∧ Below w.heap.size w w' := by
  unfold logVal
  by_cases h0 : l.segs.length ≤ 60
  · cases h1 : inR l.roll 1 20000 with
    | false =>
      have H1 := Seg.hid h1
      clear h h1
      go_enter Try.func15, Try.ntmps15
      go_wp2_with fail
      refine (l1In_b l.roll 1 20000 false H1.out _).mono ?_
      rintro _ _ ⟨rfl, rfl⟩
      go_wp2
      go_ret
      exact ⟨rfl, below1 _ _⟩
    | true =>
      cases h2 : inR l.next 0 1000000000 with
      | false =>
        have H1 := Seg.hid h1
        have H2 := Seg.hid h2
        clear h h1 h2
        go_enter Try.func15, Try.ntmps15
        go_wp2_with fail
        refine (l1In_b l.roll 1 20000 true H1.out _).mono ?_
        rintro _ _ ⟨rfl, rfl⟩
        go_wp2_with fail
        refine (l1In_b l.next 0 1000000000 false H2.out _).mono ?_
        rintro _ _ ⟨rfl, rfl⟩
        go_wp2
        go_ret
        exact ⟨rfl, below1 _ _⟩
      | true =>
        have h3 : inR l.start 0 l.next = false := by
          simp only [ahead, decide_eq_true h0, h1, h2, Bool.true_and] at h
          exact h
        have H1 := Seg.hid h1
        have H2 := Seg.hid h2
        have H3 := Seg.hid h3
        clear h h1 h2 h3
        go_enter Try.func15, Try.ntmps15
        go_wp2_with fail
        refine (l1In_b l.roll 1 20000 true H1.out _).mono ?_
        rintro _ _ ⟨rfl, rfl⟩
        go_wp2_with fail
        refine (l1In_b l.next 0 1000000000 true H2.out _).mono ?_
        rintro _ _ ⟨rfl, rfl⟩
        go_wp2_with fail
        refine (l1In_b l.start 0 l.next false H3.out _).mono ?_
        rintro _ _ ⟨rfl, rfl⟩
        go_wp2
        go_ret
        exact ⟨rfl, below1 _ _⟩
  · clear h
    go_enter Try.func15, Try.ntmps15
    go_wp2
    go_ret
    exact ⟨rfl, below1 _ _⟩
set_option maxHeartbeats 800000 in
theorem spec_zero (l : Lg) (A : Option Addr) (c : Nat) (w : World) (h1 : inR l.roll 1 20000 = true) (h2 : inR l.next 0 1000000000 = true) (h3 : inR l.start 0 l.next = true) :
    Calls Try.prog 15 #[logVal l (.slice A 0 c)] w fun e w' => e = .returned (.bool true) ∧ Below w.heap.size w w' := by
  have hnx : -1 < l.next := by
    simp only [inR, Bool.and_eq_true, decide_eq_true_eq] at h2
    omega
  have H1 := Seg.hid h1
  have H2 := Seg.hid h2
  have H3 := Seg.hid h3
  clear h1 h2 h3
  unfold logVal
  go_enter Try.func15, Try.ntmps15
  go_wp2_with fail
  refine (l1In_b l.roll 1 20000 true H1.out _).mono ?_
  rintro _ _ ⟨rfl, rfl⟩
  go_wp2_with fail
  refine (l1In_b l.next 0 1000000000 true H2.out _).mono ?_
  rintro _ _ ⟨rfl, rfl⟩
  go_wp2_with fail
  refine (l1In_b l.start 0 l.next true H3.out _).mono ?_
  rintro _ _ ⟨rfl, rfl⟩
  go_wp2_with fail
  go_loop [3, 4, 5, 6] (fun bh ep mn i => bh = .int .i64 (-1) ∧ ep = .int .i64 0 ∧ mn = .int .i64 0 ∧ i = .int .i64 0) (fun _ _ _ _ => 0)
  case atStart => exact ⟨rfl, rfl, rfl, rfl⟩
  case round =>
    obtain ⟨rfl, rfl, rfl, rfl⟩ := hrel
    go_wp2
    go_ret
    exact ⟨rfl, below1 _ _⟩
theorem logOk_eq (l : Lg) : logOk l = (ahead l && (LgP.stands l.next (LgP.segs 0 0 l.segs) && decide (many l.segs ≤ 400))) := by
  simp only [logOk, ahead, LgP.bounds, LgP.counts]
  generalize LgP.stands l.next (LgP.segs 0 0 l.segs) = s
  generalize inR l.roll 1 20000 = a
  generalize inR l.next 0 1000000000 = b
  generalize inR l.start 0 l.next = c
  generalize decide (many l.segs ≤ 400) = d
  generalize decide (l.segs.length ≤ 60) = e
  cases s <;> cases a <;> cases b <;> cases c <;> cases d <;> cases e <;> rfl
theorem spec_any (v : Value) (l : Lg) (w : World) (lo b : Nat) (hv : LogAt w lo b v l) (hb : b ≤ w.heap.size) (hf : FewL l) (hw : ∀ i, i < l.segs.length → -9223372036854775808 ≤ (l.segs.getD i default).base ∧ (l.segs.getD i default).base ≤ 9223372036854775807) :
    Calls Try.prog 15 #[v] w fun e w' => e = .returned (.bool (logOk l)) ∧ Below w.heap.size w w' := by
  obtain ⟨rv, rfl, H, ⟨hn, A, c, rfl, h⟩, hh⟩ := hv
  rw [logOk_eq]
  cases ha : ahead l with
  | false => exact spec_no l A c w hf.1.1 ha
  | true =>
  have ha' := ha
  simp only [ahead, Bool.and_eq_true, decide_eq_true_eq] at ha'
  obtain ⟨h0, h1, h2, h3⟩ := ha'
  by_cases hz : l.segs.length = 0
  · have e : (true && (LgP.stands l.next (LgP.segs 0 0 l.segs) && decide (many l.segs ≤ 400))) = true := by
      rw [List.length_eq_zero_iff.1 hz]
      simp only [inR, Bool.and_eq_true, decide_eq_true_eq] at h2
      simp [LgP.segs, LgP.stands, many]
      omega
    rw [e, hz]
    exact spec_zero l A c w h1 h2 h3
  obtain ⟨g, o, rfl, hg, hc, hcell, _⟩ := h.resolve_left hz
  rw [Bool.true_and]
  exact spec_core l g o c H w lo b hb hf hw h0 h1 h2 h3 hc (by omega) hh hcell
end Go.Proofs.Ytlpckaflogikpaa.LgS
namespace Go.Proofs.Ytlpckaflogikpaa.Ft
set_option maxRecDepth 8000
open Go.RowKit
open Recs
open Bats SegW Segs LogW SrP
open LgP (logOk inR)
set_option linter.unusedVariables false
theorem kf_step {p : Sg → Bool} {ss : List Sg} {i : Nat} (h : i + 1 < ss.length) : kf p (ss.drop i) = if p (ss.getD i default) = true then 0 else 1 + kf p (ss.drop (i + 1)) := by
  rw [LgP.drop_at (l := ss) (k := i) (by omega), LgP.drop_at (l := ss) (k := i + 1) (by omega)]
  rfl
/-- How long the list is that lies in cell 3 of a block. -/
def lenAt (w : World) (q : Nat) : Nat :=
  match w.cell? ⟨q, 3, none⟩ with
  | some (.slice _ n _) => n
  | _ => 0
theorem kf_last {p : Sg → Bool} {ss : List Sg} {i : Nat} (h : ss.length ≤ i + 1) : kf p (ss.drop i) = 0 := by
  by_cases h2 : i < ss.length
  · rw [LgP.drop_at (l := ss) (k := i) h2, List.drop_eq_nil_of_le h]
    rfl
  · rw [List.drop_eq_nil_of_le (by omega)]
    rfl
set_option maxHeartbeats 3200000 in
theorem cutFromS_core (l : Lg) (x : Int) (A : Option Addr) (c : Nat) (w : World) (lo b : Nat) (hb : b ≤ w.heap.size) (hf : FewL l) (hw : ∀ i, i < l.segs.length → -9223372036854775808 ≤ (l.segs.getD i default).base ∧ (l.segs.getD i default).base ≤ 9223372036854775807) (hs : SegsAt w lo b (.slice A l.segs.length c) l.segs)
    (hcp : ∀ v w lo b, LogAt w lo b v l → b ≤ w.heap.size → Calls Try.prog 27 #[v] w fun e w' => ∃ sv, e = .returned (logVal l sv) ∧ OwnS w' (seg w.heap.size w'.heap.size) sv l.segs ∧ Below w.heap.size w w') :
    Calls Try.prog 12 #[logVal l (.slice A l.segs.length c), .int .i64 x] w fun e w' => ∃ sv, e = .returned (.tuple #[logVal (cutF l x).1 sv, .bool (cutF l x).2]) ∧ SegsAt w' w.heap.size w'.heap.size sv (cutF l x).1.segs ∧ Below w.heap.size w w' := by
  have HS := Seg.hid hs
  have HV : Hid (LogAt w lo b (logVal l (.slice A l.segs.length c)) l) := ⟨_, rfl, hs⟩
  have HF := Seg.hid hf; have HWW := Seg.hid hw; have HCP := Seg.hid hcp
  clear hs hf hw hcp
  unfold logVal at HV ⊢
  go_enter Try.func12, Try.ntmps12
  go_wp2_with fail
  refine (LgS.spec_any _ l ((w.alloc _).alloc _) lo b (HV.out.below ((below2 w _ _).mono hb)) (by rw [hsz, hsz]; omega) HF.out HWW.out).mono ?_
  rintro e w1 ⟨rfl, b1⟩
  have B1 := Seg.hid (chain (below2 w _ _) b1)
  have T1 : Hid (w1.heap[w.heap.size]? = some (.cells (logArr l (.slice A l.segs.length c)) 28 (0, 0))) := (b1.block w.heap.size (by rw [hsz, hsz]; omega)).trans (at1 w _ _)
  have T2 : Hid (w1.heap[w.heap.size + 1]? = some (.cells (logArr ⟨0, 0, 0, []⟩ (.slice none 0 0)) 28 (0, 0))) := (b1.block (w.heap.size + 1) (by rw [hsz, hsz]; omega)).trans (at2 w _ _)
  have s1 := b1.size
  rw [hsz, hsz] at s1
  clear b1
  have NO : Hid (∀ w2, Below w1.heap.size w1 w2 → w2.there (w.heap.size + 1) 0 (logArr ⟨0, 0, 0, []⟩ (.slice none 0 0)).size ∧ (w2.setCells (w.heap.size + 1) 0 (logArr ⟨0, 0, 0, []⟩ (.slice none 0 0)).toList).heap[w.heap.size + 1]? = some (.cells (logArr ⟨0, 0, 0, []⟩ (.slice none 0 0)) 28 (0, 0)) ∧ Below w.heap.size w (w2.setCells (w.heap.size + 1) 0 (logArr ⟨0, 0, 0, []⟩ (.slice none 0 0)).toList)) := fun w2 b2 => by
    have T := (b2.block (w.heap.size + 1) (by omega)).trans T2.out
    exact ⟨Cells.there_of T, Cells.whole (vs := logArr ⟨0, 0, 0, []⟩ (.slice none 0 0)) T rfl, Cells.below_setCells (by omega) _ _ _ _ (chain B1.out b2)⟩
  cases hok : logOk l with
  | false =>
    have HC : Hid (cutF l x = (⟨0, 0, 0, []⟩, false)) := by show _ = _; simp [cutF, hok]
    clear hok
    go_wp2_with (first | (refine wpList_store_mid rfl 28 _ _ rfl (w.heap.size + 1) 0 (logArr ⟨0, 0, 0, []⟩ (.slice none 0 0)) rfl rfl (NO.out _ (Below.refl _ _)).1 infoN (logArr_one _ _ rfl) ?_))
    exact bodyPost_ret (v := .tuple #[logVal ⟨0, 0, 0, []⟩ (.slice none 0 0), .bool false]) (results_row_tmp rfl _ _ (w.heap.size + 1) _ _ _ _ _ rfl rfl (NO.out _ (Below.refl _ _)).2.1 Try.underlying28 rfl infoN) rfl ⟨.slice none 0 0, by rw [HC.out]; rfl, by rw [HC.out]; exact segs_nil, (NO.out _ (Below.refl _ _)).2.2⟩
  | true =>
  obtain ⟨c0, c1, c2, c3⟩ := four T1.out
  have IN : ∀ t, (decide (l.start ≤ x) && decide (x ≤ l.next)) = t → inR x l.start l.next = t := fun t h => h
  cases hin : (decide (l.start ≤ x) && decide (x ≤ l.next)) with
  | false =>
    have HC : Hid (cutF l x = (⟨0, 0, 0, []⟩, false)) := by show _ = _; simp [cutF, hok, IN false hin]
    clear IN hok
    go_wp2_with fail
    refine (InB.l1In_b x l.start l.next false hin w1).mono ?_
    rintro e w1' ⟨rfl, rfl⟩
    clear hin
    go_wp2_with (first | (refine wpList_store_mid rfl 28 _ _ rfl (w.heap.size + 1) 0 (logArr ⟨0, 0, 0, []⟩ (.slice none 0 0)) rfl rfl (NO.out _ (Below.refl _ _)).1 infoN (logArr_one _ _ rfl) ?_))
    exact bodyPost_ret (v := .tuple #[logVal ⟨0, 0, 0, []⟩ (.slice none 0 0), .bool false]) (results_row_tmp rfl _ _ (w.heap.size + 1) _ _ _ _ _ rfl rfl (NO.out _ (Below.refl _ _)).2.1 Try.underlying28 rfl infoN) rfl ⟨.slice none 0 0, by rw [HC.out]; rfl, by rw [HC.out]; exact segs_nil, (NO.out _ (Below.refl _ _)).2.2⟩
  | true =>
  have HC : Hid (cutF l x = (⟨x, l.next, l.roll, l.segs.drop (kf (pS x) l.segs)⟩, true)) := by show _ = _; simp [cutF, hok, IN true hin]
  obtain ⟨f, k1, k2, k3, k4, k5, k6⟩ := ok_parts hok
  have SO := Seg.hid (segs_ok _ _ _ _ k1); have SN := Seg.hid (segs_some _ _ _ _ k1)
  clear IN hok k1
  go_wp2_with fail
  refine (InB.l1In_b x l.start l.next true hin w1).mono ?_
  rintro e w1' ⟨rfl, rfl⟩
  clear hin
  go_wp2_with fail
  refine (HCP.out _ w1 lo b (HV.out.below (B1.out.mono hb)) (by omega)).mono ?_
  rintro e w2 ⟨sv, rfl, ow2, b2⟩
  have OW2 := Seg.hid ow2
  obtain ⟨A2, c2', rfl⟩ := LOwn.form ow2
  have B2 := Seg.hid (chain B1.out b2)
  have U2 := Seg.hid ((b2.block (w.heap.size + 1) (by omega)).trans T2.out)
  have s2 := b2.size
  clear ow2 b2 c0 c1 c2 c3
  unfold logVal
  have SA2 : Hid (SegsAt w2 w1.heap.size w2.heap.size (.slice A2 l.segs.length c2') l.segs) := segs_of OW2.out (fun y hy => hy)
  have EX : Hid (∀ (wr : World) (v : Value) (ss : List Sg), v.oneCell' = true → wr.heap[w2.heap.size]? = some (.cells (logArr ⟨x, l.next, l.roll, []⟩ v) 28 (0, 0)) → Below w2.heap.size w2 wr → SegsAt w2 w1.heap.size w2.heap.size v ss → wr.there (w.heap.size + 1) 0 (logArr ⟨x, l.next, l.roll, []⟩ v).size ∧ (wr.setCells (w.heap.size + 1) 0 (logArr ⟨x, l.next, l.roll, []⟩ v).toList).heap[w.heap.size + 1]? = some (.cells (logArr ⟨x, l.next, l.roll, []⟩ v) 28 (0, 0)) ∧ Below w.heap.size w (wr.setCells (w.heap.size + 1) 0 (logArr ⟨x, l.next, l.roll, []⟩ v).toList) ∧ SegsAt (wr.setCells (w.heap.size + 1) 0 (logArr ⟨x, l.next, l.roll, []⟩ v).toList) w.heap.size (wr.setCells (w.heap.size + 1) 0 (logArr ⟨x, l.next, l.roll, []⟩ v).toList).heap.size v ss) := fun wr v ss h0 h1 h2 h3 => by
    have T := (h2.block (w.heap.size + 1) (by omega)).trans U2.out
    have TH := Cells.there_of T
    have hs2 := h2.size
    refine ⟨TH, Cells.whole (vs := logArr ⟨x, l.next, l.roll, []⟩ v) T rfl, Cells.below_setCells (by omega) _ _ _ _ (chain B2.out h2), ?_⟩
    refine (h3.keep fun g h4 h5 => ?_).mono (by omega) (by rw [Cells.size_setCells]; exact hs2)
    rw [Cells.heap_setCells_other _ _ (by omega), h2.block g h5]
  go_wp2_with fail
  have O2 : Hid ((w2.alloc (.cells (logArr ⟨x, l.next, l.roll, []⟩ (.slice A2 l.segs.length c2')) 28 (0, 0))).heap[w2.heap.size]? = some (.cells (logArr ⟨x, l.next, l.roll, []⟩ (.slice A2 l.segs.length c2')) 28 (0, 0))) := heap_alloc_new _ _
  have BA2 : Hid (Below w2.heap.size w2 (w2.alloc (.cells (logArr ⟨x, l.next, l.roll, []⟩ (.slice A2 l.segs.length c2')) 28 (0, 0)))) := below1 w2 _
  have hl1 := HF.out.1.1
  by_cases hn1 : l.segs.length ≤ 1
  · have HK : Hid (kf (pS x) l.segs = 0) := by
      have := kf_last (p := pS x) (ss := l.segs) (i := 0) (by omega)
      rw [List.drop_zero] at this
      exact this
    have HC2 : Hid (cutF l x = (⟨x, l.next, l.roll, l.segs⟩, true)) := by have := HC.out; rw [HK.out, List.drop_zero] at this; exact this
    have q1 : ¬ (1 : Int) < (l.segs.length : Int) := by omega
    have q2 : decide ((1 : Int) < (l.segs.length : Int)) = false := decide_eq_false q1
    go_loopw [] (fun wr => Hid (wr.heap[w2.heap.size]? = some (.cells (logArr ⟨x, l.next, l.roll, []⟩ (.slice A2 l.segs.length c2')) 28 (0, 0)) ∧ Below w2.heap.size w2 wr)) (fun _ => 0)
    case atStart => exact ⟨O2.out, BA2.out⟩
    case round =>
      obtain ⟨c0, c1, c2, c3⟩ := four hrel.out.1
      have E1 := Seg.hid (EX.out wr (.slice A2 l.segs.length c2') l.segs rfl hrel.out.1 hrel.out.2 SA2.out)
      have H5 := Seg.hid E1.out.1
      have H4 := Seg.hid E1.out.2.1
      go_wp2_with (first | (refine wpList_store_mid rfl 28 _ _ rfl (w.heap.size + 1) 0 (logArr ⟨x, l.next, l.roll, []⟩ (.slice A2 l.segs.length c2')) rfl rfl ?zht infoN (logArr_one _ _ rfl) ?_; case zht => exact H5.out))
      exact bodyPost_ret (v := .tuple #[logVal ⟨x, l.next, l.roll, []⟩ (.slice A2 l.segs.length c2'), .bool true]) (results_row_tmp rfl _ _ (w.heap.size + 1) _ (logArr ⟨x, l.next, l.roll, []⟩ (.slice A2 l.segs.length c2')) _ _ _ rfl rfl H4.out Try.underlying28 rfl infoN) rfl ⟨.slice A2 l.segs.length c2', by rw [HC2.out]; rfl, by rw [HC2.out]; exact E1.out.2.2.2, E1.out.2.2.1⟩
  · obtain ⟨g, o, hA, hg0, hc0⟩ : ∃ g o, A2 = some ⟨g, o, none⟩ ∧ g < w2.heap.size ∧ l.segs.length ≤ c2' := by
      obtain ⟨_, ⟨_, A', c', hsl, hrow⟩, _⟩ := SA2.out
      simp only [Value.slice.injEq] at hsl
      obtain ⟨rfl, _, rfl⟩ := hsl
      obtain ⟨g, o, h1, h2, h3, _⟩ := hrow.resolve_left (by omega)
      exact ⟨g, o, h1, h2, h3⟩
    subst hA
    go_loopw [] (fun wr => ∃ i : Nat, i < l.segs.length ∧ Hid (wr.heap[w2.heap.size]? = some (.cells (logArr ⟨x, l.next, l.roll, []⟩ (.slice (some ⟨g, o + i * 2, none⟩) (l.segs.length - i) (c2' - i))) 28 (0, 0)) ∧ Below w2.heap.size w2 wr ∧ kf (pS x) l.segs = i + kf (pS x) (l.segs.drop i) ∧ w2.heap.size < wr.heap.size)) (fun wr => lenAt wr w2.heap.size)
    case atStart => exact ⟨0, by omega, O2.out, BA2.out, by simp, by rw [hsz]; omega⟩
    case round =>
      obtain ⟨i, hi, HR⟩ := hrel
      obtain ⟨c0, c1, c2, c3⟩ := four HR.out.1
      have z3 := frozen_of_row wr w2.heap.size 3 _ _ HR.out.1
      have SD := Seg.hid (segs_drop SA2.out hi)
      by_cases hi1 : i + 1 < l.segs.length
      · have q1 : (1 : Int) < ((l.segs.length - i : Nat) : Int) := by omega
        have qd : decide ((1 : Int) < ((l.segs.length - i : Nat) : Int)) = true := decide_eq_true q1
        have q0 : (0 : Int) < ((l.segs.length - i : Nat) : Int) := by omega
        have hgw : g < wr.heap.size := by have := HR.out.2.2.2; omega
        obtain ⟨H, ⟨_, A', c', hsl, hrow⟩, hh⟩ := SA2.out
        simp only [Value.slice.injEq] at hsl
        obtain ⟨rfl, _, rfl⟩ := hsl
        obtain ⟨g', o', hA', _, _, hcell, _⟩ := hrow.resolve_left (by omega)
        simp only [Option.some.injEq, Addr.mk.injEq] at hA'
        obtain ⟨rfl, rfl, _⟩ := hA'
        obtain ⟨e0, e1⟩ := Segs.six (fun k hk q hq => by rw [HR.out.2.1.cell (p := ⟨g, o + k * 2 + q, none⟩) hg0]; exact hcell k hk q hq) i hi
        have SAT : Hid (SegAt wr w1.heap.size w2.heap.size (.agg (segArr (l.segs.getD i default) (H i))) (l.segs.getD i default)) := ⟨_, rfl, (hh i hi).below HR.out.2.1⟩
        have LE : Hid (∀ v, SegAt wr w1.heap.size w2.heap.size v (l.segs.getD i default) → Calls Try.prog 28 #[v] wr fun e w' => e = .returned (.int .i64 (sEnd (l.segs.getD i default) - 1)) ∧ Below wr.heap.size wr w') := fun v hv => l3End_some v _ wr _ _ hv (by have := HR.out.2.2.2; omega) (HF.out.1.2 i hi).1 (SN.out i hi1) (SO.out i hi)
        have PS : Hid (pS x (l.segs.getD i default) = decide (x < sEnd (l.segs.getD i default))) := by show _ = _; unfold pS; rw [decide_eq_false (SN.out i hi1), Bool.false_or]
        have KS := Seg.hid (kf_step (p := pS x) hi1)
        obtain ⟨_, ⟨_, Ah, ch, hHj, _⟩, _⟩ := hh i hi
        rw [hHj] at e1 SAT
        clear hcell hrow hh hHj
        generalize l.segs.getD i default = s at *
        go_wp2_with fail
        refine (LE.out _ SAT.out).mono ?_
        rintro e w3 ⟨rfl, b3⟩
        have R3 := Seg.hid ((b3.block w2.heap.size HR.out.2.2.2).trans HR.out.1)
        have BL3 : Hid (Below w2.heap.size w2 w3) := HR.out.2.1.trans (b3.mono (by have := HR.out.2.2.2; omega))
        have s3 := Nat.lt_of_lt_of_le HR.out.2.2.2 b3.size
        have KF := Seg.hid HR.out.2.2.1
        have LN : Hid (lenAt wr w2.heap.size = l.segs.length - i) := by show _ = _; unfold lenAt; rw [c3]
        clear b3 e0 e1 SAT LE c0 c1 c2 c3 z3
        obtain ⟨c0, c1, c2, c3⟩ := four R3.out
        have z3 := frozen_of_row w3 w2.heap.size 3 _ _ R3.out
        by_cases hp : sEnd s - 1 < x
        · have KF2 : Hid (kf (pS x) l.segs = (i + 1) + kf (pS x) (l.segs.drop (i + 1))) := by
            show _ = _
            rw [KF.out, KS.out, if_neg (by rw [PS.out]; simp; omega)]
            omega
          have y1 : (1 : Int) ≤ ((l.segs.length - i : Nat) : Int) := by omega
          have y2 : ((l.segs.length - i : Nat) : Int) ≤ ((c2' - i : Nat) : Int) := by omega
          have y3 : (1 : Int) ≤ ((c2' - i : Nat) : Int) := by omega
          have y4 : ¬ c2' - i = 1 := by omega
          have NR : Hid ((w3.setCell ⟨w2.heap.size, 3, none⟩ (.slice (some ⟨g, o + i * 2 + 2, none⟩) (l.segs.length - i - 1) (c2' - i - 1))).heap[w2.heap.size]? = some (.cells (logArr ⟨x, l.next, l.roll, []⟩ (.slice (some ⟨g, o + (i + 1) * 2, none⟩) (l.segs.length - (i + 1)) (c2' - (i + 1)))) 28 (0, 0))) := by
            have := heap_setCell_same w3 w2.heap.size 3 _ _ (.slice (some ⟨g, o + i * 2 + 2, none⟩) (l.segs.length - i - 1) (c2' - i - 1)) R3.out
            rw [show o + (i + 1) * 2 = o + i * 2 + 2 by omega, show l.segs.length - (i + 1) = l.segs.length - i - 1 by omega, show c2' - (i + 1) = c2' - i - 1 by omega]
            exact this
          have BN : Hid (Below w2.heap.size w2 (w3.setCell ⟨w2.heap.size, 3, none⟩ (.slice (some ⟨g, o + i * 2 + 2, none⟩) (l.segs.length - i - 1) (c2' - i - 1)))) := BL3.out.setCell (p := ⟨w2.heap.size, 3, none⟩) (Nat.le_refl _) _
          have LN2 : Hid (lenAt (w3.setCell ⟨w2.heap.size, 3, none⟩ (.slice (some ⟨g, o + i * 2 + 2, none⟩) (l.segs.length - i - 1) (c2' - i - 1))) w2.heap.size = l.segs.length - (i + 1)) := by
            show _ = _
            unfold lenAt
            rw [cell_of_row _ w2.heap.size 3 _ _ (0, 0) NR.out]
            rfl
          go_wp2_with fail
          go_roundw
          case rel => exact ⟨i + 1, hi1, NR.out, BN.out, KF2.out, by simp; omega⟩
          case measure =>
            rw [LN2.out, LN.out]
            omega
        · have HC2 : Hid (cutF l x = (⟨x, l.next, l.roll, l.segs.drop i⟩, true)) := by have := HC.out; rw [KF.out, KS.out, if_pos (by rw [PS.out]; simp; omega), Nat.add_zero] at this; exact this
          have E1 := Seg.hid (EX.out w3 (.slice (some ⟨g, o + i * 2, none⟩) (l.segs.length - i) (c2' - i)) (l.segs.drop i) rfl R3.out BL3.out SD.out)
          have H5 := Seg.hid E1.out.1
          have H4 := Seg.hid E1.out.2.1
          go_wp2_with (first | (refine wpList_store_mid rfl 28 _ _ rfl (w.heap.size + 1) 0 (logArr ⟨x, l.next, l.roll, []⟩ ((.slice (some ⟨g, o + i * 2, none⟩) (l.segs.length - i) (c2' - i)))) rfl rfl ?zht infoN (logArr_one _ _ rfl) ?_; case zht => exact H5.out))
          exact bodyPost_ret (v := .tuple #[logVal ⟨x, l.next, l.roll, []⟩ ((.slice (some ⟨g, o + i * 2, none⟩) (l.segs.length - i) (c2' - i))), .bool true]) (results_row_tmp rfl _ _ (w.heap.size + 1) _ (logArr ⟨x, l.next, l.roll, []⟩ ((.slice (some ⟨g, o + i * 2, none⟩) (l.segs.length - i) (c2' - i)))) _ _ _ rfl rfl H4.out Try.underlying28 rfl infoN) rfl ⟨(.slice (some ⟨g, o + i * 2, none⟩) (l.segs.length - i) (c2' - i)), by rw [HC2.out]; rfl, by rw [HC2.out]; exact E1.out.2.2.2, E1.out.2.2.1⟩
      · have HC2 : Hid (cutF l x = (⟨x, l.next, l.roll, l.segs.drop i⟩, true)) := by have := HC.out; rw [HR.out.2.2.1, kf_last (by omega), Nat.add_zero] at this; exact this
        have E1 := Seg.hid (EX.out wr (.slice (some ⟨g, o + i * 2, none⟩) (l.segs.length - i) (c2' - i)) (l.segs.drop i) rfl HR.out.1 HR.out.2.1 SD.out)
        have H5 := Seg.hid E1.out.1
        have H4 := Seg.hid E1.out.2.1
        have q0 : ((l.segs.length - i : Nat) : Int) = 1 := by omega
        have q1 : ¬ (1 : Int) < ((l.segs.length - i : Nat) : Int) := by omega
        have q2 : decide ((1 : Int) < ((l.segs.length - i : Nat) : Int)) = false := decide_eq_false q1
        clear q0
        go_wp2_with (first | (refine wpList_store_mid rfl 28 _ _ rfl (w.heap.size + 1) 0 (logArr ⟨x, l.next, l.roll, []⟩ ((.slice (some ⟨g, o + i * 2, none⟩) (l.segs.length - i) (c2' - i)))) rfl rfl ?zht infoN (logArr_one _ _ rfl) ?_; case zht => exact H5.out))
        exact bodyPost_ret (v := .tuple #[logVal ⟨x, l.next, l.roll, []⟩ ((.slice (some ⟨g, o + i * 2, none⟩) (l.segs.length - i) (c2' - i))), .bool true]) (results_row_tmp rfl _ _ (w.heap.size + 1) _ (logArr ⟨x, l.next, l.roll, []⟩ ((.slice (some ⟨g, o + i * 2, none⟩) (l.segs.length - i) (c2' - i)))) _ _ _ rfl rfl H4.out Try.underlying28 rfl infoN) rfl ⟨(.slice (some ⟨g, o + i * 2, none⟩) (l.segs.length - i) (c2' - i)), by rw [HC2.out]; rfl, by rw [HC2.out]; exact E1.out.2.2.2, E1.out.2.2.1⟩
theorem cutFromS_any (v : Value) (l : Lg) (x : Int) (w : World) (lo b : Nat) (hv : LogAt w lo b v l) (hb : b ≤ w.heap.size) (hf : FewL l) (hw : ∀ i, i < l.segs.length → -9223372036854775808 ≤ (l.segs.getD i default).base ∧ (l.segs.getD i default).base ≤ 9223372036854775807) :
    Calls Try.prog 12 #[v, .int .i64 x] w fun e w' => ∃ sv, e = .returned (.tuple #[logVal (cutF l x).1 sv, .bool (cutF l x).2]) ∧ SegsAt w' w.heap.size w'.heap.size sv (cutF l x).1.segs ∧ Below w.heap.size w w' := by
  obtain ⟨sv, rfl, hs⟩ := hv
  obtain ⟨_, ⟨_, A, c, rfl, _⟩, _⟩ := id hs
  exact cutFromS_core l x A c w lo b hb hf hw hs (fun v w lo b h1 h2 => l3Copy_any v l w lo b h1 h2 hf)
end Go.Proofs.Ytlpckaflogikpaa.Ft
