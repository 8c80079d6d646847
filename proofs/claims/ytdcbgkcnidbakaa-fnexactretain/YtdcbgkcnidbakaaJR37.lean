/- LogOk of the model: at every log; The model's Retain. -/
import Derived.BigQuiet
import Derived.Test.YtdcbgkcnidbakaaJR36
import Derived.Test.YtdcbgkcnidbakaaJR28
import Derived.Test.YtdcbgkcnidbakaaJR32
import Derived.Test.YtdcbgkcnidbakaaJR34
import Derived.Test.YtdcbgkcnidbakaaJR35
namespace Go.Proofs.Ytdcbgkcnidbakaa.LgS
set_option maxRecDepth 8000
open Go.RowKit
open LgP (inR many logOk)
open InB (l1In_b)
open Bats SegW Segs LogW
open Recs (hsz Row below1 below2 BatAt RecsAt batVal Bat chain)
set_option linter.unusedVariables false
set_option maxHeartbeats 800000 in
theorem spec_no (l : Lg) (A : Option Addr) (c : Nat) (w : World) (hn : l.segs.length ≤ 1048576) (h : ahead l = false) :
    Calls Try.prog 12 #[logVal l (.slice A l.segs.length c)] w fun e w' => e = .returned (.bool false) ∧ Below w.heap.size w w' := by
  unfold logVal
  by_cases h0 : l.segs.length ≤ 60
  · cases h1 : inR l.roll 1 20000 with
    | false =>
      have H1 := Seg.hid h1
      clear h h1
      go_enter Try.func12, Try.ntmps12
      go_wp2_with fail
      refine (l1In_b l.roll 1 20000 false H1.out _).mono ?_
      rintro _ _ ⟨rfl, rfl⟩
      go_wp2
      go_ret
      exact ⟨rfl, below1 _ _⟩
    | true =>
      cases h2 : inR l.next 0 1000000000 with
      | false =>
        have H1 := Seg.hid h1
        have H2 := Seg.hid h2
        clear h h1 h2
        go_enter Try.func12, Try.ntmps12
        go_wp2_with fail
        refine (l1In_b l.roll 1 20000 true H1.out _).mono ?_
        rintro _ _ ⟨rfl, rfl⟩
        go_wp2_with fail
        refine (l1In_b l.next 0 1000000000 false H2.out _).mono ?_
        rintro _ _ ⟨rfl, rfl⟩
        go_wp2
        go_ret
        exact ⟨rfl, below1 _ _⟩
      | true =>
        have h3 : inR l.start 0 l.next = false := by
          simp only [ahead, decide_eq_true h0, h1, h2, Bool.true_and] at h
          exact h
        have H1 := Seg.hid h1
        have H2 := Seg.hid h2
        have H3 := Seg.hid h3
        clear h h1 h2 h3
        go_enter Try.func12, Try.ntmps12
        go_wp2_with fail
        refine (l1In_b l.roll 1 20000 true H1.out _).mono ?_
        rintro _ _ ⟨rfl, rfl⟩
        go_wp2_with fail
        refine (l1In_b l.next 0 1000000000 true H2.out _).mono ?_
        rintro _ _ ⟨rfl, rfl⟩
        go_wp2_with fail
        refine (l1In_b l.start 0 l.next false H3.out _).mono ?_
        rintro _ _ ⟨rfl, rfl⟩
        go_wp2
        go_ret
        exact ⟨rfl, below1 _ _⟩
  · clear h
    go_enter Try.func12, Try.ntmps12
    go_wp2
    go_ret
    exact ⟨rfl, below1 _ _⟩
set_option maxHeartbeats 800000 in
theorem spec_zero (l : Lg) (A : Option Addr) (c : Nat) (w : World) (h1 : inR l.roll 1 20000 = true) (h2 : inR l.next 0 1000000000 = true) (h3 : inR l.start 0 l.next = true) :
    Calls Try.prog 12 #[logVal l (.slice A 0 c)] w fun e w' => e = .returned (.bool true) ∧ Below w.heap.size w w' := by
  have hnx : -1 < l.next := by
    simp only [inR, Bool.and_eq_true, decide_eq_true_eq] at h2
    omega
  have H1 := Seg.hid h1
  have H2 := Seg.hid h2
  have H3 := Seg.hid h3
  clear h1 h2 h3
  unfold logVal
  go_enter Try.func12, Try.ntmps12
  go_wp2_with fail
  refine (l1In_b l.roll 1 20000 true H1.out _).mono ?_
  rintro _ _ ⟨rfl, rfl⟩
  go_wp2_with fail
  refine (l1In_b l.next 0 1000000000 true H2.out _).mono ?_
  rintro _ _ ⟨rfl, rfl⟩
  go_wp2_with fail
  refine (l1In_b l.start 0 l.next true H3.out _).mono ?_
  rintro _ _ ⟨rfl, rfl⟩
  go_wp2_with fail
  go_loop [3, 4, 5, 6] (fun bh ep mn i => bh = .int .i64 (-1) ∧ ep = .int .i64 0 ∧ mn = .int .i64 0 ∧ i = .int .i64 0) (fun _ _ _ _ => 0)
  case atStart => exact ⟨rfl, rfl, rfl, rfl⟩
  case round =>
    obtain ⟨rfl, rfl, rfl, rfl⟩ := hrel
    go_wp2
    go_ret
    exact ⟨rfl, below1 _ _⟩
theorem logOk_eq (l : Lg) : logOk l = (ahead l && (LgP.stands l.next (LgP.segs 0 0 l.segs) && decide (many l.segs ≤ 400))) := by
  simp only [logOk, ahead, LgP.bounds, LgP.counts]
  generalize LgP.stands l.next (LgP.segs 0 0 l.segs) = s
  generalize inR l.roll 1 20000 = a
  generalize inR l.next 0 1000000000 = b
  generalize inR l.start 0 l.next = c
  generalize decide (many l.segs ≤ 400) = d
  generalize decide (l.segs.length ≤ 60) = e
  cases s <;> cases a <;> cases b <;> cases c <;> cases d <;> cases e <;> rfl
theorem spec_any (v : Value) (l : Lg) (w : World) (lo b : Nat) (hv : LogAt w lo b v l) (hb : b ≤ w.heap.size) (hf : FewL l) (hw : ∀ i, i < l.segs.length → -9223372036854775808 ≤ (l.segs.getD i default).base ∧ (l.segs.getD i default).base ≤ 9223372036854775807) :
    Calls Try.prog 12 #[v] w fun e w' => e = .returned (.bool (logOk l)) ∧ Below w.heap.size w w' := by
  obtain ⟨rv, rfl, H, ⟨hn, A, c, rfl, h⟩, hh⟩ := hv
  rw [logOk_eq]
  cases ha : ahead l with
  | false => exact spec_no l A c w hf.1.1 ha
  | true =>
  have ha' := ha
  simp only [ahead, Bool.and_eq_true, decide_eq_true_eq] at ha'
  obtain ⟨h0, h1, h2, h3⟩ := ha'
  by_cases hz : l.segs.length = 0
  · have e : (true && (LgP.stands l.next (LgP.segs 0 0 l.segs) && decide (many l.segs ≤ 400))) = true := by
      rw [List.length_eq_zero_iff.1 hz]
      simp only [inR, Bool.and_eq_true, decide_eq_true_eq] at h2
      simp [LgP.segs, LgP.stands, many]
      omega
    rw [e, hz]
    exact spec_zero l A c w h1 h2 h3
  obtain ⟨g, o, rfl, hg, hc, hcell, _⟩ := h.resolve_left hz
  rw [Bool.true_and]
  exact spec_core l g o c H w lo b hb hf hw h0 h1 h2 h3 hc (by omega) hh hcell
end Go.Proofs.Ytdcbgkcnidbakaa.LgS
namespace Go.Proofs.Ytdcbgkcnidbakaa.Ft
set_option maxRecDepth 8000
open Go.RowKit
open Recs
open Bats SegW Segs LogW ReP Zs
open LgP (logOk inR)
open Re (tsz_le)
set_option linter.unusedVariables false
/-- How long the list is that lies in cell 3 of a block. -/
def lenAt (w : World) (q : Nat) : Nat :=
  match w.cell? ⟨q, 3, none⟩ with
  | some (.slice _ n _) => n
  | _ => 0
theorem start_step {l : Lg} {f e f' : Int} (h : LgP.segs f e l.segs = some f') {i : Nat} (hi : i + 1 < l.segs.length) : newStart l (i + 1) = max (newStart l i) (baseAt l.segs (i + 1)) := by
  unfold newStart
  rw [if_neg (by omega)]
  by_cases h0 : i = 0
  · rw [if_pos h0]
  · rw [if_neg h0]
    have := base_up _ _ _ _ h i hi
    omega
theorem all_take {T : Type} [Inhabited T] {p : T → Bool} {l : List T} {k : Nat} (h : k < l.length) : (l.take (k + 1)).all p = ((l.take k).all p && p (l.getD k default)) := by
  rw [Zs.take_one h, List.all_append]
  simp
/-- The Log that is worn down, in its variable's block, i Segments gone. -/
structure RS (w w2 wr : World) (l : Lg) (y x : Int) (g o c i : Nat) : Prop where
  row : wr.heap[w2.heap.size]? = some (.cells (logArr ⟨newStart l i, l.next, l.roll, []⟩ (.slice (some ⟨g, o + i * 2, none⟩) (l.segs.length - i) (c - i))) 28 (0, 0))
  bel : Below w2.heap.size w2 wr
  no : ∀ k, k < i → stay y x l.segs k = false
  size : w2.heap.size < wr.heap.size
theorem RS.later {w w2 wr w' : World} {l : Lg} {y x : Int} {g o c i : Nat} (h : RS w w2 wr l y x g o c i) (b : Below wr.heap.size wr w') : RS w w2 w' l y x g o c i :=
  ⟨(b.block _ h.size).trans h.row, h.bel.trans (b.mono (Nat.le_of_lt h.size)), h.no, Nat.lt_of_lt_of_le h.size b.size⟩
set_option maxHeartbeats 12800000 in
theorem retainS_core (l : Lg) (y x : Int) (A : Option Addr) (c : Nat) (w : World) (lo b : Nat) (hb : b ≤ w.heap.size) (hf : FewL l) (hw : ∀ i, i < l.segs.length → -9223372036854775808 ≤ (l.segs.getD i default).base ∧ (l.segs.getD i default).base ≤ 9223372036854775807) (hs : SegsAt w lo b (.slice A l.segs.length c) l.segs)
    (hcp : ∀ v w lo b, LogAt w lo b v l → b ≤ w.heap.size → Calls Try.prog 13 #[v] w fun e w' => ∃ sv, e = .returned (logVal l sv) ∧ OwnS w' (seg w.heap.size w'.heap.size) sv l.segs ∧ Below w.heap.size w w') :
    Calls Try.prog 5 #[logVal l (.slice A l.segs.length c), .int .i64 y, .int .i64 x] w fun e w' => ∃ sv, e = .returned (.tuple #[logVal (retain l y x).1 sv, .bool (retain l y x).2]) ∧ SegsAt w' w.heap.size w'.heap.size sv (retain l y x).1.segs ∧ Below w.heap.size w w' := by
  have HS := Seg.hid hs
  have HV : Hid (LogAt w lo b (logVal l (.slice A l.segs.length c)) l) := ⟨_, rfl, hs⟩
  have HF := Seg.hid hf; have HWW := Seg.hid hw; have HCP := Seg.hid hcp
  clear hs hf hw hcp
  unfold logVal at HV ⊢
  go_enter Try.func5, Try.ntmps5
  go_wp2_with fail
  refine (LgS.spec_any _ l ((w.alloc _).alloc _) lo b (HV.out.below ((below2 w _ _).mono hb)) (by rw [hsz, hsz]; omega) HF.out HWW.out).mono ?_
  rintro e w1 ⟨rfl, b1⟩
  have B1 := Seg.hid (chain (below2 w _ _) b1)
  have T1 : Hid (w1.heap[w.heap.size]? = some (.cells (logArr l (.slice A l.segs.length c)) 28 (0, 0))) := (b1.block w.heap.size (by rw [hsz, hsz]; omega)).trans (at1 w _ _)
  have T2 : Hid (w1.heap[w.heap.size + 1]? = some (.cells (logArr ⟨0, 0, 0, []⟩ (.slice none 0 0)) 28 (0, 0))) := (b1.block (w.heap.size + 1) (by rw [hsz, hsz]; omega)).trans (at2 w _ _)
  have s1 := b1.size
  rw [hsz, hsz] at s1
  clear b1
  have NO : Hid (∀ w2, Below w1.heap.size w1 w2 → w2.there (w.heap.size + 1) 0 (logArr ⟨0, 0, 0, []⟩ (.slice none 0 0)).size ∧ (w2.setCells (w.heap.size + 1) 0 (logArr ⟨0, 0, 0, []⟩ (.slice none 0 0)).toList).heap[w.heap.size + 1]? = some (.cells (logArr ⟨0, 0, 0, []⟩ (.slice none 0 0)) 28 (0, 0)) ∧ Below w.heap.size w (w2.setCells (w.heap.size + 1) 0 (logArr ⟨0, 0, 0, []⟩ (.slice none 0 0)).toList)) := fun w2 b2 => by
    have T := (b2.block (w.heap.size + 1) (by omega)).trans T2.out
    exact ⟨Cells.there_of T, Cells.whole (vs := logArr ⟨0, 0, 0, []⟩ (.slice none 0 0)) T rfl, Cells.below_setCells (by omega) _ _ _ _ (chain B1.out b2)⟩
  have NO2 : Hid (retain l y x = (⟨0, 0, 0, []⟩, false) → ∃ sv, Ending.returned (.tuple #[.agg #[.int .i64 0, .int .i64 0, .int .i64 0, .slice none 0 0], .bool false]) = Ending.returned (.tuple #[.agg #[.int .i64 (retain l y x).1.start, .int .i64 (retain l y x).1.next, .int .i64 (retain l y x).1.roll, sv], .bool (retain l y x).2]) ∧ SegsAt (w1.setCells (w.heap.size + 1) 0 (logArr ⟨0, 0, 0, []⟩ (.slice none 0 0)).toList) w.heap.size (w1.setCells (w.heap.size + 1) 0 (logArr ⟨0, 0, 0, []⟩ (.slice none 0 0)).toList).heap.size sv (retain l y x).1.segs ∧ Below w.heap.size w (w1.setCells (w.heap.size + 1) 0 (logArr ⟨0, 0, 0, []⟩ (.slice none 0 0)).toList)) := fun h => ⟨.slice none 0 0, by rw [h], by rw [h]; exact segs_nil, (NO.out _ (Below.refl _ _)).2.2⟩
  cases hok : logOk l with
  | false =>
    have HC : Hid (retain l y x = (⟨0, 0, 0, []⟩, false)) := by show _ = _; simp [retain, hok]
    clear hok
    go_wp2_with (first | (refine wpList_store_mid rfl 28 _ _ rfl (w.heap.size + 1) 0 (logArr ⟨0, 0, 0, []⟩ (.slice none 0 0)) rfl rfl (NO.out _ (Below.refl _ _)).1 infoN (logArr_one _ _ rfl) ?_))
    exact bodyPost_ret (v := .tuple #[logVal ⟨0, 0, 0, []⟩ (.slice none 0 0), .bool false]) (results_row_tmp rfl _ _ (w.heap.size + 1) _ _ _ _ _ rfl rfl (NO.out _ (Below.refl _ _)).2.1 Try.underlying28 rfl infoN) rfl (NO2.out HC.out)
  | true =>
  obtain ⟨c0, c1, c2, c3⟩ := four T1.out
  by_cases hy : y < 0
  · have HC : Hid (retain l y x = (⟨0, 0, 0, []⟩, false)) := by show _ = _; simp [retain, hok]; omega
    clear hok
    go_wp2_with (first | (refine wpList_store_mid rfl 28 _ _ rfl (w.heap.size + 1) 0 (logArr ⟨0, 0, 0, []⟩ (.slice none 0 0)) rfl rfl (NO.out _ (Below.refl _ _)).1 infoN (logArr_one _ _ rfl) ?_))
    exact bodyPost_ret (v := .tuple #[logVal ⟨0, 0, 0, []⟩ (.slice none 0 0), .bool false]) (results_row_tmp rfl _ _ (w.heap.size + 1) _ _ _ _ _ rfl rfl (NO.out _ (Below.refl _ _)).2.1 Try.underlying28 rfl infoN) rfl (NO2.out HC.out)
  have HC : Hid (∀ i, gone y x l.segs = i → retain l y x = (⟨newStart l i, l.next, l.roll, l.segs.drop i⟩, true)) := fun i hi => by subst hi; unfold retain; rw [if_pos (by rw [hok, decide_eq_true (show (0 : Int) ≤ y by omega)]; rfl)]
  obtain ⟨f, k1, k2, k3, k4, k5, k6⟩ := ok_parts hok
  have SO := Seg.hid (okAllS k1)
  have TLE := Seg.hid (tsz_le (ss := l.segs) (fun i hi => ⟨(HF.out.1.2 i hi).1, SO.out i hi⟩))
  have SST := Seg.hid (fun i (hi : i + 1 < l.segs.length) => start_step k1 hi)
  clear hok k1 NO NO2
  have hy0 : decide (y < 0) = false := decide_eq_false hy
  go_wp2_with fail
  refine (HCP.out _ w1 lo b (HV.out.below (B1.out.mono hb)) (by omega)).mono ?_
  rintro e w2 ⟨sv, rfl, ow2, b2⟩
  have OW2 := Seg.hid ow2
  obtain ⟨A2, c2', rfl⟩ := LOwn.form ow2
  have B2 := Seg.hid (chain B1.out b2)
  have U2 := Seg.hid ((b2.block (w.heap.size + 1) (by omega)).trans T2.out)
  have s2 := b2.size
  clear ow2 b2 c0 c1 c2 c3
  unfold logVal
  have SA2 : Hid (SegsAt w2 w1.heap.size w2.heap.size (.slice A2 l.segs.length c2') l.segs) := segs_of OW2.out (fun y hy => hy)
  have EX : Hid (∀ (wr : World) (st : Int) (v : Value) (ss : List Sg), v.oneCell' = true → wr.heap[w2.heap.size]? = some (.cells (logArr ⟨st, l.next, l.roll, []⟩ v) 28 (0, 0)) → Below w2.heap.size w2 wr → SegsAt w2 w1.heap.size w2.heap.size v ss → wr.there (w.heap.size + 1) 0 (logArr ⟨st, l.next, l.roll, []⟩ v).size ∧ (wr.setCells (w.heap.size + 1) 0 (logArr ⟨st, l.next, l.roll, []⟩ v).toList).heap[w.heap.size + 1]? = some (.cells (logArr ⟨st, l.next, l.roll, []⟩ v) 28 (0, 0)) ∧ Below w.heap.size w (wr.setCells (w.heap.size + 1) 0 (logArr ⟨st, l.next, l.roll, []⟩ v).toList) ∧ SegsAt (wr.setCells (w.heap.size + 1) 0 (logArr ⟨st, l.next, l.roll, []⟩ v).toList) w.heap.size (wr.setCells (w.heap.size + 1) 0 (logArr ⟨st, l.next, l.roll, []⟩ v).toList).heap.size v ss) := fun wr st v ss h0 h1 h2 h3 => by
    have T := (h2.block (w.heap.size + 1) (by omega)).trans U2.out
    have TH := Cells.there_of T
    have hs2 := h2.size
    refine ⟨TH, Cells.whole (vs := logArr ⟨st, l.next, l.roll, []⟩ v) T rfl, Cells.below_setCells (by omega) _ _ _ _ (chain B2.out h2), ?_⟩
    refine (h3.keep fun g h4 h5 => ?_).mono (by omega) (by rw [Cells.size_setCells]; exact hs2)
    rw [Cells.heap_setCells_other _ _ (by omega), h2.block g h5]
  go_wp2_with fail
  have O2 : Hid ((w2.alloc (.cells (logArr ⟨l.start, l.next, l.roll, []⟩ (.slice A2 l.segs.length c2')) 28 (0, 0))).heap[w2.heap.size]? = some (.cells (logArr ⟨l.start, l.next, l.roll, []⟩ (.slice A2 l.segs.length c2')) 28 (0, 0))) := heap_alloc_new _ _
  have BA2 : Hid (Below w2.heap.size w2 (w2.alloc (.cells (logArr ⟨l.start, l.next, l.roll, []⟩ (.slice A2 l.segs.length c2')) 28 (0, 0)))) := below1 w2 _
  have hl1 := HF.out.1.1
  by_cases hn1 : l.segs.length ≤ 1
  · have HK : Hid (gone y x l.segs = 0) := by
      have := gone_last (bytes := y) (time := x) (ss := l.segs) (i := 0) (by omega)
      rw [List.drop_zero] at this
      exact this
    have HC2 : Hid (retain l y x = (⟨l.start, l.next, l.roll, l.segs⟩, true)) := by have := HC.out 0 HK.out; rw [List.drop_zero] at this; exact this
    have q1 : ¬ (1 : Int) < (l.segs.length : Int) := by omega
    have q2 : decide ((1 : Int) < (l.segs.length : Int)) = false := decide_eq_false q1
    go_loopw [] (fun wr => Hid (wr.heap[w2.heap.size]? = some (.cells (logArr ⟨l.start, l.next, l.roll, []⟩ (.slice A2 l.segs.length c2')) 28 (0, 0)) ∧ Below w2.heap.size w2 wr)) (fun _ => 0)
    case atStart => exact ⟨O2.out, BA2.out⟩
    case round =>
      obtain ⟨c0, c1, c2, c3⟩ := four hrel.out.1
      have E1 := Seg.hid (EX.out wr l.start (.slice A2 l.segs.length c2') l.segs rfl hrel.out.1 hrel.out.2 SA2.out)
      have H5 := Seg.hid E1.out.1
      have H4 := Seg.hid E1.out.2.1
      go_wp2_with (first | (refine wpList_store_mid rfl 28 _ _ rfl (w.heap.size + 1) 0 (logArr ⟨l.start, l.next, l.roll, []⟩ (.slice A2 l.segs.length c2')) rfl rfl ?zht infoN (logArr_one _ _ rfl) ?_; case zht => exact H5.out))
      exact bodyPost_ret (v := .tuple #[logVal ⟨l.start, l.next, l.roll, []⟩ (.slice A2 l.segs.length c2'), .bool true]) (results_row_tmp rfl _ _ (w.heap.size + 1) _ (logArr ⟨l.start, l.next, l.roll, []⟩ (.slice A2 l.segs.length c2')) _ _ _ rfl rfl H4.out Try.underlying28 rfl infoN) rfl ⟨.slice A2 l.segs.length c2', by rw [HC2.out]; rfl, by rw [HC2.out]; exact E1.out.2.2.2, E1.out.2.2.1⟩
  · obtain ⟨g, o, hA, hg0, hc0⟩ : ∃ g o, A2 = some ⟨g, o, none⟩ ∧ g < w2.heap.size ∧ l.segs.length ≤ c2' := by
      obtain ⟨_, ⟨_, A', c', hsl, hrow⟩, _⟩ := SA2.out
      simp only [Value.slice.injEq] at hsl
      obtain ⟨rfl, _, rfl⟩ := hsl
      obtain ⟨g, o, h1, h2, h3, _⟩ := hrow.resolve_left (by omega)
      exact ⟨g, o, h1, h2, h3⟩
    subst hA
    go_loopw [] (fun wr => ∃ i : Nat, i < l.segs.length ∧ Hid (RS w w2 wr l y x g o c2' i)) (fun wr => lenAt wr w2.heap.size)
    case atStart => exact ⟨0, by omega, O2.out, BA2.out, fun k hk => absurd hk (by omega), by rw [hsz]; omega⟩
    case round =>
      obtain ⟨i, hi, HR⟩ := hrel
      obtain ⟨wo, hwo⟩ : ∃ wo, wo = wr := ⟨wr, rfl⟩
      subst hwo
      obtain ⟨c0, c1, c2, c3⟩ := four HR.out.row
      have SD := Seg.hid (segs_drop SA2.out hi)
      by_cases hi1 : i + 1 < l.segs.length
      · have q1 : (1 : Int) < ((l.segs.length - i : Nat) : Int) := by omega
        have qd : decide ((1 : Int) < ((l.segs.length - i : Nat) : Int)) = true := decide_eq_true q1
        obtain ⟨H, ⟨_, A', c', hsl, hrow⟩, hh⟩ := SA2.out
        simp only [Value.slice.injEq] at hsl
        obtain ⟨rfl, _, rfl⟩ := hsl
        obtain ⟨g', o', hA', _, _, hcell, _⟩ := hrow.resolve_left (by omega)
        simp only [Option.some.injEq, Addr.mk.injEq] at hA'
        obtain ⟨rfl, rfl, _⟩ := hA'
        have SIX : Hid (∀ wx, Below w2.heap.size w2 wx → ∀ k, k < l.segs.length → wx.cell? ⟨g, o + k * 2, none⟩ = some (.int .i64 (l.segs.getD k default).base) ∧ wx.cell? ⟨g, o + k * 2 + 1, none⟩ = some (H k)) := fun wx bx k hk => Segs.six (fun i hi q hq => by rw [bx.cell (p := ⟨g, o + i * 2 + q, none⟩) hg0]; exact hcell i hi q hq) k hk
        have BTS : Hid (∀ wx, Below w2.heap.size w2 wx → ∀ k, k < l.segs.length → BatsAt wx w1.heap.size w2.heap.size (H k) (l.segs.getD k default).bats) := fun wx bx k hk => (hh k hk).below bx
        clear hcell hrow hh
        have hso := HR.out.size
        have TB : tsz (l.segs.drop (i + 1)) ≤ 6291456000000 := by
          have a1 := tsz_parts l.segs (i + 1)
          have a2 := TLE.out l.segs.length (Nat.le_refl _)
          rw [List.take_length] at a2
          omega
        go_wp2_with fail
        clear c0 c1 c2 c3
        go_loopw [9, 10] (fun rv iv wk => ∃ (a k : Nat), 1 ≤ k ∧ k ≤ l.segs.length - i ∧ iv = .int .i64 k ∧ rv = .int .i64 a ∧ a ≤ 6291456000000 ∧ Hid (a + tsz (l.segs.drop (i + k)) = tsz (l.segs.drop (i + 1)) ∧ Below wo.heap.size wo wk)) (fun _ iv _ => (l.segs.length - i) - (intOf iv).toNat)
        case atStart => exact ⟨0, 1, Nat.le_refl _, by omega, rfl, rfl, by omega, by simp, Below.refl _ _⟩
        case round =>
          obtain ⟨av, k, hk1, hk, rfl, rfl, hav, HK⟩ := hrel
          have RW9 := Seg.hid (HR.out.later HK.out.2).row
          have BW9 := Seg.hid (HR.out.later HK.out.2).bel
          have hs9 := (HR.out.later HK.out.2).size
          obtain ⟨c0, c1, c2, c3⟩ := four RW9.out
          have hgr : g < wr.heap.size := by omega
          by_cases hkl : k < l.segs.length - i
          · have q2 : (0 : Int) ≤ (k : Int) := by omega
            have q3 : (k : Int) < ((l.segs.length - i : Nat) : Int) := by omega
            have hik : i + k < l.segs.length := by omega
            obtain ⟨e0, e1⟩ := SIX.out wr BW9.out (i + k) hik
            rw [show o + (i + k) * 2 = o + i * 2 + k * 2 by omega] at e0 e1
            have BT := Seg.hid (BTS.out wr BW9.out (i + k) hik)
            have FS := Seg.hid (HF.out.1.2 (i + k) hik)
            have OK := Seg.hid (SO.out (i + k) hik)
            have TD := Seg.hid (tsz_drop hik)
            have EQ := Seg.hid HK.out.1
            have BK := Seg.hid HK.out.2
            obtain ⟨_, ⟨_, Ak, ck, hHk, _⟩, _⟩ := id BT.out
            rw [hHk] at e1 BT
            clear hHk HK
            generalize l.segs.getD (i + k) default = sk at *
            go_wp2_with fail
            refine (Zs.l3Sizes_any _ sk.bats wr _ _ (by omega) FS.out.1 OK.out BT.out).mono ?_
            rintro e w8 ⟨rfl, b8⟩
            have E2 : Hid ((av + sizes sk.bats) + tsz (l.segs.drop (i + (k + 1))) = tsz (l.segs.drop (i + 1))) := by show _ = _; rw [← EQ.out, TD.out]; rw [show i + (k + 1) = i + k + 1 by omega]; omega
            have B8 := Seg.hid (chain BK.out b8)
            have hle : av + sizes sk.bats ≤ 6291456000000 := by have := E2.out; omega
            clear b8 e0 e1 c0 c1 c2 c3
            generalize sizes sk.bats = z at *
            have z1 : (av : Int) + (z : Int) ≤ 6291456000000 := by omega
            go_wp2_with fail
            go_roundw
            case rel => exact ⟨av + z, k + 1, by omega, by omega, by go_num, by rw [Int.natCast_add], hle, E2.out, B8.out⟩
            case measure => simp [intOf]; omega
          · have hkn : k = l.segs.length - i := by omega
            have AE : Hid (av = tsz (l.segs.drop (i + 1))) := by
              show _ = _
              have := HK.out.1
              rw [hkn, show i + (l.segs.length - i) = l.segs.length by omega, List.drop_length] at this
              simpa [tsz] using this
            have BK := Seg.hid HK.out.2
            clear HK
            subst hkn
            obtain ⟨e0, e1⟩ := SIX.out wr BW9.out i hi
            have BT := Seg.hid (BTS.out wo HR.out.bel i hi)
            have FS := Seg.hid (HF.out.1.2 i hi)
            have STY : Hid (∀ q, q = old x (l.segs.getD i default).bats → stay y x l.segs i = (decide ((av : Int) < y) && !q)) := fun q hq => by rw [hq, AE.out]; rfl
            have SIX1 : Hid (∀ wx, Below w2.heap.size w2 wx → wx.cell? ⟨g, o + i * 2 + 1, none⟩ = some (H i)) := fun wx bx => (SIX.out wx bx i hi).2
            obtain ⟨H5, ⟨_, Ak, ck, hHk, hrow5⟩, hh5⟩ := id BT.out
            have HROW5 := Seg.hid hrow5; have HH5 := Seg.hid hh5
            rw [hHk] at e1 SIX1
            have q4 : (0 : Int) < ((l.segs.length - i : Nat) : Int) := by omega
            clear hHk hrow5 hh5
            generalize l.segs.getD i default = si at *
            have hbl := FS.out.1
            go_wp2_with fail
            clear c0 c1 c2 c3 e0 e1
            go_loopw [11, 12] (fun ov iv wk => ∃ (j : Nat) (q : Bool), j ≤ si.bats.length ∧ iv = .int .i64 j ∧ ov = .bool q ∧ Hid (q = (si.bats.take j).all (oldB x) ∧ Below wo.heap.size wo wk)) (fun _ iv _ => si.bats.length - (intOf iv).toNat)
            case atStart => exact ⟨0, true, Nat.zero_le _, rfl, rfl, rfl, BK.out⟩
            case round =>
              clear RW9 BW9 hs9 hgr BK
              obtain ⟨j, q, hj, rfl, rfl, HJ⟩ := hrel
              have RW9 := Seg.hid (HR.out.later HJ.out.2).row
              have BW9 := Seg.hid (HR.out.later HJ.out.2).bel
              have hs9 := (HR.out.later HJ.out.2).size
              obtain ⟨c0, c1, c2, c3⟩ := four RW9.out
              have e1 := SIX1.out wr BW9.out
              have hgr : g < wr.heap.size := by omega
              by_cases hjl : j < si.bats.length
              · have h0j : (0 : Int) ≤ (j : Int) := by omega
                have h1j : (j : Int) < (si.bats.length : Int) := by omega
                obtain ⟨g5, o5, rfl, hg5, hc5, hcell5, _⟩ := HROW5.out.resolve_left (by omega)
                have hg5o : g5 < wo.heap.size := by omega
                obtain ⟨_, _, _, _, _, _, e6⟩ := Bats.six (fun i hi q hq => by rw [HJ.out.2.cell (p := ⟨g5, o5 + i * 7 + q, none⟩) hg5o]; exact hcell5 i hi q hq) j hjl
                have hg5r : g5 < wr.heap.size := by omega
                have NQ : Hid ((si.bats.take (j + 1)).all (oldB x) = (q && oldB x (si.bats.getD j default))) := by show _ = _; rw [all_take hjl, ← HJ.out.1]
                have BJ := Seg.hid HJ.out.2
                obtain ⟨H6, ⟨_, A6, c6, hH6, hrow6⟩, hh6⟩ := HH5.out j hjl
                have HROW6 := Seg.hid hrow6
                have hrl := (FS.out.2 j hjl).1
                rw [hH6] at e6
                clear hcell5 hrow6 hh6 hH6 HJ
                generalize si.bats.getD j default = tj at *
                go_wp2_with fail
                clear c0 c1 c2 c3 e1 e6
                go_loopw [11, 14] (fun ov kv wm => ∃ (k2 : Nat) (q2 : Bool), k2 ≤ tj.recs.length ∧ kv = .int .i64 k2 ∧ ov = .bool q2 ∧ Hid (q2 = (q && (tj.recs.take k2).all (oldR x)) ∧ Below wo.heap.size wo wm)) (fun _ kv _ => tj.recs.length - (intOf kv).toNat)
                case atStart => exact ⟨0, q, Nat.zero_le _, rfl, rfl, by simp, BJ.out⟩
                case round =>
                  clear RW9 BW9 hs9 hgr BJ hg5r
                  obtain ⟨k2, q2, hk2, rfl, rfl, HM⟩ := hrel
                  by_cases hkl2 : k2 < tj.recs.length
                  · have t0 : (0 : Int) ≤ (k2 : Int) := by omega
                    have t1 : (k2 : Int) < (tj.recs.length : Int) := by omega
                    obtain ⟨g6, o6, rfl, hg6, hc6, hcell6, _⟩ := HROW6.out.resolve_left (by omega)
                    have hg6o : g6 < wo.heap.size := by omega
                    obtain ⟨r0, _, _, _, _, _⟩ := RecsW.six (fun i hi q hq => by rw [HM.out.2.cell (p := ⟨g6, o6 + i * 6 + q, none⟩) hg6o]; exact hcell6 i hi q hq) k2 hkl2
                    have hg6r : g6 < wr.heap.size := by have := HM.out.2.size; omega
                    have NM : Hid ((q && (tj.recs.take (k2 + 1)).all (oldR x)) = (q2 && oldR x (tj.recs.getD k2 default))) := by show _ = _; rw [all_take hkl2, HM.out.1, Bool.and_assoc]
                    have BM := Seg.hid HM.out.2
                    clear hcell6 HM
                    generalize tj.recs.getD k2 default = rk at *
                    cases q2 with
                    | false =>
                      have N2 : Hid (false = (q && (tj.recs.take (k2 + 1)).all (oldR x))) := by show _ = _; rw [NM.out]; rfl
                      clear NM
                      go_wp2_with fail
                      go_roundw
                      case rel => exact ⟨k2 + 1, false, by omega, by go_num, rfl, N2.out, BM.out⟩
                      case measure => simp [intOf]; omega
                    | true =>
                      by_cases hB : rk.time < x
                      · have hd : decide (rk.time < x) = true := decide_eq_true hB
                        have N2 : Hid (true = (q && (tj.recs.take (k2 + 1)).all (oldR x))) := by show _ = _; rw [NM.out]; unfold oldR; rw [hd]; rfl
                        clear NM
                        go_wp2_with fail
                        go_roundw
                        case rel => exact ⟨k2 + 1, true, by omega, by go_num, rfl, N2.out, BM.out⟩
                        case measure => simp [intOf]; omega
                      · have hd : decide (rk.time < x) = false := decide_eq_false hB
                        have N2 : Hid (false = (q && (tj.recs.take (k2 + 1)).all (oldR x))) := by show _ = _; rw [NM.out]; unfold oldR; rw [hd]; rfl
                        clear NM
                        go_wp2_with fail
                        go_roundw
                        case rel => exact ⟨k2 + 1, false, by omega, by go_num, rfl, N2.out, BM.out⟩
                        case measure => simp [intOf]; omega
                  · have N3 : Hid (q2 = (si.bats.take (j + 1)).all (oldB x)) := by show _ = _; rw [NQ.out, HM.out.1, List.take_of_length_le (by omega)]; rfl
                    have BM := Seg.hid HM.out.2
                    have t1 : ¬ (k2 : Int) < (tj.recs.length : Int) := by omega
                    clear HM
                    go_wp2_with fail
                    go_roundw
                    case rel => exact ⟨j + 1, q2, by omega, by go_num, rfl, N3.out, BM.out⟩
                    case measure => simp [intOf]; omega
              · have QE : Hid (q = old x si.bats) := by show _ = _; rw [HJ.out.1, List.take_of_length_le (by omega)]; rfl
                have q5 : ¬ (j : Int) < (si.bats.length : Int) := by omega
                have q6 : decide ((j : Int) < (si.bats.length : Int)) = false := decide_eq_false q5
                have SQ := Seg.hid (STY.out q QE.out)
                clear HJ QE
                by_cases ha : (av : Int) < y
                · have had : decide ((av : Int) < y) = true := decide_eq_true ha
                  cases q with
                  | false =>
                    have HC2 : Hid (retain l y x = (⟨newStart l i, l.next, l.roll, l.segs.drop i⟩, true)) := HC.out i (gone_found hi1 HR.out.no (by rw [SQ.out, had]; rfl))
                    have E1 := Seg.hid (EX.out wr (newStart l i) (.slice (some ⟨g, o + i * 2, none⟩) (l.segs.length - i) (c2' - i)) (l.segs.drop i) rfl RW9.out BW9.out SD.out)
                    have H5' := Seg.hid E1.out.1
                    have H4 := Seg.hid E1.out.2.1
                    go_wp2_with (first | (refine wpList_store_mid rfl 28 _ _ rfl (w.heap.size + 1) 0 (logArr ⟨newStart l i, l.next, l.roll, []⟩ (.slice (some ⟨g, o + i * 2, none⟩) (l.segs.length - i) (c2' - i))) rfl rfl ?zht infoN (logArr_one _ _ rfl) ?_; case zht => exact H5'.out))
                    exact bodyPost_ret (v := .tuple #[logVal ⟨newStart l i, l.next, l.roll, []⟩ (.slice (some ⟨g, o + i * 2, none⟩) (l.segs.length - i) (c2' - i)), .bool true]) (results_row_tmp rfl _ _ (w.heap.size + 1) _ (logArr ⟨newStart l i, l.next, l.roll, []⟩ (.slice (some ⟨g, o + i * 2, none⟩) (l.segs.length - i) (c2' - i))) _ _ _ rfl rfl H4.out Try.underlying28 rfl infoN) rfl ⟨.slice (some ⟨g, o + i * 2, none⟩) (l.segs.length - i) (c2' - i), by rw [HC2.out]; rfl, by rw [HC2.out]; exact E1.out.2.2.2, E1.out.2.2.1⟩
                  | true =>
                    have NST : Hid (stay y x l.segs i = false) := by show _ = _; rw [SQ.out]; simp
                    have NK : Hid (∀ k, k < i + 1 → stay y x l.segs k = false) := fun k hk => by
                      by_cases e : k = i
                      · rw [e]; exact NST.out
                      · exact HR.out.no k (by omega)
                    obtain ⟨c0, c1, c2, c3⟩ := four RW9.out
                    have z0 := frozen_of_row wr w2.heap.size 0 _ _ RW9.out
                    have z3 := frozen_of_row wr w2.heap.size 3 _ _ RW9.out
                    have nb := (SIX.out wr BW9.out (i + 1) hi1).1
                    rw [show o + (i + 1) * 2 = o + i * 2 + 2 by omega] at nb
                    have W3 : Hid ((wr.setCell ⟨w2.heap.size, 3, none⟩ (.slice (some ⟨g, o + i * 2 + 2, none⟩) (l.segs.length - i - 1) (c2' - i - 1))).heap[w2.heap.size]? = some (.cells (logArr ⟨newStart l i, l.next, l.roll, []⟩ (.slice (some ⟨g, o + i * 2 + 2, none⟩) (l.segs.length - i - 1) (c2' - i - 1))) 28 (0, 0))) := heap_setCell_same wr w2.heap.size 3 _ _ _ RW9.out
                    have B3 : Hid (Below w2.heap.size w2 (wr.setCell ⟨w2.heap.size, 3, none⟩ (.slice (some ⟨g, o + i * 2 + 2, none⟩) (l.segs.length - i - 1) (c2' - i - 1)))) := BW9.out.setCell (p := ⟨w2.heap.size, 3, none⟩) (Nat.le_refl _) _
                    have s3 : w2.heap.size < (wr.setCell ⟨w2.heap.size, 3, none⟩ (.slice (some ⟨g, o + i * 2 + 2, none⟩) (l.segs.length - i - 1) (c2' - i - 1))).heap.size := by rw [World.size_setCell]; omega
                    have hgr : g < wr.heap.size := by omega
                    have y1 : (1 : Int) ≤ ((l.segs.length - i : Nat) : Int) := by omega
                    have y2 : ((l.segs.length - i : Nat) : Int) ≤ ((c2' - i : Nat) : Int) := by omega
                    have y3 : (1 : Int) ≤ ((c2' - i : Nat) : Int) := by omega
                    have y4 : ¬ c2' - i = 1 := by omega
                    have y5 : (0 : Int) < ((l.segs.length - i - 1 : Nat) : Int) := by omega
                    have LN : Hid (lenAt wo w2.heap.size = l.segs.length - i) := by show _ = _; unfold lenAt; rw [(four HR.out.row).2.2.2]
                    clear SQ
                    go_upto_region 21 with fail
                    obtain ⟨wz, hwz⟩ : ∃ wz, wr.setCell ⟨w2.heap.size, 3, none⟩ (.slice (some ⟨g, o + i * 2 + 2, none⟩) (l.segs.length - i - 1) (c2' - i - 1)) = wz := ⟨_, rfl⟩
                    have nb3 : wz.cell? ⟨g, o + i * 2 + 2, none⟩ = some (.int .i64 (l.segs.getD (i + 1) default).base) := by
                      rw [← hwz, World.cell?_setCell_other _ _ _ _ (fun e => by simp only [Addr.mk.injEq] at e; omega)]
                      exact nb
                    rw [hwz] at W3 B3 s3 ⊢
                    have SS := Seg.hid (SST.out i hi1)
                    have BAS : Hid (baseAt l.segs (i + 1) = (l.segs.getD (i + 1) default).base) := rfl
                    clear c0 c1 c2 c3 z0 z3 nb hwz
                    obtain ⟨c0, c1, c2, c3⟩ := four W3.out
                    have z0 := frozen_of_row wz w2.heap.size 0 _ _ W3.out
                    have hgz : g < wz.heap.size := by omega
                    generalize (l.segs.getD (i + 1) default).base = nbase at *
                    generalize newStart l i = st at *
                    by_cases hst : st < nbase
                    · have hsd : decide (st < nbase) = true := decide_eq_true hst
                      have NR : Hid ((wz.setCell ⟨w2.heap.size, 0, none⟩ (.int .i64 nbase)).heap[w2.heap.size]? = some (.cells (logArr ⟨newStart l (i + 1), l.next, l.roll, []⟩ (.slice (some ⟨g, o + (i + 1) * 2, none⟩) (l.segs.length - (i + 1)) (c2' - (i + 1)))) 28 (0, 0))) := by
                        have := heap_setCell_same wz w2.heap.size 0 _ _ (.int .i64 nbase) W3.out
                        rw [SS.out, BAS.out, show max st nbase = nbase by omega, show o + (i + 1) * 2 = o + i * 2 + 2 by omega, show l.segs.length - (i + 1) = l.segs.length - i - 1 by omega, show c2' - (i + 1) = c2' - i - 1 by omega]
                        exact this
                      have BN : Hid (Below w2.heap.size w2 (wz.setCell ⟨w2.heap.size, 0, none⟩ (.int .i64 nbase))) := B3.out.setCell (p := ⟨w2.heap.size, 0, none⟩) (Nat.le_refl _) _
                      have LN2 : Hid (lenAt (wz.setCell ⟨w2.heap.size, 0, none⟩ (.int .i64 nbase)) w2.heap.size = l.segs.length - (i + 1)) := by
                        show _ = _
                        unfold lenAt
                        rw [(four NR.out).2.2.2]
                      go_quiet (fail)
                      go_wp2_with fail
                      go_roundw
                      case rel => exact ⟨i + 1, hi1, NR.out, ⟨BN.out.os, BN.out.tape, BN.out.output, BN.out.size, BN.out.block⟩, NK.out, by simp; omega⟩
                      case measure =>
                        rw [LN.out]
                        refine Nat.lt_of_le_of_lt (Nat.le_of_eq LN2.out) ?_
                        omega
                    · have hsd : decide (st < nbase) = false := decide_eq_false hst
                      have NR : Hid (wz.heap[w2.heap.size]? = some (.cells (logArr ⟨newStart l (i + 1), l.next, l.roll, []⟩ (.slice (some ⟨g, o + (i + 1) * 2, none⟩) (l.segs.length - (i + 1)) (c2' - (i + 1)))) 28 (0, 0))) := by
                        rw [SS.out, BAS.out, show max st nbase = st by omega, show o + (i + 1) * 2 = o + i * 2 + 2 by omega, show l.segs.length - (i + 1) = l.segs.length - i - 1 by omega, show c2' - (i + 1) = c2' - i - 1 by omega]
                        exact W3.out
                      have LN2 : Hid (lenAt wz w2.heap.size = l.segs.length - (i + 1)) := by
                        show _ = _
                        unfold lenAt
                        rw [(four NR.out).2.2.2]
                      go_quiet (fail)
                      go_wp2_with fail
                      go_roundw
                      case rel => exact ⟨i + 1, hi1, NR.out, ⟨B3.out.os, B3.out.tape, B3.out.output, B3.out.size, B3.out.block⟩, NK.out, s3⟩
                      case measure =>
                        rw [LN.out]
                        refine Nat.lt_of_le_of_lt (Nat.le_of_eq LN2.out) ?_
                        omega

                · have had : decide ((av : Int) < y) = false := decide_eq_false ha
                  have NST : Hid (stay y x l.segs i = false) := by show _ = _; rw [SQ.out, had]; rfl
                  have NK : Hid (∀ k, k < i + 1 → stay y x l.segs k = false) := fun k hk => by
                    by_cases e : k = i
                    · rw [e]; exact NST.out
                    · exact HR.out.no k (by omega)
                  obtain ⟨c0, c1, c2, c3⟩ := four RW9.out
                  have z0 := frozen_of_row wr w2.heap.size 0 _ _ RW9.out
                  have z3 := frozen_of_row wr w2.heap.size 3 _ _ RW9.out
                  have nb := (SIX.out wr BW9.out (i + 1) hi1).1
                  rw [show o + (i + 1) * 2 = o + i * 2 + 2 by omega] at nb
                  have W3 : Hid ((wr.setCell ⟨w2.heap.size, 3, none⟩ (.slice (some ⟨g, o + i * 2 + 2, none⟩) (l.segs.length - i - 1) (c2' - i - 1))).heap[w2.heap.size]? = some (.cells (logArr ⟨newStart l i, l.next, l.roll, []⟩ (.slice (some ⟨g, o + i * 2 + 2, none⟩) (l.segs.length - i - 1) (c2' - i - 1))) 28 (0, 0))) := heap_setCell_same wr w2.heap.size 3 _ _ _ RW9.out
                  have B3 : Hid (Below w2.heap.size w2 (wr.setCell ⟨w2.heap.size, 3, none⟩ (.slice (some ⟨g, o + i * 2 + 2, none⟩) (l.segs.length - i - 1) (c2' - i - 1)))) := BW9.out.setCell (p := ⟨w2.heap.size, 3, none⟩) (Nat.le_refl _) _
                  have s3 : w2.heap.size < (wr.setCell ⟨w2.heap.size, 3, none⟩ (.slice (some ⟨g, o + i * 2 + 2, none⟩) (l.segs.length - i - 1) (c2' - i - 1))).heap.size := by rw [World.size_setCell]; omega
                  have hgr : g < wr.heap.size := by omega
                  have y1 : (1 : Int) ≤ ((l.segs.length - i : Nat) : Int) := by omega
                  have y2 : ((l.segs.length - i : Nat) : Int) ≤ ((c2' - i : Nat) : Int) := by omega
                  have y3 : (1 : Int) ≤ ((c2' - i : Nat) : Int) := by omega
                  have y4 : ¬ c2' - i = 1 := by omega
                  have y5 : (0 : Int) < ((l.segs.length - i - 1 : Nat) : Int) := by omega
                  have LN : Hid (lenAt wo w2.heap.size = l.segs.length - i) := by show _ = _; unfold lenAt; rw [(four HR.out.row).2.2.2]
                  clear SQ
                  go_upto_region 21 with fail
                  obtain ⟨wz, hwz⟩ : ∃ wz, wr.setCell ⟨w2.heap.size, 3, none⟩ (.slice (some ⟨g, o + i * 2 + 2, none⟩) (l.segs.length - i - 1) (c2' - i - 1)) = wz := ⟨_, rfl⟩
                  have nb3 : wz.cell? ⟨g, o + i * 2 + 2, none⟩ = some (.int .i64 (l.segs.getD (i + 1) default).base) := by
                    rw [← hwz, World.cell?_setCell_other _ _ _ _ (fun e => by simp only [Addr.mk.injEq] at e; omega)]
                    exact nb
                  rw [hwz] at W3 B3 s3 ⊢
                  have SS := Seg.hid (SST.out i hi1)
                  have BAS : Hid (baseAt l.segs (i + 1) = (l.segs.getD (i + 1) default).base) := rfl
                  clear c0 c1 c2 c3 z0 z3 nb hwz
                  obtain ⟨c0, c1, c2, c3⟩ := four W3.out
                  have z0 := frozen_of_row wz w2.heap.size 0 _ _ W3.out
                  have hgz : g < wz.heap.size := by omega
                  generalize (l.segs.getD (i + 1) default).base = nbase at *
                  generalize newStart l i = st at *
                  by_cases hst : st < nbase
                  · have hsd : decide (st < nbase) = true := decide_eq_true hst
                    have NR : Hid ((wz.setCell ⟨w2.heap.size, 0, none⟩ (.int .i64 nbase)).heap[w2.heap.size]? = some (.cells (logArr ⟨newStart l (i + 1), l.next, l.roll, []⟩ (.slice (some ⟨g, o + (i + 1) * 2, none⟩) (l.segs.length - (i + 1)) (c2' - (i + 1)))) 28 (0, 0))) := by
                      have := heap_setCell_same wz w2.heap.size 0 _ _ (.int .i64 nbase) W3.out
                      rw [SS.out, BAS.out, show max st nbase = nbase by omega, show o + (i + 1) * 2 = o + i * 2 + 2 by omega, show l.segs.length - (i + 1) = l.segs.length - i - 1 by omega, show c2' - (i + 1) = c2' - i - 1 by omega]
                      exact this
                    have BN : Hid (Below w2.heap.size w2 (wz.setCell ⟨w2.heap.size, 0, none⟩ (.int .i64 nbase))) := B3.out.setCell (p := ⟨w2.heap.size, 0, none⟩) (Nat.le_refl _) _
                    have LN2 : Hid (lenAt (wz.setCell ⟨w2.heap.size, 0, none⟩ (.int .i64 nbase)) w2.heap.size = l.segs.length - (i + 1)) := by
                      show _ = _
                      unfold lenAt
                      rw [(four NR.out).2.2.2]
                    go_quiet (fail)
                    go_wp2_with fail
                    go_roundw
                    case rel => exact ⟨i + 1, hi1, NR.out, ⟨BN.out.os, BN.out.tape, BN.out.output, BN.out.size, BN.out.block⟩, NK.out, by simp; omega⟩
                    case measure =>
                      rw [LN.out]
                      refine Nat.lt_of_le_of_lt (Nat.le_of_eq LN2.out) ?_
                      omega
                  · have hsd : decide (st < nbase) = false := decide_eq_false hst
                    have NR : Hid (wz.heap[w2.heap.size]? = some (.cells (logArr ⟨newStart l (i + 1), l.next, l.roll, []⟩ (.slice (some ⟨g, o + (i + 1) * 2, none⟩) (l.segs.length - (i + 1)) (c2' - (i + 1)))) 28 (0, 0))) := by
                      rw [SS.out, BAS.out, show max st nbase = st by omega, show o + (i + 1) * 2 = o + i * 2 + 2 by omega, show l.segs.length - (i + 1) = l.segs.length - i - 1 by omega, show c2' - (i + 1) = c2' - i - 1 by omega]
                      exact W3.out
                    have LN2 : Hid (lenAt wz w2.heap.size = l.segs.length - (i + 1)) := by
                      show _ = _
                      unfold lenAt
                      rw [(four NR.out).2.2.2]
                    go_quiet (fail)
                    go_wp2_with fail
                    go_roundw
                    case rel => exact ⟨i + 1, hi1, NR.out, ⟨B3.out.os, B3.out.tape, B3.out.output, B3.out.size, B3.out.block⟩, NK.out, s3⟩
                    case measure =>
                      rw [LN.out]
                      refine Nat.lt_of_le_of_lt (Nat.le_of_eq LN2.out) ?_
                      omega

      · have HC2 : Hid (retain l y x = (⟨newStart l i, l.next, l.roll, l.segs.drop i⟩, true)) := HC.out i (by rw [gone_walk i (.inl hi) HR.out.no, gone_last (by omega)]; omega)
        have E1 := Seg.hid (EX.out wo (newStart l i) (.slice (some ⟨g, o + i * 2, none⟩) (l.segs.length - i) (c2' - i)) (l.segs.drop i) rfl HR.out.row HR.out.bel SD.out)
        have H5 := Seg.hid E1.out.1
        have H4 := Seg.hid E1.out.2.1
        have q1 : ¬ (1 : Int) < ((l.segs.length - i : Nat) : Int) := by omega
        have q2 : decide ((1 : Int) < ((l.segs.length - i : Nat) : Int)) = false := decide_eq_false q1
        go_wp2_with (first | (refine wpList_store_mid rfl 28 _ _ rfl (w.heap.size + 1) 0 (logArr ⟨newStart l i, l.next, l.roll, []⟩ (.slice (some ⟨g, o + i * 2, none⟩) (l.segs.length - i) (c2' - i))) rfl rfl ?zht infoN (logArr_one _ _ rfl) ?_; case zht => exact H5.out))
        exact bodyPost_ret (v := .tuple #[logVal ⟨newStart l i, l.next, l.roll, []⟩ (.slice (some ⟨g, o + i * 2, none⟩) (l.segs.length - i) (c2' - i)), .bool true]) (results_row_tmp rfl _ _ (w.heap.size + 1) _ (logArr ⟨newStart l i, l.next, l.roll, []⟩ (.slice (some ⟨g, o + i * 2, none⟩) (l.segs.length - i) (c2' - i))) _ _ _ rfl rfl H4.out Try.underlying28 rfl infoN) rfl ⟨.slice (some ⟨g, o + i * 2, none⟩) (l.segs.length - i) (c2' - i), by rw [HC2.out]; rfl, by rw [HC2.out]; exact E1.out.2.2.2, E1.out.2.2.1⟩
theorem retainS_any (v : Value) (l : Lg) (y x : Int) (w : World) (lo b : Nat) (hv : LogAt w lo b v l) (hb : b ≤ w.heap.size) (hf : FewL l) (hw : ∀ i, i < l.segs.length → -9223372036854775808 ≤ (l.segs.getD i default).base ∧ (l.segs.getD i default).base ≤ 9223372036854775807)
    (hcp : ∀ v w lo b, LogAt w lo b v l → b ≤ w.heap.size → Calls Try.prog 13 #[v] w fun e w' => ∃ sv, e = .returned (logVal l sv) ∧ OwnS w' (seg w.heap.size w'.heap.size) sv l.segs ∧ Below w.heap.size w w') :
    Calls Try.prog 5 #[v, .int .i64 y, .int .i64 x] w fun e w' => ∃ sv, e = .returned (.tuple #[logVal (retain l y x).1 sv, .bool (retain l y x).2]) ∧ SegsAt w' w.heap.size w'.heap.size sv (retain l y x).1.segs ∧ Below w.heap.size w w' := by
  obtain ⟨sv, rfl, hs⟩ := hv
  obtain ⟨_, ⟨_, A, c, rfl, _⟩, _⟩ := id hs
  exact retainS_core l y x A c w lo b hb hf hw hs hcp
end Go.Proofs.Ytdcbgkcnidbakaa.Ft
