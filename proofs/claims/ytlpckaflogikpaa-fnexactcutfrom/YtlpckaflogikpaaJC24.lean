/- The law's marks on a Log, and its look at them; how many they are; A log cut at the front, on plain data; parts of lists in memory. -/
import Derived.Test.YtlpckaflogikpaaJC23
import Derived.Test.YtlpckaflogikpaaJC19
import Derived.Test.YtlpckaflogikpaaJC13
namespace Go.Proofs.Ytlpckaflogikpaa.Ft
set_option maxRecDepth 8000
open Go.RowKit
open Recs
open SegW
open LogW
open Segs (tot)
set_option linter.unusedVariables false
theorem nL_bound {T : Type} [Inhabited T] (n1 : T → Nat) (M : Nat) : ∀ (ts : List T), (∀ i, i < ts.length → n1 (ts.getD i default) ≤ M) → nL n1 ts ≤ ts.length * M
  | [], _ => by simp [nL]
  | t :: r, h => by
    have h0 := h 0 (by simp)
    have hr := nL_bound n1 M r (fun i hi => by have := h (i + 1) (by simpa using hi); simpa using this)
    simp only [List.getD_cons_zero] at h0
    simp only [nL, List.length_cons, Nat.succ_mul]
    omega
theorem nB_few {b : Bat} (hb : FewB b) : nB1 b ≤ 2199028498438 := by
  have a1 := nL_bound nR1 2097157 b.recs (fun i hi => by
    have := hb.2 i hi
    unfold FewR at this
    show 5 + nL nH1 _ ≤ _
    rw [nH_eq]; omega)
  have := hb.1
  unfold nB1
  have : b.recs.length * 2097157 ≤ 1048576 * 2097157 := Nat.mul_le_mul_right _ this
  omega
theorem nS_tot (ts : List Sg) (h : ∀ i, i < ts.length → FewS (ts.getD i default)) : ∀ k, k ≤ ts.length → nL nS1 (ts.take k) ≤ k + tot ts k * 2199028498438
  | 0, _ => by simp [nL, tot]
  | k + 1, hk => by
    have ih := nS_tot ts h k (by omega)
    have a1 := nL_take nS1 (ts := ts) (j := k) (by omega)
    have a2 := nL_bound nB1 2199028498438 (ts.getD k default).bats (fun i hi => nB_few ((h k (by omega)).2 i hi))
    have a3 : nS1 (ts.getD k default) = 1 + nL nB1 (ts.getD k default).bats := rfl
    have a4 : tot ts (k + 1) = tot ts k + (ts.getD k default).bats.length := rfl
    rw [a4, Nat.add_mul]
    omega
theorem log_few {t : Lg} (h : FewL t) : 1 + nL nS1 t.segs ≤ 4000000000000000000 := by
  have a1 := nS_tot t.segs h.1.2 t.segs.length (Nat.le_refl _)
  rw [List.take_length] at a1
  have a2 := h.1.1
  have a3 : tot t.segs t.segs.length * 2199028498438 ≤ 1048576 * 2199028498438 := Nat.mul_le_mul_right _ h.2
  omega
set_option maxHeartbeats 400000 in
theorem markLog_own (t : Lg) (sv : Value) (k : Nat) (S : Nat → Prop) (w : World) (hk : 0 < k) (hk1 : k + nL nS1 t.segs ≤ 4000000000000000000) (h : OwnS w S sv t.segs) (hS : ∀ x, S x → x < w.heap.size) :
    Calls Try.prog 10 #[logVal t sv, .int .i64 k] w fun e w' => e = .returned (.int .i64 ((k + nL nS1 t.segs : Nat) : Int)) ∧ OwnS w' S sv (mL mS1 nS1 k t.segs) ∧ Foot w w' S := by
  have HW := Seg.hid h
  obtain ⟨A, c, rfl⟩ := LOwn.form h
  clear h
  unfold logVal
  go_enter Try.func10, Try.ntmps10
  go_wp2_with fail
  refine (markSegmentS_own _ k S t.segs (w.alloc _) hk hk1 (LOwn.keep keepsS HW.out (by rw [hsz]; omega) (fun g hg => heap_alloc_old w _ (hS g hg)))).mono ?_
  rintro e w1 ⟨rfl, hR, b1⟩
  have HR1 := Seg.hid hR
  have B1 : Hid (Foot w w1 S) := (Foot.below (Foot.refl w S) (below1 w _)).trans b1 (fun _ hx => hx)
  clear hR b1
  go_wp2
  go_ret
  exact ⟨rfl, HR1.out, B1.out⟩
set_option maxHeartbeats 400000 in
theorem heldLog_own (t : Lg) (sv : Value) (k : Nat) (S : Nat → Prop) (ss : List Sg) (w : World) (hk : 0 < k) (hk1 : k + nL nS1 ss ≤ 4000000000000000000) (h : OwnS w S sv (mL mS1 nS1 k ss)) (hS : ∀ x, S x → x < w.heap.size) :
    Calls Try.prog 11 #[logVal t sv, .int .i64 k] w fun e w' => e = .returned (.int .i64 ((k + nL nS1 ss : Nat) : Int)) ∧ Below w.heap.size w w' := by
  have HW := Seg.hid h
  obtain ⟨A, c, rfl⟩ := LOwn.form h
  rw [mL_len] at HW ⊢
  clear h
  unfold logVal
  go_enter Try.func11, Try.ntmps11
  go_wp2_with fail
  refine (heldSegmentS_own _ k S ss (w.alloc _) hk hk1 (LOwn.keep keepsS HW.out (by rw [hsz]; omega) (fun g hg => heap_alloc_old w _ (hS g hg)))).mono ?_
  rintro e w1 ⟨rfl, b1⟩
  have B1 := Seg.hid (chain (below1 w _) b1)
  clear b1
  have hnn : ¬ ((k + nL nS1 ss : Nat) : Int) < 0 := by omega
  go_wp2
  go_ret
  exact ⟨rfl, B1.out⟩
end Go.Proofs.Ytlpckaflogikpaa.Ft
namespace Go.Proofs.Ytlpckaflogikpaa.Ft
set_option maxRecDepth 8000
open Go.RowKit
open Recs
open Bats SegW Segs LogW SrP
open LgP (logOk inR)
set_option linter.unusedVariables false
def cutF (l : Lg) (x : Int) : Lg × Bool := if (logOk l && inR x l.start l.next) = true then (⟨x, l.next, l.roll, l.segs.drop (kf (pS x) l.segs)⟩, true) else (⟨0, 0, 0, []⟩, false)
theorem row_drop {w : World} {lo b s n c k g o : Nat} {f : Nat → Nat → Value} (h : Row w lo b s (.slice (some ⟨g, o, none⟩) n c) n f) (hk : k < n) : Row w lo b s (.slice (some ⟨g, o + k * s, none⟩) (n - k) (c - k)) (n - k) (fun i j => f (k + i) j) := by
  obtain ⟨h0, A, c', h1, h2⟩ := h
  simp only [Value.slice.injEq] at h1
  obtain ⟨rfl, _, rfl⟩ := h1
  obtain ⟨g', o', h3, h4, h5, h6, h7⟩ := h2.resolve_left (by omega)
  simp only [Option.some.injEq, Addr.mk.injEq] at h3
  obtain ⟨rfl, rfl, _⟩ := h3
  refine ⟨by omega, _, _, rfl, .inr ⟨g, o + k * s, rfl, h4, by omega, fun i hi j hj => ?_, h7⟩⟩
  rw [show o + k * s + i * s + j = o + (k + i) * s + j by rw [Nat.add_mul]; omega]
  exact h6 (k + i) (by omega) j hj
theorem row_take {w : World} {lo b s n c k : Nat} {A : Option Addr} {f : Nat → Nat → Value} (h : Row w lo b s (.slice A n c) n f) (hk : k ≤ n) : Row w lo b s (.slice A k c) k f := by
  obtain ⟨h0, A', c', h1, h2⟩ := h
  simp only [Value.slice.injEq] at h1
  obtain ⟨rfl, _, rfl⟩ := h1
  refine ⟨by omega, _, _, rfl, ?_⟩
  by_cases hz : k = 0
  · exact .inl hz
  obtain ⟨g', o', h3, h4, h5, h6, h7⟩ := h2.resolve_left (by omega)
  exact .inr ⟨g', o', h3, h4, by omega, fun i hi j hj => h6 i (by omega) j hj, h7⟩
theorem getD_drop {T : Type} [Inhabited T] (l : List T) (k i : Nat) : (l.drop k).getD i default = l.getD (k + i) default := by
  rw [List.getD_eq_getElem?_getD, List.getElem?_drop, ← List.getD_eq_getElem?_getD]
theorem getD_take {T : Type} [Inhabited T] (l : List T) (k i : Nat) (h : i < k) : (l.take k).getD i default = l.getD i default := by
  rw [List.getD_eq_getElem?_getD, List.getElem?_take_of_lt h, ← List.getD_eq_getElem?_getD]
theorem segs_drop {w : World} {lo b c k g o : Nat} {ss : List Sg} (h : SegsAt w lo b (.slice (some ⟨g, o, none⟩) ss.length c) ss) (hk : k < ss.length) : SegsAt w lo b (.slice (some ⟨g, o + k * 2, none⟩) (ss.length - k) (c - k)) (ss.drop k) := by
  obtain ⟨H, h1, h2⟩ := h
  refine ⟨fun i => H (k + i), ?_, fun i hi => ?_⟩
  · rw [List.length_drop]
    exact row_eqf (row_drop h1 hk) fun i hi j hj => by simp only [segsCells, getD_drop]
  · rw [getD_drop]
    rw [List.length_drop] at hi
    exact h2 (k + i) (by omega)
theorem segs_nil {w : World} {lo b : Nat} {A : Option Addr} {c : Nat} : SegsAt w lo b (.slice A 0 c) [] := ⟨fun _ => default, ⟨by simp, A, c, rfl, .inl rfl⟩, fun i hi => absurd hi (by simp)⟩
theorem segs_take {w : World} {lo b c k : Nat} {A : Option Addr} {ss : List Sg} (h : SegsAt w lo b (.slice A ss.length c) ss) (hk : k ≤ ss.length) : SegsAt w lo b (.slice A k c) (ss.take k) := by
  obtain ⟨H, h1, h2⟩ := h
  have hl : (ss.take k).length = k := by rw [List.length_take]; omega
  refine ⟨H, ?_, fun i hi => ?_⟩
  · rw [hl]
    exact row_eqf (row_take h1 hk) fun i hi j hj => by simp only [segsCells, getD_take ss k i hi]
  · rw [hl] at hi
    rw [getD_take ss k i hi]
    exact h2 i (by omega)
theorem ok_parts {l : Lg} (h : logOk l = true) : ∃ f, LgP.segs 0 0 l.segs = some f ∧ f ≤ l.next ∧ l.segs.length ≤ 60 ∧ 0 ≤ l.start ∧ l.start ≤ l.next ∧ l.next ≤ 1000000000 := by
  unfold LgP.logOk LgP.bounds LgP.counts LgP.stands at h
  simp only [Bool.and_eq_true, decide_eq_true_eq, inR] at h
  obtain ⟨⟨⟨a1, a2⟩, ⟨a3, a4⟩, a5⟩, ⟨a6, a7⟩, a8⟩ := h
  cases hs : LgP.segs 0 0 l.segs with
  | none => rw [hs] at a8; cases a8
  | some f =>
    rw [hs] at a8
    exact ⟨f, rfl, by simpa using a8, a6, a3, a4, a2⟩
end Go.Proofs.Ytlpckaflogikpaa.Ft
