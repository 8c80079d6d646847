/- Parts of lists in memory; the parts of a right log; A number that lies between two: the model's asker and the program's; The program's askers of a log's numbers. -/
import Derived.WalkLawsBesides
import Derived.WalkSmall
import Derived.RegionTactic
import Derived.Maps.AppendAt
import Derived.Laws.Rows
import Derived.Deep.RegionWith
import Derived.Outline
import Derived.Test.YtfekhpegfbjleaaRows
import Derived.Test.YtfekhpegfbjleaaJJ10
import Derived.Test.YtfekhpegfbjleaaJJ27
import Derived.Test.YtfekhpegfbjleaaJJ01
namespace Go.Proofs.Ytfekhpegfbjleaa.Ft
set_option maxRecDepth 8000
open Go.RowKit
open Recs
open Bats SegW Segs LogW
open LgP (logOk inR)
set_option linter.unusedVariables false
theorem row_drop {w : World} {lo b s n c k g o : Nat} {f : Nat → Nat → Value} (h : Row w lo b s (.slice (some ⟨g, o, none⟩) n c) n f) (hk : k < n) : Row w lo b s (.slice (some ⟨g, o + k * s, none⟩) (n - k) (c - k)) (n - k) (fun i j => f (k + i) j) := by
  obtain ⟨h0, A, c', h1, h2⟩ := h
  simp only [Value.slice.injEq] at h1
  obtain ⟨rfl, _, rfl⟩ := h1
  obtain ⟨g', o', h3, h4, h5, h6, h7⟩ := h2.resolve_left (by omega)
  simp only [Option.some.injEq, Addr.mk.injEq] at h3
  obtain ⟨rfl, rfl, _⟩ := h3
  refine ⟨by omega, _, _, rfl, .inr ⟨g, o + k * s, rfl, h4, by omega, fun i hi j hj => ?_, h7⟩⟩
  rw [show o + k * s + i * s + j = o + (k + i) * s + j by rw [Nat.add_mul]; omega]
  exact h6 (k + i) (by omega) j hj
theorem row_take {w : World} {lo b s n c k : Nat} {A : Option Addr} {f : Nat → Nat → Value} (h : Row w lo b s (.slice A n c) n f) (hk : k ≤ n) : Row w lo b s (.slice A k c) k f := by
  obtain ⟨h0, A', c', h1, h2⟩ := h
  simp only [Value.slice.injEq] at h1
  obtain ⟨rfl, _, rfl⟩ := h1
  refine ⟨by omega, _, _, rfl, ?_⟩
  by_cases hz : k = 0
  · exact .inl hz
  obtain ⟨g', o', h3, h4, h5, h6, h7⟩ := h2.resolve_left (by omega)
  exact .inr ⟨g', o', h3, h4, by omega, fun i hi j hj => h6 i (by omega) j hj, h7⟩
theorem getD_drop {T : Type} [Inhabited T] (l : List T) (k i : Nat) : (l.drop k).getD i default = l.getD (k + i) default := by
  rw [List.getD_eq_getElem?_getD, List.getElem?_drop, ← List.getD_eq_getElem?_getD]
theorem getD_take {T : Type} [Inhabited T] (l : List T) (k i : Nat) (h : i < k) : (l.take k).getD i default = l.getD i default := by
  rw [List.getD_eq_getElem?_getD, List.getElem?_take_of_lt h, ← List.getD_eq_getElem?_getD]
theorem segs_drop {w : World} {lo b c k g o : Nat} {ss : List Sg} (h : SegsAt w lo b (.slice (some ⟨g, o, none⟩) ss.length c) ss) (hk : k < ss.length) : SegsAt w lo b (.slice (some ⟨g, o + k * 2, none⟩) (ss.length - k) (c - k)) (ss.drop k) := by
  obtain ⟨H, h1, h2⟩ := h
  refine ⟨fun i => H (k + i), ?_, fun i hi => ?_⟩
  · rw [List.length_drop]
    exact row_eqf (row_drop h1 hk) fun i hi j hj => by simp only [segsCells, getD_drop]
  · rw [getD_drop]
    rw [List.length_drop] at hi
    exact h2 (k + i) (by omega)
theorem segs_nil {w : World} {lo b : Nat} {A : Option Addr} {c : Nat} : SegsAt w lo b (.slice A 0 c) [] := ⟨fun _ => default, ⟨by simp, A, c, rfl, .inl rfl⟩, fun i hi => absurd hi (by simp)⟩
theorem segs_take {w : World} {lo b c k : Nat} {A : Option Addr} {ss : List Sg} (h : SegsAt w lo b (.slice A ss.length c) ss) (hk : k ≤ ss.length) : SegsAt w lo b (.slice A k c) (ss.take k) := by
  obtain ⟨H, h1, h2⟩ := h
  have hl : (ss.take k).length = k := by rw [List.length_take]; omega
  refine ⟨H, ?_, fun i hi => ?_⟩
  · rw [hl]
    exact row_eqf (row_take h1 hk) fun i hi j hj => by simp only [segsCells, getD_take ss k i hi]
  · rw [hl] at hi
    rw [getD_take ss k i hi]
    exact h2 i (by omega)
theorem ok_parts {l : Lg} (h : logOk l = true) : ∃ f, LgP.segs 0 0 l.segs = some f ∧ f ≤ l.next ∧ l.segs.length ≤ 60 ∧ 0 ≤ l.start ∧ l.start ≤ l.next ∧ l.next ≤ 1000000000 := by
  unfold LgP.logOk LgP.bounds LgP.counts LgP.stands at h
  simp only [Bool.and_eq_true, decide_eq_true_eq, inR] at h
  obtain ⟨⟨⟨a1, a2⟩, ⟨a3, a4⟩, a5⟩, ⟨a6, a7⟩, a8⟩ := h
  cases hs : LgP.segs 0 0 l.segs with
  | none => rw [hs] at a8; cases a8
  | some f =>
    rw [hs] at a8
    exact ⟨f, rfl, by simpa using a8, a6, a3, a4, a2⟩
theorem addOff (g o k : Nat) : (⟨g, o, none⟩ : Addr).add k = ⟨g, o + k, none⟩ := by unfold Addr.add; split <;> simp_all
theorem okAllB : ∀ (l : List Bat) (f e f' e' : Int), LgP.bats f e l = some (f', e') → ∀ i, i < l.length → BOk.batOk (l.getD i default) = true
  | [], _, _, _, _, _, i, hi => by simp at hi
  | b :: t, f, e, f', e', h, i, hi => by
    unfold LgP.bats at h
    split at h
    · rename_i hc
      match i with
      | 0 => exact hc.1
      | i + 1 =>
        rw [List.getD_cons_succ]
        exact okAllB t _ _ _ _ h i (by simpa using hi)
    · cases h
theorem okAllS' : ∀ (ss : List Sg) (f e f' : Int), LgP.segs f e ss = some f' → ∀ i, i < ss.length → ∀ k, k < (ss.getD i default).bats.length → BOk.batOk ((ss.getD i default).bats.getD k default) = true
  | [], _, _, _, _, i, hi, _, _ => by simp at hi
  | s :: t, f, e, f', h, i, hi, k, hk => by
    unfold LgP.segs at h
    split at h
    · cases hb : LgP.bats s.base e s.bats with
      | none => rw [hb] at h; cases h
      | some p =>
        rw [hb] at h
        match i with
        | 0 => exact okAllB _ _ _ p.1 p.2 hb k (by simpa using hk)
        | i + 1 =>
          rw [List.getD_cons_succ] at hk ⊢
          exact okAllS' t _ _ _ h i (by simpa using hi) k hk
    · cases h
theorem okAllS {ss : List Sg} {f : Int} (h : LgP.segs 0 0 ss = some f) : ∀ i, i < ss.length → ∀ k, k < (ss.getD i default).bats.length → BOk.batOk ((ss.getD i default).bats.getD k default) = true := okAllS' ss 0 0 f h
end Go.Proofs.Ytfekhpegfbjleaa.Ft
namespace Go.Proofs.Ytfekhpegfbjleaa.InB
set_option maxRecDepth 8000
open Go.RowKit
set_option linter.unusedVariables false
theorem l1In_any (x lo hi : Int) (w : World) : Calls Try.prog 23 #[.int .i64 x, .int .i64 lo, .int .i64 hi] w fun e w' => e = .returned (.bool (decide (lo ≤ x) && decide (x ≤ hi))) ∧ w = w' := by
  go_enter Try.func23, Try.ntmps23
  go_wp2
  all_goals
    go_ret
    exact ⟨Seg.ret_bool (by rw [Bool.eq_iff_iff]; simp; try omega), rfl⟩
theorem within_any (x lo hi : Int) (w : World) : Calls Try.prog 43 #[.int .i64 x, .int .i64 lo, .int .i64 hi] w fun e w' => e = .returned (.bool (decide (lo ≤ x) && decide (x ≤ hi))) ∧ w = w' := by
  go_enter Try.func43, Try.ntmps43
  go_wp2
  all_goals
    go_ret
    exact ⟨Seg.ret_bool (by rw [Bool.eq_iff_iff]; simp; try omega), rfl⟩
theorem l1In_b (x lo hi : Int) (b : Bool) (hb : (decide (lo ≤ x) && decide (x ≤ hi)) = b) (w : World) : Calls Try.prog 23 #[.int .i64 x, .int .i64 lo, .int .i64 hi] w fun e w' => e = .returned (.bool b) ∧ w = w' := by
  subst hb; exact l1In_any x lo hi w
theorem within_b (x lo hi : Int) (b : Bool) (hb : (decide (lo ≤ x) && decide (x ≤ hi)) = b) (w : World) : Calls Try.prog 43 #[.int .i64 x, .int .i64 lo, .int .i64 hi] w fun e w' => e = .returned (.bool b) ∧ w = w' := by
  subst hb; exact within_any x lo hi w
end Go.Proofs.Ytfekhpegfbjleaa.InB
namespace Go.Proofs.Ytfekhpegfbjleaa.LgI
set_option maxRecDepth 8000
open Go.RowKit
open InB (l1In_b within_b)
open LgP (inR)
open Recs (hsz below1 below2 BatAt RecsAt batVal Bat chain)
set_option linter.unusedVariables false
/-- A log's three numbers, as the program asks them. -/
theorem bounds_any (a b c : Int) (v : Value) (t : Bool) (ht : (inR b 0 1000000000 && (inR a 0 b && inR c 1 20000)) = t) (w : World) : Calls Try.prog 29 #[.agg #[.int .i64 a, .int .i64 b, .int .i64 c, v]] w fun e w' => e = .returned (.bool t) ∧ Below w.heap.size w w' := by
  subst ht
  cases h1 : inR b 0 1000000000 with
  | false =>
    have H1 := Seg.hid h1
    go_enter Try.func29, Try.ntmps29
    go_wp2_with fail
    refine (within_b b 0 1000000000 false H1.out _).mono ?_
    rintro _ _ ⟨rfl, rfl⟩
    go_wp2
    go_ret
    exact ⟨rfl, Recs.below1 _ _⟩
  | true =>
    cases h2 : inR a 0 b with
    | false =>
      have H1 := Seg.hid h1
      have H2 := Seg.hid h2
      go_enter Try.func29, Try.ntmps29
      go_wp2_with fail
      refine (within_b b 0 1000000000 true H1.out _).mono ?_
      rintro _ _ ⟨rfl, rfl⟩
      go_wp2_with fail
      refine (within_b a 0 b false H2.out _).mono ?_
      rintro _ _ ⟨rfl, rfl⟩
      go_wp2
      go_ret
      exact ⟨rfl, Recs.below1 _ _⟩
    | true =>
      have H1 := Seg.hid h1
      have H2 := Seg.hid h2
      go_enter Try.func29, Try.ntmps29
      go_wp2_with fail
      refine (within_b b 0 1000000000 true H1.out _).mono ?_
      rintro _ _ ⟨rfl, rfl⟩
      go_wp2_with fail
      refine (within_b a 0 b true H2.out _).mono ?_
      rintro _ _ ⟨rfl, rfl⟩
      go_wp2_with fail
      refine (within_b c 1 20000 (inR c 1 20000) rfl _).mono ?_
      rintro _ _ ⟨rfl, rfl⟩
      go_wp2
      go_ret
      exact ⟨rfl, Recs.below1 _ _⟩

theorem behind_any (v : Value) (t : Bat) (w : World) (lo b : Nat) (hv : BatAt w lo b v t) (hok : BOk.batOk t = true) :
    Calls Try.prog 32 #[v] w fun e w' => e = .returned (.int .i64 (t.base + t.recs.length)) ∧ Below w.heap.size w w' := by
  obtain ⟨rv, rfl, H, ⟨hn, A, c, rfl, hx1⟩, hx2⟩ := hv
  have hl := LgP.okLen hok
  clear hx1 hx2
  unfold batVal
  go_enter Try.func32, Try.ntmps32
  go_wp2
  go_ret
  exact ⟨rfl, below1 _ _⟩
end Go.Proofs.Ytfekhpegfbjleaa.LgI
