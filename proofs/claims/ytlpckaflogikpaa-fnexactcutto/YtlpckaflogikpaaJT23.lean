/- A log cut at the front, on plain data; parts of lists in memory; A log cut at its end, on plain data. -/
import Derived.Test.YtlpckaflogikpaaJT13
import Derived.Test.YtlpckaflogikpaaJT18
import Derived.Test.YtlpckaflogikpaaJT22
namespace Go.Proofs.Ytlpckaflogikpaa.Ft
set_option maxRecDepth 8000
open Go.RowKit
open Recs
open Bats SegW Segs LogW SrP
open LgP (logOk inR)
set_option linter.unusedVariables false
def cutF (l : Lg) (x : Int) : Lg × Bool := if (logOk l && inR x l.start l.next) = true then (⟨x, l.next, l.roll, l.segs.drop (kf (pS x) l.segs)⟩, true) else (⟨0, 0, 0, []⟩, false)
theorem row_drop {w : World} {lo b s n c k g o : Nat} {f : Nat → Nat → Value} (h : Row w lo b s (.slice (some ⟨g, o, none⟩) n c) n f) (hk : k < n) : Row w lo b s (.slice (some ⟨g, o + k * s, none⟩) (n - k) (c - k)) (n - k) (fun i j => f (k + i) j) := by
  obtain ⟨h0, A, c', h1, h2⟩ := h
  simp only [Value.slice.injEq] at h1
  obtain ⟨rfl, _, rfl⟩ := h1
  obtain ⟨g', o', h3, h4, h5, h6, h7⟩ := h2.resolve_left (by omega)
  simp only [Option.some.injEq, Addr.mk.injEq] at h3
  obtain ⟨rfl, rfl, _⟩ := h3
  refine ⟨by omega, _, _, rfl, .inr ⟨g, o + k * s, rfl, h4, by omega, fun i hi j hj => ?_, h7⟩⟩
  rw [show o + k * s + i * s + j = o + (k + i) * s + j by rw [Nat.add_mul]; omega]
  exact h6 (k + i) (by omega) j hj
theorem row_take {w : World} {lo b s n c k : Nat} {A : Option Addr} {f : Nat → Nat → Value} (h : Row w lo b s (.slice A n c) n f) (hk : k ≤ n) : Row w lo b s (.slice A k c) k f := by
  obtain ⟨h0, A', c', h1, h2⟩ := h
  simp only [Value.slice.injEq] at h1
  obtain ⟨rfl, _, rfl⟩ := h1
  refine ⟨by omega, _, _, rfl, ?_⟩
  by_cases hz : k = 0
  · exact .inl hz
  obtain ⟨g', o', h3, h4, h5, h6, h7⟩ := h2.resolve_left (by omega)
  exact .inr ⟨g', o', h3, h4, by omega, fun i hi j hj => h6 i (by omega) j hj, h7⟩
theorem getD_drop {T : Type} [Inhabited T] (l : List T) (k i : Nat) : (l.drop k).getD i default = l.getD (k + i) default := by
  rw [List.getD_eq_getElem?_getD, List.getElem?_drop, ← List.getD_eq_getElem?_getD]
theorem getD_take {T : Type} [Inhabited T] (l : List T) (k i : Nat) (h : i < k) : (l.take k).getD i default = l.getD i default := by
  rw [List.getD_eq_getElem?_getD, List.getElem?_take_of_lt h, ← List.getD_eq_getElem?_getD]
theorem segs_drop {w : World} {lo b c k g o : Nat} {ss : List Sg} (h : SegsAt w lo b (.slice (some ⟨g, o, none⟩) ss.length c) ss) (hk : k < ss.length) : SegsAt w lo b (.slice (some ⟨g, o + k * 2, none⟩) (ss.length - k) (c - k)) (ss.drop k) := by
  obtain ⟨H, h1, h2⟩ := h
  refine ⟨fun i => H (k + i), ?_, fun i hi => ?_⟩
  · rw [List.length_drop]
    exact row_eqf (row_drop h1 hk) fun i hi j hj => by simp only [segsCells, getD_drop]
  · rw [getD_drop]
    rw [List.length_drop] at hi
    exact h2 (k + i) (by omega)
theorem segs_nil {w : World} {lo b : Nat} {A : Option Addr} {c : Nat} : SegsAt w lo b (.slice A 0 c) [] := ⟨fun _ => default, ⟨by simp, A, c, rfl, .inl rfl⟩, fun i hi => absurd hi (by simp)⟩
theorem segs_take {w : World} {lo b c k : Nat} {A : Option Addr} {ss : List Sg} (h : SegsAt w lo b (.slice A ss.length c) ss) (hk : k ≤ ss.length) : SegsAt w lo b (.slice A k c) (ss.take k) := by
  obtain ⟨H, h1, h2⟩ := h
  have hl : (ss.take k).length = k := by rw [List.length_take]; omega
  refine ⟨H, ?_, fun i hi => ?_⟩
  · rw [hl]
    exact row_eqf (row_take h1 hk) fun i hi j hj => by simp only [segsCells, getD_take ss k i hi]
  · rw [hl] at hi
    rw [getD_take ss k i hi]
    exact h2 i (by omega)
theorem ok_parts {l : Lg} (h : logOk l = true) : ∃ f, LgP.segs 0 0 l.segs = some f ∧ f ≤ l.next ∧ l.segs.length ≤ 60 ∧ 0 ≤ l.start ∧ l.start ≤ l.next ∧ l.next ≤ 1000000000 := by
  unfold LgP.logOk LgP.bounds LgP.counts LgP.stands at h
  simp only [Bool.and_eq_true, decide_eq_true_eq, inR] at h
  obtain ⟨⟨⟨a1, a2⟩, ⟨a3, a4⟩, a5⟩, ⟨a6, a7⟩, a8⟩ := h
  cases hs : LgP.segs 0 0 l.segs with
  | none => rw [hs] at a8; cases a8
  | some f =>
    rw [hs] at a8
    exact ⟨f, rfl, by simpa using a8, a6, a3, a4, a2⟩
end Go.Proofs.Ytlpckaflogikpaa.Ft
namespace Go.Proofs.Ytlpckaflogikpaa.CtP
set_option maxRecDepth 8000
open Recs SegW LogW SrP
open LgP (bats segs logOk inR)
set_option linter.unusedVariables false
def cutB (x : Int) (b : Bat) : Bat := if x < bEnd b then ⟨b.base, b.epoch, b.producer, b.turn, b.seq, b.flags, b.recs.take (x - b.base).toNat⟩ else b
def cutBs (x : Int) : List Bat → List Bat
  | [] => []
  | b :: t => if b.base < x then cutB x b :: cutBs x t else cutBs x t
def one (x : Int) (s : Sg) : List Sg := if (cutBs x s.bats).length = 0 then [] else [⟨s.base, cutBs x s.bats⟩]
def cutSs (x : Int) : List Sg → List Sg
  | [] => []
  | s :: t => one x s ++ cutSs x t
def cutT (l : Lg) (x : Int) : Lg × Bool := if (logOk l && inR x l.start l.next) = true then (⟨l.start, x, l.roll, cutSs x l.segs⟩, true) else (⟨0, 0, 0, []⟩, false)
theorem cutBs_none (x : Int) : ∀ (bs : List Bat), (∀ i, i < bs.length → x ≤ (bs.getD i default).base) → cutBs x bs = []
  | [], _ => rfl
  | b :: t, h => by
    have h0 := h 0 (by simp)
    simp only [List.getD_cons_zero] at h0
    unfold cutBs
    rw [if_neg (by omega)]
    exact cutBs_none x t (fun i hi => by have := h (i + 1) (by simpa using hi); simpa using this)
theorem cutBs_all (x : Int) : ∀ (bs : List Bat), (∀ i, i < bs.length → bEnd (bs.getD i default) ≤ x ∧ (bs.getD i default).base < x) → cutBs x bs = bs
  | [], _ => rfl
  | b :: t, h => by
    have h0 := h 0 (by simp)
    simp only [List.getD_cons_zero] at h0
    unfold cutBs cutB
    rw [if_pos h0.2, if_neg (by omega), cutBs_all x t (fun i hi => by have := h (i + 1) (by simpa using hi); simpa using this)]
theorem end_gt {b : Bat} (h : BOk.batOk b = true) : b.base < bEnd b := by
  have := LgP.okLen h
  unfold bEnd
  omega
theorem cutBs_found (x : Int) : ∀ (bs : List Bat) (f e f' e' : Int), bats f e bs = some (f', e') → ∀ r, Fnd (fun i => pB x (bs.getD i default)) bs.length r → cutBs x bs = bs.take r ++ (if r < bs.length ∧ (bs.getD r default).base < x then [cutB x (bs.getD r default)] else [])
  | [], _, _, _, _, _, r, h => by simp [cutBs]
  | b :: t, f, e, f', e', hb, r, h => by
    have hall := bats_ok _ _ _ _ _ hb
    have hge := hb
    unfold bats at hge
    split at hge
    · rename_i hc
      match r with
      | 0 =>
        have h0 := h.yes (by simp)
        simp only [List.getD_cons_zero, pB, decide_eq_true_eq] at h0
        have hn : cutBs x t = [] := cutBs_none x t (fun i hi => by
          have := bats_ge _ _ _ _ _ hge i hi
          unfold bEnd at h0
          omega)
        unfold cutBs
        rw [hn]
        simp only [List.take_zero, List.nil_append, List.getD_cons_zero, List.length_cons]
        by_cases hx : b.base < x
        · rw [if_pos hx, if_pos ⟨by omega, hx⟩]
        · rw [if_neg hx, if_neg (by omega)]
      | r + 1 =>
        have h0 := h.no 0 (by omega)
        simp only [List.getD_cons_zero, pB, decide_eq_false_iff_not] at h0
        have he := end_gt hc.1
        have ih := cutBs_found x t _ _ _ _ hge r ⟨by have := h.le; simp at this; exact this, fun i hi => by have := h.no (i + 1) (by omega); simpa using this, fun hi => by have := h.yes (by simpa using hi); simpa using this⟩
        have hcb : cutB x b = b := if_neg h0
        unfold cutBs
        rw [if_pos (by omega), hcb, ih]
        simp only [List.take_succ_cons, List.cons_append, List.getD_cons_succ, List.length_cons, Nat.add_lt_add_iff_right]
    · cases hge
theorem cutSs_none (x : Int) : ∀ (ss : List Sg) (f e f' : Int), segs f e ss = some f' → x ≤ f → cutSs x ss = []
  | [], _, _, _, _, _ => rfl
  | s :: t, f, e, f', h, hx => by
    obtain ⟨h1, h2, f1, e1, h3, h4⟩ := segs_head h
    have hle := LgP.bats_le _ _ _ _ _ h3
    have hn : cutBs x s.bats = [] := cutBs_none x _ (fun i hi => by have := bats_ge _ _ _ _ _ h3 i hi; omega)
    unfold cutSs one
    rw [hn, cutSs_none x t _ _ _ h4 (by omega)]
    rfl
theorem cutSs_found (x : Int) : ∀ (ss : List Sg) (f e f' : Int), segs f e ss = some f' → ∀ r, Fnd (fun i => pS x (ss.getD i default)) ss.length r → cutSs x ss = ss.take r ++ (if r < ss.length then one x (ss.getD r default) else [])
  | [], _, _, _, _, r, h => by simp [cutSs]
  | s :: t, f, e, f', hs, r, h => by
    obtain ⟨h1, h2, f1, e1, h3, h4⟩ := segs_head hs
    match r with
    | 0 =>
      have h0 := h.yes (by simp)
      simp only [List.getD_cons_zero, pS, Bool.or_eq_true, decide_eq_true_eq] at h0
      have hn : cutSs x t = [] := by
        by_cases hz : s.bats.length = 0
        · have := h2 hz
          rw [List.length_eq_zero_iff.1 this]
          rfl
        · have he := bats_end _ _ _ _ _ h3 hz
          refine cutSs_none x t _ _ _ h4 ?_
          have h0' := h0.resolve_left hz
          unfold sEnd at h0'
          omega
      unfold cutSs
      rw [hn]
      simp
    | r + 1 =>
      have h0 := h.no 0 (by omega)
      simp only [List.getD_cons_zero, pS, Bool.or_eq_false_iff, decide_eq_false_iff_not] at h0
      have hall : cutBs x s.bats = s.bats := cutBs_all x _ (fun i hi => by
        have a1 := bats_mono _ _ _ _ _ h3 i (s.bats.length - 1) (by omega) (by omega)
        have a2 := end_gt (bats_ok _ _ _ _ _ h3 i hi)
        have a3 := h0.2
        unfold sEnd at a3
        exact ⟨by omega, by omega⟩)
      have ih := cutSs_found x t _ _ _ h4 r ⟨by have := h.le; simp at this; exact this, fun i hi => by have := h.no (i + 1) (by omega); simpa using this, fun hi => by have := h.yes (by simpa using hi); simpa using this⟩
      have hone : one x s = [s] := by
        unfold one
        rw [hall, if_neg h0.1]
      unfold cutSs
      rw [hone, ih]
      simp only [List.take_succ_cons, List.cons_append, List.nil_append, List.getD_cons_succ, List.length_cons, Nat.add_lt_add_iff_right]
end Go.Proofs.Ytlpckaflogikpaa.CtP
