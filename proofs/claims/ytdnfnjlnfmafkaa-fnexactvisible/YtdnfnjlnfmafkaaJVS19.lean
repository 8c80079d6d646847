/- Parts of lists in memory; the parts of a right log. -/
import Derived.Test.YtdnfnjlnfmafkaaJVS11
import Derived.Test.YtdnfnjlnfmafkaaJVS18
namespace Go.Proofs.Ytdnfnjlnfmafkaa.Ft
set_option maxRecDepth 8000
open Go.RowKit
open Recs
open Bats SegW Segs LogW
open LgP (logOk inR)
set_option linter.unusedVariables false
theorem row_drop {w : World} {lo b s n c k g o : Nat} {f : Nat → Nat → Value} (h : Row w lo b s (.slice (some ⟨g, o, none⟩) n c) n f) (hk : k < n) : Row w lo b s (.slice (some ⟨g, o + k * s, none⟩) (n - k) (c - k)) (n - k) (fun i j => f (k + i) j) := by
  obtain ⟨h0, A, c', h1, h2⟩ := h
  simp only [Value.slice.injEq] at h1
  obtain ⟨rfl, _, rfl⟩ := h1
  obtain ⟨g', o', h3, h4, h5, h6, h7⟩ := h2.resolve_left (by omega)
  simp only [Option.some.injEq, Addr.mk.injEq] at h3
  obtain ⟨rfl, rfl, _⟩ := h3
  refine ⟨by omega, _, _, rfl, .inr ⟨g, o + k * s, rfl, h4, by omega, fun i hi j hj => ?_, h7⟩⟩
  rw [show o + k * s + i * s + j = o + (k + i) * s + j by rw [Nat.add_mul]; omega]
  exact h6 (k + i) (by omega) j hj
theorem row_take {w : World} {lo b s n c k : Nat} {A : Option Addr} {f : Nat → Nat → Value} (h : Row w lo b s (.slice A n c) n f) (hk : k ≤ n) : Row w lo b s (.slice A k c) k f := by
  obtain ⟨h0, A', c', h1, h2⟩ := h
  simp only [Value.slice.injEq] at h1
  obtain ⟨rfl, _, rfl⟩ := h1
  refine ⟨by omega, _, _, rfl, ?_⟩
  by_cases hz : k = 0
  · exact .inl hz
  obtain ⟨g', o', h3, h4, h5, h6, h7⟩ := h2.resolve_left (by omega)
  exact .inr ⟨g', o', h3, h4, by omega, fun i hi j hj => h6 i (by omega) j hj, h7⟩
theorem getD_drop {T : Type} [Inhabited T] (l : List T) (k i : Nat) : (l.drop k).getD i default = l.getD (k + i) default := by
  rw [List.getD_eq_getElem?_getD, List.getElem?_drop, ← List.getD_eq_getElem?_getD]
theorem getD_take {T : Type} [Inhabited T] (l : List T) (k i : Nat) (h : i < k) : (l.take k).getD i default = l.getD i default := by
  rw [List.getD_eq_getElem?_getD, List.getElem?_take_of_lt h, ← List.getD_eq_getElem?_getD]
theorem segs_drop {w : World} {lo b c k g o : Nat} {ss : List Sg} (h : SegsAt w lo b (.slice (some ⟨g, o, none⟩) ss.length c) ss) (hk : k < ss.length) : SegsAt w lo b (.slice (some ⟨g, o + k * 2, none⟩) (ss.length - k) (c - k)) (ss.drop k) := by
  obtain ⟨H, h1, h2⟩ := h
  refine ⟨fun i => H (k + i), ?_, fun i hi => ?_⟩
  · rw [List.length_drop]
    exact row_eqf (row_drop h1 hk) fun i hi j hj => by simp only [segsCells, getD_drop]
  · rw [getD_drop]
    rw [List.length_drop] at hi
    exact h2 (k + i) (by omega)
theorem segs_nil {w : World} {lo b : Nat} {A : Option Addr} {c : Nat} : SegsAt w lo b (.slice A 0 c) [] := ⟨fun _ => default, ⟨by simp, A, c, rfl, .inl rfl⟩, fun i hi => absurd hi (by simp)⟩
theorem segs_take {w : World} {lo b c k : Nat} {A : Option Addr} {ss : List Sg} (h : SegsAt w lo b (.slice A ss.length c) ss) (hk : k ≤ ss.length) : SegsAt w lo b (.slice A k c) (ss.take k) := by
  obtain ⟨H, h1, h2⟩ := h
  have hl : (ss.take k).length = k := by rw [List.length_take]; omega
  refine ⟨H, ?_, fun i hi => ?_⟩
  · rw [hl]
    exact row_eqf (row_take h1 hk) fun i hi j hj => by simp only [segsCells, getD_take ss k i hi]
  · rw [hl] at hi
    rw [getD_take ss k i hi]
    exact h2 i (by omega)
theorem ok_parts {l : Lg} (h : logOk l = true) : ∃ f, LgP.segs 0 0 l.segs = some f ∧ f ≤ l.next ∧ l.segs.length ≤ 60 ∧ 0 ≤ l.start ∧ l.start ≤ l.next ∧ l.next ≤ 1000000000 := by
  unfold LgP.logOk LgP.bounds LgP.counts LgP.stands at h
  simp only [Bool.and_eq_true, decide_eq_true_eq, inR] at h
  obtain ⟨⟨⟨a1, a2⟩, ⟨a3, a4⟩, a5⟩, ⟨a6, a7⟩, a8⟩ := h
  cases hs : LgP.segs 0 0 l.segs with
  | none => rw [hs] at a8; cases a8
  | some f =>
    rw [hs] at a8
    exact ⟨f, rfl, by simpa using a8, a6, a3, a4, a2⟩
theorem addOff (g o k : Nat) : (⟨g, o, none⟩ : Addr).add k = ⟨g, o + k, none⟩ := by unfold Addr.add; split <;> simp_all
theorem okAllB : ∀ (l : List Bat) (f e f' e' : Int), LgP.bats f e l = some (f', e') → ∀ i, i < l.length → BOk.batOk (l.getD i default) = true
  | [], _, _, _, _, _, i, hi => by simp at hi
  | b :: t, f, e, f', e', h, i, hi => by
    unfold LgP.bats at h
    split at h
    · rename_i hc
      match i with
      | 0 => exact hc.1
      | i + 1 =>
        rw [List.getD_cons_succ]
        exact okAllB t _ _ _ _ h i (by simpa using hi)
    · cases h
theorem okAllS' : ∀ (ss : List Sg) (f e f' : Int), LgP.segs f e ss = some f' → ∀ i, i < ss.length → ∀ k, k < (ss.getD i default).bats.length → BOk.batOk ((ss.getD i default).bats.getD k default) = true
  | [], _, _, _, _, i, hi, _, _ => by simp at hi
  | s :: t, f, e, f', h, i, hi, k, hk => by
    unfold LgP.segs at h
    split at h
    · cases hb : LgP.bats s.base e s.bats with
      | none => rw [hb] at h; cases h
      | some p =>
        rw [hb] at h
        match i with
        | 0 => exact okAllB _ _ _ p.1 p.2 hb k (by simpa using hk)
        | i + 1 =>
          rw [List.getD_cons_succ] at hk ⊢
          exact okAllS' t _ _ _ h i (by simpa using hi) k hk
    · cases h
theorem okAllS {ss : List Sg} {f : Int} (h : LgP.segs 0 0 ss = some f) : ∀ i, i < ss.length → ∀ k, k < (ss.getD i default).bats.length → BOk.batOk ((ss.getD i default).bats.getD k default) = true := okAllS' ss 0 0 f h
end Go.Proofs.Ytdnfnjlnfmafkaa.Ft
