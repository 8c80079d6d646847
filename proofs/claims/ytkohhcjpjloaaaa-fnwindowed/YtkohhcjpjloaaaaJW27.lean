/- Numbers sorted, plain: what an insertion sort that swaps leaves; Arrival: how it lies in memory; what the law's measure and copier answer. -/
import Derived.WalkSmall
import Derived.Test.YtkohhcjpjloaaaaJW24
namespace Go.Proofs.Ytkohhcjpjloaaaa.SrP
set_option maxRecDepth 8000
open Go
set_option linter.unusedVariables false
def srt (l : List Int) : List Int := l.mergeSort (fun x y => decide (x ≤ y))
theorem srt_perm (l : List Int) : (srt l).Perm l := List.mergeSort_perm l _
theorem srt_len (l : List Int) : (srt l).length = l.length := (srt_perm l).length_eq
theorem srt_pair (l : List Int) : (srt l).Pairwise (fun x y => decide (x ≤ y) = true) :=
  List.pairwise_mergeSort (fun a b c h1 h2 => by simp only [decide_eq_true_eq] at *; exact Int.le_trans h1 h2) (fun a b => by simp only [Bool.or_eq_true, decide_eq_true_eq]; exact Int.le_total a b) l
theorem srt_uniq {l m : List Int} (hp : m.Perm l) (hs : m.Pairwise (fun x y => decide (x ≤ y) = true)) : m = srt l := by
  refine List.Perm.eq_of_pairwise (le := fun a b => decide (a ≤ b) = true) (fun a b _ _ h1 h2 => ?_) hs (srt_pair l) (hp.trans (srt_perm l).symm)
  simp only [decide_eq_true_eq] at h1 h2
  exact Int.le_antisymm h1 h2
/-- The first k numbers ascend. -/
def Asc (l : List Int) (k : Nat) : Prop := ∀ a b, a < b → b < k → l.getD a 0 ≤ l.getD b 0
/-- The first i ascend but for the one at k, which is not above those behind it. -/
def But (l : List Int) (k i : Nat) : Prop := ∀ a b, a < b → b ≤ i → b ≠ k → l.getD a 0 ≤ l.getD b 0
theorem but_of {l : List Int} {i : Nat} (h : Asc l i) : But l i i := fun a b hab hb hk => h a b hab (by omega)
theorem asc_of {l : List Int} {k i : Nat} (hk : k ≤ i) (h : But l k i) (hq : k = 0 ∨ l.getD (k - 1) 0 ≤ l.getD k 0) : Asc l (i + 1) := fun a b hab hb => by
  by_cases hbk : b = k
  · subst hbk
    rcases hq with h0 | h1
    · omega
    · by_cases ha : a = b - 1
      · rw [ha]; exact h1
      · exact Int.le_trans (h a (b - 1) (by omega) (by omega) (by omega)) h1
  · exact h a b hab (by omega) hbk
def swp (l : List Int) (k : Nat) : List Int := (l.set k (l.getD (k - 1) 0)).set (k - 1) (l.getD k 0)
theorem swp_len (l : List Int) (k : Nat) : (swp l k).length = l.length := by simp [swp]
theorem swp_get {l : List Int} {k : Nat} (h0 : 0 < k) (hk : k < l.length) (j : Nat) : (swp l k).getD j 0 = if j = k - 1 then l.getD k 0 else if j = k then l.getD (k - 1) 0 else l.getD j 0 := by
  unfold swp
  simp only [List.getD_eq_getElem?_getD, List.getElem?_set, List.length_set]
  by_cases h1 : j = k - 1
  · subst h1
    rw [if_pos rfl, if_pos (by omega), if_pos rfl]
    rfl
  · rw [if_neg (fun e => h1 e.symm), if_neg h1]
    by_cases h2 : j = k
    · subst h2
      rw [if_pos rfl, if_pos hk, if_pos rfl]
      rfl
    · rw [if_neg (fun e => h2 e.symm), if_neg h2]
theorem swp_but {l : List Int} {k i : Nat} (h0 : 0 < k) (hk : k < l.length) (hki : k ≤ i) (h : But l k i) (hq : l.getD k 0 < l.getD (k - 1) 0) : But (swp l k) (k - 1) i := fun a b hab hb hbk => by
  rw [swp_get h0 hk, swp_get h0 hk, if_neg hbk]
  by_cases h1 : b = k
  · subst h1
    rw [if_pos rfl]
    by_cases h2 : a = b - 1
    · rw [if_pos h2]; omega
    · rw [if_neg h2, if_neg (by omega)]
      exact h a (b - 1) (by omega) (by omega) (by omega)
  · rw [if_neg h1]
    by_cases h2 : a = k - 1
    · rw [if_pos h2]
      by_cases h3 : k < b
      · exact h k b h3 hb h1
      · omega
    · rw [if_neg h2]
      by_cases h3 : a = k
      · rw [if_pos h3]; exact h (k - 1) b (by omega) hb h1
      · rw [if_neg h3]; exact h a b hab hb h1
theorem set_perm : ∀ (l : List Int) (i j : Nat), i < l.length → j < l.length → ((l.set i (l.getD j 0)).set j (l.getD i 0)).Perm l := by
  intro l i j hi hj
  rw [List.perm_iff_count]
  intro a
  simp only [List.getD_eq_getElem?_getD, List.getElem?_eq_getElem hi, List.getElem?_eq_getElem hj, Option.getD_some]
  by_cases hij : i = j
  · subst hij; simp
  · rw [List.count_set (h := by simpa using hj), List.count_set (h := hi)]
    simp only [List.getElem_set, hij, if_false]
    have h1 : 0 < l.count (l[i]) := List.count_pos_iff.2 (List.getElem_mem hi)
    have h2 : 0 < l.count (l[j]) := List.count_pos_iff.2 (List.getElem_mem hj)
    by_cases e1 : l[i] = a <;> by_cases e2 : l[j] = a
    · simp [e1, e2]; subst e1; omega
    · simp [e1, e2]; subst e1; omega
    · simp [e1, e2]
    · simp [e1, e2]
theorem swp_perm {l : List Int} {k : Nat} (h0 : 0 < k) (hk : k < l.length) : (swp l k).Perm l := set_perm l k (k - 1) hk (by omega)
theorem pair_of {l : List Int} (h : Asc l l.length) : l.Pairwise (fun x y => decide (x ≤ y) = true) := by
  rw [List.pairwise_iff_getElem]
  intro i j hi hj hij
  have := h i j hij hj
  simpa [hi, hj] using this
end Go.Proofs.Ytkohhcjpjloaaaa.SrP
namespace Go.Proofs.Ytkohhcjpjloaaaa.Ls
set_option maxRecDepth 8000
open Go.RowKit
open Recs
set_option linter.unusedVariables false
structure Arr where
  time : Int
  row : List Int
  gone : Bool
  deriving Inhabited
def EArr : Elt Arr := fun w S f u => f 0 = .int .i64 u.time ∧ IntsAt w S (f 1) u.row ∧ f 2 = .bool u.gone
theorem keepsArr : Keeps 3 EArr := fun w w' S f f' t h hk hf => by
  obtain ⟨h0, h1, h2⟩ := h
  exact ⟨by rw [hf 0 (by omega)]; exact h0, by rw [hf 1 (by omega)]; exact h1.keep keepsI hk, by rw [hf 2 (by omega)]; exact h2⟩
theorem growsArr : Grows EArr := fun w S S' f t h hs => by
  obtain ⟨h0, h1, h2⟩ := h
  exact ⟨h0, h1.mono growsI hs, h2⟩
def arrArr (f : Nat → Value) : Array Value := #[f 0, f 1, f 2]
theorem oneArr {w : World} {S : Nat → Prop} {f : Nat → Value} {u : Arr} (h : EArr w S f u) : (arrArr f).all (·.oneCell') = true := by
  obtain ⟨h0, h1, h2⟩ := h
  have o0 : (f 0).oneCell' = true := by rw [h0]; rfl
  have o1 : (f 1).oneCell' = true := h1.one
  have o2 : (f 2).oneCell' = true := by rw [h2]; rfl
  simp [arrArr, o0, o1, o2]
def ArrAt (w : World) (S : Nat → Prop) (v : Value) (u : Arr) : Prop := ∃ f, v = .agg (arrArr f) ∧ EArr w S f u
abbrev ArrsAt := LAt 3 EArr
theorem ArrAt.keep {w w' : World} {S : Nat → Prop} {v : Value} {u : Arr} (h : ArrAt w S v u) (hk : ∀ g, S g → w'.heap[g]? = w.heap[g]?) : ArrAt w' S v u := by
  obtain ⟨f, h1, h2⟩ := h
  exact ⟨f, h1, keepsArr _ _ _ _ _ _ h2 hk (fun _ _ => rfl)⟩
theorem ArrAt.mono {w : World} {S S' : Nat → Prop} {v : Value} {u : Arr} (h : ArrAt w S v u) (hs : ∀ g, S g → S' g) : ArrAt w S' v u := by
  obtain ⟨f, h1, h2⟩ := h
  exact ⟨f, h1, growsArr _ _ _ _ _ h2 hs⟩
theorem ArrAt.below {w w' : World} {B : Nat} {S : Nat → Prop} {v : Value} {u : Arr} (h : ArrAt w S v u) (hb : Below B w w') (hs : ∀ g, S g → g < B) : ArrAt w' S v u := h.keep fun g hg => hb.block g (hs g hg)
def szArr (u : Arr) : Nat := (u.row).length
def FineArr (u : Arr) : Prop := I64 u.time ∧ FineL I64 u.row ∧ True
end Go.Proofs.Ytkohhcjpjloaaaa.Ls
