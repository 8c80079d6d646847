/- Numbers sorted, plain: what an insertion sort that swaps leaves; A run of bytes in memory, and what keeps it. -/
import Derived.WalkSmall
import Derived.WalkKit
import Derived.Laws.OwnMore
import Derived.Deep.Draws
import Derived.OpenShut
namespace Go.Proofs.Ytkibaimemomjpaa.SrP
set_option maxRecDepth 8000
open Go
set_option linter.unusedVariables false
def srt (l : List Int) : List Int := l.mergeSort (fun x y => decide (x ≤ y))
theorem srt_perm (l : List Int) : (srt l).Perm l := List.mergeSort_perm l _
theorem srt_len (l : List Int) : (srt l).length = l.length := (srt_perm l).length_eq
theorem srt_pair (l : List Int) : (srt l).Pairwise (fun x y => decide (x ≤ y) = true) :=
  List.pairwise_mergeSort (fun a b c h1 h2 => by simp only [decide_eq_true_eq] at *; exact Int.le_trans h1 h2) (fun a b => by simp only [Bool.or_eq_true, decide_eq_true_eq]; exact Int.le_total a b) l
theorem srt_uniq {l m : List Int} (hp : m.Perm l) (hs : m.Pairwise (fun x y => decide (x ≤ y) = true)) : m = srt l := by
  refine List.Perm.eq_of_pairwise (le := fun a b => decide (a ≤ b) = true) (fun a b _ _ h1 h2 => ?_) hs (srt_pair l) (hp.trans (srt_perm l).symm)
  simp only [decide_eq_true_eq] at h1 h2
  exact Int.le_antisymm h1 h2
/-- The first k numbers ascend. -/
def Asc (l : List Int) (k : Nat) : Prop := ∀ a b, a < b → b < k → l.getD a 0 ≤ l.getD b 0
/-- The first i ascend but for the one at k, which is not above those behind it. -/
def But (l : List Int) (k i : Nat) : Prop := ∀ a b, a < b → b ≤ i → b ≠ k → l.getD a 0 ≤ l.getD b 0
theorem but_of {l : List Int} {i : Nat} (h : Asc l i) : But l i i := fun a b hab hb hk => h a b hab (by omega)
theorem asc_of {l : List Int} {k i : Nat} (hk : k ≤ i) (h : But l k i) (hq : k = 0 ∨ l.getD (k - 1) 0 ≤ l.getD k 0) : Asc l (i + 1) := fun a b hab hb => by
  by_cases hbk : b = k
  · subst hbk
    rcases hq with h0 | h1
    · omega
    · by_cases ha : a = b - 1
      · rw [ha]; exact h1
      · exact Int.le_trans (h a (b - 1) (by omega) (by omega) (by omega)) h1
  · exact h a b hab (by omega) hbk
def swp (l : List Int) (k : Nat) : List Int := (l.set k (l.getD (k - 1) 0)).set (k - 1) (l.getD k 0)
theorem swp_len (l : List Int) (k : Nat) : (swp l k).length = l.length := by simp [swp]
theorem swp_get {l : List Int} {k : Nat} (h0 : 0 < k) (hk : k < l.length) (j : Nat) : (swp l k).getD j 0 = if j = k - 1 then l.getD k 0 else if j = k then l.getD (k - 1) 0 else l.getD j 0 := by
  unfold swp
  simp only [List.getD_eq_getElem?_getD, List.getElem?_set, List.length_set]
  by_cases h1 : j = k - 1
  · subst h1
    rw [if_pos rfl, if_pos (by omega), if_pos rfl]
    rfl
  · rw [if_neg (fun e => h1 e.symm), if_neg h1]
    by_cases h2 : j = k
    · subst h2
      rw [if_pos rfl, if_pos hk, if_pos rfl]
      rfl
    · rw [if_neg (fun e => h2 e.symm), if_neg h2]
theorem swp_but {l : List Int} {k i : Nat} (h0 : 0 < k) (hk : k < l.length) (hki : k ≤ i) (h : But l k i) (hq : l.getD k 0 < l.getD (k - 1) 0) : But (swp l k) (k - 1) i := fun a b hab hb hbk => by
  rw [swp_get h0 hk, swp_get h0 hk, if_neg hbk]
  by_cases h1 : b = k
  · subst h1
    rw [if_pos rfl]
    by_cases h2 : a = b - 1
    · rw [if_pos h2]; omega
    · rw [if_neg h2, if_neg (by omega)]
      exact h a (b - 1) (by omega) (by omega) (by omega)
  · rw [if_neg h1]
    by_cases h2 : a = k - 1
    · rw [if_pos h2]
      by_cases h3 : k < b
      · exact h k b h3 hb h1
      · omega
    · rw [if_neg h2]
      by_cases h3 : a = k
      · rw [if_pos h3]; exact h (k - 1) b (by omega) hb h1
      · rw [if_neg h3]; exact h a b hab hb h1
theorem set_perm : ∀ (l : List Int) (i j : Nat), i < l.length → j < l.length → ((l.set i (l.getD j 0)).set j (l.getD i 0)).Perm l := by
  intro l i j hi hj
  rw [List.perm_iff_count]
  intro a
  simp only [List.getD_eq_getElem?_getD, List.getElem?_eq_getElem hi, List.getElem?_eq_getElem hj, Option.getD_some]
  by_cases hij : i = j
  · subst hij; simp
  · rw [List.count_set (h := by simpa using hj), List.count_set (h := hi)]
    simp only [List.getElem_set, hij, if_false]
    have h1 : 0 < l.count (l[i]) := List.count_pos_iff.2 (List.getElem_mem hi)
    have h2 : 0 < l.count (l[j]) := List.count_pos_iff.2 (List.getElem_mem hj)
    by_cases e1 : l[i] = a <;> by_cases e2 : l[j] = a
    · simp [e1, e2]; subst e1; omega
    · simp [e1, e2]; subst e1; omega
    · simp [e1, e2]
    · simp [e1, e2]
theorem swp_perm {l : List Int} {k : Nat} (h0 : 0 < k) (hk : k < l.length) : (swp l k).Perm l := set_perm l k (k - 1) hk (by omega)
theorem pair_of {l : List Int} (h : Asc l l.length) : l.Pairwise (fun x y => decide (x ≤ y) = true) := by
  rw [List.pairwise_iff_getElem]
  intro i j hi hj hij
  have := h i j hij hj
  simpa [hi, hj] using this
end Go.Proofs.Ytkibaimemomjpaa.SrP
namespace Go.Proofs.Ytkibaimemomjpaa.Seg
set_option maxRecDepth 8000
open Go.RowKit
def B (l : List Int) : List Value := l.map (Value.int .u8)
theorem hid {p : Prop} (h : p) : Hid p := h
theorem ret_int {k : IntKind} {a b : Int} (h : a = b) : Ending.returned (.int k a) = .returned (.int k b) := by rw [h]
theorem ret_bool {a b : Bool} (h : a = b) : Ending.returned (.bool a) = .returned (.bool b) := by rw [h]

/-- The value is a slice over just these bytes. -/
def Seg (w : World) (v : Value) (l : List Int) : Prop :=
  l.length ≤ 140737488355328 ∧ ((∃ A c, v = .slice A 0 c ∧ l = []) ∨ ∃ g o cap, v = .slice (some ⟨g, o, none⟩) l.length cap ∧ l.length ≤ cap ∧ cap ≤ maxLen ∧ ∀ i, i < l.length → w.cell? ⟨g, o + i, none⟩ = some (.int .u8 (l.getD i 0)))

/-- The value is a slice of its own block, over just these bytes. -/
def Own (w : World) (base e : Nat) (v : Value) (l : List Int) : Prop :=
  l.length ≤ 140737488355328 ∧ ∃ g cap, v = .slice (some ⟨g, 0, none⟩) l.length cap ∧ w.ownsRow base e 1 (.slice (some ⟨g, 0, none⟩) l.length cap) l.length (B l)

theorem owns_below {w w' : World} {base e size : Nat} {v : Value} {n : Nat} {xs : List Value} (h : w.ownsRow base e size v n xs) (hb : Below w.heap.size w w') : w'.ownsRow base e size v n xs := by
  refine ⟨h.1, ?_⟩
  rcases h.2 with hn | ⟨g, cap, cur, rfl, hbs, hgg, rest⟩
  · exact .inl hn
  · exact .inr ⟨g, cap, cur, rfl, hbs, by rw [hb.block g (Array.getElem?_eq_some_iff.1 hgg).1]; exact hgg, rest⟩
theorem Own.below {w w' : World} {base e : Nat} {v : Value} {l : List Int} (h : Own w base e v l) (hb : Below w.heap.size w w') : Own w' base e v l := by
  obtain ⟨h1, g, cap, h2, h3⟩ := h
  exact ⟨h1, g, cap, h2, owns_below h3 hb⟩
theorem Own.drewN {w : World} {base e : Nat} {v : Value} {l : List Int} (h : Own w base e v l) (n : Nat) : Own (w.drewN n) base e v l := h
theorem owns_cell {w : World} {base e g n cap : Nat} {l : List Int} (h : w.ownsRow base e 1 (.slice (some ⟨g, 0, none⟩) n cap) n (B l)) (i : Nat) (hi : i < n) : w.cell? ⟨g, i, none⟩ = some (.int .u8 (l.getD i 0)) := by
  have hl : l.length = n := by have := h.1; simpa [B] using this
  rw [h.cellAt i (by omega)]
  simp [B, hl, hi]
theorem owns_cap {w : World} {base e g n cap : Nat} {l : List Value} (h : w.ownsRow base e 1 (.slice (some ⟨g, 0, none⟩) n cap) n l) : n ≤ cap ∧ cap ≤ maxLen ∧ base ≤ g ∧ g < w.heap.size := by
  rcases h.2 with ⟨h', _⟩ | ⟨g', cap', cur, h', hb, hg, hnc, hcm, hcs, htake⟩
  · simp at h'
  · simp only [Value.slice.injEq, Option.some.injEq, Addr.mk.injEq, and_true, true_and] at h'
    obtain ⟨rfl, rfl⟩ := h'
    exact ⟨hnc, hcm, hb, (Array.getElem?_eq_some_iff.1 hg).1⟩
theorem Own.seg {w : World} {base e : Nat} {v : Value} {l : List Int} (h : Own w base e v l) : Seg w v l := by
  obtain ⟨h1, g, cap, h2, h3⟩ := h
  have hc := owns_cap h3
  exact ⟨h1, .inr ⟨g, 0, cap, h2, hc.1, hc.2.1, fun i hi => by rw [Nat.zero_add]; exact owns_cell h3 i hi⟩⟩
theorem Seg.below {w w' : World} {B : Nat} {v : Value} {l : List Int} (h : Seg w v l) (hb : Below B w w') (hv : ∀ g, v.ownBlock = some g → g < B) : Seg w' v l := by
  obtain ⟨h1, h⟩ := h
  refine ⟨h1, ?_⟩
  rcases h with ⟨A, c, rfl, rfl⟩ | ⟨g, o, cap, rfl, h2, h3, h4⟩
  · exact .inl ⟨A, c, rfl, rfl⟩
  · exact .inr ⟨g, o, cap, rfl, h2, h3, fun i hi => by rw [hb.cell (p := ⟨g, o + i, none⟩) (hv g rfl)]; exact h4 i hi⟩
theorem Seg.drewN {w : World} {v : Value} {l : List Int} (h : Seg w v l) (n : Nat) : Seg (w.drewN n) v l := h

/-- The marks that a slice of n bytes bears from k on. -/
def marks (k : Int) (n : Nat) : List Int := (List.range n).map fun (i : Nat) => (k + (i : Int)) % 256
theorem marks_len (k : Int) (n : Nat) : (marks k n).length = n := by simp [marks]
theorem marks_get (k : Int) (n i : Nat) (h : i < n) : (marks k n).getD i 0 = (k + (i : Int)) % 256 := by simp [marks, h]
theorem marks_succ (k : Int) (n : Nat) : marks k (n + 1) = marks k n ++ [(k + (n : Int)) % 256] := by simp [marks, List.range_succ]
theorem marks_set (k : Int) (j : Nat) (l : List Int) (h : j < l.length) : (marks k j ++ l.drop j).set j ((k + (j : Int)) % 256) = marks k (j + 1) ++ l.drop (j + 1) := by
  rw [List.set_append_right _ _ (by simp [marks_len]), marks_len, Nat.sub_self, List.drop_eq_getElem_cons h, List.set_cons_zero, marks_succ]
  simp

theorem eq_cut {l m : List Int} (h : l.length = m.length) : decide (l = m) = decide (∀ i, i < l.length → l.getD i 0 = m.getD i 0) := by
  rw [decide_eq_decide]
  constructor
  · rintro rfl i _; rfl
  · intro hh
    refine List.ext_getElem h fun i h1 h2 => ?_
    have := hh i h1
    simpa [h1, h2] using this
theorem eq_len {l m : List Int} (h : ¬ l.length = m.length) : decide (l = m) = false := by
  simp only [decide_eq_false_iff_not]; rintro rfl; exact h rfl
theorem eq_at {l m : List Int} {i : Nat} (h : ¬ l.getD i 0 = m.getD i 0) : decide (l = m) = false := by
  simp only [decide_eq_false_iff_not]; rintro rfl; exact h rfl
/-- Each is a byte. -/
def Byt (l : List Int) : Prop := ∀ i, 0 ≤ l.getD i 0 ∧ l.getD i 0 < 256
theorem byt_of {l : List Int} (h : ∀ n ∈ l, 0 ≤ n ∧ n < 256) : Byt l := fun i => by
  by_cases hi : i < l.length
  · have := h l[i] (List.getElem_mem hi)
    simpa [hi] using this
  · simp [List.getElem?_eq_none (Nat.le_of_not_lt hi)]

/-- What the frame tells of a slice that came in, as a run of bytes. -/
theorem row_seg (w : World) (a : Option Addr) (len cap : Nat) (zs : List Int)
    (h : (a = none ∧ len = 0 ∧ cap = 0 ∧ zs = []) ∨ ∃ x, a = some x ∧ len ≤ cap ∧ cap ≤ maxLen ∧ zs.length = cap ∧ (∀ i, i < zs.length → w.cell? (x.add i) = some (.int .u8 (zs.getD i 0))) ∧ ∀ n ∈ zs, (Lit.int .u8 n).wf = true)
    (hl : len ≤ 140737488355328) : ∃ l : List Int, l.length = len ∧ Seg w (.slice a len cap) l ∧ Byt l ∧ (len = 0 ∨ ∀ g, (Value.slice a len cap).ownBlock = some g → g < w.heap.size) := by
  rcases h with ⟨rfl, rfl, rfl, rfl⟩ | ⟨x, rfl, h1, h2, h3, h4, h5⟩
  · exact ⟨[], rfl, ⟨by simp, .inl ⟨none, 0, rfl, rfl⟩⟩, fun i => by simp, .inl rfl⟩
  · by_cases hz : len = 0
    · subst hz
      exact ⟨[], rfl, ⟨by simp, .inl ⟨some x, cap, rfl, rfl⟩⟩, fun i => by simp, .inl rfl⟩
    · have hlen : (zs.take len).length = len := by simp; omega
      obtain ⟨b, off, spot⟩ := x
      have hc := h4 0 (by omega)
      have hspot : spot = none := by simpa [Addr.add] using World.cell?_spot hc
      subst hspot
      have hlt : b < w.heap.size := by have := World.block_lt_of_cell? w _ hc; simpa [Addr.add] using this
      refine ⟨zs.take len, hlen, ⟨by omega, .inr ⟨b, off, cap, by rw [hlen], by omega, h2, fun i hi => ?_⟩⟩, byt_of fun n hn => ?_, .inr fun g hg => by simp [Value.ownBlock] at hg; omega⟩
      · have := h4 i (by omega)
        rw [show (⟨b, off, none⟩ : Addr).add i = ⟨b, off + i, none⟩ by simp [Addr.add]] at this
        rw [this]
        have hi2 : i < len := by omega
        simp [List.getD_eq_getElem?_getD, hi2]
      · have := h5 n (List.mem_of_mem_take hn)
        have := bounds_u8 this
        omega
end Go.Proofs.Ytkibaimemomjpaa.Seg
