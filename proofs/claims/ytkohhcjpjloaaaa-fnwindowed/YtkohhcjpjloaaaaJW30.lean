/- Right inputs, plain; Windows, plain: the starts of the windows that hold a time, downwards; the windows of hops; the windows of sessions. -/
import Derived.Lib.SlicesCompact
import Derived.Test.YtkohhcjpjloaaaaJW28
import Derived.Test.YtkohhcjpjloaaaaJW13
import Derived.Test.YtkohhcjpjloaaaaJW29
import Derived.Test.YtkohhcjpjloaaaaJW27
namespace Go.Proofs.Ytkohhcjpjloaaaa.IoP
set_option maxRecDepth 8000
open Go.RowKit
open Ls Lp QyP QsP QtP QuP TbP
open Recs (hsz below1 below2 chain)
set_option linter.unusedVariables false
abbrev Arr2 := List Arr
abbrev FineArr2 := FineL FineArr
abbrev szArr2 := szL szArr
def inN (n : Int) : Bool := inR (-1000000000000000) n 1000000000000000
def arrOk (s : Src) (a : Arr) : Bool := (inR 0 a.time 1000000000000 && (!a.gone || s.tab)) && (decide (a.row.length = s.cols.length) && a.row.all inN)
def cnt (us : List (List Arr)) : Nat := (us.map List.length).sum
def rowsK (l : List Src) (us : List (List Arr)) (k : Nat) : Bool := (List.range k).all fun i => (us.getD i default).all (arrOk (l.getD i default))
def inpOk (l : List Src) (us : List (List Arr)) : Bool := srcsOk l && (decide (us.length = l.length) && (decide (cnt us ≤ 300) && rowsK l us us.length))
theorem cnt_next {us : List (List Arr)} {k : Nat} (h : k < us.length) : cnt (us.take (k + 1)) = cnt (us.take k) + (us.getD k default).length := by
  unfold cnt
  rw [List.take_succ_eq_append_getElem h, List.map_append, List.sum_append]
  simp [h]
theorem cnt_split (us : List (List Arr)) (k : Nat) : cnt us = cnt (us.take k) + cnt (us.drop k) := by
  have := congrArg cnt (List.take_append_drop k us).symm
  rw [this]
  unfold cnt
  rw [List.map_append, List.sum_append]
theorem cnt_le (us : List (List Arr)) (k : Nat) : cnt (us.take k) ≤ cnt us := by have := cnt_split us k; omega
theorem cnt_sz : ∀ us : List (List Arr), cnt us ≤ tot szArr2 us
  | [] => by simp [cnt]
  | t :: r => by
    have := cnt_sz r
    have h2 : t.length ≤ szArr2 t := szL_len (f := szArr) (Nat.le_refl _)
    simp only [cnt, tot, List.map_cons, List.sum_cons] at *
    omega
theorem cnt_max {us : List (List Arr)} (h : szL szArr2 us ≤ 1048576) : cnt us ≤ 1048576 := by
  have := cnt_sz us
  unfold szL at h
  omega
theorem rows_next {l : List Src} {us : List (List Arr)} {k : Nat} (h : rowsK l us k = true) (h2 : (us.getD k default).all (arrOk (l.getD k default)) = true) : rowsK l us (k + 1) = true := by
  unfold rowsK at *
  rw [List.range_succ, List.all_append, h, List.all_cons, h2]
  rfl
theorem rows_bad {l : List Src} {us : List (List Arr)} {k n : Nat} (hk : k < n) (h2 : (us.getD k default).all (arrOk (l.getD k default)) = false) : rowsK l us n = false :=
  List.all_eq_false.2 ⟨k, List.mem_range.2 hk, by rw [h2]; simp⟩
/-- One list of arrivals, as an element of the inputs. -/
theorem arrs_at {w w' : World} {S : Nat → Prop} {A : Option Addr} {c : Nat} {us : List (List Arr)} {g o : Nat} {F : Nat → Nat → Value} (h : Opn 1 EArr2 w S A c us g o F) (hS : ∀ g, S g → g < w.heap.size) (hb : Below w.heap.size w w') {k : Nat} (hk : k < us.length) : ∃ A' c', LAt 3 EArr w' S (.slice A' (us.getD k default).length c') (us.getD k default) ∧ w'.cell? ⟨g, o + k, none⟩ = some (.slice A' (us.getD k default).length c') := by
  have OL := h.later keepsArr2 hS hb
  have e0 : LAt 3 EArr w' S (F k 0) (us.getD k default) := OL.el k hk
  have cc := OL.cells k hk 0 (by omega)
  obtain ⟨A', c', e3⟩ := e0.form
  refine ⟨A', c', by rw [← e3]; exact e0, ?_⟩
  rw [← e3]
  simpa using cc
end Go.Proofs.Ytkohhcjpjloaaaa.IoP
namespace Go.Proofs.Ytkohhcjpjloaaaa.WnP
set_option maxRecDepth 8000
open Go.RowKit
open Ls Lp SrP
set_option linter.unusedVariables false
def hopF (size every t : Int) : Nat → Int → List Int
  | 0, _ => []
  | n + 1, s => if 0 ≤ s ∧ t - size < s then s :: hopF size every t n (s - every) else []
def hopL (size every t : Int) : List Int := hopF size every t 21 (t - t % every)
def staL (size every : Int) (ts : List Int) : List Int := ts.flatMap (hopL size every)
theorem hop_in {size every t s : Int} {n : Nat} (h0 : 0 ≤ s) (h1 : t - size < s) : hopF size every t (n + 1) s = s :: hopF size every t n (s - every) := by rw [hopF, if_pos ⟨h0, h1⟩]
theorem hop_out {size every t s : Int} {n : Nat} (h : ¬ (0 ≤ s ∧ t - size < s)) : hopF size every t n s = [] := by
  cases n with
  | zero => rfl
  | succ n => rw [hopF, if_neg h]
theorem hop_len (size every t : Int) : ∀ (n : Nat) (s : Int), (hopF size every t n s).length ≤ n
  | 0, _ => Nat.le_refl _
  | n + 1, s => by
    rw [hopF]
    split
    · have := hop_len size every t n (s - every)
      simp only [List.length_cons]; omega
    · exact Nat.zero_le _
theorem sta_next (size every : Int) {ts : List Int} {k : Nat} (hk : k < ts.length) : staL size every (ts.take (k + 1)) = staL size every (ts.take k) ++ hopL size every (ts.getD k default) := by
  unfold staL
  rw [List.take_add_one, List.getElem?_eq_getElem hk, List.flatMap_append]
  simp [hk]
theorem sta_len (size every : Int) : ∀ ts : List Int, (staL size every ts).length ≤ 21 * ts.length
  | [] => by simp [staL]
  | t :: ts => by
    have h1 := sta_len size every ts
    have h2 : (hopL size every t).length ≤ 21 := hop_len size every t 21 _
    unfold staL at h1 ⊢
    rw [List.flatMap_cons, List.length_append, List.length_cons]
    omega
/-- The least that still lies above is told by what is left to take: n steps of every. -/
theorem far_start {size every t : Int} (h0 : 0 ≤ t) (he : 0 < every) (hs : size ≤ 20 * every) : t - t % every - (t - size) ≤ ((21 : Nat) : Int) * every := by
  have := Int.emod_nonneg t (by omega : every ≠ 0)
  omega
theorem far_next {every a : Int} {n : Nat} (h : a ≤ ((n + 1 : Nat) : Int) * every) : a - every ≤ (n : Int) * every := by
  have e : ((n + 1 : Nat) : Int) * every = (n : Int) * every + every := by rw [Int.natCast_add, Int.add_mul]; simp
  rw [e] at h
  omega
theorem far_end {every a : Int} (h : a ≤ ((0 : Nat) : Int) * every) : a ≤ 0 := by simpa using h
def inT (t : Int) : Bool := decide (0 ≤ t) && decide (t ≤ 1000000000000)
theorem inT_iff {t : Int} (h : inT t = true) : 0 ≤ t ∧ t ≤ 1000000000000 := by unfold inT at h; simpa using h
theorem hop_mem {size every t x : Int} (he : 0 < every) : ∀ (n : Nat) (s : Int), s ≤ t → x ∈ hopF size every t n s → 0 ≤ x ∧ x ≤ t
  | 0, s, hs, h => by cases h
  | n + 1, s, hs, h => by
    rw [hopF] at h
    split at h
    · next hc =>
      rcases List.mem_cons.1 h with rfl | h
      · exact ⟨hc.1, hs⟩
      · exact hop_mem he n (s - every) (by omega) h
    · cases h
theorem sta_mem {size every x : Int} {ts : List Int} (he : 0 < every) (ht : ts.all inT = true) (h : x ∈ staL size every ts) : 0 ≤ x ∧ x ≤ 1000000000000 := by
  unfold staL at h
  obtain ⟨t, h1, h2⟩ := List.mem_flatMap.1 h
  have h3 := inT_iff (List.all_eq_true.1 ht t h1)
  have h4 := Int.emod_nonneg t (by omega : every ≠ 0)
  have := hop_mem he 21 _ (by omega) h2
  omega
theorem compact_len (zs : List Int) : (Lib.compact zs).length ≤ zs.length := by
  unfold Lib.compact Lib.compactUpTo
  rw [List.length_map]
  exact Nat.le_trans (List.length_filter_le _ _) (by simp)
theorem compact_mem {zs : List Int} {x : Int} (h : x ∈ Lib.compact zs) : x ∈ zs := by
  unfold Lib.compact Lib.compactUpTo at h
  obtain ⟨i, h1, rfl⟩ := List.mem_map.1 h
  have h2 := List.mem_range.1 (List.mem_filter.1 h1).1
  rw [getElem!_pos zs.toArray i (by simpa using h2)]
  simp
/-- What is kept of a sorted list: each of its numbers once, ascending. -/
theorem compact_asc {L : List Int} (h : L.Pairwise (fun x y => decide (x ≤ y) = true)) : ∀ m, m ≤ L.length → (Lib.compactUpTo L.toArray m).Pairwise (· < ·) ∧ ∀ x, x ∈ Lib.compactUpTo L.toArray m ↔ x ∈ L.take m
  | 0, _ => ⟨by simp [Lib.compactUpTo], fun x => by simp [Lib.compactUpTo]⟩
  | m + 1, hm => by
    obtain ⟨ih1, ih2⟩ := compact_asc h m (by omega)
    have em : L.toArray[m]! = L[m] := by rw [getElem!_pos L.toArray m (by simp; omega)]; simp
    have et : L.take (m + 1) = L.take m ++ [L[m]] := by rw [List.take_add_one, List.getElem?_eq_getElem (by omega)]; rfl
    rw [Lib.compactUpTo_succ, et, em]
    by_cases hk : Lib.keeps L.toArray m = true
    · rw [if_pos hk]
      refine ⟨List.pairwise_append.2 ⟨ih1, by simp, fun x hx y hy => ?_⟩, fun x => by rw [List.mem_append, List.mem_append, ih2]⟩
      obtain rfl : y = L[m] := by simpa using hy
      obtain ⟨i, hi, rfl⟩ := List.getElem_of_mem ((ih2 x).1 hx)
      have hi2 : i < m := by rw [List.length_take] at hi; omega
      rw [List.getElem_take]
      have ep : L.toArray[m - 1]! = L[m - 1] := by rw [getElem!_pos L.toArray (m - 1) (by simp; omega)]; simp
      have hk' := hk
      unfold Lib.keeps at hk'
      rw [decide_eq_true_eq, em, ep] at hk'
      have hne := hk'.resolve_left (by omega)
      have a1 : L[m - 1] ≤ L[m] := by simpa using List.pairwise_iff_getElem.1 h (m - 1) m (by omega) (by omega) (by omega)
      have a2 : L[i] ≤ L[m - 1] := by
        rcases Nat.lt_or_eq_of_le (show i ≤ m - 1 by omega) with g | g
        · simpa using List.pairwise_iff_getElem.1 h i (m - 1) (by omega) (by omega) g
        · simp [g]
      omega
    · rw [if_neg hk, List.append_nil]
      refine ⟨ih1, fun x => ?_⟩
      rw [ih2, List.mem_append, List.mem_singleton]
      refine ⟨.inl, fun q => q.elim id ?_⟩
      rintro rfl
      unfold Lib.keeps at hk
      rw [decide_eq_true_eq, em] at hk
      have hm0 : m ≠ 0 := fun e => hk (.inl e)
      have ep : L.toArray[m - 1]! = L[m - 1] := by rw [getElem!_pos L.toArray (m - 1) (by simp; omega)]; simp
      rw [ep] at hk
      have e : L[m] = L[m - 1] := Classical.byContradiction fun q => hk (.inr q)
      rw [e]
      exact List.mem_take_iff_getElem.2 ⟨m - 1, by omega, rfl⟩
theorem asc_ext : ∀ {a b : List Int}, a.Pairwise (· < ·) → b.Pairwise (· < ·) → (∀ x, x ∈ a ↔ x ∈ b) → a = b
  | [], [], _, _, _ => rfl
  | [], y :: b, _, _, h => by have := (h y).2 (by simp); cases this
  | x :: a, [], _, _, h => by have := (h x).1 (by simp); cases this
  | x :: a, y :: b, ha, hb, h => by
    obtain ⟨a1, a2⟩ := List.pairwise_cons.1 ha
    obtain ⟨b1, b2⟩ := List.pairwise_cons.1 hb
    have e : x = y := by
      rcases List.mem_cons.1 ((h x).1 (by simp)) with q | q
      · exact q
      · rcases List.mem_cons.1 ((h y).2 (by simp)) with r | r
        · exact r.symm
        · have := b1 x q; have := a1 y r; omega
    subst e
    rw [asc_ext a2 b2 fun z => ?_]
    constructor
    · intro q
      rcases List.mem_cons.1 ((h z).1 (List.mem_cons_of_mem _ q)) with r | r
      · have := a1 z q; omega
      · exact r
    · intro q
      rcases List.mem_cons.1 ((h z).2 (List.mem_cons_of_mem _ q)) with r | r
      · have := b1 z q; omega
      · exact r
theorem compact_iff (l : List Int) (x : Int) : x ∈ Lib.compact (srt l) ↔ x ∈ l := by
  have := (compact_asc (srt_pair l) (srt l).length (Nat.le_refl _)).2 x
  rw [List.take_length] at this
  exact this.trans (srt_perm l).mem_iff
theorem compact_same {a b : List Int} (h : ∀ x, x ∈ a ↔ x ∈ b) : Lib.compact (srt a) = Lib.compact (srt b) :=
  asc_ext (compact_asc (srt_pair a) _ (Nat.le_refl _)).1 (compact_asc (srt_pair b) _ (Nat.le_refl _)).1 fun x => (compact_iff a x).trans ((h x).trans (compact_iff b x).symm)
def cutS (size every : Int) (ts : List Int) : List Int := Lib.compact (srt (staL size every ts))
/-- Each time once is enough. -/
theorem cut_once (size every : Int) (ts : List Int) : cutS size every (Lib.compact (srt ts)) = cutS size every ts := by
  unfold cutS
  refine compact_same fun x => ?_
  unfold staL
  rw [List.mem_flatMap, List.mem_flatMap]
  exact ⟨fun ⟨t, h1, h2⟩ => ⟨t, (compact_iff ts t).1 h1, h2⟩, fun ⟨t, h1, h2⟩ => ⟨t, (compact_iff ts t).2 h1, h2⟩⟩
def winW (size : Int) (cs : List Int) : List (List Int) := cs.map (fun s => [s, s + size])
theorem cut_mem {size every x : Int} {ts : List Int} (he : 0 < every) (ht : ts.all inT = true) (h : x ∈ cutS size every ts) : 0 ≤ x ∧ x ≤ 1000000000000 := sta_mem he ht ((srt_perm _).mem_iff.1 (compact_mem h))
theorem win_next (size : Int) {cs : List Int} {k : Nat} (hk : k < cs.length) : winW size (cs.take (k + 1)) = winW size (cs.take k) ++ [[cs.getD k default, cs.getD k default + size]] := by
  unfold winW
  rw [List.take_add_one, List.getElem?_eq_getElem hk, List.map_append]
  simp [hk]
theorem win_len (size : Int) {cs : List Int} {k : Nat} (hk : k ≤ cs.length) : (winW size (cs.take k)).length = k := by
  unfold winW
  rw [List.length_map, List.length_take]; omega
end Go.Proofs.Ytkohhcjpjloaaaa.WnP
