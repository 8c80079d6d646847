/- Windows, plain: each time lies in one of them; they stand in order; What FnWindowed reads of the windows. -/
import Derived.KernelRfl
import Derived.Test.YtkohhcjpjloaaaaJW42
import Derived.Test.YtkohhcjpjloaaaaJW26
namespace Go.Proofs.Ytkohhcjpjloaaaa.WdP
set_option maxRecDepth 8000
open Go.RowKit
open Ls Lp QyP QsP QtP XqP SrP WnP SnI WiI WoP WoO WnI
set_option linter.unusedVariables false
abbrev lo (u : List Int) : Int := u.getD 0 0
abbrev hi (u : List Int) : Int := u.getD 1 0
def inW (t : Int) (u : List Int) : Bool := decide (lo u ≤ t) && decide (t < hi u)
def cntW (w : List (List Int)) (t : Int) : Nat := (w.filter (inW t)).length
structure Asc (w : List (List Int)) : Prop where
  ord : w.Pairwise (fun u v => lo u < lo v)
  pos : ∀ u, u ∈ w → lo u < hi u
structure Apart (w : List (List Int)) : Prop where
  ord : w.Pairwise (fun u v => hi u ≤ lo v)
  pos : ∀ u, u ∈ w → lo u < hi u
theorem Apart.asc {w : List (List Int)} (h : Apart w) : Asc w := by
  refine ⟨?_, h.pos⟩
  have h1 := h.ord
  have h2 := h.pos
  induction w with
  | nil => exact List.Pairwise.nil
  | cons u r ih =>
    obtain ⟨a, b⟩ := List.pairwise_cons.1 h1
    refine List.pairwise_cons.2 ⟨fun v hv => by have := a v hv; have := h2 u (by simp); omega, ih ⟨b, fun v hv => h2 v (List.mem_cons_of_mem _ hv)⟩ b (fun v hv => h2 v (List.mem_cons_of_mem _ hv))⟩
theorem cnt_pos {w : List (List Int)} {t : Int} (h : ∃ u, u ∈ w ∧ inW t u = true) : 0 < cntW w t := by
  obtain ⟨u, h1, h2⟩ := h
  exact List.length_pos_of_mem (List.mem_filter.2 ⟨h1, h2⟩)
theorem cnt_zero : ∀ {w : List (List Int)} {t : Int}, (∀ u, u ∈ w → inW t u = false) → cntW w t = 0
  | [], _, _ => rfl
  | u :: r, t, h => by
    unfold cntW
    rw [List.filter_cons, h u (by simp)]
    exact cnt_zero (w := r) (fun v hv => h v (List.mem_cons_of_mem _ hv))
theorem cnt_one : ∀ {w : List (List Int)} {t : Int}, Apart w → (∃ u, u ∈ w ∧ inW t u = true) → cntW w t = 1
  | [], _, _, h => by obtain ⟨u, h1, -⟩ := h; cases h1
  | u :: r, t, ha, h => by
    obtain ⟨a, b⟩ := List.pairwise_cons.1 ha.ord
    have hr : Apart r := ⟨b, fun v hv => ha.pos v (List.mem_cons_of_mem _ hv)⟩
    unfold cntW
    rw [List.filter_cons]
    cases hu : inW t u with
    | true =>
      have z : cntW r t = 0 := cnt_zero (fun v hv => by
        have h1 := a v hv
        unfold inW at hu ⊢
        simp only [Bool.and_eq_true, decide_eq_true_eq] at hu
        rw [decide_eq_false (by omega : ¬ lo v ≤ t)]
        rfl)
      unfold cntW at z
      rw [if_pos rfl, List.length_cons, z]
    | false =>
      rw [if_neg (by simp)]
      refine cnt_one hr ?_
      obtain ⟨v, h1, h2⟩ := h
      rcases List.mem_cons.1 h1 with rfl | h1
      · rw [hu] at h2; cases h2
      · exact ⟨v, h1, h2⟩
theorem win_mem {size : Int} {cs : List Int} {u : List Int} (h : u ∈ winW size cs) : ∃ s, s ∈ cs ∧ u = [s, s + size] := by
  unfold winW at h
  obtain ⟨s, h1, rfl⟩ := List.mem_map.1 h
  exact ⟨s, h1, rfl⟩
theorem cut_asc (size every : Int) (ts : List Int) : (cutS size every ts).Pairwise (· < ·) := (compact_asc (srt_pair _) _ (Nat.le_refl _)).1
theorem cut_of {size every x : Int} {ts : List Int} : x ∈ cutS size every ts ↔ ∃ t, t ∈ ts ∧ x ∈ hopL size every t := by
  unfold cutS
  rw [compact_iff]
  unfold staL
  rw [List.mem_flatMap]
theorem hop_first {size every t : Int} (h0 : 0 ≤ t) (he : 1 ≤ every) (hs : every ≤ size) : t - t % every ∈ hopL size every t ∧ t - t % every ≤ t ∧ t < t - t % every + size := by
  have h1 := Int.emod_nonneg t (by omega : every ≠ 0)
  have h2 := Int.emod_lt_of_pos t (by omega : 0 < every)
  have h3 : t % every ≤ t := by
    have h4 : 0 ≤ every * (t / every) := Int.mul_nonneg (by omega) (Int.ediv_nonneg h0 (by omega))
    have := Int.emod_add_mul_ediv t every
    omega
  refine ⟨?_, by omega, by omega⟩
  unfold hopL
  rw [hop_in (by omega) (by omega)]
  exact List.mem_cons_self ..
/-- Windows of hops. -/
theorem hop_asc {size every : Int} {ts : List Int} (hs : 1 ≤ size) : Asc (winW size (cutS size every ts)) := by
  refine ⟨?_, fun u hu => ?_⟩
  · unfold winW
    rw [List.pairwise_map]
    exact (cut_asc size every ts).imp (fun h => h)
  · obtain ⟨s, -, rfl⟩ := win_mem hu
    show s < s + size
    omega
theorem hop_has {size every t : Int} {ts : List Int} (ht : t ∈ ts) (h0 : 0 ≤ t) (he : 1 ≤ every) (hs : every ≤ size) : ∃ u, u ∈ winW size (cutS size every ts) ∧ inW t u = true := by
  obtain ⟨h1, h2, h3⟩ := hop_first h0 he hs
  refine ⟨[t - t % every, t - t % every + size], ?_, ?_⟩
  · unfold winW
    exact List.mem_map.2 ⟨_, cut_of.2 ⟨t, ht, h1⟩, rfl⟩
  · show (decide (t - t % every ≤ t) && decide (t < t - t % every + size)) = true
    rw [decide_eq_true h2, decide_eq_true h3]; rfl
theorem mul_gap {a b size : Int} (hs : 0 < size) (h : a * size < b * size) : a * size + size ≤ b * size := by
  have h1 : a < b := by
    rcases Int.lt_or_le a b with h2 | h2
    · exact h2
    · have := Int.mul_le_mul_of_nonneg_right h2 (by omega : 0 ≤ size); omega
  have h3 : (a + 1) * size ≤ b * size := Int.mul_le_mul_of_nonneg_right (by omega) (by omega)
  rw [Int.add_mul, Int.one_mul] at h3
  exact h3
theorem tum_apart {size : Int} {ts : List Int} (hs : 1 ≤ size) (ht : ts.all inT = true) : Apart (winW size (cutS size size ts)) := by
  have hm : ∀ x, x ∈ cutS size size ts → ∃ a, x = a * size := fun x hx => by
    obtain ⟨t, h1, h2⟩ := cut_of.1 hx
    have h3 := inT_iff (List.all_eq_true.1 ht t h1)
    rw [hop_one h3.1 (by omega)] at h2
    rw [List.mem_singleton.1 h2]
    exact ⟨t / size, WoP.start_eq.symm⟩
  refine ⟨?_, (hop_asc hs).pos⟩
  unfold winW
  rw [List.pairwise_map]
  refine (cut_asc size size ts).imp_of_mem (fun {a b} ha hb hab => ?_)
  obtain ⟨x, rfl⟩ := hm a ha
  obtain ⟨y, rfl⟩ := hm b hb
  exact mul_gap (by omega) hab
theorem last_split {L : List (List Int)} (h : 0 < L.length) : ∃ I z, L = I ++ [z] ∧ L.getD (L.length - 1) default = z ∧ ∀ y, L.set (L.length - 1) y = I ++ [y] := by
  rcases List.eq_nil_or_concat L with rfl | ⟨I, z, hI⟩
  · cases h
  · rw [List.concat_eq_append] at hI
    subst hI
    refine ⟨I, z, rfl, ?_, fun y => ?_⟩
    · rw [List.length_append, List.length_singleton, Nat.add_sub_cancel]
      simp
    · rw [List.length_append, List.length_singleton, Nat.add_sub_cancel, List.set_append_right _ _ (Nat.le_refl _), Nat.sub_self]
      rfl
/-- Sessions. -/
structure Ses (size : Int) (s : List Int) (k : Nat) : Prop where
  ap : Apart (sesK size s k)
  last : ∀ u, u ∈ sesK size s k → hi u ≤ s.getD (k - 1) default + size + 1
  fst : 0 < k → lo ((sesK size s k).getD ((sesK size s k).length - 1) default) ≤ s.getD (k - 1) default
  has : ∀ j, j < k → ∃ u, u ∈ sesK size s k ∧ inW (s.getD j default) u = true
theorem apart_snoc {I : List (List Int)} {z : List Int} : Apart (I ++ [z]) ↔ (Apart I ∧ (∀ u, u ∈ I → hi u ≤ lo z) ∧ lo z < hi z) := by
  constructor
  · intro h
    obtain ⟨h1, h2, h3⟩ := List.pairwise_append.1 h.ord
    exact ⟨⟨h1, fun u hu => h.pos u (List.mem_append_left _ hu)⟩, fun u hu => h3 u hu z (by simp), h.pos z (by simp)⟩
  · rintro ⟨h1, h2, h3⟩
    refine ⟨List.pairwise_append.2 ⟨h1.ord, by simp, fun u hu v hv => ?_⟩, fun u hu => ?_⟩
    · rw [List.mem_singleton.1 hv]; exact h2 u hu
    · rcases List.mem_append.1 hu with q | q
      · exact h1.pos u q
      · rw [List.mem_singleton.1 q]; exact h3
theorem in_of {a b t : Int} (h1 : a ≤ t) (h2 : t < b) : inW t [a, b] = true := by
  show (decide (a ≤ t) && decide (t < b)) = true
  rw [decide_eq_true h1, decide_eq_true h2]; rfl
theorem in_iff {t : Int} {u : List Int} : inW t u = true ↔ lo u ≤ t ∧ t < hi u := by
  unfold inW
  rw [Bool.and_eq_true, decide_eq_true_eq, decide_eq_true_eq]
theorem ses_all {size : Int} {ts : List Int} (hs : 1 ≤ size) : ∀ k, k ≤ (srt ts).length → Ses size (srt ts) k
  | 0, _ => ⟨⟨List.Pairwise.nil, fun u hu => (by cases hu)⟩, fun u hu => (by cases hu), fun h => absurd h (by omega), fun j hj => absurd hj (by omega)⟩
  | k + 1, hk => by
    have ih := ses_all (size := size) (ts := ts) hs k (Nat.le_of_succ_le hk)
    have e : sesK size (srt ts) (k + 1) = if k = 0 ∨ size < (srt ts).getD k default - (srt ts).getD (k - 1) default then sesK size (srt ts) k ++ [[(srt ts).getD k default, (srt ts).getD k default + size + 1]] else (sesK size (srt ts) k).set ((sesK size (srt ts) k).length - 1) [((sesK size (srt ts) k).getD ((sesK size (srt ts) k).length - 1) default).getD 0 0, (srt ts).getD k default + size + 1] := rfl
    have mono : 0 < k → (srt ts).getD (k - 1) default ≤ (srt ts).getD k default := fun h => srt_at (i := k - 1) (j := k) (by omega) (by omega)
    obtain ⟨x, hx⟩ : ∃ x, (srt ts).getD k default = x := ⟨_, rfl⟩
    obtain ⟨y, hy⟩ : ∃ y, (srt ts).getD (k - 1) default = y := ⟨_, rfl⟩
    rw [hx, hy] at e
    rw [hx, hy] at mono
    have il := ih.last
    have i1 := ih.fst
    rw [hy] at il i1
    by_cases hg : k = 0 ∨ size < x - y
    · rw [if_pos hg] at e
      have far : ∀ u, u ∈ sesK size (srt ts) k → hi u ≤ x := fun u hu => by
        rcases hg with h0 | h0
        · subst h0; cases hu
        · have := il u hu; omega
      refine ⟨?_, ?_, ?_, ?_⟩
      · rw [e]
        exact apart_snoc.2 ⟨ih.ap, far, by show x < x + size + 1; omega⟩
      · rw [e, Nat.add_sub_cancel, hx]
        intro u hu
        rcases List.mem_append.1 hu with q | q
        · have := far u q; omega
        · rw [List.mem_singleton.1 q]; exact Int.le_refl _
      · intro _
        rw [e, Nat.add_sub_cancel, hx, List.length_append, List.length_singleton, Nat.add_sub_cancel]
        simp [lo]
      · intro j hj
        rw [e]
        by_cases hjk : j = k
        · subst hjk
          rw [hx]
          exact ⟨_, List.mem_append_right _ (List.mem_singleton.2 rfl), in_of (Int.le_refl _) (by omega)⟩
        · obtain ⟨u, h1, h2⟩ := ih.has j (by omega)
          exact ⟨u, List.mem_append_left _ h1, h2⟩
    · rw [if_neg hg] at e
      have hk0 : 0 < k := by omega
      obtain ⟨I, z, h1, h2, h3⟩ := last_split ((ses_len size (srt ts) k).2 hk0)
      obtain ⟨a, ha⟩ := ses_end size (srt ts) k hk0
      rw [hy] at ha
      rw [h2] at ha
      have f1 := i1 hk0
      rw [h2] at f1 e
      rw [h3] at e
      have ez : z.getD 0 0 = a := by rw [ha]; rfl
      have f2 : a ≤ y := by rw [← ez]; exact f1
      rw [ez] at e
      have mo := mono hk0
      have ap := ih.ap
      rw [h1, ha] at ap
      obtain ⟨p1, p2, p3⟩ := apart_snoc.1 ap
      have p2' : ∀ u, u ∈ I → hi u ≤ a := p2
      refine ⟨?_, ?_, ?_, ?_⟩
      · rw [e]
        exact apart_snoc.2 ⟨p1, p2', by show a < x + size + 1; omega⟩
      · rw [e, Nat.add_sub_cancel, hx]
        intro u hu
        rcases List.mem_append.1 hu with q | q
        · have := p2' u q; omega
        · rw [List.mem_singleton.1 q]; exact Int.le_refl _
      · intro _
        rw [e, Nat.add_sub_cancel, hx, List.length_append, List.length_singleton, Nat.add_sub_cancel]
        simp [lo]
        omega
      · intro j hj
        rw [e]
        by_cases hjk : j = k
        · subst hjk
          rw [hx]
          exact ⟨_, List.mem_append_right _ (List.mem_singleton.2 rfl), in_of (by omega) (by omega)⟩
        · obtain ⟨u, q1, q2⟩ := ih.has j (by omega)
          rw [h1] at q1
          rcases List.mem_append.1 q1 with q | q
          · exact ⟨u, List.mem_append_left _ q, q2⟩
          · rw [List.mem_singleton.1 q, ha] at q2
            have q3 := in_iff.1 q2
            have q4 : a ≤ (srt ts).getD j default := q3.1
            have q5 : (srt ts).getD j default < y + size + 1 := q3.2
            exact ⟨_, List.mem_append_right _ (List.mem_singleton.2 rfl), in_of q4 (by omega)⟩
/-- What the law asks of the windows of times. -/
theorem wins_ok (q : Qry) (ts : List Int) : Asc (winsW q ts) ∧ ((winsW q ts).length ≠ 0 → ∀ t, t ∈ ts → 0 < cntW (winsW q ts) t ∧ (q.win ≠ 2 → cntW (winsW q ts) t = 1)) := by
  unfold winsW
  split
  next h =>
    simp only [Bool.and_eq_true] at h
    obtain ⟨h1, h2, h3⟩ := h
    have hw : winP q.win q.size q.every q.gps.length = true := by
      unfold qOk at h1
      simp only [Bool.and_eq_true] at h1
      exact h1.2.2.2.1
    unfold timesB at h3
    simp only [Bool.and_eq_true, decide_eq_true_eq] at h3
    have tin : ∀ t, t ∈ ts → 0 ≤ t ∧ t ≤ 1000000000000 := fun t ht => inT_iff (List.all_eq_true.1 h3.1 t ht)
    have one : ∀ {w : List (List Int)}, Apart w → (∀ t, t ∈ ts → ∃ u, u ∈ w ∧ inW t u = true) → Asc w ∧ (w.length ≠ 0 → ∀ t, t ∈ ts → 0 < cntW w t ∧ (q.win ≠ 2 → cntW w t = 1)) := fun ha hh => ⟨ha.asc, fun _ t ht => ⟨cnt_pos (hh t ht), fun _ => cnt_one ha (hh t ht)⟩⟩
    unfold winP at hw
    split
    next w1 =>
      rw [if_neg (by omega), if_pos (.inl w1)] at hw
      simp only [Bool.and_eq_true] at hw
      have sz := inR_true hw.2.1
      exact one (tum_apart sz.1 h3.1) (fun t ht => hop_has ht (tin t ht).1 sz.1 (Int.le_refl _))
    next w1 =>
    split
    next w2 =>
      rw [if_neg (by omega), if_neg (by omega), if_pos w2] at hw
      simp only [Bool.and_eq_true, decide_eq_true_eq] at hw
      have sz := inR_true hw.2.1
      have ev := inR_true hw.2.2.1
      exact ⟨hop_asc sz.1, fun _ t ht => ⟨cnt_pos (hop_has ht (tin t ht).1 ev.1 ev.2), fun hne => absurd w2 hne⟩⟩
    next w2 =>
    split
    next w3 =>
      rw [if_neg (by omega), if_pos (.inr w3)] at hw
      simp only [Bool.and_eq_true] at hw
      have sz := inR_true hw.2.1
      have S := ses_all (ts := ts) sz.1 ts.length (by rw [srt_len]; exact Nat.le_refl _)
      refine one S.ap (fun t ht => ?_)
      obtain ⟨j, hj, rfl⟩ := List.getElem_of_mem ((srt_perm ts).mem_iff.2 ht)
      have := S.has j (by rw [← srt_len]; exact hj)
      rw [List.getD_eq_getElem?_getD, List.getElem?_eq_getElem hj] at this
      exact this
    next w3 =>
      unfold allW
      split
      · exact ⟨⟨List.Pairwise.nil, fun u hu => by cases hu⟩, fun h => absurd rfl h⟩
      · refine one ⟨by simp, fun u hu => ?_⟩ (fun t ht => ⟨_, List.mem_singleton.2 rfl, in_of (tin t ht).1 (by have := (tin t ht).2; omega)⟩)
        rw [List.mem_singleton.1 hu]
        show (0 : Int) < 1000000000001
        decide
  next => exact ⟨⟨List.Pairwise.nil, fun u hu => by cases hu⟩, fun h => absurd rfl h⟩
end Go.Proofs.Ytkohhcjpjloaaaa.WdP
namespace Go.Proofs.Ytkohhcjpjloaaaa.WdQ
set_option maxRecDepth 8000
open Go.RowKit
open Ls Lp QyP QsP QtP XqP SrP WnP SnI WiI WoP WoO WnI WdP DsD
set_option linter.unusedVariables false
theorem ses_two (size : Int) (s : List Int) : ∀ k, ∀ u, u ∈ sesK size s k → ∃ a e, u = [a, e]
  | 0, u, h => by cases h
  | k + 1, u, h => by
    rw [sesK] at h
    split at h
    · rcases List.mem_append.1 h with q | q
      · exact ses_two size s k u q
      · exact ⟨_, _, List.mem_singleton.1 q⟩
    · rcases List.mem_or_eq_of_mem_set h with q | q
      · exact ses_two size s k u q
      · exact ⟨_, _, q⟩
theorem wins_two (q : Qry) (ts : List Int) : ∀ u, u ∈ winsW q ts → ∃ a e, u = [a, e] := by
  intro u hu
  unfold winsW at hu
  split at hu
  · split at hu
    · obtain ⟨s, _, h⟩ := win_mem hu; exact ⟨_, _, h⟩
    · split at hu
      · obtain ⟨s, _, h⟩ := win_mem hu; exact ⟨_, _, h⟩
      · split at hu
        · exact ses_two _ _ _ u hu
        · unfold allW at hu
          split at hu
          · cases hu
          · exact ⟨_, _, List.mem_singleton.1 hu⟩
  · cases hu
abbrev toyQ : Qry := ⟨⟨#[97]⟩, ⟨#[]⟩, 0, ⟨#[]⟩, ⟨#[]⟩, [], [⟨#[98]⟩], 1, 5, 0, [⟨1, [], ⟨#[110]⟩⟩]⟩
theorem toy_wins : winsW toyQ [7] = [[5, 10]] := by kernel_rfl
theorem cnt_next {w : List (List Int)} {t : Int} {i : Nat} (h : i < w.length) : cntW (w.take (i + 1)) t = cntW (w.take i) t + (if inW t (w.getD i default) = true then 1 else 0) := by
  have e : w.take (i + 1) = w.take i ++ [w.getD i default] := by rw [List.take_add_one, List.getElem?_eq_getElem h]; simp [h]
  unfold cntW
  rw [e, List.filter_append, List.length_append, List.filter_cons]
  split <;> rfl
/-- The windows, as they are read: number i lies in block G i at O i. -/
structure WR (w : World) (g o : Nat) (us : List (List Int)) (G O C : Nat → Nat) : Prop where
  row : ∀ i, i < us.length → w.cell? ⟨g, o + i, none⟩ = some (.slice (some ⟨G i, O i, none⟩) 2 (C i))
  c2 : ∀ i, i < us.length → 2 ≤ C i
  fst : ∀ i, i < us.length → w.cell? ⟨G i, O i, none⟩ = some (.int .i64 (lo (us.getD i default)))
  snd : ∀ i, i < us.length → w.cell? ⟨G i, O i + 1, none⟩ = some (.int .i64 (hi (us.getD i default)))
theorem wr_of {w : World} {v : Value} {us : List (List Int)} (h : LAt 1 EI2 w (Hp w) v us) (h2 : ∀ u, u ∈ us → ∃ a e, u = [a, e]) (h0 : 0 < us.length) : ∃ g o c G O C, v = .slice (some ⟨g, o, none⟩) us.length c ∧ us.length ≤ c ∧ g < w.heap.size ∧ (∀ i, i < us.length → G i < w.heap.size) ∧ WR w g o us G O C := by
  obtain ⟨hn, A, c, e, h⟩ := h
  obtain ⟨g, o, F, rfl, hg, hc, hcell, hel⟩ := h.resolve_left (by omega)
  have key : ∀ i, i < us.length → ∃ Gi Oi Ci, F i 0 = .slice (some ⟨Gi, Oi, none⟩) 2 Ci ∧ 2 ≤ Ci ∧ Gi < w.heap.size ∧ w.cell? ⟨Gi, Oi, none⟩ = some (.int .i64 (lo (us.getD i default))) ∧ w.cell? ⟨Gi, Oi + 1, none⟩ = some (.int .i64 (hi (us.getD i default))) := fun i hi => by
    have hm : us.getD i default ∈ us := by rw [List.getD_eq_getElem?_getD, List.getElem?_eq_getElem hi]; exact List.getElem_mem hi
    obtain ⟨a, e, hae⟩ := h2 _ hm
    have := hel i hi
    obtain ⟨hn', A', c', e', h'⟩ := this
    rw [hae] at h' e'
    obtain ⟨gi, oi, Fi, rfl, hgi, hci, hcl, hll⟩ := h'.resolve_left (by simp)
    refine ⟨gi, oi, c', e', hci, hgi, ?_, ?_⟩
    · have h1 := hcl 0 (by simp) 0 (by omega)
      have h3 : Fi 0 0 = .int .i64 a := hll 0 (by simp)
      rw [h3] at h1
      rw [hae]
      simpa using h1
    · have h1 := hcl 1 (by simp) 0 (by omega)
      have h3 : Fi 1 0 = .int .i64 e := hll 1 (by simp)
      rw [h3] at h1
      rw [hae]
      simpa using h1
  refine ⟨g, o, c, fun i => if h : i < us.length then (key i h).choose else 0, fun i => if h : i < us.length then (key i h).choose_spec.choose else 0, fun i => if h : i < us.length then (key i h).choose_spec.choose_spec.choose else 0, e, hc, hg, ?_, ?_⟩
  · intro i hi
    have s := (key i hi).choose_spec.choose_spec.choose_spec
    simp only [hi, dif_pos]
    exact s.2.2.1
  · refine ⟨fun i hi => ?_, fun i hi => ?_, fun i hi => ?_, fun i hi => ?_⟩
    all_goals
      have s := (key i hi).choose_spec.choose_spec.choose_spec
      simp only [hi, dif_pos]
    · have h1 := hcell i hi 0 (by omega)
      rw [s.1] at h1
      simpa using h1
    · exact s.2.1
    · exact s.2.2.2.1
    · exact s.2.2.2.2
theorem WR.below {w w' : World} {B g o : Nat} {us : List (List Int)} {G O C : Nat → Nat} (h : WR w g o us G O C) (hg : g < B) (hG : ∀ i, i < us.length → G i < B) (b : Below B w w') : WR w' g o us G O C :=
  ⟨fun i hi => by rw [b.cell (p := ⟨g, o + i, none⟩) hg]; exact h.row i hi, h.c2, fun i hi => by rw [b.cell (p := ⟨G i, O i, none⟩) (hG i hi)]; exact h.fst i hi, fun i hi => by rw [b.cell (p := ⟨G i, O i + 1, none⟩) (hG i hi)]; exact h.snd i hi⟩
theorem asc_at {us : List (List Int)} (h : Asc us) {i : Nat} (hi : i < us.length) : lo (us.getD i default) < WdP.hi (us.getD i default) :=
  h.pos _ (by rw [List.getD_eq_getElem?_getD, List.getElem?_eq_getElem hi]; exact List.getElem_mem hi)
theorem asc_two {us : List (List Int)} (h : Asc us) {i : Nat} (h0 : 0 < i) (hi : i < us.length) : lo (us.getD (i - 1) default) < lo (us.getD i default) := by
  have := List.pairwise_iff_getElem.1 h.ord (i - 1) i (by omega) hi (by omega)
  simpa [List.getD_eq_getElem?_getD, hi, (show i - 1 < us.length by omega)] using this
theorem ints_of {w : World} {v : Value} {ts : List Int} (h : LAt 1 EI w (Hp w) v ts) (h0 : 0 < ts.length) : ∃ g o c, v = .slice (some ⟨g, o, none⟩) ts.length c ∧ ts.length ≤ c ∧ g < w.heap.size ∧ ∀ i, i < ts.length → w.cell? ⟨g, o + i, none⟩ = some (.int .i64 (ts.getD i default)) := by
  obtain ⟨hn, A, c, e, h⟩ := h
  obtain ⟨g, o, F, rfl, hg, hc, hcell, hel⟩ := h.resolve_left (by omega)
  refine ⟨g, o, c, e, hc, hg, fun i hi => ?_⟩
  have h1 := hcell i hi 0 (by omega)
  have h3 : F i 0 = .int .i64 (ts.getD i default) := hel i hi
  rw [h3] at h1
  simpa using h1
end Go.Proofs.Ytkohhcjpjloaaaa.WdQ
