/- Two sides agree alike: plain facts. -/
import Derived.Test.YtmkkdladgoilmaaAgI
namespace Go.Proofs.Ytmkkdladgoilmaa.AgQ
set_option maxRecDepth 8000
open Ls Lp AgP AgI
set_option linter.unusedVariables false
def Srt (l : List Apx) : Prop := l.Pairwise (fun x y => x.key < y.key)
theorem srt_of : ∀ l : List Apx, ascL rA l = true → Srt l
  | [], _ => List.Pairwise.nil
  | [a], _ => by simp [Srt]
  | a :: b :: t, h => by
    simp only [ascL, Bool.and_eq_true, rA, decide_eq_true_eq] at h
    have ih := srt_of (b :: t) h.2
    refine List.Pairwise.cons (fun x hx => ?_) ih
    rcases List.mem_cons.1 hx with rfl | hx
    · exact h.1
    · have := (List.pairwise_cons.1 ih).1 x hx
      omega
theorem lst_comm (x y : Int) : lst x y = lst y x := by unfold lst; split <;> split <;> omega
theorem agk_comm (a b : Apx) : agk a b = agk b a := by
  unfold agk
  rw [lst_comm a.most b.most, Bool.eq_iff_iff]
  simp only [Bool.and_eq_true, decide_eq_true_eq]
  constructor <;> (intro h; exact ⟨h.1.symm, h.2.2, h.2.1⟩)
theorem mem_pr (a b x : Apx) : x ∈ pr a b ↔ agk a b = true ∧ x = ⟨a.key, lst a.most b.most, lst a.most b.most⟩ := by
  unfold pr
  split
  · rename_i h
    simp [h]
  · rename_i h
    simp [h]
theorem mem_prs (a x : Apx) : ∀ s : List Apx, x ∈ prs a s ↔ ∃ b, b ∈ s ∧ agk a b = true ∧ x = ⟨a.key, lst a.most b.most, lst a.most b.most⟩
  | [] => by simp [prs]
  | b :: r => by
    rw [prs, List.mem_append, mem_pr, mem_prs a x r]
    constructor
    · rintro (h | ⟨c, h1, h2⟩)
      · exact ⟨b, by simp, h⟩
      · exact ⟨c, by simp [h1], h2⟩
    · rintro ⟨c, h1, h2⟩
      rcases List.mem_cons.1 h1 with rfl | h1
      · exact .inl h2
      · exact .inr ⟨c, h1, h2⟩
theorem mem_ags (s : List Apx) (x : Apx) : ∀ c : List Apx, x ∈ ags s c ↔ ∃ a, a ∈ c ∧ ∃ b, b ∈ s ∧ agk a b = true ∧ x = ⟨a.key, lst a.most b.most, lst a.most b.most⟩
  | [] => by simp [ags]
  | a :: r => by
    rw [ags, List.mem_append, mem_prs, mem_ags s x r]
    constructor
    · rintro (h | ⟨c, h1, h2⟩)
      · exact ⟨a, by simp, h⟩
      · exact ⟨c, by simp [h1], h2⟩
    · rintro ⟨c, h1, h2⟩
      rcases List.mem_cons.1 h1 with rfl | h1
      · exact .inl h2
      · exact .inr ⟨c, h1, h2⟩
theorem agk_key {a b : Apx} (h : agk a b = true) : a.key = b.key ∧ a.least ≤ lst a.most b.most ∧ b.least ≤ lst a.most b.most := by
  simpa only [agk, Bool.and_eq_true, decide_eq_true_eq] using h
theorem prs_srt (a : Apx) : ∀ s : List Apx, Srt s → Srt (prs a s)
  | [], _ => List.Pairwise.nil
  | b :: r, h => by
    obtain ⟨h1, h2⟩ := List.pairwise_cons.1 h
    rw [prs]
    refine List.pairwise_append.2 ⟨?_, prs_srt a r h2, fun x hx y hy => ?_⟩
    · unfold pr
      split <;> simp
    · obtain ⟨k1, e1⟩ := (mem_pr a b x).1 hx
      obtain ⟨c, hc, k2, e2⟩ := (mem_prs a y r).1 hy
      have := h1 c hc
      have := (agk_key k1).1
      have := (agk_key k2).1
      omega
theorem ags_srt (s : List Apx) (hs : Srt s) : ∀ c : List Apx, Srt c → Srt (ags s c)
  | [], _ => List.Pairwise.nil
  | a :: r, h => by
    obtain ⟨h1, h2⟩ := List.pairwise_cons.1 h
    rw [ags]
    refine List.pairwise_append.2 ⟨prs_srt a s hs, ags_srt s hs r h2, fun x hx y hy => ?_⟩
    obtain ⟨b, _, _, rfl⟩ := (mem_prs a x s).1 hx
    obtain ⟨c, hc, b2, _, _, rfl⟩ := (mem_ags s y r).1 hy
    exact h1 c hc
theorem eq_of_mem : ∀ (l m : List Apx), Srt l → Srt m → (∀ x, x ∈ l ↔ x ∈ m) → l = m
  | [], [], _, _, _ => rfl
  | [], b :: m, _, _, h => by have := (h b).2 (by simp); cases this
  | a :: l, [], _, _, h => by have := (h a).1 (by simp); cases this
  | a :: l, b :: m, hl, hm, h => by
    obtain ⟨l1, l2⟩ := List.pairwise_cons.1 hl
    obtain ⟨m1, m2⟩ := List.pairwise_cons.1 hm
    have e : a = b := by
      rcases List.mem_cons.1 ((h a).1 (by simp)) with e | e
      · exact e
      · rcases List.mem_cons.1 ((h b).2 (by simp)) with e2 | e2
        · exact e2.symm
        · have := m1 a e
          have := l1 b e2
          omega
    subst e
    rw [eq_of_mem l m l2 m2 fun x => ⟨fun hx => ?_, fun hx => ?_⟩]
    · rcases List.mem_cons.1 ((h x).1 (by simp [hx])) with rfl | hx'
      · have := l1 x hx; omega
      · exact hx'
    · rcases List.mem_cons.1 ((h x).2 (by simp [hx])) with rfl | hx'
      · have := m1 x hx; omega
      · exact hx'
theorem srt_apis {l : List Apx} (h : apis l = true) : Srt l := by
  rw [apis_eq] at h
  simp only [Bool.and_eq_true] at h
  exact srt_of l h.2.1
theorem ok_comm (a b : List Apx) : agOk b a = agOk a b := by unfold agOk; rw [Bool.and_comm]
theorem agree_comm (a b : List Apx) : agree b a = agree a b := by
  unfold agree
  rw [ok_comm]
  split
  · rename_i h
    simp only [agOk, Bool.and_eq_true] at h
    have sa := srt_apis h.1
    have sb := srt_apis h.2
    refine eq_of_mem _ _ (ags_srt a sa b sb) (ags_srt b sb a sa) fun x => ?_
    rw [mem_ags, mem_ags]
    constructor
    · rintro ⟨c, hc, d, hd, k, rfl⟩
      refine ⟨d, hd, c, hc, by rw [agk_comm]; exact k, ?_⟩
      rw [lst_comm, (agk_key k).1]
    · rintro ⟨c, hc, d, hd, k, rfl⟩
      refine ⟨d, hd, c, hc, by rw [agk_comm]; exact k, ?_⟩
      rw [lst_comm, (agk_key k).1]
  · rfl
theorem srt_uniq : ∀ {l : List Apx}, Srt l → ∀ {x y : Apx}, x ∈ l → y ∈ l → x.key = y.key → x = y
  | [], _, x, y, hx, _, _ => by cases hx
  | a :: r, h, x, y, hx, hy, e => by
    obtain ⟨h1, h2⟩ := List.pairwise_cons.1 h
    rcases List.mem_cons.1 hx with hx | hx
    · rcases List.mem_cons.1 hy with hy | hy
      · rw [hx, hy]
      · have := h1 y hy
        rw [hx] at e
        omega
    · rcases List.mem_cons.1 hy with hy | hy
      · have := h1 x hx
        rw [hy] at e
        omega
      · exact srt_uniq h2 hx hy e
/-- What both sides agree on is one version, and one that each of them has. -/
theorem agree_in (a b : List Apx) {x : Apx} (h : x ∈ agree a b) : x.least = x.most ∧ ∀ y, y ∈ a → y.key = x.key → y.least ≤ x.most ∧ x.most ≤ y.most := by
  unfold agree at h
  split at h
  · rename_i hok
    simp only [agOk, Bool.and_eq_true] at hok
    have sa := srt_apis hok.1
    obtain ⟨c, hc, d, hd, k, rfl⟩ := (mem_ags b x a).1 h
    refine ⟨rfl, fun y hy e => ?_⟩
    obtain rfl := srt_uniq sa hy hc e
    refine ⟨(agk_key k).2.1, ?_⟩
    show lst y.most d.most ≤ y.most
    unfold lst
    split <;> omega
  · cases h
end Go.Proofs.Ytmkkdladgoilmaa.AgQ
