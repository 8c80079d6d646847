/- Where a producer's transaction stands in the list of open ones. -/
import Derived.Test.YtdnfnjlnfmafkaaJVS27
namespace Go.Proofs.Ytdnfnjlnfmafkaa.SdN
set_option maxRecDepth 8000
open Go.RowKit
open Ls SdQ SdM SdJ
open Recs (Bat)
set_option linter.unusedVariables false
def UN (st : List Gon) : Prop := (st.map (·.producer)).Nodup
theorem fnd_none {p : Int} : ∀ {st : List Gon}, fnd p st = none → ∀ g ∈ st, g.producer ≠ p
  | [], _, g, h => by cases h
  | x :: r, h, g, hg => by
    simp only [fnd] at h
    split at h
    · cases h
    · rename_i hx
      rcases List.mem_cons.1 hg with e | e
      · subst e; exact hx
      · exact fnd_none h g e
theorem un_app {st : List Gon} (h : UN st) {p f l : Int} (hp : fnd p st = none) : UN (st ++ [⟨p, f, l⟩]) := by
  unfold UN at h ⊢
  rw [List.map_append, List.nodup_append]
  refine ⟨h, by simp, fun a ha b hb => ?_⟩
  simp only [List.map_cons, List.map_nil, List.mem_singleton] at hb
  obtain ⟨g, hg, e⟩ := List.mem_map.1 ha
  rw [hb, ← e]
  exact fnd_none hp g hg
theorem un_del {st : List Gon} (h : UN st) (p : Int) : UN (del p st) := by
  unfold UN at h ⊢
  exact (List.filter_sublist.map _).nodup h
theorem un_step {s : List Gon × List Gon} (h : UN s.1) (b : Bat) : UN (stp s b).1 := by
  rw [step_fst]
  unfold opn2
  split
  · exact un_del h _
  · split
    · rename_i h1
      simp only [Bool.and_eq_true, Option.isNone_iff_eq_none] at h1
      exact un_app h h1.2
    · exact h
/-- The last place below j at which the producer stands. -/
def ix (p : Int) (st : List Gon) : Nat → Int
  | 0 => -1
  | j + 1 => if (st.getD j default).producer = p then (j : Int) else ix p st j
theorem ix_none {p : Int} {st : List Gon} (h : fnd p st = none) : ∀ j, j ≤ st.length → ix p st j = -1
  | 0, _ => rfl
  | j + 1, hj => by
    have hm : (st.getD j default) ∈ st := by
      have e : st.getD j default = st[j] := by simp [show j < st.length by omega]
      rw [e]; exact List.getElem_mem _
    simp only [ix]
    rw [if_neg (fnd_none h _ hm)]
    exact ix_none h j (by omega)
theorem parts {p f : Int} : ∀ {st : List Gon}, UN st → fnd p st = some f → ∃ a g c, st = a ++ g :: c ∧ g.producer = p ∧ g.first = f ∧ (∀ x ∈ a, x.producer ≠ p) ∧ (∀ x ∈ c, x.producer ≠ p)
  | [], _, h => by cases h
  | x :: r, hu, h => by
    unfold UN at hu
    rw [List.map_cons, List.nodup_cons] at hu
    simp only [fnd] at h
    split at h
    · rename_i hx
      cases h
      exact ⟨[], x, r, rfl, hx, rfl, fun y hy => (by cases hy), fun y hy e => hu.1 (by rw [hx, ← e]; exact List.mem_map.2 ⟨y, hy, rfl⟩)⟩
    · rename_i hx
      obtain ⟨a, g, c, h1, h2, h3, h4, h5⟩ := parts (st := r) hu.2 h
      refine ⟨x :: a, g, c, by rw [h1]; rfl, h2, h3, fun y hy => ?_, h5⟩
      rcases List.mem_cons.1 hy with e | e
      · subst e; exact hx
      · exact h4 y e
theorem ix_some {p f : Int} {st : List Gon} (hu : UN st) (h : fnd p st = some f) : ∃ i : Nat, i < st.length ∧ ix p st st.length = (i : Int) ∧ (st.getD i default).first = f ∧ del p st = st.take i ++ st.drop (i + 1) := by
  obtain ⟨a, g, c, rfl, h2, h3, h4, h5⟩ := parts hu h
  refine ⟨a.length, by simp, ?_, by simp [h3], ?_⟩
  · have key : ∀ j, a.length < j → j ≤ (a ++ g :: c).length → ix p (a ++ g :: c) j = (a.length : Int) := by
      intro j
      induction j with
      | zero => intro h; omega
      | succ j ih =>
        intro h1 h2'
        simp only [ix]
        by_cases e : j = a.length
        · subst e
          have : ((a ++ g :: c).getD a.length default) = g := by simp
          rw [this, if_pos h2]
        · obtain ⟨d, rfl⟩ : ∃ d, j = a.length + 1 + d := ⟨j - (a.length + 1), by omega⟩
          have hlt : d < c.length := by simp at h2'; omega
          have e2 : (a ++ g :: c).getD (a.length + 1 + d) default = c[d] := by
            rw [List.getD_eq_getElem?_getD, List.getElem?_append_right (by omega), show a.length + 1 + d - a.length = d + 1 by omega, List.getElem?_cons_succ]
            simp [hlt]
          rw [e2, if_neg (h5 _ (List.getElem_mem _))]
          exact ih (by omega) (by omega)
    exact key _ (by simp) (Nat.le_refl _)
  · unfold del
    rw [List.filter_append, List.filter_cons, List.filter_eq_self.2 (fun x hx => by simp [h4 x hx])]
    have h6 : (c.filter fun g => !decide (g.producer = p)) = c := List.filter_eq_self.2 (fun x hx => by simp [h5 x hx])
    rw [h6]
    simp [h2]
theorem op_of_mk {b : Bat} (h : BOk.batOk b = true) (hm : mk b = true) : op b = true := by
  have hf := (ok_flags h).1
  unfold BOk.batOk at h
  simp only [Bool.and_eq_true, Bool.not_eq_true'] at h
  have h2 := h.1.1.1.2
  unfold BOk.bad2 BOk.q0 at h2
  simp only [mk, decide_eq_true_eq] at hm
  simp only [Bool.or_eq_false_iff, Bool.and_eq_false_iff] at h2
  have h3 := h2.2
  unfold op
  have e4 : ((wrap64 (Int.tdiv 4 2)).tmod 2 == 0) = true := by kernel_rfl
  have e5 : ((wrap64 (Int.tdiv 5 2)).tmod 2 == 0) = true := by kernel_rfl
  rcases flags_ways hf.1 hf.2 with e | e | e | e | e | e | e | e <;> rw [e] at h3 hm ⊢
  · exfalso; omega
  · exfalso; omega
  · exfalso; omega
  · exfalso; omega
  · exfalso; rw [e4] at h3; simp at h3
  · exfalso; rw [e5] at h3; simp at h3
  · rfl
  · rfl
theorem stp_no {s : List Gon × List Gon} {b : Bat} (h1 : mk b = false) (h2 : op b = false) : stp s b = s := by simp [stp, h1, h2]
theorem stp_under {s : List Gon × List Gon} {b : Bat} (h1 : mk b = false) (h2 : fnd b.producer s.1 ≠ none) : stp s b = s := by
  unfold stp
  rw [h1]
  cases h : fnd b.producer s.1 with
  | none => exact absurd h h2
  | some f => simp
theorem stp_open {s : List Gon × List Gon} {b : Bat} (h1 : mk b = false) (h2 : op b = true) (h3 : fnd b.producer s.1 = none) : stp s b = (s.1 ++ [⟨b.producer, b.base, 0⟩], s.2) := by simp [stp, h1, h2, h3]
theorem stp_idle {s : List Gon × List Gon} {b : Bat} (h1 : mk b = true) (h3 : fnd b.producer s.1 = none) : stp s b = s := by simp [stp, h1, h3]
theorem stp_end {s : List Gon × List Gon} {b : Bat} {f : Int} (h1 : mk b = true) (h3 : fnd b.producer s.1 = some f) : stp s b = (del b.producer s.1, if abort b = true then s.2 ++ [⟨b.producer, f, b.base⟩] else s.2) := by simp [stp, h1, h3]
end Go.Proofs.Ytdnfnjlnfmafkaa.SdN
