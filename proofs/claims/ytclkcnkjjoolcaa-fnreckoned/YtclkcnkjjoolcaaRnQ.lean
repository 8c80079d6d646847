/- Two expressions put together, and one with a not behind it, plain. -/
import Derived.Test.YtclkcnkjjoolcaaRnP
namespace Go.Proofs.Ytclkcnkjjoolcaa.RnQ
set_option maxRecDepth 8000
open Go.RowKit
open Ls Lp QyP QsP QtP QuP QdP QrP YcP RnP
set_option linter.unusedVariables false
theorem step_shift {s : Stp} {h h' : Int} (e : stepH s h = some h') : stepH s (h + 1) = some (h' + 1) := by
  unfold stepH at e ⊢
  split
  · next h1 =>
    rw [if_pos h1] at e
    split at e
    · next h2 => rw [if_pos h2]; simp only [Option.some.injEq] at e; rw [← e]
    · cases e
  · next h1 =>
    rw [if_neg h1] at e
    split
    · next h2 =>
      rw [if_pos h2] at e
      split at e
      · next h3 => rw [if_pos h3]; simp only [Option.some.injEq] at e; rw [← e]
      · cases e
    · next h2 =>
      rw [if_neg h2] at e
      split
      · next h3 =>
        rw [if_pos h3] at e
        split at e
        · next h4 =>
          simp only [Bool.and_eq_true, Bool.or_eq_true, decide_eq_true_eq] at h4
          rw [if_pos (by simp only [Bool.and_eq_true, Bool.or_eq_true, decide_eq_true_eq]; exact ⟨h4.1, h4.2.1, by omega, h4.2.2.2.imp (fun h5 => by omega) id⟩)]
          simp only [Option.some.injEq] at e ⊢
          rw [← e]
          split <;> omega
        · cases e
      · next h3 => rw [if_neg h3] at e; cases e
theorem run_shift : ∀ {l : List Stp} {h h' : Int}, runH l h = some h' → runH l (h + 1) = some (h' + 1)
  | [], h, h', e => by simp only [runH, Option.some.injEq] at e ⊢; omega
  | s :: r, h, h', e => by
    rw [runH] at e ⊢
    cases hs : stepH s h with
    | none => rw [hs] at e; cases e
    | some k =>
      rw [hs] at e
      rw [step_shift hs]
      exact run_shift e
theorem run_both : ∀ {l m : List Stp} {h k : Int}, runH l h = some k → runH (l ++ m) h = runH m k
  | [], m, h, k, e => by simp only [runH, Option.some.injEq] at e; rw [e]; rfl
  | s :: r, m, h, k, e => by
    rw [List.cons_append, runH]
    rw [runH] at e
    cases hs : stepH s h with
    | none => rw [hs] at e; cases e
    | some q => rw [hs] at e; exact run_both e
theorem steps_run {l : List Stp} (h : stepsOk l = true) : runH l 0 = some 1 := by
  unfold stepsOk at h
  simp only [Bool.and_eq_true] at h
  have h2 := h.2
  cases hr : runH l 0 with
  | none => rw [hr] at h2; cases h2
  | some k => rw [hr] at h2; simp only [endH, decide_eq_true_eq] at h2; rw [h2]
theorem ok_parts {l : List Stp} {cols : List ByteArray} {row : List Int} (h : recOk l cols row = true) : stepsOk l = true ∧ cols.length = row.length ∧ sees l cols = true ∧ row.all inM = true := by
  unfold recOk at h
  simp only [Bool.and_eq_true, decide_eq_true_eq] at h
  exact ⟨h.1, h.2.1, h.2.2.1, h.2.2.2⟩
theorem reck_ex {l : List Stp} {cols : List ByteArray} {row : List Int} {f : List Int → Int} (h : recOk l cols row = true) (he : Ex cols l f) : reckon l cols row = f row := by
  unfold reckon
  rw [if_pos h, ex_run he]
  simp
theorem em_nil : em ⟨#[]⟩ = true := by
  unfold em ByteArray.toList
  rw [ByteArray.toList.loop]
  rfl
abbrev op0 (k : Int) : Stp := ⟨k, 0, ⟨#[]⟩⟩
theorem two_ok {a b : List Stp} {cols : List ByteArray} {row : List Int} {k : Int} (hk : 3 ≤ k ∧ k ≤ 11) (ha : recOk a cols row = true) (hb : recOk b cols row = true) (hl : a.length + b.length < 60) : recOk (a ++ b ++ [op0 k]) cols row = true ∧ reckon (a ++ b ++ [op0 k]) cols row = doS k (reckon a cols row) (reckon b cols row) := by
  obtain ⟨a1, a2, a3, a4⟩ := ok_parts ha
  obtain ⟨b1, b2, b3, b4⟩ := ok_parts hb
  obtain ⟨f, hf⟩ := ex_of a1 a3
  obtain ⟨g, hg⟩ := ex_of b1 b3
  have hr : runH (a ++ b ++ [op0 k]) 0 = some 1 := by
    have sb : runH b 1 = some 2 := run_shift (steps_run b1)
    rw [List.append_assoc, run_both (steps_run a1), run_both sb, runH]
    have : stepH (op0 k) 2 = some 1 := by
      rw [step_op (s := op0 k) (a := true) (b := true) (c := true) ⟨hk.1, by show k ≤ 12; omega⟩ em_nil rfl (by simp)]
      simp only [Bool.and_true, if_true]
      rw [if_neg (by show ¬ k = 12; omega)]
      rfl
    rw [this]
    rfl
  have ok : recOk (a ++ b ++ [op0 k]) cols row = true := by
    unfold recOk stepsOk sees
    rw [hr]
    simp only [Bool.and_eq_true, decide_eq_true_eq, List.all_append, List.all_cons, List.all_nil]
    refine ⟨⟨by simp; omega, rfl⟩, a2, ⟨⟨a3, b3⟩, ?_, trivial⟩, a4⟩
    unfold see
    rw [decide_eq_false (by show ¬ k = 2; omega)]
    rfl
  refine ⟨ok, ?_⟩
  rw [reck_ex ok (.two a f b g (op0 k) hf hg hk), reck_ex ha hf, reck_ex hb hg]
theorem not_ok {a : List Stp} {cols : List ByteArray} {row : List Int} (ha : recOk a cols row = true) (hl : a.length < 60) : recOk (a ++ [op0 12]) cols row = true ∧ reckon (a ++ [op0 12]) cols row = b01 (decide (reckon a cols row = 0)) := by
  obtain ⟨a1, a2, a3, a4⟩ := ok_parts ha
  obtain ⟨f, hf⟩ := ex_of a1 a3
  have hr : runH (a ++ [op0 12]) 0 = some 1 := by
    rw [run_both (steps_run a1), runH]
    have : stepH (op0 12) 1 = some 1 := by
      rw [step_op (s := op0 12) (a := true) (b := true) (c := true) ⟨by decide, by decide⟩ em_nil rfl (by decide)]
      simp
    rw [this]
    rfl
  have ok : recOk (a ++ [op0 12]) cols row = true := by
    unfold recOk stepsOk sees
    rw [hr]
    simp only [Bool.and_eq_true, decide_eq_true_eq, List.all_append, List.all_cons, List.all_nil]
    refine ⟨⟨by simp; omega, rfl⟩, a2, ⟨a3, ?_, trivial⟩, a4⟩
    rfl
  refine ⟨ok, ?_⟩
  rw [reck_ex ok (.nt a f (op0 12) hf rfl), reck_ex ha hf]
abbrev toyL : List Stp := [⟨1, 7, ⟨#[]⟩⟩, ⟨1, 2, ⟨#[]⟩⟩, ⟨6, 0, ⟨#[]⟩⟩]
theorem toy_ok : recOk toyL [] [] = true := by
  have h : runH toyL 0 = some 1 := by
    have h1 : stepH ⟨1, 7, ⟨#[]⟩⟩ 0 = some 1 := by rw [step_num (b := true) (e := true) rfl rfl em_nil]; rfl
    have h2 : stepH ⟨1, 2, ⟨#[]⟩⟩ 1 = some 2 := by rw [step_num (b := true) (e := true) rfl rfl em_nil]; rfl
    have h3 : stepH ⟨6, 0, ⟨#[]⟩⟩ 2 = some 1 := by rw [step_op (a := true) (b := true) (c := true) ⟨by decide, by decide⟩ em_nil rfl (by decide)]; rfl
    rw [toyL, runH, h1]
    show runH _ 1 = _
    rw [runH, h2]
    show runH _ 2 = _
    rw [runH, h3]
    rfl
  unfold recOk stepsOk
  rw [h]
  rfl
theorem toy : reckon toyL [] [] = 3 := by
  unfold reckon
  rw [if_pos toy_ok]
  simp [runV, stepV, doS]
end Go.Proofs.Ytclkcnkjjoolcaa.RnQ
