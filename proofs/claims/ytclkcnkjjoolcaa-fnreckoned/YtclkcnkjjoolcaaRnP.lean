/- Expressions, plain: their steps taken from behind, and the number that each comes to in a row. -/
import Derived.Test.YtclkcnkjjoolcaaQrP
import Derived.Test.YtclkcnkjjoolcaaYcP
namespace Go.Proofs.Ytclkcnkjjoolcaa.RnP
set_option maxRecDepth 8000
open Go.RowKit
open Ls Lp QyP QsP QtP QuP QdP QrP YcP
set_option linter.unusedVariables false
/-- What the four ways of building ask of a relation between steps and numbers. -/
structure Shut (cols : List ByteArray) (P : List Stp → (List Int → Int) → Prop) : Prop where
  num : ∀ (s : Stp), s.op = 1 → inM s.num = true → P [s] (fun _ => s.num)
  col : ∀ (s : Stp), s.op = 2 → hasT cols s.name = true → P [s] (fun row => QrP.look cols row s.name)
  nt : ∀ (e : List Stp) (f : List Int → Int) (s : Stp), P e f → s.op = 12 → P (e ++ [s]) (fun row => b01 (decide (f row = 0)))
  two : ∀ (a : List Stp) (f : List Int → Int) (b : List Stp) (g : List Int → Int) (s : Stp), P a f → P b g → 3 ≤ s.op ∧ s.op ≤ 11 → P (a ++ b ++ [s]) (fun row => doS s.op (f row) (g row))
/-- The steps of one expression, and the number that it comes to in a row: the least such relation. -/
def Ex (cols : List ByteArray) (e : List Stp) (f : List Int → Int) : Prop := ∀ P, Shut cols P → P e f
theorem Ex.num {cols : List ByteArray} (s : Stp) (h : s.op = 1) (hm : inM s.num = true) : Ex cols [s] (fun _ => s.num) := fun _ q => q.num s h hm
theorem Ex.col {cols : List ByteArray} (s : Stp) (h : s.op = 2) (hc : hasT cols s.name = true) : Ex cols [s] (fun row => QrP.look cols row s.name) := fun _ q => q.col s h hc
theorem Ex.nt {cols : List ByteArray} (e : List Stp) (f : List Int → Int) (s : Stp) (he : Ex cols e f) (h : s.op = 12) : Ex cols (e ++ [s]) (fun row => b01 (decide (f row = 0))) := fun P q => q.nt e f s (he P q) h
theorem Ex.two {cols : List ByteArray} (a : List Stp) (f : List Int → Int) (b : List Stp) (g : List Int → Int) (s : Stp) (ha : Ex cols a f) (hb : Ex cols b g) (h : 3 ≤ s.op ∧ s.op ≤ 11) : Ex cols (a ++ b ++ [s]) (fun row => doS s.op (f row) (g row)) := fun P q => q.two a f b g s (ha P q) (hb P q) h
theorem Ex.ind {cols : List ByteArray} {motive : ∀ (e : List Stp) (f : List Int → Int), Ex cols e f → Prop}
    (num : ∀ (s : Stp) (h : s.op = 1) (hm : inM s.num = true), motive _ _ (.num s h hm))
    (col : ∀ (s : Stp) (h : s.op = 2) (hc : hasT cols s.name = true), motive _ _ (.col s h hc))
    (nt : ∀ (e : List Stp) (f : List Int → Int) (s : Stp) (he : Ex cols e f) (h : s.op = 12), motive e f he → motive _ _ (.nt e f s he h))
    (two : ∀ (a : List Stp) (f : List Int → Int) (b : List Stp) (g : List Int → Int) (s : Stp) (ha : Ex cols a f) (hb : Ex cols b g) (h : 3 ≤ s.op ∧ s.op ≤ 11), motive a f ha → motive b g hb → motive _ _ (.two a f b g s ha hb h))
    {e : List Stp} {f : List Int → Int} (h : Ex cols e f) : motive e f h := by
  have k := h (fun e f => ∃ q : Ex cols e f, motive e f q)
    { num := fun s h hm => ⟨_, num s h hm⟩
      col := fun s h hc => ⟨_, col s h hc⟩
      nt := fun e f s p h => ⟨_, nt e f s p.1 h p.2⟩
      two := fun a f b g s p q h => ⟨_, two a f b g s p.1 q.1 h p.2 q.2⟩ }
  exact k.2
theorem run_app (cols : List ByteArray) (row : List Int) : ∀ (a b : List Stp) (st : List Int), runV cols row (a ++ b) st = runV cols row b (runV cols row a st)
  | [], b, st => rfl
  | s :: a, b, st => by rw [List.cons_append, runV, runV, run_app cols row a b]
theorem ex_run {cols : List ByteArray} {e : List Stp} {f : List Int → Int} (h : Ex cols e f) : ∀ row st, runV cols row e st = st ++ [f row] := by
  induction h using Ex.ind with
  | num s h hm => intro row st; simp [runV, stepV, h]
  | col s h hc => intro row st; simp [runV, stepV, h]
  | nt e f s he h ih =>
    intro row st
    rw [run_app, ih]
    simp [runV, stepV, h]
  | two a f b g s ha hb h iha ihb =>
    intro row st
    have h1 : s.op ≠ 1 := by omega
    have h2 : s.op ≠ 2 := by omega
    have h3 : s.op ≠ 12 := by omega
    rw [run_app, run_app, iha, ihb]
    simp only [runV, stepV, if_neg h1, if_neg h2, if_neg h3]
    have e1 : (st ++ [f row] ++ [g row]).length - 2 = st.length := by simp
    have e2 : (st ++ [f row] ++ [g row]).length - 1 = st.length + 1 := by simp
    rw [e1, e2]
    have e3 : (st ++ [f row] ++ [g row]).getD st.length 0 = f row := by simp
    have e4 : (st ++ [f row] ++ [g row]).getD (st.length + 1) 0 = g row := by simp
    rw [e3, e4]
    simp [List.take_append, List.take_of_length_le]
theorem tdiv_m {a b : Int} (ha : inM a = true) (hb : b ≠ 0) : inM (Int.tdiv a b) = true := by
  have h := inR_true ha
  have h2 : (Int.tdiv a b).natAbs ≤ a.natAbs := by rw [Int.natAbs_tdiv]; exact Nat.div_le_self _ _
  simp only [inM, inR, Bool.and_eq_true, decide_eq_true_eq]
  omega
theorem tmod_m {a b : Int} (ha : inM a = true) : inM (Int.tmod a b) = true := by
  have h := inR_true ha
  have h2 : (Int.tmod a b).natAbs ≤ a.natAbs := by rw [Int.natAbs_tmod]; exact Nat.mod_le _ _
  simp only [inM, inR, Bool.and_eq_true, decide_eq_true_eq]
  omega
theorem do_in {op a b : Int} (ha : inM a = true) (hb : inM b = true) : inM (doS op a b) = true := by
  unfold doS
  split
  · exact kept_in _
  split
  · exact kept_in _
  split
  · unfold prodP
    split
    · decide
    · next h1 =>
      split
      · decide
      · next h2 =>
        have := prod_le (a := a) (b := b) (by omega) h2
        simp only [inM, inR, Bool.and_eq_true, decide_eq_true_eq]
        exact this
  split
  · split
    · decide
    · next h => exact tdiv_m ha h
  split
  · split
    · decide
    · exact tmod_m ha
  split
  · exact b01_in _
  split
  · exact b01_in _
  split
  · exact b01_in _
  · exact b01_in _
theorem row_in {row : List Int} (h : row.all inM = true) (k : Nat) : inM (row.getD k 0) = true := by
  by_cases hk : k < row.length
  · have := List.all_eq_true.1 h (row[k]) (List.getElem_mem hk)
    simpa [hk] using this
  · rw [List.getD_eq_getElem?_getD, List.getElem?_eq_none (by omega)]; decide
theorem ex_in {cols : List ByteArray} {e : List Stp} {f : List Int → Int} (h : Ex cols e f) {row : List Int} (hr : row.all inM = true) : inM (f row) = true := by
  induction h using Ex.ind with
  | num s h hm => exact hm
  | col s h hc => exact row_in hr _
  | nt e f s he h ih => exact b01_in _
  | two a f b g s ha hb h iha ihb => exact do_in iha ihb
theorem ex_pos {cols : List ByteArray} {e : List Stp} {f : List Int → Int} (h : Ex cols e f) : 0 < e.length := by
  induction h using Ex.ind <;> first | (simp; done) | (simp; omega)
/-- What the steps so far are: one expression for each number that lies there, the top one first. -/
def cat : List (List Stp × (List Int → Int)) → List Stp
  | [] => []
  | p :: r => cat r ++ p.1
theorem parse {cols : List ByteArray} : ∀ (l : List Stp) (h h' : Int) (es : List (List Stp × (List Int → Int))), (es.length : Int) = h → (∀ p, p ∈ es → Ex cols p.1 p.2) → l.all (see cols) = true → runH l h = some h' → ∃ es' : List (List Stp × (List Int → Int)), (es'.length : Int) = h' ∧ cat es' = cat es ++ l ∧ ∀ p, p ∈ es' → Ex cols p.1 p.2
  | [], h, h', es, hl, he, hs, hr => by
    simp only [runH, Option.some.injEq] at hr
    exact ⟨es, by omega, by simp, he⟩
  | s :: l, h, h', es, hl, he, hs, hr => by
    simp only [List.all_cons, Bool.and_eq_true] at hs
    rw [runH] at hr
    cases hst : stepH s h with
    | none => rw [hst] at hr; cases hr
    | some k =>
      rw [hst] at hr
      have key : ∃ es1 : List (List Stp × (List Int → Int)), (es1.length : Int) = k ∧ cat es1 = cat es ++ [s] ∧ ∀ p, p ∈ es1 → Ex cols p.1 p.2 := by
        rcases step_inv hst with ⟨h1, h2, h3⟩ | ⟨h1, h3⟩ | ⟨h1, h2, h3⟩ | ⟨h1, h2, h3⟩
        · refine ⟨([s], fun _ => s.num) :: es, by simp; omega, rfl, fun p hp => ?_⟩
          rcases List.mem_cons.1 hp with rfl | hp
          · exact .num s h1 h2
          · exact he p hp
        · refine ⟨([s], fun row => QrP.look cols row s.name) :: es, by simp; omega, rfl, fun p hp => ?_⟩
          rcases List.mem_cons.1 hp with rfl | hp
          · refine .col s h1 ?_
            have := hs.1
            unfold see at this
            simpa [h1] using this
          · exact he p hp
        · match es, hl, he with
          | [], hl, he => simp at hl; omega
          | p :: r, hl, he =>
            refine ⟨(p.1 ++ [s], fun row => b01 (decide (p.2 row = 0))) :: r, by simp at hl ⊢; omega, by simp [cat], fun q hq => ?_⟩
            rcases List.mem_cons.1 hq with rfl | hq
            · exact .nt p.1 p.2 s (he p (List.mem_cons_self ..)) h1
            · exact he q (List.mem_cons_of_mem _ hq)
        · match es, hl, he with
          | [], hl, he => simp at hl; omega
          | [_], hl, he => simp at hl; omega
          | b :: a :: r, hl, he =>
            refine ⟨(a.1 ++ b.1 ++ [s], fun row => doS s.op (a.2 row) (b.2 row)) :: r, by simp at hl ⊢; omega, by simp [cat], fun q hq => ?_⟩
            rcases List.mem_cons.1 hq with rfl | hq
            · exact .two a.1 a.2 b.1 b.2 s (he a (by simp)) (he b (by simp)) h1
            · exact he q (List.mem_cons_of_mem _ (List.mem_cons_of_mem _ hq))
      obtain ⟨es1, k1, k2, k3⟩ := key
      obtain ⟨es', q1, q2, q3⟩ := parse l k h' es1 k1 k3 hs.2 hr
      exact ⟨es', q1, by rw [q2, k2]; simp, q3⟩
theorem ex_of {cols : List ByteArray} {l : List Stp} (h : stepsOk l = true) (hs : sees l cols = true) : ∃ f, Ex cols l f := by
  unfold stepsOk at h
  simp only [Bool.and_eq_true] at h
  have h2 := h.2
  cases hr : runH l 0 with
  | none => rw [hr] at h2; cases h2
  | some k =>
    rw [hr] at h2
    have hk : k = 1 := by simpa [endH] using h2
    obtain ⟨es', q1, q2, q3⟩ := parse (cols := cols) l 0 k [] rfl (fun p hp => absurd hp (by simp)) hs hr
    match es', q1, q2, q3 with
    | [], q1, q2, q3 => simp at q1; omega
    | [p], q1, q2, q3 =>
      refine ⟨p.2, ?_⟩
      have := q3 p (by simp)
      simp only [cat, List.nil_append] at q2
      rw [← q2]
      exact this
    | _ :: _ :: _, q1, q2, q3 => simp at q1; omega
theorem look_ix {cols : List ByteArray} {n : ByteArray} (h : hasT cols n = true) : ∃ k : Nat, k < cols.length ∧ ixT cols n = (k : Int) ∧ ∀ row, QrP.look cols row n = row.getD k 0 := by
  have h2 := has_ix cols n
  rw [h] at h2
  have h3 : 0 ≤ ixT cols n := by simpa using h2.symm
  unfold ixT at h3 ⊢
  cases hf : cols.findIdx? (fun m => m.toList == n.toList) with
  | none => rw [hf] at h3; simp at h3
  | some k =>
    have hf' := hf
    rw [List.findIdx?_eq_some_iff_getElem] at hf
    obtain ⟨hk, -, -⟩ := hf
    refine ⟨k, hk, rfl, fun row => ?_⟩
    unfold QrP.look
    rw [List.findIdx?_eq_some_iff_findIdx_eq] at hf'
    rw [hf'.2]
end Go.Proofs.Ytclkcnkjjoolcaa.RnP
