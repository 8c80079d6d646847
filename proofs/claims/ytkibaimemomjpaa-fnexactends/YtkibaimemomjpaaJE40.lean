/- Ends: how much the law's marks are; A copier's list of its own, filled one by one, by sets. -/
import Derived.Test.YtkibaimemomjpaaJE33
import Derived.Test.YtkibaimemomjpaaJE34
import Derived.Test.YtkibaimemomjpaaJE39
import Derived.Test.YtkibaimemomjpaaJE16
namespace Go.Proofs.Ytkibaimemomjpaa.EdW
set_option maxRecDepth 8000
open Go.RowKit
open Ls Lp QyP QsP QtP QuP TbP IoP EdP EdA EdE
set_option linter.unusedVariables false
theorem few_ints (ns : List Int) (h : ns.length ≤ 1048576) : tot Ow.nI ns ≤ 1000000000 := by rw [Ow.nI_tot]; omega
theorem arr_of : ∀ us : List Arr, tot Ow.nArr us ≤ 4 * szL szArr us
  | [] => by simp [tot, szL]
  | t :: r => by
    have h1 := arr_of r
    have h2 := Ow.nI_tot t.row
    unfold szL at *
    simp only [tot, Ow.nArr, szArr, List.length_cons] at *
    omega
theorem arr2_of : ∀ us : List (List Arr), tot Ow.nArr2 us ≤ 4 * tot szArr2 us
  | [] => by simp [tot]
  | t :: r => by
    have h1 := arr2_of r
    have h2 : tot Ow.nArr t ≤ 4 * szArr2 t := arr_of t
    simp only [tot, Ow.nArr2] at *
    omega
theorem few_arr2 (us : List (List Arr)) (h : szL szArr2 us ≤ 1048576) : tot Ow.nArr2 us ≤ 1000000000 := by
  have := arr2_of us
  unfold szL at h
  omega
def Short (s : St) : Prop := ∀ c, c ∈ s.out → c.row.length ≤ 1048576
theorem note_short {p : Nat} {m : Int} {s : St} (h : Short s) : Short (noteS p m s) := by
  unfold noteS
  split
  · intro c hc
    unfold markS at hc
    rcases List.mem_append.1 hc with q | q
    · exact h c q
    · rw [List.mem_singleton.1 q]; simp [cmM]
  · exact h
theorem bring_short {p : Nat} {s : St} (h : Short s) (hr : Rt s) : Short (bring p s) := by
  unfold bring
  cases hs : s.left p with
  | nil => exact h
  | cons a r =>
    intro c hc
    rcases List.mem_append.1 hc with q | q
    · exact note_short h c q
    · rw [List.mem_singleton.1 q]
      exact (hr.ok p a (by rw [hs]; simp)).2
theorem run_short : ∀ (a : List Nat) {s : St}, Short s → Rt s → Short (run a s)
  | [], _, h, _ => h
  | p :: a, s, h, hr => run_short a (bring_short h hr) (hr.bringN p 1)
theorem end_short {s : St} (h : Short s) : ∀ k, Short (endK k s)
  | 0 => h
  | k + 1 => by
    intro c hc
    rw [endK] at hc
    unfold markS at hc
    rcases List.mem_append.1 hc with q | q
    · exact end_short h k c q
    · rw [List.mem_singleton.1 q]; simp [cmM]
theorem tot_cmg : ∀ us : List Cmg, (∀ c, c ∈ us → c.row.length ≤ 1048576) → tot Ow.nCmg us ≤ 1048580 * us.length
  | [], _ => by simp [tot]
  | t :: r, h => by
    have h1 := tot_cmg r (fun c hc => h c (List.mem_cons_of_mem _ hc))
    have h2 := h t (by simp)
    have h3 := Ow.nI_tot t.row
    simp only [tot, Ow.nCmg, List.length_cons] at *
    omega
theorem few_ends (l : List Src) (inp : List (List Arr)) (ord : List Int) (h : szL szArr2 inp ≤ 1048576) : tot Ow.nCmg (ends l inp ord) ≤ 1000000000 := by
  have h1 := ends_few l inp ord
  have h2 : ∀ c, c ∈ ends l inp ord → c.row.length ≤ 1048576 := by
    unfold ends
    split
    · next hk =>
      rw [Bool.and_eq_true] at hk
      obtain ⟨-, -, RT, -⟩ := right_of hk.1 h
      split
      · rw [whole_eq]
        exact end_short (run_short _ (fun c hc => by cases hc) RT) inp.length
      · intro c hc; cases hc
    · intro c hc; cases hc
  have h3 := tot_cmg _ h2
  omega
end Go.Proofs.Ytkibaimemomjpaa.EdW
namespace Go.Proofs.Ytkibaimemomjpaa.Ow
set_option maxRecDepth 8000
open Go.RowKit
open Recs
open Ls
set_option linter.unusedVariables false
/-- A row of one's own that is filled one by one: m elements stand. -/
structure LPart {T : Type} [Inhabited T] (ty nf : Nat) (EO : Elt T) (w wr : World) (us : List T) (n m : Nat) (F : Nat → Value) (P : Nat → Nat → Prop) : Prop where
  mine : Mine wr ty nf w.heap.size n F
  bel : Below w.heap.size w wr
  el : ∀ i, i < m → EO wr (P i) (fun q => F (i * nf + q)) (us.getD i default)
  apart : ∀ i, i < m → ∀ x, P i x → w.heap.size < x ∧ x < wr.heap.size
  disj : ∀ i j, i < m → j < m → i ≠ j → ∀ x, P i x → ¬ P j x
section
variable {T : Type} [Inhabited T] {ty nf : Nat} {EO : Elt T}
theorem LPart.step (hE : KeepsO nf EO) {w wr w1 : World} {n m : Nat} {F : Nat → Value} {P : Nat → Nat → Prop} {us : List T} (h : LPart ty nf EO w wr us n m F P) (vs : List Value) (hv : vs.length = nf) (b1 : Below wr.heap.size wr w1)
    (he : EO w1 (seg wr.heap.size w1.heap.size) (fun q => vs.getD q default) (us.getD m default)) :
    LPart ty nf EO w (w1.setCells w.heap.size (m * nf) vs) us n (m + 1) (Own.upd F (m * nf) vs) (fun i => if i = m then seg wr.heap.size w1.heap.size else P i) := by
  have hlt := h.mine.lt
  have keep : ∀ g, g ≠ w.heap.size → (w1.setCells w.heap.size (m * nf) vs).heap[g]? = w1.heap[g]? := fun g hg => Cells.heap_setCells_other _ _ hg
  have hsize := Cells.size_setCells (g := w.heap.size) vs (o := m * nf) w1
  have b1s := b1.size
  refine ⟨Own.mine_setCells _ _ _ _ (h.mine.below b1 hlt), Cells.below_setCells (Nat.le_refl _) _ _ _ _ (chain h.bel b1), fun i hi => ?_, fun i hi x hx => ?_, fun i j hi hj hij x hx hx' => ?_⟩
  · by_cases e : i = m
    · subst e
      rw [if_pos rfl]
      exact hE _ _ _ _ _ _ he (by rw [hsize]; exact Nat.le_refl _) (fun g hg => keep g (by have := hg.1; omega)) (fun q hq => Own.upd_in (by omega))
    · rw [if_neg e]
      refine hE _ _ _ _ _ _ (h.el i (by omega)) (by rw [hsize]; exact b1s) (fun g hg => ?_) (fun q hq => ?_)
      · have := h.apart i (by omega) g hg
        exact (keep g (by omega)).trans (b1.block g (by omega))
      · refine Own.upd_out (.inl ?_)
        have : (i + 1) * nf ≤ m * nf := Nat.mul_le_mul_right nf (by omega)
        rw [Nat.succ_mul] at this
        omega
  · rw [hsize]
    by_cases e : i = m
    · subst e
      rw [if_pos rfl] at hx
      have := hx.1; have := hx.2
      exact ⟨by omega, by omega⟩
    · rw [if_neg e] at hx
      have := h.apart i (by omega) x hx
      exact ⟨by omega, by omega⟩
  · by_cases e : i = m
    · subst e
      rw [if_pos rfl] at hx
      rw [if_neg (Ne.symm hij)] at hx'
      have a1 := hx.1
      have a2 := h.apart j (by omega) x hx'
      omega
    · rw [if_neg e] at hx
      by_cases e2 : j = m
      · subst e2
        rw [if_pos rfl] at hx'
        have a1 := hx'.1
        have a2 := h.apart i (by omega) x hx
        omega
      · rw [if_neg e2] at hx'
        exact h.disj i j (by omega) (by omega) hij x hx hx'
theorem LPart.own {w wr : World} {F : Nat → Value} {P : Nat → Nat → Prop} {us : List T} (h : LPart ty nf EO w wr us us.length us.length F P) (hn : us.length ≤ 1048576) : LOwn ty nf EO wr (seg w.heap.size wr.heap.size) (.slice (some ⟨w.heap.size, 0, none⟩) us.length us.length) us :=
  ⟨hn, _, _, rfl, .inr ⟨w.heap.size, F, P, rfl, ⟨Nat.le_refl _, h.mine.lt⟩, fun i hi x hx => ⟨by have := h.apart i hi x hx; omega, (h.apart i hi x hx).2⟩, h.mine, rfl, h.el, fun i hi x hx => ⟨by have := h.apart i hi x hx; omega, (h.apart i hi x hx).2⟩, h.disj⟩⟩
end
end Go.Proofs.Ytkibaimemomjpaa.Ow
