/- Which field a field reads, and what may be read, on plain data. -/
import Derived.Test.YtfdfhhiaalbfiaaScS
namespace Go.Proofs.Ytfdfhhiaalbfiaa.MaP
set_option maxRecDepth 8000
open Go.RowKit
open Ls Lp VkP VkR ScP ScS
set_option linter.unusedVariables false
def fndF (n : ByteArray) : Nat → List Fld → Int
  | _, [] => -1
  | i, f :: fs => if (f.name.toList == n.toList) = true then i else fndF n (i + 1) fs
/-- The place of the first field of a name, -1: there is none. -/
def fnd (ws : List Fld) (n : ByteArray) : Int := fndF n 0 ws
theorem fndF_no (n : ByteArray) : ∀ (ws : List Fld) (i : Nat), (∀ f ∈ ws, (f.name.toList == n.toList) = false) → fndF n i ws = -1
  | [], _, _ => rfl
  | f :: fs, i, h => by
    rw [fndF, if_neg (by rw [h f (by simp)]; simp)]
    exact fndF_no n fs (i + 1) (fun g hg => h g (by simp [hg]))
theorem fndF_app (n : ByteArray) (bs : List Fld) : ∀ (xs : List Fld) (i : Nat), (∀ f ∈ xs, (f.name.toList == n.toList) = false) → fndF n i (xs ++ bs) = fndF n (i + xs.length) bs
  | [], i, _ => by simp
  | f :: fs, i, h => by
    rw [List.cons_append, fndF, if_neg (by rw [h f (by simp)]; simp), fndF_app n bs fs (i + 1) (fun g hg => h g (by simp [hg]))]
    congr 1
    simp only [List.length_cons]
    omega
theorem fndF_yes (n : ByteArray) (bs : List Fld) : ∀ (xs : List Fld) (i : Nat), fndF n i xs ≠ -1 → fndF n i (xs ++ bs) = fndF n i xs
  | [], i, h => absurd rfl h
  | f :: fs, i, h => by
    rw [List.cons_append, fndF, fndF]
    split
    · rfl
    · next h1 => exact fndF_yes n bs fs (i + 1) (by rw [fndF, if_neg h1] at h; exact h)
theorem fndF_ge (n : ByteArray) : ∀ (ws : List Fld) (i : Nat), fndF n i ws = -1 ∨ ∃ j : Nat, j < ws.length ∧ fndF n i ws = (i + j : Nat) ∧ ((ws.getD j default).name.toList == n.toList) = true
  | [], i => .inl rfl
  | f :: fs, i => by
    rw [fndF]
    split
    · next h => exact .inr ⟨0, by simp, by simp, by simpa using h⟩
    · rcases fndF_ge n fs (i + 1) with h | ⟨j, h1, h2, h3⟩
      · exact .inl h
      · exact .inr ⟨j + 1, by simp only [List.length_cons]; omega, by rw [h2]; congr 1; omega, by simpa using h3⟩
theorem fndF_all (n : ByteArray) : ∀ (ws : List Fld) (i : Nat), fndF n i ws = -1 → ∀ f ∈ ws, (f.name.toList == n.toList) = false
  | [], _, _, f, hf => by simp at hf
  | g :: gs, i, h, f, hf => by
    rw [fndF] at h
    split at h
    · omega
    · next h1 =>
      rcases List.mem_cons.1 hf with rfl | hf
      · simpa using h1
      · exact fndF_all n gs (i + 1) h f hf
theorem fnd_some {ws : List Fld} {n : ByteArray} (h : 0 ≤ fnd ws n) : fnd ws n < ws.length ∧ ((ws.getD (fnd ws n).toNat default).name.toList == n.toList) = true := by
  rcases fndF_ge n ws 0 with h1 | ⟨j, h1, h2, h3⟩
  · unfold fnd at h; omega
  · have e : fnd ws n = (j : Int) := by unfold fnd; rw [h2]; simp
    rw [e]
    exact ⟨by omega, by simpa using h3⟩
theorem fnd_neg {ws : List Fld} {n : ByteArray} (h : ¬ 0 ≤ fnd ws n) : fnd ws n = -1 := by
  rcases fndF_ge n ws 0 with h1 | ⟨j, h1, h2, h3⟩
  · exact h1
  · exact absurd (show 0 ≤ fnd ws n by unfold fnd; rw [h2]; omega) h
theorem fnd_few (ws : List Fld) (n : ByteArray) : -1 ≤ fnd ws n ∧ fnd ws n < max 1 ws.length := by
  by_cases h : 0 ≤ fnd ws n
  · have := (fnd_some h).1; omega
  · rw [fnd_neg h]; omega
theorem fnd_no {ws : List Fld} {n : ByteArray} (h : ∀ j, j < ws.length → ((ws.getD j default).name.toList == n.toList) = false) : fnd ws n = -1 := fndF_no n ws 0 fun f hf => by
  obtain ⟨j, hj, rfl⟩ := List.getElem_of_mem hf
  have := h j hj
  rwa [List.getD_eq_getElem?_getD, List.getElem?_eq_getElem hj, Option.getD_some] at this
theorem fnd_at {ws : List Fld} {n : ByteArray} {j : Nat} (hj : j < ws.length) (h : ∀ y, y < j → ((ws.getD y default).name.toList == n.toList) = false) (he : ((ws.getD j default).name.toList == n.toList) = true) : fnd ws n = j := by
  have e : ws = ws.take j ++ ws.drop j := (List.take_append_drop j ws).symm
  unfold fnd
  rw [e, fndF_app n _ _ _ (fun f hf => ?_), drop_cons hj, fndF, if_pos he]
  · simp; omega
  · rw [List.mem_take_iff_getElem] at hf
    obtain ⟨y, hy, rfl⟩ := hf
    have hy' : y < ws.length := by omega
    have := h y (by omega)
    rwa [List.getD_eq_getElem?_getD, List.getElem?_eq_getElem hy', Option.getD_some] at this
theorem fnd_push {ws : List Fld} {f : Fld} (n : ByteArray) : fnd (ws ++ [f]) n = if 0 ≤ fnd ws n then fnd ws n else if (f.name.toList == n.toList) = true then (ws.length : Int) else -1 := by
  by_cases h : 0 ≤ fnd ws n
  · rw [if_pos h]
    exact fndF_yes n [f] ws 0 (by unfold fnd at h; omega)
  · rw [if_neg h]
    have hn := fndF_all n ws 0 (fnd_neg h)
    unfold fnd
    rw [fndF_app n _ _ _ hn]
    simp [fndF]
/-- The place of the first of some names that is one. -/
def plc (ws : List Fld) : List ByteArray → Int
  | [] => -1
  | n :: ns => if 0 ≤ fnd ws n then fnd ws n else plc ws ns
theorem plc_step {ws : List Fld} {ns : List ByteArray} {k : Nat} (h : k < ns.length) : plc ws (ns.drop k) = if 0 ≤ fnd ws (ns.getD k default) then fnd ws (ns.getD k default) else plc ws (ns.drop (k + 1)) := by rw [drop_cons h, plc]
theorem plc_range (ws : List Fld) : ∀ ns : List ByteArray, plc ws ns = -1 ∨ (0 ≤ plc ws ns ∧ plc ws ns < ws.length ∧ hs ns (ws.getD (plc ws ns).toNat default).name = true)
  | [] => .inl rfl
  | n :: ns => by
    rw [plc]
    split
    · next h =>
      have h1 := fnd_some h
      refine .inr ⟨h, h1.1, ?_⟩
      have h2 := h1.2
      simp only [beq_iff_eq] at h2
      unfold hs
      rw [List.any_cons, h2]
      simp
    · rcases plc_range ws ns with h | ⟨h1, h2, h3⟩
      · exact .inl h
      · refine .inr ⟨h1, h2, ?_⟩
        unfold hs at h3 ⊢
        rw [List.any_cons, h3]
        simp
def mtch (r w : Sch) : List Int := r.fields.map fun f => plc w.fields (nms f)
def matchL (r w : Sch) : List Int := if (sok r && sok w) = true then mtch r w else []
theorem hs_append (a b : List ByteArray) (n : ByteArray) : hs (a ++ b) n = (hs a n || hs b n) := by simp [hs]
theorem dst_hs : ∀ (ns seen : List ByteArray), dst seen ns = true → ∀ m ∈ ns, hs seen m = false
  | [], _, _, m, hm => by simp at hm
  | n :: ns, seen, h, m, hm => by
    simp only [dst, Bool.and_eq_true, Bool.not_eq_true'] at h
    rcases List.mem_cons.1 hm with rfl | hm
    · exact h.1
    · have := dst_hs ns (seen ++ [n]) h.2 m hm
      rw [hs_append] at this
      simp only [Bool.or_eq_false_iff] at this
      exact this.1
theorem sok_dst {s : Sch} (h : sok s = true) : dst [] (allN s.fields) = true ∧ s.fields.length ≤ 20 ∧ s.fields.all fA = true := by
  simp only [sok, Bool.and_eq_true] at h
  have h1 := h.2
  rw [run_eq] at h1
  simp only [Bool.and_eq_true] at h1
  have h2 := inR_true h.1.2
  exact ⟨h1.2, by omega, h1.1.1⟩
theorem apart {fs : List Fld} (h : dst [] (allN fs) = true) {i k : Nat} (hk : k < i) (hi : i < fs.length) {m : ByteArray} (hm : m ∈ nms (fs.getD i default)) : hs (nms (fs.getD k default)) m = false := by
  have e : allN fs = allN (fs.take i) ++ (nms (fs.getD i default) ++ allN (fs.drop (i + 1))) := by
    have := congrArg allN (List.take_append_drop i fs).symm
    rw [this, drop_cons hi]
    simp [allN]
  rw [e, dst_append] at h
  simp only [Bool.and_eq_true] at h
  have h1 := dst_hs _ _ h.2 m (List.mem_append_left _ hm)
  rw [List.nil_append] at h1
  have hkl : k < (fs.take i).length := by rw [List.length_take]; omega
  have e2 : allN (fs.take i) = allN ((fs.take i).take k) ++ (nms ((fs.take i).getD k default) ++ allN ((fs.take i).drop (k + 1))) := by
    have := congrArg allN (List.take_append_drop k (fs.take i)).symm
    rw [this, drop_cons hkl]
    simp [allN]
  rw [e2, hs_append, hs_append] at h1
  simp only [Bool.or_eq_false_iff] at h1
  have e3 : (fs.take i).getD k default = fs.getD k default := by
    rw [List.getD_eq_getElem?_getD, List.getD_eq_getElem?_getD, List.getElem?_take_of_lt hk]
  rw [e3] at h1
  exact h1.2.1
theorem new_name {fs : List Fld} (h : dst [] (allN fs) = true) {k : Nat} (hk : k < fs.length) : fnd (fs.take k) (fs.getD k default).name = -1 := fnd_no fun j hj => by
  have hjk : j < k := by rw [List.length_take] at hj; omega
  have e3 : (fs.take k).getD j default = fs.getD j default := by
    rw [List.getD_eq_getElem?_getD, List.getD_eq_getElem?_getD, List.getElem?_take_of_lt hjk]
  rw [e3]
  have := apart h hjk hk (m := (fs.getD k default).name) (by simp [nms])
  unfold hs nms at this
  rw [List.any_cons, Bool.or_eq_false_iff] at this
  exact this.1
end Go.Proofs.Ytfdfhhiaalbfiaa.MaP
