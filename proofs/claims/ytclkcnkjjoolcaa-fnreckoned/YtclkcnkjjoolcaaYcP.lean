/- Where a name stands, and the columns that an expression names: plain. -/
import Derived.Test.YtclkcnkjjoolcaaQuP
namespace Go.Proofs.Ytclkcnkjjoolcaa.YcP
set_option maxRecDepth 8000
open Go.RowKit
open Ls Lp QyP QsP QtP QuP
set_option linter.unusedVariables false
def ixT (l : List ByteArray) (n : ByteArray) : Int := match l.findIdx? (fun m => m.toList == n.toList) with
  | none => -1
  | some k => (k : Int)
theorem ix_hit {l : List ByteArray} {n : ByteArray} {k : Nat} (hk : k < l.length) (h : ∀ j, j < k → ((l.getD j default).toList == n.toList) = false) (hb : ((l.getD k default).toList == n.toList) = true) : ixT l n = k := by
  unfold ixT
  have : l.findIdx? (fun s => s.toList == n.toList) = some k := by
    rw [List.findIdx?_eq_some_iff_getElem]
    refine ⟨hk, by simpa [hk] using hb, fun j hj => ?_⟩
    have h1 := h j hj
    have hj' : j < l.length := by omega
    simpa [hj'] using h1
  rw [this]
theorem ix_miss {l : List ByteArray} {n : ByteArray} (h : ∀ j, j < l.length → ((l.getD j default).toList == n.toList) = false) : ixT l n = -1 := by
  unfold ixT
  have : l.findIdx? (fun s => s.toList == n.toList) = none := by
    rw [List.findIdx?_eq_none_iff]
    intro x hx
    obtain ⟨k, hk, rfl⟩ := List.mem_iff_getElem.1 hx
    have := h k hk
    simpa [hk] using this
  rw [this]
theorem has_ix (l : List ByteArray) (n : ByteArray) : hasT l n = decide (0 ≤ ixT l n) := by
  unfold ixT hasT
  cases h : l.findIdx? (fun m => m.toList == n.toList) with
  | none =>
    rw [List.findIdx?_eq_none_iff] at h
    simp only []
    rw [decide_eq_false (by omega)]
    exact List.any_eq_false.2 fun x hx => by simp [h x hx]
  | some k =>
    rw [List.findIdx?_eq_some_iff_getElem] at h
    obtain ⟨hk, hp, -⟩ := h
    simp only []
    rw [decide_eq_true (by omega)]
    exact List.any_eq_true.2 ⟨l[k], List.getElem_mem hk, hp⟩
def colsL (l : List Stp) : List ByteArray := (l.filter fun s => decide (s.op = 2)).map Stp.name
theorem cols_next {l : List Stp} {k : Nat} (h : k < l.length) : colsL (l.take (k + 1)) = if (l.getD k default).op = 2 then colsL (l.take k) ++ [(l.getD k default).name] else colsL (l.take k) := by
  unfold colsL
  rw [List.take_succ_eq_append_getElem h, List.filter_append, List.map_append]
  have : l.getD k default = l[k] := by simp [h]
  rw [this]
  by_cases hb : l[k].op = 2
  · simp [hb]
  · simp [hb]
theorem cols_len (l : List Stp) (k : Nat) : (colsL (l.take k)).length ≤ l.length := by
  unfold colsL
  rw [List.length_map]
  exact Nat.le_trans (List.length_filter_le _ _) (by rw [List.length_take]; omega)
def allT (cols ns : List ByteArray) : Bool := ns.all (hasT cols)
theorem all_sees (cols : List ByteArray) (l : List Stp) : allT cols (colsL l) = sees l cols := by
  unfold allT colsL sees
  rw [List.all_map, List.all_filter]
  rfl
end Go.Proofs.Ytclkcnkjjoolcaa.YcP
