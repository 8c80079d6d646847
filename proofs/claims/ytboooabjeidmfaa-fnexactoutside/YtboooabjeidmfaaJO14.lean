/- The source of a name: plain; The columns of two sources joined: plain. -/
import Derived.Test.YtboooabjeidmfaaJO11
import Derived.Test.YtboooabjeidmfaaJO13
namespace Go.Proofs.Ytboooabjeidmfaa.YsP
set_option maxRecDepth 8000
open Go.RowKit
open Ls Lp QyP QsP QtP QuP YcP
set_option linter.unusedVariables false
def srcF (l : List Src) (n : ByteArray) : Option Src := l.find? fun s => s.name.toList == n.toList
def srcR (l : List Src) (n : ByteArray) : Src := match srcF l n with
  | none => ⟨ByteArray.empty, false, []⟩
  | some s => s
def srcB (l : List Src) (n : ByteArray) (t : Bool) : Bool := match srcF l n with
  | none => false
  | some s => s.tab == t
theorem f_hit {l : List Src} {n : ByteArray} {k : Nat} (hk : k < l.length) (h : ∀ j, j < k → ((l.getD j default).name.toList == n.toList) = false) (hb : ((l.getD k default).name.toList == n.toList) = true) : srcF l n = some (l.getD k default) := by
  unfold srcF
  rw [List.find?_eq_some_iff_getElem]
  refine ⟨hb, k, hk, by simp [hk], fun j hj => ?_⟩
  have h1 := h j hj
  have hj' : j < l.length := by omega
  simp [hj'] at h1
  simpa using h1
theorem f_miss {l : List Src} {n : ByteArray} (h : ∀ j, j < l.length → ((l.getD j default).name.toList == n.toList) = false) : srcF l n = none := by
  unfold srcF
  rw [List.find?_eq_none]
  intro s hs
  obtain ⟨j, hj, rfl⟩ := List.mem_iff_getElem.1 hs
  have h1 := h j hj
  simp [hj] at h1
  simpa using h1
theorem nil_at (w : World) (S : Nat → Prop) : LAt 1 EStr w S (.slice none 0 0) ([] : List ByteArray) := ⟨by simp, none, 0, rfl, .inl rfl⟩
abbrev sv (s : Src) (A : Option Addr) (c : Nat) : Value := .agg #[.string s.name, .bool s.tab, .slice A s.cols.length c]
theorem threeB {w : World} {g ty : Nat} {a b c : Value} (h : w.heap[g]? = some (.cells #[a, b, c] ty (0, 0))) : w.cell? ⟨g, 0, none⟩ = some a ∧ w.cell? ⟨g, 1, none⟩ = some b ∧ w.cell? ⟨g, 2, none⟩ = some c ∧ w.frozen? ⟨g, 0, none⟩ = false ∧ w.frozen? ⟨g, 1, none⟩ = false ∧ w.frozen? ⟨g, 2, none⟩ = false :=
  ⟨cell_of_row w g 0 _ _ (0, 0) h, cell_of_row w g 1 _ _ (0, 0) h, cell_of_row w g 2 _ _ (0, 0) h, frozen_of_row w g 0 _ _ h, frozen_of_row w g 1 _ _ h, frozen_of_row w g 2 _ _ h⟩
end Go.Proofs.Ytboooabjeidmfaa.YsP
namespace Go.Proofs.Ytboooabjeidmfaa.YtP
set_option maxRecDepth 8000
open Go.RowKit
open Ls Lp QyP QsP QtP QuP YcP YsP QsI
set_option linter.unusedVariables false
def keepN (on m : ByteArray) : Bool := !(m.toList == on.toList)
def jnL (on : ByteArray) (a b : List ByteArray) : List ByteArray := a ++ b.filter (keepN on)
theorem jn_next {on : ByteArray} {a b : List ByteArray} {k : Nat} (h : k < b.length) : jnL on a (b.take (k + 1)) = if keepN on (b.getD k default) = true then jnL on a (b.take k) ++ [b.getD k default] else jnL on a (b.take k) := by
  unfold jnL
  rw [List.take_succ_eq_append_getElem h, List.filter_append]
  have : b.getD k default = b[k] := by simp [h]
  rw [this]
  by_cases hb : keepN on b[k] = true
  · rw [if_pos hb]; simp [List.filter, hb]
  · rw [if_neg hb]; simp [List.filter, hb]
theorem jn_len (on : ByteArray) (a b : List ByteArray) (k : Nat) : (jnL on a (b.take k)).length ≤ a.length + b.length := by
  unfold jnL
  rw [List.length_append]
  have := List.length_filter_le (keepN on) (b.take k)
  rw [List.length_take] at this
  omega
theorem sz_names : ∀ (us : List ByteArray), (∀ n ∈ us, n.size ≤ 20) → szL ByteArray.size us ≤ 21 * us.length
  | [], _ => by simp [szL, tot]
  | n :: us, h => by
    have h1 := sz_names us (fun m hm => h m (List.mem_cons_of_mem _ hm))
    have h2 := h n (List.mem_cons_self)
    unfold szL at *
    simp only [tot, List.length_cons] at *
    omega
theorem name_len {n : ByteArray} (h : Nm.nameOk n = true) : n.size ≤ 20 := by
  simp only [Nm.nameOk, Bool.and_eq_true, decide_eq_true_eq] at h
  omega
theorem src_names {s : Src} (h : srcOk s = true) : s.cols.length ≤ 12 ∧ ∀ n ∈ s.cols, n.size ≤ 20 := by
  simp only [srcOk, Bool.and_eq_true] at h
  obtain ⟨-, h1, -, h2⟩ := h
  have := inR_true h1
  exact ⟨by omega, fun n hn => name_len (List.all_eq_true.1 h2 n hn)⟩
theorem jn_sz {on : ByteArray} {s o : Src} (hs : srcOk s = true) (ho : srcOk o = true) : szL ByteArray.size (jnL on s.cols o.cols) ≤ 1048576 := by
  have a := src_names hs
  have b := src_names ho
  have c := jn_len on s.cols o.cols o.cols.length
  rw [List.take_length] at c
  have d := sz_names (jnL on s.cols o.cols) (fun n hn => by
    unfold jnL at hn
    rcases List.mem_append.1 hn with h | h
    · exact a.2 n h
    · exact b.2 n (List.mem_filter.1 h).1)
  omega
end Go.Proofs.Ytboooabjeidmfaa.YtP
