/- Names in a list of texts; lists of unlike texts: plain. -/
import Derived.Test.YtclkcnkjjoolcaaLsT
import Derived.Test.YtclkcnkjjoolcaaLsP
namespace Go.Proofs.Ytclkcnkjjoolcaa.QyP
set_option maxRecDepth 8000
open Go.RowKit
open Ls Lp
set_option linter.unusedVariables false
def hasT (l : List ByteArray) (n : ByteArray) : Bool := l.any fun m => m.toList == n.toList
def unl (l : List ByteArray) (i : Nat) : Bool := !hasT (l.take i) (l.getD i default)
def diffN (l : List ByteArray) (k : Nat) : Bool := (List.range k).all (unl l)
def diff (l : List ByteArray) : Bool := diffN l l.length
theorem hasT_zero (l : List ByteArray) (n : ByteArray) : hasT (l.take 0) n = false := by simp [hasT]
theorem hasT_next {l : List ByteArray} {k : Nat} (h : k < l.length) (n : ByteArray) : hasT (l.take (k + 1)) n = (hasT (l.take k) n || ((l.getD k default).toList == n.toList)) := by
  unfold hasT
  rw [List.take_succ_eq_append_getElem h, List.any_append]
  simp [h]
theorem hasT_hit {l : List ByteArray} {k : Nat} (h : k < l.length) {n : ByteArray} (he : ((l.getD k default).toList == n.toList) = true) : hasT l n = true := by
  unfold hasT
  refine List.any_eq_true.2 ⟨l[k], List.getElem_mem h, ?_⟩
  simpa [h] using he
theorem diffN_zero (l : List ByteArray) : diffN l 0 = true := rfl
theorem diffN_next {l : List ByteArray} {k : Nat} (h : diffN l k = true) (h1 : hasT (l.take k) (l.getD k default) = false) : diffN l (k + 1) = true := by
  unfold diffN at *
  rw [List.range_succ, List.all_append, h, List.all_cons, List.all_nil, unl, h1]
  rfl
theorem diffN_bad {l : List ByteArray} {k n : Nat} (hk : k < n) (h1 : hasT (l.take k) (l.getD k default) = true) : diffN l n = false := by
  unfold diffN
  exact List.all_eq_false.2 ⟨k, List.mem_range.2 hk, by rw [unl, h1]; decide⟩
theorem strs_cell {w w' : World} {S : Nat → Prop} {A : Option Addr} {c : Nat} {us : List ByteArray} {g o : Nat} {F : Nat → Nat → Value} (h : Opn 1 EStr w S A c us g o F) (hb : w'.heap[g]? = w.heap[g]?) {k : Nat} (hk : k < us.length) : w'.cell? ⟨g, o + k, none⟩ = some (.string (us.getD k default)) := by
  have e : F k 0 = .string (us.getD k default) := h.el k hk
  have c := h.cells k hk 0 (by omega)
  rw [e] at c
  rw [World.cell?_of_block (w := w) (a := ⟨g, o + k, none⟩) hb]
  simpa using c
/-- The beginning of a list in memory. -/
theorem take_at {w : World} {S : Nat → Prop} {A : Option Addr} {c : Nat} {us : List ByteArray} {k : Nat} (h : LAt 1 EStr w S (.slice A us.length c) us) (hk : k ≤ us.length) : LAt 1 EStr w S (.slice A k c) (us.take k) := by
  obtain ⟨h0, A', c', h1, h2⟩ := h
  simp only [Value.slice.injEq, true_and] at h1
  obtain ⟨rfl, rfl⟩ := h1
  have hl : (us.take k).length = k := by rw [List.length_take]; omega
  refine ⟨by omega, A, c, by rw [hl], ?_⟩
  rw [hl]
  by_cases hz : k = 0
  · exact .inl hz
  · obtain ⟨g, o, F, ea, hg, hc, hcell, hel⟩ := h2.resolve_left (by omega)
    refine .inr ⟨g, o, F, ea, hg, by omega, fun i hi j hj => hcell i (by omega) j hj, fun i hi => ?_⟩
    have := hel i (by omega)
    rw [show (us.take k).getD i default = us.getD i default by simp [List.getD_eq_getElem?_getD, hi]]
    exact this
end Go.Proofs.Ytclkcnkjjoolcaa.QyP
