/- Names in a list of texts; lists of unlike texts: plain; Source: how it lies in memory; what the law's measure and copier answer. -/
import Derived.Test.YtkohhcjpjloaaaaJW11
import Derived.Test.YtkohhcjpjloaaaaJW05
namespace Go.Proofs.Ytkohhcjpjloaaaa.QyP
set_option maxRecDepth 8000
open Go.RowKit
open Ls Lp
set_option linter.unusedVariables false
def hasT (l : List ByteArray) (n : ByteArray) : Bool := l.any fun m => m.toList == n.toList
def unl (l : List ByteArray) (i : Nat) : Bool := !hasT (l.take i) (l.getD i default)
def diffN (l : List ByteArray) (k : Nat) : Bool := (List.range k).all (unl l)
def diff (l : List ByteArray) : Bool := diffN l l.length
theorem hasT_zero (l : List ByteArray) (n : ByteArray) : hasT (l.take 0) n = false := by simp [hasT]
theorem hasT_next {l : List ByteArray} {k : Nat} (h : k < l.length) (n : ByteArray) : hasT (l.take (k + 1)) n = (hasT (l.take k) n || ((l.getD k default).toList == n.toList)) := by
  unfold hasT
  rw [List.take_succ_eq_append_getElem h, List.any_append]
  simp [h]
theorem hasT_hit {l : List ByteArray} {k : Nat} (h : k < l.length) {n : ByteArray} (he : ((l.getD k default).toList == n.toList) = true) : hasT l n = true := by
  unfold hasT
  refine List.any_eq_true.2 ⟨l[k], List.getElem_mem h, ?_⟩
  simpa [h] using he
theorem diffN_zero (l : List ByteArray) : diffN l 0 = true := rfl
theorem diffN_next {l : List ByteArray} {k : Nat} (h : diffN l k = true) (h1 : hasT (l.take k) (l.getD k default) = false) : diffN l (k + 1) = true := by
  unfold diffN at *
  rw [List.range_succ, List.all_append, h, List.all_cons, List.all_nil, unl, h1]
  rfl
theorem diffN_bad {l : List ByteArray} {k n : Nat} (hk : k < n) (h1 : hasT (l.take k) (l.getD k default) = true) : diffN l n = false := by
  unfold diffN
  exact List.all_eq_false.2 ⟨k, List.mem_range.2 hk, by rw [unl, h1]; decide⟩
theorem strs_cell {w w' : World} {S : Nat → Prop} {A : Option Addr} {c : Nat} {us : List ByteArray} {g o : Nat} {F : Nat → Nat → Value} (h : Opn 1 EStr w S A c us g o F) (hb : w'.heap[g]? = w.heap[g]?) {k : Nat} (hk : k < us.length) : w'.cell? ⟨g, o + k, none⟩ = some (.string (us.getD k default)) := by
  have e : F k 0 = .string (us.getD k default) := h.el k hk
  have c := h.cells k hk 0 (by omega)
  rw [e] at c
  rw [World.cell?_of_block (w := w) (a := ⟨g, o + k, none⟩) hb]
  simpa using c
/-- The beginning of a list in memory. -/
theorem take_at {w : World} {S : Nat → Prop} {A : Option Addr} {c : Nat} {us : List ByteArray} {k : Nat} (h : LAt 1 EStr w S (.slice A us.length c) us) (hk : k ≤ us.length) : LAt 1 EStr w S (.slice A k c) (us.take k) := by
  obtain ⟨h0, A', c', h1, h2⟩ := h
  simp only [Value.slice.injEq, true_and] at h1
  obtain ⟨rfl, rfl⟩ := h1
  have hl : (us.take k).length = k := by rw [List.length_take]; omega
  refine ⟨by omega, A, c, by rw [hl], ?_⟩
  rw [hl]
  by_cases hz : k = 0
  · exact .inl hz
  · obtain ⟨g, o, F, ea, hg, hc, hcell, hel⟩ := h2.resolve_left (by omega)
    refine .inr ⟨g, o, F, ea, hg, by omega, fun i hi j hj => hcell i (by omega) j hj, fun i hi => ?_⟩
    have := hel i (by omega)
    rw [show (us.take k).getD i default = us.getD i default by simp [List.getD_eq_getElem?_getD, hi]]
    exact this
end Go.Proofs.Ytkohhcjpjloaaaa.QyP
namespace Go.Proofs.Ytkohhcjpjloaaaa.Ls
set_option maxRecDepth 8000
open Go.RowKit
open Recs
set_option linter.unusedVariables false
structure Src where
  name : ByteArray
  tab : Bool
  cols : List ByteArray
  deriving Inhabited
def ESrc : Elt Src := fun w S f u => f 0 = .string u.name ∧ f 1 = .bool u.tab ∧ StrsAt w S (f 2) u.cols
theorem keepsSrc : Keeps 3 ESrc := fun w w' S f f' t h hk hf => by
  obtain ⟨h0, h1, h2⟩ := h
  exact ⟨by rw [hf 0 (by omega)]; exact h0, by rw [hf 1 (by omega)]; exact h1, by rw [hf 2 (by omega)]; exact h2.keep keepsStr hk⟩
theorem growsSrc : Grows ESrc := fun w S S' f t h hs => by
  obtain ⟨h0, h1, h2⟩ := h
  exact ⟨h0, h1, h2.mono growsStr hs⟩
def arrSrc (f : Nat → Value) : Array Value := #[f 0, f 1, f 2]
theorem oneSrc {w : World} {S : Nat → Prop} {f : Nat → Value} {u : Src} (h : ESrc w S f u) : (arrSrc f).all (·.oneCell') = true := by
  obtain ⟨h0, h1, h2⟩ := h
  have o0 : (f 0).oneCell' = true := by rw [h0]; rfl
  have o1 : (f 1).oneCell' = true := by rw [h1]; rfl
  have o2 : (f 2).oneCell' = true := h2.one
  simp [arrSrc, o0, o1, o2]
def SrcAt (w : World) (S : Nat → Prop) (v : Value) (u : Src) : Prop := ∃ f, v = .agg (arrSrc f) ∧ ESrc w S f u
abbrev SrcsAt := LAt 3 ESrc
theorem SrcAt.keep {w w' : World} {S : Nat → Prop} {v : Value} {u : Src} (h : SrcAt w S v u) (hk : ∀ g, S g → w'.heap[g]? = w.heap[g]?) : SrcAt w' S v u := by
  obtain ⟨f, h1, h2⟩ := h
  exact ⟨f, h1, keepsSrc _ _ _ _ _ _ h2 hk (fun _ _ => rfl)⟩
theorem SrcAt.mono {w : World} {S S' : Nat → Prop} {v : Value} {u : Src} (h : SrcAt w S v u) (hs : ∀ g, S g → S' g) : SrcAt w S' v u := by
  obtain ⟨f, h1, h2⟩ := h
  exact ⟨f, h1, growsSrc _ _ _ _ _ h2 hs⟩
theorem SrcAt.below {w w' : World} {B : Nat} {S : Nat → Prop} {v : Value} {u : Src} (h : SrcAt w S v u) (hb : Below B w w') (hs : ∀ g, S g → g < B) : SrcAt w' S v u := h.keep fun g hg => hb.block g (hs g hg)
def szSrc (u : Src) : Nat := u.name.size + szL ByteArray.size (u.cols)
def FineSrc (u : Src) : Prop := u.name.size ≤ maxLen ∧ True ∧ FineL FineStr u.cols
end Go.Proofs.Ytkohhcjpjloaaaa.Ls
