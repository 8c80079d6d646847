/- The entries of a segment's file, on plain data; entries in memory of the call's own; A right log, on plain data. -/
import Derived.Test.YtbihajcikleccaaJI02
import Derived.Test.YtbihajcikleccaaJI08
import Derived.Test.YtbihajcikleccaaJI15
import Derived.Test.YtbihajcikleccaaJI14
namespace Go.Proofs.Ytbihajcikleccaa.IdP
set_option maxRecDepth 8000
open Go.RowKit
open Recs Ent
open ToO (MineC)
set_option linter.unusedVariables false
def size (t : Bat) : Nat := (WrP.wr t 2).length
def tmax (m : Int) : List Rec → Int
  | [] => m
  | r :: t => tmax (if m < r.time then r.time else m) t
/-- at: where the next batch begins; tm: the greatest Time so far; due: from where on an entry is due. -/
def idx (every : Int) : Int → Int → Int → List Bat → List En
  | _, _, _, [] => []
  | at_, tm, due, b :: t => (if due ≤ at_ then [⟨b.base, tm, at_⟩] else []) ++ idx every (at_ + size b) (tmax tm b.recs) (if due ≤ at_ then at_ + every else due) t
def okAll (bs : List Bat) : Bool := bs.all BOk.batOk
def ans (every : Int) (bs : List Bat) : List En := if decide (1 ≤ every) && decide (every ≤ 20000) && okAll bs then idx every 0 0 0 bs else []
def ecells : List En → List Value
  | [] => []
  | e :: r => .int .i64 e.off :: .int .i64 e.time :: .int .i64 e.place :: ecells r
theorem ecells_len : ∀ es : List En, (ecells es).length = es.length * 3
  | [] => rfl
  | e :: r => by simp only [ecells, List.length_cons, ecells_len r]; omega
theorem ecells_app : ∀ (a b : List En), ecells (a ++ b) = ecells a ++ ecells b
  | [], b => rfl
  | e :: r, b => by simp only [List.cons_append, ecells, ecells_app r b]
theorem ecells_get : ∀ (es : List En) (i j : Nat), i < es.length → j < 3 → (ecells es)[i * 3 + j]? = some (enCells es i j)
  | [], i, j, hi, _ => by simp at hi
  | e :: r, 0, j, _, hj => by
    match j, hj with
    | 0, _ => rfl
    | 1, _ => rfl
    | 2, _ => rfl
  | e :: r, i + 1, j, hi, hj => by
    have := ecells_get r i j (by simpa using hi) hj
    rw [show (i + 1) * 3 + j = (i * 3 + j) + 1 + 1 + 1 by omega]
    simp only [ecells, List.getElem?_cons_succ, this]
    simp [enCells]
/-- A list of Entries in memory of the call's own. -/
def EsAt (w : World) (base : Nat) (v : Value) (es : List En) : Prop := w.ownsRow base 68 3 v es.length (ecells es)
theorem EsAt.form {w : World} {base : Nat} {v : Value} {es : List En} (h : EsAt w base v es) : (v = .slice none 0 0 ∧ es = []) ∨ ∃ g c, v = .slice (some ⟨g, 0, none⟩) es.length c ∧ base ≤ g ∧ g < w.heap.size ∧ es.length ≤ c := by
  rcases h.2 with ⟨h1, h2⟩ | ⟨g, cap, cur, h1, h2, h3, h4, _⟩
  · exact .inl ⟨h1, List.length_eq_zero_iff.1 h2⟩
  · exact .inr ⟨g, cap, h1, h2, (Array.getElem?_eq_some_iff.1 h3).1, h4⟩
theorem EsAt.below {w w' : World} {base b : Nat} {v : Value} {es : List En} (h : EsAt w base v es) (hb : Below b w w') (hl : w.heap.size ≤ b) : EsAt w' base v es := by
  refine World.ownsRow.kept (row := none) h ⟨hb.os, hb.tape, hb.output, hb.size, fun k hk _ => hb.block k (by omega)⟩ ?_
  by_cases hv : v.ownBlock = none
  · exact .inl hv
  · exact .inr hv
theorem EsAt.ens {w : World} {base : Nat} {v : Value} {es : List En} (h : EsAt w base v es) (hl : es.length ≤ 9223372036854775807) : Ens w base w.heap.size v es := by
  rcases h.form with ⟨h1, h2⟩ | ⟨g, c, h1, h2, h3, h4⟩
  · subst h1 h2
    exact ⟨by simp, none, 0, rfl, .inl rfl⟩
  · refine ⟨hl, _, c, h1, .inr ⟨g, 0, rfl, h3, h4, fun i hi j hj => ?_, h2⟩⟩
    have h' := h
    unfold EsAt at h'
    rw [h1] at h'
    rw [Nat.zero_add, World.ownsRow.cellAt h' (i * 3 + j) (by omega)]
    exact ecells_get es i j hi hj
end Go.Proofs.Ytbihajcikleccaa.IdP
namespace Go.Proofs.Ytbihajcikleccaa.LgP
set_option maxRecDepth 8000
open Recs SegW LogW
set_option linter.unusedVariables false
def inR (x lo hi : Int) : Bool := decide (lo ≤ x) && decide (x ≤ hi)
/-- Batches behind 'free' with no Epoch below 'ep': what is free behind them, and the last one's Epoch. -/
def bats (free ep : Int) : List Bat → Option (Int × Int)
  | [] => some (free, ep)
  | b :: t => if BOk.batOk b = true ∧ free ≤ b.base ∧ ep ≤ b.epoch then bats (b.base + b.recs.length) b.epoch t else none
def segs (free ep : Int) : List Sg → Option Int
  | [] => some free
  | s :: t => if free ≤ s.base ∧ (s.bats.length = 0 → t.length = 0) then
      match bats s.base ep s.bats with
      | none => none
      | some (f, e) => segs f e t
    else none
def many : List Sg → Nat
  | [] => 0
  | s :: t => s.bats.length + many t
def bounds (l : Lg) : Bool := inR l.next 0 1000000000 && (inR l.start 0 l.next && inR l.roll 1 20000)
def counts (l : List Sg) : Bool := decide (l.length ≤ 60) && decide (many l ≤ 400)
def stands (next : Int) : Option Int → Bool
  | none => false
  | some f => decide (f ≤ next)
def logOk (l : Lg) : Bool := bounds l && (counts l.segs && stands l.next (segs 0 0 l.segs))
theorem okLen {b : Bat} (h : BOk.batOk b = true) : 0 ≤ b.base ∧ b.base ≤ 1000000000 ∧ 1 ≤ (b.recs.length : Int) ∧ (b.recs.length : Int) ≤ 40 := by
  simp only [BOk.batOk, BOk.okB1, BOk.okB3, BOk.inR, Bool.and_eq_true, decide_eq_true_eq] at h
  omega
theorem drop_at {α : Type} [Inhabited α] {l : List α} {k : Nat} (h : k < l.length) : l.drop k = l.getD k default :: l.drop (k + 1) := by
  rw [List.drop_eq_getElem_cons h]
  simp [h]
theorem bats_le : ∀ (l : List Bat) (f e f' e' : Int), bats f e l = some (f', e') → f ≤ f'
  | [], f, e, f', e', h => by simp [bats] at h; omega
  | b :: t, f, e, f', e', h => by
    unfold bats at h
    split at h
    · rename_i hc
      have := okLen hc.1
      have := bats_le t _ _ _ _ h
      omega
    · cases h
theorem many_drop : ∀ (l : List Sg) (k : Nat), k < l.length → many (l.take (k + 1)) = many (l.take k) + (l.getD k default).bats.length
  | [], k, h => by simp at h
  | s :: t, 0, h => by simp [many]
  | s :: t, k + 1, h => by
    have := many_drop t k (by simpa using h)
    simp only [List.take_succ_cons, many, List.getD_cons_succ]
    omega
end Go.Proofs.Ytbihajcikleccaa.LgP
