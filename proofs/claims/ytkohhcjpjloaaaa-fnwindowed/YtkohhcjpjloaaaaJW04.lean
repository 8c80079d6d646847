/- A row that the call made itself, written at several cells; Lists of structs that are read, told by the set of their blocks: of any element; a copier's loop; what a measure leaves. -/
import Derived.RegionTactic
import Derived.Maps.AppendAt
import Derived.Laws.Rows
import Derived.Deep.RegionWith
import Derived.Outline
import Derived.Deep.Cut
import Derived.Test.YtkohhcjpjloaaaaRows
import Derived.Test.YtkohhcjpjloaaaaJW03
namespace Go.Proofs.Ytkohhcjpjloaaaa.Own
set_option maxRecDepth 8000
open Go.RowKit
open Recs
set_option linter.unusedVariables false
def upd (F : Nat → Value) (o : Nat) (vs : List Value) (q : Nat) : Value := if o ≤ q ∧ q < o + vs.length then vs.getD (q - o) default else F q
theorem upd_in {F : Nat → Value} {o q : Nat} {vs : List Value} (h : q < vs.length) : upd F o vs (o + q) = vs.getD q default := by
  unfold upd
  rw [if_pos (by omega), Nat.add_sub_cancel_left]
theorem upd_out {F : Nat → Value} {o q : Nat} {vs : List Value} (h : q < o ∨ o + vs.length ≤ q) : upd F o vs q = F q := by
  unfold upd
  rw [if_neg (by omega)]
/-- Cells written one behind the other into a row of one's own. -/
theorem mine_setCells {e s g n : Nat} : ∀ (vs : List Value) (o : Nat) (w : World) (F : Nat → Value), Mine w e s g n F → Mine (w.setCells g o vs) e s g n (upd F o vs)
  | [], o, w, F, h => by
    have : upd F o [] = F := by
      funext q
      unfold upd
      rw [if_neg (by simp)]
    rw [this]
    exact h
  | v :: r, o, w, F, h => by
    have := mine_setCells r (o + 1) _ _ (h.set o v)
    have he : upd (fun i => if i = o then v else F i) (o + 1) r = upd F o (v :: r) := by
      funext q
      unfold upd
      show (if _ then _ else (if q = o then v else F q)) = _
      by_cases h1 : q = o
      · subst h1
        rw [if_neg (by omega), if_pos rfl, if_pos (by simp)]
        simp
      · by_cases h2 : o + 1 ≤ q ∧ q < o + 1 + r.length
        · rw [if_pos h2, if_pos (by simp; omega), show q - o = (q - (o + 1)) + 1 by omega, List.getD_cons_succ]
        · rw [if_neg h2, if_neg h1, if_neg (by simp; omega)]
    rw [he] at this
    exact this
theorem mine_there {e s g n o m : Nat} {w : World} {F : Nat → Value} (h : Mine w e s g n F) (hm : o + m ≤ n * s) : w.there g o m := fun j hj => ⟨by rw [h.cell (o + j) (by omega)]; rfl, h.frozen _⟩
end Go.Proofs.Ytkohhcjpjloaaaa.Own
namespace Go.Proofs.Ytkohhcjpjloaaaa.Ls
set_option maxRecDepth 8000
open Go.RowKit
open Recs
set_option linter.unusedVariables false

/-- The set of all blocks from lo on, below b. -/
def seg (lo b : Nat) (x : Nat) : Prop := lo ≤ x ∧ x < b
/-- What the cells of an element say of it; its lists lie in blocks of a set. -/
abbrev Elt (T : Type) := World → (Nat → Prop) → (Nat → Value) → T → Prop
section
variable {T : Type} [Inhabited T] {ty nf : Nat} {E : Elt T}
def Keeps (nf : Nat) (E : Elt T) : Prop := ∀ w w' S f f' t, E w S f t → (∀ g, S g → w'.heap[g]? = w.heap[g]?) → (∀ q, q < nf → f' q = f q) → E w' S f' t
def Grows (E : Elt T) : Prop := ∀ w S S' f t, E w S f t → (∀ g, S g → S' g) → E w S' f t
def LAt (nf : Nat) (E : Elt T) (w : World) (S : Nat → Prop) (v : Value) (us : List T) : Prop :=
  us.length ≤ 9223372036854775807 ∧ ∃ A c, v = .slice A us.length c ∧ (us.length = 0 ∨ ∃ (g o : Nat) (F : Nat → Nat → Value), A = some ⟨g, o, none⟩ ∧ S g ∧ us.length ≤ c ∧ (∀ i, i < us.length → ∀ j, j < nf → w.cell? ⟨g, o + i * nf + j, none⟩ = some (F i j)) ∧ ∀ i, i < us.length → E w S (F i) (us.getD i default))
theorem LAt.keep (hE : Keeps nf E) {w w' : World} {S : Nat → Prop} {v : Value} {us : List T} (h : LAt nf E w S v us) (hk : ∀ g, S g → w'.heap[g]? = w.heap[g]?) : LAt nf E w' S v us := by
  obtain ⟨h0, A, c, h1, h2⟩ := h
  refine ⟨h0, A, c, h1, h2.imp id ?_⟩
  rintro ⟨g, o, F, h3, h4, h5, h6, h7⟩
  exact ⟨g, o, F, h3, h4, h5, fun i hi j hj => by rw [World.cell?_of_block (w := w) (a := ⟨g, o + i * nf + j, none⟩) (hk g h4)]; exact h6 i hi j hj, fun i hi => hE _ _ _ _ _ _ (h7 i hi) hk (fun _ _ => rfl)⟩
theorem LAt.mono (hE : Grows E) {w : World} {S S' : Nat → Prop} {v : Value} {us : List T} (h : LAt nf E w S v us) (hs : ∀ g, S g → S' g) : LAt nf E w S' v us := by
  obtain ⟨h0, A, c, h1, h2⟩ := h
  refine ⟨h0, A, c, h1, h2.imp id ?_⟩
  rintro ⟨g, o, F, h3, h4, h5, h6, h7⟩
  exact ⟨g, o, F, h3, hs g h4, h5, h6, fun i hi => hE _ _ _ _ _ (h7 i hi) hs⟩
theorem LAt.below (hE : Keeps nf E) {w w' : World} {B : Nat} {S : Nat → Prop} {v : Value} {us : List T} (h : LAt nf E w S v us) (hb : Below B w w') (hs : ∀ g, S g → g < B) : LAt nf E w' S v us := h.keep hE fun g hg => hb.block g (hs g hg)
theorem LAt.form {w : World} {S : Nat → Prop} {v : Value} {us : List T} (h : LAt nf E w S v us) : ∃ A c, v = .slice A us.length c := by
  obtain ⟨_, A, c, h1, _⟩ := h
  exact ⟨A, c, h1⟩
theorem LAt.nil (w : World) (S : Nat → Prop) (A : Option Addr) (c : Nat) : LAt nf E w S (.slice A 0 c) ([] : List T) := ⟨by simp, A, c, rfl, .inl rfl⟩
theorem LAt.one {w : World} {S : Nat → Prop} {v : Value} {us : List T} (h : LAt nf E w S v us) : v.oneCell' = true := by
  obtain ⟨A, c, rfl⟩ := h.form
  rfl
theorem LAt.drewN {w : World} {S : Nat → Prop} {v : Value} {us : List T} (hE : Keeps nf E) (h : LAt nf E w S v us) (k : Nat) : LAt nf E (w.drewN k) S v us := h.keep hE fun _ _ => rfl
/-- What a copier's loop has done: j elements stand in a row of its own. -/
structure Done (ty nf : Nat) (E : Elt T) (w wr : World) (us : List T) (n j : Nat) (F : Nat → Value) : Prop where
  mine : Mine wr ty nf w.heap.size n F
  bel : Below w.heap.size w wr
  el : ∀ i, i < j → E wr (seg (w.heap.size + 1) wr.heap.size) (fun q => F (i * nf + q)) (us.getD i default)
theorem Done.step (hK : Keeps nf E) (hG : Grows E) {w wr w1 : World} {us : List T} {n j : Nat} {F : Nat → Value} (h : Done ty nf E w wr us n j F) (vs : List Value) (hv : vs.length = nf) (b1 : Below wr.heap.size wr w1) (he : E w1 (seg wr.heap.size w1.heap.size) (fun q => vs.getD q default) (us.getD j default)) :
    Done ty nf E w (w1.setCells w.heap.size (j * nf) vs) us n (j + 1) (Own.upd F (j * nf) vs) := by
  have hlt := h.mine.lt
  have keep : ∀ g, g ≠ w.heap.size → (w1.setCells w.heap.size (j * nf) vs).heap[g]? = w1.heap[g]? := fun g hg => Cells.heap_setCells_other _ _ hg
  have hsize := Cells.size_setCells (g := w.heap.size) vs (o := j * nf) w1
  have b1s := b1.size
  refine ⟨Own.mine_setCells _ _ _ _ (h.mine.below b1 hlt), Cells.below_setCells (Nat.le_refl _) _ _ _ _ (chain h.bel b1), fun i hi => ?_⟩
  by_cases e : i = j
  · subst e
    refine hG _ (seg wr.heap.size w1.heap.size) _ _ _ (hK _ _ _ _ _ _ he (fun g hg => keep g (by have := hg.1; omega)) (fun q hq => Own.upd_in (by omega))) (fun g hg => ⟨by have := hg.1; omega, by rw [hsize]; exact hg.2⟩)
  · refine hG _ (seg (w.heap.size + 1) wr.heap.size) _ _ _ (hK _ _ _ _ _ _ (h.el i (by omega)) (fun g hg => ?_) (fun q hq => ?_)) (fun g hg => ⟨hg.1, by rw [hsize]; exact Nat.lt_of_lt_of_le hg.2 b1s⟩)
    · exact (keep g (by have := hg.1; omega)).trans (b1.block g hg.2)
    · refine Own.upd_out (.inl ?_)
      have : (i + 1) * nf ≤ j * nf := Nat.mul_le_mul_right nf (by omega)
      rw [Nat.succ_mul] at this
      omega
theorem Done.all (hG : Grows E) {w wr : World} {us : List T} {F : Nat → Value} (h : Done ty nf E w wr us us.length us.length F) (hn : us.length ≤ 9223372036854775807) : LAt nf E wr (seg w.heap.size wr.heap.size) (.slice (some ⟨w.heap.size, 0, none⟩) us.length us.length) us := by
  refine ⟨hn, _, _, rfl, .inr ⟨w.heap.size, 0, fun i j => F (i * nf + j), rfl, ⟨Nat.le_refl _, h.mine.lt⟩, Nat.le_refl _, fun i hi j hj => ?_, fun i hi => hG _ _ _ _ _ (h.el i hi) (fun g hg => ⟨by have := hg.1; omega, hg.2⟩)⟩⟩
  have hq : i * nf + j < us.length * nf := by
    have : (i + 1) * nf ≤ us.length * nf := Nat.mul_le_mul_right nf hi
    rw [Nat.succ_mul] at this
    omega
  rw [Nat.zero_add]
  exact h.mine.cell _ hq
theorem cells_later {w w' : World} {g o n : Nat} {F : Nat → Nat → Value} (h : ∀ i, i < n → ∀ j, j < nf → w.cell? ⟨g, o + i * nf + j, none⟩ = some (F i j)) (hb : Below w.heap.size w w') (hg : g < w.heap.size) :
    ∀ i, i < n → ∀ j, j < nf → w'.cell? ⟨g, o + i * nf + j, none⟩ = some (F i j) := fun i hi j hj => by rw [hb.cell (p := ⟨g, o + i * nf + j, none⟩) hg]; exact h i hi j hj
end
/-- A measure that had l left, and has q left behind n more (below 0: there were fewer). -/
def Lf (l : Int) (n : Nat) (q : Int) : Prop := (0 ≤ q → q = l - n) ∧ (q < 0 → l < n)
section
variable {T : Type} (f : T → Nat)
def tot : List T → Nat
  | [] => 0
  | t :: r => f t + tot r
def szL (us : List T) : Nat := us.length + tot f us
theorem tot_app : ∀ (a b : List T), tot f (a ++ b) = tot f a + tot f b
  | [], b => by simp [tot]
  | t :: r, b => by simp only [List.cons_append, tot, tot_app r b]; omega
theorem tot_take [Inhabited T] {ts : List T} {j : Nat} (h : j < ts.length) : tot f (ts.take (j + 1)) = tot f (ts.take j) + f (ts.getD j default) := by
  have : ts.take (j + 1) = ts.take j ++ [ts.getD j default] := by rw [List.take_add_one, List.getElem?_eq_getElem h]; simp [h]
  rw [this, tot_app]; simp [tot]
theorem tot_le (ts : List T) (j : Nat) : tot f (ts.take j) ≤ tot f ts := by
  have := tot_app f (ts.take j) (ts.drop j)
  rw [List.take_append_drop] at this
  omega
theorem tot_one [Inhabited T] {ts : List T} {j : Nat} (h : j < ts.length) : f (ts.getD j default) ≤ tot f ts := by
  have a := tot_take f h
  have b := tot_le f ts (j + 1)
  omega
theorem tot_zero (hf : ∀ t, f t = 0) : ∀ us : List T, tot f us = 0
  | [] => rfl
  | t :: r => by simp only [tot, hf t, tot_zero hf r]
theorem szL_len {ts : List T} {l : Nat} (h : szL f ts ≤ l) : ts.length ≤ l := by unfold szL at h; omega
theorem szL_one [Inhabited T] {ts : List T} {l j : Nat} (h : szL f ts ≤ l) (hj : j < ts.length) : f (ts.getD j default) ≤ l := by
  have := tot_one f hj
  unfold szL at h; omega
end
/-- A list that memory holds, of elements that it holds. -/
def FineL {T : Type} [Inhabited T] (P : T → Prop) (us : List T) : Prop := us.length ≤ maxLen ∧ ∀ i, i < us.length → P (us.getD i default)
def I64 (n : Int) : Prop := -9223372036854775808 ≤ n ∧ n ≤ 9223372036854775807
theorem at3z (w : World) (a b c : Obj) : (((w.alloc a).alloc b).alloc c).heap[w.heap.size]? = some a := by
  show (((w.heap.push a).push b).push c)[w.heap.size]? = some a
  rw [Array.getElem?_push, if_neg (by simp; omega), Array.getElem?_push, if_neg (by simp), Array.getElem?_push, if_pos rfl]
theorem at2z (w : World) (a b : Obj) : ((w.alloc a).alloc b).heap[w.heap.size]? = some a := by
  show ((w.heap.push a).push b)[w.heap.size]? = some a
  rw [Array.getElem?_push, if_neg (by simp), Array.getElem?_push, if_pos rfl]
theorem at2y (w : World) (a b : Obj) : ((w.alloc a).alloc b).heap[w.heap.size + 1]? = some b := by
  show ((w.heap.push a).push b)[w.heap.size + 1]? = some b
  rw [Array.getElem?_push, if_pos (by simp)]

/-- Numbers in a list. -/
def EI : Elt Int := fun _ _ f n => f 0 = .int .i64 n
theorem keepsI : Keeps 1 EI := fun w w' S f f' t h hk hf => by show f' 0 = _; rw [hf 0 (by omega)]; exact h
theorem growsI : Grows EI := fun w S S' f t h hs => h
abbrev IntsAt := LAt 1 EI
theorem int_cell {w : World} {S : Nat → Prop} {g o n : Nat} {ns : List Int} {F : Nat → Nat → Value} (h : ∀ i, i < n → ∀ j, j < 1 → w.cell? ⟨g, o + i * 1 + j, none⟩ = some (F i j)) (he : ∀ i, i < n → EI w S (F i) (ns.getD i default)) : ∀ i, i < n → w.cell? ⟨g, o + i, none⟩ = some (.int .i64 (ns.getD i default)) := fun i hi => by
  have := h i hi 0 (by omega)
  rw [show F i 0 = _ from he i hi] at this
  simpa using this
end Go.Proofs.Ytkohhcjpjloaaaa.Ls
