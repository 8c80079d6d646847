/- The program's rowReckonable, Arrival.okFor and InputsOk; Lists of structs of the call's own, told by the set of their blocks, with several lists in one element; what a writer leaves as it was; a round of marks; numbers that marks count. -/
import Derived.Deep.RegionHeld3
import Derived.Deep.Cut
import Derived.Test.YtkohhcjpjloaaaaJW30
import Derived.Test.YtkohhcjpjloaaaaJW16
import Derived.Test.YtkohhcjpjloaaaaJW07
import Derived.Test.YtkohhcjpjloaaaaJW04
namespace Go.Proofs.Ytkohhcjpjloaaaa.IoI
set_option maxRecDepth 8000
open Go.RowKit
open Ls Lp QyP QsP QtP QuP TbP IoP
open Recs (hsz below1 below2 chain chainD)
set_option linter.unusedVariables false
end Go.Proofs.Ytkohhcjpjloaaaa.IoI
namespace Go.Proofs.Ytkohhcjpjloaaaa.Ow
set_option maxRecDepth 8000
open Go.RowKit
open Recs
open Ls
set_option linter.unusedVariables false

/-- Block g is a row of the call's own, of n elements of s cells, with room for c; cell q holds 'F q'. -/
def MineC (w : World) (e s g n c : Nat) (F : Nat → Value) : Prop := w.ownsRow g e s (.slice (some ⟨g, 0, none⟩) n c) n ((List.range (n * s)).map F)
section
variable {w w' : World} {e s g n c b : Nat} {F : Nat → Value}
theorem MineC.cell (h : MineC w e s g n c F) (q : Nat) (hq : q < n * s) : w.cell? ⟨g, q, none⟩ = some (F q) := by
  have := World.ownsRow.cellAt h q hq
  rw [this]
  simp [hq]
theorem MineC.frozen (h : MineC w e s g n c F) (q : Nat) : w.frozen? ⟨g, q, none⟩ = false := World.ownsRow.frozenAt h q
theorem MineC.lt (h : MineC w e s g n c F) : g < w.heap.size := by
  rcases h.2 with ⟨h', _⟩ | ⟨g', cap', cur, h', hb, hg, hnc, hcm, hcs, htake⟩
  · simp at h'
  · simp only [Value.slice.injEq, Option.some.injEq, Addr.mk.injEq, and_true, true_and] at h'
    obtain ⟨rfl, rfl⟩ := h'
    exact (Array.getElem?_eq_some_iff.1 hg).1
theorem MineC.le (h : MineC w e s g n c F) : n ≤ c := by
  rcases h.2 with ⟨h', _⟩ | ⟨g', cap', cur, h', hb, hg, hnc, hcm, hcs, htake⟩
  · simp at h'
  · simp only [Value.slice.injEq, Option.some.injEq, Addr.mk.injEq, and_true, true_and] at h'
    obtain ⟨rfl, rfl⟩ := h'
    exact hnc
theorem MineC.set (h : MineC w e s g n c F) (q : Nat) (v : Value) : MineC (w.setCell ⟨g, q, none⟩ v) e s g n c (fun i => if i = q then v else F i) := by
  have := (World.ownsRow.stored h q v).1
  have he : ((List.range (n * s)).map F).set q v = (List.range (n * s)).map (fun i => if i = q then v else F i) := List.ext_getElem (by simp) fun i h1 h2 => by
    by_cases hi : i = q
    · subst hi; simp
    · rw [List.getElem_set_ne (by omega)]; simp [hi]
  rw [he] at this
  exact this
theorem MineC.keep (h : MineC w e s g n c F) (hk : w'.heap[g]? = w.heap[g]?) : MineC w' e s g n c F := by
  refine ⟨h.1, ?_⟩
  rcases h.2 with hn | ⟨g', cap, cur, h', hbs, hgg, rest⟩
  · exact .inl hn
  · have h'' := h'
    simp only [Value.slice.injEq, Option.some.injEq, Addr.mk.injEq, and_true, true_and] at h''
    obtain ⟨rfl, rfl⟩ := h''
    exact .inr ⟨g, c, cur, h', hbs, by rw [hk]; exact hgg, rest⟩
end
/-- Blocks outside a set are as they were. -/
structure Foot (w w' : World) (S : Nat → Prop) : Prop where
  os : w'.os = w.os
  tape : w'.tape = w.tape
  output : w'.output = w.output
  size : w.heap.size ≤ w'.heap.size
  block : ∀ k, k < w.heap.size → ¬ S k → w'.heap[k]? = w.heap[k]?
theorem Foot.refl (w : World) (S : Nat → Prop) : Foot w w S := ⟨rfl, rfl, rfl, Nat.le_refl _, fun _ _ _ => rfl⟩
theorem Foot.set {w wr : World} {S : Nat → Prop} {g q : Nat} (h : Foot w wr S) (hg : S g) (v : Value) : Foot w (wr.setCell ⟨g, q, none⟩ v) S :=
  ⟨h.os, h.tape, h.output, by simpa using h.size, fun k hk hw => (heap_setCell_other wr ⟨g, q, none⟩ k v (fun e => hw (e ▸ hg))).trans (h.block k hk hw)⟩
theorem Foot.below {w wr w' : World} {S : Nat → Prop} (h : Foot w wr S) (hb : Below wr.heap.size wr w') : Foot w w' S :=
  ⟨hb.os.trans h.os, hb.tape.trans h.tape, hb.output.trans h.output, Nat.le_trans h.size hb.size, fun k hk hw => (hb.block k (Nat.lt_of_lt_of_le hk h.size)).trans (h.block k hk hw)⟩
theorem Foot.trans {w wr w' : World} {S S' : Nat → Prop} (h : Foot w wr S) (h' : Foot wr w' S') (hs : ∀ x, S' x → S x) : Foot w w' S :=
  ⟨h'.os.trans h.os, h'.tape.trans h.tape, h'.output.trans h.output, Nat.le_trans h.size h'.size, fun k hk hw => (h'.block k (Nat.lt_of_lt_of_le hk h.size) (fun e => hw (hs k e))).trans (h.block k hk hw)⟩
theorem Foot.mono {w w' : World} {S S' : Nat → Prop} (h : Foot w w' S) (hs : ∀ x, S x → S' x) : Foot w w' S' :=
  ⟨h.os, h.tape, h.output, h.size, fun k hk hw => h.block k hk (fun e => hw (hs k e))⟩
theorem Foot.toBelow {w w' : World} {S : Nat → Prop} {lo : Nat} (h : Foot w w' S) (hs : ∀ x, S x → lo ≤ x) (hl : lo ≤ w.heap.size) : Below lo w w' := ⟨h.os, h.tape, h.output, h.size, fun k hk => h.block k (by omega) (fun e => by have := hs k e; omega)⟩
theorem Foot.of_below {w w' : World} (hb : Below w.heap.size w w') (S : Nat → Prop) : Foot w w' S := (Foot.refl w S).below hb

section
variable {T : Type} [Inhabited T] {ty nf : Nat} {EO : Elt T}
/-- What an element says hangs on the blocks of its set and on its own cells alone. -/
def KeepsO (nf : Nat) (EO : Elt T) : Prop := ∀ w w' S f f' t, EO w S f t → w.heap.size ≤ w'.heap.size → (∀ g, S g → w'.heap[g]? = w.heap[g]?) → (∀ q, q < nf → f' q = f q) → EO w' S f' t
structure LOpen (ty nf : Nat) (EO : Elt T) (w : World) (g n c : Nat) (F : Nat → Value) (P : Nat → Nat → Prop) (us : List T) : Prop where
  mine : MineC w ty nf g n c F
  len : us.length = n
  el : ∀ i, i < n → EO w (P i) (fun q => F (i * nf + q)) (us.getD i default)
  apart : ∀ i, i < n → ∀ x, P i x → x ≠ g ∧ x < w.heap.size
  disj : ∀ i j, i < n → j < n → i ≠ j → ∀ x, P i x → ¬ P j x
def LOwn (ty nf : Nat) (EO : Elt T) (w : World) (S : Nat → Prop) (v : Value) (us : List T) : Prop :=
  us.length ≤ 1048576 ∧ ∃ A c, v = .slice A us.length c ∧ (us.length = 0 ∨ ∃ (g : Nat) (F : Nat → Value) (P : Nat → Nat → Prop), A = some ⟨g, 0, none⟩ ∧ S g ∧ (∀ i, i < us.length → ∀ x, P i x → S x) ∧ LOpen ty nf EO w g us.length c F P us)
theorem LOpen.keep (hE : KeepsO nf EO) {w w' : World} {g n c : Nat} {F : Nat → Value} {P : Nat → Nat → Prop} {us : List T} (h : LOpen ty nf EO w g n c F P us) (hs : w.heap.size ≤ w'.heap.size) (hg : w'.heap[g]? = w.heap[g]?) (hk : ∀ i, i < n → ∀ x, P i x → w'.heap[x]? = w.heap[x]?) : LOpen ty nf EO w' g n c F P us :=
  ⟨h.mine.keep hg, h.len, fun i hi => hE _ _ _ _ _ _ (h.el i hi) hs (hk i hi) (fun _ _ => rfl), fun i hi x hx => ⟨(h.apart i hi x hx).1, Nat.lt_of_lt_of_le (h.apart i hi x hx).2 hs⟩, h.disj⟩
theorem LOwn.keep (hE : KeepsO nf EO) {w w' : World} {S : Nat → Prop} {v : Value} {us : List T} (h : LOwn ty nf EO w S v us) (hs : w.heap.size ≤ w'.heap.size) (hk : ∀ g, S g → w'.heap[g]? = w.heap[g]?) : LOwn ty nf EO w' S v us := by
  obtain ⟨h0, A, c, h1, h2⟩ := h
  refine ⟨h0, A, c, h1, h2.imp id ?_⟩
  rintro ⟨g, F, P, h3, h4, h5, h6⟩
  exact ⟨g, F, P, h3, h4, h5, h6.keep hE hs (hk g h4) (fun i hi x hx => hk x (h5 i hi x hx))⟩
theorem LOwn.mono {w : World} {S S' : Nat → Prop} {v : Value} {us : List T} (h : LOwn ty nf EO w S v us) (hs : ∀ x, S x → S' x) : LOwn ty nf EO w S' v us := by
  obtain ⟨h0, A, c, h1, h2⟩ := h
  refine ⟨h0, A, c, h1, h2.imp id ?_⟩
  rintro ⟨g, F, P, h3, h4, h5, h6⟩
  exact ⟨g, F, P, h3, hs g h4, fun i hi x hx => hs x (h5 i hi x hx), h6⟩
theorem LOwn.nil (w : World) (S : Nat → Prop) (A : Option Addr) (c : Nat) : LOwn ty nf EO w S (.slice A 0 c) ([] : List T) := ⟨by simp, A, c, rfl, .inl rfl⟩
theorem LOwn.form {w : World} {S : Nat → Prop} {v : Value} {us : List T} (h : LOwn ty nf EO w S v us) : ∃ A c, v = .slice A us.length c := by
  obtain ⟨_, A, c, h1, _⟩ := h
  exact ⟨A, c, h1⟩
theorem LOwn.set (hE : KeepsO nf EO) {w : World} {S : Nat → Prop} {v : Value} {us : List T} (h : LOwn ty nf EO w S v us) {g : Nat} (q : Nat) (hg : ∀ y, S y → y ≠ g) (x : Value) : LOwn ty nf EO (w.setCell ⟨g, q, none⟩ x) S v us := h.keep hE (by simp) (fun y hy => heap_setCell_other _ _ _ _ (hg y hy))
theorem LOwn.belowO (hE : KeepsO nf EO) {w w' : World} {S : Nat → Prop} {v : Value} {us : List T} (h : LOwn ty nf EO w S v us) (hb : Below w.heap.size w w') (hS : ∀ y, S y → y < w.heap.size) : LOwn ty nf EO w' S v us := h.keep hE hb.size (fun y hy => hb.block y (hS y hy))
theorem LOwn.footO (hE : KeepsO nf EO) {w w' : World} {S Q : Nat → Prop} {v : Value} {us : List T} (h : LOwn ty nf EO w S v us) (hf : Foot w w' Q) (hS : ∀ y, S y → y < w.heap.size) (hQ : ∀ y, S y → ¬ Q y) : LOwn ty nf EO w' S v us := h.keep hE hf.size (fun y hy => hf.block y (hS y hy) (hQ y hy))
/-- A list of one's own is one that is read. -/
theorem LOwn.lat {E : Elt T} (hG : Grows E) (hE : ∀ w S f t, EO w S f t → E w S f t) {w : World} {S : Nat → Prop} {v : Value} {us : List T} (h : LOwn ty nf EO w S v us) : LAt nf E w S v us := by
  obtain ⟨h0, A, c, rfl, h2⟩ := h
  refine ⟨by omega, A, c, rfl, h2.imp id ?_⟩
  rintro ⟨g, F, P, rfl, h4, h5, h6⟩
  refine ⟨g, 0, fun i q => F (i * nf + q), rfl, h4, h6.mine.le, fun i hi j hj => ?_, fun i hi => hG _ _ _ _ _ (hE _ _ _ _ (h6.el i hi)) (h5 i hi)⟩
  have hq : i * nf + j < us.length * nf := by
    have : (i + 1) * nf ≤ us.length * nf := Nat.mul_le_mul_right nf hi
    rw [Nat.succ_mul] at this
    omega
  rw [Nat.zero_add]
  exact h6.mine.cell _ hq
theorem getD_set_same {us : List T} {j : Nat} (t : T) (h : j < us.length) : (us.set j t).getD j default = t := by simp [h]
theorem getD_set_other {us : List T} {i j : Nat} (t : T) (h : i ≠ j) : (us.set j t).getD i default = us.getD i default := by
  simp [List.getD_eq_getElem?_getD, List.getElem?_set_ne (Ne.symm h)]
theorem cell_of {nf i j q p : Nat} (hq : q < nf) (hp : p < nf) (h : i ≠ j) : ¬ i * nf + q = j * nf + p := by
  by_cases hl : i < j
  · have : (i + 1) * nf ≤ j * nf := Nat.mul_le_mul_right nf hl
    rw [Nat.succ_mul] at this
    omega
  · have : (j + 1) * nf ≤ i * nf := Nat.mul_le_mul_right nf (by omega)
    rw [Nat.succ_mul] at this
    omega
/-- One element of a list is being written: its cells hold vs; the lists of the element lie in the set Pj. -/
def Rnd (ty nf g n c : Nat) (Pj : Nat → Prop) (w0 wr W : World) (S : Nat → Prop) (F0 : Nat → Value) (j : Nat) (vs : List Value) : Prop :=
  vs.length = nf ∧ ∃ F, MineC W ty nf g n c F ∧ (∀ i, i ≠ j → ∀ q, q < nf → F (i * nf + q) = F0 (i * nf + q)) ∧ (∀ q, q < nf → F (j * nf + q) = vs.getD q default) ∧
    (∀ q, q ≠ g → ¬ Pj q → q < wr.heap.size → W.heap[q]? = wr.heap[q]?) ∧ wr.heap.size ≤ W.heap.size ∧ Foot w0 W S
section
variable {g n c j : Nat} {Pj : Nat → Prop} {w0 wr W : World} {S : Nat → Prop} {F0 : Nat → Value} {vs : List Value}
theorem Rnd.start {F : Nat → Value} (h : MineC wr ty nf g n c F) (hf : Foot w0 wr S) (hl : vs.length = nf) (hv : ∀ q, q < nf → F (j * nf + q) = vs.getD q default) : Rnd ty nf g n c Pj w0 wr wr S F j vs :=
  ⟨hl, F, h, fun _ _ _ _ => rfl, hv, fun _ _ _ _ => rfl, Nat.le_refl _, hf⟩
theorem Rnd.cell (h : Rnd ty nf g n c Pj w0 wr W S F0 j vs) (hj : j < n) (q : Nat) (hq : q < nf) : W.cell? ⟨g, j * nf + q, none⟩ = some (vs.getD q default) := by
  obtain ⟨_, F, h1, _, h3, _⟩ := h
  have hqq : j * nf + q < n * nf := by
    have : (j + 1) * nf ≤ n * nf := Nat.mul_le_mul_right nf hj
    rw [Nat.succ_mul] at this
    omega
  rw [h1.cell _ hqq, h3 q hq]
theorem Rnd.frozen (h : Rnd ty nf g n c Pj w0 wr W S F0 j vs) (q : Nat) : W.frozen? ⟨g, q, none⟩ = false := by
  obtain ⟨_, F, h1, _⟩ := h
  exact h1.frozen q
theorem Rnd.lt (h : Rnd ty nf g n c Pj w0 wr W S F0 j vs) : g < W.heap.size := by
  obtain ⟨_, F, h1, _⟩ := h
  exact h1.lt
theorem Rnd.le (h : Rnd ty nf g n c Pj w0 wr W S F0 j vs) : wr.heap.size ≤ W.heap.size := by
  obtain ⟨_, F, _, _, _, _, h5, _⟩ := h
  exact h5
theorem Rnd.set (h : Rnd ty nf g n c Pj w0 wr W S F0 j vs) (hS : S g) (q : Nat) (hq : q < nf) (v : Value) : Rnd ty nf g n c Pj w0 wr (W.setCell ⟨g, j * nf + q, none⟩ v) S F0 j (vs.set q v) := by
  obtain ⟨h0, F, h1, h2, h3, h4, h5, h6⟩ := h
  refine ⟨by simp [h0], _, h1.set (j * nf + q) v, fun i hi p hp => ?_, fun p hp => ?_, fun p hp hn hl => (heap_setCell_other _ _ _ _ hp).trans (h4 p hp hn hl), by simpa using h5, h6.set hS v⟩
  · rw [if_neg (cell_of hp hq hi)]
    exact h2 i hi p hp
  · by_cases e : p = q
    · subst e
      rw [if_pos rfl]
      simp [h0, hp]
    · rw [if_neg (by omega), h3 p hp]
      simp [List.getD_eq_getElem?_getD, List.getElem?_set_ne (Ne.symm e)]
theorem Rnd.below {w1 : World} (h : Rnd ty nf g n c Pj w0 wr W S F0 j vs) (hb : Below W.heap.size W w1) : Rnd ty nf g n c Pj w0 wr w1 S F0 j vs := by
  obtain ⟨h0, F, h1, h2, h3, h4, h5, h6⟩ := h
  exact ⟨h0, F, h1.keep (hb.block g h1.lt), h2, h3, fun q hq hn hl => (hb.block q (by omega)).trans (h4 q hq hn hl), Nat.le_trans h5 hb.size, h6.below hb⟩
theorem Rnd.foot {w1 : World} {Q : Nat → Prop} (h : Rnd ty nf g n c Pj w0 wr W S F0 j vs) (hf : Foot W w1 Q) (hQ : ∀ x, Q x → Pj x) (hg : ¬ Pj g) (hS : ∀ x, Pj x → S x) : Rnd ty nf g n c Pj w0 wr w1 S F0 j vs := by
  obtain ⟨h0, F, h1, h2, h3, h4, h5, h6⟩ := h
  exact ⟨h0, F, h1.keep (hf.block g h1.lt (fun e => hg (hQ g e))), h2, h3, fun q hq hn hl => (hf.block q (by omega) (fun e => hn (hQ q e))).trans (h4 q hq hn hl), Nat.le_trans h5 hf.size, h6.trans hf (fun x hx => hS x (hQ x hx))⟩
theorem Rnd.done (hE : KeepsO nf EO) {P : Nat → Nat → Prop} {us : List T} {t : T} (ho : LOpen ty nf EO wr g n c F0 P us) (hj : j < n) (h : Rnd ty nf g n c (P j) w0 wr W S F0 j vs) (he : EO W (P j) (fun q => vs.getD q default) t) : ∃ F, LOpen ty nf EO W g n c F P (us.set j t) ∧ Foot w0 W S := by
  obtain ⟨h0, F, h1, h2, h3, h4, h5, h6⟩ := h
  refine ⟨F, ⟨h1, by rw [List.length_set]; exact ho.len, fun i hi => ?_, fun i hi x hx => ⟨(ho.apart i hi x hx).1, Nat.lt_of_lt_of_le (ho.apart i hi x hx).2 h5⟩, ho.disj⟩, h6⟩
  by_cases e : i = j
  · subst e
    rw [getD_set_same t (by rw [ho.len]; exact hi)]
    exact hE _ _ _ _ _ _ he (Nat.le_refl _) (fun _ _ => rfl) h3
  · rw [getD_set_other t e]
    exact hE _ _ _ _ _ _ (ho.el i hi) h5 (fun x hx => h4 x (ho.apart i hi x hx).1 (ho.disj i j hi hj e x hx) (ho.apart i hi x hx).2) (fun q hq => h2 i e q hq)
end
end
theorem keepsO_of {T : Type} {nf : Nat} {E : Elt T} (h : Keeps nf E) : KeepsO nf E := fun w w' S f f' t he _ hk hf => h w w' S f f' t he hk hf

section
variable {T : Type} (m1 : Nat → T → T) (n1 : T → Nat)
/-- How many numbers the marks of a list take (Ls.tot); the list with its marks from k on. -/
def mL : Nat → List T → List T
  | _, [] => []
  | k, t :: r => m1 k t :: mL (k + n1 t) r
theorem mL_len : ∀ (k : Nat) (ts : List T), (mL m1 n1 k ts).length = ts.length
  | _, [] => rfl
  | k, t :: r => by simp [mL, mL_len (k + n1 t) r]
theorem mL_app : ∀ (k : Nat) (a b : List T), mL m1 n1 k (a ++ b) = mL m1 n1 k a ++ mL m1 n1 (k + tot n1 a) b
  | k, [], b => by simp [mL, tot]
  | k, t :: r, b => by simp only [List.cons_append, mL, tot, mL_app (k + n1 t) r b, Nat.add_assoc]
theorem take_one [Inhabited T] {ts : List T} {j : Nat} (h : j < ts.length) : ts.take (j + 1) = ts.take j ++ [ts.getD j default] := by
  rw [List.take_add_one, List.getElem?_eq_getElem h]; simp [h]
/-- How far the list is marked: j elements. -/
def mid (k j : Nat) (ts : List T) : List T := mL m1 n1 k (ts.take j) ++ ts.drop j
theorem mid_len (k j : Nat) (ts : List T) : (mid m1 n1 k j ts).length = ts.length := by
  unfold mid
  rw [List.length_append, mL_len, List.length_take, List.length_drop]; omega
theorem mid_zero (k : Nat) (ts : List T) : mid m1 n1 k 0 ts = ts := by simp [mid, mL]
theorem mid_all (k : Nat) (ts : List T) : mid m1 n1 k ts.length ts = mL m1 n1 k ts := by simp [mid]
theorem mid_get [Inhabited T] {k j : Nat} {ts : List T} (h : j < ts.length) : (mid m1 n1 k j ts).getD j default = ts.getD j default := by
  unfold mid
  have hl : (mL m1 n1 k (ts.take j)).length = j := by rw [mL_len, List.length_take]; omega
  rw [List.getD_eq_getElem?_getD, List.getElem?_append_right (by omega), hl, Nat.sub_self, List.getElem?_drop, Nat.add_zero, ← List.getD_eq_getElem?_getD]
theorem mid_step [Inhabited T] {k j : Nat} {ts : List T} (h : j < ts.length) : (mid m1 n1 k j ts).set j (m1 (k + tot n1 (ts.take j)) (ts.getD j default)) = mid m1 n1 k (j + 1) ts := by
  unfold mid
  have hl : (mL m1 n1 k (ts.take j)).length = j := by rw [mL_len, List.length_take]; omega
  rw [List.set_append_right _ _ (by omega), hl, Nat.sub_self, take_one h, mL_app, List.append_assoc]
  congr 1
  rw [List.drop_eq_getElem_cons h, List.set_cons_zero]
  rfl
theorem mL_get [Inhabited T] {k j : Nat} {ts : List T} (h : j < ts.length) : (mL m1 n1 k ts).getD j default = m1 (k + tot n1 (ts.take j)) (ts.getD j default) := by
  have e : ts = ts.take j ++ (ts.getD j default :: ts.drop (j + 1)) := by
    conv => lhs; rw [← List.take_append_drop j ts, List.drop_eq_getElem_cons h]
    simp [h]
  have hl : (mL m1 n1 k (ts.take j)).length = j := by rw [mL_len, List.length_take]; omega
  have : mL m1 n1 k ts = mL m1 n1 k (ts.take j) ++ mL m1 n1 (k + tot n1 (ts.take j)) (ts.getD j default :: ts.drop (j + 1)) := by rw [← mL_app, ← e]
  rw [this, List.getD_eq_getElem?_getD, List.getElem?_append_right (by omega), hl, Nat.sub_self]
  simp [mL]
end
/-- Marks of numbers. -/
def mI (k : Nat) (_ : Int) : Int := (k : Int)
def nI (_ : Int) : Nat := 1
theorem nI_tot : ∀ ns : List Int, tot nI ns = ns.length
  | [] => rfl
  | _ :: r => by simp only [tot, nI_tot r, nI, List.length_cons]; omega
abbrev IntsOwn := LOwn 3 1 EI
theorem keepsOI : KeepsO 1 EI := keepsO_of keepsI
end Go.Proofs.Ytkohhcjpjloaaaa.Ow
