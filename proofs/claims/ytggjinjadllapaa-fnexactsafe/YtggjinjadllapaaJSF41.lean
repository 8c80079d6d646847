/- Lists of structs of the call's own, told by the set of their blocks, with several lists in one element; what a writer leaves as it was; a round of marks; numbers that marks count; The law's marks: of a text; of a list of numbers; the look at these; Lists of Head of the call's own; the law's marks on them. -/
import Derived.Laws.BytesArg
import Derived.WalkLawsBesides
import Derived.Test.YtggjinjadllapaaJSF18
import Derived.Test.YtggjinjadllapaaJSF19
namespace Go.Proofs.Ytggjinjadllapaa.Ow
set_option maxRecDepth 8000
open Go.RowKit
open Recs
open Ls
set_option linter.unusedVariables false

/-- Block g is a row of the call's own, of n elements of s cells, with room for c; cell q holds 'F q'. -/
def MineC (w : World) (e s g n c : Nat) (F : Nat → Value) : Prop := w.ownsRow g e s (.slice (some ⟨g, 0, none⟩) n c) n ((List.range (n * s)).map F)
section
variable {w w' : World} {e s g n c b : Nat} {F : Nat → Value}
theorem MineC.cell (h : MineC w e s g n c F) (q : Nat) (hq : q < n * s) : w.cell? ⟨g, q, none⟩ = some (F q) := by
  have := World.ownsRow.cellAt h q hq
  rw [this]
  simp [hq]
theorem MineC.frozen (h : MineC w e s g n c F) (q : Nat) : w.frozen? ⟨g, q, none⟩ = false := World.ownsRow.frozenAt h q
theorem MineC.lt (h : MineC w e s g n c F) : g < w.heap.size := by
  rcases h.2 with ⟨h', _⟩ | ⟨g', cap', cur, h', hb, hg, hnc, hcm, hcs, htake⟩
  · simp at h'
  · simp only [Value.slice.injEq, Option.some.injEq, Addr.mk.injEq, and_true, true_and] at h'
    obtain ⟨rfl, rfl⟩ := h'
    exact (Array.getElem?_eq_some_iff.1 hg).1
theorem MineC.le (h : MineC w e s g n c F) : n ≤ c := by
  rcases h.2 with ⟨h', _⟩ | ⟨g', cap', cur, h', hb, hg, hnc, hcm, hcs, htake⟩
  · simp at h'
  · simp only [Value.slice.injEq, Option.some.injEq, Addr.mk.injEq, and_true, true_and] at h'
    obtain ⟨rfl, rfl⟩ := h'
    exact hnc
theorem MineC.set (h : MineC w e s g n c F) (q : Nat) (v : Value) : MineC (w.setCell ⟨g, q, none⟩ v) e s g n c (fun i => if i = q then v else F i) := by
  have := (World.ownsRow.stored h q v).1
  have he : ((List.range (n * s)).map F).set q v = (List.range (n * s)).map (fun i => if i = q then v else F i) := List.ext_getElem (by simp) fun i h1 h2 => by
    by_cases hi : i = q
    · subst hi; simp
    · rw [List.getElem_set_ne (by omega)]; simp [hi]
  rw [he] at this
  exact this
theorem MineC.keep (h : MineC w e s g n c F) (hk : w'.heap[g]? = w.heap[g]?) : MineC w' e s g n c F := by
  refine ⟨h.1, ?_⟩
  rcases h.2 with hn | ⟨g', cap, cur, h', hbs, hgg, rest⟩
  · exact .inl hn
  · have h'' := h'
    simp only [Value.slice.injEq, Option.some.injEq, Addr.mk.injEq, and_true, true_and] at h''
    obtain ⟨rfl, rfl⟩ := h''
    exact .inr ⟨g, c, cur, h', hbs, by rw [hk]; exact hgg, rest⟩
end
/-- Blocks outside a set are as they were. -/
structure Foot (w w' : World) (S : Nat → Prop) : Prop where
  os : w'.os = w.os
  tape : w'.tape = w.tape
  output : w'.output = w.output
  size : w.heap.size ≤ w'.heap.size
  block : ∀ k, k < w.heap.size → ¬ S k → w'.heap[k]? = w.heap[k]?
theorem Foot.refl (w : World) (S : Nat → Prop) : Foot w w S := ⟨rfl, rfl, rfl, Nat.le_refl _, fun _ _ _ => rfl⟩
theorem Foot.set {w wr : World} {S : Nat → Prop} {g q : Nat} (h : Foot w wr S) (hg : S g) (v : Value) : Foot w (wr.setCell ⟨g, q, none⟩ v) S :=
  ⟨h.os, h.tape, h.output, by simpa using h.size, fun k hk hw => (heap_setCell_other wr ⟨g, q, none⟩ k v (fun e => hw (e ▸ hg))).trans (h.block k hk hw)⟩
theorem Foot.below {w wr w' : World} {S : Nat → Prop} (h : Foot w wr S) (hb : Below wr.heap.size wr w') : Foot w w' S :=
  ⟨hb.os.trans h.os, hb.tape.trans h.tape, hb.output.trans h.output, Nat.le_trans h.size hb.size, fun k hk hw => (hb.block k (Nat.lt_of_lt_of_le hk h.size)).trans (h.block k hk hw)⟩
theorem Foot.trans {w wr w' : World} {S S' : Nat → Prop} (h : Foot w wr S) (h' : Foot wr w' S') (hs : ∀ x, S' x → S x) : Foot w w' S :=
  ⟨h'.os.trans h.os, h'.tape.trans h.tape, h'.output.trans h.output, Nat.le_trans h.size h'.size, fun k hk hw => (h'.block k (Nat.lt_of_lt_of_le hk h.size) (fun e => hw (hs k e))).trans (h.block k hk hw)⟩
theorem Foot.mono {w w' : World} {S S' : Nat → Prop} (h : Foot w w' S) (hs : ∀ x, S x → S' x) : Foot w w' S' :=
  ⟨h.os, h.tape, h.output, h.size, fun k hk hw => h.block k hk (fun e => hw (hs k e))⟩
theorem Foot.toBelow {w w' : World} {S : Nat → Prop} {lo : Nat} (h : Foot w w' S) (hs : ∀ x, S x → lo ≤ x) (hl : lo ≤ w.heap.size) : Below lo w w' := ⟨h.os, h.tape, h.output, h.size, fun k hk => h.block k (by omega) (fun e => by have := hs k e; omega)⟩
theorem Foot.of_below {w w' : World} (hb : Below w.heap.size w w') (S : Nat → Prop) : Foot w w' S := (Foot.refl w S).below hb

section
variable {T : Type} [Inhabited T] {ty nf : Nat} {EO : Elt T}
/-- What an element says hangs on the blocks of its set and on its own cells alone. -/
def KeepsO (nf : Nat) (EO : Elt T) : Prop := ∀ w w' S f f' t, EO w S f t → w.heap.size ≤ w'.heap.size → (∀ g, S g → w'.heap[g]? = w.heap[g]?) → (∀ q, q < nf → f' q = f q) → EO w' S f' t
structure LOpen (ty nf : Nat) (EO : Elt T) (w : World) (g n c : Nat) (F : Nat → Value) (P : Nat → Nat → Prop) (us : List T) : Prop where
  mine : MineC w ty nf g n c F
  len : us.length = n
  el : ∀ i, i < n → EO w (P i) (fun q => F (i * nf + q)) (us.getD i default)
  apart : ∀ i, i < n → ∀ x, P i x → x ≠ g ∧ x < w.heap.size
  disj : ∀ i j, i < n → j < n → i ≠ j → ∀ x, P i x → ¬ P j x
def LOwn (ty nf : Nat) (EO : Elt T) (w : World) (S : Nat → Prop) (v : Value) (us : List T) : Prop :=
  us.length ≤ 1048576 ∧ ∃ A c, v = .slice A us.length c ∧ (us.length = 0 ∨ ∃ (g : Nat) (F : Nat → Value) (P : Nat → Nat → Prop), A = some ⟨g, 0, none⟩ ∧ S g ∧ (∀ i, i < us.length → ∀ x, P i x → S x) ∧ LOpen ty nf EO w g us.length c F P us)
theorem LOpen.keep (hE : KeepsO nf EO) {w w' : World} {g n c : Nat} {F : Nat → Value} {P : Nat → Nat → Prop} {us : List T} (h : LOpen ty nf EO w g n c F P us) (hs : w.heap.size ≤ w'.heap.size) (hg : w'.heap[g]? = w.heap[g]?) (hk : ∀ i, i < n → ∀ x, P i x → w'.heap[x]? = w.heap[x]?) : LOpen ty nf EO w' g n c F P us :=
  ⟨h.mine.keep hg, h.len, fun i hi => hE _ _ _ _ _ _ (h.el i hi) hs (hk i hi) (fun _ _ => rfl), fun i hi x hx => ⟨(h.apart i hi x hx).1, Nat.lt_of_lt_of_le (h.apart i hi x hx).2 hs⟩, h.disj⟩
theorem LOwn.keep (hE : KeepsO nf EO) {w w' : World} {S : Nat → Prop} {v : Value} {us : List T} (h : LOwn ty nf EO w S v us) (hs : w.heap.size ≤ w'.heap.size) (hk : ∀ g, S g → w'.heap[g]? = w.heap[g]?) : LOwn ty nf EO w' S v us := by
  obtain ⟨h0, A, c, h1, h2⟩ := h
  refine ⟨h0, A, c, h1, h2.imp id ?_⟩
  rintro ⟨g, F, P, h3, h4, h5, h6⟩
  exact ⟨g, F, P, h3, h4, h5, h6.keep hE hs (hk g h4) (fun i hi x hx => hk x (h5 i hi x hx))⟩
theorem LOwn.mono {w : World} {S S' : Nat → Prop} {v : Value} {us : List T} (h : LOwn ty nf EO w S v us) (hs : ∀ x, S x → S' x) : LOwn ty nf EO w S' v us := by
  obtain ⟨h0, A, c, h1, h2⟩ := h
  refine ⟨h0, A, c, h1, h2.imp id ?_⟩
  rintro ⟨g, F, P, h3, h4, h5, h6⟩
  exact ⟨g, F, P, h3, hs g h4, fun i hi x hx => hs x (h5 i hi x hx), h6⟩
theorem LOwn.nil (w : World) (S : Nat → Prop) (A : Option Addr) (c : Nat) : LOwn ty nf EO w S (.slice A 0 c) ([] : List T) := ⟨by simp, A, c, rfl, .inl rfl⟩
theorem LOwn.form {w : World} {S : Nat → Prop} {v : Value} {us : List T} (h : LOwn ty nf EO w S v us) : ∃ A c, v = .slice A us.length c := by
  obtain ⟨_, A, c, h1, _⟩ := h
  exact ⟨A, c, h1⟩
theorem LOwn.set (hE : KeepsO nf EO) {w : World} {S : Nat → Prop} {v : Value} {us : List T} (h : LOwn ty nf EO w S v us) {g : Nat} (q : Nat) (hg : ∀ y, S y → y ≠ g) (x : Value) : LOwn ty nf EO (w.setCell ⟨g, q, none⟩ x) S v us := h.keep hE (by simp) (fun y hy => heap_setCell_other _ _ _ _ (hg y hy))
theorem LOwn.belowO (hE : KeepsO nf EO) {w w' : World} {S : Nat → Prop} {v : Value} {us : List T} (h : LOwn ty nf EO w S v us) (hb : Below w.heap.size w w') (hS : ∀ y, S y → y < w.heap.size) : LOwn ty nf EO w' S v us := h.keep hE hb.size (fun y hy => hb.block y (hS y hy))
theorem LOwn.footO (hE : KeepsO nf EO) {w w' : World} {S Q : Nat → Prop} {v : Value} {us : List T} (h : LOwn ty nf EO w S v us) (hf : Foot w w' Q) (hS : ∀ y, S y → y < w.heap.size) (hQ : ∀ y, S y → ¬ Q y) : LOwn ty nf EO w' S v us := h.keep hE hf.size (fun y hy => hf.block y (hS y hy) (hQ y hy))
/-- A list of one's own is one that is read. -/
theorem LOwn.lat {E : Elt T} (hG : Grows E) (hE : ∀ w S f t, EO w S f t → E w S f t) {w : World} {S : Nat → Prop} {v : Value} {us : List T} (h : LOwn ty nf EO w S v us) : LAt nf E w S v us := by
  obtain ⟨h0, A, c, rfl, h2⟩ := h
  refine ⟨by omega, A, c, rfl, h2.imp id ?_⟩
  rintro ⟨g, F, P, rfl, h4, h5, h6⟩
  refine ⟨g, 0, fun i q => F (i * nf + q), rfl, h4, h6.mine.le, fun i hi j hj => ?_, fun i hi => hG _ _ _ _ _ (hE _ _ _ _ (h6.el i hi)) (h5 i hi)⟩
  have hq : i * nf + j < us.length * nf := by
    have : (i + 1) * nf ≤ us.length * nf := Nat.mul_le_mul_right nf hi
    rw [Nat.succ_mul] at this
    omega
  rw [Nat.zero_add]
  exact h6.mine.cell _ hq
theorem getD_set_same {us : List T} {j : Nat} (t : T) (h : j < us.length) : (us.set j t).getD j default = t := by simp [h]
theorem getD_set_other {us : List T} {i j : Nat} (t : T) (h : i ≠ j) : (us.set j t).getD i default = us.getD i default := by
  simp [List.getD_eq_getElem?_getD, List.getElem?_set_ne (Ne.symm h)]
theorem cell_of {nf i j q p : Nat} (hq : q < nf) (hp : p < nf) (h : i ≠ j) : ¬ i * nf + q = j * nf + p := by
  by_cases hl : i < j
  · have : (i + 1) * nf ≤ j * nf := Nat.mul_le_mul_right nf hl
    rw [Nat.succ_mul] at this
    omega
  · have : (j + 1) * nf ≤ i * nf := Nat.mul_le_mul_right nf (by omega)
    rw [Nat.succ_mul] at this
    omega
/-- One element of a list is being written: its cells hold vs; the lists of the element lie in the set Pj. -/
def Rnd (ty nf g n c : Nat) (Pj : Nat → Prop) (w0 wr W : World) (S : Nat → Prop) (F0 : Nat → Value) (j : Nat) (vs : List Value) : Prop :=
  vs.length = nf ∧ ∃ F, MineC W ty nf g n c F ∧ (∀ i, i ≠ j → ∀ q, q < nf → F (i * nf + q) = F0 (i * nf + q)) ∧ (∀ q, q < nf → F (j * nf + q) = vs.getD q default) ∧
    (∀ q, q ≠ g → ¬ Pj q → q < wr.heap.size → W.heap[q]? = wr.heap[q]?) ∧ wr.heap.size ≤ W.heap.size ∧ Foot w0 W S
section
variable {g n c j : Nat} {Pj : Nat → Prop} {w0 wr W : World} {S : Nat → Prop} {F0 : Nat → Value} {vs : List Value}
theorem Rnd.start {F : Nat → Value} (h : MineC wr ty nf g n c F) (hf : Foot w0 wr S) (hl : vs.length = nf) (hv : ∀ q, q < nf → F (j * nf + q) = vs.getD q default) : Rnd ty nf g n c Pj w0 wr wr S F j vs :=
  ⟨hl, F, h, fun _ _ _ _ => rfl, hv, fun _ _ _ _ => rfl, Nat.le_refl _, hf⟩
theorem Rnd.cell (h : Rnd ty nf g n c Pj w0 wr W S F0 j vs) (hj : j < n) (q : Nat) (hq : q < nf) : W.cell? ⟨g, j * nf + q, none⟩ = some (vs.getD q default) := by
  obtain ⟨_, F, h1, _, h3, _⟩ := h
  have hqq : j * nf + q < n * nf := by
    have : (j + 1) * nf ≤ n * nf := Nat.mul_le_mul_right nf hj
    rw [Nat.succ_mul] at this
    omega
  rw [h1.cell _ hqq, h3 q hq]
theorem Rnd.frozen (h : Rnd ty nf g n c Pj w0 wr W S F0 j vs) (q : Nat) : W.frozen? ⟨g, q, none⟩ = false := by
  obtain ⟨_, F, h1, _⟩ := h
  exact h1.frozen q
theorem Rnd.lt (h : Rnd ty nf g n c Pj w0 wr W S F0 j vs) : g < W.heap.size := by
  obtain ⟨_, F, h1, _⟩ := h
  exact h1.lt
theorem Rnd.le (h : Rnd ty nf g n c Pj w0 wr W S F0 j vs) : wr.heap.size ≤ W.heap.size := by
  obtain ⟨_, F, _, _, _, _, h5, _⟩ := h
  exact h5
theorem Rnd.set (h : Rnd ty nf g n c Pj w0 wr W S F0 j vs) (hS : S g) (q : Nat) (hq : q < nf) (v : Value) : Rnd ty nf g n c Pj w0 wr (W.setCell ⟨g, j * nf + q, none⟩ v) S F0 j (vs.set q v) := by
  obtain ⟨h0, F, h1, h2, h3, h4, h5, h6⟩ := h
  refine ⟨by simp [h0], _, h1.set (j * nf + q) v, fun i hi p hp => ?_, fun p hp => ?_, fun p hp hn hl => (heap_setCell_other _ _ _ _ hp).trans (h4 p hp hn hl), by simpa using h5, h6.set hS v⟩
  · rw [if_neg (cell_of hp hq hi)]
    exact h2 i hi p hp
  · by_cases e : p = q
    · subst e
      rw [if_pos rfl]
      simp [h0, hp]
    · rw [if_neg (by omega), h3 p hp]
      simp [List.getD_eq_getElem?_getD, List.getElem?_set_ne (Ne.symm e)]
theorem Rnd.below {w1 : World} (h : Rnd ty nf g n c Pj w0 wr W S F0 j vs) (hb : Below W.heap.size W w1) : Rnd ty nf g n c Pj w0 wr w1 S F0 j vs := by
  obtain ⟨h0, F, h1, h2, h3, h4, h5, h6⟩ := h
  exact ⟨h0, F, h1.keep (hb.block g h1.lt), h2, h3, fun q hq hn hl => (hb.block q (by omega)).trans (h4 q hq hn hl), Nat.le_trans h5 hb.size, h6.below hb⟩
theorem Rnd.foot {w1 : World} {Q : Nat → Prop} (h : Rnd ty nf g n c Pj w0 wr W S F0 j vs) (hf : Foot W w1 Q) (hQ : ∀ x, Q x → Pj x) (hg : ¬ Pj g) (hS : ∀ x, Pj x → S x) : Rnd ty nf g n c Pj w0 wr w1 S F0 j vs := by
  obtain ⟨h0, F, h1, h2, h3, h4, h5, h6⟩ := h
  exact ⟨h0, F, h1.keep (hf.block g h1.lt (fun e => hg (hQ g e))), h2, h3, fun q hq hn hl => (hf.block q (by omega) (fun e => hn (hQ q e))).trans (h4 q hq hn hl), Nat.le_trans h5 hf.size, h6.trans hf (fun x hx => hS x (hQ x hx))⟩
theorem Rnd.done (hE : KeepsO nf EO) {P : Nat → Nat → Prop} {us : List T} {t : T} (ho : LOpen ty nf EO wr g n c F0 P us) (hj : j < n) (h : Rnd ty nf g n c (P j) w0 wr W S F0 j vs) (he : EO W (P j) (fun q => vs.getD q default) t) : ∃ F, LOpen ty nf EO W g n c F P (us.set j t) ∧ Foot w0 W S := by
  obtain ⟨h0, F, h1, h2, h3, h4, h5, h6⟩ := h
  refine ⟨F, ⟨h1, by rw [List.length_set]; exact ho.len, fun i hi => ?_, fun i hi x hx => ⟨(ho.apart i hi x hx).1, Nat.lt_of_lt_of_le (ho.apart i hi x hx).2 h5⟩, ho.disj⟩, h6⟩
  by_cases e : i = j
  · subst e
    rw [getD_set_same t (by rw [ho.len]; exact hi)]
    exact hE _ _ _ _ _ _ he (Nat.le_refl _) (fun _ _ => rfl) h3
  · rw [getD_set_other t e]
    exact hE _ _ _ _ _ _ (ho.el i hi) h5 (fun x hx => h4 x (ho.apart i hi x hx).1 (ho.disj i j hi hj e x hx) (ho.apart i hi x hx).2) (fun q hq => h2 i e q hq)
end
end
theorem keepsO_of {T : Type} {nf : Nat} {E : Elt T} (h : Keeps nf E) : KeepsO nf E := fun w w' S f f' t he _ hk hf => h w w' S f f' t he hk hf

section
variable {T : Type} (m1 : Nat → T → T) (n1 : T → Nat)
/-- How many numbers the marks of a list take (Ls.tot); the list with its marks from k on. -/
def mL : Nat → List T → List T
  | _, [] => []
  | k, t :: r => m1 k t :: mL (k + n1 t) r
theorem mL_len : ∀ (k : Nat) (ts : List T), (mL m1 n1 k ts).length = ts.length
  | _, [] => rfl
  | k, t :: r => by simp [mL, mL_len (k + n1 t) r]
theorem mL_app : ∀ (k : Nat) (a b : List T), mL m1 n1 k (a ++ b) = mL m1 n1 k a ++ mL m1 n1 (k + tot n1 a) b
  | k, [], b => by simp [mL, tot]
  | k, t :: r, b => by simp only [List.cons_append, mL, tot, mL_app (k + n1 t) r b, Nat.add_assoc]
theorem take_one [Inhabited T] {ts : List T} {j : Nat} (h : j < ts.length) : ts.take (j + 1) = ts.take j ++ [ts.getD j default] := by
  rw [List.take_add_one, List.getElem?_eq_getElem h]; simp [h]
/-- How far the list is marked: j elements. -/
def mid (k j : Nat) (ts : List T) : List T := mL m1 n1 k (ts.take j) ++ ts.drop j
theorem mid_len (k j : Nat) (ts : List T) : (mid m1 n1 k j ts).length = ts.length := by
  unfold mid
  rw [List.length_append, mL_len, List.length_take, List.length_drop]; omega
theorem mid_zero (k : Nat) (ts : List T) : mid m1 n1 k 0 ts = ts := by simp [mid, mL]
theorem mid_all (k : Nat) (ts : List T) : mid m1 n1 k ts.length ts = mL m1 n1 k ts := by simp [mid]
theorem mid_get [Inhabited T] {k j : Nat} {ts : List T} (h : j < ts.length) : (mid m1 n1 k j ts).getD j default = ts.getD j default := by
  unfold mid
  have hl : (mL m1 n1 k (ts.take j)).length = j := by rw [mL_len, List.length_take]; omega
  rw [List.getD_eq_getElem?_getD, List.getElem?_append_right (by omega), hl, Nat.sub_self, List.getElem?_drop, Nat.add_zero, ← List.getD_eq_getElem?_getD]
theorem mid_step [Inhabited T] {k j : Nat} {ts : List T} (h : j < ts.length) : (mid m1 n1 k j ts).set j (m1 (k + tot n1 (ts.take j)) (ts.getD j default)) = mid m1 n1 k (j + 1) ts := by
  unfold mid
  have hl : (mL m1 n1 k (ts.take j)).length = j := by rw [mL_len, List.length_take]; omega
  rw [List.set_append_right _ _ (by omega), hl, Nat.sub_self, take_one h, mL_app, List.append_assoc]
  congr 1
  rw [List.drop_eq_getElem_cons h, List.set_cons_zero]
  rfl
theorem mL_get [Inhabited T] {k j : Nat} {ts : List T} (h : j < ts.length) : (mL m1 n1 k ts).getD j default = m1 (k + tot n1 (ts.take j)) (ts.getD j default) := by
  have e : ts = ts.take j ++ (ts.getD j default :: ts.drop (j + 1)) := by
    conv => lhs; rw [← List.take_append_drop j ts, List.drop_eq_getElem_cons h]
    simp [h]
  have hl : (mL m1 n1 k (ts.take j)).length = j := by rw [mL_len, List.length_take]; omega
  have : mL m1 n1 k ts = mL m1 n1 k (ts.take j) ++ mL m1 n1 (k + tot n1 (ts.take j)) (ts.getD j default :: ts.drop (j + 1)) := by rw [← mL_app, ← e]
  rw [this, List.getD_eq_getElem?_getD, List.getElem?_append_right (by omega), hl, Nat.sub_self]
  simp [mL]
end
/-- Marks of numbers. -/
def mI (k : Nat) (_ : Int) : Int := (k : Int)
def nI (_ : Int) : Nat := 1
theorem nI_tot : ∀ ns : List Int, tot nI ns = ns.length
  | [] => rfl
  | _ :: r => by simp only [tot, nI_tot r, nI, List.length_cons]; omega
abbrev IntsOwn := LOwn 3 1 EI
theorem keepsOI : KeepsO 1 EI := keepsO_of keepsI
end Go.Proofs.Ytggjinjadllapaa.Ow
namespace Go.Proofs.Ytggjinjadllapaa.Ow
set_option maxRecDepth 8000
open Go.RowKit
open Recs
open Ls
set_option linter.unusedVariables false
/-- The mark of a number, as a text: its digits, f of them at most. -/
def mtF : Nat → Nat → ByteArray → ByteArray
  | 0, _, s => s
  | f + 1, n, s => if n = 0 then s else mtF f (n / 10) (strOfNums [48 + (n : Int) % 10] ++ s)
theorem mtF_same : ∀ (f g n : Nat) (s : ByteArray), n ≤ f → n ≤ g → mtF f n s = mtF g n s
  | 0, 0, n, s, _, _ => rfl
  | 0, g + 1, n, s, h, _ => by rw [mtF, mtF, if_pos (by omega)]
  | f + 1, 0, n, s, _, h => by rw [mtF, mtF, if_pos (by omega)]
  | f + 1, g + 1, n, s, h1, h2 => by
    rw [mtF, mtF]
    by_cases h : n = 0
    · rw [if_pos h, if_pos h]
    · rw [if_neg h, if_neg h, mtF_same f g (n / 10) _ (by omega) (by omega)]
def mt (k : Nat) : ByteArray := ByteArray.mk #[109] ++ mtF k k ByteArray.empty

set_option maxHeartbeats 800000 in
theorem markText_any (k : Nat) (w : World) (h0 : 0 < k) (h1 : k ≤ 4611686018427387904) :
    Calls Try.prog 53 #[.int .i64 k] w fun e w' => e = .returned (.string (mt k)) ∧ Below w.heap.size w w' := by
  have f0 : ¬ (k : Int) ≤ 0 := by omega
  go_enter Try.func53, Try.ntmps53
  go_wp2
  go_loopw [0, 3] (fun i v wr => ∃ (n : Nat) (s : ByteArray), i = .int .i64 n ∧ v = .string s ∧ n + s.size ≤ k ∧ Hid (Below w.heap.size w wr ∧ mtF n n s = mtF k k ByteArray.empty)) (fun i _ _ => (intOf i).toNat)
  case atStart => exact ⟨k, ByteArray.empty, rfl, rfl, by simp, Below.refl _ _, rfl⟩
  case round =>
    obtain ⟨n, s, rfl, rfl, hn, HQ⟩ := hrel
    by_cases hz : n = 0
    · have HE : Hid (s = mtF k k ByteArray.empty) := by have := HQ.out.2; rw [hz] at this; exact this
      have HB := Seg.hid HQ.out.1
      have f1 : ¬ (0 : Int) < (n : Int) := by omega
      have f2 : ¬ 9223372036854775807 < 1 + s.size := by omega
      clear hz
      go_wp2
      go_ret
      exact ⟨by rw [mt, ← HE.out]; rfl, HB.out⟩
    · have hp : (0 : Int) < (n : Int) := by omega
      have NX : Hid (mtF (n / 10) (n / 10) (strOfNums [48 + (n : Int) % 10] ++ s) = mtF k k ByteArray.empty) := by
        have := HQ.out.2
        obtain ⟨f, hf⟩ : ∃ f, n = f + 1 := ⟨n - 1, by omega⟩
        rw [← this]
        show _ = _
        rw [show mtF n n s = mtF (f + 1) n s by rw [hf], mtF, if_neg hz, mtF_same f (n / 10) (n / 10) _ (by omega) (by omega)]
      have BB := Seg.hid (fun x => HQ.out.1.alloc HQ.out.1.size x)
      have hcv : (convert 98 9 (.slice (some ⟨wr.heap.size, 0, none⟩) 1 1)).run Try.prog (wr.alloc (.cells #[.int .u8 (48 + (n : Int) % 10)] 5 (0, 0))) = .ok (.string (strOfNums [48 + (n : Int) % 10])) (wr.alloc (.cells #[.int .u8 (48 + (n : Int) % 10)] 5 (0, 0))) :=
        run_convert_bytes_arg (P := Try.prog) _ 98 5 Try.underlying98 Try.underlying5 wr.heap.size 0 1 1 [48 + (n : Int) % 10] rfl (fun i hi => by
          have : i = 0 := by omega
          subst this
          exact cell_of_row _ _ 0 _ _ (0, 0) (heap_alloc_new _ _)) 9 Try.underlying9
      have f3 : (strOfNums [48 + (n : Int) % 10]).size = 1 := rfl
      have f2 : ¬ 9223372036854775807 < (strOfNums [48 + (n : Int) % 10]).size + s.size := by omega
      have f4 : n / 10 + (strOfNums [48 + (n : Int) % 10] ++ s).size ≤ k := by rw [ByteArray.size_append]; omega
      clear hz f3
      go_wp2
      go_roundw
      case rel => exact ⟨n / 10, _, by go_num, rfl, f4, BB.out _, NX.out⟩
      case measure => simp [intOf]; omega
theorem markText_at (x : Int) (k : Nat) (hx : x = (k : Int)) (w : World) (h0 : 0 < k) (h1 : k ≤ 4611686018427387904) :
    Calls Try.prog 53 #[.int .i64 x] w fun e w' => e = .returned (.string (mt k)) ∧ Below w.heap.size w w' := by
  subst hx
  exact markText_any k w h0 h1
end Go.Proofs.Ytggjinjadllapaa.Ow
namespace Go.Proofs.Ytggjinjadllapaa.Ow
set_option maxRecDepth 8000
open Go.RowKit
open Recs
open Ls
set_option linter.unusedVariables false
def EOHd : Elt Hd := EHd
theorem keepsOHd : KeepsO 2 EOHd := keepsO_of keepsHd
theorem atOHd (w : World) (S : Nat → Prop) (f : Nat → Value) (u : Hd) (h : EOHd w S f u) : EHd w S f u := h
abbrev HdsOwn := LOwn 100 2 EOHd
def mHd (k : Nat) (u : Hd) : Hd := ⟨mt (k + 0), mt (k + 1)⟩
def nHd (u : Hd) : Nat := 2
theorem markHeadS_none (A : Option Addr) (c : Nat) (k : Int) (w : World) : Calls Try.prog 54 #[.slice A 0 c, .int .i64 k] w fun e w' => e = .returned (.int .i64 k) ∧ w = w' := by
  go_enter Try.func54, Try.ntmps54
  go_wp2
  go_loop [1, 5] (fun x i => i = .int .i64 0 ∧ x = .int .i64 k) (fun _ _ => 0)
  case atStart => exact ⟨rfl, rfl⟩
  case round =>
    obtain ⟨rfl, rfl⟩ := hrel
    go_wp2
    go_ret
    exact ⟨rfl, rfl⟩
set_option maxHeartbeats 3200000 in
theorem markHeadS_core (g n c k : Nat) (S : Nat → Prop) (P : Nat → Nat → Prop) (F0 : Nat → Value) (us : List Hd) (w : World) (hn : n ≤ 1048576) (hk : 0 < k) (hk1 : k + tot nHd us ≤ 4000000000000000000) (hSg : S g) (hSP : ∀ i, i < n → ∀ y, P i y → S y) (ho : LOpen 100 2 EOHd w g n c F0 P us) :
    Calls Try.prog 54 #[.slice (some ⟨g, 0, none⟩) n c, .int .i64 k] w fun e w' => ∃ F, e = .returned (.int .i64 ((k + tot nHd us : Nat) : Int)) ∧ LOpen 100 2 EOHd w' g n c F P (mL mHd nHd k us) ∧ Foot w w' S := by
  have hc := ho.mine.le
  have hlen := Seg.hid ho.len
  have HM : Hid (LOpen 100 2 EOHd w g n c F0 P (mid mHd nHd k 0 us) ∧ Foot w w S) := ⟨by rw [mid_zero]; exact ho, Foot.refl _ _⟩
  have HSG := Seg.hid hSg; have HSP := Seg.hid hSP
  have KL : Hid (∀ j, j < n → k + tot nHd (us.take j) + nHd (us.getD j default) ≤ 4000000000000000000) := fun j hj => by
    have a1 := tot_take nHd (ts := us) (j := j) (by rw [hlen.out]; exact hj)
    have a2 := tot_le nHd us (j + 1)
    omega
  have KE : Hid (k + tot nHd (us.take n) = k + tot nHd us) := by show _ = _; rw [← hlen.out, List.take_length]
  clear ho hSg hSP hk1
  go_enter Try.func54, Try.ntmps54
  go_wp2
  go_loopw [1, 5] (fun x i wr => ∃ (j : Nat) (F : Nat → Value), j ≤ n ∧ i = .int .i64 j ∧ x = .int .i64 ((k + tot nHd (us.take j) : Nat) : Int) ∧ Hid (LOpen 100 2 EOHd wr g n c F P (mid mHd nHd k j us) ∧ Foot w wr S)) (fun _ i _ => n - (intOf i).toNat)
  case atStart => exact ⟨0, F0, Nat.zero_le _, rfl, rfl, HM.out⟩
  case round =>
    clear HM
    obtain ⟨j, F, hj, rfl, rfl, HR⟩ := hrel
    by_cases hlt : j < n
    · have h0 : (0 : Int) ≤ (j : Int) := by omega
      have h1 : (j : Int) < (n : Int) := by omega
      have EL := HR.out.1.el j hlt
      rw [mid_get mHd nHd (by rw [hlen.out]; exact hlt)] at EL
      have MS := mid_step mHd nHd (k := k) (ts := us) (j := j) (by rw [hlen.out]; exact hlt)
      have TK := Seg.hid (tot_take nHd (ts := us) (j := j) (by rw [hlen.out]; exact hlt))
      have hxb := KL.out j hlt
      have HAP := Seg.hid (HR.out.1.apart j hlt)
      obtain ⟨x, hx⟩ : ∃ x, k + tot nHd (us.take j) = x := ⟨_, rfl⟩
      have HX := Seg.hid hx
      rw [hx] at hxb MS ⊢
      have hx0 : 0 < x := by omega
      clear hx
      have MS' := Seg.hid MS
      clear MS
      generalize us.getD j default = u at *
      have HXB := Seg.hid hxb
      clear hxb
      obtain ⟨s0, s1⟩ := EL
      have R0 : Hid (Rnd 100 2 g n c (P j) w wr wr S F j [.string u.key, .string u.val]) := Rnd.start HR.out.1.mine HR.out.2 rfl (fun q hq => by
        match q, hq with
        | 0, _ => exact s0
        | 1, _ => exact s1)
      clear s0 s1
      have HB_x : Hid (x + 2 ≤ 4000000000000000000) := by show _ ≤ _; have := HXB.out; simp only [nHd] at this; omega
      have hc_x : x + 3 ≤ 4000000000000000000 + 3 := by have := HB_x.out; omega
      have hd_x : x + 2 ≤ 4000000000000000000 := by have := HB_x.out; omega
      go_wp2_with fail
      refine (markText_at _ (x) (by omega) wr (by omega) (by omega)).mono ?_
      rintro e w1 ⟨rfl, b1⟩
      have R1 : Hid (Rnd 100 2 g n c (P j) w wr w1 S F j [.string u.key, .string u.val]) := R0.out.below b1
      clear b1
      have d0 : (w1).cell? ⟨g, j * 2, none⟩ = some (.string u.key) := R1.out.cell hlt 0 (by omega)
      have f0 : (w1).frozen? ⟨g, j * 2, none⟩ = false := R1.out.frozen _
      have R2 : Hid (Rnd 100 2 g n c (P j) w wr (w1.setCell ⟨g, j * 2, none⟩ (.string (mt (x)))) S F j [.string (mt (x)), .string u.val]) := R1.out.set HSG.out 0 (by omega) (.string (mt (x)))
      go_wp2_with fail
      clear d0 f0
      refine (markText_at _ (x + 1) (by omega) (w1.setCell ⟨g, j * 2, none⟩ (.string (mt (x)))) (by omega) (by omega)).mono ?_
      rintro e w2 ⟨rfl, b2⟩
      have R3 : Hid (Rnd 100 2 g n c (P j) w wr w2 S F j [.string (mt (x)), .string u.val]) := R2.out.below b2
      clear b2
      have d1 : (w2).cell? ⟨g, j * 2 + 1, none⟩ = some (.string u.val) := R3.out.cell hlt 1 (by omega)
      have f1 : (w2).frozen? ⟨g, j * 2 + 1, none⟩ = false := R3.out.frozen _
      have R4 : Hid (Rnd 100 2 g n c (P j) w wr (w2.setCell ⟨g, j * 2 + 1, none⟩ (.string (mt (x + 1)))) S F j [.string (mt (x)), .string (mt (x + 1))]) := R3.out.set HSG.out 1 (by omega) (.string (mt (x + 1)))
      have EE : Hid (EOHd (w2.setCell ⟨g, j * 2 + 1, none⟩ (.string (mt (x + 1)))) (P j) (fun q => [.string (mt (x)), .string (mt (x + 1))].getD q default) (mHd x u)) := by
        exact ⟨congrArg (fun z : Nat => Value.string (mt z)) (show x = (x + 0) by omega), congrArg (fun z : Nat => Value.string (mt z)) (show x + 1 = (x + 1) by omega)⟩
      obtain ⟨F', L', F2⟩ := Rnd.done keepsOHd (t := mHd x u) HR.out.1 hlt R4.out EE.out
      rw [MS'.out] at L'
      have L2 := Seg.hid L'
      have F3 := Seg.hid F2
      clear L' F2
      have HKK : Hid ((x : Int) + 1 + 1 = ((k + tot nHd (us.take (j + 1)) : Nat) : Int)) := by
        show _ = _
        have a1 := TK.out; have a2 := HX.out; simp only [nHd] at a1; omega
      go_wp2
      clear d1 f1
      go_roundw
      case rel => exact ⟨j + 1, F', by omega, by go_num, congrArg (Value.int .i64) HKK.out, L2.out, F3.out⟩
      case measure => simp [intOf]; omega
    · have : j = n := by omega
      subst this
      have E := HR.out
      rw [show mid mHd nHd k j us = mL mHd nHd k us by rw [← hlen.out]; exact mid_all _ _ _ _] at E
      have EH' := Seg.hid E
      clear E
      rw [KE.out]
      go_wp2
      go_ret
      exact ⟨F, rfl, EH'.out⟩
theorem markHeadS_own (x : Int) (k : Nat) (hx : x = (k : Int)) (S : Nat → Prop) (us : List Hd) (w : World) {v : Value} (hk : 0 < k) (hk1 : k + tot nHd us ≤ 4000000000000000000) (hv : HdsOwn w S v us) :
    Calls Try.prog 54 #[v, .int .i64 x] w fun e w' => e = .returned (.int .i64 ((k + tot nHd us : Nat) : Int)) ∧ HdsOwn w' S v (mL mHd nHd k us) ∧ Foot w w' S := by
  subst hx
  obtain ⟨h0, A, c, rfl, h⟩ := hv
  by_cases hz : us.length = 0
  · obtain rfl := List.length_eq_zero_iff.1 hz
    exact (markHeadS_none A c k w).mono fun e w' ⟨h1, h2⟩ => by
      subst h2
      exact ⟨by rw [h1]; rfl, LOwn.nil _ _ _ _, Foot.refl _ _⟩
  obtain ⟨g, F, P, rfl, h3, h4, h5⟩ := h.resolve_left hz
  refine (markHeadS_core g us.length c k S P F us w h0 hk hk1 h3 h4 h5).mono fun e w' ⟨F', a1, a2, a3⟩ => ⟨a1, ⟨by rw [mL_len]; exact h0, _, c, by rw [mL_len], .inr ⟨g, F', P, rfl, h3, fun i hi => h4 i (by rw [mL_len] at hi; exact hi), ?_⟩⟩, a3⟩
  rw [mL_len]
  exact a2
end Go.Proofs.Ytggjinjadllapaa.Ow
