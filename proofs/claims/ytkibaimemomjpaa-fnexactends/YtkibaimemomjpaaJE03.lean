/- Lists of structs that are read, told by the set of their blocks: of any element; a copier's loop; what a measure leaves; Lists of numbers: what the law's helpers answer. -/
import Derived.RegionTactic
import Derived.Maps.AppendAt
import Derived.Laws.Rows
import Derived.Deep.RegionWith
import Derived.Outline
import Derived.Deep.Cut
import Derived.Test.YtkibaimemomjpaaRows
import Derived.Test.YtkibaimemomjpaaJE02
namespace Go.Proofs.Ytkibaimemomjpaa.Ls
set_option maxRecDepth 8000
open Go.RowKit
open Recs
set_option linter.unusedVariables false

/-- The set of all blocks from lo on, below b. -/
def seg (lo b : Nat) (x : Nat) : Prop := lo ≤ x ∧ x < b
/-- What the cells of an element say of it; its lists lie in blocks of a set. -/
abbrev Elt (T : Type) := World → (Nat → Prop) → (Nat → Value) → T → Prop
section
variable {T : Type} [Inhabited T] {ty nf : Nat} {E : Elt T}
def Keeps (nf : Nat) (E : Elt T) : Prop := ∀ w w' S f f' t, E w S f t → (∀ g, S g → w'.heap[g]? = w.heap[g]?) → (∀ q, q < nf → f' q = f q) → E w' S f' t
def Grows (E : Elt T) : Prop := ∀ w S S' f t, E w S f t → (∀ g, S g → S' g) → E w S' f t
def LAt (nf : Nat) (E : Elt T) (w : World) (S : Nat → Prop) (v : Value) (us : List T) : Prop :=
  us.length ≤ 9223372036854775807 ∧ ∃ A c, v = .slice A us.length c ∧ (us.length = 0 ∨ ∃ (g o : Nat) (F : Nat → Nat → Value), A = some ⟨g, o, none⟩ ∧ S g ∧ us.length ≤ c ∧ (∀ i, i < us.length → ∀ j, j < nf → w.cell? ⟨g, o + i * nf + j, none⟩ = some (F i j)) ∧ ∀ i, i < us.length → E w S (F i) (us.getD i default))
theorem LAt.keep (hE : Keeps nf E) {w w' : World} {S : Nat → Prop} {v : Value} {us : List T} (h : LAt nf E w S v us) (hk : ∀ g, S g → w'.heap[g]? = w.heap[g]?) : LAt nf E w' S v us := by
  obtain ⟨h0, A, c, h1, h2⟩ := h
  refine ⟨h0, A, c, h1, h2.imp id ?_⟩
  rintro ⟨g, o, F, h3, h4, h5, h6, h7⟩
  exact ⟨g, o, F, h3, h4, h5, fun i hi j hj => by rw [World.cell?_of_block (w := w) (a := ⟨g, o + i * nf + j, none⟩) (hk g h4)]; exact h6 i hi j hj, fun i hi => hE _ _ _ _ _ _ (h7 i hi) hk (fun _ _ => rfl)⟩
theorem LAt.mono (hE : Grows E) {w : World} {S S' : Nat → Prop} {v : Value} {us : List T} (h : LAt nf E w S v us) (hs : ∀ g, S g → S' g) : LAt nf E w S' v us := by
  obtain ⟨h0, A, c, h1, h2⟩ := h
  refine ⟨h0, A, c, h1, h2.imp id ?_⟩
  rintro ⟨g, o, F, h3, h4, h5, h6, h7⟩
  exact ⟨g, o, F, h3, hs g h4, h5, h6, fun i hi => hE _ _ _ _ _ (h7 i hi) hs⟩
theorem LAt.below (hE : Keeps nf E) {w w' : World} {B : Nat} {S : Nat → Prop} {v : Value} {us : List T} (h : LAt nf E w S v us) (hb : Below B w w') (hs : ∀ g, S g → g < B) : LAt nf E w' S v us := h.keep hE fun g hg => hb.block g (hs g hg)
theorem LAt.form {w : World} {S : Nat → Prop} {v : Value} {us : List T} (h : LAt nf E w S v us) : ∃ A c, v = .slice A us.length c := by
  obtain ⟨_, A, c, h1, _⟩ := h
  exact ⟨A, c, h1⟩
theorem LAt.nil (w : World) (S : Nat → Prop) (A : Option Addr) (c : Nat) : LAt nf E w S (.slice A 0 c) ([] : List T) := ⟨by simp, A, c, rfl, .inl rfl⟩
theorem LAt.one {w : World} {S : Nat → Prop} {v : Value} {us : List T} (h : LAt nf E w S v us) : v.oneCell' = true := by
  obtain ⟨A, c, rfl⟩ := h.form
  rfl
theorem LAt.drewN {w : World} {S : Nat → Prop} {v : Value} {us : List T} (hE : Keeps nf E) (h : LAt nf E w S v us) (k : Nat) : LAt nf E (w.drewN k) S v us := h.keep hE fun _ _ => rfl
/-- What a copier's loop has done: j elements stand in a row of its own. -/
structure Done (ty nf : Nat) (E : Elt T) (w wr : World) (us : List T) (n j : Nat) (F : Nat → Value) : Prop where
  mine : Mine wr ty nf w.heap.size n F
  bel : Below w.heap.size w wr
  el : ∀ i, i < j → E wr (seg (w.heap.size + 1) wr.heap.size) (fun q => F (i * nf + q)) (us.getD i default)
theorem Done.step (hK : Keeps nf E) (hG : Grows E) {w wr w1 : World} {us : List T} {n j : Nat} {F : Nat → Value} (h : Done ty nf E w wr us n j F) (vs : List Value) (hv : vs.length = nf) (b1 : Below wr.heap.size wr w1) (he : E w1 (seg wr.heap.size w1.heap.size) (fun q => vs.getD q default) (us.getD j default)) :
    Done ty nf E w (w1.setCells w.heap.size (j * nf) vs) us n (j + 1) (Own.upd F (j * nf) vs) := by
  have hlt := h.mine.lt
  have keep : ∀ g, g ≠ w.heap.size → (w1.setCells w.heap.size (j * nf) vs).heap[g]? = w1.heap[g]? := fun g hg => Cells.heap_setCells_other _ _ hg
  have hsize := Cells.size_setCells (g := w.heap.size) vs (o := j * nf) w1
  have b1s := b1.size
  refine ⟨Own.mine_setCells _ _ _ _ (h.mine.below b1 hlt), Cells.below_setCells (Nat.le_refl _) _ _ _ _ (chain h.bel b1), fun i hi => ?_⟩
  by_cases e : i = j
  · subst e
    refine hG _ (seg wr.heap.size w1.heap.size) _ _ _ (hK _ _ _ _ _ _ he (fun g hg => keep g (by have := hg.1; omega)) (fun q hq => Own.upd_in (by omega))) (fun g hg => ⟨by have := hg.1; omega, by rw [hsize]; exact hg.2⟩)
  · refine hG _ (seg (w.heap.size + 1) wr.heap.size) _ _ _ (hK _ _ _ _ _ _ (h.el i (by omega)) (fun g hg => ?_) (fun q hq => ?_)) (fun g hg => ⟨hg.1, by rw [hsize]; exact Nat.lt_of_lt_of_le hg.2 b1s⟩)
    · exact (keep g (by have := hg.1; omega)).trans (b1.block g hg.2)
    · refine Own.upd_out (.inl ?_)
      have : (i + 1) * nf ≤ j * nf := Nat.mul_le_mul_right nf (by omega)
      rw [Nat.succ_mul] at this
      omega
theorem Done.all (hG : Grows E) {w wr : World} {us : List T} {F : Nat → Value} (h : Done ty nf E w wr us us.length us.length F) (hn : us.length ≤ 9223372036854775807) : LAt nf E wr (seg w.heap.size wr.heap.size) (.slice (some ⟨w.heap.size, 0, none⟩) us.length us.length) us := by
  refine ⟨hn, _, _, rfl, .inr ⟨w.heap.size, 0, fun i j => F (i * nf + j), rfl, ⟨Nat.le_refl _, h.mine.lt⟩, Nat.le_refl _, fun i hi j hj => ?_, fun i hi => hG _ _ _ _ _ (h.el i hi) (fun g hg => ⟨by have := hg.1; omega, hg.2⟩)⟩⟩
  have hq : i * nf + j < us.length * nf := by
    have : (i + 1) * nf ≤ us.length * nf := Nat.mul_le_mul_right nf hi
    rw [Nat.succ_mul] at this
    omega
  rw [Nat.zero_add]
  exact h.mine.cell _ hq
theorem cells_later {w w' : World} {g o n : Nat} {F : Nat → Nat → Value} (h : ∀ i, i < n → ∀ j, j < nf → w.cell? ⟨g, o + i * nf + j, none⟩ = some (F i j)) (hb : Below w.heap.size w w') (hg : g < w.heap.size) :
    ∀ i, i < n → ∀ j, j < nf → w'.cell? ⟨g, o + i * nf + j, none⟩ = some (F i j) := fun i hi j hj => by rw [hb.cell (p := ⟨g, o + i * nf + j, none⟩) hg]; exact h i hi j hj
end
/-- A measure that had l left, and has q left behind n more (below 0: there were fewer). -/
def Lf (l : Int) (n : Nat) (q : Int) : Prop := (0 ≤ q → q = l - n) ∧ (q < 0 → l < n)
section
variable {T : Type} (f : T → Nat)
def tot : List T → Nat
  | [] => 0
  | t :: r => f t + tot r
def szL (us : List T) : Nat := us.length + tot f us
theorem tot_app : ∀ (a b : List T), tot f (a ++ b) = tot f a + tot f b
  | [], b => by simp [tot]
  | t :: r, b => by simp only [List.cons_append, tot, tot_app r b]; omega
theorem tot_take [Inhabited T] {ts : List T} {j : Nat} (h : j < ts.length) : tot f (ts.take (j + 1)) = tot f (ts.take j) + f (ts.getD j default) := by
  have : ts.take (j + 1) = ts.take j ++ [ts.getD j default] := by rw [List.take_add_one, List.getElem?_eq_getElem h]; simp [h]
  rw [this, tot_app]; simp [tot]
theorem tot_le (ts : List T) (j : Nat) : tot f (ts.take j) ≤ tot f ts := by
  have := tot_app f (ts.take j) (ts.drop j)
  rw [List.take_append_drop] at this
  omega
theorem tot_one [Inhabited T] {ts : List T} {j : Nat} (h : j < ts.length) : f (ts.getD j default) ≤ tot f ts := by
  have a := tot_take f h
  have b := tot_le f ts (j + 1)
  omega
theorem tot_zero (hf : ∀ t, f t = 0) : ∀ us : List T, tot f us = 0
  | [] => rfl
  | t :: r => by simp only [tot, hf t, tot_zero hf r]
theorem szL_len {ts : List T} {l : Nat} (h : szL f ts ≤ l) : ts.length ≤ l := by unfold szL at h; omega
theorem szL_one [Inhabited T] {ts : List T} {l j : Nat} (h : szL f ts ≤ l) (hj : j < ts.length) : f (ts.getD j default) ≤ l := by
  have := tot_one f hj
  unfold szL at h; omega
end
/-- A list that memory holds, of elements that it holds. -/
def FineL {T : Type} [Inhabited T] (P : T → Prop) (us : List T) : Prop := us.length ≤ maxLen ∧ ∀ i, i < us.length → P (us.getD i default)
def I64 (n : Int) : Prop := -9223372036854775808 ≤ n ∧ n ≤ 9223372036854775807
theorem at3z (w : World) (a b c : Obj) : (((w.alloc a).alloc b).alloc c).heap[w.heap.size]? = some a := by
  show (((w.heap.push a).push b).push c)[w.heap.size]? = some a
  rw [Array.getElem?_push, if_neg (by simp; omega), Array.getElem?_push, if_neg (by simp), Array.getElem?_push, if_pos rfl]
theorem at2z (w : World) (a b : Obj) : ((w.alloc a).alloc b).heap[w.heap.size]? = some a := by
  show ((w.heap.push a).push b)[w.heap.size]? = some a
  rw [Array.getElem?_push, if_neg (by simp), Array.getElem?_push, if_pos rfl]
theorem at2y (w : World) (a b : Obj) : ((w.alloc a).alloc b).heap[w.heap.size + 1]? = some b := by
  show ((w.heap.push a).push b)[w.heap.size + 1]? = some b
  rw [Array.getElem?_push, if_pos (by simp)]

/-- Numbers in a list. -/
def EI : Elt Int := fun _ _ f n => f 0 = .int .i64 n
theorem keepsI : Keeps 1 EI := fun w w' S f f' t h hk hf => by show f' 0 = _; rw [hf 0 (by omega)]; exact h
theorem growsI : Grows EI := fun w S S' f t h hs => h
abbrev IntsAt := LAt 1 EI
theorem int_cell {w : World} {S : Nat → Prop} {g o n : Nat} {ns : List Int} {F : Nat → Nat → Value} (h : ∀ i, i < n → ∀ j, j < 1 → w.cell? ⟨g, o + i * 1 + j, none⟩ = some (F i j)) (he : ∀ i, i < n → EI w S (F i) (ns.getD i default)) : ∀ i, i < n → w.cell? ⟨g, o + i, none⟩ = some (.int .i64 (ns.getD i default)) := fun i hi => by
  have := h i hi 0 (by omega)
  rw [show F i 0 = _ from he i hi] at this
  simpa using this
end Go.Proofs.Ytkibaimemomjpaa.Ls
namespace Go.Proofs.Ytkibaimemomjpaa.Ls
set_option maxRecDepth 8000
open Go.RowKit
open Recs
set_option linter.unusedVariables false
theorem szIntS_any (v : Value) (ns : List Int) (l : Int) (w : World) (S : Nat → Prop) (h3 : -1 ≤ l) (h4 : l ≤ 1048576) (hv : IntsAt w S v ns) :
    Calls Try.prog 110 #[v, .int .i64 l] w fun e w' => ∃ q, e = .returned (.int .i64 q) ∧ -1 ≤ q ∧ q ≤ l ∧ Lf l ns.length q ∧ Below w.heap.size w w' := by
  obtain ⟨hn, A, c, rfl, _⟩ := hv
  go_enter Try.func110, Try.ntmps110
  by_cases hlt : l - (ns.length : Int) < 0
  · go_wp2
    go_ret
    exact ⟨_, rfl, by omega, by omega, ⟨fun _ => by omega, fun _ => by omega⟩, Below.refl _ _⟩
  · go_wp2
    go_ret
    exact ⟨_, rfl, by omega, by omega, ⟨fun _ => by omega, fun _ => by omega⟩, Below.refl _ _⟩
theorem infoI : (Try.prog.info? 3).map (fun i => (i.zero, i.size, i.bytes)) = some (some (.int .i64 0), 1, 8) := by kernel_rfl
set_option maxHeartbeats 400000 in
theorem toIntS_core (g o n c : Nat) (ns : List Int) (w : World) (hn : n ≤ 1048576) (hc : n ≤ c) (hg : g < w.heap.size) (hnl : ns.length = n)
    (ha : ∀ i, i < n → w.cell? ⟨g, o + i, none⟩ = some (.int .i64 (ns.getD i default))) :
    Calls Try.prog 8 #[.slice (some ⟨g, o, none⟩) n c] w fun e w' => ∃ v, e = .returned v ∧ IntsAt w' (seg w.heap.size w'.heap.size) v ns ∧ Below w.heap.size w w' := by
  obtain ⟨i0, hi, hz0, hz1, hz2⟩ := info_parts infoI
  have HA := Seg.hid ha
  have HN := Seg.hid hnl
  clear ha hnl
  go_enter Try.func8, Try.ntmps8
  go_wp2_with (at_make; refine wpList_make_full _ rfl _ _ 27 rfl w.heap.size 3 i0 _ 1 Try.underlying27 hi hz0 hz1 .i64 .i64 _ _ n rfl rfl rfl rfl (by rw [hz2]; omega) (by unfold maxLen; omega) (Nat.le_refl _) ?_; intro w1 hown hgr)
  have hb1 := (Below.refl w.heap.size w).grown hgr (Nat.le_refl _) (fun k hk => by cases hk)
  have HM := Seg.hid (Mine.of_made hown hown.1)
  have HB := Seg.hid hb1
  clear hown hgr hb1 hi hz0 hz1 hz2
  go_loopw [4] (fun i wr => ∃ (j : Nat) (F : Nat → Value), j ≤ n ∧ i = .int .i64 j ∧ Hid (Mine wr 3 1 w.heap.size n F ∧ Below w.heap.size w wr ∧ ∀ i, i < j → F i = .int .i64 (ns.getD i default))) (fun i _ => n - (intOf i).toNat)
  case atStart => exact ⟨0, _, Nat.zero_le _, rfl, HM.out, HB.out, fun i hi => absurd hi (by omega)⟩
  case round =>
    clear HM HB
    obtain ⟨j, F, hj, rfl, HR⟩ := hrel
    by_cases hlt : j < n
    · have c1 : wr.cell? ⟨g, o + j, none⟩ = some (.int .i64 (ns.getD j default)) := by rw [HR.out.2.1.cell (p := ⟨g, o + j, none⟩) hg]; exact HA.out j hlt
      have h0 : (0 : Int) ≤ (j : Int) := by omega
      have h1 : (j : Int) < (n : Int) := by omega
      have d1 := HR.out.1.cell j (by omega)
      have f1 := HR.out.1.frozen j
      have M2 := Seg.hid (HR.out.1.set j (.int .i64 (ns.getD j default)))
      have B2 := Seg.hid (HR.out.2.1.setCell (p := ⟨w.heap.size, j, none⟩) (Nat.le_refl _) (.int .i64 (ns.getD j default)))
      have R2 : Hid (∀ i, i < j + 1 → (fun i => if i = j then (.int .i64 (ns.getD j default)) else F i) i = Value.int .i64 (ns.getD i default)) := fun i hi => by
        by_cases he : i = j
        · subst he; simp
        · simp [he]; simpa using HR.out.2.2 i (by omega)
      generalize ns.getD j default = nj at *
      go_wp2
      go_roundw
      case rel => exact ⟨j + 1, _, by omega, by go_num, M2.out, B2.out, R2.out⟩
      case measure => simp [intOf]; omega
    · have : j = n := by omega
      subst this
      go_wp2
      go_ret
      refine ⟨.slice (some ⟨w.heap.size, 0, none⟩) j j, rfl, ⟨by rw [HN.out]; omega, _, _, by rw [HN.out], .inr ⟨w.heap.size, 0, fun i q => F (i * 1 + q), rfl, ⟨Nat.le_refl _, HR.out.1.lt⟩, by rw [HN.out]; exact Nat.le_refl _, fun i hi q hq => ?_, fun i hi => ?_⟩⟩, HR.out.2.1⟩
      · rw [HN.out] at hi
        rw [Nat.zero_add]
        exact HR.out.1.cell _ (by omega)
      · rw [HN.out] at hi
        show F (i * 1 + 0) = _
        rw [Nat.mul_one, Nat.add_zero]
        exact HR.out.2.2 i hi
set_option maxHeartbeats 400000 in
theorem toIntS_none (A : Option Addr) (c : Nat) (w : World) :
    Calls Try.prog 8 #[.slice A 0 c] w fun e w' => ∃ v, e = .returned v ∧ (∃ A c, v = .slice A 0 c) ∧ Below w.heap.size w w' := by
  obtain ⟨i0, hi, hz0, hz1, hz2⟩ := info_parts infoI
  go_enter Try.func8, Try.ntmps8
  go_wp2_with (at_make; refine wpList_make_full _ rfl _ _ 27 rfl w.heap.size 3 i0 _ 1 Try.underlying27 hi hz0 hz1 .i64 .i64 _ _ 0 rfl rfl rfl rfl (by omega) (by unfold maxLen; omega) (Nat.le_refl _) ?_; intro w1 hown hgr)
  have hb1 := (Below.refl w.heap.size w).grown hgr (Nat.le_refl _) (fun k hk => by cases hk)
  have HB := Seg.hid hb1
  clear hown hgr hb1 hi hz0 hz1 hz2
  go_loop [4] (fun i => i = .int .i64 0) (fun i => 0)
  case atStart => rfl
  case round =>
    subst hrel
    go_wp2
    go_ret
    exact ⟨_, rfl, ⟨_, _, rfl⟩, HB.out⟩
theorem toIntS_any (v : Value) (ns : List Int) (w : World) (S : Nat → Prop) (hv : IntsAt w S v ns) (hS : ∀ g, S g → g < w.heap.size) (hl : ns.length ≤ 1048576) :
    Calls Try.prog 8 #[v] w fun e w' => ∃ v', e = .returned v' ∧ IntsAt w' (seg w.heap.size w'.heap.size) v' ns ∧ Below w.heap.size w w' := by
  obtain ⟨hn, A, c, rfl, h⟩ := hv
  by_cases hz : ns.length = 0
  · obtain rfl := List.length_eq_zero_iff.1 hz
    refine (toIntS_none A c w).mono fun e w' ⟨v', a1, ⟨A', c', a2⟩, a3⟩ => ⟨v', a1, ?_, a3⟩
    rw [a2]
    exact LAt.nil _ _ _ _
  obtain ⟨g, o, F, rfl, hg, hc, hcell, hel⟩ := h.resolve_left hz
  exact toIntS_core g o ns.length c ns w hl hc (hS g hg) rfl (int_cell hcell hel)
theorem eqIntS_none (A A' : Option Addr) (c c' : Nat) (w : World) :
    Calls Try.prog 12 #[.slice A 0 c, .slice A' 0 c'] w fun e w' => e = .returned (.bool true) ∧ Below w.heap.size w w' := by
  go_enter Try.func12, Try.ntmps12
  go_wp2
  go_loop [5] (fun i => i = .int .i64 0) (fun _ => 0)
  case atStart => rfl
  case round =>
    subst hrel
    go_wp2
    go_ret
    exact ⟨rfl, Below.refl _ _⟩
set_option maxHeartbeats 400000 in
theorem eqIntS_core (g o g' o' n c c' : Nat) (ns : List Int) (w : World) (hn : n ≤ 9223372036854775807) (hc : n ≤ c) (hc' : n ≤ c') (hg : g < w.heap.size) (hg' : g' < w.heap.size)
    (ha : ∀ i, i < n → w.cell? ⟨g, o + i, none⟩ = some (.int .i64 (ns.getD i default))) (ha' : ∀ i, i < n → w.cell? ⟨g', o' + i, none⟩ = some (.int .i64 (ns.getD i default))) :
    Calls Try.prog 12 #[.slice (some ⟨g, o, none⟩) n c, .slice (some ⟨g', o', none⟩) n c'] w fun e w' => e = .returned (.bool true) ∧ Below w.heap.size w w' := by
  have HA := Seg.hid ha; have HA' := Seg.hid ha'
  clear ha ha'
  go_enter Try.func12, Try.ntmps12
  go_wp2
  go_loopw [5] (fun i wr => ∃ k d : Nat, k ≤ n ∧ i = .int .i64 k ∧ wr = w.drewN d) (fun i _ => n - (intOf i).toNat)
  case atStart => exact ⟨0, 0, Nat.zero_le _, rfl, rfl⟩
  case round =>
    obtain ⟨k, d, hk, rfl, rfl⟩ := hrel
    by_cases hlt2 : k < n
    · have c1 := HA.out k hlt2
      have c2 := HA'.out k hlt2
      have h0 : (0 : Int) ≤ (k : Int) := by omega
      have h1 : (k : Int) < (n : Int) := by omega
      generalize ns.getD k default = nk at *
      have hne : (nk != nk) = false := by simp
      go_wp2
      go_region
      go_wp2
      go_roundw
      case rel => exact ⟨k + 1, d + 1, by omega, by go_num, rfl⟩
      case measure => simp [intOf]; omega
    · have : k = n := by omega
      subst this
      go_wp2
      go_ret
      exact ⟨rfl, ⟨rfl, rfl, rfl, Nat.le_refl _, fun _ _ => rfl⟩⟩
theorem eqIntS_any (v v' : Value) (ns : List Int) (w : World) (S S' : Nat → Prop) (hv : IntsAt w S v ns) (hv' : IntsAt w S' v' ns) (hS : ∀ g, S g → g < w.heap.size) (hS' : ∀ g, S' g → g < w.heap.size) :
    Calls Try.prog 12 #[v, v'] w fun e w' => e = .returned (.bool true) ∧ Below w.heap.size w w' := by
  obtain ⟨hn, A, c, rfl, h⟩ := hv
  obtain ⟨_, A', c', rfl, h'⟩ := hv'
  by_cases hz : ns.length = 0
  · rw [hz]
    exact eqIntS_none A A' c c' w
  obtain ⟨g, o, F, rfl, hg, hc, hcell, hel⟩ := h.resolve_left hz
  obtain ⟨g', o', F', rfl, hg', hc', hcell', hel'⟩ := h'.resolve_left hz
  exact eqIntS_core g o g' o' ns.length c c' ns w hn hc hc' (hS g hg) (hS' g' hg') (int_cell hcell hel) (int_cell hcell' hel')
end Go.Proofs.Ytkibaimemomjpaa.Ls
