/- Lists of structs that are read, told by the set of their blocks: of any element; a copier's loop; what a measure leaves; Head: how it lies in memory; what the law's measure and copier answer; Lists of Head: what the law's helpers answer. -/
import Derived.RegionTactic
import Derived.Maps.AppendAt
import Derived.Laws.Rows
import Derived.Deep.RegionWith
import Derived.Outline
import Derived.Deep.Cut
import Derived.Test.YticihnoekffelaaRows
import Derived.Test.YticihnoekffelaaJS03
namespace Go.Proofs.Yticihnoekffelaa.Ls
set_option maxRecDepth 8000
open Go.RowKit
open Recs
set_option linter.unusedVariables false

/-- The set of all blocks from lo on, below b. -/
def seg (lo b : Nat) (x : Nat) : Prop := lo ≤ x ∧ x < b
/-- What the cells of an element say of it; its lists lie in blocks of a set. -/
abbrev Elt (T : Type) := World → (Nat → Prop) → (Nat → Value) → T → Prop
section
variable {T : Type} [Inhabited T] {ty nf : Nat} {E : Elt T}
def Keeps (nf : Nat) (E : Elt T) : Prop := ∀ w w' S f f' t, E w S f t → (∀ g, S g → w'.heap[g]? = w.heap[g]?) → (∀ q, q < nf → f' q = f q) → E w' S f' t
def Grows (E : Elt T) : Prop := ∀ w S S' f t, E w S f t → (∀ g, S g → S' g) → E w S' f t
def LAt (nf : Nat) (E : Elt T) (w : World) (S : Nat → Prop) (v : Value) (us : List T) : Prop :=
  us.length ≤ 9223372036854775807 ∧ ∃ A c, v = .slice A us.length c ∧ (us.length = 0 ∨ ∃ (g o : Nat) (F : Nat → Nat → Value), A = some ⟨g, o, none⟩ ∧ S g ∧ us.length ≤ c ∧ (∀ i, i < us.length → ∀ j, j < nf → w.cell? ⟨g, o + i * nf + j, none⟩ = some (F i j)) ∧ ∀ i, i < us.length → E w S (F i) (us.getD i default))
theorem LAt.keep (hE : Keeps nf E) {w w' : World} {S : Nat → Prop} {v : Value} {us : List T} (h : LAt nf E w S v us) (hk : ∀ g, S g → w'.heap[g]? = w.heap[g]?) : LAt nf E w' S v us := by
  obtain ⟨h0, A, c, h1, h2⟩ := h
  refine ⟨h0, A, c, h1, h2.imp id ?_⟩
  rintro ⟨g, o, F, h3, h4, h5, h6, h7⟩
  exact ⟨g, o, F, h3, h4, h5, fun i hi j hj => by rw [World.cell?_of_block (w := w) (a := ⟨g, o + i * nf + j, none⟩) (hk g h4)]; exact h6 i hi j hj, fun i hi => hE _ _ _ _ _ _ (h7 i hi) hk (fun _ _ => rfl)⟩
theorem LAt.mono (hE : Grows E) {w : World} {S S' : Nat → Prop} {v : Value} {us : List T} (h : LAt nf E w S v us) (hs : ∀ g, S g → S' g) : LAt nf E w S' v us := by
  obtain ⟨h0, A, c, h1, h2⟩ := h
  refine ⟨h0, A, c, h1, h2.imp id ?_⟩
  rintro ⟨g, o, F, h3, h4, h5, h6, h7⟩
  exact ⟨g, o, F, h3, hs g h4, h5, h6, fun i hi => hE _ _ _ _ _ (h7 i hi) hs⟩
theorem LAt.below (hE : Keeps nf E) {w w' : World} {B : Nat} {S : Nat → Prop} {v : Value} {us : List T} (h : LAt nf E w S v us) (hb : Below B w w') (hs : ∀ g, S g → g < B) : LAt nf E w' S v us := h.keep hE fun g hg => hb.block g (hs g hg)
theorem LAt.form {w : World} {S : Nat → Prop} {v : Value} {us : List T} (h : LAt nf E w S v us) : ∃ A c, v = .slice A us.length c := by
  obtain ⟨_, A, c, h1, _⟩ := h
  exact ⟨A, c, h1⟩
theorem LAt.nil (w : World) (S : Nat → Prop) (A : Option Addr) (c : Nat) : LAt nf E w S (.slice A 0 c) ([] : List T) := ⟨by simp, A, c, rfl, .inl rfl⟩
theorem LAt.one {w : World} {S : Nat → Prop} {v : Value} {us : List T} (h : LAt nf E w S v us) : v.oneCell' = true := by
  obtain ⟨A, c, rfl⟩ := h.form
  rfl
theorem LAt.drewN {w : World} {S : Nat → Prop} {v : Value} {us : List T} (hE : Keeps nf E) (h : LAt nf E w S v us) (k : Nat) : LAt nf E (w.drewN k) S v us := h.keep hE fun _ _ => rfl
/-- What a copier's loop has done: j elements stand in a row of its own. -/
structure Done (ty nf : Nat) (E : Elt T) (w wr : World) (us : List T) (n j : Nat) (F : Nat → Value) : Prop where
  mine : Mine wr ty nf w.heap.size n F
  bel : Below w.heap.size w wr
  el : ∀ i, i < j → E wr (seg (w.heap.size + 1) wr.heap.size) (fun q => F (i * nf + q)) (us.getD i default)
theorem Done.step (hK : Keeps nf E) (hG : Grows E) {w wr w1 : World} {us : List T} {n j : Nat} {F : Nat → Value} (h : Done ty nf E w wr us n j F) (vs : List Value) (hv : vs.length = nf) (b1 : Below wr.heap.size wr w1) (he : E w1 (seg wr.heap.size w1.heap.size) (fun q => vs.getD q default) (us.getD j default)) :
    Done ty nf E w (w1.setCells w.heap.size (j * nf) vs) us n (j + 1) (Own.upd F (j * nf) vs) := by
  have hlt := h.mine.lt
  have keep : ∀ g, g ≠ w.heap.size → (w1.setCells w.heap.size (j * nf) vs).heap[g]? = w1.heap[g]? := fun g hg => Cells.heap_setCells_other _ _ hg
  have hsize := Cells.size_setCells (g := w.heap.size) vs (o := j * nf) w1
  have b1s := b1.size
  refine ⟨Own.mine_setCells _ _ _ _ (h.mine.below b1 hlt), Cells.below_setCells (Nat.le_refl _) _ _ _ _ (chain h.bel b1), fun i hi => ?_⟩
  by_cases e : i = j
  · subst e
    refine hG _ (seg wr.heap.size w1.heap.size) _ _ _ (hK _ _ _ _ _ _ he (fun g hg => keep g (by have := hg.1; omega)) (fun q hq => Own.upd_in (by omega))) (fun g hg => ⟨by have := hg.1; omega, by rw [hsize]; exact hg.2⟩)
  · refine hG _ (seg (w.heap.size + 1) wr.heap.size) _ _ _ (hK _ _ _ _ _ _ (h.el i (by omega)) (fun g hg => ?_) (fun q hq => ?_)) (fun g hg => ⟨hg.1, by rw [hsize]; exact Nat.lt_of_lt_of_le hg.2 b1s⟩)
    · exact (keep g (by have := hg.1; omega)).trans (b1.block g hg.2)
    · refine Own.upd_out (.inl ?_)
      have : (i + 1) * nf ≤ j * nf := Nat.mul_le_mul_right nf (by omega)
      rw [Nat.succ_mul] at this
      omega
theorem Done.all (hG : Grows E) {w wr : World} {us : List T} {F : Nat → Value} (h : Done ty nf E w wr us us.length us.length F) (hn : us.length ≤ 9223372036854775807) : LAt nf E wr (seg w.heap.size wr.heap.size) (.slice (some ⟨w.heap.size, 0, none⟩) us.length us.length) us := by
  refine ⟨hn, _, _, rfl, .inr ⟨w.heap.size, 0, fun i j => F (i * nf + j), rfl, ⟨Nat.le_refl _, h.mine.lt⟩, Nat.le_refl _, fun i hi j hj => ?_, fun i hi => hG _ _ _ _ _ (h.el i hi) (fun g hg => ⟨by have := hg.1; omega, hg.2⟩)⟩⟩
  have hq : i * nf + j < us.length * nf := by
    have : (i + 1) * nf ≤ us.length * nf := Nat.mul_le_mul_right nf hi
    rw [Nat.succ_mul] at this
    omega
  rw [Nat.zero_add]
  exact h.mine.cell _ hq
theorem cells_later {w w' : World} {g o n : Nat} {F : Nat → Nat → Value} (h : ∀ i, i < n → ∀ j, j < nf → w.cell? ⟨g, o + i * nf + j, none⟩ = some (F i j)) (hb : Below w.heap.size w w') (hg : g < w.heap.size) :
    ∀ i, i < n → ∀ j, j < nf → w'.cell? ⟨g, o + i * nf + j, none⟩ = some (F i j) := fun i hi j hj => by rw [hb.cell (p := ⟨g, o + i * nf + j, none⟩) hg]; exact h i hi j hj
end
/-- A measure that had l left, and has q left behind n more (below 0: there were fewer). -/
def Lf (l : Int) (n : Nat) (q : Int) : Prop := (0 ≤ q → q = l - n) ∧ (q < 0 → l < n)
section
variable {T : Type} (f : T → Nat)
def tot : List T → Nat
  | [] => 0
  | t :: r => f t + tot r
def szL (us : List T) : Nat := us.length + tot f us
theorem tot_app : ∀ (a b : List T), tot f (a ++ b) = tot f a + tot f b
  | [], b => by simp [tot]
  | t :: r, b => by simp only [List.cons_append, tot, tot_app r b]; omega
theorem tot_take [Inhabited T] {ts : List T} {j : Nat} (h : j < ts.length) : tot f (ts.take (j + 1)) = tot f (ts.take j) + f (ts.getD j default) := by
  have : ts.take (j + 1) = ts.take j ++ [ts.getD j default] := by rw [List.take_add_one, List.getElem?_eq_getElem h]; simp [h]
  rw [this, tot_app]; simp [tot]
theorem tot_le (ts : List T) (j : Nat) : tot f (ts.take j) ≤ tot f ts := by
  have := tot_app f (ts.take j) (ts.drop j)
  rw [List.take_append_drop] at this
  omega
theorem tot_one [Inhabited T] {ts : List T} {j : Nat} (h : j < ts.length) : f (ts.getD j default) ≤ tot f ts := by
  have a := tot_take f h
  have b := tot_le f ts (j + 1)
  omega
theorem tot_zero (hf : ∀ t, f t = 0) : ∀ us : List T, tot f us = 0
  | [] => rfl
  | t :: r => by simp only [tot, hf t, tot_zero hf r]
theorem szL_len {ts : List T} {l : Nat} (h : szL f ts ≤ l) : ts.length ≤ l := by unfold szL at h; omega
theorem szL_one [Inhabited T] {ts : List T} {l j : Nat} (h : szL f ts ≤ l) (hj : j < ts.length) : f (ts.getD j default) ≤ l := by
  have := tot_one f hj
  unfold szL at h; omega
end
/-- A list that memory holds, of elements that it holds. -/
def FineL {T : Type} [Inhabited T] (P : T → Prop) (us : List T) : Prop := us.length ≤ maxLen ∧ ∀ i, i < us.length → P (us.getD i default)
def I64 (n : Int) : Prop := -9223372036854775808 ≤ n ∧ n ≤ 9223372036854775807
theorem at3z (w : World) (a b c : Obj) : (((w.alloc a).alloc b).alloc c).heap[w.heap.size]? = some a := by
  show (((w.heap.push a).push b).push c)[w.heap.size]? = some a
  rw [Array.getElem?_push, if_neg (by simp; omega), Array.getElem?_push, if_neg (by simp), Array.getElem?_push, if_pos rfl]
theorem at2z (w : World) (a b : Obj) : ((w.alloc a).alloc b).heap[w.heap.size]? = some a := by
  show ((w.heap.push a).push b)[w.heap.size]? = some a
  rw [Array.getElem?_push, if_neg (by simp), Array.getElem?_push, if_pos rfl]
theorem at2y (w : World) (a b : Obj) : ((w.alloc a).alloc b).heap[w.heap.size + 1]? = some b := by
  show ((w.heap.push a).push b)[w.heap.size + 1]? = some b
  rw [Array.getElem?_push, if_pos (by simp)]

/-- Numbers in a list. -/
def EI : Elt Int := fun _ _ f n => f 0 = .int .i64 n
theorem keepsI : Keeps 1 EI := fun w w' S f f' t h hk hf => by show f' 0 = _; rw [hf 0 (by omega)]; exact h
theorem growsI : Grows EI := fun w S S' f t h hs => h
abbrev IntsAt := LAt 1 EI
theorem int_cell {w : World} {S : Nat → Prop} {g o n : Nat} {ns : List Int} {F : Nat → Nat → Value} (h : ∀ i, i < n → ∀ j, j < 1 → w.cell? ⟨g, o + i * 1 + j, none⟩ = some (F i j)) (he : ∀ i, i < n → EI w S (F i) (ns.getD i default)) : ∀ i, i < n → w.cell? ⟨g, o + i, none⟩ = some (.int .i64 (ns.getD i default)) := fun i hi => by
  have := h i hi 0 (by omega)
  rw [show F i 0 = _ from he i hi] at this
  simpa using this
end Go.Proofs.Yticihnoekffelaa.Ls
namespace Go.Proofs.Yticihnoekffelaa.Ls
set_option maxRecDepth 8000
open Go.RowKit
open Recs
set_option linter.unusedVariables false
def EHd : Elt Hd := fun w S f u => f 0 = .string u.key ∧ f 1 = .string u.val
theorem keepsHd : Keeps 2 EHd := fun w w' S f f' t h hk hf => by
  obtain ⟨h0, h1⟩ := h
  exact ⟨by rw [hf 0 (by omega)]; exact h0, by rw [hf 1 (by omega)]; exact h1⟩
theorem growsHd : Grows EHd := fun w S S' f t h hs => by
  obtain ⟨h0, h1⟩ := h
  exact ⟨h0, h1⟩
def arrHd (f : Nat → Value) : Array Value := #[f 0, f 1]
theorem oneHd {w : World} {S : Nat → Prop} {f : Nat → Value} {u : Hd} (h : EHd w S f u) : (arrHd f).all (·.oneCell') = true := by
  obtain ⟨h0, h1⟩ := h
  have o0 : (f 0).oneCell' = true := by rw [h0]; rfl
  have o1 : (f 1).oneCell' = true := by rw [h1]; rfl
  simp [arrHd, o0, o1]
def HdAt (w : World) (S : Nat → Prop) (v : Value) (u : Hd) : Prop := ∃ f, v = .agg (arrHd f) ∧ EHd w S f u
abbrev HdsAt := LAt 2 EHd
theorem HdAt.keep {w w' : World} {S : Nat → Prop} {v : Value} {u : Hd} (h : HdAt w S v u) (hk : ∀ g, S g → w'.heap[g]? = w.heap[g]?) : HdAt w' S v u := by
  obtain ⟨f, h1, h2⟩ := h
  exact ⟨f, h1, keepsHd _ _ _ _ _ _ h2 hk (fun _ _ => rfl)⟩
theorem HdAt.mono {w : World} {S S' : Nat → Prop} {v : Value} {u : Hd} (h : HdAt w S v u) (hs : ∀ g, S g → S' g) : HdAt w S' v u := by
  obtain ⟨f, h1, h2⟩ := h
  exact ⟨f, h1, growsHd _ _ _ _ _ h2 hs⟩
theorem HdAt.below {w w' : World} {B : Nat} {S : Nat → Prop} {v : Value} {u : Hd} (h : HdAt w S v u) (hb : Below B w w') (hs : ∀ g, S g → g < B) : HdAt w' S v u := h.keep fun g hg => hb.block g (hs g hg)
def szHd (u : Hd) : Nat := u.key.size + u.val.size
def FineHd (u : Hd) : Prop := u.key.size ≤ maxLen ∧ u.val.size ≤ maxLen
theorem infoHd : (Try.prog.info? 116).map (·.size) = some 2 := by kernel_rfl
theorem infoLHd : (Try.prog.info? 135).map (·.size) = some 2 := by kernel_rfl
theorem infoZHd : (Try.prog.info? 116).map (fun i => (i.zero, i.size, i.bytes)) = some (some (.agg #[.string ByteArray.empty, .string ByteArray.empty]), 2, 32) := by kernel_rfl
set_option maxHeartbeats 800000 in
theorem szHead_any (v : Value) (u : Hd) (l : Int) (w : World) (S : Nat → Prop) (h3 : -1 ≤ l) (h4 : l ≤ 1048576) (hv : HdAt w S v u) (hS : ∀ g, S g → g < w.heap.size) (hf : FineHd u) :
    Calls Try.prog 106 #[v, .int .i64 l] w fun e w' => ∃ q, e = .returned (.int .i64 q) ∧ -1 ≤ q ∧ q ≤ l ∧ Lf l (szHd u) q ∧ Below w.heap.size w w' := by
  obtain ⟨f, rfl, y0, y1⟩ := hv
  try simp only [arrHd]
  rw [show f 0 = _ from y0]
  clear y0
  rw [show f 1 = _ from y1]
  clear y1
  obtain ⟨z0, z1⟩ := hf
  unfold maxLen at z0
  unfold maxLen at z1
  go_enter Try.func106, Try.ntmps106
  by_cases k0 : l - (u.key.size : Int) < 0
  · go_wp2
    go_ret
    exact ⟨_, rfl, by omega, by omega, by simp only [szHd]; exact ⟨fun _ => by omega, fun _ => by omega⟩, below1 _ _⟩
  by_cases k1 : (l - (u.key.size : Int)) - (u.val.size : Int) < 0
  · go_wp2
    go_ret
    exact ⟨_, rfl, by omega, by omega, by simp only [szHd]; exact ⟨fun _ => by omega, fun _ => by omega⟩, below1 _ _⟩
  go_wp2
  go_ret
  exact ⟨_, rfl, by omega, by omega, by simp only [szHd]; exact ⟨fun _ => by omega, fun _ => by omega⟩, below1 _ _⟩
set_option maxHeartbeats 1600000 in
theorem toHead_any (v : Value) (u : Hd) (w : World) (S : Nat → Prop) (hv : HdAt w S v u) (hS : ∀ g, S g → g < w.heap.size) (hf : szHd u ≤ 1048576) :
    Calls Try.prog 107 #[v] w fun e w' => ∃ v', e = .returned v' ∧ HdAt w' (seg w.heap.size w'.heap.size) v' u ∧ Below w.heap.size w w' := by
  obtain ⟨f, rfl, y0, y1⟩ := hv
  try simp only [arrHd]
  rw [show f 0 = _ from y0]
  clear y0
  rw [show f 1 = _ from y1]
  clear y1
  go_enter Try.func107, Try.ntmps107
  go_wp2
  exact bodyPost_ret (v := .agg #[.string u.key, .string u.val]) (results_cell_row rfl _ _ (w.heap.size + 1) _ _ _ _ rfl (at3 _ _ _ _) Try.underlying116 rfl infoHd) rfl ⟨_, rfl, ⟨fun q => if q = 0 then .string u.key else .string u.val, rfl, rfl, rfl⟩, below3 _ _ _ _⟩
set_option maxHeartbeats 1600000 in
theorem eqHead_any (v v' : Value) (u : Hd) (w : World) (S S' : Nat → Prop) (hv : HdAt w S v u) (hv' : HdAt w S' v' u) (hS : ∀ g, S g → g < w.heap.size) (hS' : ∀ g, S' g → g < w.heap.size) :
    Calls Try.prog 101 #[v, v'] w fun e w' => e = .returned (.bool true) ∧ Below w.heap.size w w' := by
  obtain ⟨f, rfl, y0, y1⟩ := hv
  obtain ⟨f', rfl, y0', y1'⟩ := hv'
  try simp only [arrHd]
  rw [show f 0 = _ from y0]
  clear y0
  rw [show f 1 = _ from y1]
  clear y1
  try simp only [arrHd]
  rw [show f' 0 = _ from y0']
  clear y0'
  rw [show f' 1 = _ from y1']
  clear y1'
  go_enter Try.func101, Try.ntmps101
  go_wp2
  go_ret
  exact ⟨rfl, below2 _ _ _⟩
end Go.Proofs.Yticihnoekffelaa.Ls
namespace Go.Proofs.Yticihnoekffelaa.Ls
set_option maxRecDepth 8000
open Go.RowKit
open Recs
set_option linter.unusedVariables false
theorem szHeadS_none (A : Option Addr) (c : Nat) (l : Int) (w : World) (h3 : -1 ≤ l) (h4 : l ≤ 1048576) :
    Calls Try.prog 104 #[.slice A 0 c, .int .i64 l] w fun e w' => ∃ q, e = .returned (.int .i64 q) ∧ -1 ≤ q ∧ q ≤ l ∧ Lf l 0 q ∧ Below w.heap.size w w' := by
  go_enter Try.func104, Try.ntmps104
  by_cases hlt : l < 0
  · go_wp2
    go_ret
    exact ⟨_, rfl, by omega, by omega, ⟨fun _ => by omega, fun _ => by omega⟩, Below.refl _ _⟩
  go_wp2
  go_loop [1, 5] (fun x i => i = .int .i64 0 ∧ x = .int .i64 l) (fun _ _ => 0)
  case atStart => exact ⟨rfl, by go_num⟩
  case round =>
    obtain ⟨rfl, rfl⟩ := hrel
    go_wp2
    go_ret
    exact ⟨_, rfl, by omega, by omega, ⟨fun _ => by omega, fun _ => by omega⟩, Below.refl _ _⟩

set_option maxHeartbeats 800000 in
theorem szHeadS_core (g o n c : Nat) (us : List Hd) (F : Nat → Nat → Value) (l : Int) (w : World) (S : Nat → Prop) (h3 : -1 ≤ l) (h4 : l ≤ 1048576) (hn : n ≤ 9223372036854775807) (hc : n ≤ c) (hg : g < w.heap.size) (hS : ∀ g, S g → g < w.heap.size) (hnl : us.length = n)
    (hf : ∀ i, i < n → FineHd (us.getD i default)) (he : ∀ i, i < n → EHd w S (F i) (us.getD i default))
    (ha : ∀ i, i < n → ∀ j, j < 2 → w.cell? ⟨g, o + i * 2 + j, none⟩ = some (F i j)) :
    Calls Try.prog 104 #[.slice (some ⟨g, o, none⟩) n c, .int .i64 l] w fun e w' => ∃ q, e = .returned (.int .i64 q) ∧ -1 ≤ q ∧ q ≤ l ∧ Lf l (szL szHd us) q ∧ Below w.heap.size w w' := by
  have HA := Seg.hid ha
  have HK := Seg.hid hf
  have HH := Seg.hid he
  have HN := Seg.hid hnl
  clear ha hf he hnl
  go_enter Try.func104, Try.ntmps104
  by_cases hlt : l - (n : Int) < 0
  · go_wp2
    go_ret
    exact ⟨_, rfl, by omega, by omega, ⟨fun h => absurd h (by omega), fun _ => by unfold szL; rw [HN.out]; omega⟩, Below.refl _ _⟩
  go_wp2
  go_loopw [1, 5] (fun x i wr => ∃ (k : Nat) (r : Int), k ≤ n ∧ x = .int .i64 r ∧ i = .int .i64 k ∧ 0 ≤ r ∧ r ≤ l ∧ Hid (Below w.heap.size w wr ∧ r = l - n - tot szHd (us.take k))) (fun _ i _ => n - (intOf i).toNat)
  case atStart => exact ⟨0, l - n, Nat.zero_le _, rfl, rfl, by omega, by omega, Below.refl _ _, by simp [tot]⟩
  case round =>
    obtain ⟨k, r, hk, rfl, rfl, hr0, hr1, HB⟩ := hrel
    by_cases hlt2 : k < n
    · have CL := cells_later HA.out HB.out.1 hg
      have c0 : wr.cell? ⟨g, o + k * 2, none⟩ = some (F k 0) := CL k ‹k < n› 0 (by omega)
      have c1 : wr.cell? ⟨g, o + k * 2 + 1, none⟩ = some (F k 1) := CL k ‹k < n› 1 (by omega)
      clear CL
      have RA : Hid (HdAt wr S (.agg (arrHd (F k))) (us.getD k default)) := ⟨_, rfl, keepsHd _ _ _ _ _ _ (HH.out k hlt2) (fun g hg => HB.out.1.block g (hS g hg)) (fun _ _ => rfl)⟩
      have h0 : (0 : Int) ≤ (k : Int) := by omega
      have h1 : (k : Int) < (n : Int) := by omega
      have hbr : Hid (∀ g, S g → g < wr.heap.size) := fun g hg => Nat.lt_of_lt_of_le (hS g hg) HB.out.1.size
      have TK := Seg.hid (tot_take szHd (ts := us) (j := k) (by rw [HN.out]; exact hlt2))
      have TL := Seg.hid (tot_le szHd us (k + 1))
      have FK := Seg.hid (HK.out k hlt2)
      generalize us.getD k default = uk at *
      go_wp2_with fail
      refine (szHead_any _ uk r wr S (by omega) (by omega) RA.out hbr.out FK.out).mono ?_
      rintro e w1 ⟨r1, rfl, hr2, hr3, hlf, b1⟩
      have B1 := Seg.hid (chain HB.out.1 b1)
      have FW := Seg.hid hlf
      clear b1 hlf
      by_cases hneg : r1 < 0
      · go_wp2
        go_ret
        refine ⟨-1, rfl, by omega, by omega, ⟨fun h => absurd h (by omega), fun _ => ?_⟩, B1.out⟩
        have m1 := FW.out.2 hneg; have m2 := HB.out.2; have m3 := TK.out; have m4 := TL.out
        unfold szL; rw [HN.out]; omega
      · go_wp2
        go_roundw
        case rel =>
          refine ⟨k + 1, r1, by omega, rfl, by go_num, by omega, by omega, B1.out, ?_⟩
          have m1 := FW.out.1 (by omega); have m2 := HB.out.2; have m3 := TK.out
          omega
        case measure => simp [intOf]; omega
    · have : k = n := by omega
      subst this
      go_wp2
      go_ret
      refine ⟨r, rfl, by omega, by omega, ⟨fun _ => ?_, fun h => absurd h (by omega)⟩, HB.out.1⟩
      have m2 := HB.out.2
      rw [← HN.out, List.take_length, HN.out] at m2
      unfold szL; rw [HN.out]; omega
theorem szHeadS_any (v : Value) (us : List Hd) (l : Int) (w : World) (S : Nat → Prop) (h3 : -1 ≤ l) (h4 : l ≤ 1048576) (hv : LAt 2 EHd w S v us) (hS : ∀ g, S g → g < w.heap.size) (hf : FineL FineHd us) :
    Calls Try.prog 104 #[v, .int .i64 l] w fun e w' => ∃ q, e = .returned (.int .i64 q) ∧ -1 ≤ q ∧ q ≤ l ∧ Lf l (szL szHd us) q ∧ Below w.heap.size w w' := by
  obtain ⟨hn, A, c, rfl, h⟩ := hv
  by_cases hz : us.length = 0
  · obtain rfl := List.length_eq_zero_iff.1 hz
    exact szHeadS_none A c l w h3 h4
  obtain ⟨g, o, F, rfl, hg, hc, hcell, hel⟩ := h.resolve_left hz
  exact szHeadS_core g o us.length c us F l w S h3 h4 hn hc (hS g hg) hS rfl hf.2 hel hcell
set_option maxHeartbeats 400000 in
theorem toHeadS_none (A : Option Addr) (c : Nat) (w : World) :
    Calls Try.prog 105 #[.slice A 0 c] w fun e w' => ∃ v, e = .returned v ∧ (∃ A c, v = .slice A 0 c) ∧ Below w.heap.size w w' := by
  obtain ⟨i0, hi, hz0, hz1, hz2⟩ := info_parts infoZHd
  go_enter Try.func105, Try.ntmps105
  go_wp2_with (at_make; refine wpList_make_full _ rfl _ _ 86 rfl w.heap.size 116 i0 _ 2 Try.underlying86 hi hz0 hz1 .i64 .i64 _ _ 0 rfl rfl rfl rfl (by omega) (by unfold maxLen; omega) (Nat.le_refl _) ?_; intro w1 hown hgr)
  have hb1 := (Below.refl w.heap.size w).grown hgr (Nat.le_refl _) (fun k hk => by cases hk)
  have HB := Seg.hid hb1
  clear hown hgr hb1 hi hz0 hz1 hz2
  go_loop [4] (fun i => i = .int .i64 0) (fun i => 0)
  case atStart => rfl
  case round =>
    subst hrel
    go_wp2
    go_ret
    exact ⟨_, rfl, ⟨_, _, rfl⟩, HB.out⟩
set_option maxHeartbeats 800000 in
theorem toHeadS_core (g o n c : Nat) (us : List Hd) (F0 : Nat → Nat → Value) (w : World) (S : Nat → Prop) (hn : n ≤ 1048576) (hc : n ≤ c) (hg : g < w.heap.size) (hS : ∀ g, S g → g < w.heap.size)
    (hf : ∀ i, i < n → szHd (us.getD i default) ≤ 1048576) (he : ∀ i, i < n → EHd w S (F0 i) (us.getD i default))
    (ha : ∀ i, i < n → ∀ j, j < 2 → w.cell? ⟨g, o + i * 2 + j, none⟩ = some (F0 i j)) :
    Calls Try.prog 105 #[.slice (some ⟨g, o, none⟩) n c] w fun e w' => ∃ F, e = .returned (.slice (some ⟨w.heap.size, 0, none⟩) n n) ∧ Done 116 2 EHd w w' us n n F := by
  obtain ⟨i0, hi, hz0, hz1, hz2⟩ := info_parts infoZHd
  have HA := Seg.hid ha; have HK := Seg.hid hf; have HH := Seg.hid he
  clear ha hf he
  go_enter Try.func105, Try.ntmps105
  go_wp2_with (at_make; refine wpList_make_full _ rfl _ _ 86 rfl w.heap.size 116 i0 _ 2 Try.underlying86 hi hz0 hz1 .i64 .i64 _ _ n rfl rfl rfl rfl (by rw [hz2]; omega) (by unfold maxLen; omega) (Nat.le_refl _) ?_; intro w1 hown hgr)
  have hb1 := (Below.refl w.heap.size w).grown hgr (Nat.le_refl _) (fun k hk => by cases hk)
  have HM := Seg.hid (Mine.of_made hown hown.1)
  have HB := Seg.hid hb1
  clear hown hgr hb1 hi hz0 hz1 hz2
  go_loopw [4] (fun i wr => ∃ (j : Nat) (F : Nat → Value), j ≤ n ∧ i = .int .i64 j ∧ Done 116 2 EHd w wr us n j F) (fun i _ => n - (intOf i).toNat)
  case atStart => exact ⟨0, _, Nat.zero_le _, rfl, HM.out, HB.out, fun i hi => absurd hi (by omega)⟩
  case round =>
    clear HM HB
    obtain ⟨j, F, hj, rfl, HR⟩ := hrel
    by_cases hlt : j < n
    · have CL := cells_later HA.out HR.bel hg
      have c0 : wr.cell? ⟨g, o + j * 2, none⟩ = some (F0 j 0) := CL j ‹j < n› 0 (by omega)
      have c1 : wr.cell? ⟨g, o + j * 2 + 1, none⟩ = some (F0 j 1) := CL j ‹j < n› 1 (by omega)
      clear CL
      have RA : Hid (HdAt wr S (.agg (arrHd (F0 j))) (us.getD j default)) := ⟨_, rfl, keepsHd _ _ _ _ _ _ (HH.out j hlt) (fun g hg => HR.bel.block g (hS g hg)) (fun _ _ => rfl)⟩
      have FW := Seg.hid (HK.out j hlt)
      have hbr : Hid (∀ g, S g → g < wr.heap.size) := fun g hg => Nat.lt_of_lt_of_le (hS g hg) HR.bel.size
      have ST := Seg.hid (fun w1 vs hv b1 he => Done.step keepsHd growsHd (w1 := w1) HR vs hv b1 he)
      have HM := Seg.hid HR.mine
      have h0 : (0 : Int) ≤ (j : Int) := by omega
      have h1 : (j : Int) < (n : Int) := by omega
      clear HR
      generalize us.getD j default = uj at *
      go_wp2_with fail
      refine (toHead_any _ uj wr S RA.out hbr.out FW.out).mono ?_
      rintro e w1 ⟨v1, rfl, ⟨f1, rfl, he1⟩, b1⟩
      have S1 := Seg.hid (ST.out w1 (arrHd f1).toList rfl b1 (keepsHd _ _ _ _ _ _ he1 (fun _ _ => rfl) (fun q hq => by
        match q, hq with
        | 0, _ => rfl
        | 1, _ => rfl
        )))
      have M1 : Hid (w1.there w.heap.size (j * 2) (arrHd f1).size) := Own.mine_there (o := j * 2) (m := 2) (HM.out.below b1 HM.out.lt) (by omega)
      have ON := Seg.hid (oneHd he1)
      clear b1 he1
      go_wp2_with (refine wpList_store_mid rfl 116 _ _ rfl w.heap.size (j * 2) (arrHd f1) rfl rfl ?ht infoHd ON.out ?_; case ht => exact M1.out)
      go_roundw
      case rel => exact ⟨j + 1, _, by omega, by go_num, S1.out⟩
      case measure => simp [intOf]; omega
    · have : j = n := by omega
      subst this
      go_wp2
      go_ret
      exact ⟨F, rfl, HR⟩
theorem toHeadS_any (v : Value) (us : List Hd) (w : World) (S : Nat → Prop) (hv : LAt 2 EHd w S v us) (hS : ∀ g, S g → g < w.heap.size) (hf : szL szHd us ≤ 1048576) :
    Calls Try.prog 105 #[v] w fun e w' => ∃ v', e = .returned v' ∧ LAt 2 EHd w' (seg w.heap.size w'.heap.size) v' us ∧ Below w.heap.size w w' := by
  obtain ⟨hn, A, c, rfl, h⟩ := hv
  by_cases hz : us.length = 0
  · obtain rfl := List.length_eq_zero_iff.1 hz
    refine (toHeadS_none A c w).mono fun e w' ⟨v', a1, ⟨A', c', a2⟩, a3⟩ => ⟨v', a1, ?_, a3⟩
    rw [a2]
    exact LAt.nil _ _ _ _
  obtain ⟨g, o, F, rfl, hg, hc, hcell, hel⟩ := h.resolve_left hz
  exact (toHeadS_core g o us.length c us F w S (szL_len _ hf) hc (hS g hg) hS (fun i hi => szL_one _ hf hi) hel hcell).mono fun e w' ⟨F, a1, a2⟩ => ⟨_, a1, a2.all growsHd hn, a2.bel⟩
theorem eqHeadS_none (A A' : Option Addr) (c c' : Nat) (w : World) :
    Calls Try.prog 97 #[.slice A 0 c, .slice A' 0 c'] w fun e w' => e = .returned (.bool true) ∧ Below w.heap.size w w' := by
  go_enter Try.func97, Try.ntmps97
  go_wp2
  go_loop [5] (fun i => i = .int .i64 0) (fun _ => 0)
  case atStart => rfl
  case round =>
    subst hrel
    go_wp2
    go_ret
    exact ⟨rfl, Below.refl _ _⟩
set_option maxHeartbeats 1600000 in
theorem eqHeadS_core (g o g' o' n c c' : Nat) (us : List Hd) (F F' : Nat → Nat → Value) (w : World) (S S' : Nat → Prop) (hn : n ≤ 9223372036854775807) (hc : n ≤ c) (hc' : n ≤ c') (hg : g < w.heap.size) (hg' : g' < w.heap.size) (hS : ∀ g, S g → g < w.heap.size) (hS' : ∀ g, S' g → g < w.heap.size)
    (he : ∀ i, i < n → EHd w S (F i) (us.getD i default)) (he' : ∀ i, i < n → EHd w S' (F' i) (us.getD i default))
    (ha : ∀ i, i < n → ∀ j, j < 2 → w.cell? ⟨g, o + i * 2 + j, none⟩ = some (F i j)) (ha' : ∀ i, i < n → ∀ j, j < 2 → w.cell? ⟨g', o' + i * 2 + j, none⟩ = some (F' i j)) :
    Calls Try.prog 97 #[.slice (some ⟨g, o, none⟩) n c, .slice (some ⟨g', o', none⟩) n c'] w fun e w' => e = .returned (.bool true) ∧ Below w.heap.size w w' := by
  have HA := Seg.hid ha; have HA' := Seg.hid ha'; have HH := Seg.hid he; have HH' := Seg.hid he'
  clear ha ha' he he'
  go_enter Try.func97, Try.ntmps97
  go_wp2
  go_loopw [5] (fun i wr => ∃ (k : Nat), k ≤ n ∧ i = .int .i64 k ∧ Hid (Below w.heap.size w wr)) (fun i _ => n - (intOf i).toNat)
  case atStart => exact ⟨0, Nat.zero_le _, rfl, Below.refl _ _⟩
  case round =>
    obtain ⟨k, hk, rfl, HB⟩ := hrel
    by_cases hlt2 : k < n
    · have CL := cells_later HA.out HB.out hg
      have CL' := cells_later HA'.out HB.out hg'
      have c0 : wr.cell? ⟨g, o + k * 2, none⟩ = some (F k 0) := CL k ‹k < n› 0 (by omega)
      have c1 : wr.cell? ⟨g, o + k * 2 + 1, none⟩ = some (F k 1) := CL k ‹k < n› 1 (by omega)
      have d0 : wr.cell? ⟨g', o' + k * 2, none⟩ = some (F' k 0) := CL' k ‹k < n› 0 (by omega)
      have d1 : wr.cell? ⟨g', o' + k * 2 + 1, none⟩ = some (F' k 1) := CL' k ‹k < n› 1 (by omega)
      clear CL CL'
      have RA : Hid (HdAt wr.drew S (.agg (arrHd (F k))) (us.getD k default)) := ⟨_, rfl, keepsHd _ _ _ _ _ _ (HH.out k hlt2) (fun g hg => HB.out.drew.block g (hS g hg)) (fun _ _ => rfl)⟩
      have RB : Hid (HdAt wr.drew S' (.agg (arrHd (F' k))) (us.getD k default)) := ⟨_, rfl, keepsHd _ _ _ _ _ _ (HH'.out k hlt2) (fun g hg => HB.out.drew.block g (hS' g hg)) (fun _ _ => rfl)⟩
      have hbr : Hid (∀ g, S g → g < wr.drew.heap.size) := fun g hg => Nat.lt_of_lt_of_le (hS g hg) HB.out.size
      have hbr' : Hid (∀ g, S' g → g < wr.drew.heap.size) := fun g hg => Nat.lt_of_lt_of_le (hS' g hg) HB.out.size
      have h0 : (0 : Int) ≤ (k : Int) := by omega
      have h1 : (k : Int) < (n : Int) := by omega
      generalize us.getD k default = uk at *
      go_wp2_with fail
      go_region_with (go_at_call 101; refine (eqHead_any _ _ uk wr.drew S S' RA.out RB.out hbr.out hbr'.out).mono ?_; rintro e w1 ⟨rfl, b1⟩; have B1 : Hid (Below w.heap.size w w1) := chainD HB.out b1; clear b1)
      all_goals
        go_wp2
        go_roundw
        case rel => exact ⟨k + 1, by omega, by go_num, B1.out⟩
        case measure => simp [intOf]; omega
    · have : k = n := by omega
      subst this
      go_wp2
      go_ret
      exact ⟨rfl, HB.out⟩
theorem eqHeadS_any (v v' : Value) (us : List Hd) (w : World) (S S' : Nat → Prop) (hv : LAt 2 EHd w S v us) (hv' : LAt 2 EHd w S' v' us) (hS : ∀ g, S g → g < w.heap.size) (hS' : ∀ g, S' g → g < w.heap.size) :
    Calls Try.prog 97 #[v, v'] w fun e w' => e = .returned (.bool true) ∧ Below w.heap.size w w' := by
  obtain ⟨hn, A, c, rfl, h⟩ := hv
  obtain ⟨_, A', c', rfl, h'⟩ := hv'
  by_cases hz : us.length = 0
  · rw [hz]
    exact eqHeadS_none A A' c c' w
  obtain ⟨g, o, F, rfl, hg, hc, hcell, hel⟩ := h.resolve_left hz
  obtain ⟨g', o', F', rfl, hg', hc', hcell', hel'⟩ := h'.resolve_left hz
  exact eqHeadS_core g o g' o' us.length c c' us F F' w S S' hn hc hc' (hS g hg) (hS' g' hg') hS hS' hel hel' hcell hcell'
end Go.Proofs.Yticihnoekffelaa.Ls
