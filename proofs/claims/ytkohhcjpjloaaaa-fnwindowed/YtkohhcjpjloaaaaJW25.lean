/- A row of numbers of the call's own: opened, its cells written, its end taken away; What the model's DrawReckon draws: steps, columns' names and a row. -/
import Derived.WalkSmall
import Derived.OwnWalk
import Derived.Test.YtkohhcjpjloaaaaJW24
import Derived.Test.YtkohhcjpjloaaaaJW05
import Derived.Test.YtkohhcjpjloaaaaJW11
import Derived.Test.YtkohhcjpjloaaaaJW07
namespace Go.Proofs.Ytkohhcjpjloaaaa.RkP
set_option maxRecDepth 8000
open Go.RowKit
open Ls Lp
set_option linter.unusedVariables false
abbrev NRow (w : World) (B : Nat) (v : Value) (ns : List Int) : Prop := w.ownsRow B 3 1 v ns.length (ns.map (Value.int .i64))
theorem NRow.keep {w w' : World} {B : Nat} {v : Value} {ns : List Int} (h : NRow w B v ns) (hb : Below w.heap.size w w') : NRow w' B v ns := by
  refine ⟨h.1, ?_⟩
  rcases h.2 with ⟨h1, h2⟩ | ⟨g, cap, cur, h1, hb', hg, r⟩
  · exact .inl ⟨h1, h2⟩
  · exact .inr ⟨g, cap, cur, h1, hb', (hb.block g (Array.getElem?_eq_some_iff.1 hg).1).trans hg, r⟩
theorem NRow.open {w : World} {B : Nat} {v : Value} {ns : List Int} (h : NRow w B v ns) (h0 : 0 < ns.length) : ∃ g cap, v = .slice (some ⟨g, 0, none⟩) ns.length cap ∧ B ≤ g ∧ g < w.heap.size ∧ (∀ i, i < ns.length → w.cell? ⟨g, i, none⟩ = some (.int .i64 (ns.getD i 0))) ∧ (∀ i, w.frozen? ⟨g, i, none⟩ = false) ∧ ns.length ≤ cap := by
  rcases h.2 with ⟨h1, h2⟩ | ⟨g, cap, cur, h1, hb', hg, hnc, hcm, hcs, htake⟩
  · omega
  · subst h1
    refine ⟨g, cap, rfl, hb', (Array.getElem?_eq_some_iff.1 hg).1, fun i hi => ?_, fun i => frozen_of_row w g i _ _ hg, by simpa using hnc⟩
    have := World.ownsRow.cellAt h i (by simpa using hi)
    rw [this]
    simp [hi]
theorem NRow.put {w : World} {B : Nat} {v : Value} {ns : List Int} {a : Int} (h : w.ownsRow B 3 1 v (ns.length + 1) (ns.map (Value.int .i64) ++ [Value.int .i64 a])) : NRow w B v (ns ++ [a]) := by
  unfold NRow
  rw [List.length_append, List.length_singleton, List.map_append]
  exact h
theorem NRow.set {w : World} {B g cap j : Nat} {ns : List Int} {a : Int} (h : NRow w B (.slice (some ⟨g, 0, none⟩) ns.length cap) ns) (hj : j < ns.length) : NRow (w.setCell ⟨g, j, none⟩ (.int .i64 a)) B (.slice (some ⟨g, 0, none⟩) ns.length cap) (ns.set j a) := by
  rcases h.2 with ⟨h1, h2⟩ | ⟨g', cap', cur, h1, hb', hg, hnc, hcm, hcs, htake⟩
  · omega
  · cases h1
    refine ⟨by simp, .inr ⟨g, cap, cur.setIfInBounds j (.int .i64 a), by simp, hb', heap_setCell_same w g j cur _ (.int .i64 a) hg, by simpa using hnc, hcm, by simpa using hcs, ?_⟩⟩
    simp only [List.length_set]
    rw [Array.toList_setIfInBounds, List.take_set, htake, List.map_set]
theorem NRow.pop {w : World} {B g cap n : Nat} {ns : List Int} (hn : ns.length = n + 1) (h : NRow w B (.slice (some ⟨g, 0, none⟩) ns.length cap) ns) : NRow w B (.slice (some ⟨g, 0, none⟩) n cap) (ns.take n) := by
  have e : ns.map (Value.int .i64) = (ns.take n).map (Value.int .i64) ++ (ns.drop n).map (Value.int .i64) := by rw [← List.map_append, List.take_append_drop]
  unfold NRow at *
  rw [hn, e] at h
  have hl : (ns.take n).length = n := by rw [List.length_take]; omega
  rw [hl]
  exact Go.ownsRow_pop (by rw [List.length_map, hl]; omega) h
end Go.Proofs.Ytkohhcjpjloaaaa.RkP
namespace Go.Proofs.Ytkohhcjpjloaaaa.DsD
set_option maxRecDepth 8000
open Go.RowKit
open Ls Lp QtP DsP DsE RkP
open Draw (Cur Lft Bytes)
open Recs (hsz below1 below2 chain)
set_option linter.unusedVariables false
abbrev Hp (w : World) : Nat → Prop := fun g => g < w.heap.size
theorem NRow.keepG {w w' : World} {base b : Nat} {v : Value} {ns : List Int} (h : NRow w base v ns) (hb : b < base) (g : w.grownBy w' (some b)) : NRow w' base v ns := by
  refine ⟨h.1, ?_⟩
  rcases h.2 with hn | ⟨g', cap, cur, h1, hbs, hgg, rest⟩
  · exact .inl hn
  · exact .inr ⟨g', cap, cur, h1, hbs, by rw [g.block g' (Array.getElem?_eq_some_iff.1 hgg).1 (by simp; omega)]; exact hgg, rest⟩
theorem NRow.form {w : World} {base : Nat} {v : Value} {ns : List Int} (h : NRow w base v ns) : ∃ A c, v = .slice A ns.length c := by
  rcases h.2 with ⟨h1, h2⟩ | ⟨g', cap, cur, h1, _⟩
  · exact ⟨none, 0, by rw [h1, h2]⟩
  · exact ⟨_, cap, h1⟩
theorem NRow.lat {w : World} {base : Nat} {v : Value} {ns : List Int} (hn : ns.length ≤ 9223372036854775807) (h : NRow w base v ns) : LAt 1 EI w (Hp w) v ns := by
  refine ⟨hn, ?_⟩
  rcases h.2 with ⟨h1, h2⟩ | ⟨g, cap, cur, h1, h2, h3, h4, h5, h6, h7⟩
  · exact ⟨none, 0, by rw [h1, h2], .inl h2⟩
  · refine ⟨_, cap, h1, .inr ⟨g, 0, fun i _ => .int .i64 (ns.getD i default), rfl, (Array.getElem?_eq_some_iff.1 h3).1, h4, fun i hi j hj => ?_, fun i hi => rfl⟩⟩
    obtain rfl : j = 0 := by omega
    have := World.ownsRow.cellAt (h1 ▸ h) i (by simpa using hi)
    simp only [Nat.zero_add, Nat.mul_one, Nat.add_zero]
    rw [this]
    simp [hi]
theorem strs_lat {w : World} {g : Nat} {ty : TypeId} (l : List ByteArray) (h : w.heap[g]? = some (.cells (l.map Value.string).toArray ty (0, 0))) (hl : l.length ≤ 100) : LAt 1 EStr w (Hp w) (.slice (some ⟨g, 0, none⟩) l.length l.length) l := by
  refine ⟨by omega, _, l.length, rfl, .inr ⟨g, 0, fun i _ => .string (l.getD i default), rfl, (Array.getElem?_eq_some_iff.1 h).1, Nat.le_refl _, fun i hi j hj => ?_, fun i hi => rfl⟩⟩
  obtain rfl : j = 0 := by omega
  simp only [Nat.zero_add, Nat.mul_one, Nat.add_zero]
  rw [cell_of_row w g i _ _ (0, 0) h]
  simp [hi]
theorem lat_stp {w w' : World} {v : Value} {l : List Stp} (h : LAt 3 EStp w (Hp w) v l) (b : Below w.heap.size w w') : LAt 3 EStp w' (Hp w') v l := LAt.mono growsStp (LAt.below keepsStp h b (fun g hg => hg)) (fun g hg => Nat.lt_of_lt_of_le hg b.size)
theorem lat_str {w w' : World} {v : Value} {l : List ByteArray} (h : LAt 1 EStr w (Hp w) v l) (b : Below w.heap.size w w') : LAt 1 EStr w' (Hp w') v l := LAt.mono growsStr (LAt.below keepsStr h b (fun g hg => hg)) (fun g hg => Nat.lt_of_lt_of_le hg b.size)
theorem lat_int {w w' : World} {v : Value} {l : List Int} (h : LAt 1 EI w (Hp w) v l) (b : Below w.heap.size w w') : LAt 1 EI w' (Hp w') v l := LAt.mono growsI (LAt.below keepsI h b (fun g hg => hg)) (fun g hg => Nat.lt_of_lt_of_le hg b.size)
/-- A list without its first Step. -/
theorem tail_lat {w : World} {S : Nat → Prop} {A : Option Addr} {c : Nat} {l : List Stp} (h : LAt 3 EStp w S (.slice A l.length c) l) (hl : 0 < l.length) : ∃ g o, A = some ⟨g, o, none⟩ ∧ l.length ≤ c ∧ LAt 3 EStp w S (.slice (some ⟨g, o + 3, none⟩) l.tail.length (c - 1)) l.tail := by
  obtain ⟨hn, A', c', h1, h2⟩ := h
  simp only [Value.slice.injEq, true_and] at h1
  obtain ⟨rfl, rfl⟩ := h1
  obtain ⟨g, o, F, rfl, hg, hc, hcell, hel⟩ := h2.resolve_left (by omega)
  refine ⟨g, o, rfl, hc, by rw [List.length_tail]; omega, _, c - 1, rfl, .inr ⟨g, o + 3, fun i j => F (i + 1) j, rfl, hg, by rw [List.length_tail]; omega, fun i hi j hj => ?_, fun i hi => ?_⟩⟩
  · rw [List.length_tail] at hi
    have := hcell (i + 1) (by omega) j hj
    rw [show o + 3 + i * 3 + j = o + (i + 1) * 3 + j by omega]
    exact this
  · rw [List.length_tail] at hi
    have := hel (i + 1) (by omega)
    have e : l.tail.getD i default = l.getD (i + 1) default := by simp
    rw [e]
    exact this
abbrev abc : List ByteArray := [⟨#[97]⟩, ⟨#[98]⟩, ⟨#[99]⟩]
structure Dr (w1 wr : World) (b : Nat) (A : Option Addr) (n c : Nat) (v : Value) (ns : List Int) : Prop where
  row : NRow wr (w1.heap.size + 1) v ns
  lft : Lft w1 wr b A n c
  cols : wr.heap[w1.heap.size]? = some (.cells (abc.map Value.string).toArray 9 (0, 0))
theorem Dr.next {w1 wr w' : World} {b : Nat} {A : Option Addr} {n c : Nat} {v : Value} {ns : List Int} (h : Dr w1 wr b A n c v ns) (hb : b < w1.heap.size) (l : Lft wr w' b A n c) : Dr w1 w' b A n c v ns :=
  ⟨NRow.keepG h.row (by omega) l.grown, h.lft.trans l, (l.grown.block _ (Array.getElem?_eq_some_iff.1 h.cols).1 (by simp; omega)).trans h.cols⟩
theorem Dr.alloc {w1 wr : World} {b : Nat} {A : Option Addr} {n c : Nat} {v : Value} {ns : List Int} (h : Dr w1 wr b A n c v ns) (hb : b < w1.heap.size) (o : Obj) : Dr w1 (wr.alloc o) b A n c v ns := h.next hb ⟨h.lft.cur.alloc o, World.grownBy_alloc _ _ _⟩
theorem Dr.push {w1 wr w9 : World} {b : Nat} {A : Option Addr} {n c : Nat} {v v' : Value} {ns : List Int} {a : Int} (h0 : Cur w1 b A n c) (hb : b < w1.heap.size) (h : Dr w1 wr b A n c v ns) (hown : w9.ownsRow (w1.heap.size + 1) 3 1 v' (ns.length + 1) (ns.map (Value.int .i64) ++ [.int .i64 a])) (gr : wr.grownBy w9 v.ownBlock) : Dr w1 w9 b A n c v' (ns ++ [a]) := by
  have hge : ∀ k, v.ownBlock = some k → w1.heap.size + 1 ≤ k := fun k hk => (World.ownsRow.lt h.row k hk).1
  refine ⟨NRow.put hown, DrawB.Lft.above h0 h.lft gr (fun k hk => by have := hge k hk; omega), (gr.block _ (Array.getElem?_eq_some_iff.1 h.cols).1 (fun e => ?_)).trans h.cols⟩
  have := hge _ e.symm
  omega
theorem co_of {w1 wr : World} {b : Nat} {A : Option Addr} {n c : Nat} {v : Value} {ns : List Int} (h : Dr w1 wr b A n c v ns) (hb : b < w1.heap.size) : Co wr b w1.heap.size (fun i => abc.getD i ⟨#[]⟩) :=
  ⟨(Array.getElem?_eq_some_iff.1 h.cols).1, by omega, fun i hi => by
    rw [cell_of_row wr _ i _ _ (0, 0) h.cols]
    match i, hi with
    | 0, _ => rfl
    | 1, _ => rfl
    | 2, _ => rfl⟩
theorem below_of {w w1 wr : World} {A : Option Addr} {n c : Nat} (b1 : Below w.heap.size w w1) (s1 : w1.heap.size = w.heap.size + 1) (l : Lft w1 wr w.heap.size A n c) : Below w.heap.size w wr :=
  ⟨l.grown.os.trans b1.os, l.grown.tape.trans b1.tape, l.grown.output.trans b1.output, Nat.le_trans b1.size l.grown.size, fun k hk => (l.grown.block k (by omega) (by simp; omega)).trans (b1.block k hk)⟩
/-- What is drawn. -/
def Out (w : World) (e : Ending) (w' : World) : Prop := ∃ v1 v2 v3 l cols row, e = .returned (.tuple #[v1, v2, v3]) ∧ l.length ≤ 31 ∧ Sm l ∧ LAt 3 EStp w' (Hp w') v1 l ∧ LAt 1 EStr w' (Hp w') v2 cols ∧ LAt 1 EI w' (Hp w') v3 row ∧ Below w.heap.size w w'
end Go.Proofs.Ytkohhcjpjloaaaa.DsD
