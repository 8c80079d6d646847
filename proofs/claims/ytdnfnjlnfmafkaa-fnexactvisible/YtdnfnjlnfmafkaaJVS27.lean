/- What stands between two rounds of settle; The end of an Epoch, on plain data. -/
import Derived.Test.YtdnfnjlnfmafkaaJVS26
import Derived.Test.YtdnfnjlnfmafkaaJVS12
import Derived.Test.YtdnfnjlnfmafkaaJVS11
namespace Go.Proofs.Ytdnfnjlnfmafkaa.SdJ
set_option maxRecDepth 8000
open Go.RowKit Go.Shelf Go.Maps
open Ls Ow SdQ SdM SdL SdP
open Recs (hsz below1 below2 chain chainD Bat batVal)
open BfP BfI
set_option linter.unusedVariables false
def gcells (l : List Gon) : List Value := l.flatMap fun g => [.int .i64 g.producer, .int .i64 g.first, .int .i64 g.last]
theorem gcells_app (l : List Gon) (g : Gon) : gcells (l ++ [g]) = gcells l ++ [.int .i64 g.producer, .int .i64 g.first, .int .i64 g.last] := by simp [gcells]
theorem gcells_len : ∀ l : List Gon, (gcells l).length = l.length * 3
  | [] => rfl
  | g :: r => by
    have := gcells_len r
    simp only [gcells, List.flatMap_cons, List.length_append, List.length_cons, List.length_nil] at this ⊢
    omega
theorem gcells_one (l : List Gon) : ∀ v ∈ gcells l, v.oneCell' = true := fun v hv => by
  obtain ⟨g, _, h⟩ := List.mem_flatMap.1 hv
  simp only [List.mem_cons, List.not_mem_nil, or_false] at h
  rcases h with h | h | h <;> (subst h; rfl)
theorem gcells_get (l : List Gon) (i : Nat) (hi : i < l.length) : ∀ q, q < 3 → (gcells l).getD (i * 3 + q) default = [Value.int .i64 (l.getD i default).producer, .int .i64 (l.getD i default).first, .int .i64 (l.getD i default).last].getD q default := by
  induction l generalizing i with
  | nil => exact absurd hi (by simp)
  | cons g r ih =>
    intro q hq
    have e : gcells (g :: r) = [.int .i64 g.producer, .int .i64 g.first, .int .i64 g.last] ++ gcells r := by simp [gcells]
    cases i with
    | zero =>
      rw [e, Nat.zero_mul, Nat.zero_add]
      match q, hq with
      | 0, _ => rfl
      | 1, _ => rfl
      | 2, _ => rfl
    | succ j =>
      have h1 := ih j (by simpa using hi) q hq
      rw [e, List.getD_eq_getElem?_getD, List.getElem?_append_right (by simp; omega)]
      rw [List.getD_eq_getElem?_getD] at h1
      have h2 : (j + 1) * 3 + q - [Value.int .i64 g.producer, .int .i64 g.first, .int .i64 g.last].length = j * 3 + q := by simp; omega
      rw [h2, h1]
      simp
theorem run_app (s : List Gon × List Gon) (l : List Bat) (b : Bat) : runB s (l ++ [b]) = stp (runB s l) b := by simp [runB]
theorem step_fst (s : List Gon × List Gon) (b : Bat) : (stp s b).1 = opn2 s.1 b := by
  unfold stp opn2
  split
  · cases h : fnd b.producer s.1 with
    | none => exact (del_none h).symm
    | some f => rfl
  · split <;> rfl
theorem step_snd (s : List Gon × List Gon) (b : Bat) : (stp s b).2 = if ((psd s.1 b).2 && abort b) = true then s.2 ++ [(psd s.1 b).1] else s.2 := by
  unfold stp psd
  split
  · cases h : fnd b.producer s.1 with
    | none => simp
    | some f =>
      by_cases ha : abort b = true
      · simp [ha]
      · simp [ha]
  · split <;> simp
theorem uniq_run : ∀ (l : List Bat) (s : List Gon × List Gon), Uniq s.1 → Uniq (runB s l).1
  | [], s, h => h
  | b :: r, s, h => uniq_run r (stp s b) (by rw [step_fst]; exact uniq_opn h b)
/-- A row of what was aborted is a list of the call's own. -/
theorem own_gons {w : World} {base : Nat} {v : Value} {l : List Gon} (S : Nat → Prop) (h : w.ownsRow base 50 3 v l.length (gcells l)) (hn : l.length ≤ 1048576) (hS : ∀ g, v.ownBlock = some g → S g) : GonsOwn w S v l := by
  refine ⟨by omega, ?_⟩
  rcases h.2 with ⟨rfl, h0⟩ | ⟨g, cap, cur, rfl, hb, hg, hnc, hcm, hcs, htake⟩
  · exact ⟨none, 0, by rw [h0], .inl h0⟩
  · refine ⟨_, cap, rfl, .inr ⟨g, fun q => (gcells l).getD q default, fun _ _ => False, rfl, hS g rfl, fun _ _ _ h => h.elim, ?_⟩⟩
    refine ⟨⟨?_, .inr ⟨g, cap, cur, rfl, Nat.le_refl _, hg, hnc, hcm, hcs, ?_⟩⟩, rfl, fun i hi => ?_, fun _ _ _ h => h.elim, fun _ _ _ _ _ _ h => h.elim⟩
    · simp
    · rw [htake]
      apply List.ext_getElem
      · simp [gcells_len]
      · intro j h1 h2
        simp [List.getD_eq_getElem?_getD, h1]
    · have G := gcells_get l i hi
      exact ⟨G 0 (by omega), G 1 (by omega), G 2 (by omega)⟩
theorem five (w : World) (a b c d e : Obj) : (((((w.alloc a).alloc b).alloc c).alloc d).alloc e).heap[w.heap.size]? = some a ∧ (((((w.alloc a).alloc b).alloc c).alloc d).alloc e).heap[w.heap.size + 1]? = some b ∧ (((((w.alloc a).alloc b).alloc c).alloc d).alloc e).heap[w.heap.size + 1 + 1]? = some c ∧ (((((w.alloc a).alloc b).alloc c).alloc d).alloc e).heap[w.heap.size + 1 + 1 + 1]? = some d ∧ (((((w.alloc a).alloc b).alloc c).alloc d).alloc e).heap[w.heap.size + 1 + 1 + 1 + 1]? = some e ∧ (((((w.alloc a).alloc b).alloc c).alloc d).alloc e).heap.size = w.heap.size + 5 := by
  have h5 : (((((w.alloc a).alloc b).alloc c).alloc d).alloc e).heap.size = w.heap.size + 5 := by simp
  have h1 : ((((w.alloc a).alloc b).alloc c).alloc d).heap.size = w.heap.size + 1 + 1 + 1 + 1 := by simp
  have h2 : (((w.alloc a).alloc b).alloc c).heap.size = w.heap.size + 1 + 1 + 1 := by simp
  have h3 : ((w.alloc a).alloc b).heap.size = w.heap.size + 1 + 1 := by simp
  have h4 : (w.alloc a).heap.size = w.heap.size + 1 := by simp
  have k0 := heap_alloc_new w a
  have k1 := heap_alloc_new (w.alloc a) b
  have k2 := heap_alloc_new ((w.alloc a).alloc b) c
  have k3 := heap_alloc_new (((w.alloc a).alloc b).alloc c) d
  have k4 := heap_alloc_new ((((w.alloc a).alloc b).alloc c).alloc d) e
  rw [h4] at k1; rw [h3] at k2; rw [h2] at k3; rw [h1] at k4
  have o1 := (below1 (w.alloc a) b).block w.heap.size (by omega)
  have o2 := fun x (hx : x < w.heap.size + 1 + 1) => (below1 ((w.alloc a).alloc b) c).block x (by omega)
  have o3 := fun x (hx : x < w.heap.size + 1 + 1 + 1) => (below1 (((w.alloc a).alloc b).alloc c) d).block x (by omega)
  have o4 := fun x (hx : x < w.heap.size + 1 + 1 + 1 + 1) => (below1 ((((w.alloc a).alloc b).alloc c).alloc d) e).block x (by omega)
  exact ⟨(o4 _ (by omega)).trans ((o3 _ (by omega)).trans ((o2 _ (by omega)).trans (o1.trans k0))), (o4 _ (by omega)).trans ((o3 _ (by omega)).trans ((o2 _ (by omega)).trans k1)), (o4 _ (by omega)).trans ((o3 _ (by omega)).trans k2), (o4 _ (by omega)).trans k3, k4, h5⟩
/-- What stands: the map, its variable, what was aborted so far; all else as it was in w2. -/
structure JG (w w2 : World) (bm b4 b5 g0 : Nat) (n : Nat) (st gs : List Gon) (W : World) : Prop where
  map : MapAt W bm n st
  r4 : W.heap[b4]? = some (.cells #[.map (some bm)] 82 (0, 0))
  ex : ∃ gv, W.heap[b5]? = some (.cells #[gv] 41 (0, 0)) ∧ W.ownsRow w.heap.size 50 3 gv gs.length (gcells gs) ∧ (∀ x, gv.ownBlock = some x → x = g0 ∨ w2.heap.size ≤ x)
  keep : ∀ x, x < w2.heap.size → x ≠ bm → x ≠ b5 → x ≠ g0 → W.heap[x]? = w2.heap[x]?
  os : W.os = w2.os ∧ W.tape = w2.tape ∧ W.output = w2.output
  size : w2.heap.size ≤ W.heap.size
/-- The blocks' order. -/
structure Ord (w2 : World) (bm b4 b5 g0 : Nat) : Prop where
  l1 : bm < w2.heap.size
  l2 : b4 < w2.heap.size
  l3 : b5 < w2.heap.size
  l4 : g0 < w2.heap.size
  n1 : bm ≠ b4
  n2 : bm ≠ b5
  n3 : bm ≠ g0
  n4 : b4 ≠ b5
  n5 : b4 ≠ g0
  n6 : b5 ≠ g0
section
variable {w w2 W W' : World} {bm b4 b5 g0 n : Nat} {st gs : List Gon}
theorem map_kept {row : Option Nat} (h : MapAt W bm n st) (hg : W.grownBy W' row) (hne : some bm ≠ row) : MapAt W' bm n st := by
  obtain ⟨D, h1, h2⟩ := h
  exact ⟨D, h1.kept hg hne, h2⟩
theorem row_kept {base k : Nat} {v : Value} {xs : List Value} (h : W.ownsRow base 50 3 v k xs) (hs : ∀ x, v.ownBlock = some x → W'.heap[x]? = W.heap[x]?) : W'.ownsRow base 50 3 v k xs := by
  refine ⟨h.1, ?_⟩
  rcases h.2 with h' | ⟨g, cap, cur, rfl, hb, hg, r⟩
  · exact .inl h'
  · exact .inr ⟨g, cap, cur, rfl, hb, (hs g rfl).trans hg, r⟩
theorem row_cells {base k : Nat} {v : Value} {xs : List Value} (h : W.ownsRow base 50 3 v k xs) : ∀ x, v.ownBlock = some x → ∃ cs t, W.heap[x]? = some (.cells cs t (0, 0)) := fun x hx => by
  rcases h.2 with ⟨rfl, _⟩ | ⟨g, cap, cur, rfl, hb, hg, r⟩
  · cases hx
  · simp only [Value.ownBlock, Option.some.injEq] at hx
    subst hx
    exact ⟨_, _, hg⟩
/-- A block that the row leaves alone. -/
theorem JG.grown (o : Ord w2 bm b4 b5 g0) (h : JG w w2 bm b4 b5 g0 n st gs W) {row : Option Nat} (hg : W.grownBy W' row) (hr : ∀ r, row = some r → w2.heap.size ≤ r ∧ ∃ ob : Obj, W.heap[r]? = some ob ∧ ob.isCells = false) : JG w w2 bm b4 b5 g0 n st gs W' := by
  have hz := h.size
  have nr : ∀ x, x < w2.heap.size → some x ≠ row := fun x hx e => by have := (hr x e.symm).1; omega
  obtain ⟨gv, x1, x2, x3⟩ := h.ex
  refine ⟨map_kept h.map hg (nr bm o.l1), (hg.block b4 (Nat.lt_of_lt_of_le o.l2 hz) (nr b4 o.l2)).trans h.r4, ⟨gv, (hg.block b5 (Nat.lt_of_lt_of_le o.l3 hz) (nr b5 o.l3)).trans x1, row_kept x2 (fun x hx => ?_), x3⟩, fun x a1 a2 a3 a4 => (hg.block x (Nat.lt_of_lt_of_le a1 hz) (nr x a1)).trans (h.keep x a1 a2 a3 a4), ⟨hg.os.trans h.os.1, hg.tape.trans h.os.2.1, hg.output.trans h.os.2.2⟩, Nat.le_trans hz hg.size⟩
  obtain ⟨cs, t, hc⟩ := row_cells x2 x hx
  refine hg.block x (Array.getElem?_eq_some_iff.1 hc).1 (fun e => ?_)
  obtain ⟨_, ob, h1, h2⟩ := hr x e.symm
  rw [hc] at h1
  cases h1
  cases h2
theorem JG.later (o : Ord w2 bm b4 b5 g0) (h : JG w w2 bm b4 b5 g0 n st gs W) (b : Below W.heap.size W W') : JG w w2 bm b4 b5 g0 n st gs W' :=
  h.grown o (row := none) ⟨b.os, b.tape, b.output, b.size, fun k hk _ => b.block k hk⟩ (fun r e => by cases e)
/-- One batch has passed the map. -/
theorem JG.pass (o : Ord w2 bm b4 b5 g0) (h : JG w w2 bm b4 b5 g0 n st gs W) {n' : Nat} {st' : List Gon} (hg : W.grownBy W' (some bm)) (hm : MapAt W' bm n' st') : JG w w2 bm b4 b5 g0 n' st' gs W' := by
  have hz := h.size
  have nr : ∀ x, x ≠ bm → some x ≠ some bm := fun x hx e => hx (by cases e; rfl)
  obtain ⟨gv, x1, x2, x3⟩ := h.ex
  refine ⟨hm, (hg.block b4 (Nat.lt_of_lt_of_le o.l2 hz) (nr b4 (Ne.symm o.n1))).trans h.r4, ⟨gv, (hg.block b5 (Nat.lt_of_lt_of_le o.l3 hz) (nr b5 (Ne.symm o.n2))).trans x1, row_kept x2 (fun x hx => ?_), x3⟩, fun x a1 a2 a3 a4 => (hg.block x (Nat.lt_of_lt_of_le a1 hz) (nr x a2)).trans (h.keep x a1 a2 a3 a4), ⟨hg.os.trans h.os.1, hg.tape.trans h.os.2.1, hg.output.trans h.os.2.2⟩, Nat.le_trans hz hg.size⟩
  obtain ⟨cs, t, hc⟩ := row_cells x2 x hx
  refine hg.block x (Array.getElem?_eq_some_iff.1 hc).1 (nr x (fun e => ?_))
  have := x3 x hx
  have := o.l1
  have := o.n3
  omega
/-- One more was aborted. -/
theorem JG.push (o : Ord w2 bm b4 b5 g0) {w8 w9 : World} {gv v' : Value} {g : Gon} (h : JG w w2 bm b4 b5 g0 n st gs W) (x1 : W.heap[b5]? = some (.cells #[gv] 41 (0, 0))) (x2 : W.ownsRow w.heap.size 50 3 gv gs.length (gcells gs)) (x3 : ∀ x, gv.ownBlock = some x → x = g0 ∨ w2.heap.size ≤ x) (b8 : Below W.heap.size W w8)
    (hown : w9.ownsRow w.heap.size 50 3 v' (gs.length + 1) (gcells gs ++ [.int .i64 g.producer, .int .i64 g.first, .int .i64 g.last])) (gr : w8.grownBy w9 gv.ownBlock) (hat : v'.ownBlock = gv.ownBlock ∨ v'.ownBlock = some w8.heap.size) :
    (w9.cell? ⟨b5, 0, none⟩ = some gv ∧ w9.frozen? ⟨b5, 0, none⟩ = false) ∧ JG w w2 bm b4 b5 g0 n st (gs ++ [g]) (w9.setCell ⟨b5, 0, none⟩ v') := by
  have hz := h.size
  have s8 := b8.size
  have vb : ∀ x, gv.ownBlock = some x → x ≠ bm ∧ x ≠ b4 ∧ x ≠ b5 ∧ (x < w2.heap.size → x = g0) := fun x hx => by
    have := x3 x hx
    have := o.l1; have := o.l2; have := o.l3; have := o.n3; have := o.n5; have := o.n6
    omega
  have kp : ∀ x, x < W.heap.size → (∀ y, gv.ownBlock = some y → x ≠ y) → w9.heap[x]? = W.heap[x]? := fun x hx hn => (gr.block x (by omega) (fun e => hn x e.symm rfl)).trans (b8.block x hx)
  have e5 : w9.heap[b5]? = some (.cells #[gv] 41 (0, 0)) := (kp b5 (Nat.lt_of_lt_of_le o.l3 hz) (fun y hy e => (vb y hy).2.2.1 e.symm)).trans x1
  refine ⟨⟨cell_of_row w9 b5 0 _ _ (0, 0) e5, frozen_of_row w9 b5 0 _ _ e5⟩, ?_, ?_, ⟨v', heap_setCell_same w9 b5 0 _ _ _ e5, ?_, ?_⟩, fun x a1 a2 a3 a4 => ?_, ⟨gr.os.trans (b8.os.trans h.os.1), gr.tape.trans (b8.tape.trans h.os.2.1), gr.output.trans (b8.output.trans h.os.2.2)⟩, by have := gr.size; simp; omega⟩
  · obtain ⟨D, m1, m2⟩ := h.map
    have m3 := (m1.kept (row := none) (w' := w8) ⟨b8.os, b8.tape, b8.output, b8.size, fun k hk _ => b8.block k hk⟩ (by simp)).kept gr (fun e => (vb bm e.symm).1 rfl)
    exact ⟨D, m3.setCell (a := ⟨b5, 0, none⟩) o.n2 _, m2⟩
  · rw [heap_setCell_other _ _ _ _ (by show b4 ≠ b5; exact o.n4)]
    exact (kp b4 (Nat.lt_of_lt_of_le o.l2 hz) (fun y hy e => (vb y hy).2.1 e.symm)).trans h.r4
  · rw [gcells_app, List.length_append]
    refine row_kept hown (fun x hx => heap_setCell_other _ _ _ _ ?_)
    show x ≠ b5
    rcases hat with e | e
    · rw [e] at hx; exact (vb x hx).2.2.1
    · rw [e] at hx
      simp only [Option.some.injEq] at hx
      have := o.l3
      omega
  · intro x hx
    rcases hat with e | e
    · rw [e] at hx; exact x3 x hx
    · rw [e] at hx
      simp only [Option.some.injEq] at hx
      right; omega
  · rw [heap_setCell_other _ _ _ _ (by show x ≠ b5; exact a3)]
    exact (kp x (by omega) (fun y hy e => a4 (e.trans ((vb y hy).2.2.2 (by omega))))).trans (h.keep x a1 a2 a3 a4)
end
theorem form_row {w : World} {base n : Nat} {v : Value} {xs : List Value} (h : w.ownsRow base 50 3 v (n + 1) xs) : ∃ g cap, v = .slice (some ⟨g, 0, none⟩) (n + 1) cap := by
  rcases h.2 with ⟨_, h0⟩ | ⟨g, cap, cur, rfl, _⟩
  · omega
  · exact ⟨g, cap, rfl⟩
/-- What a round changes at most: the map, the variable of what was aborted, and its row. -/
structure Ch (W w' : World) (bm b5 : Nat) (gv : Value) : Prop where
  os : w'.os = W.os
  tape : w'.tape = W.tape
  output : w'.output = W.output
  size : W.heap.size ≤ w'.heap.size
  block : ∀ k, k < W.heap.size → k ≠ bm → k ≠ b5 → (∀ y, gv.ownBlock = some y → k ≠ y) → w'.heap[k]? = W.heap[k]?
section
variable {w w2 W W' w8 w9 : World} {bm b4 b5 g0 : Nat} {gv : Value}
theorem Ch.of_pass (hg : W.grownBy W' (some bm)) : Ch W W' bm b5 gv := ⟨hg.os, hg.tape, hg.output, hg.size, fun k hk h1 _ _ => hg.block k hk (fun e => h1 (by cases e; rfl))⟩
theorem Ch.later (h : Ch W w8 bm b5 gv) (b : Below w8.heap.size w8 w9) : Ch W w9 bm b5 gv := ⟨b.os.trans h.os, b.tape.trans h.tape, b.output.trans h.output, Nat.le_trans h.size b.size, fun k hk h1 h2 h3 => (b.block k (Nat.lt_of_lt_of_le hk h.size)).trans (h.block k hk h1 h2 h3)⟩
theorem Ch.grown (h : Ch W w8 bm b5 gv) (g : w8.grownBy w9 gv.ownBlock) : Ch W w9 bm b5 gv := ⟨g.os.trans h.os, g.tape.trans h.tape, g.output.trans h.output, Nat.le_trans h.size g.size, fun k hk h1 h2 h3 => (g.block k (Nat.lt_of_lt_of_le hk h.size) (fun e => h3 k e.symm rfl)).trans (h.block k hk h1 h2 h3)⟩
theorem Ch.set (h : Ch W w8 bm b5 gv) (v : Value) : Ch W (w8.setCell ⟨b5, 0, none⟩ v) bm b5 gv := ⟨h.os, h.tape, h.output, by simpa using h.size, fun k hk h1 h2 h3 => (heap_setCell_other _ _ _ _ (by show k ≠ b5; exact h2)).trans (h.block k hk h1 h2 h3)⟩
theorem Ch.keeps (o : Ord w2 bm b4 b5 g0) (h : Ch W W' bm b5 gv) {base k : Nat} {xs : List Value} (x2 : W.ownsRow base 50 3 gv k xs) : KeepsFrom w2.heap.size W W' := by
  refine ⟨h.size, fun q ob h1 h2 h3 => ?_⟩
  have l1 := o.l1; have l3 := o.l3
  refine (h.block q (Array.getElem?_eq_some_iff.1 h2).1 (by omega) (by omega) (fun y hy e => ?_)).trans h2
  obtain ⟨cs, t, hc⟩ := row_cells x2 y hy
  rw [← e, h2] at hc
  cases hc
  cases h3
theorem Ch.kp {V : Nat → Prop} (hV : ∀ k, V k ↔ (k = bm ∨ k = b5 ∨ k = g0)) (h : Ch W W' bm b5 gv) (x3 : ∀ x, gv.ownBlock = some x → x = g0 ∨ w2.heap.size ≤ x) : Kp V w2.heap.size W W' := by
  refine ⟨h.os, h.tape, h.output, h.size, fun k hk hn => ?_⟩
  have hv : ¬ (k = bm ∨ k = b5 ∨ k = g0) := fun e => hn (.inl ((hV k).2 e))
  have hl : ¬ w2.heap.size ≤ k := fun e => hn (.inr e)
  exact h.block k hk (by omega) (by omega) (fun y hy e => by have := x3 y hy; omega)
end
/-- Between two rounds. -/
def JS (w w2 : World) (bm b4 b5 g0 : Nat) {w0 : World} {lo b : Nat} (pre : List (It w0 lo b)) (W : World) : Prop := JG w w2 bm b4 b5 g0 pre.length (runB ([], []) (pre.map bt)).1 (runB ([], []) (pre.map bt)).2 W
theorem gs_le (l : List Bat) : ∀ s : List Gon × List Gon, (runB s l).2.length ≤ s.2.length + l.length := by
  induction l with
  | nil => intro s; simp [runB]
  | cons b r ih =>
    intro s
    have h1 := ih (stp s b)
    have h2 : (stp s b).2.length ≤ s.2.length + 1 := by
      rw [step_snd]
      split
      · simp
      · omega
    show (runB (stp s b) r).2.length ≤ _
    simp only [List.length_cons]
    omega
theorem ok_flags {b : Bat} (h : BOk.batOk b = true) : (0 ≤ b.flags ∧ b.flags ≤ 7) ∧ I64' b.producer ∧ I64' b.base := by
  unfold BOk.batOk at h
  simp only [Bool.and_eq_true] at h
  have h1 := h.1.1.1.1
  simp only [BOk.okB1, BOk.inR, Bool.and_eq_true, decide_eq_true_eq] at h1
  unfold I64'
  omega
end Go.Proofs.Ytdnfnjlnfmafkaa.SdJ
namespace Go.Proofs.Ytdnfnjlnfmafkaa.EoP
set_option maxRecDepth 8000
open Recs SegW LogW SrP BfP
set_option linter.unusedVariables false
def endB (x : Int) : Int → Int → List Bat → Int × Int
  | f, n, [] => (f, n)
  | f, n, b :: t => if x < b.epoch then (f, b.base) else endB x b.epoch n t
def told (start : Int) (r : Int × Int) : Int × Int := if r.1 < 0 then (0, start) else r
def endF (l : Lg) (x : Int) : Int × Int := told l.start (endB x (-1) l.next (flatB l.segs))
def endOf (l : Lg) (x : Int) : Int × Int := if LgP.logOk l = true then endF l x else (0, 0)
/-- The Epoch of the last batch, f where there is none. -/
def lastE : Int → List Bat → Int
  | f, [] => f
  | f, b :: t => lastE b.epoch t
def sm (bs : List Bat) : Bool := decide (0 < bs.length)
theorem endB_app {x n : Int} : ∀ {a r : List Bat} {f : Int}, (∀ y ∈ a, ¬ x < y.epoch) → endB x f n (a ++ r) = endB x (lastE f a) n r
  | [], r, f, _ => rfl
  | y :: t, r, f, h => by
    show (if x < y.epoch then (f, y.base) else endB x y.epoch n (t ++ r)) = _
    rw [if_neg (h y (by simp)), endB_app (a := t) (fun z hz => h z (by simp [hz]))]
    rfl
theorem endB_stop {x n f : Int} {a r : List Bat} {y : Bat} (h : ∀ z ∈ a, ¬ x < z.epoch) (hy : x < y.epoch) : endB x f n (a ++ y :: r) = (lastE f a, y.base) := by
  rw [endB_app h]
  show (if x < y.epoch then (_, y.base) else _) = _
  rw [if_pos hy]
theorem endB_all {x n f : Int} {a : List Bat} (h : ∀ z ∈ a, ¬ x < z.epoch) : endB x f n a = (lastE f a, n) := by
  have := endB_app (x := x) (n := n) (r := []) (f := f) h
  rw [List.append_nil] at this
  rw [this]
  rfl
theorem lastE_app : ∀ {a : List Bat} {f : Int} {y : Bat}, lastE f (a ++ [y]) = y.epoch
  | [], f, y => rfl
  | z :: t, f, y => lastE_app (a := t)
theorem sm_app {a : List Bat} {y : Bat} : sm (a ++ [y]) = true := by simp [sm]
theorem epoch0 {b : Bat} (h : BOk.batOk b = true) : 0 ≤ b.epoch := by
  simp only [BOk.batOk, BOk.okB1, BOk.okB3, BOk.inR, Bool.and_eq_true, decide_eq_true_eq] at h
  omega
theorem lastE_some : ∀ {a : List Bat} {f g : Int}, 0 < a.length → lastE f a = lastE g a
  | [], _, _, h => by simp at h
  | z :: t, f, g, _ => rfl
theorem lastE_pos : ∀ {a : List Bat} {f : Int}, 0 ≤ f → (∀ y ∈ a, 0 ≤ y.epoch) → 0 ≤ lastE f a
  | [], f, h, _ => h
  | z :: t, f, h, hk => lastE_pos (a := t) (hk z (by simp)) (fun y hy => hk y (by simp [hy]))
theorem told_of {start e : Int} {a : List Bat} (h : ∀ y ∈ a, 0 ≤ y.epoch) : told start (lastE (-1) a, e) = if sm a = true then (lastE 0 a, e) else (0, start) := by
  by_cases ha : 0 < a.length
  · have := lastE_pos (a := a) (Int.le_refl 0) h
    rw [lastE_some (g := 0) ha, told, if_neg (by omega), if_pos (by simp [sm, ha])]
  · have : a = [] := by cases a with | nil => rfl | cons z t => simp at ha
    subst this
    rfl
theorem from_zero : ∀ {bs : List Bat}, (∀ b ∈ bs, BOk.batOk b = true) → fromB 0 bs = bs
  | [], _ => rfl
  | b :: t, h => by
    have hb := LgP.okLen (h b (by simp))
    unfold fromB
    rw [List.filter_cons_of_pos (by unfold pB bEnd; simp only [decide_eq_true_eq]; omega)]
    exact congrArg _ (from_zero (fun y hy => h y (by simp [hy])))
end Go.Proofs.Ytdnfnjlnfmafkaa.EoP
