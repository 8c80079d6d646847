/- A list of records of one's own, some blocks apart from it; A drawn batch with one thing changed. -/
import Derived.Test.YtdnbcfochlfopaaJH37
namespace Go.Proofs.Ytdnbcfochlfopaa.RsX
set_option maxRecDepth 8000
open Go.RowKit
open Recs (hsz Hd Rec Heads recVal RecAt recCells RecsAt)
open RecW (recArr)
open RsO (rcells rcells_app rcells_len RsAt)
set_option linter.unusedVariables false
def WinX (w : World) (base : Nat) (X : Nat → Prop) (v hv : Value) (hs : List Hd) : Prop := ∃ lo hi, base ≤ lo ∧ hi ≤ w.heap.size ∧ (∀ g, v.ownBlock = some g ∨ X g → g < lo ∨ hi ≤ g) ∧ Heads w lo hi hv hs
structure RsX (w : World) (base : Nat) (X : Nat → Prop) (v : Value) (ps : List (Rec × Value)) : Prop where
  own : w.ownsRow base 36 6 v ps.length (rcells ps)
  row : ∀ g, v.ownBlock = some g → ¬ X g
  win : ∀ p, p ∈ ps → WinX w base X v p.2 p.1.heads
section
variable {w w' : World} {base : Nat} {X : Nat → Prop} {v : Value} {ps : List (Rec × Value)}
theorem RsX.of (h : RsAt w base v ps) (hX : ∀ g, X g → w.heap.size ≤ g) : RsX w base X v ps := by
  refine ⟨h.own, fun g e hx => ?_, fun p hp => ?_⟩
  · have := (World.ownsRow.lt h.own g e).2
    have := hX g hx
    omega
  · obtain ⟨lo, hi, h1, h2, h3, h4⟩ := h.win p hp
    exact ⟨lo, hi, h1, h2, fun g e => e.elim (h3 g) (fun hx => .inr (Nat.le_trans h2 (hX g hx))), h4⟩
theorem RsX.at_ (h : RsX w base X v ps) : RsAt w base v ps := ⟨h.own, fun p hp => by
  obtain ⟨lo, hi, h1, h2, h3, h4⟩ := h.win p hp
  exact ⟨lo, hi, h1, h2, fun g e => h3 g (.inl e), h4⟩⟩
theorem RsX.nil (w : World) (base : Nat) (X : Nat → Prop) : RsX w base X (.slice none 0 0) [] := ⟨World.ownsRow_nil w base _ 6, (fun g e => by cases e), (fun p hp => by cases hp)⟩
theorem WinX.keep {x : Value} {hs : List Hd} {r : Option Nat} (h : WinX w base X v x hs) (gr : w.grownBy w' r) (hr : ∀ g, r = some g → g < base ∨ v.ownBlock = some g ∨ X g) : WinX w' base X v x hs := by
  obtain ⟨lo, hi, h1, h2, h3, h4⟩ := h
  refine ⟨lo, hi, h1, Nat.le_trans h2 gr.size, h3, h4.keep fun g hl hh => gr.block g (by omega) (fun e => ?_)⟩
  rcases hr g e.symm with h | h
  · omega
  · have := h3 g h; omega
theorem RsX.keep {r : Option Nat} (h : RsX w base X v ps) (gr : w.grownBy w' r) (hr : ∀ g, r = some g → g < base ∨ X g) : RsX w' base X v ps := by
  refine ⟨World.ownsRow.kept h.own gr ?_, h.row, fun p hp => (h.win p hp).keep gr (fun g e => (hr g e).imp id .inr)⟩
  by_cases hv : v.ownBlock = none
  · exact .inl hv
  · obtain ⟨g, hg⟩ := Option.ne_none_iff_exists'.1 hv
    right
    intro e
    have := (World.ownsRow.lt h.own g hg).1
    rcases hr g (by rw [← e]; exact hg) with h1 | h1
    · omega
    · exact h.row g hg h1
theorem RsX.drew (h : RsX w base X v ps) : RsX w.drew base X v ps := ⟨World.ownsRow.drew h.own, h.row, h.win⟩
/-- One record without Heads more. -/
theorem RsX.push {w3 : World} {r : Rec} {v' : Value} {o : Obj} (h : RsX w base X v ps) (hbase : base ≤ w.heap.size) (hX : ∀ g, X g → g < w.heap.size) (hr : r.heads = []) (g3 : (w.alloc o).grownBy w3 v.ownBlock)
    (own : w3.ownsRow base 36 6 v' (ps.length + 1) (rcells ps ++ (recArr r (.slice none 0 0)).toList)) (at_ : ∀ g, v'.ownBlock = some g → v.ownBlock = some g ∨ w.heap.size ≤ g) : RsX w3 base X v' (ps ++ [(r, .slice none 0 0)]) := by
  have hg3 := g3.size
  rw [hsz] at hg3
  refine ⟨by rw [rcells_app, List.length_append]; simpa [rcells] using own, fun g e hx => ?_, fun p hp => ?_⟩
  · rcases at_ g e with h1 | h1
    · exact h.row g h1 hx
    · have := hX g hx; omega
  rcases List.mem_append.1 hp with hp | hp
  · obtain ⟨lo, hi, h1, h2, h3, h4⟩ := h.win p hp
    refine ⟨lo, hi, h1, by omega, fun g e => ?_, h4.keep fun g hl hh => ?_⟩
    · rcases e with e | e
      · rcases at_ g e with h | h
        · exact h3 g (.inl h)
        · exact .inr (by omega)
      · exact h3 g (.inr e)
    · rw [g3.block g (by rw [hsz]; omega) (fun e => by have := h3 g (.inl e.symm); omega)]
      exact heap_alloc_old _ _ (by omega)
  · simp only [List.mem_singleton] at hp
    subst hp
    refine ⟨base, base, Nat.le_refl _, by omega, fun g e => by omega, ?_⟩
    show Heads _ _ _ _ r.heads
    rw [hr]
    exact ⟨by simp, none, 0, rfl, .inl rfl⟩
theorem rcells_set : ∀ (ps : List (Rec × Value)) (i j : Nat) (x : Value) (p' : Rec × Value), i < ps.length → j < 6 → recArr p'.1 p'.2 = (recArr (ps.getD i default).1 (ps.getD i default).2).setIfInBounds j x → (rcells ps).set (i * 6 + j) x = rcells (ps.set i p')
  | [], i, j, x, p', hi, _, _ => by simp at hi
  | p :: t, 0, j, x, p', _, hj, he => by
    have he' : recArr p'.1 p'.2 = (recArr p.1 p.2).setIfInBounds j x := he
    show ((recArr p.1 p.2).toList ++ rcells t).set (0 * 6 + j) x = (recArr p'.1 p'.2).toList ++ rcells t
    rw [he', Nat.zero_mul, Nat.zero_add, List.set_append_left _ _ (by show j < 6; exact hj), Array.toList_setIfInBounds]
  | p :: t, i + 1, j, x, p', hi, hj, he => by
    have := rcells_set t i j x p' (by simpa using hi) hj he
    show ((recArr p.1 p.2).toList ++ rcells t).set ((i + 1) * 6 + j) x = (recArr p.1 p.2).toList ++ rcells (t.set i p')
    rw [List.set_append_right _ _ (by show 6 ≤ _; omega), ← this]
    show _ ++ (rcells t).set ((i + 1) * 6 + j - 6) x = _
    rw [show (i + 1) * 6 + j - 6 = i * 6 + j by omega]
/-- One cell of one record is written; its Heads stay, or are new and apart. -/
theorem RsX.put {g k cap : Nat} (h : RsX w base X (.slice (some ⟨g, 0, none⟩) ps.length cap) ps) (i j : Nat) (x : Value) (p' : Rec × Value) (hi : i < ps.length) (hj : j < 6) (he : recArr p'.1 p'.2 = (recArr (ps.getD i default).1 (ps.getD i default).2).setIfInBounds j x)
    (hw : WinX w base X (.slice (some ⟨g, 0, none⟩) ps.length cap) p'.2 p'.1.heads) : RsX (w.setCell ⟨g, i * 6 + j, none⟩ x) base X (.slice (some ⟨g, 0, none⟩) ps.length cap) (ps.set i p') := by
  have gr : w.grownBy (w.setCell ⟨g, i * 6 + j, none⟩ x) (some g) := ⟨rfl, rfl, rfl, by simp, fun k _ hk => heap_setCell_other w ⟨g, i * 6 + j, none⟩ k x (fun e => hk (by simp [e]))⟩
  refine ⟨?_, h.row, fun p hp => ?_⟩
  · rw [List.length_set, ← rcells_set ps i j x p' hi hj he]
    exact (World.ownsRow.stored h.own (i * 6 + j) x).1
  · refine WinX.keep ?_ gr (fun g' e => .inr (.inl (by cases e; rfl)))
    rcases List.mem_or_eq_of_mem_set hp with hp | hp
    · exact h.win p hp
    · rw [hp]; exact hw
end
end Go.Proofs.Ytdnbcfochlfopaa.RsX
namespace Go.Proofs.Ytdnbcfochlfopaa.DrawF
set_option maxRecDepth 8000
open Go.RowKit
open Draw (Cur Lft Bytes)
open Recs (hsz Hd Rec Bat Heads recVal RecAt BatAt batVal)
open BatW (batArr batArr_one info40)
open RsO (RsAt rs)
open RsX (RsX)
open DrawE (nums infoR)
set_option linter.unusedVariables false

def lenAt6 (w : World) (g : Nat) : Nat := match w.cell? ⟨g, 6, none⟩ with | some (.slice _ k _) => k | _ => 0
theorem lenAt6_of {w : World} {g k c : Nat} {A : Option Addr} (h : w.cell? ⟨g, 6, none⟩ = some (.slice A k c)) : lenAt6 w g = k := by unfold lenAt6; rw [h]
theorem more {w : World} {base : Nat} {Y X : Nat → Prop} {v : Value} {ps : List (Rec × Value)} (h : RsX w base Y v ps) (hX : ∀ g, X g → Y g ∨ w.heap.size ≤ g) : RsX w base X v ps := by
  refine ⟨h.own, fun g e hx => ?_, fun p hp => ?_⟩
  · have := (World.ownsRow.lt h.own g e).2
    rcases hX g hx with y | y
    · exact h.row g e y
    · omega
  · obtain ⟨lo, hi, h1, h2, h3, h4⟩ := h.win p hp
    exact ⟨lo, hi, h1, h2, fun g e => e.elim (fun e => h3 g (.inl e)) (fun hx => (hX g hx).elim (fun y => h3 g (.inr y)) (fun y => .inr (Nat.le_trans h2 y))), h4⟩
/-- The batch that is being bent lies in block w.heap.size, the answer in the next one; the blocks Y are kept. -/
structure DT (Y : Nat → Prop) (w0 w wr : World) (base b : Nat) (A : Option Addr) (n c : Nat) (t : Bat) (rv : Value) (ps : List (Rec × Value)) : Prop where
  z : ∃ o, wr.heap[w.heap.size + 1]? = some (.cells o 26 (0, 0)) ∧ o.size = 7
  blk : wr.heap[w.heap.size]? = some (.cells (batArr t rv) 26 (0, 0))
  hs : RsX wr base (fun g => g = w.heap.size ∨ g = w.heap.size + 1 ∨ Y g) rv ps
  lft : Lft w0 wr b A n c
  kY : ∀ g, Y g → wr.heap[g]? = w.heap[g]?
/-- What does not change. -/
structure Fix (Y : Nat → Prop) (w0 w : World) (base b : Nat) (A : Option Addr) (n c : Nat) : Prop where
  cur : Cur w0 b A n c
  lo : w0.heap.size < base
  hi : base ≤ w.heap.size
  hY : ∀ g, Y g → w0.heap.size ≤ g ∧ g < w.heap.size
section
variable {Y : Nat → Prop} {w0 w wr w2 : World} {base b : Nat} {A : Option Addr} {n c : Nat} {t : Bat} {rv : Value} {ps : List (Rec × Value)}
theorem DT.lt (h : DT Y w0 w wr base b A n c t rv ps) : w.heap.size + 1 < wr.heap.size := by
  obtain ⟨o, h1, _⟩ := h.z
  exact (Array.getElem?_eq_some_iff.1 h1).1
theorem DT.lft2 (h0 : Fix Y w0 w base b A n c) (h : DT Y w0 w wr base b A n c t rv ps) (L : Lft wr w2 b A n c) : DT Y w0 w w2 base b A n c t rv ps := by
  have hb := h0.cur.lt
  have h1 := h0.lo
  have h2 := h0.hi
  have hl := h.lt
  obtain ⟨o, k1, k2⟩ := h.z
  exact ⟨⟨o, (L.grown.block _ hl (by intro e; cases e; omega)).trans k1, k2⟩, (L.grown.block _ (by omega) (by intro e; cases e; omega)).trans h.blk, h.hs.keep L.grown (fun g e => by cases e; exact .inl (by omega)), h.lft.trans L, fun g y => (L.grown.block g (by have := h0.hY g y; omega) (fun e => by cases e; have := h0.hY _ y; omega)).trans (h.kY g y)⟩
theorem DT.alloc (h0 : Fix Y w0 w base b A n c) (h : DT Y w0 w wr base b A n c t rv ps) (o : Obj) : DT Y w0 w (wr.alloc o) base b A n c t rv ps :=
  h.lft2 h0 ⟨h.lft.cur.alloc o, World.grownBy_alloc wr o (some b)⟩
theorem DT.drew (h : DT Y w0 w wr base b A n c t rv ps) : DT Y w0 w wr.drew base b A n c t rv ps := ⟨h.z, h.blk, h.hs.drew, ⟨h.lft.cur.drew, Draw.grown_drew h.lft.grown⟩, h.kY⟩
theorem DT.set (h0 : Fix Y w0 w base b A n c) (h : DT Y w0 w wr base b A n c t rv ps) (j : Nat) (v : Value) (t' : Bat) (he : (batArr t rv).setIfInBounds j v = batArr t' rv) : DT Y w0 w (wr.setCell ⟨w.heap.size, j, none⟩ v) base b A n c t' rv ps := by
  have h1 := h0.lo
  have h2 := h0.hi
  have hl := h.lt
  have gr := DrawD.grown_cell wr w.heap.size j v
  obtain ⟨o, k1, k2⟩ := h.z
  refine ⟨⟨o, (gr.block _ hl (by simp)).trans k1, k2⟩, ?_, h.hs.keep gr (fun g e => by cases e; exact .inr (.inl rfl)), DrawB.Lft.above h0.cur h.lft gr (fun k e => by cases e; omega), fun g y => (gr.block g (by have := h0.hY g y; omega) (fun e => by cases e; have := h0.hY _ y; omega)).trans (h.kY g y)⟩
  rw [heap_setCell_same wr w.heap.size j _ _ v h.blk, he]
/-- Its records are no more. -/
theorem DT.bare (h0 : Fix Y w0 w base b A n c) (h : DT Y w0 w wr base b A n c t rv ps) : DT Y w0 w (wr.setCell ⟨w.heap.size, 6, none⟩ (.slice none 0 0)) base b A n c t (.slice none 0 0) [] := by
  have h1 := h0.lo
  have h2 := h0.hi
  have hl := h.lt
  have gr := DrawD.grown_cell wr w.heap.size 6 (.slice none 0 0)
  obtain ⟨o, k1, k2⟩ := h.z
  refine ⟨⟨o, (gr.block _ hl (by simp)).trans k1, k2⟩, ?_, RsX.RsX.nil _ _ _, DrawB.Lft.above h0.cur h.lft gr (fun k e => by cases e; omega), fun g y => (gr.block g (by have := h0.hY g y; omega) (fun e => by cases e; have := h0.hY _ y; omega)).trans (h.kY g y)⟩
  rw [heap_setCell_same wr w.heap.size 6 _ _ _ h.blk]
  rfl
theorem DT.cell (h : DT Y w0 w wr base b A n c t rv ps) (j : Nat) (v : Value) (hj : (batArr t rv)[j]? = some v) : wr.cell? ⟨w.heap.size, j, none⟩ = some v := by
  rw [cell_of_row wr w.heap.size j _ _ _ h.blk, hj]
theorem DT.free (h : DT Y w0 w wr base b A n c t rv ps) (j : Nat) : wr.frozen? ⟨w.heap.size, j, none⟩ = false := frozen_of_row wr w.heap.size j _ _ h.blk
theorem DT.blocks (h : DT Y w0 w wr base b A n c t rv ps) {o : Obj} {w' : World} (gr : (wr.alloc o).grownBy w' rv.ownBlock) : w'.heap[w.heap.size]? = wr.heap[w.heap.size]? ∧ w'.heap[w.heap.size + 1]? = wr.heap[w.heap.size + 1]? := by
  have hl := h.lt
  exact ⟨(gr.block _ (by rw [hsz]; omega) (fun e => h.hs.row _ e.symm (.inl rfl))).trans (heap_alloc_old _ _ (by omega)), (gr.block _ (by rw [hsz]; omega) (fun e => h.hs.row _ e.symm (.inr (.inl rfl)))).trans (heap_alloc_old _ _ (by omega))⟩
theorem DT.push6 (h : DT Y w0 w wr base b A n c t rv ps) {o : Obj} {w' : World} (gr : (wr.alloc o).grownBy w' rv.ownBlock) : w'.cell? ⟨w.heap.size, 6, none⟩ = some rv ∧ w'.frozen? ⟨w.heap.size, 6, none⟩ = false := by
  have := (h.blocks gr).1.trans h.blk
  exact ⟨by rw [cell_of_row _ _ 6 _ _ _ this]; rfl, frozen_of_row _ _ 6 _ _ this⟩
theorem DT.pushed (h0 : Fix Y w0 w base b A n c) (h : DT Y w0 w wr base b A n c t rv ps) {r : Rec} (hr : r.heads = []) {o : Obj} {w' : World} (gr : (wr.alloc o).grownBy w' rv.ownBlock) {v' : Value}
    (ho : w'.ownsRow base 36 6 v' (ps.length + 1) (RsO.rcells ps ++ (RecW.recArr r (.slice none 0 0)).toList)) (at_ : ∀ g, v'.ownBlock = some g → rv.ownBlock = some g ∨ wr.heap.size ≤ g) :
    DT Y w0 w (w'.setCell ⟨w.heap.size, 6, none⟩ v') base b A n c t v' (ps ++ [(r, .slice none 0 0)]) := by
  have h1 := h0.lo
  have h2 := h0.hi
  have hl := h.lt
  have hb := h.blocks gr
  have g6 := DrawD.grown_cell w' w.heap.size 6 v'
  obtain ⟨z, k1, k2⟩ := h.z
  refine ⟨⟨z, ?_, k2⟩, ?_, ?_, ?_, fun g y => ?_⟩
  · rw [heap_setCell_other _ _ _ _ (by simp), hb.2, k1]
  · rw [heap_setCell_same w' w.heap.size 6 _ _ v' (hb.1.trans h.blk)]; rfl
  · exact (h.hs.push (by omega) (fun g e => e.elim (fun e => by omega) (fun e => e.elim (fun e => by omega) (fun e => by have := h0.hY g e; omega))) hr gr ho at_).keep g6 (fun g e => by cases e; exact .inr (.inl rfl))
  · exact DrawB.Lft.above h0.cur (DrawB.Lft.above h0.cur (DrawB.Lft.above h0.cur h.lft (World.grownBy_alloc wr o none) (fun k e => by cases e)) gr (fun k e => by have := (World.ownsRow.lt h.hs.own k e).1; omega)) g6 (fun k e => by cases e; omega)
  · have := h0.hY g y
    rw [heap_setCell_other _ _ _ _ (by show g ≠ w.heap.size; omega), gr.block g (by rw [hsz]; omega) (fun e => h.hs.row _ e.symm (.inr (.inr y))), heap_alloc_old _ _ (by omega)]
    exact h.kY g y
/-- One cell of one record is written. -/
theorem DT.put (h0 : Fix Y w0 w base b A n c) {g cap : Nat} (h : DT Y w0 w wr base b A n c t (.slice (some ⟨g, 0, none⟩) ps.length cap) ps) (i j : Nat) (x : Value) (p' : Rec × Value) (hi : i < ps.length) (hj : j < 6) (he : RecW.recArr p'.1 p'.2 = (RecW.recArr (ps.getD i default).1 (ps.getD i default).2).setIfInBounds j x)
    (hw : RsX.WinX wr base (fun g => g = w.heap.size ∨ g = w.heap.size + 1 ∨ Y g) (.slice (some ⟨g, 0, none⟩) ps.length cap) p'.2 p'.1.heads) : DT Y w0 w (wr.setCell ⟨g, i * 6 + j, none⟩ x) base b A n c t (.slice (some ⟨g, 0, none⟩) ps.length cap) (ps.set i p') := by
  have h1 := h0.lo
  have h2 := h0.hi
  have gr := DrawD.grown_cell wr g (i * 6 + j) x
  have hne := h.hs.row g rfl
  have hgb := (World.ownsRow.lt h.hs.own g rfl).1
  obtain ⟨z, k1, k2⟩ := h.z
  refine ⟨⟨z, ?_, k2⟩, ?_, h.hs.put (k := 0) i j x p' hi hj he hw, DrawB.Lft.above h0.cur h.lft gr (fun k e => by cases e; omega), fun q y => (heap_setCell_other _ _ _ _ (by show q ≠ g; intro e; subst e; exact hne (.inr (.inr y)))).trans (h.kY q y)⟩
  · rw [heap_setCell_other _ _ _ _ (by show _ ≠ g; intro e; exact hne (.inr (.inl e.symm))), k1]
  · rw [heap_setCell_other _ _ _ _ (by show _ ≠ g; intro e; exact hne (.inl e.symm)), h.blk]
theorem DT.row {g cap : Nat} (h : DT Y w0 w wr base b A n c t (.slice (some ⟨g, 0, none⟩) ps.length cap) ps) (i j : Nat) (hi : i < ps.length) (hj : j < 6) : ∃ v, wr.cell? ⟨g, i * 6 + j, none⟩ = some v ∧ wr.frozen? ⟨g, i * 6 + j, none⟩ = false :=
  ⟨_, (World.ownsRow.cellAt h.hs.own (i * 6 + j) (by omega)).trans (RsO.rcells_get ps i j hi hj), World.ownsRow.frozenAt h.hs.own _⟩
theorem DT.win (h : DT Y w0 w wr base b A n c t rv ps) (i : Nat) (hi : i < ps.length) : RsX.WinX wr base (fun g => g = w.heap.size ∨ g = w.heap.size + 1 ∨ Y g) rv (ps.getD i default).2 (ps.getD i default).1.heads := h.hs.win _ (by simp [hi])
/-- A row of one Head that is new. -/
theorem DT.newHead (h0 : Fix Y w0 w base b A n c) (h : DT Y w0 w wr base b A n c t rv ps) (x : Hd) : RsX.WinX (wr.alloc (.cells #[.string x.key, .string x.val] 100)) base (fun g => g = w.heap.size ∨ g = w.heap.size + 1 ∨ Y g) rv (.slice (some ⟨wr.heap.size, 0, none⟩) 1 1) [x] := by
  have h1 := h0.lo
  have h2 := h0.hi
  have hl := h.lt
  refine ⟨wr.heap.size, wr.heap.size + 1, by omega, by rw [hsz]; exact Nat.le_refl _, fun g e => ?_, ⟨by simp, _, _, rfl, .inr ⟨wr.heap.size, 0, rfl, by omega, Nat.le_refl _, fun i hi j hj => ?_, Nat.le_refl _⟩⟩⟩
  · rcases e with e | e | e | e
    · exact .inl (World.ownsRow.lt h.hs.own g e).2
    · omega
    · omega
    · have := h0.hY g e
      omega
  · have hi0 : i = 0 := by simpa using hi
    subst hi0
    rw [cell_of_row _ wr.heap.size _ _ _ _ (heap_alloc_new wr _)]
    match j, hj with
    | 0, _ => rfl
    | 1, _ => rfl
structure Dn (Y : Nat → Prop) (w0 w wr : World) (base b : Nat) (A : Option Addr) (n c : Nat) (t : Bat) (rv : Value) (ps : List (Rec × Value)) : Prop where
  th : wr.there (w.heap.size + 1) 0 (batArr t rv).size
  at_ : (wr.setCells (w.heap.size + 1) 0 (batArr t rv).toList).heap[w.heap.size + 1]? = some (.cells (batArr t rv) 26 (0, 0))
  rc : RsX (wr.setCells (w.heap.size + 1) 0 (batArr t rv).toList) base Y rv ps
  sz : base ≤ (wr.setCells (w.heap.size + 1) 0 (batArr t rv).toList).heap.size
  lft : Lft w0 (wr.setCells (w.heap.size + 1) 0 (batArr t rv).toList) b A n c
  kY : ∀ g, Y g → (wr.setCells (w.heap.size + 1) 0 (batArr t rv).toList).heap[g]? = w.heap[g]?
theorem DT.done (h0 : Fix Y w0 w base b A n c) (h : DT Y w0 w wr base b A n c t rv ps) : Dn Y w0 w wr base b A n c t rv ps := by
  have h1 := h0.lo
  have h2 := h0.hi
  have hl := h.lt
  obtain ⟨o, k1, k2⟩ := h.z
  have gr := DrawD.grown_cells (w.heap.size + 1) (batArr t rv).toList 0 wr
  refine ⟨?_, Cells.whole k1 k2, more (h.hs.keep gr (fun g e => by cases e; exact .inr (.inr (.inl rfl)))) (fun g y => .inl (.inr (.inr y))), Nat.le_trans (by omega) gr.size, DrawB.Lft.above h0.cur h.lft gr (fun k e => by cases e; omega), fun g y => (gr.block g (by have := h0.hY g y; omega) (fun e => by cases e; have := h0.hY _ y; omega)).trans (h.kY g y)⟩
  have := Cells.there_of k1
  rw [k2] at this
  exact this
end

set_option maxHeartbeats 16000000 in
theorem bent_any (Y : Nat → Prop) (w0 : World) (b : Nat) (A : Option Addr) (n c : Nat) (t0 : Bat) (rv : Value) (base : Nat) (ps0 : List (Rec × Value)) (w : World) (h0 : Cur w0 b A n c) (hL : Lft w0 w b A n c) (hb : w0.heap.size < base) (hbw : base ≤ w.heap.size) (hY : ∀ g, Y g → w0.heap.size ≤ g ∧ g < w.heap.size) (hr : RsX w base Y rv ps0) (hp1 : 1 ≤ ps0.length) (hp2 : ps0.length ≤ 1000) :
    Calls Try.prog 67 #[.pointer (some ⟨b, 0, none⟩), batVal t0 rv] w fun e w' => ∃ (t : Bat) (rv : Value) (ps : List (Rec × Value)), e = .returned (batVal t rv) ∧ base ≤ w'.heap.size ∧ RsX w' base Y rv ps ∧ ps.length ≤ 1000 ∧ Lft w0 w' b A n c ∧ ∀ g, Y g → w'.heap[g]? = w.heap[g]? := by
  obtain ⟨i0, hi, hz0, hz1, hz2⟩ := info_parts infoR
  have HF : Hid (Fix Y w0 w base b A n c) := ⟨h0, hb, hbw, hY⟩
  have hbl := h0.lt
  obtain ⟨A1, c1, rfl⟩ := hr.at_.form
  have D0 : Hid (DT Y w0 w ((w.alloc (.cells #[.int .i64 t0.base, .int .i64 t0.epoch, .int .i64 t0.producer, .int .i64 t0.turn, .int .i64 t0.seq, .int .i64 t0.flags, .slice A1 ps0.length c1] 26)).alloc (.cells #[.int .i64 0, .int .i64 0, .int .i64 0, .int .i64 0, .int .i64 0, .int .i64 0, .slice none 0 0] 26)) base b A n c t0 (.slice A1 ps0.length c1) ps0) := by
    have g2 : w.grownBy ((w.alloc (.cells #[.int .i64 t0.base, .int .i64 t0.epoch, .int .i64 t0.producer, .int .i64 t0.turn, .int .i64 t0.seq, .int .i64 t0.flags, .slice A1 ps0.length c1] 26)).alloc (.cells #[.int .i64 0, .int .i64 0, .int .i64 0, .int .i64 0, .int .i64 0, .int .i64 0, .slice none 0 0] 26)) (some b) := (World.grownBy_alloc _ _ _).trans (World.grownBy_alloc _ _ _)
    refine ⟨⟨#[.int .i64 0, .int .i64 0, .int .i64 0, .int .i64 0, .int .i64 0, .int .i64 0, .slice none 0 0], ?_, rfl⟩, ?_, (more hr (fun g e => e.elim (fun e => .inr (by omega)) (fun e => e.elim (fun e => .inr (by omega)) .inl))).keep g2 (fun g e => by cases e; exact .inl (by omega)), hL.trans ⟨(hL.cur.alloc _).alloc _, g2⟩, fun g y => g2.block g (hY g y).2 (fun e => by cases e; have := (hY _ y).1; omega)⟩
    · have := heap_alloc_new (w.alloc (.cells #[.int .i64 t0.base, .int .i64 t0.epoch, .int .i64 t0.producer, .int .i64 t0.turn, .int .i64 t0.seq, .int .i64 t0.flags, .slice A1 ps0.length c1] 26)) (.cells #[.int .i64 0, .int .i64 0, .int .i64 0, .int .i64 0, .int .i64 0, .int .i64 0, .slice none 0 0] 26)
      rw [hsz] at this
      exact this
    · rw [heap_alloc_old _ _ (by rw [hsz]; omega), heap_alloc_new]
      rfl
  clear h0 hL hr hY
  unfold batVal
  go_enter Try.func67, Try.ntmps67
  go_wp2_with fail
  refine (Draw.below_any b A n c ps0.length _ D0.out.lft.cur (by omega) (by omega)).mono ?_
  rintro e w1 ⟨⟨i1, hi1, hi2, rfl⟩, L1⟩
  obtain ⟨i, rfl⟩ := Int.eq_ofNat_of_zero_le hi1
  have D1 := Seg.hid (D0.out.lft2 HF.out L1)
  clear D0 L1
  go_wp2_with fail
  rename_i Q' K4 a4 K3 a3 K0 a0
  have J : ∀ (x5 x6 x7 x8 x9 x10 x11 x12 x13 x14 x15 x16 x17 x18 x19 x20 x21 x22 x23 x24 x25 x26 x27 x28 x29 x30 x31 x32 x33 x34 x35 x36 x37 x38 x39 x40 x41 x42 x43 x44 x45 x46 x47 x48 x49 x50 x51 x52 x53 x54 x55 x56 x57 x58 x59 x60 x61 x62 x63 x64 x65 x66 x67 x68 x69 x70 x71 x72 x73 x74 x75 x76 x77 x78 x79 x80 x81 x82 x83 x84 x85 x86 x87 x88 x89 x90 x91 x92 x93 x94 x95 x96 x97 x98 x99 x100 x101 x102 x103 x104 x105 : Value) (t : Bat) (rv : Value) (ps : List (Rec × Value)) (wr : World), ps.length ≤ 1000 → Hid (DT Y w0 w wr base b A n c t rv ps) → K4 ⟨List.toArray (.pointer (some ⟨b, 0, none⟩) :: .agg #[.int .i64 t0.base, .int .i64 t0.epoch, .int .i64 t0.producer, .int .i64 t0.turn, .int .i64 t0.seq, .int .i64 t0.flags, .slice A1 ps0.length c1] :: undef :: .pointer (some ⟨w.heap.size, 0, none⟩) :: .pointer (some ⟨w.heap.size + 1, 0, none⟩) :: x5 :: x6 :: x7 :: x8 :: x9 :: x10 :: x11 :: x12 :: x13 :: x14 :: x15 :: x16 :: x17 :: x18 :: x19 :: x20 :: x21 :: x22 :: x23 :: x24 :: x25 :: x26 :: x27 :: x28 :: x29 :: x30 :: x31 :: x32 :: x33 :: x34 :: x35 :: x36 :: x37 :: x38 :: x39 :: x40 :: x41 :: x42 :: x43 :: x44 :: x45 :: x46 :: x47 :: x48 :: x49 :: x50 :: x51 :: x52 :: x53 :: x54 :: x55 :: x56 :: x57 :: x58 :: x59 :: x60 :: x61 :: x62 :: x63 :: x64 :: x65 :: x66 :: x67 :: x68 :: x69 :: x70 :: x71 :: x72 :: x73 :: x74 :: x75 :: x76 :: x77 :: x78 :: x79 :: x80 :: x81 :: x82 :: x83 :: x84 :: x85 :: x86 :: x87 :: x88 :: x89 :: x90 :: x91 :: x92 :: x93 :: x94 :: x95 :: x96 :: x97 :: x98 :: x99 :: x100 :: x101 :: x102 :: x103 :: x104 :: x105 :: undef :: []), []⟩ wr := by
    clear a0 a3 K0 K3 D1
    intro x5 x6 x7 x8 x9 x10 x11 x12 x13 x14 x15 x16 x17 x18 x19 x20 x21 x22 x23 x24 x25 x26 x27 x28 x29 x30 x31 x32 x33 x34 x35 x36 x37 x38 x39 x40 x41 x42 x43 x44 x45 x46 x47 x48 x49 x50 x51 x52 x53 x54 x55 x56 x57 x58 x59 x60 x61 x62 x63 x64 x65 x66 x67 x68 x69 x70 x71 x72 x73 x74 x75 x76 x77 x78 x79 x80 x81 x82 x83 x84 x85 x86 x87 x88 x89 x90 x91 x92 x93 x94 x95 x96 x97 x98 x99 x100 x101 x102 x103 x104 x105 t rv ps wr hps D1
    refine a4 _ _ ?_
    clear a4 K4
    have FM := Seg.hid D1.out.hs.at_.form
    have DN := Seg.hid (D1.out.done HF.out)
    have H3 := Seg.hid D1.out.blk
    clear D1
    obtain ⟨A2, c2, rfl⟩ := FM.out
    go_wp2_with (first | (refine wpList_load_row rfl 26 _ rfl w.heap.size rfl _ _ _ _ H3.out Try.underlying26 rfl info40 ?_) | (refine wpList_store_mid rfl 26 _ _ rfl (w.heap.size + 1) 0 (batArr t (.slice A2 ps.length c2)) rfl rfl DN.out.th info40 (batArr_one _ _ rfl) ?_))
    exact bodyPost_ret (v := batVal t (.slice A2 ps.length c2)) (results_cell_row rfl _ _ (w.heap.size + 1) _ _ _ _ rfl DN.out.at_ Try.underlying26 rfl info40) rfl ⟨t, _, ps, rfl, DN.out.sz, DN.out.rc, hps, DN.out.lft, DN.out.kY⟩
  clear a4
  refine (Draw.below_any b A n c 12 _ D1.out.lft.cur (by decide) (by decide)).mono ?_
  rintro e w2 ⟨⟨x, hx1, hx2, rfl⟩, L2⟩
  have D2 := Seg.hid (D1.out.lft2 HF.out L2)
  clear D1 L2
  have hx : x = 0 ∨ x = 1 ∨ x = 2 ∨ x = 3 ∨ x = 4 ∨ x = 5 ∨ x = 6 ∨ x = 7 ∨ x = 8 ∨ x = 9 ∨ x = 10 ∨ x = 11 := by omega
  clear hx1 hx2
  rcases hx with hx | hx | hx | hx | hx | hx | hx | hx | hx | hx | hx | hx
  · subst hx
    go_wp2_with fail
    refine (Draw.pickInt_any b A n c w2.heap.size 3 (fun i => ([(-1), 1000000000, 1000000001] : List Int).getD i 0) _ (D2.out.alloc HF.out _).lft.cur (by decide) (by decide) (by rw [hsz]; omega) (by have := D2.out.lt; omega) (fun i hi => nums _ [(-1), 1000000000, 1000000001] _ _ i rfl hi)).mono ?_
    rintro e w3 ⟨⟨i3, hi3, rfl⟩, L3⟩
    have D3 := Seg.hid ((D2.out.alloc HF.out _).lft2 HF.out L3)
    generalize ([(-1), 1000000000, 1000000001] : List Int).getD i3 0 = y
    have d1 := D3.out.free 0
    have d2 := D3.out.cell 0 _ rfl
    have D4 := Seg.hid (D3.out.set HF.out 0 (.int .i64 y) ⟨y, t0.epoch, t0.producer, t0.turn, t0.seq, t0.flags, t0.recs⟩ rfl)
    clear D2 D3 L3 hi3
    go_wp2_with fail
    exact J _ _ _ _ _ _ _ _ _ _ _ _ _ _ _ _ _ _ _ _ _ _ _ _ _ _ _ _ _ _ _ _ _ _ _ _ _ _ _ _ _ _ _ _ _ _ _ _ _ _ _ _ _ _ _ _ _ _ _ _ _ _ _ _ _ _ _ _ _ _ _ _ _ _ _ _ _ _ _ _ _ _ _ _ _ _ _ _ _ _ _ _ _ _ _ _ _ _ _ _ _ _ _ _ _ hp2 D4
  · subst hx
    go_wp2_with fail
    refine (Draw.pickInt_any b A n c w2.heap.size 3 (fun i => ([(-1), 1000000, 1000001] : List Int).getD i 0) _ (D2.out.alloc HF.out _).lft.cur (by decide) (by decide) (by rw [hsz]; omega) (by have := D2.out.lt; omega) (fun i hi => nums _ [(-1), 1000000, 1000001] _ _ i rfl hi)).mono ?_
    rintro e w3 ⟨⟨i3, hi3, rfl⟩, L3⟩
    have D3 := Seg.hid ((D2.out.alloc HF.out _).lft2 HF.out L3)
    generalize ([(-1), 1000000, 1000001] : List Int).getD i3 0 = y
    have d1 := D3.out.free 1
    have d2 := D3.out.cell 1 _ rfl
    have D4 := Seg.hid (D3.out.set HF.out 1 (.int .i64 y) ⟨t0.base, y, t0.producer, t0.turn, t0.seq, t0.flags, t0.recs⟩ rfl)
    clear D2 D3 L3 hi3
    go_wp2_with fail
    exact J _ _ _ _ _ _ _ _ _ _ _ _ _ _ _ _ _ _ _ _ _ _ _ _ _ _ _ _ _ _ _ _ _ _ _ _ _ _ _ _ _ _ _ _ _ _ _ _ _ _ _ _ _ _ _ _ _ _ _ _ _ _ _ _ _ _ _ _ _ _ _ _ _ _ _ _ _ _ _ _ _ _ _ _ _ _ _ _ _ _ _ _ _ _ _ _ _ _ _ _ _ _ _ _ _ hp2 D4
  · subst hx
    go_wp2_with fail
    refine (Draw.pickInt_any b A n c w2.heap.size 5 (fun i => ([(-2), (-1), 0, 1000000000, 1000000001] : List Int).getD i 0) _ (D2.out.alloc HF.out _).lft.cur (by decide) (by decide) (by rw [hsz]; omega) (by have := D2.out.lt; omega) (fun i hi => nums _ [(-2), (-1), 0, 1000000000, 1000000001] _ _ i rfl hi)).mono ?_
    rintro e w3 ⟨⟨i3, hi3, rfl⟩, L3⟩
    have D3 := Seg.hid ((D2.out.alloc HF.out _).lft2 HF.out L3)
    generalize ([(-2), (-1), 0, 1000000000, 1000000001] : List Int).getD i3 0 = y
    have d1 := D3.out.free 2
    have d2 := D3.out.cell 2 _ rfl
    have D4 := Seg.hid (D3.out.set HF.out 2 (.int .i64 y) ⟨t0.base, t0.epoch, y, t0.turn, t0.seq, t0.flags, t0.recs⟩ rfl)
    clear D2 D3 L3 hi3
    go_wp2_with fail
    exact J _ _ _ _ _ _ _ _ _ _ _ _ _ _ _ _ _ _ _ _ _ _ _ _ _ _ _ _ _ _ _ _ _ _ _ _ _ _ _ _ _ _ _ _ _ _ _ _ _ _ _ _ _ _ _ _ _ _ _ _ _ _ _ _ _ _ _ _ _ _ _ _ _ _ _ _ _ _ _ _ _ _ _ _ _ _ _ _ _ _ _ _ _ _ _ _ _ _ _ _ _ _ _ _ _ hp2 D4
  · subst hx
    go_wp2_with fail
    refine (Draw.pickInt_any b A n c w2.heap.size 4 (fun i => ([(-1), 0, 1000, 1001] : List Int).getD i 0) _ (D2.out.alloc HF.out _).lft.cur (by decide) (by decide) (by rw [hsz]; omega) (by have := D2.out.lt; omega) (fun i hi => nums _ [(-1), 0, 1000, 1001] _ _ i rfl hi)).mono ?_
    rintro e w3 ⟨⟨i3, hi3, rfl⟩, L3⟩
    have D3 := Seg.hid ((D2.out.alloc HF.out _).lft2 HF.out L3)
    generalize ([(-1), 0, 1000, 1001] : List Int).getD i3 0 = y
    have d1 := D3.out.free 3
    have d2 := D3.out.cell 3 _ rfl
    have D4 := Seg.hid (D3.out.set HF.out 3 (.int .i64 y) ⟨t0.base, t0.epoch, t0.producer, y, t0.seq, t0.flags, t0.recs⟩ rfl)
    clear D2 D3 L3 hi3
    go_wp2_with fail
    exact J _ _ _ _ _ _ _ _ _ _ _ _ _ _ _ _ _ _ _ _ _ _ _ _ _ _ _ _ _ _ _ _ _ _ _ _ _ _ _ _ _ _ _ _ _ _ _ _ _ _ _ _ _ _ _ _ _ _ _ _ _ _ _ _ _ _ _ _ _ _ _ _ _ _ _ _ _ _ _ _ _ _ _ _ _ _ _ _ _ _ _ _ _ _ _ _ _ _ _ _ _ _ _ _ _ hp2 D4
  · subst hx
    go_wp2_with fail
    refine (Draw.pickInt_any b A n c w2.heap.size 3 (fun i => ([(-1), 1, 1000000001] : List Int).getD i 0) _ (D2.out.alloc HF.out _).lft.cur (by decide) (by decide) (by rw [hsz]; omega) (by have := D2.out.lt; omega) (fun i hi => nums _ [(-1), 1, 1000000001] _ _ i rfl hi)).mono ?_
    rintro e w3 ⟨⟨i3, hi3, rfl⟩, L3⟩
    have D3 := Seg.hid ((D2.out.alloc HF.out _).lft2 HF.out L3)
    generalize ([(-1), 1, 1000000001] : List Int).getD i3 0 = y
    have d1 := D3.out.free 4
    have d2 := D3.out.cell 4 _ rfl
    have D4 := Seg.hid (D3.out.set HF.out 4 (.int .i64 y) ⟨t0.base, t0.epoch, t0.producer, t0.turn, y, t0.flags, t0.recs⟩ rfl)
    clear D2 D3 L3 hi3
    go_wp2_with fail
    exact J _ _ _ _ _ _ _ _ _ _ _ _ _ _ _ _ _ _ _ _ _ _ _ _ _ _ _ _ _ _ _ _ _ _ _ _ _ _ _ _ _ _ _ _ _ _ _ _ _ _ _ _ _ _ _ _ _ _ _ _ _ _ _ _ _ _ _ _ _ _ _ _ _ _ _ _ _ _ _ _ _ _ _ _ _ _ _ _ _ _ _ _ _ _ _ _ _ _ _ _ _ _ _ _ _ hp2 D4
  · subst hx
    go_wp2_with fail
    refine (Draw.pickInt_any b A n c w2.heap.size 7 (fun i => ([(-1), 2, 4, 5, 6, 7, 8] : List Int).getD i 0) _ (D2.out.alloc HF.out _).lft.cur (by decide) (by decide) (by rw [hsz]; omega) (by have := D2.out.lt; omega) (fun i hi => nums _ [(-1), 2, 4, 5, 6, 7, 8] _ _ i rfl hi)).mono ?_
    rintro e w3 ⟨⟨i3, hi3, rfl⟩, L3⟩
    have D3 := Seg.hid ((D2.out.alloc HF.out _).lft2 HF.out L3)
    generalize ([(-1), 2, 4, 5, 6, 7, 8] : List Int).getD i3 0 = y
    have d1 := D3.out.free 5
    have d2 := D3.out.cell 5 _ rfl
    have D4 := Seg.hid (D3.out.set HF.out 5 (.int .i64 y) ⟨t0.base, t0.epoch, t0.producer, t0.turn, t0.seq, y, t0.recs⟩ rfl)
    clear D2 D3 L3 hi3
    go_wp2_with fail
    exact J _ _ _ _ _ _ _ _ _ _ _ _ _ _ _ _ _ _ _ _ _ _ _ _ _ _ _ _ _ _ _ _ _ _ _ _ _ _ _ _ _ _ _ _ _ _ _ _ _ _ _ _ _ _ _ _ _ _ _ _ _ _ _ _ _ _ _ _ _ _ _ _ _ _ _ _ _ _ _ _ _ _ _ _ _ _ _ _ _ _ _ _ _ _ _ _ _ _ _ _ _ _ _ _ _ hp2 D4
  · subst hx
    have d1 := D2.out.free 6
    have d2 := D2.out.cell 6 _ rfl
    have D4 := Seg.hid (D2.out.bare HF.out)
    go_wp2_with fail
    exact J _ _ _ _ _ _ _ _ _ _ _ _ _ _ _ _ _ _ _ _ _ _ _ _ _ _ _ _ _ _ _ _ _ _ _ _ _ _ _ _ _ _ _ _ _ _ _ _ _ _ _ _ _ _ _ _ _ _ _ _ _ _ _ _ _ _ _ _ _ _ _ _ _ _ _ _ _ _ _ _ _ _ _ _ _ _ _ _ _ _ _ _ _ _ _ _ _ _ _ _ _ _ _ _ _ (by simp) D4
  · subst hx
    have d6 := D2.out.cell 6 (.slice A1 ps0.length c1) rfl
    go_wp2_with fail
    go_loopw [62] (fun x wr => ∃ (rv : Value) (ps : List (Rec × Value)), ps.length ≤ 1000 ∧ Hid (DT Y w0 w wr base b A n c t0 rv ps)) (fun _ wr => 41 - lenAt6 wr w.heap.size)
    case atStart => exact ⟨_, _, hp2, D2⟩
    case round =>
      clear D2 d6
      obtain ⟨rv, ps, hps, D3⟩ := hrel
      obtain ⟨A2, c2, rfl⟩ := D3.out.hs.at_.form
      have d6 := D3.out.cell 6 (.slice A2 ps.length c2) rfl
      have M3 : Hid (lenAt6 wr w.heap.size = ps.length) := lenAt6_of d6
      go_wp2_with fail
      go_region_law
        ((first | (go_simp; go_at_call 63; refine (Draw.below_any b A n c 2 wr.drew D3.out.drew.lft.cur (by decide) (by decide)).mono ?_; rintro e w4 ⟨⟨y0, hy1, hy2, rfl⟩, L4⟩; have hw40 : IntKind.i64.wrap (40 + y0) = 40 + y0 := (by rw [IntKind.wrap_i64]; omega); have D4 := Seg.hid (D3.out.drew.lft2 HF.out L4); have K5 := D4.out.cell 6 (.slice A2 ps.length c2) rfl; have F5 := D4.out.free 6; clear L4)))
      all_goals
        have hl4 := D4.out.lt
        clear D3 d6
        by_cases hlt : (ps.length : Int) < 40 + y0
        · have e6 : (w4.alloc (.cells #[.int .i64 (ps.length : Int), .bool false, .string ⟨#[]⟩, .bool false, .string ⟨#[]⟩, .slice none 0 0] 36)).cell? ⟨w.heap.size, 6, none⟩ = some (.slice A2 ps.length c2) := (D4.out.alloc HF.out _).cell 6 _ rfl
          go_wp2_with (at_builtin; (refine wpList_append_lies _ rfl (.tmp 70) (.tmp 75) 24 rfl base 36 i0 _ 6 80 Try.underlying24 hi hz0 hz1 hz2 rfl (by decide) (.slice A2 ps.length c2) ps.length (RsO.rcells ps) ?qs ?qo ⟨w4.heap.size, 0, none⟩ 1 1 (RecW.recArr ⟨(ps.length : Int), false, ⟨#[]⟩, false, ⟨#[]⟩, []⟩ (.slice none 0 0)).toList ?qx rfl ?qn ?q1 (by decide) ?qb ?qc ?qd (w4.heap.size + 1) ?qe ?_; (case qs => rfl); (case qo => exact World.ownsRow.alloc D4.out.hs.own _); (case qx => rfl); (case qn => exact World.news_of_block (cs := RecW.recArr ⟨(ps.length : Int), false, ⟨#[]⟩, false, ⟨#[]⟩, []⟩ (.slice none 0 0)) (heap_alloc_new w4 _)); (case q1 => simp [Value.oneCell', RecW.recArr]); (case qb => unfold maxLen; omega); (case qc => omega); (case qd => rw [hsz]; omega); (case qe => exact hsz w4 _); intro g5 cap5 w5 hown5 gr5 hat5 hlt5; have q6 := (D4.out.push6 gr5).1; have p6 := (D4.out.push6 gr5).2; have D5 := Seg.hid (D4.out.pushed HF.out (r := ⟨(ps.length : Int), false, ⟨#[]⟩, false, ⟨#[]⟩, []⟩) rfl gr5 hown5 (fun g e => by cases e; exact hat5.imp id (fun h => by have h' : g5 = w4.heap.size + 1 := h; show w4.heap.size ≤ g5; omega))); clear hown5 gr5 hat5 hlt5 e6 K5 F5))
          go_roundw
          case rel => exact ⟨_, _, by rw [List.length_append]; show ps.length + 1 ≤ 1000; omega, D5⟩
          case measure => rw [lenAt6_of (D5.out.cell 6 _ rfl), M3.out]; omega
        · go_wp2_with fail
          exact J _ _ _ _ _ _ _ _ _ _ _ _ _ _ _ _ _ _ _ _ _ _ _ _ _ _ _ _ _ _ _ _ _ _ _ _ _ _ _ _ _ _ _ _ _ _ _ _ _ _ _ _ _ _ _ _ _ _ _ _ _ _ _ _ _ _ _ _ _ _ _ _ _ _ _ _ _ _ _ _ _ _ _ _ _ _ _ _ _ _ _ _ _ _ _ _ _ _ _ _ _ _ _ _ _ hps D4
  · subst hx
    obtain ⟨g, rfl⟩ : ∃ g, A1 = some ⟨g, 0, none⟩ := by
      rcases D2.out.hs.own.2 with ⟨h1, h2⟩ | ⟨g, cap, cur, h1, _⟩
      · omega
      · cases h1; exact ⟨g, rfl⟩
    have d6 := D2.out.cell 6 (.slice (some ⟨g, 0, none⟩) ps0.length c1) rfl
    have b1 : (0 : Int) ≤ (i : Int) := by omega
    have hiN : i < ps0.length := by omega
    obtain ⟨r0, hr0⟩ : ∃ r, r = (ps0.getD i default).1 := ⟨_, rfl⟩
    go_wp2_with fail
    go_region_law
      ((first | (go_simp; go_at_call 63; refine (Draw.below_any b A n c 2 w2.drew D2.out.drew.lft.cur (by decide) (by decide)).mono ?_; rintro e w3 ⟨⟨y0, hy1, hy2, rfl⟩, L3⟩; obtain ⟨m, hm⟩ : ∃ m : Nat, 100 + y0 = (m : Int) := ⟨(100 + y0).toNat, by omega⟩; have hm2 : m ≤ 102 := (by omega); have hw1 : IntKind.i64.wrap (m : Int) = (m : Int) := (by rw [IntKind.wrap_i64]; omega); have hw2 : IntKind.i64.wrap (100 + y0) = (m : Int) := (by rw [hm]; exact hw1); have D3 := Seg.hid (D2.out.drew.lft2 HF.out L3); have K3 := D3.out.cell 6 (.slice (some ⟨g, 0, none⟩) ps0.length c1) rfl; clear L3 hy1 hy2) | (go_simp; go_at_call 98; refine (DrawB.bytes_any b A n c m w3 D3.out.lft.cur (by omega)).mono ?_; rintro e w4 ⟨⟨s, hs, rfl⟩, L4⟩; have D4 := Seg.hid (D3.out.lft2 HF.out L4); have K5 := D4.out.cell 6 (.slice (some ⟨g, 0, none⟩) ps0.length c1) rfl; obtain ⟨vv, d3, f3⟩ := D4.out.row i 2 hiN (by decide); have D5 := Seg.hid (D4.out.put HF.out i 2 (.string s) ({ (ps0.getD i default).1 with key := s }, (ps0.getD i default).2) hiN (by decide) rfl (D4.out.win i hiN)); clear L4 hs)))
    all_goals
      clear D2 D3 D4 K3 K5 d3 f3 d6
      go_wp2_with fail
      exact J _ _ _ _ _ _ _ _ _ _ _ _ _ _ _ _ _ _ _ _ _ _ _ _ _ _ _ _ _ _ _ _ _ _ _ _ _ _ _ _ _ _ _ _ _ _ _ _ _ _ _ _ _ _ _ _ _ _ _ _ _ _ _ _ _ _ _ _ _ _ _ _ _ _ _ _ _ _ _ _ _ _ _ _ _ _ _ _ _ _ _ _ _ _ _ _ _ _ _ _ _ _ _ _ _ (by rw [List.length_set]; exact hp2) D5
  · subst hx
    obtain ⟨g, rfl⟩ : ∃ g, A1 = some ⟨g, 0, none⟩ := by
      rcases D2.out.hs.own.2 with ⟨h1, h2⟩ | ⟨g, cap, cur, h1, _⟩
      · omega
      · cases h1; exact ⟨g, rfl⟩
    have d6 := D2.out.cell 6 (.slice (some ⟨g, 0, none⟩) ps0.length c1) rfl
    have b1 : (0 : Int) ≤ (i : Int) := by omega
    have hiN : i < ps0.length := by omega
    obtain ⟨r0, hr0⟩ : ∃ r, r = (ps0.getD i default).1 := ⟨_, rfl⟩
    obtain ⟨vv, d3, f3⟩ := D2.out.row i 3 hiN (by decide)
    have D4 := Seg.hid (D2.out.put HF.out i 3 (.bool true) ({ (ps0.getD i default).1 with gone := true }, (ps0.getD i default).2) hiN (by decide) rfl (D2.out.win i hiN))
    clear D2
    go_wp2_with fail
    exact J _ _ _ _ _ _ _ _ _ _ _ _ _ _ _ _ _ _ _ _ _ _ _ _ _ _ _ _ _ _ _ _ _ _ _ _ _ _ _ _ _ _ _ _ _ _ _ _ _ _ _ _ _ _ _ _ _ _ _ _ _ _ _ _ _ _ _ _ _ _ _ _ _ _ _ _ _ _ _ _ _ _ _ _ _ _ _ _ _ _ _ _ _ _ _ _ _ _ _ _ _ _ _ _ _ (by rw [List.length_set]; exact hp2) D4
  · subst hx
    obtain ⟨g, rfl⟩ : ∃ g, A1 = some ⟨g, 0, none⟩ := by
      rcases D2.out.hs.own.2 with ⟨h1, h2⟩ | ⟨g, cap, cur, h1, _⟩
      · omega
      · cases h1; exact ⟨g, rfl⟩
    have d6 := D2.out.cell 6 (.slice (some ⟨g, 0, none⟩) ps0.length c1) rfl
    have b1 : (0 : Int) ≤ (i : Int) := by omega
    have hiN : i < ps0.length := by omega
    obtain ⟨r0, hr0⟩ : ∃ r, r = (ps0.getD i default).1 := ⟨_, rfl⟩
    have D3 := Seg.hid (D2.out.alloc HF.out (.cells #[.string ⟨#[]⟩, .string ⟨#[]⟩] 100))
    obtain ⟨vv, d3, f3⟩ := D3.out.row i 5 hiN (by decide)
    have e6 := D3.out.cell 6 (.slice (some ⟨g, 0, none⟩) ps0.length c1) rfl
    have D4 := Seg.hid (D3.out.put HF.out i 5 (.slice (some ⟨w2.heap.size, 0, none⟩) 1 1) ({ (ps0.getD i default).1 with heads := [⟨⟨#[]⟩, ⟨#[]⟩⟩] }, .slice (some ⟨w2.heap.size, 0, none⟩) 1 1) hiN (by decide) rfl (D2.out.newHead HF.out ⟨⟨#[]⟩, ⟨#[]⟩⟩))
    clear D2 D3
    go_wp2_with fail
    exact J _ _ _ _ _ _ _ _ _ _ _ _ _ _ _ _ _ _ _ _ _ _ _ _ _ _ _ _ _ _ _ _ _ _ _ _ _ _ _ _ _ _ _ _ _ _ _ _ _ _ _ _ _ _ _ _ _ _ _ _ _ _ _ _ _ _ _ _ _ _ _ _ _ _ _ _ _ _ _ _ _ _ _ _ _ _ _ _ _ _ _ _ _ _ _ _ _ _ _ _ _ _ _ _ _ (by rw [List.length_set]; exact hp2) D4
  · subst hx
    obtain ⟨g, rfl⟩ : ∃ g, A1 = some ⟨g, 0, none⟩ := by
      rcases D2.out.hs.own.2 with ⟨h1, h2⟩ | ⟨g, cap, cur, h1, _⟩
      · omega
      · cases h1; exact ⟨g, rfl⟩
    have d6 := D2.out.cell 6 (.slice (some ⟨g, 0, none⟩) ps0.length c1) rfl
    have b1 : (0 : Int) ≤ (i : Int) := by omega
    have hiN : i < ps0.length := by omega
    obtain ⟨r0, hr0⟩ : ∃ r, r = (ps0.getD i default).1 := ⟨_, rfl⟩
    have e6 := (D2.out.alloc HF.out (.cells #[.int .i64 (-1), .int .i64 1000000000000, .int .i64 1000000000001] 3)).cell 6 (.slice (some ⟨g, 0, none⟩) ps0.length c1) rfl
    go_wp2_with fail
    go_region_law
      ((first | (go_simp; go_at_call 68; refine (Draw.pickInt_any b A n c w2.heap.size 3 (fun i => ([(-1), 1000000000000, 1000000000001] : List Int).getD i 0) _ (D2.out.drew.alloc HF.out _).lft.cur (by decide) (by decide) (by rw [hsz]; show w2.heap.size < w2.heap.size + 1; omega) (by have := D2.out.lt; omega) (fun i hi => nums _ [(-1), 1000000000000, 1000000000001] _ _ i rfl hi)).mono ?_; rintro e w3 ⟨⟨i3, hi3, rfl⟩, L3⟩; have D3 := Seg.hid ((D2.out.drew.alloc HF.out _).lft2 HF.out L3); have K3 := D3.out.cell 6 (.slice (some ⟨g, 0, none⟩) ps0.length c1) rfl; obtain ⟨vv, d3, f3⟩ := D3.out.row i 0 hiN (by decide); (rw [Nat.add_zero] at d3 f3); (generalize ([(-1), 1000000000000, 1000000000001] : List Int).getD i3 0 = y); have D5 := Seg.hid (D3.out.put HF.out i 0 (.int .i64 y) ({ (ps0.getD i default).1 with time := y }, (ps0.getD i default).2) hiN (by decide) rfl (D3.out.win i hiN)); clear L3 hi3)))
    all_goals
      clear D2 D3 K3 d3 f3 d6 e6
      go_wp2_with fail
      exact J _ _ _ _ _ _ _ _ _ _ _ _ _ _ _ _ _ _ _ _ _ _ _ _ _ _ _ _ _ _ _ _ _ _ _ _ _ _ _ _ _ _ _ _ _ _ _ _ _ _ _ _ _ _ _ _ _ _ _ _ _ _ _ _ _ _ _ _ _ _ _ _ _ _ _ _ _ _ _ _ _ _ _ _ _ _ _ _ _ _ _ _ _ _ _ _ _ _ _ _ _ _ _ _ _ (by rw [List.length_set]; exact hp2) D5
end Go.Proofs.Ytdnbcfochlfopaa.DrawF
