/- A list of records that grows, in memory of the call's own; A batch, drawn. -/
import Derived.Test.YtdnbcfochlfopaaJH21
import Derived.Test.YtdnbcfochlfopaaJH36
import Derived.Test.YtdnbcfochlfopaaJH16
namespace Go.Proofs.Ytdnbcfochlfopaa.RsO
set_option maxRecDepth 8000
open Go.RowKit
open Recs (hsz Hd Rec Heads recVal RecAt recCells RecsAt)
open RecW (recArr recArr_one info29)
set_option linter.unusedVariables false
def rcells : List (Rec × Value) → List Value
  | [] => []
  | p :: t => (recArr p.1 p.2).toList ++ rcells t
theorem rcells_len : ∀ ps, (rcells ps).length = ps.length * 6
  | [] => rfl
  | p :: t => by
    simp only [rcells, List.length_append, List.length_cons, rcells_len t]
    show 6 + _ = _
    omega
theorem rcells_app : ∀ a b, rcells (a ++ b) = rcells a ++ rcells b
  | [], b => rfl
  | p :: t, b => by simp only [List.cons_append, rcells, rcells_app t b, List.append_assoc]
def rs (ps : List (Rec × Value)) : List Rec := ps.map (·.1)
def hv (ps : List (Rec × Value)) (i : Nat) : Value := (ps.getD i default).2
theorem rs_len (ps : List (Rec × Value)) : (rs ps).length = ps.length := by simp [rs]
theorem rs_get (ps : List (Rec × Value)) (i : Nat) (hi : i < ps.length) : (rs ps).getD i default = (ps.getD i default).1 := by simp [rs, hi]
theorem rcells_get : ∀ (ps : List (Rec × Value)) (i j : Nat), i < ps.length → j < 6 → (rcells ps)[i * 6 + j]? = some (recCells (rs ps) (hv ps) i j)
  | [], i, j, hi, _ => by simp at hi
  | p :: t, 0, j, _, hj => by
    show ((recArr p.1 p.2).toList ++ rcells t)[0 * 6 + j]? = _
    rw [List.getElem?_append_left (by show _ < 6; omega)]
    match j, hj with
    | 0, _ => rfl
    | 1, _ => rfl
    | 2, _ => rfl
    | 3, _ => rfl
    | 4, _ => rfl
    | 5, _ => rfl
  | p :: t, i + 1, j, hi, hj => by
    have := rcells_get t i j (by simpa using hi) hj
    show ((recArr p.1 p.2).toList ++ rcells t)[(i + 1) * 6 + j]? = _
    rw [List.getElem?_append_right (by show 6 ≤ _; omega)]
    show (rcells t)[(i + 1) * 6 + j - 6]? = _
    rw [show (i + 1) * 6 + j - 6 = i * 6 + j by omega, this]
    rfl
/-- The Heads lie in a window of memory that the list's own row is not in. -/
def Win (w : World) (base : Nat) (v hv : Value) (hs : List Hd) : Prop := ∃ lo hi, base ≤ lo ∧ hi ≤ w.heap.size ∧ (∀ g, v.ownBlock = some g → g < lo ∨ hi ≤ g) ∧ Heads w lo hi hv hs
structure RsAt (w : World) (base : Nat) (v : Value) (ps : List (Rec × Value)) : Prop where
  own : w.ownsRow base 36 6 v ps.length (rcells ps)
  win : ∀ p, p ∈ ps → Win w base v p.2 p.1.heads
section
variable {w w' : World} {base : Nat} {v : Value} {ps : List (Rec × Value)}
theorem RsAt.nil (w : World) (base : Nat) : RsAt w base (.slice none 0 0) [] := ⟨World.ownsRow_nil w base _ 6, fun p hp => by cases hp⟩
theorem RsAt.form (h : RsAt w base v ps) : ∃ A c, v = .slice A ps.length c := by
  rcases h.own.2 with ⟨h1, h2⟩ | ⟨g, cap, cur, h1, _⟩
  · exact ⟨none, 0, by rw [h1, h2]⟩
  · exact ⟨_, _, h1⟩
theorem Win.keep {x : Value} {hs : List Hd} {r : Option Nat} (h : Win w base v x hs) (gr : w.grownBy w' r) (hr : ∀ g, r = some g → g < base ∨ v.ownBlock = some g) : Win w' base v x hs := by
  obtain ⟨lo, hi, h1, h2, h3, h4⟩ := h
  refine ⟨lo, hi, h1, Nat.le_trans h2 gr.size, h3, h4.keep fun g hl hh => gr.block g (by omega) (fun e => ?_)⟩
  rcases hr g e.symm with h | h
  · omega
  · have := h3 g h; omega
theorem RsAt.keep {r : Option Nat} (h : RsAt w base v ps) (gr : w.grownBy w' r) (hr : ∀ g, r = some g → g < base) : RsAt w' base v ps := by
  refine ⟨World.ownsRow.kept h.own gr ?_, fun p hp => (h.win p hp).keep gr (fun g e => .inl (hr g e))⟩
  by_cases hv : v.ownBlock = none
  · exact .inl hv
  · obtain ⟨g, hg⟩ := Option.ne_none_iff_exists'.1 hv
    right
    intro e
    have := (World.ownsRow.lt h.own g hg).1
    have := hr g (by rw [← e]; exact hg)
    omega
theorem RsAt.drew (h : RsAt w base v ps) : RsAt w.drew base v ps := ⟨World.ownsRow.drew h.own, h.win⟩
/-- One record more. -/
theorem RsAt.push {w2 w3 : World} {b : Nat} {r : Rec} {x v' : Value} {o : Obj} (h : RsAt w base v ps) (hb : b < base) (hbase : base ≤ w.heap.size) (g2 : w.grownBy w2 (some b)) (hr : Heads w2 w.heap.size w2.heap.size x r.heads) (g3 : (w2.alloc o).grownBy w3 v.ownBlock)
    (own : w3.ownsRow base 36 6 v' (ps.length + 1) (rcells ps ++ (recArr r x).toList)) (at_ : ∀ g, v'.ownBlock = some g → v.ownBlock = some g ∨ w2.heap.size ≤ g) : RsAt w3 base v' (ps ++ [(r, x)]) := by
  have hlt : ∀ g, v.ownBlock = some g → base ≤ g ∧ g < w.heap.size := fun g e => World.ownsRow.lt h.own g e
  have hg2 := g2.size
  have hg3 := g3.size
  rw [hsz] at hg3
  refine ⟨by rw [rcells_app, List.length_append]; simpa [rcells] using own, fun p hp => ?_⟩
  rcases List.mem_append.1 hp with hp | hp
  · obtain ⟨lo, hi, h1, h2, h3, h4⟩ := ((h.win p hp).keep g2 (fun g e => by cases e; exact .inl hb)).keep ((World.grownBy_alloc w2 o none).trans (World.grownBy.refl _ _)) (fun g e => by cases e)
    obtain ⟨lo, hi, h1, h2, h3, h4⟩ := (h.win p hp).keep g2 (fun g e => by cases e; exact .inl hb)
    refine ⟨lo, hi, h1, by omega, fun g e => ?_, h4.keep fun g hl hh => ?_⟩
    · rcases at_ g e with h | h
      · exact h3 g h
      · exact .inr (by omega)
    · rw [g3.block g (by rw [hsz]; omega) (fun e => by have := h3 g e.symm; omega)]
      exact heap_alloc_old _ _ (by omega)
  · simp only [List.mem_singleton] at hp
    subst hp
    refine ⟨w.heap.size, w2.heap.size, hbase, by omega, fun g e => ?_, hr.keep fun g hl hh => ?_⟩
    · rcases at_ g e with h | h
      · exact .inl (hlt g h).2
      · exact .inr h
    · rw [g3.block g (by rw [hsz]; omega) (fun e => by have := hlt g e.symm; omega)]
      exact heap_alloc_old _ _ (by omega)
theorem RsAt.recs (h : RsAt w base v ps) (hl : ps.length ≤ 9223372036854775807) : RecsAt w base w.heap.size v (rs ps) := by
  refine ⟨hv ps, ?_, fun i hi => ?_⟩
  · rw [rs_len]
    obtain ⟨A, c, hv⟩ := h.form
    refine ⟨hl, A, c, hv, ?_⟩
    rcases h.own.2 with ⟨h1, h2⟩ | ⟨g, cap, cur, h1, h2, h3, h4, _⟩
    · exact .inl h2
    · rw [hv] at h1
      simp only [Value.slice.injEq, true_and] at h1
      obtain ⟨rfl, rfl⟩ := h1
      refine .inr ⟨g, 0, rfl, (Array.getElem?_eq_some_iff.1 h3).1, h4, fun i hi j hj => ?_, h2⟩
      have h' := h.own
      rw [hv] at h'
      rw [Nat.zero_add, World.ownsRow.cellAt h' (i * 6 + j) (by omega)]
      exact rcells_get ps i j hi hj
  · rw [rs_len] at hi
    rw [rs_get ps i hi]
    have hm : ps.getD i default ∈ ps := by simp [hi]
    obtain ⟨lo, hi', h1, h2, h3, h4⟩ := h.win _ hm
    exact h4.mono h1 h2
end
end Go.Proofs.Ytdnbcfochlfopaa.RsO
namespace Go.Proofs.Ytdnbcfochlfopaa.DrawE
set_option maxRecDepth 8000
open Go.RowKit
open Draw (Cur Lft Bytes)
open Recs (hsz Hd Rec Bat Heads recVal RecAt BatAt batVal)
open BatW (batArr batArr_one info40)
open RsO (RsAt rs)
set_option linter.unusedVariables false

/-- The batch that is being drawn lies in block q; its records in memory from q + 1 on. -/
structure DB (w wr : World) (q b : Nat) (A : Option Addr) (n c : Nat) (t : Bat) (rv : Value) (ps : List (Rec × Value)) : Prop where
  hq : w.heap.size < q
  z : ∃ o, wr.heap[w.heap.size]? = some (.cells o 26 (0, 0)) ∧ o.size = 7
  blk : wr.heap[q]? = some (.cells (batArr t rv) 26 (0, 0))
  hs : RsAt wr (q + 1) rv ps
  lft : Lft w wr b A n c
section
variable {w wr w2 : World} {q b : Nat} {A : Option Addr} {n c : Nat} {t : Bat} {rv : Value} {ps : List (Rec × Value)}
theorem DB.lt (h : DB w wr q b A n c t rv ps) : q < wr.heap.size := (Array.getElem?_eq_some_iff.1 h.blk).1
theorem DB.lft2 (h0 : Cur w b A n c) (h : DB w wr q b A n c t rv ps) (L : Lft wr w2 b A n c) : DB w w2 q b A n c t rv ps := by
  have hb := h0.lt
  have hl := h.lt
  have hq := h.hq
  obtain ⟨o, h1, h2⟩ := h.z
  exact ⟨hq, ⟨o, (L.grown.block _ (by omega) (by intro e; cases e; omega)).trans h1, h2⟩, (L.grown.block _ hl (by intro e; cases e; omega)).trans h.blk, h.hs.keep L.grown (fun g e => by cases e; omega), h.lft.trans L⟩
theorem DB.alloc (h0 : Cur w b A n c) (h : DB w wr q b A n c t rv ps) (o : Obj) : DB w (wr.alloc o) q b A n c t rv ps :=
  h.lft2 h0 ⟨h.lft.cur.alloc o, World.grownBy_alloc wr o (some b)⟩
theorem DB.drew (h : DB w wr q b A n c t rv ps) : DB w wr.drew q b A n c t rv ps := ⟨h.hq, h.z, h.blk, h.hs.drew, h.lft.cur.drew, Draw.grown_drew h.lft.grown⟩
/-- One cell of it is written. -/
theorem DB.set (h0 : Cur w b A n c) (h : DB w wr q b A n c t rv ps) (j : Nat) (v : Value) (t' : Bat) (he : (batArr t rv).setIfInBounds j v = batArr t' rv) : DB w (wr.setCell ⟨q, j, none⟩ v) q b A n c t' rv ps := by
  have hl := h.lt
  have hq := h.hq
  have gr := DrawD.grown_cell wr (q) j v
  obtain ⟨o, h1, h2⟩ := h.z
  refine ⟨hq, ⟨o, (gr.block _ (by omega) (by simp; omega)).trans h1, h2⟩, ?_, ?_, DrawB.Lft.above h0 h.lft gr (fun k e => by cases e; omega)⟩
  · rw [heap_setCell_same wr (q) j _ _ v h.blk, he]
  · exact h.hs.keep gr (fun g e => by cases e; omega)
theorem DB.cell (h : DB w wr q b A n c t rv ps) (j : Nat) (v : Value) (hj : (batArr t rv)[j]? = some v) : wr.cell? ⟨q, j, none⟩ = some v := by
  rw [cell_of_row wr (q) j _ _ _ h.blk, hj]
theorem DB.free (h : DB w wr q b A n c t rv ps) (j : Nat) : wr.frozen? ⟨q, j, none⟩ = false := frozen_of_row wr (q) j _ _ h.blk
theorem DB.blocks (h : DB w wr q b A n c t rv ps) {o : Obj} {w' : World} (gr : (wr.alloc o).grownBy w' rv.ownBlock) : w'.heap[w.heap.size]? = wr.heap[w.heap.size]? ∧ w'.heap[q]? = wr.heap[q]? := by
  have hl := h.lt
  have hq := h.hq
  have hne : ∀ k, some k = rv.ownBlock → q + 1 ≤ k := fun k e => (World.ownsRow.lt h.hs.own k e.symm).1
  exact ⟨(gr.block _ (by rw [hsz]; omega) (fun e => by have := hne _ e; omega)).trans (heap_alloc_old _ _ (by omega)), (gr.block _ (by rw [hsz]; omega) (fun e => by have := hne _ e; omega)).trans (heap_alloc_old _ _ (by omega))⟩
theorem DB.push6 (h : DB w wr q b A n c t rv ps) {o : Obj} {w' : World} (gr : (wr.alloc o).grownBy w' rv.ownBlock) : w'.cell? ⟨q, 6, none⟩ = some rv ∧ w'.frozen? ⟨q, 6, none⟩ = false := by
  have := (h.blocks gr).2.trans h.blk
  exact ⟨by rw [cell_of_row _ _ 6 _ _ _ this]; rfl, frozen_of_row _ _ 6 _ _ this⟩
/-- A record is put behind the others: 'wr' ahead of its draw, 'wm' behind it. -/
theorem DB.pushed (h0 : Cur w b A n c) {wm : World} (h : DB w wr q b A n c t rv ps) (L : Lft wr wm b A n c) {r : Rec} {x : Value} (hr : Heads wm wr.heap.size wm.heap.size x r.heads) {o : Obj} {w' : World} (gr : (wm.alloc o).grownBy w' rv.ownBlock) {v' : Value}
    (ho : w'.ownsRow (q + 1) 36 6 v' (ps.length + 1) (RsO.rcells ps ++ (RecW.recArr r x).toList)) (at_ : ∀ g, v'.ownBlock = some g → rv.ownBlock = some g ∨ wm.heap.size ≤ g) :
    DB w (w'.setCell ⟨q, 6, none⟩ v') q b A n c t v' (ps ++ [(r, x)]) := by
  have hm := h.lft2 h0 L
  have hb := hm.blocks gr
  have hl := h.lt
  have hq := h.hq
  have h0l := h0.lt
  have g6 := DrawD.grown_cell w' (q) 6 v'
  obtain ⟨z, h1, h2⟩ := hm.z
  refine ⟨hq, ⟨z, ?_, h2⟩, ?_, ?_, ?_⟩
  · rw [heap_setCell_other _ _ _ _ (by show _ ≠ q; omega), hb.1, h1]
  · rw [heap_setCell_same w' (q) 6 _ _ v' (hb.2.trans hm.blk)]; rfl
  · exact (h.hs.push (b := b) (by omega) (by omega) L.grown hr gr ho at_).keep g6 (fun g e => by cases e; omega)
  · exact DrawB.Lft.above h0 (DrawB.Lft.above h0 (DrawB.Lft.above h0 hm.lft (World.grownBy_alloc wm o none) (fun k e => by cases e)) gr (fun k e => by have := (World.ownsRow.lt hm.hs.own k e).1; omega)) g6 (fun k e => by cases e; omega)
/-- Its records are laid anew: one without Heads. -/
theorem DB.fresh (h0 : Cur w b A n c) (h : DB w wr q b A n c t rv ps) (r : Rec) (hr : r.heads = []) :
    DB w ((wr.alloc (.cells (RecW.recArr r (.slice none 0 0)) 36)).setCell ⟨q, 6, none⟩ (.slice (some ⟨wr.heap.size, 0, none⟩) 1 1)) q b A n c t (.slice (some ⟨wr.heap.size, 0, none⟩) 1 1) [(r, .slice none 0 0)] := by
  have hl := h.lt
  have hq := h.hq
  have ha := h.alloc h0 (.cells (RecW.recArr r (.slice none 0 0)) 36)
  have g6 := DrawD.grown_cell (wr.alloc (.cells (RecW.recArr r (.slice none 0 0)) 36)) q 6 (.slice (some ⟨wr.heap.size, 0, none⟩) 1 1)
  obtain ⟨z, h1, h2⟩ := ha.z
  refine ⟨hq, ⟨z, ?_, h2⟩, ?_, ?_, ?_⟩
  · rw [heap_setCell_other _ _ _ _ (by show _ ≠ q; omega), h1]
  · rw [heap_setCell_same _ q 6 _ _ _ ha.blk]; rfl
  · refine RsAt.keep ⟨?_, fun p hp => ?_⟩ g6 (fun g e => by cases e; omega)
    · exact World.ownsRow_lit wr (RecW.recArr r (.slice none 0 0)) 1 (by omega) (by decide) rfl
    · simp only [List.mem_singleton] at hp
      subst hp
      refine ⟨q + 1, q + 1, Nat.le_refl _, by rw [hsz]; omega, fun g e => .inr (by cases e; show q + 1 ≤ wr.heap.size; omega), ?_⟩
      show Heads _ _ _ _ r.heads
      rw [hr]
      exact ⟨by simp, none, 0, rfl, .inl rfl⟩
  · exact DrawB.Lft.above h0 ha.lft g6 (fun k e => by cases e; omega)
/-- It is copied into the answer's own block. -/
structure Dn (w wr : World) (q b : Nat) (A : Option Addr) (n c : Nat) (t : Bat) (rv : Value) (ps : List (Rec × Value)) : Prop where
  th : wr.there w.heap.size 0 (batArr t rv).size
  at_ : (wr.setCells w.heap.size 0 (batArr t rv).toList).heap[w.heap.size]? = some (.cells (batArr t rv) 26 (0, 0))
  rc : RsAt (wr.setCells w.heap.size 0 (batArr t rv).toList) (q + 1) rv ps
  sz : q + 1 ≤ (wr.setCells w.heap.size 0 (batArr t rv).toList).heap.size
  lft : Lft w (wr.setCells w.heap.size 0 (batArr t rv).toList) b A n c
theorem DB.done (h0 : Cur w b A n c) (h : DB w wr q b A n c t rv ps) : Dn w wr q b A n c t rv ps := by
  have hl := h.lt
  have hq := h.hq
  obtain ⟨o, h1, h2⟩ := h.z
  have gr := DrawD.grown_cells w.heap.size (batArr t rv).toList 0 wr
  refine ⟨?_, Cells.whole h1 h2, h.hs.keep gr (fun g e => by cases e; omega), Nat.le_trans hl gr.size, DrawB.Lft.above h0 h.lft gr (fun k e => by cases e; omega)⟩
  have := Cells.there_of h1
  rw [h2] at this
  exact this
end
theorem infoR : (Try.prog.info? 36).map (fun i => (i.zero, i.size, i.bytes)) = some (some (.agg #[.int .i64 0, .bool false, .string ByteArray.empty, .bool false, .string ByteArray.empty, .slice none 0 0]), 6, 80) := by kernel_rfl
theorem nums (w : World) (vs : List Int) (t : TypeId) (g i : Nat) (hg : g = w.heap.size) (hi : i < vs.length) : (w.alloc (.cells (vs.map (Value.int .i64)).toArray t)).cell? ⟨g, i, none⟩ = some (.int .i64 (vs.getD i 0)) := by
  subst hg
  rw [cell_of_row _ w.heap.size i _ _ _ (heap_alloc_new w _)]
  simp [hi]

set_option maxHeartbeats 1600000 in
theorem batch_any (b : Nat) (A : Option Addr) (n c : Nat) (ver most : Int) (w : World) (hc : Cur w b A n c) (hm1 : 0 < most) (hm2 : most ≤ 1000) :
    Calls Try.prog 64 #[.pointer (some ⟨b, 0, none⟩), .int .i64 ver, .int .i64 most] w fun e w' => ∃ (t : Bat) (rv : Value) (base : Nat) (ps : List (Rec × Value)), e = .returned (batVal t rv) ∧ w.heap.size < base ∧ base ≤ w'.heap.size ∧ RsAt w' base rv ps ∧ 1 ≤ ps.length ∧ ps.length ≤ 1000 ∧ Lft w w' b A n c := by
  obtain ⟨i0, hi, hz0, hz1, hz2⟩ := info_parts infoR
  have HC := Seg.hid hc
  have hbl := hc.lt
  clear hc
  go_enter Try.func64, Try.ntmps64
  go_wp2_with fail
  rename_i Q' K1 a1 K0 a0
  have L0 : Hid (Lft w (w.alloc (.cells #[.int .i64 0, .int .i64 0, .int .i64 0, .int .i64 0, .int .i64 0, .int .i64 0, .slice none 0 0] 26)) b A n c) := ⟨HC.out.alloc _, World.grownBy_alloc _ _ _⟩
  have Z0 : Hid ((w.alloc (.cells #[.int .i64 0, .int .i64 0, .int .i64 0, .int .i64 0, .int .i64 0, .int .i64 0, .slice none 0 0] 26)).heap[w.heap.size]? = some (.cells #[.int .i64 0, .int .i64 0, .int .i64 0, .int .i64 0, .int .i64 0, .int .i64 0, .slice none 0 0] 26 (0, 0))) := heap_alloc_new _ _
  refine (Draw.below_any b A n c 50 _ L0.out.cur (by decide) (by decide)).mono ?_
  rintro e w1 ⟨⟨x1, h1a, h1b, rfl⟩, L1⟩
  clear h1a h1b
  go_wp2_with fail
  refine (Draw.below_any b A n c 4 _ L1.cur (by decide) (by decide)).mono ?_
  rintro e w2 ⟨⟨x2, h2a, h2b, rfl⟩, L2⟩
  clear h2a h2b
  go_wp2_with fail
  refine (Draw.below_any b A n c 2 _ L2.cur (by decide) (by decide)).mono ?_
  rintro e w3 ⟨⟨x3, h3a, h3b, rfl⟩, L3⟩
  clear h3a h3b
  have D0 : Hid (DB w (w3.alloc (.cells #[.int .i64 x1, .int .i64 x2, .int .i64 (-1), .int .i64 0, .int .i64 0, .int .i64 x3, .slice none 0 0] 26)) w3.heap.size b A n c ⟨x1, x2, -1, 0, 0, x3, []⟩ (.slice none 0 0) []) := by
    have LL := (L1.trans L2).trans L3
    have hs : w.heap.size + 1 ≤ w3.heap.size := by have := LL.grown.size; rw [hsz] at this; exact this
    refine ⟨by omega, ⟨_, (heap_alloc_old _ _ (by omega)).trans ((LL.grown.block _ (by rw [hsz]; omega) (by intro e; cases e; omega)).trans Z0.out), rfl⟩, heap_alloc_new _ _, RsAt.nil _ _, ?_⟩
    exact (L0.out.trans LL).trans ⟨LL.cur.alloc _, World.grownBy_alloc _ _ _⟩
  clear L0 Z0 L1 L2 L3
  go_wp2_with fail
  rename_i KA aA K1 a1 K0 a0
  have JA : ∀ (x10 x11 x12 x13 x14 x15 x16 x17 x18 x19 x20 x21 x22 : Value) (m : Int) (t : Bat) (wr : World), 0 < m → m ≤ 1000 → Hid (DB w wr w3.heap.size b A n c t (.slice none 0 0) []) → KA ⟨List.toArray (.pointer (some ⟨b, 0, none⟩) :: .int .i64 ver :: .int .i64 m :: undef :: undef :: undef :: .pointer (some ⟨w.heap.size, 0, none⟩) :: .pointer (some ⟨w3.heap.size, 0, none⟩) :: undef :: undef :: x10 :: x11 :: x12 :: x13 :: x14 :: x15 :: x16 :: x17 :: x18 :: x19 :: x20 :: x21 :: x22 :: undef :: undef :: undef :: undef :: undef :: undef :: undef :: undef :: undef :: undef :: undef :: undef :: undef :: undef :: undef :: undef :: undef :: undef :: undef :: undef :: undef :: undef :: undef :: undef :: undef :: undef :: undef :: undef :: undef :: undef :: undef :: undef :: undef :: undef :: undef :: undef :: undef :: undef :: undef :: undef :: undef :: undef :: undef :: undef :: undef :: undef :: undef :: undef :: undef :: undef :: undef :: undef :: undef :: undef :: undef :: undef :: undef :: undef :: undef :: undef :: undef :: undef :: undef :: undef :: undef :: undef :: undef :: undef :: undef :: undef :: undef :: undef :: undef :: undef :: undef :: []), []⟩ wr := by
    clear a0 a1 K0 K1 D0 hm1 hm2 x1 x2 x3
    intro x10 x11 x12 x13 x14 x15 x16 x17 x18 x19 x20 x21 x22 m t wr hm1 hm2 D1
    refine aA _ _ ?_
    clear aA KA
    refine wp_seq_k (fun KB aB => ?_)
    have JB : ∀ (x10 x11 x12 x13 x14 x15 x16 x17 x18 x19 x20 x21 x22 x23 x24 x25 x26 x27 x28 x29 x30 x31 x32 x33 x34 x35 x36 x37 x38 x39 x40 x41 x42 x43 : Value) (t : Bat) (wr : World), Hid (DB w wr w3.heap.size b A n c t (.slice none 0 0) []) → KB ⟨List.toArray (.pointer (some ⟨b, 0, none⟩) :: .int .i64 ver :: .int .i64 m :: undef :: undef :: undef :: .pointer (some ⟨w.heap.size, 0, none⟩) :: .pointer (some ⟨w3.heap.size, 0, none⟩) :: undef :: undef :: x10 :: x11 :: x12 :: x13 :: x14 :: x15 :: x16 :: x17 :: x18 :: x19 :: x20 :: x21 :: x22 :: x23 :: x24 :: x25 :: x26 :: x27 :: x28 :: x29 :: x30 :: x31 :: x32 :: x33 :: x34 :: x35 :: x36 :: x37 :: x38 :: x39 :: x40 :: x41 :: x42 :: x43 :: undef :: undef :: undef :: undef :: undef :: undef :: undef :: undef :: undef :: undef :: undef :: undef :: undef :: undef :: undef :: undef :: undef :: undef :: undef :: undef :: undef :: undef :: undef :: undef :: undef :: undef :: undef :: undef :: undef :: undef :: undef :: undef :: undef :: undef :: undef :: undef :: undef :: undef :: undef :: undef :: undef :: undef :: undef :: undef :: undef :: undef :: undef :: undef :: undef :: undef :: undef :: undef :: undef :: undef :: []), []⟩ wr := by
      clear D1 x10 x11 x12 x13 x14 x15 x16 x17 x18 x19 x20 x21 x22 t wr
      intro x10 x11 x12 x13 x14 x15 x16 x17 x18 x19 x20 x21 x22 x23 x24 x25 x26 x27 x28 x29 x30 x31 x32 x33 x34 x35 x36 x37 x38 x39 x40 x41 x42 x43 t wr D1
      refine aB _ _ ?_
      clear aB KB
      go_wp2_with fail
      refine (Draw.below_any b A n c 100 _ D1.out.lft.cur (by decide) (by decide)).mono ?_
      rintro e w4 ⟨⟨nw, hn1, hn2, rfl⟩, L4⟩
      have D4 := Seg.hid (D1.out.lft2 HC.out L4)
      clear D1 L4 hn1 hn2
      go_wp2_with fail
      rename_i KC aC K1 a1 K0 a0
      have JC : ∀ (x10 x11 x12 x13 x14 x15 x16 x17 x18 x19 x20 x21 x22 x23 x24 x25 x26 x27 x28 x29 x30 x31 x32 x33 x34 x35 x36 x37 x38 x39 x40 x41 x42 x43 x44 x45 x46 x47 x48 x49 x50 : Value) (nw : Int) (t : Bat) (wr : World), Hid (DB w wr w3.heap.size b A n c t (.slice none 0 0) []) → KC ⟨List.toArray (.pointer (some ⟨b, 0, none⟩) :: .int .i64 ver :: .int .i64 m :: undef :: undef :: undef :: .pointer (some ⟨w.heap.size, 0, none⟩) :: .pointer (some ⟨w3.heap.size, 0, none⟩) :: .int .i64 nw :: undef :: x10 :: x11 :: x12 :: x13 :: x14 :: x15 :: x16 :: x17 :: x18 :: x19 :: x20 :: x21 :: x22 :: x23 :: x24 :: x25 :: x26 :: x27 :: x28 :: x29 :: x30 :: x31 :: x32 :: x33 :: x34 :: x35 :: x36 :: x37 :: x38 :: x39 :: x40 :: x41 :: x42 :: x43 :: x44 :: x45 :: x46 :: x47 :: x48 :: x49 :: x50 :: undef :: undef :: undef :: undef :: undef :: undef :: undef :: undef :: undef :: undef :: undef :: undef :: undef :: undef :: undef :: undef :: undef :: undef :: undef :: undef :: undef :: undef :: undef :: undef :: undef :: undef :: undef :: undef :: undef :: undef :: undef :: undef :: undef :: undef :: undef :: undef :: undef :: undef :: undef :: undef :: undef :: undef :: undef :: undef :: undef :: undef :: undef :: []), []⟩ wr := by
        clear a0 a1 K0 K1 D4 x10 x11 x12 x13 x14 x15 x16 x17 x18 x19 x20 x21 x22 x23 x24 x25 x26 x27 x28 x29 x30 x31 x32 x33 x34 x35 x36 x37 x38 x39 x40 x41 x42 x43 t wr nw
        intro x10 x11 x12 x13 x14 x15 x16 x17 x18 x19 x20 x21 x22 x23 x24 x25 x26 x27 x28 x29 x30 x31 x32 x33 x34 x35 x36 x37 x38 x39 x40 x41 x42 x43 x44 x45 x46 x47 x48 x49 x50 nw t wr D1
        refine aC _ _ ?_
        clear aC KC
        refine wp_seq_k (fun KD aD => ?_)
        have JD : ∀ (x9 x10 x11 x12 x13 x14 x15 x16 x17 x18 x19 x20 x21 x22 x23 x24 x25 x26 x27 x28 x29 x30 x31 x32 x33 x34 x35 x36 x37 x38 x39 x40 x41 x42 x43 x44 x45 x46 x47 x48 x49 x50 x51 x52 x53 x54 x55 x56 x57 x58 x59 x60 x61 x62 x63 x64 x65 x66 x67 x68 x69 x70 x71 x72 x73 x74 x75 x76 x77 x78 : Value) (nw : Int) (t : Bat) (rv : Value) (ps : List (Rec × Value)) (wr : World), 1 ≤ ps.length → ps.length ≤ 1000 → Hid (DB w wr w3.heap.size b A n c t rv ps) → KD ⟨List.toArray (.pointer (some ⟨b, 0, none⟩) :: .int .i64 ver :: .int .i64 m :: undef :: undef :: undef :: .pointer (some ⟨w.heap.size, 0, none⟩) :: .pointer (some ⟨w3.heap.size, 0, none⟩) :: .int .i64 nw :: x9 :: x10 :: x11 :: x12 :: x13 :: x14 :: x15 :: x16 :: x17 :: x18 :: x19 :: x20 :: x21 :: x22 :: x23 :: x24 :: x25 :: x26 :: x27 :: x28 :: x29 :: x30 :: x31 :: x32 :: x33 :: x34 :: x35 :: x36 :: x37 :: x38 :: x39 :: x40 :: x41 :: x42 :: x43 :: x44 :: x45 :: x46 :: x47 :: x48 :: x49 :: x50 :: x51 :: x52 :: x53 :: x54 :: x55 :: x56 :: x57 :: x58 :: x59 :: x60 :: x61 :: x62 :: x63 :: x64 :: x65 :: x66 :: x67 :: x68 :: x69 :: x70 :: x71 :: x72 :: x73 :: x74 :: x75 :: x76 :: x77 :: x78 :: undef :: undef :: undef :: undef :: undef :: undef :: undef :: undef :: undef :: undef :: undef :: undef :: undef :: undef :: undef :: undef :: undef :: undef :: undef :: []), []⟩ wr := by
          clear D1 x10 x11 x12 x13 x14 x15 x16 x17 x18 x19 x20 x21 x22 x23 x24 x25 x26 x27 x28 x29 x30 x31 x32 x33 x34 x35 x36 x37 x38 x39 x40 x41 x42 x43 x44 x45 x46 x47 x48 x49 x50 t wr nw
          intro x9 x10 x11 x12 x13 x14 x15 x16 x17 x18 x19 x20 x21 x22 x23 x24 x25 x26 x27 x28 x29 x30 x31 x32 x33 x34 x35 x36 x37 x38 x39 x40 x41 x42 x43 x44 x45 x46 x47 x48 x49 x50 x51 x52 x53 x54 x55 x56 x57 x58 x59 x60 x61 x62 x63 x64 x65 x66 x67 x68 x69 x70 x71 x72 x73 x74 x75 x76 x77 x78 nw t rv ps wr hp1 hps D1
          refine aD _ _ ?_
          clear aD KD
          refine wp_seq_k (fun KE aE => ?_)
          have JE : ∀ (x9 x10 x11 x12 x13 x14 x15 x16 x17 x18 x19 x20 x21 x22 x23 x24 x25 x26 x27 x28 x29 x30 x31 x32 x33 x34 x35 x36 x37 x38 x39 x40 x41 x42 x43 x44 x45 x46 x47 x48 x49 x50 x51 x52 x53 x54 x55 x56 x57 x58 x59 x60 x61 x62 x63 x64 x65 x66 x67 x68 x69 x70 x71 x72 x73 x74 x75 x76 x77 x78 x79 x80 x81 x82 x83 x84 x85 x86 x87 x88 x89 x90 x91 x92 x93 x94 x95 x96 : Value) (nw : Int) (t : Bat) (rv : Value) (ps : List (Rec × Value)) (wr : World), 1 ≤ ps.length → ps.length ≤ 1000 → Hid (DB w wr w3.heap.size b A n c t rv ps) → KE ⟨List.toArray (.pointer (some ⟨b, 0, none⟩) :: .int .i64 ver :: .int .i64 m :: undef :: undef :: undef :: .pointer (some ⟨w.heap.size, 0, none⟩) :: .pointer (some ⟨w3.heap.size, 0, none⟩) :: .int .i64 nw :: x9 :: x10 :: x11 :: x12 :: x13 :: x14 :: x15 :: x16 :: x17 :: x18 :: x19 :: x20 :: x21 :: x22 :: x23 :: x24 :: x25 :: x26 :: x27 :: x28 :: x29 :: x30 :: x31 :: x32 :: x33 :: x34 :: x35 :: x36 :: x37 :: x38 :: x39 :: x40 :: x41 :: x42 :: x43 :: x44 :: x45 :: x46 :: x47 :: x48 :: x49 :: x50 :: x51 :: x52 :: x53 :: x54 :: x55 :: x56 :: x57 :: x58 :: x59 :: x60 :: x61 :: x62 :: x63 :: x64 :: x65 :: x66 :: x67 :: x68 :: x69 :: x70 :: x71 :: x72 :: x73 :: x74 :: x75 :: x76 :: x77 :: x78 :: x79 :: x80 :: x81 :: x82 :: x83 :: x84 :: x85 :: x86 :: x87 :: x88 :: x89 :: x90 :: x91 :: x92 :: x93 :: x94 :: x95 :: x96 :: undef :: []), []⟩ wr := by
            clear D1 x9 x10 x11 x12 x13 x14 x15 x16 x17 x18 x19 x20 x21 x22 x23 x24 x25 x26 x27 x28 x29 x30 x31 x32 x33 x34 x35 x36 x37 x38 x39 x40 x41 x42 x43 x44 x45 x46 x47 x48 x49 x50 x51 x52 x53 x54 x55 x56 x57 x58 x59 x60 x61 x62 x63 x64 x65 x66 x67 x68 x69 x70 x71 x72 x73 x74 x75 x76 x77 x78 t wr nw hp1 hps rv ps
            intro x9 x10 x11 x12 x13 x14 x15 x16 x17 x18 x19 x20 x21 x22 x23 x24 x25 x26 x27 x28 x29 x30 x31 x32 x33 x34 x35 x36 x37 x38 x39 x40 x41 x42 x43 x44 x45 x46 x47 x48 x49 x50 x51 x52 x53 x54 x55 x56 x57 x58 x59 x60 x61 x62 x63 x64 x65 x66 x67 x68 x69 x70 x71 x72 x73 x74 x75 x76 x77 x78 x79 x80 x81 x82 x83 x84 x85 x86 x87 x88 x89 x90 x91 x92 x93 x94 x95 x96 nw t rv ps wr hp1 hps D1
            refine aE _ _ ?_
            clear aE KE
            have FM := Seg.hid D1.out.hs.form
            have DN := Seg.hid (D1.out.done HC.out)
            have H3 := Seg.hid D1.out.blk
            have hq := D1.out.hq
            clear D1
            obtain ⟨A1, c1, rfl⟩ := FM.out
            go_wp2_with (first | (refine wpList_load_row rfl 26 _ rfl w3.heap.size rfl _ _ _ _ H3.out Try.underlying26 rfl info40 ?_) | (refine wpList_store_mid rfl 26 _ _ rfl w.heap.size 0 (batArr t (.slice A1 ps.length c1)) rfl rfl DN.out.th info40 (batArr_one _ _ rfl) ?_))
            exact bodyPost_ret (v := batVal t (.slice A1 ps.length c1)) (results_cell_row rfl _ _ w.heap.size _ _ _ _ rfl DN.out.at_ Try.underlying26 rfl info40) rfl ⟨t, _, w3.heap.size + 1, ps, rfl, by omega, DN.out.sz, DN.out.rc, hp1, hps, DN.out.lft⟩
          clear aE
          have d5 := D1.out.cell 5 (.int .i64 t.flags) rfl
          by_cases hf : 2 ≤ t.flags
          · go_wp2_with fail
            refine (Draw.once_any b A n c 3 _ D1.out.lft.cur (by decide) (by decide)).mono ?_
            rintro e w4 ⟨⟨t4, rfl⟩, L5⟩
            have D4 := Seg.hid (D1.out.lft2 HC.out L5)
            clear D1 L5
            cases t4
            · go_wp2_with fail
              exact JE _ _ _ _ _ _ _ _ _ _ _ _ _ _ _ _ _ _ _ _ _ _ _ _ _ _ _ _ _ _ _ _ _ _ _ _ _ _ _ _ _ _ _ _ _ _ _ _ _ _ _ _ _ _ _ _ _ _ _ _ _ _ _ _ _ _ _ _ _ _ _ _ _ _ _ _ _ _ _ _ _ _ _ _ _ _ _ _ _ _ _ _ _ hp1 hps D4
            · have d5b := D4.out.cell 5 (.int .i64 t.flags) rfl
              have f5b := D4.out.free 5
              have D5 := Seg.hid (D4.out.set HC.out 5 (.int .i64 (wrap64 (t.flags + 4))) ⟨t.base, t.epoch, t.producer, t.turn, t.seq, wrap64 (t.flags + 4), t.recs⟩ rfl)
              go_wp2_with fail
              refine (Draw.pick_any b A n c w4.heap.size 2 (fun i => [⟨#[99, 111, 109, 109, 105, 116]⟩, ⟨#[97, 98, 111, 114, 116]⟩].getD i default) _ (D5.out.alloc HC.out _).lft.cur (by decide) (by decide) (by rw [hsz]; simp) (by have := D4.out.lt; have := D4.out.hq; omega) (fun i hi => DrawD.texts _ [⟨#[99, 111, 109, 109, 105, 116]⟩, ⟨#[97, 98, 111, 114, 116]⟩] _ _ i (by simp) hi)).mono ?_
              rintro e w6 ⟨⟨i, hi9, rfl⟩, L6⟩
              have D6 := Seg.hid ((D5.out.alloc HC.out _).lft2 HC.out L6)
              clear D4 D5 L6 hi9 d5b f5b
              generalize [(⟨#[99, 111, 109, 109, 105, 116]⟩ : ByteArray), ⟨#[97, 98, 111, 114, 116]⟩].getD i default = s
              have e6 : (w6.alloc (.cells #[.int .i64 nw, .bool true, .string s, .bool false, .string ⟨#[]⟩, .slice none 0 0] 36)).cell? ⟨w3.heap.size, 6, none⟩ = some rv := (D6.out.alloc HC.out _).cell 6 _ rfl
              have f6 : (w6.alloc (.cells #[.int .i64 nw, .bool true, .string s, .bool false, .string ⟨#[]⟩, .slice none 0 0] 36)).frozen? ⟨w3.heap.size, 6, none⟩ = false := (D6.out.alloc HC.out _).free 6
              have D7 := Seg.hid (D6.out.fresh HC.out ⟨nw, true, s, false, ⟨#[]⟩, []⟩ rfl)
              clear D6
              go_wp2_with fail
              exact JE _ _ _ _ _ _ _ _ _ _ _ _ _ _ _ _ _ _ _ _ _ _ _ _ _ _ _ _ _ _ _ _ _ _ _ _ _ _ _ _ _ _ _ _ _ _ _ _ _ _ _ _ _ _ _ _ _ _ _ _ _ _ _ _ _ _ _ _ _ _ _ _ _ _ _ _ _ _ _ _ _ _ _ _ _ _ _ _ _ _ _ _ _ (by simp) (by simp) D7
          · go_wp2_with fail
            exact JE _ _ _ _ _ _ _ _ _ _ _ _ _ _ _ _ _ _ _ _ _ _ _ _ _ _ _ _ _ _ _ _ _ _ _ _ _ _ _ _ _ _ _ _ _ _ _ _ _ _ _ _ _ _ _ _ _ _ _ _ _ _ _ _ _ _ _ _ _ _ _ _ _ _ _ _ _ _ _ _ _ _ _ _ _ _ _ _ _ _ _ _ _ hp1 hps D1
        clear aD
        go_wp2_with fail
        refine (Draw.below_any b A n c m _ D1.out.lft.cur hm1 (by omega)).mono ?_
        rintro e w4 ⟨⟨y0, hy1, hy2, rfl⟩, L4⟩
        obtain ⟨y, rfl⟩ := Int.eq_ofNat_of_zero_le hy1
        have D4 := Seg.hid (D1.out.lft2 HC.out L4)
        clear D1 L4
        go_wp2_with fail
        go_loopw [8, 9] (fun nv iv wr => ∃ (nw : Int) (k : Nat) (rv : Value) (ps : List (Rec × Value)), nv = .int .i64 nw ∧ iv = .int .i64 k ∧ 1 ≤ k + ps.length ∧ k + ps.length ≤ 1000 ∧ Hid (DB w wr w3.heap.size b A n c t rv ps)) (fun _ iv _ => (intOf iv).toNat)
        case atStart => exact ⟨_, y + 1, _, [], rfl, by go_num, by simp, by simp; omega, D4⟩
        case round =>
          clear D4 hy1 hy2
          obtain ⟨nw, k, rv, ps, rfl, rfl, hk1, hk, D5⟩ := hrel
          obtain ⟨A1, c1, rfl⟩ := D5.out.hs.form
          by_cases h0 : 0 < k
          · have hki : (0 : Int) < (k : Int) := by omega
            have d6 := D5.out.cell 6 (.slice A1 ps.length c1) rfl
            have f6 := D5.out.free 6
            go_wp2_with fail
            go_region_law
              ((first | (go_simp; go_at_call 96; refine (DrawD.record_any b A n c ver nw wr.drew D5.out.drew.lft.cur).mono ?_; rintro e w8 ⟨v8, r8, hv8, ⟨x8, hx8, hh8⟩, L8⟩; obtain ⟨hn8, A8, c8, hs8, _⟩ := id hh8; subst hs8 hx8 hv8; have D8 := Seg.hid (D5.out.drew.lft2 HC.out L8); have K8 : w8.cell? ⟨w3.heap.size, 6, none⟩ = some (.slice A1 ps.length c1) := D8.out.cell 6 _ rfl; have hl8 := D8.out.lt; have HH8 := Seg.hid hh8; have LL8 := Seg.hid L8; clear hh8 L8 hn8; unfold recVal) | (refine step_append_lies _ (by rfl) _ _ _ (by rfl) (w3.heap.size + 1) 36 i0 _ 6 80 Try.underlying24 hi hz0 hz1 hz2 rfl (by decide) (.slice A1 ps.length c1) ps.length (RsO.rcells ps) (by rfl) (World.ownsRow.alloc D8.out.hs.own _) ⟨w8.heap.size, 0, none⟩ 1 1 (RecW.recArr r8 (.slice A8 r8.heads.length c8)).toList (by rfl) (by rfl) (World.news_of_block (cs := RecW.recArr r8 (.slice A8 r8.heads.length c8)) (heap_alloc_new w8 _)) (by simp [RecW.recArr, Value.oneCell']) (by decide) (by unfold maxLen; omega) (by omega) (by rw [hsz]; omega) (w8.heap.size + 1) (hsz w8 _) ?_; intro g9 cap9 w9 hown9 gr9 hat9 hlt9; have q6 := (D8.out.push6 gr9).1; have p6 := (D8.out.push6 gr9).2; have D9 := Seg.hid (D5.out.drew.pushed HC.out LL8.out HH8.out gr9 hown9 (fun g e => by cases e; exact hat9.imp id (fun h => by have h' : g9 = w8.heap.size + 1 := h; show w8.heap.size ≤ g9; omega))); clear hown9 gr9 hat9 hlt9)))
            all_goals
              clear D5 D8 K8 HH8 LL8 d6 f6 q6 p6
              go_wp2_with fail
              refine (Draw.below_any b A n c 20 _ D9.out.lft.cur (by decide) (by decide)).mono ?_
              rintro e w10 ⟨⟨y2, hy1, hy2, rfl⟩, L10⟩
              have D10 := Seg.hid (D9.out.lft2 HC.out L10)
              clear D9 L10 hy1 hy2
              have hl : k - 1 + (ps.length + 1) ≤ 1000 := by omega
              go_wp2_with fail
              all_goals
                go_roundw
                case rel => exact ⟨_, k - 1, _, _, rfl, by go_num, by rw [List.length_append]; show 1 ≤ k - 1 + (ps.length + 1); omega, by rw [List.length_append]; exact hl, D10⟩
                case measure => simp [intOf]; omega
          · have hki : ¬ (0 : Int) < (k : Int) := by omega
            go_wp2_with fail
            exact JD _ _ _ _ _ _ _ _ _ _ _ _ _ _ _ _ _ _ _ _ _ _ _ _ _ _ _ _ _ _ _ _ _ _ _ _ _ _ _ _ _ _ _ _ _ _ _ _ _ _ _ _ _ _ _ _ _ _ _ _ _ _ _ _ _ _ _ _ _ _ _ _ _ _ _ (by omega) (by omega) D5
      clear aC
      refine (Draw.once_any b A n c 8 _ D4.out.lft.cur (by decide) (by decide)).mono ?_
      rintro e w5 ⟨⟨t5, rfl⟩, L5⟩
      have D5 := Seg.hid (D4.out.lft2 HC.out L5)
      clear D4 L5
      cases t5
      · go_wp2_with fail
        exact JC _ _ _ _ _ _ _ _ _ _ _ _ _ _ _ _ _ _ _ _ _ _ _ _ _ _ _ _ _ _ _ _ _ _ _ _ _ _ _ _ _ _ _ _ D5
      · go_wp2_with fail
        refine (Draw.pickInt_any b A n c w5.heap.size 3 (fun i => ([0, 1000000000000, 999999999995] : List Int).getD i 0) _ (D5.out.alloc HC.out _).lft.cur (by decide) (by decide) (by rw [hsz]; omega) (by have := D5.out.lt; have := D5.out.hq; omega) (fun i hi => nums _ [0, 1000000000000, 999999999995] _ _ i rfl hi)).mono ?_
        rintro e w6 ⟨⟨i, hi9, rfl⟩, L5⟩
        have D6 := Seg.hid ((D5.out.alloc HC.out _).lft2 HC.out L5)
        generalize ([0, 1000000000000, 999999999995] : List Int).getD i 0 = y
        clear D5 L5 hi9
        go_wp2_with fail
        exact JC _ _ _ _ _ _ _ _ _ _ _ _ _ _ _ _ _ _ _ _ _ _ _ _ _ _ _ _ _ _ _ _ _ _ _ _ _ _ _ _ _ _ _ _ D6
    clear aB
    by_cases hver : ver = 2
    · subst hver
      go_wp2_with fail
      refine (Draw.once_any b A n c 2 _ D1.out.lft.cur (by decide) (by decide)).mono ?_
      rintro e w4 ⟨⟨t4, rfl⟩, L5⟩
      have D4 := Seg.hid (D1.out.lft2 HC.out L5)
      clear D1 L5
      cases t4
      · go_wp2_with fail
        exact JB _ _ _ _ _ _ _ _ _ _ _ _ _ _ _ _ _ _ _ _ _ _ _ _ _ _ _ _ _ _ _ _ _ _ _ _ D4
      · go_wp2_with fail
        refine (Draw.below_any b A n c 4 _ D4.out.lft.cur (by decide) (by decide)).mono ?_
        rintro e w5 ⟨⟨y5, hy1, hy2, rfl⟩, L5⟩
        have D5 := Seg.hid (D4.out.lft2 HC.out L5)
        clear D4 L5 hy1 hy2
        have d1 := D5.out.free 2
        have d2 := D5.out.cell 2 _ rfl
        have D6 := Seg.hid (D5.out.set HC.out 2 (.int .i64 y5) ⟨t.base, t.epoch, y5, t.turn, t.seq, t.flags, t.recs⟩ rfl)
        clear D5
        go_wp2_with fail
        clear d1 d2
        refine (Draw.below_any b A n c 3 _ D6.out.lft.cur (by decide) (by decide)).mono ?_
        rintro e w7 ⟨⟨y7, hy1, hy2, rfl⟩, L5⟩
        have D7 := Seg.hid (D6.out.lft2 HC.out L5)
        clear D6 L5 hy1 hy2
        have d1 := D7.out.free 3
        have d2 := D7.out.cell 3 _ rfl
        have D8 := Seg.hid (D7.out.set HC.out 3 (.int .i64 y7) ⟨t.base, t.epoch, y5, y7, t.seq, t.flags, t.recs⟩ rfl)
        clear D7
        go_wp2_with fail
        clear d1 d2
        refine (Draw.below_any b A n c 20 _ D8.out.lft.cur (by decide) (by decide)).mono ?_
        rintro e w9 ⟨⟨y9, hy1, hy2, rfl⟩, L5⟩
        have D9 := Seg.hid (D8.out.lft2 HC.out L5)
        clear D8 L5 hy1 hy2
        have d1 := D9.out.free 4
        have d2 := D9.out.cell 4 _ rfl
        have D10 := Seg.hid (D9.out.set HC.out 4 (.int .i64 y9) ⟨t.base, t.epoch, y5, y7, y9, t.flags, t.recs⟩ rfl)
        clear D9
        go_wp2_with fail
        clear d1 d2
        refine (Draw.once_any b A n c 3 _ D10.out.lft.cur (by decide) (by decide)).mono ?_
        rintro e w11 ⟨⟨t11, rfl⟩, L5⟩
        have D11 := Seg.hid (D10.out.lft2 HC.out L5)
        clear D10 L5
        cases t11
        · go_wp2_with fail
          exact JB _ _ _ _ _ _ _ _ _ _ _ _ _ _ _ _ _ _ _ _ _ _ _ _ _ _ _ _ _ _ _ _ _ _ _ _ D11
        · have d1 := D11.out.free 5
          have d2 := D11.out.cell 5 (.int .i64 t.flags) rfl
          go_wp2_with fail
          exact JB _ _ _ _ _ _ _ _ _ _ _ _ _ _ _ _ _ _ _ _ _ _ _ _ _ _ _ _ _ _ _ _ _ _ _ _ (Seg.hid (D11.out.set HC.out 5 (.int .i64 (wrap64 (t.flags + 2))) ⟨t.base, t.epoch, y5, y7, y9, wrap64 (t.flags + 2), t.recs⟩ rfl))
    · have bv : (ver == 2) = false := beq_eq_false_iff_ne.2 hver
      go_wp2_with fail
      exact JB _ _ _ _ _ _ _ _ _ _ _ _ _ _ _ _ _ _ _ _ _ _ _ _ _ _ _ _ _ _ _ _ _ _ _ _ D1
  clear aA
  refine (Draw.once_any b A n c 10 _ D0.out.lft.cur (by decide) (by decide)).mono ?_
  rintro e w4 ⟨⟨t4, rfl⟩, L5⟩
  have D4 := Seg.hid (D0.out.lft2 HC.out L5)
  clear D0 L5
  cases t4
  · go_wp2_with fail
    exact JA _ _ _ _ _ _ _ _ _ _ _ _ _ _ _ _ hm1 hm2 D4
  · go_wp2_with fail
    refine (Draw.pickInt_any b A n c w4.heap.size 4 (fun i => ([1000000000, 999999999, 8191, 0] : List Int).getD i 0) _ (D4.out.alloc HC.out _).lft.cur (by decide) (by decide) (by rw [hsz]; omega) (by have := D4.out.lt; have := D4.out.hq; omega) (fun i hi => nums _ [1000000000, 999999999, 8191, 0] _ _ i rfl hi)).mono ?_
    rintro e w5 ⟨⟨i, hi9, rfl⟩, L5⟩
    have D5 := Seg.hid ((D4.out.alloc HC.out _).lft2 HC.out L5)
    generalize ([1000000000, 999999999, 8191, 0] : List Int).getD i 0 = y
    clear D4 L5 hi9
    have d1 := D5.out.free 0
    have d2 := D5.out.cell 0 _ rfl
    have D6 := Seg.hid (D5.out.set HC.out 0 (.int .i64 y) ⟨y, x2, -1, 0, 0, x3, []⟩ rfl)
    clear D5
    go_wp2_with fail
    exact JA _ _ _ _ _ _ _ _ _ _ _ _ _ _ _ _ (by decide) (by decide) D6
end Go.Proofs.Ytdnbcfochlfopaa.DrawE
