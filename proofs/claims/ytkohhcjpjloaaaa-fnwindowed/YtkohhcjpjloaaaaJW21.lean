/- A Query that is bent: its first Get's steps grow (way 12); Gets are added (way 13). -/
import Derived.Test.YtkohhcjpjloaaaaJW19
import Derived.Test.YtkohhcjpjloaaaaJW02
namespace Go.Proofs.Ytkohhcjpjloaaaa.DwE
set_option maxRecDepth 8000
open Go.RowKit
open Ls Lp QtP DsP QsP DwQ DwG DwC
open Draw (Cur Lft Bytes)
open Recs (hsz below1 below2 chain)
set_option linter.unusedVariables false
/-- A block of this call's own. -/
def Blk (w wr : World) (g : Nat) (cs : Array Value) (ty : Nat) : Prop := w.heap.size ≤ g ∧ wr.heap[g]? = some (.cells cs ty (0, 0))
theorem Blk.grown {w wr w' : World} {g : Nat} {cs : Array Value} {ty : Nat} {row : Option Nat} (h : Blk w wr g cs ty) (gr : wr.grownBy w' row) (hn : row ≠ some g) : Blk w w' g cs ty :=
  ⟨h.1, (gr.block _ (Array.getElem?_eq_some_iff.1 h.2).1 (Ne.symm hn)).trans h.2⟩
theorem Blk.draw {w wr w' : World} {g : Nat} {cs : Array Value} {ty : Nat} {b : Nat} {A : Option Addr} {n c : Nat} (h : Blk w wr g cs ty) (hb : b < w.heap.size) (l : Lft wr w' b A n c) : Blk w w' g cs ty :=
  h.grown l.grown (fun e => by have := h.1; cases e; omega)
theorem Blk.alloc {w wr : World} {g : Nat} {cs : Array Value} {ty : Nat} (h : Blk w wr g cs ty) (o : Obj) : Blk w (wr.alloc o) g cs ty :=
  h.grown (World.grownBy_alloc _ _ none) (by simp)
theorem Blk.new {w wr : World} (hl : w.heap.size ≤ wr.heap.size) (cs : Array Value) (ty : Nat) : Blk w (wr.alloc (.cells cs ty (0, 0))) wr.heap.size cs ty := ⟨hl, heap_alloc_new _ _⟩
theorem pickS_at {w wr : World} {b : Nat} {A : Option Addr} {n c gl : Nat} (l : List ByteArray) (hb : b < w.heap.size) (hc : Cur wr b A n c) {cs : Array Value} (hg : Blk w wr gl cs 9) (hl0 : 0 < l.length) (hl1 : l.length ≤ 1000) (hz : ∀ x ∈ l, x.size ≤ 10) (hcs : cs = (l.map Value.string).toArray) :
    Calls Try.prog 22 #[.pointer (some ⟨b, 0, none⟩), .slice (some ⟨gl, 0, none⟩) l.length l.length] wr fun e w' => (∃ x : ByteArray, x.size ≤ 10 ∧ e = .returned (.string x)) ∧ Lft wr w' b A n c := by
  subst hcs
  refine (Draw.pickc_any b A n c gl l.length l.length (fun i => l.getD i ⟨#[]⟩) _ hc hl0 hl1 (Array.getElem?_eq_some_iff.1 hg.2).1 (by have := hg.1; omega) (fun i hi => ?_)).mono ?_
  · rw [cell_of_row _ _ i _ _ (0, 0) hg.2]
    simp [hi]
  · rintro e w' ⟨⟨i, hi, rfl⟩, L⟩
    refine ⟨⟨_, hz _ ?_, rfl⟩, L⟩
    rw [List.getD_eq_getElem?_getD, List.getElem?_eq_getElem hi]; exact List.getElem_mem hi
/-- What the region reads. -/
theorem Qb.sx {w wr : World} {b : Nat} {A : Option Addr} {n c gq : Nat} {rb : Rb} {q : Qry} {v5 v6 : Value} {p0 : Gqt × Value} {r : List (Gqt × Value)} {g cap m : Nat} (h : Qb w wr b A n c gq rb q v5 v6 (.slice (some ⟨g, 0, none⟩) m cap) (p0 :: r)) : wr.cell? ⟨gq, 10, none⟩ = some (.slice (some ⟨g, 0, none⟩) m cap) ∧ wr.cell? ⟨g, 1, none⟩ = some p0.2 := by
  refine ⟨(qcells h.var).2.2.2.2.2.2.2.2.2.2, ?_⟩
  obtain ⟨g', cap', cur, e, _, _, _, h1, _⟩ := get0 h.o.gets
  simp only [Value.slice.injEq, Option.some.injEq, Addr.mk.injEq, and_true] at e
  obtain ⟨rfl, _⟩ := e
  exact h1
theorem Qb.sx3 {w wr : World} {b : Nat} {A : Option Addr} {n c gq : Nat} {rb : Rb} {q : Qry} {v5 v6 : Value} {p0 : Gqt × Value} {r : List (Gqt × Value)} {g cap m : Nat} (h : Qb w wr b A n c gq rb q v5 v6 (.slice (some ⟨g, 0, none⟩) m cap) (p0 :: r)) : wr.cell? ⟨gq, 10, none⟩ = some (.slice (some ⟨g, 0, none⟩) m cap) ∧ wr.cell? ⟨g, 0, none⟩ = some (.int .i64 p0.1.kind) ∧ wr.cell? ⟨g, 1, none⟩ = some p0.2 := by
  refine ⟨(qcells h.var).2.2.2.2.2.2.2.2.2.2, ?_⟩
  obtain ⟨g', cap', cur, e, _, _, h0, h1, _⟩ := get0 h.o.gets
  simp only [Value.slice.injEq, Option.some.injEq, Addr.mk.injEq, and_true] at e
  obtain ⟨rfl, _⟩ := e
  exact ⟨h0, h1⟩
/-- As Qb, but nothing is said of the first Get's steps. -/
structure Qm (w wr : World) (b : Nat) (A : Option Addr) (n c gq : Nat) (rb : Rb) (q : Qry) (v5 v6 v10 : Value) (p0 : Gqt × Value) (r : List (Gqt × Value)) : Prop where
  lft : Lft w wr b A n c
  wh : SRow wr w.heap.size v5 q.wh
  gps : Row wr w.heap.size v6 q.gps
  gets : GRow wr w.heap.size v10 (p0 :: r)
  el : ∀ p, p ∈ r → SRow wr w.heap.size p.2 p.1.steps
  sz : Sb q (p0 :: r)
  var : wr.heap[gq]? = some (.cells (qv q v5 v6 v10) 28 (0, 0))
  gql : w.heap.size ≤ gq
  res : Res w wr gq rb
/-- Where the steps lie. -/
def Out (v5 : Value) (r : List (Gqt × Value)) (y : Nat) : Prop := v5.ownBlock ≠ some y ∧ ∀ p, p ∈ r → p.2.ownBlock ≠ some y
theorem Qb.far {w wr : World} {b : Nat} {A : Option Addr} {n c gq : Nat} {rb : Rb} {q : Qry} {v5 v6 v10 : Value} {p0 : Gqt × Value} {r : List (Gqt × Value)} (h : Qb w wr b A n c gq rb q v5 v6 v10 (p0 :: r)) : Out v5 (p0 :: r) wr.heap.size :=
  ⟨fun e => by have := (own_ty h.o.wh e).2.1; omega, fun p hp e => by have := (own_ty (h.o.el p hp) e).2.1; omega⟩
theorem Qm.far {w wr : World} {b : Nat} {A : Option Addr} {n c gq : Nat} {rb : Rb} {q : Qry} {v5 v6 v10 : Value} {p0 : Gqt × Value} {r : List (Gqt × Value)} (h : Qm w wr b A n c gq rb q v5 v6 v10 p0 r) : Out v5 r wr.heap.size :=
  ⟨fun e => by have := (own_ty h.wh e).2.1; omega, fun p hp e => by have := (own_ty (h.el p hp) e).2.1; omega⟩
/-- Steps are written into a block that is not the others'. -/
theorem Qm.grown {w wr w' : World} {b : Nat} {A : Option Addr} {n c gq : Nat} {rb : Rb} {q : Qry} {v5 v6 v10 : Value} {p0 : Gqt × Value} {r : List (Gqt × Value)} {row : Option Nat} (h0 : Cur w b A n c) (h : Qm w wr b A n c gq rb q v5 v6 v10 p0 r) (gr : wr.grownBy w' row) (hr : ∀ y, row = some y → w.heap.size ≤ y ∧ (∃ cur, wr.heap[y]? = some (.cells cur 55 (0, 0))) ∧ Out v5 r y) : Qm w w' b A n c gq rb q v5 v6 v10 p0 r := by
  have nq : ∀ {k : Nat} {a0 : Array Value}, wr.heap[k]? = some (.cells a0 28 (0, 0)) → row ≠ some k := fun hv e => by
    obtain ⟨_, ⟨cur, hc⟩, _⟩ := hr _ e
    rw [hv] at hc
    simp only [Option.some.injEq, Obj.cells.injEq] at hc
    exact absurd hc.2.1 (by decide)
  have kT : ∀ {ty k m : Nat} {v : Value} {l : List Value}, wr.ownsRow w.heap.size ty k v m l → ty ≠ 55 → w'.ownsRow w.heap.size ty k v m l := fun hh ht => keepRow hh gr (fun y hy => by obtain ⟨_, ⟨cur, hc⟩, _⟩ := hr y hy; exact .inr (.inl ⟨cur, _, hc, Ne.symm ht⟩))
  exact ⟨DrawB.Lft.above h0 h.lft gr (fun k hk => (hr k hk).1), keepRow h.wh gr (fun y hy => .inr (.inr (hr y hy).2.2.1)), kT h.gps (by decide), kT h.gets (by decide), fun p hp => keepRow (h.el p hp) gr (fun y hy => .inr (.inr ((hr y hy).2.2.2 p hp))), h.sz, (gr.block _ (Array.getElem?_eq_some_iff.1 h.var).1 (Ne.symm (nq h.var))).trans h.var, h.gql, h.res.keep gr (nq h.res.1.1) (nq h.res.1.2)⟩
theorem Qb.mid {w wr : World} {b : Nat} {A : Option Addr} {n c gq : Nat} {rb : Rb} {q : Qry} {v5 v6 v10 : Value} {p0 : Gqt × Value} {r : List (Gqt × Value)} (h : Qb w wr b A n c gq rb q v5 v6 v10 (p0 :: r)) : Qm w wr b A n c gq rb q v5 v6 v10 p0 r :=
  ⟨h.o.lft, h.o.wh, h.o.gps, h.o.gets, fun p hp => h.o.el p (List.mem_cons_of_mem _ hp), h.o.sz, h.var, h.gql, h.res⟩
theorem Qb.push0 {w wr w' : World} {b : Nat} {A : Option Addr} {n c gq : Nat} {rb : Rb} {q : Qry} {v5 v6 v10 : Value} {p0 : Gqt × Value} {r : List (Gqt × Value)} (h0 : Cur w b A n c) (h : Qb w wr b A n c gq rb q v5 v6 v10 (p0 :: r)) (hd : ∀ y, p0.2.ownBlock = some y → Out v5 r y) (gr : wr.grownBy w' p0.2.ownBlock) : Qm w w' b A n c gq rb q v5 v6 v10 p0 r :=
  (Qb.mid h).grown h0 gr (fun y hy => by
    have := own_ty (h.o.el p0 (List.mem_cons_self ..)) hy
    exact ⟨this.1, this.2.2, hd y hy⟩)
theorem Qm.alloc {w wr : World} {b : Nat} {A : Option Addr} {n c gq : Nat} {rb : Rb} {q : Qry} {v5 v6 v10 : Value} {p0 : Gqt × Value} {r : List (Gqt × Value)} (h0 : Cur w b A n c) (h : Qm w wr b A n c gq rb q v5 v6 v10 p0 r) (o : Obj) : Qm w (wr.alloc o) b A n c gq rb q v5 v6 v10 p0 r :=
  h.grown h0 (World.grownBy_alloc _ _ none) (fun y hy => by cases hy)
theorem Qm.sx {w wr : World} {b : Nat} {A : Option Addr} {n c gq : Nat} {rb : Rb} {q : Qry} {v5 v6 : Value} {p0 : Gqt × Value} {r : List (Gqt × Value)} {g cap m : Nat} (h : Qm w wr b A n c gq rb q v5 v6 (.slice (some ⟨g, 0, none⟩) m cap) p0 r) : wr.cell? ⟨gq, 10, none⟩ = some (.slice (some ⟨g, 0, none⟩) m cap) ∧ wr.cell? ⟨g, 1, none⟩ = some p0.2 := by
  refine ⟨(qcells h.var).2.2.2.2.2.2.2.2.2.2, ?_⟩
  obtain ⟨g', cap', cur, e, _, _, _, h1, _⟩ := get0 h.gets
  simp only [Value.slice.injEq, Option.some.injEq, Addr.mk.injEq, and_true] at e
  obtain ⟨rfl, _⟩ := e
  exact h1
theorem empty_at {w wr : World} {g : Nat} (h : Blk w wr g #[] 55) : SRow wr w.heap.size (.slice (some ⟨g, 0, none⟩) 0 0) [] :=
  ⟨rfl, .inr ⟨g, 0, #[], rfl, h.1, h.2, by simp, by unfold maxLen; omega, by simp, rfl⟩⟩
/-- The first Get's steps are written. -/
theorem Qm.setS {w wr : World} {b : Nat} {A : Option Addr} {n c gq : Nat} {rb : Rb} {q : Qry} {v5 v6 : Value} {r : List (Gqt × Value)} {k0 : Gqt} {vp : Value} {g cap m : Nat} {v : Value} {ss : List Stp} (h0 : Cur w b A n c) (h : Qm w wr b A n c gq rb q v5 v6 (.slice (some ⟨g, 0, none⟩) m cap) (k0, vp) r) (hp : SRow wr w.heap.size v ss) (hs : ss.length ≤ 20 ∧ Sm ss) : Qb w (wr.setCell ⟨g, 1, none⟩ v) b A n c gq rb { q with gets := { k0 with steps := ss } :: r.map Prod.fst } v5 v6 (.slice (some ⟨g, 0, none⟩) m cap) (({ k0 with steps := ss }, v) :: r) := by
  have gr := Draw.grown_setCell wr g 1 v
  obtain ⟨hb1, hb2, cur, hc⟩ := own_ty h.gets (y := g) rfl
  have nq : ∀ {k : Nat} {a0 : Array Value}, wr.heap[k]? = some (.cells a0 28 (0, 0)) → g ≠ k := fun hv e => by
    subst e
    rw [hv] at hc
    simp only [Option.some.injEq, Obj.cells.injEq] at hc
    exact absurd hc.2.1 (by decide)
  have kS : ∀ {ty k m : Nat} {v' : Value} {l : List Value}, wr.ownsRow w.heap.size ty k v' m l → ty ≠ 35 → (wr.setCell ⟨g, 1, none⟩ v).ownsRow w.heap.size ty k v' m l := fun hh ht => keepRow hh gr (fun y hy => .inr (.inl (by cases hy; exact ⟨cur, _, hc, Ne.symm ht⟩)))
  refine ⟨⟨DrawB.Lft.above h0 h.lft gr (fun k hk => by cases hk; exact hb1), kS h.wh (by decide), kS h.gps (by decide), grow_set h.gets (p1 := ({ k0 with steps := ss }, v)) rfl (by decide), fun p hp' => ?_, rfl, ⟨h.sz.names, h.sz.wh, h.sz.gps, h.sz.gets.1, fun p hp' => ?_⟩⟩, (gr.block _ (Array.getElem?_eq_some_iff.1 h.var).1 (by simp only [ne_eq, Option.some.injEq]; exact Ne.symm (nq h.var))).trans ?_, h.gql, h.res.keep gr (fun e => nq h.res.1.1 (Option.some.inj e)) (fun e => nq h.res.1.2 (Option.some.inj e))⟩
  · rcases List.mem_cons.1 hp' with rfl | h1
    · exact kS hp (by decide)
    · exact kS (h.el p h1) (by decide)
  · rcases List.mem_cons.1 hp' with rfl | h1
    · exact ⟨(h.sz.gets.2 (k0, vp) (List.mem_cons_self ..)).1, hs⟩
    · exact h.sz.gets.2 p (List.mem_cons_of_mem _ h1)
  · exact h.var
end Go.Proofs.Ytkohhcjpjloaaaa.DwE
