/- A Get in a variable of its own, while a Query is drawn; A Query that is bent: the variable's block and the result's. -/
import Derived.Deep.MidRow
import Derived.Test.YtkohhcjpjloaaaaJW18
namespace Go.Proofs.Ytkohhcjpjloaaaa.DwG
set_option maxRecDepth 8000
open Go.RowKit
open Ls Lp QtP DsP QsP DwQ
open Draw (Cur Lft Bytes)
open Recs (hsz below1 below2 chain)
set_option linter.unusedVariables false
theorem infoQ : (Try.prog.info? 28).map (·.size) = some 11 := by kernel_rfl
theorem infoG : (Try.prog.info? 35).map (·.size) = some 3 := by kernel_rfl
theorem grown_setCells (g : Nat) : ∀ (vs : List Value) (o : Nat) (w : World), w.grownBy (w.setCells g o vs) (some g)
  | [], _, w => World.grownBy.refl w _
  | v :: vs, o, w => (Draw.grown_setCell w g o v).trans (grown_setCells g vs (o + 1) _)
abbrev nms : List ByteArray := [⟨#[112]⟩, ⟨#[113]⟩, ⟨#[114]⟩, ⟨#[116, 111, 116, 97, 108]⟩]
/-- Besides the names that the Gets are given. -/
structure Qn (w wr : World) (b : Nat) (A : Option Addr) (n c gq : Nat) (q : Qry) (v5 v6 v10 vc : Value) (cs : List ByteArray) (ps : List (Gqt × Value)) (gN : Nat) : Prop where
  s : Qs w wr b A n c gq q v5 v6 v10 vc cs ps
  nm : Row wr w.heap.size (.slice (some ⟨gN, 0, none⟩) 4 4) nms
theorem Qn.draw {w wr : World} {b : Nat} {A : Option Addr} {n c gq : Nat} {q : Qry} {v5 v6 v10 vc : Value} {cs : List ByteArray} {ps : List (Gqt × Value)} {gN : Nat} {w' : World} (h : Qn w wr b A n c gq q v5 v6 v10 vc cs ps gN) (hb : b < w.heap.size) (l : Lft wr w' b A n c) : Qn w w' b A n c gq q v5 v6 v10 vc cs ps gN :=
  ⟨h.s.draw hb l, keepRow h.nm l.grown (fun y hy => .inl (by cases hy; exact hb))⟩
theorem Qn.alloc {w wr : World} {b : Nat} {A : Option Addr} {n c gq : Nat} {q : Qry} {v5 v6 v10 vc : Value} {cs : List ByteArray} {ps : List (Gqt × Value)} {gN : Nat} (h : Qn w wr b A n c gq q v5 v6 v10 vc cs ps gN) (hb : b < w.heap.size) (o : Obj) : Qn w (wr.alloc o) b A n c gq q v5 v6 v10 vc cs ps gN :=
  h.draw hb ⟨h.s.o.lft.cur.alloc o, World.grownBy_alloc _ _ _⟩
theorem Qn.drew {w wr : World} {b : Nat} {A : Option Addr} {n c gq : Nat} {q : Qry} {v5 v6 v10 vc : Value} {cs : List ByteArray} {ps : List (Gqt × Value)} {gN : Nat} (h : Qn w wr b A n c gq q v5 v6 v10 vc cs ps gN) (hb : b < w.heap.size) : Qn w wr.drew b A n c gq q v5 v6 v10 vc cs ps gN :=
  h.draw hb ⟨h.s.o.lft.cur.drew, Draw.grown_drew (World.grownBy.refl _ _)⟩
theorem Qn.at_ {w wr : World} {b : Nat} {A : Option Addr} {n c gq : Nat} {q : Qry} {v5 v6 v10 vc : Value} {cs : List ByteArray} {ps : List (Gqt × Value)} {gN : Nat} (h : Qn w wr b A n c gq q v5 v6 v10 vc cs ps gN) (i : Nat) (hi : i < 4) : wr.cell? ⟨gN, i, none⟩ = some (.string (nms.getD i ⟨#[]⟩)) ∧ (nms.getD i ⟨#[]⟩).size ≤ 10 := by
  refine ⟨?_, ?_⟩
  · have := World.ownsRow.cellAt h.nm i (by simpa using hi)
    rw [this]
    rcases i with _ | _ | _ | _ | i
    · rfl
    · rfl
    · rfl
    · rfl
    · omega
  · rcases i with _ | _ | _ | _ | i
    · decide
    · decide
    · decide
    · decide
    · omega
theorem Qn.other {w wr : World} {b : Nat} {A : Option Addr} {n c gq : Nat} {q : Qry} {v5 v6 v10 vc : Value} {cs : List ByteArray} {ps : List (Gqt × Value)} {gN : Nat} (h0 : Cur w b A n c) (h : Qn w wr b A n c gq q v5 v6 v10 vc cs ps gN) {g : Nat} {cur : Array Value} (hT : wr.heap[g]? = some (.cells cur 35 (0, 0))) (hg : w.heap.size ≤ g) (hne : v10.ownBlock ≠ some g) {w' : World} (gr : wr.grownBy w' (some g)) : Qn w w' b A n c gq q v5 v6 v10 vc cs ps gN := by
  have k5 : ∀ t, t ≠ 35 → ∀ y, some g = some y → y < w.heap.size ∨ (∃ cur t', wr.heap[y]? = some (.cells cur t' (0, 0)) ∧ t' ≠ t) := fun t ht y hy => by cases hy; exact .inr ⟨cur, _, hT, Ne.symm ht⟩
  have hgq : gq ≠ g := fun e => by
    have hv := h.s.var
    rw [e, hT] at hv
    simp only [Option.some.injEq, Obj.cells.injEq] at hv
    exact absurd hv.2.1 (by decide)
  exact ⟨⟨⟨DrawB.Lft.above h0 h.s.o.lft gr (fun k hk => by cases hk; exact hg), keepRow h.s.o.wh gr (fun y hy => (k5 _ (by decide) y hy).imp id .inl), keepRow h.s.o.gps gr (fun y hy => (k5 _ (by decide) y hy).imp id .inl), keepRow h.s.o.gets gr (fun y hy => by cases hy; exact .inr (.inr hne)), fun p hp => keepRow (h.s.o.el p hp) gr (fun y hy => (k5 _ (by decide) y hy).imp id .inl), h.s.o.hm, h.s.o.sz, h.s.o.dis⟩, (gr.block _ (Array.getElem?_eq_some_iff.1 h.s.var).1 (by simp only [ne_eq, Option.some.injEq]; exact hgq)).trans h.s.var, h.s.gql, keepRow h.s.cols gr (fun y hy => (k5 _ (by decide) y hy).imp id .inl), h.s.csz, h.s.ap⟩, keepRow h.nm gr (fun y hy => (k5 _ (by decide) y hy).imp id .inl)⟩
theorem Qn.pushP {w wr : World} {b : Nat} {A : Option Addr} {n c gq : Nat} {q : Qry} {v5 v6 v10 vc : Value} {cs : List ByteArray} {ps : List (Gqt × Value)} {gN : Nat} {w9 : World} {v10' : Value} {p : Gqt × Value} (h0 : Cur w b A n c) (h : Qn w wr b A n c gq q v5 v6 v10 vc cs ps gN) (hown : w9.ownsRow w.heap.size 35 3 v10' (ps.length + 1) (gcells ps ++ gc1 p)) (gr : wr.grownBy w9 v10.ownBlock) (hl : ps.length + 1 ≤ 10) (hp : SRow wr w.heap.size p.2 p.1.steps) (hs : p.1.nm.size ≤ 10 ∧ p.1.steps.length ≤ 10 ∧ Sm p.1.steps) (hfr : ∀ y, p.2.ownBlock = some y → v5.ownBlock ≠ some y ∧ ∀ p', p' ∈ ps → p'.2.ownBlock ≠ some y) : w9.heap[gq]? = some (.cells (qv q v5 v6 v10) 28 (0, 0)) ∧ Qn w (w9.setCell ⟨gq, 10, none⟩ v10') b A n c gq { q with gets := q.gets ++ [p.1] } v5 v6 v10' vc cs (ps ++ [p]) gN := by
  obtain ⟨hv9, hq⟩ := h.s.pushP h0 hown gr hl hp hs hfr
  refine ⟨hv9, hq, keepRow (keepRow h.nm gr (fun y hy => .inr (.inl ?_))) (Draw.grown_setCell w9 gq 10 v10') (fun y hy => by cases hy; exact .inr (.inl ⟨_, _, hv9, by decide⟩))⟩
  obtain ⟨_, _, cur, hc⟩ := own_ty h.s.o.gets hy
  exact ⟨cur, _, hc, by decide⟩
/-- The Get's variable. -/
structure Gs (w wr : World) (b : Nat) (A : Option Addr) (n c gq : Nat) (q : Qry) (v5 v6 v10 vc : Value) (cs : List ByteArray) (ps : List (Gqt × Value)) (gN g : Nat) (gt : Gqt) (v : Value) : Prop where
  q : Qn w wr b A n c gq q v5 v6 v10 vc cs ps gN
  var : wr.heap[g]? = some (.cells #[.int .i64 gt.kind, v, .string gt.nm] 35 (0, 0))
  row : SRow wr w.heap.size v gt.steps
  sz : gt.nm.size ≤ 10 ∧ gt.steps.length ≤ 10 ∧ Sm gt.steps
  fr : ∀ y, v.ownBlock = some y → v5.ownBlock ≠ some y ∧ ∀ p', p' ∈ ps → p'.2.ownBlock ≠ some y
  gl : w.heap.size ≤ g
  ne : v10.ownBlock ≠ some g
theorem Gs.draw {w wr : World} {b : Nat} {A : Option Addr} {n c gq : Nat} {q : Qry} {v5 v6 v10 vc : Value} {cs : List ByteArray} {ps : List (Gqt × Value)} {gN : Nat} {w' : World} {g : Nat} {gt : Gqt} {v : Value} (h : Gs w wr b A n c gq q v5 v6 v10 vc cs ps gN g gt v) (hb : b < w.heap.size) (l : Lft wr w' b A n c) : Gs w w' b A n c gq q v5 v6 v10 vc cs ps gN g gt v :=
  ⟨h.q.draw hb l, (l.grown.block _ (Array.getElem?_eq_some_iff.1 h.var).1 (by have := h.gl; simp; omega)).trans h.var, keepRow h.row l.grown (fun y hy => .inl (by cases hy; exact hb)), h.sz, h.fr, h.gl, h.ne⟩
theorem Gs.setK {w wr : World} {b : Nat} {A : Option Addr} {n c gq : Nat} {q : Qry} {v5 v6 v10 vc : Value} {cs : List ByteArray} {ps : List (Gqt × Value)} {gN : Nat} {g : Nat} {gt : Gqt} {v : Value} (h0 : Cur w b A n c) (h : Gs w wr b A n c gq q v5 v6 v10 vc cs ps gN g gt v) (k : Int) : Gs w (wr.setCell ⟨g, 0, none⟩ (.int .i64 k)) b A n c gq q v5 v6 v10 vc cs ps gN g { gt with kind := k } v :=
  ⟨h.q.other h0 h.var h.gl h.ne (Draw.grown_setCell _ _ _ _), heap_setCell_same wr g 0 _ _ _ h.var, keepRow h.row (Draw.grown_setCell wr g 0 _) (fun y hy => by cases hy; exact .inr (.inl ⟨_, _, h.var, by decide⟩)), h.sz, h.fr, h.gl, h.ne⟩
theorem Gs.setN {w wr : World} {b : Nat} {A : Option Addr} {n c gq : Nat} {q : Qry} {v5 v6 v10 vc : Value} {cs : List ByteArray} {ps : List (Gqt × Value)} {gN : Nat} {g : Nat} {gt : Gqt} {v : Value} (h0 : Cur w b A n c) (h : Gs w wr b A n c gq q v5 v6 v10 vc cs ps gN g gt v) : Gs w (wr.setCell ⟨g, 1, none⟩ (.slice none 0 0)) b A n c gq q v5 v6 v10 vc cs ps gN g { gt with steps := [] } (.slice none 0 0) :=
  ⟨h.q.other h0 h.var h.gl h.ne (Draw.grown_setCell _ _ _ _), heap_setCell_same wr g 1 _ _ _ h.var, nil_s _ _, ⟨h.sz.1, Nat.zero_le _, fun s hs => (by cases hs)⟩, fun y hy => (by simp [Value.ownBlock] at hy), h.gl, h.ne⟩
/-- The variable is written whole. -/
theorem Gs.make {w wr : World} {b : Nat} {A : Option Addr} {n c gq : Nat} {q : Qry} {v5 v6 v10 vc : Value} {cs : List ByteArray} {ps : List (Gqt × Value)} {gN : Nat} {g : Nat} {v : Value} {acc : List Stp} {cur : Array Value} (h0 : Cur w b A n c) (h : Qn w wr b A n c gq q v5 v6 v10 vc cs ps gN) (hv : wr.heap[g]? = some (.cells cur 35 (0, 0))) (hl : w.heap.size ≤ g) (hne : v10.ownBlock ≠ some g) (hr : SRow wr w.heap.size v acc) (fr : ∀ y, v.ownBlock = some y → v5.ownBlock ≠ some y ∧ ∀ p', p' ∈ ps → p'.2.ownBlock ≠ some y) (ha : acc.length ≤ 10) (hm : Sm acc) (x : ByteArray) (hx : x.size ≤ 10) (h3 : cur.size = 3) : wr.there g 0 3 ∧ Gs w (wr.setCells g 0 [.int .i64 0, v, .string x]) b A n c gq q v5 v6 v10 vc cs ps gN g ⟨0, acc, x⟩ v := by
  have gr : wr.grownBy (wr.setCells g 0 [.int .i64 0, v, .string x]) (some g) := grown_setCells _ _ _ _
  exact ⟨h3 ▸ Cells.there_of hv, h.other h0 hv hl hne gr, Cells.whole (vs := #[.int .i64 0, v, .string x]) hv h3, keepRow hr gr (fun y hy => by cases hy; exact .inr (.inl ⟨_, _, hv, by decide⟩)), ⟨hx, ha, hm⟩, fr, hl, hne⟩
/-- The value first, then its variable. -/
theorem Gs.makeC {w wr : World} {b : Nat} {A : Option Addr} {n c gq : Nat} {q : Qry} {v5 v6 v10 vc : Value} {cs : List ByteArray} {ps : List (Gqt × Value)} {gN : Nat} {w9 : World} {v : Value} {acc : List Stp} {cur : Array Value} (h0 : Cur w b A n c) (hb : b < w.heap.size) (h : Qn w wr b A n c gq q v5 v6 v10 vc cs ps gN) (l : Lft wr w9 b A n c) (hr : SRow w9 wr.heap.size v acc) (ha : acc.length ≤ 10) (hm : Sm acc) (x : ByteArray) (hx : x.size ≤ 10) (h3 : cur.size = 3) : (w9.alloc (.cells cur 35 (0, 0))).there w9.heap.size 0 3 ∧ Gs w ((w9.alloc (.cells cur 35 (0, 0))).setCells w9.heap.size 0 [.int .i64 0, v, .string x]) b A n c gq q v5 v6 v10 vc cs ps gN w9.heap.size ⟨0, acc, x⟩ v := by
  have h9 := h.draw hb l
  have hl := h.s.o.lft.grown.size
  have hl9 := l.grown.size
  refine Gs.make h0 (h9.alloc hb _) (heap_alloc_new _ _) (by omega) (fun e => ?_) (keepRow (row_weak hr hl) (World.grownBy_alloc _ _ none) (fun y hy => (by cases hy))) (fun y hy => ⟨fun e => ?_, fun p hp e => ?_⟩) ha hm x hx h3
  · have h2 := (own_ty h9.s.o.gets e).2.1
    omega
  · have h1 := (own_ty hr hy).1
    have h2 := (own_ty h.s.o.wh e).2.1
    omega
  · have h1 := (own_ty hr hy).1
    have h2 := (own_ty (h.s.o.el p hp) e).2.1
    omega
/-- The same, made and written at once. -/
theorem Gs.makeC0 {w wr : World} {b : Nat} {A : Option Addr} {n c gq : Nat} {q : Qry} {v5 v6 v10 vc : Value} {cs : List ByteArray} {ps : List (Gqt × Value)} {gN : Nat} {w9 : World} {v : Value} {acc : List Stp} (h0 : Cur w b A n c) (hb : b < w.heap.size) (h : Qn w wr b A n c gq q v5 v6 v10 vc cs ps gN) (l : Lft wr w9 b A n c) (hr : SRow w9 wr.heap.size v acc) (ha : acc.length ≤ 10) (hm : Sm acc) (x : ByteArray) (hx : x.size ≤ 10) : Gs w (w9.alloc (.cells #[.int .i64 0, v, .string x] 35 (0, 0))) b A n c gq q v5 v6 v10 vc cs ps gN w9.heap.size ⟨0, acc, x⟩ v := by
  have h9 := h.draw hb l
  have hl := h.s.o.lft.grown.size
  have hl9 := l.grown.size
  refine ⟨h9.alloc hb _, heap_alloc_new _ _, keepRow (row_weak hr hl) (World.grownBy_alloc _ _ none) (fun y hy => (by cases hy)), ⟨hx, ha, hm⟩, fun y hy => ⟨fun e => ?_, fun p hp e => ?_⟩, by omega, fun e => ?_⟩
  · have h1 := (own_ty hr hy).1
    have h2 := (own_ty h.s.o.wh e).2.1
    omega
  · have h1 := (own_ty hr hy).1
    have h2 := (own_ty (h.s.o.el p hp) e).2.1
    omega
  · have h2 := (own_ty h9.s.o.gets e).2.1
    omega
/-- The variable first. -/
theorem Gs.makeA {w wr : World} {b : Nat} {A : Option Addr} {n c gq : Nat} {q : Qry} {v5 v6 v10 vc : Value} {cs : List ByteArray} {ps : List (Gqt × Value)} {gN : Nat} {w9 : World} {v : Value} {acc : List Stp} {cur : Array Value} (h0 : Cur w b A n c) (hb : b < w.heap.size) (h : Qn w wr b A n c gq q v5 v6 v10 vc cs ps gN) (l : Lft (wr.alloc (.cells cur 35 (0, 0))) w9 b A n c) (hr : SRow w9 (wr.alloc (.cells cur 35 (0, 0))).heap.size v acc) (ha : acc.length ≤ 10) (hm : Sm acc) (x : ByteArray) (hx : x.size ≤ 10) (h3 : cur.size = 3) : w9.there wr.heap.size 0 3 ∧ Gs w (w9.setCells wr.heap.size 0 [.int .i64 0, v, .string x]) b A n c gq q v5 v6 v10 vc cs ps gN wr.heap.size ⟨0, acc, x⟩ v := by
  have hA := h.alloc hb (.cells cur 35 (0, 0))
  have h9 := hA.draw hb l
  have hl := h.s.o.lft.grown.size
  have hv : w9.heap[wr.heap.size]? = some (.cells cur 35 (0, 0)) := (l.grown.block _ (by rw [hsz]; omega) (by simp; omega)).trans (heap_alloc_new _ _)
  have hne : v10.ownBlock ≠ some wr.heap.size := fun e => by
    have h2 := (own_ty h.s.o.gets e).2.1
    omega
  refine Gs.make h0 h9 hv hl hne (row_weak hr (by rw [hsz]; omega)) (fun y hy => ⟨fun e => ?_, fun p hp e => ?_⟩) ha hm x hx h3
  · have h1 := (own_ty hr hy).1
    have h2 := (own_ty h.s.o.wh e).2.1
    rw [hsz] at h1
    omega
  · have h1 := (own_ty hr hy).1
    have h2 := (own_ty (h.s.o.el p hp) e).2.1
    rw [hsz] at h1
    omega
theorem Gs.cells3 {w wr : World} {b : Nat} {A : Option Addr} {n c gq : Nat} {q : Qry} {v5 v6 v10 vc : Value} {cs : List ByteArray} {ps : List (Gqt × Value)} {gN : Nat} {g : Nat} {gt : Gqt} {v : Value} (h : Gs w wr b A n c gq q v5 v6 v10 vc cs ps gN g gt v) : wr.cell? ⟨g, 0, none⟩ = some (.int .i64 gt.kind) ∧ wr.cell? ⟨g, 1, none⟩ = some v ∧ wr.cell? ⟨g, 2, none⟩ = some (.string gt.nm) :=
  ⟨cell_of_row wr g 0 _ _ (0, 0) h.var, cell_of_row wr g 1 _ _ (0, 0) h.var, cell_of_row wr g 2 _ _ (0, 0) h.var⟩
/-- The way out: the Query stands in the result's block, made ahead of all. -/
theorem Qn.out {w wr : World} {b : Nat} {A : Option Addr} {n c gq : Nat} {q : Qry} {v5 v6 v10 vc : Value} {cs : List ByteArray} {ps : List (Gqt × Value)} {gN : Nat} {w0 : World} {o0 : Obj} {cur : Array Value} (hw : w = w0.alloc o0) (hb : b < w0.heap.size) (h00 : Cur w0 b A n c) (h : Qn w wr b A n c gq q v5 v6 v10 vc cs ps gN) (hR : wr.heap[w0.heap.size]? = some (.cells cur 28 (0, 0))) (h3 : cur.size = 11) : wr.there w0.heap.size 0 11 ∧ (wr.setCells w0.heap.size 0 (qv q v5 v6 v10).toList).heap[w0.heap.size]? = some (.cells (qv q v5 v6 v10) 28 (0, 0)) ∧ Qo w0 (wr.setCells w0.heap.size 0 (qv q v5 v6 v10).toList) b A n c q v5 v6 v10 ps := by
  have hws : w.heap.size = w0.heap.size + 1 := by rw [hw, hsz]
  have gr : wr.grownBy (wr.setCells w0.heap.size 0 (qv q v5 v6 v10).toList) (some w0.heap.size) := grown_setCells _ _ _ _
  have l0 : Lft w0 wr b A n c := ⟨h.s.o.lft.cur, by
    have := h.s.o.lft.grown
    rw [hw] at this
    exact (World.grownBy_alloc _ _ _).trans this⟩
  have hf : ∀ t, t ≠ 28 → ∀ y, some w0.heap.size = some y → y < w0.heap.size ∨ (∃ cur t', wr.heap[y]? = some (.cells cur t' (0, 0)) ∧ t' ≠ t) := fun t ht y hy => by cases hy; exact .inr ⟨cur, _, hR, Ne.symm ht⟩
  have kw : ∀ {ty k m : Nat} {v : Value} {l : List Value}, wr.ownsRow w.heap.size ty k v m l → ty ≠ 28 → (wr.setCells w0.heap.size 0 (qv q v5 v6 v10).toList).ownsRow w0.heap.size ty k v m l := fun hr ht => keepRow (row_weak hr (by omega)) gr (fun y hy => (hf _ ht y hy).imp id .inl)
  exact ⟨h3 ▸ Cells.there_of hR, Cells.whole (vs := qv q v5 v6 v10) hR h3, ⟨DrawB.Lft.above h00 l0 gr (fun k hk => by cases hk; exact Nat.le_refl _), kw h.s.o.wh (by decide), kw h.s.o.gps (by decide), kw h.s.o.gets (by decide), fun p hp => kw (h.s.o.el p hp) (by decide), h.s.o.hm, h.s.o.sz, h.s.o.dis⟩⟩
end Go.Proofs.Ytkohhcjpjloaaaa.DwG
namespace Go.Proofs.Ytkohhcjpjloaaaa.DwC
set_option maxRecDepth 8000
open Go.RowKit
open Ls Lp QtP DsP QsP DwQ DwG
open Draw (Cur Lft Bytes)
open Recs (hsz below1 below2 chain)
set_option linter.unusedVariables false
/-- All is small. -/
structure Sb (q : Qry) (ps : List (Gqt × Value)) : Prop where
  names : q.fr.size ≤ 20 ∧ q.jn.size ≤ 20 ∧ q.on.size ≤ 20 ∧ q.lk.size ≤ 20
  wh : q.wh.length ≤ 20 ∧ Sm q.wh
  gps : q.gps.length ≤ 20 ∧ ∀ s, s ∈ q.gps → s.size ≤ 20
  gets : ps.length ≤ 20 ∧ ∀ p, p ∈ ps → p.1.nm.size ≤ 20 ∧ p.1.steps.length ≤ 20 ∧ Sm p.1.steps
structure Bo (w wr : World) (b : Nat) (A : Option Addr) (n c : Nat) (q : Qry) (v5 v6 v10 : Value) (ps : List (Gqt × Value)) : Prop where
  lft : Lft w wr b A n c
  wh : SRow wr w.heap.size v5 q.wh
  gps : Row wr w.heap.size v6 q.gps
  gets : GRow wr w.heap.size v10 ps
  el : ∀ p, p ∈ ps → SRow wr w.heap.size p.2 p.1.steps
  hm : q.gets = ps.map Prod.fst
  sz : Sb q ps
theorem of_qo {w wr : World} {b : Nat} {A : Option Addr} {n c : Nat} {q : Qry} {v5 v6 v10 : Value} {ps : List (Gqt × Value)} (h : Qo w wr b A n c q v5 v6 v10 ps) : Bo w wr b A n c q v5 v6 v10 ps := by
  obtain ⟨⟨a1, a2, a3, a4⟩, ⟨b1, b2⟩, ⟨c1, c2⟩, ⟨d1, d2⟩⟩ := h.sz
  exact ⟨h.lft, h.wh, h.gps, h.gets, h.el, h.hm, ⟨⟨by omega, by omega, by omega, by omega⟩, ⟨by omega, b2⟩, ⟨by omega, fun s hs => by have := c2 s hs; omega⟩, ⟨by omega, fun p hp => by obtain ⟨e1, e2, e3⟩ := d2 p hp; exact ⟨by omega, by omega, e3⟩⟩⟩⟩
theorem Bo.grown {w wr w' : World} {b : Nat} {A : Option Addr} {n c : Nat} {q : Qry} {v5 v6 v10 : Value} {ps : List (Gqt × Value)} {row : Option Nat} (h : Bo w wr b A n c q v5 v6 v10 ps) (g : wr.grownBy w' row) (hl : Lft w w' b A n c) (hr : ∀ y, row = some y → Far w wr y) : Bo w w' b A n c q v5 v6 v10 ps := by
  have k1 : ∀ y, row = some y → y < w.heap.size ∨ (∃ cur t, wr.heap[y]? = some (.cells cur t (0, 0)) ∧ t ≠ 55) := fun y hy => (hr y hy).imp id (fun ⟨cur, t, h1, h2, h3, h4⟩ => ⟨cur, t, h1, h2⟩)
  have k2 : ∀ y, row = some y → y < w.heap.size ∨ (∃ cur t, wr.heap[y]? = some (.cells cur t (0, 0)) ∧ t ≠ 9) := fun y hy => (hr y hy).imp id (fun ⟨cur, t, h1, h2, h3, h4⟩ => ⟨cur, t, h1, h3⟩)
  have k3 : ∀ y, row = some y → y < w.heap.size ∨ (∃ cur t, wr.heap[y]? = some (.cells cur t (0, 0)) ∧ t ≠ 35) := fun y hy => (hr y hy).imp id (fun ⟨cur, t, h1, h2, h3, h4⟩ => ⟨cur, t, h1, h4⟩)
  exact ⟨hl, keepRow h.wh g (fun y hy => (k1 y hy).imp id .inl), keepRow h.gps g (fun y hy => (k2 y hy).imp id .inl), keepRow h.gets g (fun y hy => (k3 y hy).imp id .inl), fun p hp => keepRow (h.el p hp) g (fun y hy => (k1 y hy).imp id .inl), h.hm, h.sz⟩
theorem Bo.draw {w wr w' : World} {b : Nat} {A : Option Addr} {n c : Nat} {q : Qry} {v5 v6 v10 : Value} {ps : List (Gqt × Value)} (h : Bo w wr b A n c q v5 v6 v10 ps) (hb : b < w.heap.size) (l : Lft wr w' b A n c) : Bo w w' b A n c q v5 v6 v10 ps :=
  h.grown l.grown (h.lft.trans l) (fun y hy => .inl (by cases hy; exact hb))
abbrev zq : Array Value := #[.string ⟨#[]⟩, .string ⟨#[]⟩, .int .i64 0, .string ⟨#[]⟩, .string ⟨#[]⟩, .slice none 0 0, .slice none 0 0, .int .i64 0, .int .i64 0, .int .i64 0, .slice none 0 0]
/-- The result's block, and the caller's variable. -/
structure Rb where
  r : Nat
  o : Nat
  cb : Array Value
def Res (w wr : World) (gq : Nat) (rb : Rb) : Prop := (wr.heap[rb.r]? = some (.cells zq 28 (0, 0)) ∧ wr.heap[rb.o]? = some (.cells rb.cb 28 (0, 0))) ∧ (w.heap.size ≤ rb.r ∧ w.heap.size ≤ rb.o) ∧ gq ≠ rb.r ∧ gq ≠ rb.o ∧ rb.r ≠ rb.o
theorem Res.keep {w wr w' : World} {gq : Nat} {rb : Rb} {row : Option Nat} (h : Res w wr gq rb) (gr : wr.grownBy w' row) (h1 : row ≠ some rb.r) (h2 : row ≠ some rb.o) : Res w w' gq rb :=
  ⟨⟨(gr.block _ (Array.getElem?_eq_some_iff.1 h.1.1).1 (Ne.symm h1)).trans h.1.1, (gr.block _ (Array.getElem?_eq_some_iff.1 h.1.2).1 (Ne.symm h2)).trans h.1.2⟩, h.2⟩
structure Qb (w wr : World) (b : Nat) (A : Option Addr) (n c gq : Nat) (rb : Rb) (q : Qry) (v5 v6 v10 : Value) (ps : List (Gqt × Value)) : Prop where
  o : Bo w wr b A n c q v5 v6 v10 ps
  var : wr.heap[gq]? = some (.cells (qv q v5 v6 v10) 28 (0, 0))
  gql : w.heap.size ≤ gq
  res : Res w wr gq rb
theorem Qb.start {w wr : World} {b : Nat} {A : Option Addr} {n c : Nat} {q : Qry} {v5 v6 v10 : Value} {ps : List (Gqt × Value)} {ob : Nat} {cb : Array Value} (hb : b < w.heap.size) (h : Bo w wr b A n c q v5 v6 v10 ps) (hob : w.heap.size ≤ ob) (ho : wr.heap[ob]? = some (.cells cb 28 (0, 0))) : Qb w ((wr.alloc (.cells (qv q v5 v6 v10) 28 (0, 0))).alloc (.cells zq 28 (0, 0))) b A n c wr.heap.size ⟨wr.heap.size + 1, ob, cb⟩ q v5 v6 v10 ps := by
  have hl := h.lft.grown.size
  have hlo := (Array.getElem?_eq_some_iff.1 ho).1
  refine ⟨h.draw hb ⟨(h.lft.cur.alloc _).alloc _, (World.grownBy_alloc _ _ _).trans (World.grownBy_alloc _ _ _)⟩, (heap_alloc_old _ _ (by rw [hsz]; omega)).trans (heap_alloc_new _ _), hl, ⟨?_, (heap_alloc_old _ _ (by rw [hsz]; show ob < _; omega)).trans ((heap_alloc_old _ _ hlo).trans ho)⟩, ⟨by show _ ≤ wr.heap.size + 1; omega, hob⟩, by show wr.heap.size ≠ wr.heap.size + 1; omega, by show wr.heap.size ≠ ob; omega, by show wr.heap.size + 1 ≠ ob; omega⟩
  have := heap_alloc_new (wr.alloc (.cells (qv q v5 v6 v10) 28 (0, 0))) (.cells zq 28 (0, 0))
  rw [hsz] at this
  exact this
theorem Qb.draw {w wr : World} {b : Nat} {A : Option Addr} {n c gq : Nat} {rb : Rb} {q : Qry} {v5 v6 v10 : Value} {ps : List (Gqt × Value)} (h : Qb w wr b A n c gq rb q v5 v6 v10 ps) {w' : World} (hb : b < w.heap.size) (l : Lft wr w' b A n c) : Qb w w' b A n c gq rb q v5 v6 v10 ps :=
  ⟨h.o.draw hb l, (l.grown.block _ (Array.getElem?_eq_some_iff.1 h.var).1 (by have := h.gql; simp; omega)).trans h.var, h.gql, h.res.keep l.grown (fun e => by have := h.res.2.1.1; cases e; omega) (fun e => by have := h.res.2.1.2; cases e; omega)⟩
theorem Qb.alloc {w wr : World} {b : Nat} {A : Option Addr} {n c gq : Nat} {rb : Rb} {q : Qry} {v5 v6 v10 : Value} {ps : List (Gqt × Value)} (h : Qb w wr b A n c gq rb q v5 v6 v10 ps) (hb : b < w.heap.size) (o : Obj) : Qb w (wr.alloc o) b A n c gq rb q v5 v6 v10 ps :=
  h.draw hb ⟨h.o.lft.cur.alloc o, World.grownBy_alloc _ _ _⟩
theorem Qb.drew {w wr : World} {b : Nat} {A : Option Addr} {n c gq : Nat} {rb : Rb} {q : Qry} {v5 v6 v10 : Value} {ps : List (Gqt × Value)} (h : Qb w wr b A n c gq rb q v5 v6 v10 ps) (hb : b < w.heap.size) : Qb w wr.drew b A n c gq rb q v5 v6 v10 ps :=
  h.draw hb ⟨h.o.lft.cur.drew, Draw.grown_drew (World.grownBy.refl _ _)⟩
/-- A field of the variable is written. -/
theorem put0 {w wr : World} {b : Nat} {A : Option Addr} {n c gq : Nat} {rb : Rb} {a0 : Array Value} (h0 : Cur w b A n c) (hl : Lft w wr b A n c) (hv0 : wr.heap[gq]? = some (.cells a0 28 (0, 0))) (hgl : w.heap.size ≤ gq) (hres : Res w wr gq rb) (j : Nat) (x : Value) (q' : Qry) (v5' v6' v10' : Value) (ps' : List (Gqt × Value)) (e : a0.setIfInBounds j x = qv q' v5' v6' v10')
    (hw : SRow wr w.heap.size v5' q'.wh) (hg : Row wr w.heap.size v6' q'.gps) (ht : GRow wr w.heap.size v10' ps') (hel : ∀ p, p ∈ ps' → SRow wr w.heap.size p.2 p.1.steps) (hm : q'.gets = ps'.map Prod.fst) (hs : Sb q' ps') : Qb w (wr.setCell ⟨gq, j, none⟩ x) b A n c gq rb q' v5' v6' v10' ps' := by
  have gr := Draw.grown_setCell wr gq j x
  have fr : Far w wr gq := .inr ⟨_, _, hv0, by decide, by decide, by decide⟩
  have o' : Bo w wr b A n c q' v5' v6' v10' ps' := ⟨hl, hw, hg, ht, hel, hm, hs⟩
  have hv := heap_setCell_same wr gq j _ _ x hv0
  rw [e] at hv
  exact ⟨o'.grown gr (DrawB.Lft.above h0 hl gr (fun k hk => by cases hk; exact hgl)) (fun y hy => by cases hy; exact fr), hv, hgl, hres.keep gr (fun e => hres.2.2.1 (Option.some.inj e)) (fun e => hres.2.2.2.1 (Option.some.inj e))⟩
theorem Qb.put {w wr : World} {b : Nat} {A : Option Addr} {n c gq : Nat} {rb : Rb} {q : Qry} {v5 v6 v10 : Value} {ps : List (Gqt × Value)} (h0 : Cur w b A n c) (h : Qb w wr b A n c gq rb q v5 v6 v10 ps) (j : Nat) (x : Value) (q' : Qry) (v5' v6' v10' : Value) (ps' : List (Gqt × Value)) (e : (qv q v5 v6 v10).setIfInBounds j x = qv q' v5' v6' v10')
    (hw : SRow wr w.heap.size v5' q'.wh) (hg : Row wr w.heap.size v6' q'.gps) (ht : GRow wr w.heap.size v10' ps') (hel : ∀ p, p ∈ ps' → SRow wr w.heap.size p.2 p.1.steps) (hm : q'.gets = ps'.map Prod.fst) (hs : Sb q' ps') : Qb w (wr.setCell ⟨gq, j, none⟩ x) b A n c gq rb q' v5' v6' v10' ps' :=
  put0 h0 h.o.lft h.var h.gql h.res j x q' v5' v6' v10' ps' e hw hg ht hel hm hs
/-- A plain field. -/
theorem Qb.set {w wr : World} {b : Nat} {A : Option Addr} {n c gq : Nat} {rb : Rb} {q : Qry} {v5 v6 v10 : Value} {ps : List (Gqt × Value)} (h0 : Cur w b A n c) (h : Qb w wr b A n c gq rb q v5 v6 v10 ps) (j : Nat) (x : Value) (q' : Qry) (e : (qv q v5 v6 v10).setIfInBounds j x = qv q' v5 v6 v10) (e1 : q'.wh = q.wh) (e2 : q'.gps = q.gps) (e3 : q'.gets = q.gets) (hn : q'.fr.size ≤ 20 ∧ q'.jn.size ≤ 20 ∧ q'.on.size ≤ 20 ∧ q'.lk.size ≤ 20) : Qb w (wr.setCell ⟨gq, j, none⟩ x) b A n c gq rb q' v5 v6 v10 ps :=
  h.put h0 j x q' v5 v6 v10 ps e (by rw [e1]; exact h.o.wh) (by rw [e2]; exact h.o.gps) h.o.gets h.o.el (by rw [e3]; exact h.o.hm) ⟨hn, by rw [e1]; exact h.o.sz.wh, by rw [e2]; exact h.o.sz.gps, h.o.sz.gets⟩
/-- Where is one step alone. -/
theorem Qb.one {w wr : World} {b : Nat} {A : Option Addr} {n c gq : Nat} {rb : Rb} {q : Qry} {v5 v6 v10 : Value} {ps : List (Gqt × Value)} (h0 : Cur w b A n c) (h : Qb w wr b A n c gq rb q v5 v6 v10 ps) (hb : b < w.heap.size) (s : Stp) (hs : Sm [s]) : Qb w ((wr.alloc (.cells #[.int .i64 s.op, .int .i64 s.num, .string s.name] 55 (0, 0))).setCell ⟨gq, 5, none⟩ (.slice (some ⟨wr.heap.size, 0, none⟩) 1 1)) b A n c gq rb { q with wh := [s] } (.slice (some ⟨wr.heap.size, 0, none⟩) 1 1) v6 v10 ps := by
  have h1 := h.alloc hb (.cells #[.int .i64 s.op, .int .i64 s.num, .string s.name] 55 (0, 0))
  exact h1.put h0 5 _ { q with wh := [s] } _ v6 v10 ps rfl (row_weak (one_row wr s) h.o.lft.grown.size) h1.o.gps h1.o.gets h1.o.el h1.o.hm ⟨h1.o.sz.names, ⟨(show 1 ≤ 20 by decide), hs⟩, h1.o.sz.gps, h1.o.sz.gets⟩
/-- No Gets. -/
theorem Qb.bare {w wr : World} {b : Nat} {A : Option Addr} {n c gq : Nat} {rb : Rb} {q : Qry} {v5 v6 v10 : Value} {ps : List (Gqt × Value)} (h0 : Cur w b A n c) (h : Qb w wr b A n c gq rb q v5 v6 v10 ps) : Qb w (wr.setCell ⟨gq, 10, none⟩ (.slice none 0 0)) b A n c gq rb { q with gets := [] } v5 v6 (.slice none 0 0) [] :=
  h.put h0 10 _ { q with gets := [] } v5 v6 _ [] rfl h.o.wh h.o.gps (nil_g _ _) (fun p hp => by cases hp) rfl ⟨h.o.sz.names, h.o.sz.wh, h.o.sz.gps, ⟨Nat.zero_le _, fun p hp => by cases hp⟩⟩
/-- The groups grow. -/
theorem Qb.pushG {w wr w9 : World} {b : Nat} {A : Option Addr} {n c gq : Nat} {rb : Rb} {q : Qry} {v5 v6 v6' v10 : Value} {ms : List ByteArray} {ps : List (Gqt × Value)} (h0 : Cur w b A n c) (h : Qb w wr b A n c gq rb q v5 v6 v10 ps) (hown : w9.ownsRow w.heap.size 9 1 v6' (q.gps.length + ms.length) (q.gps.map Value.string ++ ms.map Value.string)) (gr : wr.grownBy w9 v6.ownBlock) (hl : q.gps.length + ms.length ≤ 20) (hs : ∀ s, s ∈ ms → s.size ≤ 20) : w9.heap[gq]? = some (.cells (qv q v5 v6 v10) 28 (0, 0)) ∧ Qb w (w9.setCell ⟨gq, 6, none⟩ v6') b A n c gq rb { q with gps := q.gps ++ ms } v5 v6' v10 ps := by
  have hT : ∀ y, v6.ownBlock = some y → w.heap.size ≤ y ∧ ∃ cur, wr.heap[y]? = some (.cells cur 9 (0, 0)) := fun y hy => ⟨(own_ty h.o.gps hy).1, (own_ty h.o.gps hy).2.2⟩
  have nq : ∀ {g : Nat} {a0 : Array Value}, wr.heap[g]? = some (.cells a0 28 (0, 0)) → v6.ownBlock ≠ some g := fun hv e => by
    obtain ⟨_, cur, hc⟩ := hT _ e
    rw [hv] at hc
    simp only [Option.some.injEq, Obj.cells.injEq] at hc
    exact absurd hc.2.1 (by decide)
  have hv9 := (gr.block _ (Array.getElem?_eq_some_iff.1 h.var).1 (Ne.symm (nq h.var))).trans h.var
  have hr9 := h.res.keep gr (nq h.res.1.1) (nq h.res.1.2)
  have kS : ∀ {ty k m : Nat} {v : Value} {l : List Value}, wr.ownsRow w.heap.size ty k v m l → ty ≠ 9 → w9.ownsRow w.heap.size ty k v m l := fun hh ht => keepRow hh gr (fun y hy => .inr (.inl (by obtain ⟨_, cur, hc⟩ := hT y hy; exact ⟨cur, _, hc, Ne.symm ht⟩)))
  have row' : Row w9 w.heap.size v6' (q.gps ++ ms) := by
    show World.ownsRow _ _ _ _ _ _ _
    rw [List.length_append, List.map_append]; exact hown
  refine ⟨hv9, put0 h0 (DrawB.Lft.above h0 h.o.lft gr (fun k hk => (hT k hk).1)) hv9 h.gql hr9 6 v6' { q with gps := q.gps ++ ms } v5 v6' v10 ps rfl (kS h.o.wh (by decide)) row' (kS h.o.gets (by decide)) (fun p hp => kS (h.o.el p hp) (by decide)) h.o.hm ⟨h.o.sz.names, h.o.sz.wh, ⟨?_, fun s hs' => (List.mem_append.1 hs').elim (h.o.sz.gps.2 s) (hs s)⟩, h.o.sz.gets⟩⟩
  show (q.gps ++ ms).length ≤ 20
  rw [List.length_append]; exact hl
/-- The Gets grow. -/
theorem Qb.pushP {w wr w9 : World} {b : Nat} {A : Option Addr} {n c gq : Nat} {rb : Rb} {q : Qry} {v5 v6 v10 v10' : Value} {p : Gqt × Value} {ps : List (Gqt × Value)} (h0 : Cur w b A n c) (h : Qb w wr b A n c gq rb q v5 v6 v10 ps) (hown : w9.ownsRow w.heap.size 35 3 v10' (ps.length + 1) (gcells ps ++ gc1 p)) (gr : wr.grownBy w9 v10.ownBlock) (hl : ps.length + 1 ≤ 20) (hp : SRow wr w.heap.size p.2 p.1.steps) (hs : p.1.nm.size ≤ 20 ∧ p.1.steps.length ≤ 20 ∧ Sm p.1.steps) : w9.heap[gq]? = some (.cells (qv q v5 v6 v10) 28 (0, 0)) ∧ Qb w (w9.setCell ⟨gq, 10, none⟩ v10') b A n c gq rb { q with gets := q.gets ++ [p.1] } v5 v6 v10' (ps ++ [p]) := by
  have hT : ∀ y, v10.ownBlock = some y → w.heap.size ≤ y ∧ ∃ cur, wr.heap[y]? = some (.cells cur 35 (0, 0)) := fun y hy => ⟨(own_ty h.o.gets hy).1, (own_ty h.o.gets hy).2.2⟩
  have nq : ∀ {g : Nat} {a0 : Array Value}, wr.heap[g]? = some (.cells a0 28 (0, 0)) → v10.ownBlock ≠ some g := fun hv e => by
    obtain ⟨_, cur, hc⟩ := hT _ e
    rw [hv] at hc
    simp only [Option.some.injEq, Obj.cells.injEq] at hc
    exact absurd hc.2.1 (by decide)
  have hv9 := (gr.block _ (Array.getElem?_eq_some_iff.1 h.var).1 (Ne.symm (nq h.var))).trans h.var
  have hr9 := h.res.keep gr (nq h.res.1.1) (nq h.res.1.2)
  have kS : ∀ {ty k m : Nat} {v : Value} {l : List Value}, wr.ownsRow w.heap.size ty k v m l → ty ≠ 35 → w9.ownsRow w.heap.size ty k v m l := fun hh ht => keepRow hh gr (fun y hy => .inr (.inl (by obtain ⟨_, cur, hc⟩ := hT y hy; exact ⟨cur, _, hc, Ne.symm ht⟩)))
  have row' : GRow w9 w.heap.size v10' (ps ++ [p]) := by
    show World.ownsRow _ _ _ _ _ _ _
    rw [List.length_append, gcells_add]
    have e : gcells [p] = gc1 p := by simp [gcells]
    rw [e]; exact hown
  refine ⟨hv9, put0 h0 (DrawB.Lft.above h0 h.o.lft gr (fun k hk => (hT k hk).1)) hv9 h.gql hr9 10 v10' { q with gets := q.gets ++ [p.1] } v5 v6 v10' (ps ++ [p]) rfl (kS h.o.wh (by decide)) (kS h.o.gps (by decide)) row' (fun p' hp' => ?_) ?_ ⟨h.o.sz.names, h.o.sz.wh, h.o.sz.gps, ?_, fun p' hp' => ?_⟩⟩
  · rcases List.mem_append.1 hp' with h1 | h1
    · exact kS (h.o.el p' h1) (by decide)
    · rw [List.mem_singleton.1 h1]; exact kS hp (by decide)
  · show q.gets ++ [p.1] = _
    rw [h.o.hm, List.map_append]; rfl
  · rw [List.length_append]; exact hl
  · rcases List.mem_append.1 hp' with h1 | h1
    · exact h.o.sz.gets.2 p' h1
    · rw [List.mem_singleton.1 h1]; exact hs
/-- The first Get's cells. -/
theorem get0 {w : World} {B : Nat} {v : Value} {p0 : Gqt × Value} {r : List (Gqt × Value)} (h : GRow w B v (p0 :: r)) : ∃ g cap cur, v = .slice (some ⟨g, 0, none⟩) (r.length + 1) cap ∧ B ≤ g ∧ w.heap[g]? = some (.cells cur 35 (0, 0)) ∧ w.cell? ⟨g, 0, none⟩ = some (.int .i64 p0.1.kind) ∧ w.cell? ⟨g, 1, none⟩ = some p0.2 ∧ w.cell? ⟨g, 2, none⟩ = some (.string p0.1.nm) := by
  have hh := h
  rcases h.2 with ⟨h1, h2⟩ | ⟨g, cap, cur, h1, hbs, hgg, h4, h5, h6, h7⟩
  · cases h2
  refine ⟨g, cap, cur, h1, hbs, hgg, ?_, ?_, ?_⟩
  · rw [World.ownsRow.cellAt (h1 ▸ hh) 0 (by rw [List.length_cons]; omega)]; rfl
  · rw [World.ownsRow.cellAt (h1 ▸ hh) 1 (by rw [List.length_cons]; omega)]; rfl
  · rw [World.ownsRow.cellAt (h1 ▸ hh) 2 (by rw [List.length_cons]; omega)]; rfl
/-- A cell of the first Get is written. -/
theorem grow_set {w : World} {B g cap j : Nat} {m : Nat} {x : Value} {p0 p1 : Gqt × Value} {r : List (Gqt × Value)} (h : GRow w B (.slice (some ⟨g, 0, none⟩) m cap) (p0 :: r)) (e : (gc1 p0).set j x = gc1 p1) (hj : j < 3) : GRow (w.setCell ⟨g, j, none⟩ x) B (.slice (some ⟨g, 0, none⟩) m cap) (p1 :: r) := by
  have e1 : gcells (p0 :: r) = gc1 p0 ++ gcells r := rfl
  have e2 : gcells (p1 :: r) = gc1 p1 ++ gcells r := rfl
  have e3 : (gcells (p0 :: r)).set j x = gcells (p1 :: r) := by
    rw [e1, e2, List.set_append_left _ _ (by simpa using hj), e]
  refine ⟨by rw [gcells_len], ?_⟩
  rcases h.2 with ⟨h1, h2⟩ | ⟨g', cap', cur, h1, hbs, hgg, h4, h5, h6, h7⟩
  · cases h2
  simp only [Value.slice.injEq, Option.some.injEq, Addr.mk.injEq, and_true] at h1
  obtain ⟨rfl, rfl, rfl⟩ := h1
  refine .inr ⟨g, cap, cur.setIfInBounds j x, rfl, hbs, heap_setCell_same w g j _ _ x hgg, h4, h5, by rw [Array.size_setIfInBounds]; exact h6, ?_⟩
  have e4 : (p1 :: r).length = (p0 :: r).length := rfl
  rw [e4, Array.toList_setIfInBounds, List.take_set, h7, e3]
/-- The first Get is written: the variable stays. -/
theorem Qb.setGet {w wr : World} {b : Nat} {A : Option Addr} {n c gq : Nat} {rb : Rb} {q : Qry} {v5 v6 : Value} {r : List (Gqt × Value)} {p0 p1 : Gqt × Value} {g cap j m : Nat} {x : Value} (h0 : Cur w b A n c) (h : Qb w wr b A n c gq rb q v5 v6 (.slice (some ⟨g, 0, none⟩) m cap) (p0 :: r)) (e : (gc1 p0).set j x = gc1 p1) (hj : j < 3) (hp : SRow wr w.heap.size p1.2 p1.1.steps) (hs : p1.1.nm.size ≤ 20 ∧ p1.1.steps.length ≤ 20 ∧ Sm p1.1.steps) : Qb w (wr.setCell ⟨g, j, none⟩ x) b A n c gq rb { q with gets := p1.1 :: r.map Prod.fst } v5 v6 (.slice (some ⟨g, 0, none⟩) m cap) (p1 :: r) := by
  have gr := Draw.grown_setCell wr g j x
  obtain ⟨hb1, hb2, cur, hc⟩ := own_ty h.o.gets (y := g) rfl
  have nq : ∀ {k : Nat} {a0 : Array Value}, wr.heap[k]? = some (.cells a0 28 (0, 0)) → g ≠ k := fun hv e => by
    subst e
    rw [hv] at hc
    simp only [Option.some.injEq, Obj.cells.injEq] at hc
    exact absurd hc.2.1 (by decide)
  have kS : ∀ {ty k m : Nat} {v : Value} {l : List Value}, wr.ownsRow w.heap.size ty k v m l → ty ≠ 35 → (wr.setCell ⟨g, j, none⟩ x).ownsRow w.heap.size ty k v m l := fun hh ht => keepRow hh gr (fun y hy => .inr (.inl (by cases hy; exact ⟨cur, _, hc, Ne.symm ht⟩)))
  refine ⟨⟨DrawB.Lft.above h0 h.o.lft gr (fun k hk => by cases hk; exact hb1), kS h.o.wh (by decide), kS h.o.gps (by decide), grow_set h.o.gets e hj, fun p hp' => ?_, rfl, ⟨h.o.sz.names, h.o.sz.wh, h.o.sz.gps, h.o.sz.gets.1, fun p hp' => ?_⟩⟩, (gr.block _ (Array.getElem?_eq_some_iff.1 h.var).1 (by simp only [ne_eq, Option.some.injEq]; exact Ne.symm (nq h.var))).trans ?_, h.gql, h.res.keep gr (fun e => nq h.res.1.1 (Option.some.inj e)) (fun e => nq h.res.1.2 (Option.some.inj e))⟩
  · rcases List.mem_cons.1 hp' with rfl | h1
    · exact kS hp (by decide)
    · exact kS (h.o.el p (List.mem_cons_of_mem _ h1)) (by decide)
  · rcases List.mem_cons.1 hp' with rfl | h1
    · exact hs
    · exact h.o.sz.gets.2 p (List.mem_cons_of_mem _ h1)
  · exact h.var
/-- The way out. -/
theorem Qb.out {w wr : World} {b : Nat} {A : Option Addr} {n c gq : Nat} {rb : Rb} {q : Qry} {v5 v6 v10 : Value} {ps : List (Gqt × Value)} (h0 : Cur w b A n c) (h : Qb w wr b A n c gq rb q v5 v6 v10 ps) : wr.there rb.r 0 11 ∧ (wr.setCells rb.r 0 (qv q v5 v6 v10).toList).heap[rb.r]? = some (.cells (qv q v5 v6 v10) 28 (0, 0)) ∧ Bo w (wr.setCells rb.r 0 (qv q v5 v6 v10).toList) b A n c q v5 v6 v10 ps ∧ (wr.setCells rb.r 0 (qv q v5 v6 v10).toList).heap[rb.o]? = some (.cells rb.cb 28 (0, 0)) := by
  have gr : wr.grownBy (wr.setCells rb.r 0 (qv q v5 v6 v10).toList) (some rb.r) := grown_setCells _ _ _ _
  exact ⟨Cells.there_of (cs := zq) h.res.1.1, Cells.whole (vs := qv q v5 v6 v10) h.res.1.1 rfl, h.o.grown gr (DrawB.Lft.above h0 h.o.lft gr (fun k hk => by cases hk; exact h.res.2.1.1)) (fun y hy => by cases hy; exact .inr ⟨_, _, h.res.1.1, by decide, by decide, by decide⟩), (gr.block _ (Array.getElem?_eq_some_iff.1 h.res.1.2).1 (by simp only [ne_eq, Option.some.injEq]; exact Ne.symm h.res.2.2.2.2)).trans h.res.1.2⟩
end Go.Proofs.Ytkohhcjpjloaaaa.DwC
