/- A right query, plain; A Query that is being drawn: its variable's block, its lists. -/
import Derived.Test.YtkohhcjpjloaaaaJW10
import Derived.Test.YtkohhcjpjloaaaaJW16
import Derived.Test.YtkohhcjpjloaaaaJW17
import Derived.Test.YtkohhcjpjloaaaaJW03
namespace Go.Proofs.Ytkohhcjpjloaaaa.XqP
set_option maxRecDepth 8000
open Go.RowKit
open Ls Lp QtP XsP QsI QyP
open Recs (hsz below1 below2 chain)
set_option linter.unusedVariables false
abbrev qrow (q : Qry) (A5 : Option Addr) (c5 : Nat) (A6 : Option Addr) (c6 : Nat) (A10 : Option Addr) (c10 : Nat) : Array Value := #[.string q.fr, .string q.jn, .int .i64 q.wn, .string q.on, .string q.lk, .slice A5 q.wh.length c5, .slice A6 q.gps.length c6, .int .i64 q.win, .int .i64 q.size, .int .i64 q.every, .slice A10 q.gets.length c10]
theorem qform {w : World} {S : Nat → Prop} {v : Value} {q : Qry} (h : QryAt w S v q) : ∃ A5 c5 A6 c6 A10 c10, v = .agg (qrow q A5 c5 A6 c6 A10 c10) ∧ LAt 3 EStp w S (.slice A5 q.wh.length c5) q.wh ∧ LAt 1 EStr w S (.slice A6 q.gps.length c6) q.gps ∧ LAt 3 EGqt w S (.slice A10 q.gets.length c10) q.gets := by
  obtain ⟨f, rfl, h0, h1, h2, h3, h4, h5, h6, h7, h8, h9, h10⟩ := h
  obtain ⟨A5, c5, e5⟩ := h5.form
  obtain ⟨A6, c6, e6⟩ := h6.form
  obtain ⟨A10, c10, e10⟩ := h10.form
  refine ⟨A5, c5, A6, c6, A10, c10, ?_, by rw [← e5]; exact h5, by rw [← e6]; exact h6, by rw [← e10]; exact h10⟩
  simp only [arrQry, qrow]
  rw [h0, h1, h2, h3, h4, e5, e6, h7, h8, h9, e10]
theorem qcells {w : World} {g ty : Nat} {za zb zc zd ze zf zg zh zi zj zk : Value} (h : w.heap[g]? = some (.cells #[za, zb, zc, zd, ze, zf, zg, zh, zi, zj, zk] ty (0, 0))) : w.cell? ⟨g, 0, none⟩ = some za ∧ w.cell? ⟨g, 1, none⟩ = some zb ∧ w.cell? ⟨g, 2, none⟩ = some zc ∧ w.cell? ⟨g, 3, none⟩ = some zd ∧ w.cell? ⟨g, 4, none⟩ = some ze ∧ w.cell? ⟨g, 5, none⟩ = some zf ∧ w.cell? ⟨g, 6, none⟩ = some zg ∧ w.cell? ⟨g, 7, none⟩ = some zh ∧ w.cell? ⟨g, 8, none⟩ = some zi ∧ w.cell? ⟨g, 9, none⟩ = some zj ∧ w.cell? ⟨g, 10, none⟩ = some zk :=
  ⟨cell_of_row w g 0 _ _ (0, 0) h, cell_of_row w g 1 _ _ (0, 0) h, cell_of_row w g 2 _ _ (0, 0) h, cell_of_row w g 3 _ _ (0, 0) h, cell_of_row w g 4 _ _ (0, 0) h, cell_of_row w g 5 _ _ (0, 0) h, cell_of_row w g 6 _ _ (0, 0) h, cell_of_row w g 7 _ _ (0, 0) h, cell_of_row w g 8 _ _ (0, 0) h, cell_of_row w g 9 _ _ (0, 0) h, cell_of_row w g 10 _ _ (0, 0) h⟩
theorem gcells {w : World} {g ty : Nat} {za zb zc : Value} (h : w.heap[g]? = some (.cells #[za, zb, zc] ty (0, 0))) : w.cell? ⟨g, 0, none⟩ = some za ∧ w.cell? ⟨g, 1, none⟩ = some zb ∧ w.cell? ⟨g, 2, none⟩ = some zc :=
  ⟨cell_of_row w g 0 _ _ (0, 0) h, cell_of_row w g 1 _ _ (0, 0) h, cell_of_row w g 2 _ _ (0, 0) h⟩
/-- The cells of one Get of a list. -/
theorem gqt_at {w w' : World} {S : Nat → Prop} {A : Option Addr} {c : Nat} {us : List Gqt} {g o : Nat} {F : Nat → Nat → Value} (h : Opn 3 EGqt w S A c us g o F) (hS : ∀ g, S g → g < w.heap.size) (hb : Below w.heap.size w w') {k : Nat} (hk : k < us.length) : ∃ A' c', LAt 3 EStp w' S (.slice A' (us.getD k default).steps.length c') (us.getD k default).steps ∧ w'.cell? ⟨g, o + k * 3, none⟩ = some (.int .i64 (us.getD k default).kind) ∧ w'.cell? ⟨g, o + k * 3 + 1, none⟩ = some (.slice A' (us.getD k default).steps.length c') ∧ w'.cell? ⟨g, o + k * 3 + 2, none⟩ = some (.string (us.getD k default).nm) := by
  have OL := h.later keepsGqt hS hb
  obtain ⟨e0, e1, e2⟩ := OL.el k hk
  have cc := OL.cells k hk
  obtain ⟨A', c', e3⟩ := e1.form
  refine ⟨A', c', by rw [← e3]; exact e1, ?_, ?_, ?_⟩
  · rw [← e0]; exact cc 0 (by omega)
  · rw [← e3]; exact cc 1 (by omega)
  · rw [← e2]; exact cc 2 (by omega)
def beP (jn on lk : ByteArray) (wn : Int) : Bool := if (em jn && em lk) = true then (decide (wn = 0) && em on) else if em lk = true then (Nm.nameOk jn && (Nm.nameOk on && inR 0 wn 1000000000000)) else if em jn = true then (Nm.nameOk lk && (Nm.nameOk on && decide (wn = 0))) else false
def winP (win size every : Int) (n : Nat) : Bool := if win = 0 then (decide (size = 0) && decide (every = 0)) else if win = 1 ∨ win = 3 then (decide (0 < n) && (inR 1 size 1000000000000 && decide (every = 0))) else if win = 2 then (decide (0 < n) && (inR 1 size 1000000000000 && (inR 1 every size && decide (size ≤ 20 * every)))) else false
def gtP (gr : Bool) (g : Gqt) : Bool := Nm.nameOk g.nm && (inR 0 g.kind 4 && ((gr != decide (g.kind = 0)) && (if g.kind = 1 then decide (g.steps.length = 0) else stepsOk g.steps)))
def qOk (q : Qry) : Bool := Nm.nameOk q.fr && (beP q.jn q.on q.lk q.wn && (cOk q.gps && (winP q.win q.size q.every q.gps.length && ((decide (q.wh.length = 0) || stepsOk q.wh) && (inR 1 q.gets.length 8 && q.gets.all (gtP (decide (0 < q.gps.length))))))))
theorem sz_wh {q : Qry} (h : szQry q ≤ 1048576) : szL szStp q.wh ≤ 1048576 := by unfold szQry at h; omega
theorem sz_gps {q : Qry} (h : szQry q ≤ 1048576) : szL ByteArray.size q.gps ≤ 1048576 := by unfold szQry at h; omega
theorem sz_gets {q : Qry} (h : szQry q ≤ 1048576) : szL szGqt q.gets ≤ 1048576 := by unfold szQry at h; omega
theorem sz_strs {q : Qry} (h : szQry q ≤ 1048576) : q.fr.size ≤ maxLen ∧ q.jn.size ≤ maxLen ∧ q.on.size ≤ maxLen ∧ q.lk.size ≤ maxLen := by unfold szQry at h; unfold maxLen; omega
end Go.Proofs.Ytkohhcjpjloaaaa.XqP
namespace Go.Proofs.Ytkohhcjpjloaaaa.DwQ
set_option maxRecDepth 8000
open Go.RowKit
open Ls Lp QtP DsP QsP
open Draw (Cur Lft Bytes)
open Recs (hsz below1 below2 chain)
set_option linter.unusedVariables false
abbrev qv (q : Qry) (v5 v6 v10 : Value) : Array Value := #[.string q.fr, .string q.jn, .int .i64 q.wn, .string q.on, .string q.lk, v5, v6, .int .i64 q.win, .int .i64 q.size, .int .i64 q.every, v10]
abbrev gc1 (p : Gqt × Value) : List Value := [.int .i64 p.1.kind, p.2, .string p.1.nm]
def gcells (l : List (Gqt × Value)) : List Value := l.flatMap gc1
theorem gcells_len : ∀ l : List (Gqt × Value), (gcells l).length = l.length * 3
  | [] => rfl
  | a :: r => by
    have h := gcells_len r
    have e : gcells (a :: r) = gc1 a ++ gcells r := rfl
    rw [e, List.length_append, h, List.length_cons]
    simp only [List.length_cons, List.length_nil]
    omega
theorem gcells_add (l m : List (Gqt × Value)) : gcells (l ++ m) = gcells l ++ gcells m := by simp [gcells]
abbrev GRow (w : World) (B : Nat) (v : Value) (ps : List (Gqt × Value)) : Prop := w.ownsRow B 35 3 v ps.length (gcells ps)
/-- A row stays where another block is written. -/
theorem keepRow {w w' : World} {B ty k n : Nat} {v : Value} {cs : List Value} {row : Option Nat} (h : w.ownsRow B ty k v n cs) (g : w.grownBy w' row) (hr : ∀ y, row = some y → y < B ∨ (∃ cur t, w.heap[y]? = some (.cells cur t (0, 0)) ∧ t ≠ ty) ∨ v.ownBlock ≠ some y) : w'.ownsRow B ty k v n cs := by
  refine ⟨h.1, ?_⟩
  rcases h.2 with hn | ⟨g', cap, cur, h1, hbs, hgg, rest⟩
  · exact .inl hn
  · have hne : some g' ≠ row := fun e => by
      rcases hr g' e.symm with h2 | ⟨c2, t2, h2, h3⟩ | h2
      · omega
      · rw [hgg] at h2
        simp only [Option.some.injEq, Obj.cells.injEq] at h2
        exact h3 h2.2.1.symm
      · exact h2 (by rw [h1]; rfl)
    exact .inr ⟨g', cap, cur, h1, hbs, (g.block g' (Array.getElem?_eq_some_iff.1 hgg).1 hne).trans hgg, rest⟩
theorem own_ty {w : World} {B ty k n y : Nat} {v : Value} {cs : List Value} (h : w.ownsRow B ty k v n cs) (hy : v.ownBlock = some y) : B ≤ y ∧ y < w.heap.size ∧ ∃ cur, w.heap[y]? = some (.cells cur ty (0, 0)) := by
  rcases h.2 with ⟨h1, h2⟩ | ⟨g', cap, cur, h1, hbs, hgg, rest⟩
  · rw [h1] at hy; cases hy
  · rw [h1] at hy
    simp only [Value.ownBlock, Option.some.injEq] at hy
    subst hy
    exact ⟨hbs, (Array.getElem?_eq_some_iff.1 hgg).1, cur, hgg⟩
theorem row_weak {w : World} {B B' ty k n : Nat} {v : Value} {cs : List Value} (h : w.ownsRow B ty k v n cs) (hb : B' ≤ B) : w.ownsRow B' ty k v n cs :=
  ⟨h.1, h.2.imp id (fun ⟨g, cap, cur, h1, h2, h3⟩ => ⟨g, cap, cur, h1, by omega, h3⟩)⟩
/-- All is small. -/
structure Sz (q : Qry) (ps : List (Gqt × Value)) : Prop where
  names : q.fr.size ≤ 10 ∧ q.jn.size ≤ 10 ∧ q.on.size ≤ 10 ∧ q.lk.size ≤ 10
  wh : q.wh.length ≤ 10 ∧ Sm q.wh
  gps : q.gps.length ≤ 5 ∧ ∀ s, s ∈ q.gps → s.size ≤ 10
  gets : ps.length ≤ 10 ∧ ∀ p, p ∈ ps → p.1.nm.size ≤ 10 ∧ p.1.steps.length ≤ 10 ∧ Sm p.1.steps
/-- The Query's lists, while numbers are drawn. -/
structure Qo (w wr : World) (b : Nat) (A : Option Addr) (n c : Nat) (q : Qry) (v5 v6 v10 : Value) (ps : List (Gqt × Value)) : Prop where
  lft : Lft w wr b A n c
  wh : SRow wr w.heap.size v5 q.wh
  gps : Row wr w.heap.size v6 q.gps
  gets : GRow wr w.heap.size v10 ps
  el : ∀ p, p ∈ ps → SRow wr w.heap.size p.2 p.1.steps
  hm : q.gets = ps.map Prod.fst
  sz : Sz q ps
  dis : ∀ p0 rest, ps = p0 :: rest → ∀ y, p0.2.ownBlock = some y → v5.ownBlock ≠ some y ∧ ∀ p, p ∈ rest → p.2.ownBlock ≠ some y
/-- A block that none of the lists is. -/
def Far (w wr : World) (y : Nat) : Prop := y < w.heap.size ∨ ∃ cur t, wr.heap[y]? = some (.cells cur t (0, 0)) ∧ t ≠ 55 ∧ t ≠ 9 ∧ t ≠ 35
theorem Qo.grown {w wr w' : World} {b : Nat} {A : Option Addr} {n c : Nat} {q : Qry} {v5 v6 v10 : Value} {ps : List (Gqt × Value)} {row : Option Nat} (h : Qo w wr b A n c q v5 v6 v10 ps) (g : wr.grownBy w' row) (hl : Lft w w' b A n c) (hr : ∀ y, row = some y → Far w wr y) : Qo w w' b A n c q v5 v6 v10 ps := by
  have k1 : ∀ y, row = some y → y < w.heap.size ∨ (∃ cur t, wr.heap[y]? = some (.cells cur t (0, 0)) ∧ t ≠ 55) := fun y hy => (hr y hy).imp id (fun ⟨cur, t, h1, h2, h3, h4⟩ => ⟨cur, t, h1, h2⟩)
  have k2 : ∀ y, row = some y → y < w.heap.size ∨ (∃ cur t, wr.heap[y]? = some (.cells cur t (0, 0)) ∧ t ≠ 9) := fun y hy => (hr y hy).imp id (fun ⟨cur, t, h1, h2, h3, h4⟩ => ⟨cur, t, h1, h3⟩)
  have k3 : ∀ y, row = some y → y < w.heap.size ∨ (∃ cur t, wr.heap[y]? = some (.cells cur t (0, 0)) ∧ t ≠ 35) := fun y hy => (hr y hy).imp id (fun ⟨cur, t, h1, h2, h3, h4⟩ => ⟨cur, t, h1, h4⟩)
  exact ⟨hl, keepRow h.wh g (fun y hy => (k1 y hy).imp id .inl), keepRow h.gps g (fun y hy => (k2 y hy).imp id .inl), keepRow h.gets g (fun y hy => (k3 y hy).imp id .inl), fun p hp => keepRow (h.el p hp) g (fun y hy => (k1 y hy).imp id .inl), h.hm, h.sz, h.dis⟩
theorem Qo.draw {w wr w' : World} {b : Nat} {A : Option Addr} {n c : Nat} {q : Qry} {v5 v6 v10 : Value} {ps : List (Gqt × Value)} (h : Qo w wr b A n c q v5 v6 v10 ps) (hb : b < w.heap.size) (l : Lft wr w' b A n c) : Qo w w' b A n c q v5 v6 v10 ps :=
  h.grown l.grown (h.lft.trans l) (fun y hy => .inl (by cases hy; exact hb))
/-- Besides the variable's block and the columns' names. -/
structure Qs (w wr : World) (b : Nat) (A : Option Addr) (n c gq : Nat) (q : Qry) (v5 v6 v10 vc : Value) (cs : List ByteArray) (ps : List (Gqt × Value)) : Prop where
  o : Qo w wr b A n c q v5 v6 v10 ps
  var : wr.heap[gq]? = some (.cells (qv q v5 v6 v10) 28 (0, 0))
  gql : w.heap.size ≤ gq
  cols : Row wr w.heap.size vc cs
  csz : 0 < cs.length ∧ cs.length ≤ 10 ∧ ∀ s, s ∈ cs → s.size ≤ 10
  ap : ∀ y, vc.ownBlock = some y → v6.ownBlock ≠ some y
theorem Qs.draw {w wr w' : World} {b : Nat} {A : Option Addr} {n c gq : Nat} {q : Qry} {v5 v6 v10 vc : Value} {cs : List ByteArray} {ps : List (Gqt × Value)} (h : Qs w wr b A n c gq q v5 v6 v10 vc cs ps) (hb : b < w.heap.size) (l : Lft wr w' b A n c) : Qs w w' b A n c gq q v5 v6 v10 vc cs ps :=
  ⟨h.o.draw hb l, (l.grown.block _ (Array.getElem?_eq_some_iff.1 h.var).1 (by have := h.gql; simp; omega)).trans h.var, h.gql, keepRow h.cols l.grown (fun y hy => .inl (by cases hy; exact hb)), h.csz, h.ap⟩
theorem Qs.alloc {w wr : World} {b : Nat} {A : Option Addr} {n c gq : Nat} {q : Qry} {v5 v6 v10 vc : Value} {cs : List ByteArray} {ps : List (Gqt × Value)} (h : Qs w wr b A n c gq q v5 v6 v10 vc cs ps) (hb : b < w.heap.size) (o : Obj) : Qs w (wr.alloc o) b A n c gq q v5 v6 v10 vc cs ps :=
  h.draw hb ⟨h.o.lft.cur.alloc o, World.grownBy_alloc _ _ _⟩
/-- A field of the variable is written. -/
theorem Qs.put {w wr : World} {b : Nat} {A : Option Addr} {n c gq : Nat} {q : Qry} {v5 v6 v10 vc : Value} {cs : List ByteArray} {ps : List (Gqt × Value)} (h0 : Cur w b A n c) (h : Qs w wr b A n c gq q v5 v6 v10 vc cs ps) (j : Nat) (x : Value) (q' : Qry) (v5' v6' v10' : Value) (ps' : List (Gqt × Value)) (e : (qv q v5 v6 v10).setIfInBounds j x = qv q' v5' v6' v10')
    (hw : SRow wr w.heap.size v5' q'.wh) (hg : Row wr w.heap.size v6' q'.gps) (ht : GRow wr w.heap.size v10' ps') (hel : ∀ p, p ∈ ps' → SRow wr w.heap.size p.2 p.1.steps) (hm : q'.gets = ps'.map Prod.fst) (hsz : Sz q' ps')
    (hd : ∀ p0 rest, ps' = p0 :: rest → ∀ y, p0.2.ownBlock = some y → v5'.ownBlock ≠ some y ∧ ∀ p, p ∈ rest → p.2.ownBlock ≠ some y) (hap : ∀ y, vc.ownBlock = some y → v6'.ownBlock ≠ some y) : Qs w (wr.setCell ⟨gq, j, none⟩ x) b A n c gq q' v5' v6' v10' vc cs ps' := by
  have gr := Draw.grown_setCell wr gq j x
  have fr : Far w wr gq := .inr ⟨_, _, h.var, by decide, by decide, by decide⟩
  have o' : Qo w wr b A n c q' v5' v6' v10' ps' := ⟨h.o.lft, hw, hg, ht, hel, hm, hsz, hd⟩
  have hv := heap_setCell_same wr gq j _ _ x h.var
  rw [e] at hv
  refine ⟨o'.grown gr (DrawB.Lft.above h0 h.o.lft gr (fun k hk => by cases hk; exact h.gql)) (fun y hy => by cases hy; exact fr), hv, h.gql, keepRow h.cols gr (fun y hy => ?_), h.csz, hap⟩
  cases hy
  exact .inr (.inl ⟨_, _, h.var, by decide⟩)
/-- A plain field. -/
theorem Qs.set {w wr : World} {b : Nat} {A : Option Addr} {n c gq : Nat} {q : Qry} {v5 v6 v10 vc : Value} {cs : List ByteArray} {ps : List (Gqt × Value)} (h0 : Cur w b A n c) (h : Qs w wr b A n c gq q v5 v6 v10 vc cs ps) (j : Nat) (x : Value) (q' : Qry) (e : (qv q v5 v6 v10).setIfInBounds j x = qv q' v5 v6 v10) (e1 : q'.wh = q.wh) (e2 : q'.gps = q.gps) (e3 : q'.gets = q.gets) (hn : q'.fr.size ≤ 10 ∧ q'.jn.size ≤ 10 ∧ q'.on.size ≤ 10 ∧ q'.lk.size ≤ 10) : Qs w (wr.setCell ⟨gq, j, none⟩ x) b A n c gq q' v5 v6 v10 vc cs ps :=
  h.put h0 j x q' v5 v6 v10 ps e (by rw [e1]; exact h.o.wh) (by rw [e2]; exact h.o.gps) h.o.gets h.o.el (by rw [e3]; exact h.o.hm) ⟨hn, by rw [e1]; exact h.o.sz.wh, by rw [e2]; exact h.o.sz.gps, h.o.sz.gets⟩ h.o.dis h.ap
/-- The columns' names grow. -/
theorem Qs.more {w wr w9 : World} {b : Nat} {A : Option Addr} {n c gq : Nat} {q : Qry} {v5 v6 v10 vc vc' : Value} {cs ms : List ByteArray} {ps : List (Gqt × Value)} (h0 : Cur w b A n c) (h : Qs w wr b A n c gq q v5 v6 v10 vc cs ps) (h6 : v6 = .slice none 0 0) (hown : w9.ownsRow w.heap.size 9 1 vc' (cs.length + ms.length) (cs.map Value.string ++ ms.map Value.string)) (gr : wr.grownBy w9 vc.ownBlock) (hl : cs.length + ms.length ≤ 10) (hs : ∀ s, s ∈ ms → s.size ≤ 10) : Qs w w9 b A n c gq q v5 v6 v10 vc' (cs ++ ms) ps := by
  subst h6
  have hT : ∀ y, vc.ownBlock = some y → w.heap.size ≤ y ∧ ∃ cur, wr.heap[y]? = some (.cells cur 9 (0, 0)) := fun y hy => ⟨(own_ty h.cols hy).1, (own_ty h.cols hy).2.2⟩
  have gq' : vc.ownBlock ≠ some gq := fun e => by
    obtain ⟨_, cur, hc⟩ := hT _ e
    rw [h.var] at hc
    simp only [Option.some.injEq, Obj.cells.injEq] at hc
    exact absurd hc.2.1 (by decide)
  refine ⟨⟨DrawB.Lft.above h0 h.o.lft gr (fun k hk => (hT k hk).1), keepRow h.o.wh gr (fun y hy => .inr (.inl ?_)), ?_, keepRow h.o.gets gr (fun y hy => .inr (.inl ?_)), fun p hp => keepRow (h.o.el p hp) gr (fun y hy => .inr (.inl ?_)), h.o.hm, h.o.sz, h.o.dis⟩, (gr.block _ (Array.getElem?_eq_some_iff.1 h.var).1 (Ne.symm gq')).trans h.var, h.gql, ?_, ⟨by rw [List.length_append]; have := h.csz.1; omega, by rw [List.length_append]; exact hl, fun s hs' => (List.mem_append.1 hs').elim (h.csz.2.2 s) (hs s)⟩, fun y hy => by simp [Value.ownBlock]⟩
  · obtain ⟨_, cur, hc⟩ := hT y hy; exact ⟨cur, _, hc, by decide⟩
  · have h6 := h.o.gps
    exact keepRow h6 gr (fun y hy => .inr (.inr (by simp [Value.ownBlock])))
  · obtain ⟨_, cur, hc⟩ := hT y hy; exact ⟨cur, _, hc, by decide⟩
  · obtain ⟨_, cur, hc⟩ := hT y hy; exact ⟨cur, _, hc, by decide⟩
  · show World.ownsRow _ _ _ _ _ _ _
    rw [List.length_append, List.map_append]; exact hown
/-- The columns' names, as they are picked from. -/
theorem co_of {w : World} {b B : Nat} {vc : Value} {cs : List ByteArray} (h : Row w B vc cs) (hb : b < B) (hl : 0 < cs.length) : ∃ g cap, vc = .slice (some ⟨g, 0, none⟩) cs.length cap ∧ cs.length ≤ cap ∧ g < w.heap.size ∧ DqE.Co w b g cs.length (fun i => cs.getD i ⟨#[]⟩) := by
  rcases h.2 with ⟨h1, h2⟩ | ⟨g, cap, cur, h1, hbs, hgg, h4, h5, h6, h7⟩
  · omega
  refine ⟨g, cap, h1, h4, (Array.getElem?_eq_some_iff.1 hgg).1, ⟨(Array.getElem?_eq_some_iff.1 hgg).1, by omega, fun i hi => ?_⟩⟩
  have := World.ownsRow.cellAt (h1 ▸ h) i (by simpa using hi)
  rw [this]
  simp [hi]
theorem col_sz {cs : List ByteArray} (h : ∀ s, s ∈ cs → s.size ≤ 10) (i : Nat) : (cs.getD i ⟨#[]⟩).size ≤ 10 := by
  rw [List.getD_eq_getElem?_getD]
  cases hh : cs[i]? with
  | none => exact (show (⟨#[]⟩ : ByteArray).size ≤ 10 by decide)
  | some s => exact h s (List.mem_of_getElem? hh)
theorem pickS_new {w : World} {b : Nat} {A : Option Addr} {n c : Nat} (l : List ByteArray) (hc : Cur w b A n c) (hl0 : 0 < l.length) (hl1 : l.length ≤ 1000) (hz : ∀ x ∈ l, x.size ≤ 10) (cs : Array Value) (hcs : cs = (l.map Value.string).toArray) :
    Calls Try.prog 22 #[.pointer (some ⟨b, 0, none⟩), .slice (some ⟨w.heap.size, 0, none⟩) l.length l.length] (w.alloc (.cells cs 9 (0, 0))) fun e w' => (∃ x : ByteArray, x.size ≤ 10 ∧ e = .returned (.string x)) ∧ Lft w w' b A n c := by
  subst hcs
  refine (Draw.pickc_any b A n c w.heap.size l.length l.length (fun i => l.getD i ⟨#[]⟩) _ (hc.alloc _) hl0 hl1 (by rw [hsz]; omega) (by have := hc.lt; omega) (fun i hi => ?_)).mono ?_
  · rw [cell_of_row _ _ i _ _ (0, 0) (heap_alloc_new _ _)]
    simp [hi]
  · rintro e w' ⟨⟨i, hi, rfl⟩, L⟩
    refine ⟨⟨_, hz _ ?_, rfl⟩, ⟨L.cur, (World.grownBy_alloc _ _ _).trans L.grown⟩⟩
    rw [List.getD_eq_getElem?_getD, List.getElem?_eq_getElem hi]; exact List.getElem_mem hi
theorem qcells {w : World} {g : Nat} {x0 x1 x2 x3 x4 x5 x6 x7 x8 x9 x10 : Value} {ty : Nat} (h : w.heap[g]? = some (.cells #[x0, x1, x2, x3, x4, x5, x6, x7, x8, x9, x10] ty (0, 0))) : w.cell? ⟨g, 0, none⟩ = some x0 ∧ w.cell? ⟨g, 1, none⟩ = some x1 ∧ w.cell? ⟨g, 2, none⟩ = some x2 ∧ w.cell? ⟨g, 3, none⟩ = some x3 ∧ w.cell? ⟨g, 4, none⟩ = some x4 ∧ w.cell? ⟨g, 5, none⟩ = some x5 ∧ w.cell? ⟨g, 6, none⟩ = some x6 ∧ w.cell? ⟨g, 7, none⟩ = some x7 ∧ w.cell? ⟨g, 8, none⟩ = some x8 ∧ w.cell? ⟨g, 9, none⟩ = some x9 ∧ w.cell? ⟨g, 10, none⟩ = some x10 :=
  ⟨cell_of_row w g 0 _ _ (0, 0) h, cell_of_row w g 1 _ _ (0, 0) h, cell_of_row w g 2 _ _ (0, 0) h, cell_of_row w g 3 _ _ (0, 0) h, cell_of_row w g 4 _ _ (0, 0) h, cell_of_row w g 5 _ _ (0, 0) h, cell_of_row w g 6 _ _ (0, 0) h, cell_of_row w g 7 _ _ (0, 0) h, cell_of_row w g 8 _ _ (0, 0) h, cell_of_row w g 9 _ _ (0, 0) h, cell_of_row w g 10 _ _ (0, 0) h⟩
theorem qfroz {w : World} {g : Nat} {cs : Array Value} {ty : Nat} (h : w.heap[g]? = some (.cells cs ty (0, 0))) (j : Nat) : w.frozen? ⟨g, j, none⟩ = false := frozen_of_row w g j _ _ h
theorem lit_row (w : World) (B : Nat) (hB : B ≤ w.heap.size) (l : List ByteArray) (hl : l.length ≤ 100) (cs : Array Value) (hcs : cs = (l.map Value.string).toArray) : Row (w.alloc (.cells cs 9 (0, 0))) B (.slice (some ⟨w.heap.size, 0, none⟩) l.length l.length) l := by
  subst hcs
  refine ⟨by simp, .inr ⟨w.heap.size, l.length, _, rfl, hB, heap_alloc_new _ _, Nat.le_refl _, by unfold maxLen; omega, by simp, ?_⟩⟩
  rw [List.take_of_length_le (by simp)]
theorem nil_row (w : World) (B : Nat) : Row w B (.slice none 0 0) [] := ⟨rfl, .inl ⟨rfl, rfl⟩⟩
theorem nil_s (w : World) (B : Nat) : SRow w B (.slice none 0 0) [] := ⟨rfl, .inl ⟨rfl, rfl⟩⟩
theorem nil_g (w : World) (B : Nat) : GRow w B (.slice none 0 0) [] := ⟨rfl, .inl ⟨rfl, rfl⟩⟩
/-- Other columns' names. -/
theorem Qs.newCols {w wr : World} {b : Nat} {A : Option Addr} {n c gq : Nat} {q : Qry} {v5 v10 vc : Value} {cs : List ByteArray} {ps : List (Gqt × Value)} (h : Qs w wr b A n c gq q v5 (.slice none 0 0) v10 vc cs ps) (hb : b < w.heap.size) (l : List ByteArray) (h0 : 0 < l.length) (hl : l.length ≤ 10) (hs : ∀ s, s ∈ l → s.size ≤ 10) (ca : Array Value) (hca : ca = (l.map Value.string).toArray) : Qs w (wr.alloc (.cells ca 9 (0, 0))) b A n c gq q v5 (.slice none 0 0) v10 (.slice (some ⟨wr.heap.size, 0, none⟩) l.length l.length) l ps :=
  have h' := h.alloc hb (.cells ca 9 (0, 0))
  ⟨h'.o, h'.var, h'.gql, lit_row wr _ h.o.lft.grown.size l (by omega) ca hca, ⟨h0, hl, hs⟩, fun y hy => by simp [Value.ownBlock]⟩
theorem z10 : (⟨#[]⟩ : ByteArray).size ≤ 10 := by decide
theorem Qs.start {w w2 : World} {b : Nat} {A : Option Addr} {n c : Nat} (h : Lft w w2 b A n c) (x : ByteArray) (hx : x.size ≤ 10) (l : List ByteArray) (h0 : 0 < l.length) (hl : l.length ≤ 10) (hs : ∀ s, s ∈ l → s.size ≤ 10) (ca : Array Value) (hca : ca = (l.map Value.string).toArray) : Qs w ((w2.alloc (.cells (qv ⟨x, ⟨#[]⟩, 0, ⟨#[]⟩, ⟨#[]⟩, [], [], 0, 0, 0, []⟩ (.slice none 0 0) (.slice none 0 0) (.slice none 0 0)) 28 (0, 0))).alloc (.cells ca 9 (0, 0))) b A n c w2.heap.size ⟨x, ⟨#[]⟩, 0, ⟨#[]⟩, ⟨#[]⟩, [], [], 0, 0, 0, []⟩ (.slice none 0 0) (.slice none 0 0) (.slice none 0 0) (.slice (some ⟨w2.heap.size + 1, 0, none⟩) l.length l.length) l [] := by
  have hl2 := h.grown.size
  refine ⟨⟨h.trans ⟨(h.cur.alloc _).alloc _, (World.grownBy_alloc _ _ _).trans (World.grownBy_alloc _ _ _)⟩, nil_s _ _, nil_row _ _, nil_g _ _, fun p hp => (by cases hp), rfl, ⟨⟨hx, z10, z10, z10⟩, ⟨Nat.zero_le _, fun s hs => (by cases hs)⟩, ⟨Nat.zero_le _, fun s hs => (by cases hs)⟩, ⟨Nat.zero_le _, fun s hs => (by cases hs)⟩⟩, fun p0 rest e => (by cases e)⟩, (heap_alloc_old _ _ (by rw [hsz]; omega)).trans (heap_alloc_new _ _), hl2, ?_, ⟨h0, hl, hs⟩, fun y hy => by simp [Value.ownBlock]⟩
  have := lit_row (w2.alloc (.cells (qv ⟨x, ⟨#[]⟩, 0, ⟨#[]⟩, ⟨#[]⟩, [], [], 0, 0, 0, []⟩ (.slice none 0 0) (.slice none 0 0) (.slice none 0 0)) 28 (0, 0))) w.heap.size (by rw [hsz]; omega) l (by omega) ca hca
  rw [hsz] at this
  exact this
/-- The groups grow. -/
theorem Qs.pushG {w wr w9 : World} {b : Nat} {A : Option Addr} {n c gq : Nat} {q : Qry} {v5 v6 v6' v10 vc : Value} {cs ms : List ByteArray} {ps : List (Gqt × Value)} (h0 : Cur w b A n c) (h : Qs w wr b A n c gq q v5 v6 v10 vc cs ps) (hown : w9.ownsRow w.heap.size 9 1 v6' (q.gps.length + ms.length) (q.gps.map Value.string ++ ms.map Value.string)) (gr : wr.grownBy w9 v6.ownBlock) (hat : ∀ y, v6'.ownBlock = some y → v6.ownBlock = some y ∨ y = wr.heap.size) (hl : q.gps.length + ms.length ≤ 5) (hs : ∀ s, s ∈ ms → s.size ≤ 10) : w9.heap[gq]? = some (.cells (qv q v5 v6 v10) 28 (0, 0)) ∧ Qs w (w9.setCell ⟨gq, 6, none⟩ v6') b A n c gq { q with gps := q.gps ++ ms } v5 v6' v10 vc cs ps := by
  have hT : ∀ y, v6.ownBlock = some y → w.heap.size ≤ y ∧ ∃ cur, wr.heap[y]? = some (.cells cur 9 (0, 0)) := fun y hy => ⟨(own_ty h.o.gps hy).1, (own_ty h.o.gps hy).2.2⟩
  have gq' : v6.ownBlock ≠ some gq := fun e => by
    obtain ⟨_, cur, hc⟩ := hT _ e
    rw [h.var] at hc
    simp only [Option.some.injEq, Obj.cells.injEq] at hc
    exact absurd hc.2.1 (by decide)
  have hv9 := (gr.block _ (Array.getElem?_eq_some_iff.1 h.var).1 (Ne.symm gq')).trans h.var
  have row' : Row w9 w.heap.size v6' (q.gps ++ ms) := by
    show World.ownsRow _ _ _ _ _ _ _
    rw [List.length_append, List.map_append]; exact hown
  have o9 : Qo w w9 b A n c { q with gps := q.gps ++ ms } v5 v6' v10 ps := by
    refine ⟨DrawB.Lft.above h0 h.o.lft gr (fun k hk => (hT k hk).1), keepRow h.o.wh gr (fun y hy => .inr (.inl ?_)), row', keepRow h.o.gets gr (fun y hy => .inr (.inl ?_)), fun p hp => keepRow (h.o.el p hp) gr (fun y hy => .inr (.inl ?_)), h.o.hm, ⟨h.o.sz.names, h.o.sz.wh, ⟨?_, fun s hs' => (List.mem_append.1 hs').elim (h.o.sz.gps.2 s) (hs s)⟩, h.o.sz.gets⟩, h.o.dis⟩
    · obtain ⟨_, cur, hc⟩ := hT y hy; exact ⟨cur, _, hc, by decide⟩
    · obtain ⟨_, cur, hc⟩ := hT y hy; exact ⟨cur, _, hc, by decide⟩
    · obtain ⟨_, cur, hc⟩ := hT y hy; exact ⟨cur, _, hc, by decide⟩
    · show (q.gps ++ ms).length ≤ 5
      rw [List.length_append]; exact hl
  have cols9 : Row w9 w.heap.size vc cs := keepRow h.cols gr (fun y hy => .inr (.inr (fun e => h.ap y e hy)))
  have g2 := Draw.grown_setCell w9 gq 6 v6'
  have hv := heap_setCell_same w9 gq 6 _ _ v6' hv9
  refine ⟨hv9, ⟨o9.grown g2 (DrawB.Lft.above h0 o9.lft g2 (fun k hk => by cases hk; exact h.gql)) (fun y hy => by cases hy; exact .inr ⟨_, _, hv9, by decide, by decide, by decide⟩), hv, h.gql, keepRow cols9 g2 (fun y hy => by cases hy; exact .inr (.inl ⟨_, _, hv9, by decide⟩)), h.csz, fun y hy e => ?_⟩⟩
  rcases hat y e with h1 | h1
  · exact h.ap y hy h1
  · have := (own_ty h.cols hy).2.1
    omega
/-- The Gets grow. -/
theorem Qs.pushP {w wr w9 : World} {b : Nat} {A : Option Addr} {n c gq : Nat} {q : Qry} {v5 v6 v10 v10' vc : Value} {cs : List ByteArray} {ps : List (Gqt × Value)} {p : Gqt × Value} (h0 : Cur w b A n c) (h : Qs w wr b A n c gq q v5 v6 v10 vc cs ps) (hown : w9.ownsRow w.heap.size 35 3 v10' (ps.length + 1) (gcells ps ++ gc1 p)) (gr : wr.grownBy w9 v10.ownBlock) (hl : ps.length + 1 ≤ 10) (hp : SRow wr w.heap.size p.2 p.1.steps) (hs : p.1.nm.size ≤ 10 ∧ p.1.steps.length ≤ 10 ∧ Sm p.1.steps) (hfr : ∀ y, p.2.ownBlock = some y → v5.ownBlock ≠ some y ∧ ∀ p', p' ∈ ps → p'.2.ownBlock ≠ some y) : w9.heap[gq]? = some (.cells (qv q v5 v6 v10) 28 (0, 0)) ∧ Qs w (w9.setCell ⟨gq, 10, none⟩ v10') b A n c gq { q with gets := q.gets ++ [p.1] } v5 v6 v10' vc cs (ps ++ [p]) := by
  have hT : ∀ y, v10.ownBlock = some y → w.heap.size ≤ y ∧ ∃ cur, wr.heap[y]? = some (.cells cur 35 (0, 0)) := fun y hy => ⟨(own_ty h.o.gets hy).1, (own_ty h.o.gets hy).2.2⟩
  have gq' : v10.ownBlock ≠ some gq := fun e => by
    obtain ⟨_, cur, hc⟩ := hT _ e
    rw [h.var] at hc
    simp only [Option.some.injEq, Obj.cells.injEq] at hc
    exact absurd hc.2.1 (by decide)
  have hv9 := (gr.block _ (Array.getElem?_eq_some_iff.1 h.var).1 (Ne.symm gq')).trans h.var
  have row' : GRow w9 w.heap.size v10' (ps ++ [p]) := by
    show World.ownsRow _ _ _ _ _ _ _
    rw [List.length_append, gcells_add]
    have e : gcells [p] = gc1 p := by simp [gcells]
    rw [e]; exact hown
  have kS : ∀ {v : Value} {l : List Stp}, SRow wr w.heap.size v l → SRow w9 w.heap.size v l := fun hh => keepRow hh gr (fun y hy => .inr (.inl (by obtain ⟨_, cur, hc⟩ := hT y hy; exact ⟨cur, _, hc, by decide⟩)))
  have o9 : Qo w w9 b A n c { q with gets := q.gets ++ [p.1] } v5 v6 v10' (ps ++ [p]) := by
    refine ⟨DrawB.Lft.above h0 h.o.lft gr (fun k hk => (hT k hk).1), kS h.o.wh, keepRow h.o.gps gr (fun y hy => .inr (.inl ?_)), row', fun p' hp' => ?_, ?_, ⟨h.o.sz.names, h.o.sz.wh, h.o.sz.gps, ?_, fun p' hp' => ?_⟩, fun p0 rest e y hy => ?_⟩
    · obtain ⟨_, cur, hc⟩ := hT y hy; exact ⟨cur, _, hc, by decide⟩
    · rcases List.mem_append.1 hp' with h1 | h1
      · exact kS (h.o.el p' h1)
      · rw [List.mem_singleton.1 h1]; exact kS hp
    · show q.gets ++ [p.1] = _
      rw [h.o.hm, List.map_append]; rfl
    · rw [List.length_append]; exact hl
    · rcases List.mem_append.1 hp' with h1 | h1
      · exact h.o.sz.gets.2 p' h1
      · rw [List.mem_singleton.1 h1]; exact hs
    · cases ps with
      | nil =>
        simp only [List.nil_append, List.cons.injEq] at e
        obtain ⟨rfl, rfl⟩ := e
        exact ⟨(hfr y hy).1, fun p' hp' => (by cases hp')⟩
      | cons a r =>
        simp only [List.cons_append, List.cons.injEq] at e
        obtain ⟨rfl, rfl⟩ := e
        obtain ⟨d1, d2⟩ := h.o.dis a r rfl y hy
        refine ⟨d1, fun p' hp' => ?_⟩
        rcases List.mem_append.1 hp' with h1 | h1
        · exact d2 p' h1
        · rw [List.mem_singleton.1 h1]
          intro e2
          exact (hfr y e2).2 a (List.mem_cons_self ..) hy
  have cols9 : Row w9 w.heap.size vc cs := keepRow h.cols gr (fun y hy => .inr (.inl (by obtain ⟨_, cur, hc⟩ := hT y hy; exact ⟨cur, _, hc, by decide⟩)))
  have g2 := Draw.grown_setCell w9 gq 10 v10'
  have hv := heap_setCell_same w9 gq 10 _ _ v10' hv9
  exact ⟨hv9, ⟨o9.grown g2 (DrawB.Lft.above h0 o9.lft g2 (fun k hk => by cases hk; exact h.gql)) (fun y hy => by cases hy; exact .inr ⟨_, _, hv9, by decide, by decide, by decide⟩), hv, h.gql, keepRow cols9 g2 (fun y hy => by cases hy; exact .inr (.inl ⟨_, _, hv9, by decide⟩)), h.csz, h.ap⟩⟩
/-- The first of the columns' names. -/
theorem co_at {w : World} {B g cap : Nat} {cs : List ByteArray} (h : Row w B (.slice (some ⟨g, 0, none⟩) cs.length cap) cs) (hl : 0 < cs.length) : w.cell? ⟨g, 0, none⟩ = some (.string (cs.getD 0 ⟨#[]⟩)) := by
  have := World.ownsRow.cellAt h 0 (by simpa using hl)
  rw [this]
  simp [hl]
/-- One of the columns' names. -/
theorem pickC_any {w : World} {b : Nat} {A : Option Addr} {n c B gc cap : Nat} {cs : List ByteArray} (hc : Cur w b A n c) (h : Row w B (.slice (some ⟨gc, 0, none⟩) cs.length cap) cs) (hb : b < B) (hl : 0 < cs.length) (hl2 : cs.length ≤ 1000) (hz : ∀ s, s ∈ cs → s.size ≤ 10) :
    Calls Try.prog 22 #[.pointer (some ⟨b, 0, none⟩), .slice (some ⟨gc, 0, none⟩) cs.length cap] w fun e w' => (∃ x : ByteArray, x.size ≤ 10 ∧ e = .returned (.string x)) ∧ Lft w w' b A n c := by
  obtain ⟨g', cap', e, _, _, CO⟩ := co_of h hb hl
  simp only [Value.slice.injEq, Option.some.injEq, Addr.mk.injEq, true_and, and_true] at e
  obtain ⟨rfl, rfl⟩ := e
  exact (Draw.pickc_any b A n c gc cs.length cap (fun i => cs.getD i ⟨#[]⟩) w hc hl hl2 CO.lt CO.ne CO.cell).mono fun e w' ⟨⟨i, hi, he⟩, L⟩ => ⟨⟨_, col_sz hz i, he⟩, L⟩
theorem Qs.drew {w wr : World} {b : Nat} {A : Option Addr} {n c gq : Nat} {q : Qry} {v5 v6 v10 vc : Value} {cs : List ByteArray} {ps : List (Gqt × Value)} (h : Qs w wr b A n c gq q v5 v6 v10 vc cs ps) (hb : b < w.heap.size) : Qs w wr.drew b A n c gq q v5 v6 v10 vc cs ps :=
  h.draw hb ⟨h.o.lft.cur.drew, Draw.grown_drew (World.grownBy.refl _ _)⟩
end Go.Proofs.Ytkohhcjpjloaaaa.DwQ
