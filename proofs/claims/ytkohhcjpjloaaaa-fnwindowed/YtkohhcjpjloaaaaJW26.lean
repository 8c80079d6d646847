/- DrawWindows: the Query's variable, the times; what is told in the end; The model's DrawWindows. -/
import Derived.Test.YtkohhcjpjloaaaaJW19
import Derived.Test.YtkohhcjpjloaaaaJW25
import Derived.Test.YtkohhcjpjloaaaaJW22
import Derived.Test.YtkohhcjpjloaaaaJW23
namespace Go.Proofs.Ytkohhcjpjloaaaa.DwH
set_option maxRecDepth 8000
open Go.RowKit
open Ls Lp QtP DsP QsP DwQ DwG DwC RkP DsD
open Draw (Cur Lft Bytes)
open Recs (hsz below1 below2 chain)
set_option linter.unusedVariables false
theorem results_row_tmp {P : Program} {fn : Func} {p u : Tmp} {ty : TypeId} (h : fn.results = #[.cell p ty, .tmp u]) (tmps : Array Value) (w : World) (g : Nat) (t : TypeId) (cs : Array Value) (fr : Nat × Nat) (d : TypeDesc)
    (x : Value) (hp : tmps.getD p undef = .pointer (some ⟨g, 0, none⟩)) (hx : tmps.getD u undef = x) (hg : w.heap[g]? = some (.cells cs t fr))
    (hu : P.underlying ty = some d) (hd : (match d with | .struct _ | .array _ _ => true | _ => false) = true) (hi : (P.info? ty).map (·.size) = some cs.size) :
    (results fn tmps).run P w = .ok (.tuple #[.agg cs, x]) w := by
  subst hx
  have hp' : tmps[p]?.getD undef = .pointer (some ⟨g, 0, none⟩) := by simpa using hp
  rw [results_cell_tmp h]
  simp [hp', asAddr, run_loadVar_row w g t ty cs fr d hg hu hd hi, Result.andThen]
theorem bytes_later {w w' : World} {A : Option Addr} {n c : Nat} (h : Bytes w w.heap.size A n c) (b : Below w.heap.size w w') : Bytes w' w'.heap.size A n c := by
  rcases h with h | ⟨g, o, h1, h2, h3, h4, h5⟩
  · exact .inl h
  · refine .inr ⟨g, o, h1, by have := b.size; omega, Nat.lt_of_lt_of_le h3 b.size, h4, fun j hj => ?_⟩
    obtain ⟨x, hx, hc⟩ := h5 j hj
    exact ⟨x, hx, (b.cell (p := ⟨g, o + j, none⟩) h3).trans hc⟩
theorem qo_weak {w w1 wr : World} {b : Nat} {A : Option Addr} {n c : Nat} {q : Qry} {v5 v6 v10 : Value} {ps : List (Gqt × Value)} (l : Lft w w1 b A n c) (h : Qo w1 wr b A n c q v5 v6 v10 ps) : Qo w wr b A n c q v5 v6 v10 ps :=
  ⟨l.trans h.lft, row_weak h.wh l.grown.size, row_weak h.gps l.grown.size, row_weak h.gets l.grown.size, fun p hp => row_weak (h.el p hp) l.grown.size, h.hm, h.sz, h.dis⟩
/-- The variable's block. -/
def Vb (w wr : World) (gq : Nat) : Prop := w.heap.size ≤ gq ∧ ∃ cs : Array Value, cs.size = 11 ∧ wr.heap[gq]? = some (.cells cs 28 (0, 0))
theorem Vb.draw {w wr w' : World} {gq b : Nat} {A : Option Addr} {n c : Nat} (h : Vb w wr gq) (hb : b < w.heap.size) (l : Lft wr w' b A n c) : Vb w w' gq := by
  obtain ⟨h1, cs, h2, h3⟩ := h
  exact ⟨h1, cs, h2, (l.grown.block _ (Array.getElem?_eq_some_iff.1 h3).1 (by simp; omega)).trans h3⟩
/-- While it is drawn. -/
structure De (w wr : World) (b : Nat) (A : Option Addr) (n c gq : Nat) (q : Qry) (v5 v6 v10 : Value) (ps : List (Gqt × Value)) : Prop where
  o : Qo w wr b A n c q v5 v6 v10 ps
  pos : 0 < ps.length
  var : wr.heap[gq]? = some (.cells (qv q v5 v6 v10) 28 (0, 0))
  gql : w.heap.size ≤ gq
theorem De.vb {w wr : World} {b : Nat} {A : Option Addr} {n c gq : Nat} {q : Qry} {v5 v6 v10 : Value} {ps : List (Gqt × Value)} (h : De w wr b A n c gq q v5 v6 v10 ps) : Vb w wr gq := ⟨h.gql, _, rfl, h.var⟩
theorem De.new {w wr : World} {b : Nat} {A : Option Addr} {n c : Nat} {q : Qry} {v5 v6 v10 : Value} {ps : List (Gqt × Value)} (hb : b < w.heap.size) (h : Qo w wr b A n c q v5 v6 v10 ps) (hp : 0 < ps.length) : De w (wr.alloc (.cells (qv q v5 v6 v10) 28 (0, 0))) b A n c wr.heap.size q v5 v6 v10 ps :=
  ⟨h.draw hb ⟨h.lft.cur.alloc _, World.grownBy_alloc _ _ _⟩, hp, heap_alloc_new _ _, h.lft.grown.size⟩
theorem De.draw {w wr w' : World} {b : Nat} {A : Option Addr} {n c gq : Nat} {q : Qry} {v5 v6 v10 : Value} {ps : List (Gqt × Value)} (h : De w wr b A n c gq q v5 v6 v10 ps) (hb : b < w.heap.size) (l : Lft wr w' b A n c) : De w w' b A n c gq q v5 v6 v10 ps :=
  ⟨h.o.draw hb l, h.pos, (l.grown.block _ (Array.getElem?_eq_some_iff.1 h.var).1 (by have := h.gql; simp; omega)).trans h.var, h.gql⟩
/-- Another one is put into the variable. -/
theorem De.put {w wr : World} {b : Nat} {A : Option Addr} {n c gq : Nat} {q : Qry} {v5 v6 v10 : Value} {ps : List (Gqt × Value)} (h0 : Cur w b A n c) (hv : Vb w wr gq) (h : Qo w wr b A n c q v5 v6 v10 ps) (hp : 0 < ps.length) : wr.there gq 0 11 ∧ De w (wr.setCells gq 0 (qv q v5 v6 v10).toList) b A n c gq q v5 v6 v10 ps := by
  obtain ⟨h1, cs, h2, h3⟩ := hv
  have gr : wr.grownBy (wr.setCells gq 0 (qv q v5 v6 v10).toList) (some gq) := grown_setCells _ _ _ _
  exact ⟨h2 ▸ Cells.there_of h3, h.grown gr (DrawB.Lft.above h0 h.lft gr (fun k hk => by cases hk; exact h1)) (fun y hy => by cases hy; exact .inr ⟨_, _, h3, by decide, by decide, by decide⟩), hp, Cells.whole (vs := qv q v5 v6 v10) h3 h2, h1⟩
structure Dw (w wr : World) (b : Nat) (A : Option Addr) (n c gq : Nat) (q : Qry) (v5 v6 v10 : Value) (ps : List (Gqt × Value)) : Prop where
  o : Bo w wr b A n c q v5 v6 v10 ps
  var : wr.heap[gq]? = some (.cells (qv q v5 v6 v10) 28 (0, 0))
  gql : w.heap.size ≤ gq
theorem De.dw {w wr : World} {b : Nat} {A : Option Addr} {n c gq : Nat} {q : Qry} {v5 v6 v10 : Value} {ps : List (Gqt × Value)} (h : De w wr b A n c gq q v5 v6 v10 ps) : Dw w wr b A n c gq q v5 v6 v10 ps := ⟨of_qo h.o, h.var, h.gql⟩
theorem Dw.put {w wr : World} {b : Nat} {A : Option Addr} {n c gq : Nat} {q : Qry} {v5 v6 v10 : Value} {ps : List (Gqt × Value)} (h0 : Cur w b A n c) (hv : Vb w wr gq) (h : Bo w wr b A n c q v5 v6 v10 ps) : wr.there gq 0 11 ∧ Dw w (wr.setCells gq 0 (qv q v5 v6 v10).toList) b A n c gq q v5 v6 v10 ps := by
  obtain ⟨h1, cs, h2, h3⟩ := hv
  have gr : wr.grownBy (wr.setCells gq 0 (qv q v5 v6 v10).toList) (some gq) := grown_setCells _ _ _ _
  exact ⟨h2 ▸ Cells.there_of h3, h.grown gr (DrawB.Lft.above h0 h.lft gr (fun k hk => by cases hk; exact h1)) (fun y hy => by cases hy; exact .inr ⟨_, _, h3, by decide, by decide, by decide⟩), Cells.whole (vs := qv q v5 v6 v10) h3 h2, h1⟩
theorem Dw.draw {w wr w' : World} {b : Nat} {A : Option Addr} {n c gq : Nat} {q : Qry} {v5 v6 v10 : Value} {ps : List (Gqt × Value)} (h : Dw w wr b A n c gq q v5 v6 v10 ps) (hb : b < w.heap.size) (l : Lft wr w' b A n c) : Dw w w' b A n c gq q v5 v6 v10 ps :=
  ⟨h.o.draw hb l, (l.grown.block _ (Array.getElem?_eq_some_iff.1 h.var).1 (by have := h.gql; simp; omega)).trans h.var, h.gql⟩
/-- With the times. -/
structure Dt (w wr : World) (b : Nat) (A : Option Addr) (n c gq : Nat) (q : Qry) (v5 v6 v10 : Value) (ps : List (Gqt × Value)) (vt : Value) (ts : List Int) : Prop where
  d : Dw w wr b A n c gq q v5 v6 v10 ps
  row : NRow wr w.heap.size vt ts
theorem Dt.start {w wr : World} {b : Nat} {A : Option Addr} {n c gq : Nat} {q : Qry} {v5 v6 v10 : Value} {ps : List (Gqt × Value)} (hb : b < w.heap.size) (h : Dw w wr b A n c gq q v5 v6 v10 ps) : Dt w (wr.alloc (.cells #[] 3 (0, 0))) b A n c gq q v5 v6 v10 ps (.slice (some ⟨wr.heap.size, 0, none⟩) 0 0) [] :=
  ⟨h.draw hb ⟨h.o.lft.cur.alloc _, World.grownBy_alloc _ _ _⟩, rfl, .inr ⟨wr.heap.size, 0, #[], rfl, h.o.lft.grown.size, heap_alloc_new _ _, by simp, by unfold maxLen; omega, by simp, rfl⟩⟩
theorem Dt.draw {w wr w' : World} {b : Nat} {A : Option Addr} {n c gq : Nat} {q : Qry} {v5 v6 v10 : Value} {ps : List (Gqt × Value)} {vt : Value} {ts : List Int} (h : Dt w wr b A n c gq q v5 v6 v10 ps vt ts) (hb : b < w.heap.size) (l : Lft wr w' b A n c) : Dt w w' b A n c gq q v5 v6 v10 ps vt ts :=
  ⟨h.d.draw hb l, NRow.keepG h.row hb l.grown⟩
theorem Dt.alloc {w wr : World} {b : Nat} {A : Option Addr} {n c gq : Nat} {q : Qry} {v5 v6 v10 : Value} {ps : List (Gqt × Value)} {vt : Value} {ts : List Int} (h : Dt w wr b A n c gq q v5 v6 v10 ps vt ts) (hb : b < w.heap.size) (o : Obj) : Dt w (wr.alloc o) b A n c gq q v5 v6 v10 ps vt ts :=
  h.draw hb ⟨h.d.o.lft.cur.alloc o, World.grownBy_alloc _ _ _⟩
theorem Dt.push {w wr w9 : World} {b : Nat} {A : Option Addr} {n c gq : Nat} {q : Qry} {v5 v6 v10 : Value} {ps : List (Gqt × Value)} {vt vt' : Value} {ts : List Int} {a : Int} (h0 : Cur w b A n c) (h : Dt w wr b A n c gq q v5 v6 v10 ps vt ts) (hown : w9.ownsRow w.heap.size 3 1 vt' (ts.length + 1) (ts.map (Value.int .i64) ++ [.int .i64 a])) (gr : wr.grownBy w9 vt.ownBlock) : Dt w w9 b A n c gq q v5 v6 v10 ps vt' (ts ++ [a]) := by
  have hT : ∀ y, vt.ownBlock = some y → w.heap.size ≤ y ∧ ∃ cur, wr.heap[y]? = some (.cells cur 3 (0, 0)) := fun y hy => ⟨(own_ty h.row hy).1, (own_ty h.row hy).2.2⟩
  have gq' : vt.ownBlock ≠ some gq := fun e => by
    obtain ⟨_, cur, hc⟩ := hT _ e
    rw [h.d.var] at hc
    simp only [Option.some.injEq, Obj.cells.injEq] at hc
    exact absurd hc.2.1 (by decide)
  refine ⟨⟨h.d.o.grown gr (DrawB.Lft.above h0 h.d.o.lft gr (fun k hk => (hT k hk).1)) (fun y hy => ?_), (gr.block _ (Array.getElem?_eq_some_iff.1 h.d.var).1 (Ne.symm gq')).trans h.d.var, h.d.gql⟩, NRow.put hown⟩
  obtain ⟨_, cur, hc⟩ := hT y hy
  exact .inr ⟨cur, _, hc, by decide, by decide, by decide⟩
/-- How it lies. -/
theorem gcells_get {l : List (Gqt × Value)} {i j : Nat} (hi : i < l.length) (hj : j < 3) : (gcells l)[i * 3 + j]? = some ((gc1 (l.getD i default)).getD j default) := by
  induction l generalizing i with
  | nil => exact absurd hi (Nat.not_lt_zero _)
  | cons a r ih =>
    have e : gcells (a :: r) = gc1 a ++ gcells r := rfl
    cases i with
    | zero =>
      rw [e, Nat.zero_mul, Nat.zero_add, List.getElem?_append_left (by simpa using hj)]
      match j, hj with
      | 0, _ => rfl
      | 1, _ => rfl
      | 2, _ => rfl
    | succ i =>
      rw [e, List.getElem?_append_right (by simp only [List.length_cons, List.length_nil]; omega)]
      have := ih (i := i) (by simpa using hi)
      rw [show (i + 1) * 3 + j - (gc1 a).length = i * 3 + j by simp only [List.length_cons, List.length_nil]; omega, this]
      simp
theorem row_lat {w : World} {B : Nat} {v : Value} {l : List ByteArray} (hn : l.length ≤ 9223372036854775807) (h : Row w B v l) : LAt 1 EStr w (Hp w) v l := by
  refine ⟨hn, ?_⟩
  rcases h.2 with ⟨h1, h2⟩ | ⟨g, cap, cur, h1, h2, h3, h4, h5, h6, h7⟩
  · exact ⟨none, 0, by rw [h1, h2], .inl h2⟩
  · refine ⟨_, cap, h1, .inr ⟨g, 0, fun i _ => .string (l.getD i default), rfl, (Array.getElem?_eq_some_iff.1 h3).1, h4, fun i hi j hj => ?_, fun i hi => rfl⟩⟩
    obtain rfl : j = 0 := by omega
    have := World.ownsRow.cellAt (h1 ▸ h) i (by simpa using hi)
    simp only [Nat.zero_add, Nat.mul_one, Nat.add_zero]
    rw [this]
    simp [hi]
theorem grow_lat {w : World} {B : Nat} {v : Value} {ps : List (Gqt × Value)} (hn : ps.length ≤ 1000) (h : GRow w B v ps) (el : ∀ p, p ∈ ps → SRow w B p.2 p.1.steps ∧ p.1.steps.length ≤ 1000) : LAt 3 EGqt w (Hp w) v (ps.map Prod.fst) := by
  have hl : (ps.map Prod.fst).length = ps.length := List.length_map ..
  refine ⟨by omega, ?_⟩
  rcases h.2 with ⟨h1, h2⟩ | ⟨g, cap, cur, h1, h2, h3, h4, h5, h6, h7⟩
  · exact ⟨none, 0, by rw [h1, hl, h2], .inl (by rw [hl, h2])⟩
  · refine ⟨_, cap, by rw [h1, hl], .inr ⟨g, 0, fun i j => (gc1 (ps.getD i default)).getD j default, rfl, (Array.getElem?_eq_some_iff.1 h3).1, by omega, fun i hi j hj => ?_, fun i hi => ?_⟩⟩
    · rw [hl] at hi
      have := World.ownsRow.cellAt (h1 ▸ h) (i * 3 + j) (by omega)
      rw [Nat.zero_add, this]
      have e := gcells_get hi hj
      have hlt : i * 3 + j < (gcells ps).length := by rw [gcells_len]; omega
      rw [List.getElem?_eq_getElem hlt] at e
      rw [← e]
      simp [hlt]
    · rw [hl] at hi
      have hm : ps.getD i default ∈ ps := by rw [List.getD_eq_getElem?_getD, List.getElem?_eq_getElem hi]; exact List.getElem_mem hi
      have e : (ps.map Prod.fst).getD i default = (ps.getD i default).1 := by simp [List.getD_eq_getElem?_getD, hi]
      rw [e]
      exact ⟨rfl, LAt.mono growsStp (SRow.lat (by have := (el _ hm).2; omega) (el _ hm).1) (fun g hg => hg.2), rfl⟩
theorem qry_lat {w : World} {B : Nat} {q : Qry} {v5 v6 v10 : Value} {ps : List (Gqt × Value)} (h5 : SRow w B v5 q.wh) (h6 : Row w B v6 q.gps) (h10 : GRow w B v10 ps) (el : ∀ p, p ∈ ps → SRow w B p.2 p.1.steps) (hm : q.gets = ps.map Prod.fst) (hs : Sb q ps) : QryAt w (Hp w) (.agg (qv q v5 v6 v10)) q := by
  have l5 := hs.wh.1
  have l6 := hs.gps.1
  have l10 := hs.gets.1
  refine ⟨fun j => (qv q v5 v6 v10).getD j default, rfl, rfl, rfl, rfl, rfl, rfl, LAt.mono growsStp (SRow.lat (by omega) h5) (fun g hg => hg.2), row_lat (by omega) h6, rfl, rfl, rfl, ?_⟩
  rw [hm]
  exact grow_lat (by omega) h10 (fun p hp => ⟨el p hp, by have := (hs.gets.2 p hp).2.1; omega⟩)
theorem tot_most {T : Type} (f : T → Nat) (k : Nat) : ∀ l : List T, (∀ x, x ∈ l → f x ≤ k) → tot f l ≤ k * l.length
  | [], _ => by simp [tot]
  | a :: r, h => by
    have h1 := tot_most f k r (fun x hx => h x (List.mem_cons_of_mem _ hx))
    have h2 := h a (List.mem_cons_self ..)
    simp only [tot, List.length_cons, Nat.mul_succ]
    omega
theorem sz_qry {q : Qry} {ps : List (Gqt × Value)} (hs : Sb q ps) (hm : q.gets = ps.map Prod.fst) : szQry q ≤ 1048576 := by
  obtain ⟨a1, a2, a3, a4⟩ := hs.names
  have b1 := sz_sm hs.wh.2
  have b2 := hs.wh.1
  have c1 := tot_most ByteArray.size 20 q.gps hs.gps.2
  have c2 := hs.gps.1
  have d1 := tot_most szGqt 240 (ps.map Prod.fst) (fun x hx => by
    obtain ⟨p, hp, rfl⟩ := List.mem_map.1 hx
    obtain ⟨e1, e2, e3⟩ := hs.gets.2 p hp
    have e4 := sz_sm e3
    unfold szGqt szL
    omega)
  have d2 := hs.gets.1
  rw [List.length_map] at d1
  unfold szQry szL
  rw [hm, List.length_map]
  omega
/-- What is told. -/
def ToldW (w : World) (e : Ending) (w' : World) : Prop := ∃ x y q ts, e = .returned (.tuple #[x, y]) ∧ QryAt w' (Hp w') x q ∧ szQry q ≤ 1048576 ∧ IntsAt w' (Hp w') y ts ∧ ts.length ≤ 100 ∧ Below w.heap.size w w'
theorem Dt.told {w wr : World} {b : Nat} {A : Option Addr} {n c gq : Nat} {q : Qry} {v5 v6 v10 : Value} {ps : List (Gqt × Value)} {vt : Value} {ts : List Int} {w0 : World} {rb : Nat} {cur : Array Value} (hr : w0.heap.size = rb) (hrw : rb < w.heap.size) (hrb : rb ≠ b) (hbl : w0.heap.size ≤ b) (hB : Below w0.heap.size w0 w) (hR : w.heap[rb]? = some (.cells cur 28 (0, 0))) (hc : cur.size = 11) (h : Dt w wr b A n c gq q v5 v6 v10 ps vt ts) (hl : ts.length ≤ 100) :
    wr.there rb 0 11 ∧ (wr.setCells rb 0 (qv q v5 v6 v10).toList).heap[rb]? = some (.cells (qv q v5 v6 v10) 28 (0, 0)) ∧ ToldW w0 (.returned (.tuple #[.agg (qv q v5 v6 v10), vt])) (wr.setCells rb 0 (qv q v5 v6 v10).toList) := by
  have gr : wr.grownBy (wr.setCells rb 0 (qv q v5 v6 v10).toList) (some rb) := grown_setCells _ _ _ _
  have hR' : wr.heap[rb]? = some (.cells cur 28 (0, 0)) := (h.d.o.lft.grown.block _ hrw (by simp only [ne_eq, Option.some.injEq]; exact hrb)).trans hR
  have kp : ∀ {ty k m : Nat} {v : Value} {l : List Value}, wr.ownsRow w.heap.size ty k v m l → (wr.setCells rb 0 (qv q v5 v6 v10).toList).ownsRow w.heap.size ty k v m l := fun hh => keepRow hh gr (fun y hy => .inl (by cases hy; exact hrw))
  refine ⟨hc ▸ Cells.there_of hR', Cells.whole (vs := qv q v5 v6 v10) hR' hc, _, _, q, ts, rfl, qry_lat (kp h.d.o.wh) (kp h.d.o.gps) (kp h.d.o.gets) (fun p hp => kp (h.d.o.el p hp)) h.d.o.hm h.d.o.sz, sz_qry h.d.o.sz h.d.o.hm, NRow.lat (by omega) (kp h.row), hl, ?_⟩
  have g := h.d.o.lft.grown
  exact ⟨gr.os.trans (g.os.trans hB.os), gr.tape.trans (g.tape.trans hB.tape), gr.output.trans (g.output.trans hB.output), Nat.le_trans hB.size (Nat.le_trans g.size gr.size), fun k hk => (gr.block k (by have := hB.size; have := g.size; omega) (by simp; omega)).trans ((g.block k (by have := hB.size; omega) (by simp; omega)).trans (hB.block k hk))⟩
end Go.Proofs.Ytkohhcjpjloaaaa.DwH
namespace Go.Proofs.Ytkohhcjpjloaaaa.DwW
set_option maxRecDepth 8000
open Go.RowKit
open Ls Lp QtP DsP QsP DwQ DwG DwC RkP DsD DwH
open Draw (Cur Lft Bytes)
open Recs (hsz below1 below2 chain)
open DwB (own_one qv_one pickI_new)
set_option linter.unusedVariables false
theorem infoI : (Try.prog.info? 3).map (fun i => (i.zero, i.size, i.bytes)) = some (some (.int .i64 0), 1, 8) := by kernel_rfl
set_option maxHeartbeats 25600000 in
theorem draw_any (A : Option Addr) (n c : Nat) (w : World) (hn : n ≤ 1048576) (hb0 : Bytes w w.heap.size A n c) :
    Calls Try.prog 5 #[.slice A n c] w (ToldW w) := by
  have HB : Hid (∀ o, Bytes (w.alloc o) (w.alloc o).heap.size A n c) := fun o => bytes_later hb0 (below1 _ _)
  clear hb0
  obtain ⟨i0, hi, hz0, hz1, hz2⟩ := info_parts infoI
  go_enter Try.func5, Try.ntmps5
  go_upto_region 1 with fail
  obtain ⟨w0, hw0⟩ : ∃ x, w.alloc (.cells zq 28 (0, 0)) = x := ⟨_, rfl⟩
  have HB0 : Hid (Bytes w0 w0.heap.size A n c) := by show Bytes _ _ _ _ _; rw [← hw0]; exact HB.out _
  have B0 : Hid (Below w.heap.size w w0) := by show Below _ _ _; rw [← hw0]; exact below1 _ _
  have S0 : Hid (w0.heap.size = w.heap.size + 1) := by show _ = _; rw [← hw0, hsz]
  have R0 : Hid (w0.heap[w.heap.size]? = some (.cells zq 28 (0, 0))) := by show _ = _; rw [← hw0]; exact heap_alloc_new _ _
  try rw [hw0]
  clear hw0 HB
  go_upto_region 2 with (go_at_call 8; refine (Draw.new_any A n c w0 hn HB0.out).mono ?_; rintro e w1 ⟨h, rfl, hw1⟩; have HW1 := Seg.hid hw1; clear hw1)
  have hw1 := HW1.out
  clear HW1
  have C1 : Hid (Cur w1 w0.heap.size A n c) := by subst hw1; exact Draw.cur_new hn HB0.out h _
  have B1 : Hid (Below w.heap.size w w1) := by subst hw1; exact chain B0.out (below1 _ _)
  have s1 : w1.heap.size = w0.heap.size + 1 := by subst hw1; exact hsz _ _
  have R1 : Hid (w1.heap[w.heap.size]? = some (.cells zq 28 (0, 0))) := by subst hw1; exact (heap_alloc_old _ _ (by have := S0.out; omega)).trans R0.out
  clear hw1 R0 B0 HB0
  obtain ⟨b, hbw⟩ : ∃ b, w0.heap.size = b := ⟨_, rfl⟩
  have hb : b < w1.heap.size := by omega
  have hbr : w.heap.size < b := by have := S0.out; omega
  rw [hbw] at C1 ⊢
  clear hbw s1 S0
  go_upto_region 3 with (go_at_call 9; refine (DwD.drawn_any b A n c w1 C1.out).mono ?_; rintro e w2 ⟨q, v5, v6, v10, ps, rfl, hq, hp⟩; obtain ⟨A5, m5, c5', e5⟩ := own_one hq.wh; obtain ⟨A6, m6, c6', e6⟩ := own_one hq.gps; obtain ⟨A10, m10, c10', e10⟩ := own_one hq.gets; subst e5 e6 e10; have D2 := Seg.hid (De.new hb hq hp); clear hq hp)
  obtain ⟨w3, hw3⟩ : ∃ x, w2.alloc (.cells (qv q (.slice A5 m5 c5') (.slice A6 m6 c6') (.slice A10 m10 c10')) 28 (0, 0)) = x := ⟨_, rfl⟩
  rw [hw3] at D2 ⊢
  clear hw3
  generalize w2.heap.size = gq at *
  go_upto_region 4 with fail
  go_loopw [6] (fun i wr => ∃ (k : Nat) (q : Qry) (v5 v6 v10 : Value) (ps : List (Gqt × Value)), k ≤ 5 ∧ i = .int .i64 k ∧ Hid (De w1 wr b A n c gq q v5 v6 v10 ps)) (fun i _ => 5 - (intOf i).toNat)
  case atStart => exact ⟨0, _, _, _, _, _, by omega, rfl, D2⟩
  case round =>
    clear D2
    obtain ⟨k, q, v5, v6, v10, ps, hk, rfl, HD⟩ := hrel
    obtain ⟨A5, m5, c5', e5⟩ := own_one HD.out.o.wh
    obtain ⟨A6, m6, c6', e6⟩ := own_one HD.out.o.gps
    obtain ⟨A10, m10, c10', e10⟩ := own_one HD.out.o.gets
    subst e5 e6 e10
    have hc0 := qcells HD.out.var
    obtain ⟨_, _, _, _, _, _, e6, _, _, _, _⟩ := hc0
    go_upto_region 4 with fail
    go_cut [20] from 13 to 20 (fun v wx => ∃ x, v = .bool x ∧ (x = true → k < 5) ∧ De w1 wx b A n c gq q (.slice A5 m5 c5') (.slice A6 m6 c6') (.slice A10 m10 c10') ps)
    case first =>
      by_cases hlt : k < 5
      · have e1 : decide ((k : Int) < 5) = true := by rw [decide_eq_true_iff]; omega
        cases e0 : ((m6 : Int) == 0) with
        | true =>
          go_wp2
          go_meet
          exact ⟨_, rfl, fun _ => hlt, HD.out⟩
        | false =>
          go_wp2
          go_meet
          exact ⟨_, rfl, fun _ => hlt, HD.out⟩
      · have e1 : decide ((k : Int) < 5) = false := by rw [decide_eq_false_iff_not]; omega
        cases e0 : ((m6 : Int) == 0) with
        | true =>
          go_wp2
          go_meet
          exact ⟨false, rfl, by simp, HD.out⟩
        | false =>
          go_wp2
          go_meet
          exact ⟨false, rfl, by simp, HD.out⟩
    case rest =>
    obtain ⟨x, hx, hx1, hQ⟩ := hcut
    subst hx
    clear HD e6
    have H4 := Seg.hid hQ
    clear hQ
    rename World => w4
    cases x with
    | true =>
      have hlt : k < 5 := hx1 rfl
      clear hx1
      go_upto_region 5 with (first | (go_at_call 9; refine (DwD.drawn_any b A n c w4 H4.out.o.lft.cur).mono ?_; rintro e w5 ⟨q', v5', v6', v10', ps', rfl, hq, hp⟩; obtain ⟨B5, k5, d5', e5⟩ := own_one hq.wh; obtain ⟨B6, k6, d6', e6⟩ := own_one hq.gps; obtain ⟨B10, k10, d10', e10⟩ := own_one hq.gets; subst e5 e6 e10; obtain ⟨t5, D5⟩ := De.put C1.out (Vb.draw (De.vb H4.out) hb hq.lft) (qo_weak H4.out.o.lft hq) hp; have T5 := Seg.hid t5; have D6 := Seg.hid D5; clear t5 D5 hq hp; have ON : Hid ((qv q' (.slice B5 k5 d5') (.slice B6 k6 d6') (.slice B10 k10 d10')).all (·.oneCell') = true) := qv_one ⟨_, _, _, rfl⟩ ⟨_, _, _, rfl⟩ ⟨_, _, _, rfl⟩) | (refine wpList_store_mid rfl 28 _ _ rfl gq 0 (qv q' (.slice B5 k5 d5') (.slice B6 k6 d6') (.slice B10 k10 d10')) rfl rfl T5.out infoQ ON.out ?_))
      go_wp2_with fail
      go_roundw
      case rel => exact ⟨k + 1, _, _, _, _, _, by omega, by go_num, D6⟩
      case measure => simp [intOf]; omega
    | false =>
      clear hx1
      go_upto_region 7 with fail
      go_upto_if 26 with (go_at_call 10; refine (Draw.once_any b A n c 12 w4 H4.out.o.lft.cur (by decide) (by decide)).mono ?_; rintro e w5 ⟨⟨x5, rfl⟩, M⟩; have H5 := Seg.hid (H4.out.draw hb M); clear M H4)
      go_cut [] from 27 to 29 (fun wx => ∃ q v5 v6 v10 ps, Dw w1 wx b A n c gq q v5 v6 v10 ps)
      case first =>
        cases x5 with
        | false =>
          go_wp2
          go_meet
          exact ⟨_, _, _, _, _, H5.out.dw⟩
        | true =>
          have VAR := Seg.hid H5.out.var
          go_wp2_with (first | (refine wpList_load_row rfl 28 _ rfl gq rfl _ _ _ _ VAR.out Try.underlying28 rfl infoQ ?_) | (go_at_call 11; refine (DwB.bent_any b A n c w1 w5 _ _ _ _ _ C1.out H5.out.o H5.out.pos gq _ H5.out.gql H5.out.var).mono ?_; rintro e w6 ⟨q', v5', v6', v10', ps', rfl, hq, ho6⟩; obtain ⟨B5, k5, d5', e5⟩ := own_one hq.wh; obtain ⟨B6, k6, d6', e6⟩ := own_one hq.gps; obtain ⟨B10, k10, d10', e10⟩ := own_one hq.gets; subst e5 e6 e10; have VB : Vb w1 w6 gq := ⟨H5.out.gql, _, rfl, ho6⟩; clear ho6; obtain ⟨t5, D5⟩ := Dw.put C1.out VB hq; have T5 := Seg.hid t5; have D6 := Seg.hid D5; clear t5 D5 hq; have ON : Hid ((qv q' (.slice B5 k5 d5') (.slice B6 k6 d6') (.slice B10 k10 d10')).all (·.oneCell') = true) := qv_one ⟨_, _, _, rfl⟩ ⟨_, _, _, rfl⟩ ⟨_, _, _, rfl⟩) | (refine wpList_store_mid rfl 28 _ _ rfl gq 0 (qv q' (.slice B5 k5 d5') (.slice B6 k6 d6') (.slice B10 k10 d10')) rfl rfl T5.out infoQ ON.out ?_))
          go_meet
          exact ⟨_, _, _, _, _, D6.out⟩
      case rest =>
      clear H5
      obtain ⟨q, v5, v6, v10, ps, hQ⟩ := hcut
      obtain ⟨A5, m5, c5', e5⟩ := own_one hQ.o.wh
      obtain ⟨A6, m6, c6', e6⟩ := own_one hQ.o.gps
      obtain ⟨A10, m10, c10', e10⟩ := own_one hQ.o.gets
      subst e5 e6 e10
      have H6 := Seg.hid hQ
      clear hQ
      rename World => w6
      go_upto_region 10 with fail
      have T7 := Seg.hid (Dt.start hb H6.out)
      obtain ⟨w7, hw7⟩ : ∃ x, w6.alloc (.cells #[] 3 (0, 0)) = x := ⟨_, rfl⟩
      rw [hw7] at T7 ⊢
      clear hw7 H6
      generalize w6.heap.size = gt at *
      go_upto_region 11 with (go_at_call 12; refine (Draw.below_any b A n c 12 w7 T7.out.d.o.lft.cur (by decide) (by decide)).mono ?_; rintro e w8 ⟨⟨y, ya, yb, rfl⟩, M⟩; have T8 := Seg.hid (T7.out.draw hb M); clear M T7)
      obtain ⟨k0, rfl⟩ : ∃ k0 : Nat, y = k0 := ⟨y.toNat, by omega⟩
      go_loopw [7, 8] (fun v i wr => ∃ (k : Nat) (ts : List Int), i = .int .i64 k ∧ Hid (k + ts.length ≤ 11) ∧ Hid (Dt w1 wr b A n c gq q (.slice A5 m5 c5') (.slice A6 m6 c6') (.slice A10 m10 c10') ps v ts)) (fun _ i _ => (intOf i).toNat)
      case atStart => exact ⟨k0, [], rfl, Seg.hid (by simp only [List.length_nil]; omega), T8⟩
      case round =>
        clear T8
        obtain ⟨k, ts, rfl, HL, HT⟩ := hrel
        obtain ⟨A7, c7, e7⟩ := NRow.form HT.out.row
        subst e7
        have hl11 := HL.out
        by_cases hpos : 0 < k
        · have e1 : decide (0 < k) = true := by rw [decide_eq_true_iff]; omega
          have e2 : decide (0 < (k : Int)) = true := by rw [decide_eq_true_iff]; omega
          have wk : IntKind.i64.wrap ((k : Int) - 1) = ((k - 1 : Nat) : Int) := by rw [IntKind.wrap_i64] <;> omega
          go_wp2_with (first | (go_at_call 12; refine (Draw.below_any b A n c 90 wr HT.out.d.o.lft.cur (by decide) (by decide)).mono ?_; rintro e w9 ⟨⟨x, xa, xb, rfl⟩, M⟩; have T9 := Seg.hid (HT.out.draw hb M); clear M; have OW : Hid (∀ o1, (w9.alloc o1).ownsRow w1.heap.size 3 1 (.slice A7 ts.length c7) ts.length (ts.map (Value.int .i64))) := fun o1 => (T9.out.alloc hb o1).row; have PU : Hid (∀ o1 wz v', wz.ownsRow w1.heap.size 3 1 v' (ts.length + 1) (ts.map (Value.int .i64) ++ [.int .i64 x]) → (w9.alloc o1).grownBy wz (Value.slice A7 ts.length c7).ownBlock → Dt w1 wz b A n c gq q (.slice A5 m5 c5') (.slice A6 m6 c6') (.slice A10 m10 c10') ps v' (ts ++ [x])) := fun o1 wz v' h1 h2 => (T9.out.alloc hb o1).push C1.out h1 h2; have hw9 : w1.heap.size ≤ w9.heap.size := T9.out.d.o.lft.grown.size) | (at_builtin; (refine wpList_append_lies _ rfl _ _ 29 rfl w1.heap.size 3 i0 _ 1 8 Try.underlying29 hi hz0 hz1 hz2 rfl (by decide) (.slice A7 ts.length c7) ts.length (ts.map (Value.int .i64)) rfl (OW.out _) ⟨w9.heap.size, 0, none⟩ 1 1 [.int .i64 x] rfl rfl (World.news_of_block (cs := #[.int .i64 x]) (heap_alloc_new _ _)) (by simp [Value.oneCell']) (by decide) (by unfold maxLen; omega) (by omega) (by rw [hsz]; omega) (w9.heap.size + 1) (by rw [hsz]) ?_; intro g9 cap9 wz hown9 gr9 hat9 hlt9; have S9 := Seg.hid (PU.out _ _ _ hown9 gr9); clear hown9 gr9 hat9 hlt9)))
          go_roundw
          case rel => exact ⟨k - 1, ts ++ [x], rfl, Seg.hid (by rw [List.length_append]; simp only [List.length_cons, List.length_nil]; omega), S9⟩
          case measure => simp [intOf]; omega
        have e1 : decide (0 < k) = false := by rw [decide_eq_false_iff_not]; omega
        have e2 : decide (0 < (k : Int)) = false := by rw [decide_eq_false_iff_not]; omega
        go_upto_region 14 with fail
        clear e1 e2 hpos
        go_upto_if 43 with (go_at_call 10; refine (Draw.once_any b A n c 12 wr HT.out.d.o.lft.cur (by decide) (by decide)).mono ?_; rintro e w9 ⟨⟨x9, rfl⟩, M⟩; have T9 := Seg.hid (HT.out.draw hb M); clear M HT)
        go_cut [7] from 44 to 49 (fun v wx => ∃ ts, ts.length ≤ 12 ∧ Dt w1 wx b A n c gq q (.slice A5 m5 c5') (.slice A6 m6 c6') (.slice A10 m10 c10') ps v ts)
        case first =>
          cases x9 with
          | false =>
            go_wp2
            go_meet
            exact ⟨ts, by omega, T9.out⟩
          | true =>
            have OW0 : Hid (∀ wz, Lft w9 wz b A n c → ∀ o1, (wz.alloc o1).ownsRow w1.heap.size 3 1 (.slice A7 ts.length c7) ts.length (ts.map (Value.int .i64))) := fun wz l o1 => ((T9.out.draw hb l).alloc hb o1).row
            go_wp2_with (first | (go_at_call 13; refine (pickI_new [-1, 1000000000000, 1000000000001] T9.out.d.o.lft.cur (by decide) (by decide) _ rfl).mono ?_; rintro e w10 ⟨⟨x, rfl⟩, M⟩; have T10 := Seg.hid (T9.out.draw hb M); clear M OW0; have OW : Hid (∀ o1, (w10.alloc o1).ownsRow w1.heap.size 3 1 (.slice A7 ts.length c7) ts.length (ts.map (Value.int .i64))) := fun o1 => (T10.out.alloc hb o1).row; have PU : Hid (∀ o1 wz v', wz.ownsRow w1.heap.size 3 1 v' (ts.length + 1) (ts.map (Value.int .i64) ++ [.int .i64 x]) → (w10.alloc o1).grownBy wz (Value.slice A7 ts.length c7).ownBlock → Dt w1 wz b A n c gq q (.slice A5 m5 c5') (.slice A6 m6 c6') (.slice A10 m10 c10') ps v' (ts ++ [x])) := fun o1 wz v' h1 h2 => (T10.out.alloc hb o1).push C1.out h1 h2; have hw9 : w1.heap.size ≤ w10.heap.size := T10.out.d.o.lft.grown.size) | (at_builtin; (refine wpList_append_lies _ rfl _ _ 29 rfl w1.heap.size 3 i0 _ 1 8 Try.underlying29 hi hz0 hz1 hz2 rfl (by decide) (.slice A7 ts.length c7) ts.length (ts.map (Value.int .i64)) rfl (OW.out _) ⟨w10.heap.size, 0, none⟩ 1 1 [.int .i64 x] rfl rfl (World.news_of_block (cs := #[.int .i64 x]) (heap_alloc_new _ _)) (by simp [Value.oneCell']) (by decide) (by unfold maxLen; omega) (by omega) (by rw [hsz]; omega) (w10.heap.size + 1) (by rw [hsz]) ?_; intro g9 cap9 wz hown9 gr9 hat9 hlt9; have S9 := Seg.hid (PU.out _ _ _ hown9 gr9); clear hown9 gr9 hat9 hlt9)))
            go_meet
            exact ⟨ts ++ [x], by rw [List.length_append]; simp only [List.length_cons, List.length_nil]; omega, S9.out⟩
        case rest =>
        clear T9
        obtain ⟨ts', hl', hQ⟩ := hcut
        have HQ9 := Seg.hid hQ
        clear hQ
        rename World => w11
        have VAR := Seg.hid HQ9.out.d.var
        obtain ⟨t4, w4', o4⟩ := Dt.told (w0 := w) rfl (by omega) (by omega) (by omega) B1.out R1.out rfl HQ9.out (by omega)
        have T4 := Seg.hid t4
        have W4 := Seg.hid w4'
        have O4 := Seg.hid o4
        clear t4 w4' o4
        have ON : Hid ((qv q (.slice A5 m5 c5') (.slice A6 m6 c6') (.slice A10 m10 c10')).all (·.oneCell') = true) := qv_one ⟨_, _, _, rfl⟩ ⟨_, _, _, rfl⟩ ⟨_, _, _, rfl⟩
        go_wp2_with (first | (refine wpList_load_row rfl 28 _ rfl gq rfl _ _ _ _ VAR.out Try.underlying28 rfl infoQ ?_) | (refine wpList_store_mid rfl 28 _ _ rfl w.heap.size 0 (qv q (.slice A5 m5 c5') (.slice A6 m6 c6') (.slice A10 m10 c10')) rfl rfl T4.out infoQ ON.out ?_))
        exact bodyPost_ret (v := .tuple #[.agg (qv q (.slice A5 m5 c5') (.slice A6 m6 c6') (.slice A10 m10 c10')), u7]) (results_row_tmp rfl _ _ w.heap.size _ _ _ _ u7 rfl rfl W4.out Try.underlying28 rfl infoQ) rfl O4.out
end Go.Proofs.Ytkohhcjpjloaaaa.DwW
