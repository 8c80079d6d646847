/- FnWindowed: the query of a tumble that the law makes itself; The model's Windows: what its loops keep. -/
import Derived.Test.YtkohhcjpjloaaaaJW43
import Derived.Test.YtkohhcjpjloaaaaJW42
namespace Go.Proofs.Ytkohhcjpjloaaaa.WdR
set_option maxRecDepth 8000
open Go.RowKit
open Ls Lp QtP DsP QsP DwQ DwG DwC RkP DsD DwH WdQ
open Recs (hsz below1 below2 chain)
set_option linter.unusedVariables false
abbrev toyG : Gqt := ⟨1, [], ⟨#[110]⟩⟩
abbrev toyV (g : Nat) : Array Value := #[.string ⟨#[97]⟩, .string ⟨#[]⟩, .int .i64 0, .string ⟨#[]⟩, .string ⟨#[]⟩, .slice none 0 0, .slice (some ⟨g, 0, none⟩) 1 1, .int .i64 1, .int .i64 5, .int .i64 0, .slice (some ⟨g + 1, 0, none⟩) 1 1]
abbrev toyW (w : World) : World := (w.alloc (.cells #[.string ⟨#[98]⟩] 9 (0, 0))).alloc (.cells #[.int .i64 1, .slice none 0 0, .string ⟨#[110]⟩] 35 (0, 0))
abbrev toyX (w : World) : World := (toyW w).alloc (.cells (toyV w.heap.size) 28 (0, 0))
abbrev toyY (w : World) : World := (toyX w).alloc (.cells #[.int .i64 7] 3 (0, 0))
theorem sm_nil : Sm [] := fun s hs => by cases hs
theorem toy_sb : Sb toyQ [(toyG, .slice none 0 0)] :=
  ⟨⟨(show (1 : Nat) ≤ 20 by decide), (show (0 : Nat) ≤ 20 by decide), (show (0 : Nat) ≤ 20 by decide), (show (0 : Nat) ≤ 20 by decide)⟩, ⟨(show (0 : Nat) ≤ 20 by decide), sm_nil⟩, ⟨(show (1 : Nat) ≤ 20 by decide), fun s hs => by rw [List.mem_singleton.1 hs]; exact (show (1 : Nat) ≤ 20 by decide)⟩, ⟨(show (1 : Nat) ≤ 20 by decide), fun p hp => by rw [List.mem_singleton.1 hp]; exact ⟨(show (1 : Nat) ≤ 20 by decide), (show (0 : Nat) ≤ 20 by decide), sm_nil⟩⟩⟩
theorem toy_qry (w : World) : QryAt (toyY w) (Hp (toyY w)) (.agg (toyV w.heap.size)) toyQ := by
  have h1 : (toyY w).heap[w.heap.size]? = some (.cells #[.string ⟨#[98]⟩] 9 (0, 0)) := (heap_alloc_old _ _ (by simp only [hsz]; omega)).trans ((heap_alloc_old _ _ (by simp only [hsz]; omega)).trans ((heap_alloc_old _ _ (by simp only [hsz]; omega)).trans (heap_alloc_new _ _)))
  have h2 : (toyY w).heap[w.heap.size + 1]? = some (.cells #[.int .i64 1, .slice none 0 0, .string ⟨#[110]⟩] 35 (0, 0)) := by
    refine (heap_alloc_old _ _ (by simp only [hsz]; omega)).trans ((heap_alloc_old _ _ (by simp only [hsz]; omega)).trans ?_)
    have := heap_alloc_new (w.alloc (.cells #[.string ⟨#[98]⟩] 9 (0, 0))) (.cells #[.int .i64 1, .slice none 0 0, .string ⟨#[110]⟩] 35 (0, 0))
    rw [hsz] at this
    exact this
  have r6 : Row (toyY w) 0 (.slice (some ⟨w.heap.size, 0, none⟩) 1 1) [⟨#[98]⟩] := ⟨rfl, .inr ⟨w.heap.size, 1, _, rfl, Nat.zero_le _, h1, Nat.le_refl _, by unfold maxLen; omega, rfl, rfl⟩⟩
  have r10 : GRow (toyY w) 0 (.slice (some ⟨w.heap.size + 1, 0, none⟩) 1 1) [(toyG, .slice none 0 0)] := ⟨rfl, .inr ⟨w.heap.size + 1, 1, _, rfl, Nat.zero_le _, h2, Nat.le_refl _, by unfold maxLen; omega, rfl, rfl⟩⟩
  exact qry_lat (q := toyQ) (ps := [(toyG, .slice none 0 0)]) (nil_s _ 0) r6 r10 (fun p hp => by rw [List.mem_singleton.1 hp]; exact nil_s _ 0) rfl toy_sb
theorem toy_ints (w : World) : LAt 1 EI (toyY w) (Hp (toyY w)) (.slice (some ⟨w.heap.size + 3, 0, none⟩) 1 1) [7] := by
  have h := heap_alloc_new (toyX w) (.cells #[.int .i64 7] 3 (0, 0))
  rw [show (toyX w).heap.size = w.heap.size + 3 by simp only [hsz]] at h
  exact NRow.lat (base := 0) (by decide) ⟨rfl, .inr ⟨w.heap.size + 3, 1, _, rfl, Nat.zero_le _, h, Nat.le_refl _, by unfold maxLen; omega, rfl, rfl⟩⟩
theorem toy_below (w : World) : Below w.heap.size w (toyY w) := chain (chain (chain (below1 _ _) (below1 _ _)) (below1 _ _)) (below1 _ _)
theorem toy_var (w : World) : (toyX w).heap[w.heap.size + 2]? = some (.cells (toyV w.heap.size) 28 (0, 0)) := by
  have h := heap_alloc_new (toyW w) (.cells (toyV w.heap.size) 28 (0, 0))
  rw [show (toyW w).heap.size = w.heap.size + 2 by simp only [hsz]] at h
  exact h
end Go.Proofs.Ytkohhcjpjloaaaa.WdR
namespace Go.Proofs.Ytkohhcjpjloaaaa.WsP
set_option maxRecDepth 8000
open Go.RowKit
open Ls Lp QyP QsP QtP XqP RkP IrA SrP WnP WnI SnI WiI WoP
open Recs (hsz below1 below2 chain)
set_option linter.unusedVariables false
theorem ap_stepG {A : Option Addr} {wa wr w6 w9 : World} {v : Value} {g9 n c : Nat} (h : Ap A wa wr v) (hb : Below wr.heap.size wr w6) (gr : w6.grownBy w9 v.ownBlock) (hg : v.ownBlock = some g9 ∨ g9 = w6.heap.size) : Ap A wa w9 (.slice (some ⟨g9, 0, none⟩) n c) := by
  have hs := h.size
  have h6 := hb.size
  have h9 := gr.size
  refine ⟨by omega, fun y hy => ?_, fun y hy e => ?_⟩
  · obtain ⟨r1, r2⟩ := h.row y hy
    exact ⟨r1, ((gr.block y (by omega) (fun q => h.own y hy q.symm)).trans (hb.block y (by omega))).trans r2⟩
  · obtain ⟨r1, -⟩ := h.row y hy
    have e9 : g9 = y := by injection e
    rcases hg with q | q
    · exact h.own y hy (by rw [q, e9])
    · omega
theorem ap_setc {A : Option Addr} {wa wr : World} {v x : Value} {gl j : Nat} (h : Ap A wa wr v) (hl : wa.heap.size ≤ gl) : Ap A wa (wr.setCell ⟨gl, j, none⟩ x) v := by
  refine ⟨by rw [World.size_setCell]; exact h.size, fun y hy => ?_, h.own⟩
  obtain ⟨r1, r2⟩ := h.row y hy
  exact ⟨r1, (heap_setCell_other wr _ y _ (by show y ≠ gl; omega)).trans r2⟩
/-- What the first loop keeps where it makes windows: the windows so far; the last one lies behind the start. -/
structure Ht (b2 : Nat) (A : Option Addr) (w5 wr : World) (R : List (List Int)) (k : Nat) (v : Value) : Prop where
  bel : Below b2 w5 wr
  ap : Ap A w5 wr v
  gro : ∃ F P, Ow.LGr 29 1 Ow.EOI2 wr b2 v R F P ∧ (0 < k → ∃ gl a b, Ow.Lst wr R F P gl a b ∧ w5.heap.size ≤ gl)
theorem Ht.form {b2 k : Nat} {A : Option Addr} {w5 wr : World} {R : List (List Int)} {v : Value} (h : Ht b2 A w5 wr R k v) : ∃ A7 c7, v = .slice A7 R.length c7 := by
  obtain ⟨F, P, h1, -⟩ := h.gro
  exact Ow.LGrow.form ⟨F, P, h1⟩
theorem Ht.push {b2 k g9 cap9 : Nat} {A : Option Addr} {w5 wr w9 : World} {v : Value} {R : List (List Int)} {x y : Int} {ob : Obj} {F : Nat → Value} {P : Nat → Nat → Prop} (bel : Below b2 w5 wr) (ap : Ap A w5 wr v) (hb : b2 ≤ wr.heap.size) (h1 : Ow.LGr 29 1 Ow.EOI2 wr b2 v R F P)
    (hown : w9.ownsRow b2 29 1 (.slice (some ⟨g9, 0, none⟩) (R.length + 1) cap9) (R.length + 1) ((List.range (R.length * 1)).map F ++ [.slice (some ⟨wr.heap.size, 0, none⟩) 2 2]))
    (gr : ((wr.alloc (.cells #[.int .i64 x, .int .i64 y] 3 (0, 0))).alloc ob).grownBy w9 v.ownBlock) (hg : v.ownBlock = some g9 ∨ g9 = ((wr.alloc (.cells #[.int .i64 x, .int .i64 y] 3 (0, 0))).alloc ob).heap.size) :
    Ht b2 A w5 w9 (R ++ [[x, y]]) (k + 1) (.slice (some ⟨g9, 0, none⟩) (R.length + 1) cap9) := by
  have hb6 : Below wr.heap.size wr ((wr.alloc (.cells #[.int .i64 x, .int .i64 y] 3 (0, 0))).alloc ob) := chain (below1 wr _) (below1 _ ob)
  have n6 := (two_row wr x y).keep (below1 _ ob)
  have r6 : ((wr.alloc (.cells #[.int .i64 x, .int .i64 y] 3 (0, 0))).alloc ob).heap[wr.heap.size]? = some (.cells #[.int .i64 x, .int .i64 y] 3 (0, 0)) := ((below1 _ ob).block _ (by rw [hsz]; omega)).trans (heap_alloc_new _ _)
  have s6 : wr.heap.size < ((wr.alloc (.cells #[.int .i64 x, .int .i64 y] 3 (0, 0))).alloc ob).heap.size := by rw [hsz, hsz]; omega
  generalize (wr.alloc (.cells #[.int .i64 x, .int .i64 y] 3 (0, 0))).alloc ob = w6 at *
  have hs := hb6.size
  have vb : ∀ z, v.ownBlock = some z → b2 ≤ z ∧ z < wr.heap.size := fun z hz => World.ownsRow.lt h1.own z hz
  have D := Ow.LGr.pushE Ow.keepsOI2 (w2 := w6) (Q := seg wr.heap.size w6.heap.size) (t := [x, y]) (news := [.slice (some ⟨wr.heap.size, 0, none⟩) 2 2]) h1 hb hs (fun z _ hz => hb6.block z hz) (own n6 (by simp)) (fun z hz => hz) rfl hown gr hg
  have len : (R ++ [[x, y]]).length = R.length + 1 := by simp
  refine ⟨(bel.trans (hb6.mono hb)).grown gr (by omega) (fun z hz => (vb z hz).1), ap_stepG ap hb6 gr hg, _, _, D, fun _ => ⟨wr.heap.size, x, y, ?_, ap.size⟩⟩
  refine ⟨?_, ?_, (gr.block _ s6 (fun e => by have := vb _ e.symm; omega)).trans r6, ?_⟩
  · rw [len, Nat.add_sub_cancel]
    dsimp only
    rw [if_pos rfl]
    exact ⟨Nat.le_refl _, s6⟩
  · rw [len, Nat.add_sub_cancel]
    dsimp only
    rw [if_neg (by omega), Nat.mul_one, Nat.sub_self]
    rfl
  · rw [len, Nat.add_sub_cancel]
    simp
theorem Ht.last {b2 k : Nat} {A : Option Addr} {w5 wr : World} {R : List (List Int)} {v : Value} (h : Ht b2 A w5 wr R k v) (hk : 0 < k) (hp : 0 < R.length) : ∃ gl a b g cap, v = .slice (some ⟨g, 0, none⟩) R.length cap ∧ R.length ≤ cap ∧ wr.cell? ⟨g, R.length - 1, none⟩ = some (.slice (some ⟨gl, 0, none⟩) 2 2) ∧ wr.frozen? ⟨gl, 1, none⟩ = false ∧ wr.cell? ⟨gl, 1, none⟩ = some (.int .i64 b) ∧ R.getD (R.length - 1) default = [a, b] ∧ ∀ e, Ht b2 A w5 (wr.setCell ⟨gl, 1, none⟩ (.int .i64 e)) (R.set (R.length - 1) [a, e]) (k + 1) v := by
  obtain ⟨F, P, h1, h2⟩ := h.gro
  obtain ⟨gl, a, b, h3, h4⟩ := h2 hk
  have M : Hm b2 w5 wr R v gl a b := ⟨hp, h.bel, F, P, h1, h3⟩
  obtain ⟨g, cap, e1, e2, e3, e4, e5⟩ := M.look
  refine ⟨gl, a, b, g, cap, e1, e2, e3, e4, e5, h3.2.2.2, fun e => ?_⟩
  obtain ⟨q1, q2, q3⟩ := Ow.set_last (e := e) h1 hp h3
  exact ⟨h.bel.setCell q3 _, ap_setc h.ap h4, F, P, q1, fun _ => ⟨gl, a, e, q2, h4⟩⟩
theorem Ht.gone {b2 k : Nat} {A : Option Addr} {w5 wr : World} {R : List (List Int)} {v : Value} (h : Ht b2 A w5 wr R k v) : Ow.LGrow 29 1 Ow.EOI2 wr b2 v R := by
  obtain ⟨F, P, h1, -⟩ := h.gro
  exact ⟨F, P, h1⟩
theorem Ht.next {b2 k : Nat} {A : Option Addr} {w5 wr : World} {R : List (List Int)} {v : Value} (h : Ht b2 A w5 wr R k v) (hk : 0 < k) : Ht b2 A w5 wr R (k + 1) v := by
  obtain ⟨F, P, h1, h2⟩ := h.gro
  exact ⟨h.bel, h.ap, F, P, h1, fun _ => h2 hk⟩
theorem Ht.keep {b2 k : Nat} {A : Option Addr} {w5 wr w' : World} {R : List (List Int)} {v : Value} (h : Ht b2 A w5 wr R k v) (h2 : b2 ≤ w5.heap.size) (hb : Below wr.heap.size wr w') : Ht b2 A w5 w' R k v := by
  obtain ⟨F, P, h1, h3⟩ := h.gro
  have s1 := h.bel.size
  have s2 := hb.size
  refine ⟨h.bel.trans (hb.mono (by omega)), ⟨by omega, fun y hy => ?_, h.ap.own⟩, F, P, h1.keep Ow.keepsOI2 hb.size (fun y _ hy => hb.block y hy), fun hk => ?_⟩
  · obtain ⟨r1, r2⟩ := h.ap.row y hy
    exact ⟨r1, (hb.block y (by omega)).trans r2⟩
  · obtain ⟨gl, a, b, ⟨p1, p2, p3, p4⟩, h4⟩ := h3 hk
    exact ⟨gl, a, b, ⟨p1, p2, (hb.block gl (Array.getElem?_eq_some_iff.1 p3).1).trans p3, p4⟩, h4⟩
theorem Ht.start {b2 : Nat} {A : Option Addr} {w5 : World} {R : List (List Int)} {v : Value} (h : Ow.LGrow 29 1 Ow.EOI2 w5 b2 v R) (ha : Ap A w5 w5 v) : Ht b2 A w5 w5 R 0 v := by
  obtain ⟨F, P, h1⟩ := h
  exact ⟨Below.refl _ _, ha, F, P, h1, fun h => absurd h (by omega)⟩
theorem all_next {k : Nat} : allW (k + 1) = if k = 0 then allW k ++ [[0, 1000000000001]] else allW k := by
  unfold allW
  by_cases h : k = 0
  · subst h; rfl
  · rw [if_neg (by omega), if_neg h, if_neg h]
theorem all_len (k : Nat) : (allW k).length = if k = 0 then 0 else 1 := by
  unfold allW
  split <;> rfl
/-- The windows of sessions, as the model asks: by the end of the last one. -/
theorem ses_ask {size : Int} {s : List Int} {k : Nat} {a b : Int} (hk : 0 < k) (h : (sesK size s k).getD ((sesK size s k).length - 1) default = [a, b]) : b = s.getD (k - 1) default + size + 1 := by
  obtain ⟨a', h'⟩ := ses_end size s k hk
  rw [h'] at h
  simp only [List.cons.injEq, and_true] at h
  exact h.2.symm
theorem row_ints {w : World} {B : Nat} {v : Value} {ns : List Int} (h : NRow w B v ns) (hl : ns.length ≤ 1048576) : IntsAt w (seg B w.heap.size) v ns := Ow.LOwn.lat growsI (fun _ _ _ _ h => h) (own h hl)
theorem out_keep {w w' : World} {b2 : Nat} (h : w.ownsRow b2 29 1 (.slice (some ⟨b2, 0, none⟩) 0 0) 0 []) (hk : w'.heap[b2]? = w.heap[b2]?) : w'.ownsRow b2 29 1 (.slice (some ⟨b2, 0, none⟩) 0 0) 0 [] := Ow.owns_keep h (fun x hx => by
  simp only [Value.ownBlock, Option.some.injEq] at hx
  subst hx
  exact hk)
theorem nil_ints (w : World) (A : Option Addr) (c : Nat) : IntsAt w (fun _ => False) (.slice A 0 c) [] := ⟨by simp, A, c, rfl, .inl rfl⟩
theorem srt_nil : srt [] = [] := by simp [srt]
/-- What the first loop keeps where it gathers starts. -/
structure Hu (b4 : Nat) (w5 wr : World) (size every : Int) (ts : List Int) (k : Nat) (v : Value) : Prop where
  lie : NRow wr b4 v (staL size every (ts.take k))
  bel : Below b4 w5 wr
structure Hx (b4 : Nat) (w5 wr : World) (size every : Int) (tar : List Int) (t s : Int) (k : Nat) (v : Value) (st : List Int) : Prop where
  some : ∃ n : Nat, st ++ hopF size every t n s = tar ∧ s - (t - size) ≤ (n : Int) * every ∧ st.length + n ≤ 21 * (k + 1) ∧ s ≤ t
  lie : NRow wr b4 v st
  bel : Below b4 w5 wr
theorem Hx.keep {b4 k : Nat} {w5 wr w' : World} {size every t s : Int} {tar st : List Int} {v : Value} (h : Hx b4 w5 wr size every tar t s k v st) (h2 : b4 ≤ w5.heap.size) (hb : Below wr.heap.size wr w') : Hx b4 w5 w' size every tar t s k v st :=
  ⟨h.some, h.lie.keep hb, h.bel.trans (hb.mono (by have := h.bel.size; omega))⟩
end Go.Proofs.Ytkohhcjpjloaaaa.WsP
