/- The model's Windows: what its loops keep; A right query: the model's way to ask is the program's: plain. -/
import Derived.Test.YtkibaimemomjpaaJQ35
import Derived.Test.YtkibaimemomjpaaJQ30
namespace Go.Proofs.Ytkibaimemomjpaa.WsP
set_option maxRecDepth 8000
open Go.RowKit
open Ls Lp QyP QsP QtP XqP RkP IrA SrP WnP WnI SnI WiI WoP
open Recs (hsz below1 below2 chain)
set_option linter.unusedVariables false
theorem ap_stepG {A : Option Addr} {wa wr w6 w9 : World} {v : Value} {g9 n c : Nat} (h : Ap A wa wr v) (hb : Below wr.heap.size wr w6) (gr : w6.grownBy w9 v.ownBlock) (hg : v.ownBlock = some g9 ∨ g9 = w6.heap.size) : Ap A wa w9 (.slice (some ⟨g9, 0, none⟩) n c) := by
  have hs := h.size
  have h6 := hb.size
  have h9 := gr.size
  refine ⟨by omega, fun y hy => ?_, fun y hy e => ?_⟩
  · obtain ⟨r1, r2⟩ := h.row y hy
    exact ⟨r1, ((gr.block y (by omega) (fun q => h.own y hy q.symm)).trans (hb.block y (by omega))).trans r2⟩
  · obtain ⟨r1, -⟩ := h.row y hy
    have e9 : g9 = y := by injection e
    rcases hg with q | q
    · exact h.own y hy (by rw [q, e9])
    · omega
theorem ap_setc {A : Option Addr} {wa wr : World} {v x : Value} {gl j : Nat} (h : Ap A wa wr v) (hl : wa.heap.size ≤ gl) : Ap A wa (wr.setCell ⟨gl, j, none⟩ x) v := by
  refine ⟨by rw [World.size_setCell]; exact h.size, fun y hy => ?_, h.own⟩
  obtain ⟨r1, r2⟩ := h.row y hy
  exact ⟨r1, (heap_setCell_other wr _ y _ (by show y ≠ gl; omega)).trans r2⟩
/-- What the first loop keeps where it makes windows: the windows so far; the last one lies behind the start. -/
structure Ht (b2 : Nat) (A : Option Addr) (w5 wr : World) (R : List (List Int)) (k : Nat) (v : Value) : Prop where
  bel : Below b2 w5 wr
  ap : Ap A w5 wr v
  gro : ∃ F P, Ow.LGr 27 1 Ow.EOI2 wr b2 v R F P ∧ (0 < k → ∃ gl a b, Ow.Lst wr R F P gl a b ∧ w5.heap.size ≤ gl)
theorem Ht.form {b2 k : Nat} {A : Option Addr} {w5 wr : World} {R : List (List Int)} {v : Value} (h : Ht b2 A w5 wr R k v) : ∃ A7 c7, v = .slice A7 R.length c7 := by
  obtain ⟨F, P, h1, -⟩ := h.gro
  exact Ow.LGrow.form ⟨F, P, h1⟩
theorem Ht.push {b2 k g9 cap9 : Nat} {A : Option Addr} {w5 wr w9 : World} {v : Value} {R : List (List Int)} {x y : Int} {ob : Obj} {F : Nat → Value} {P : Nat → Nat → Prop} (bel : Below b2 w5 wr) (ap : Ap A w5 wr v) (hb : b2 ≤ wr.heap.size) (h1 : Ow.LGr 27 1 Ow.EOI2 wr b2 v R F P)
    (hown : w9.ownsRow b2 27 1 (.slice (some ⟨g9, 0, none⟩) (R.length + 1) cap9) (R.length + 1) ((List.range (R.length * 1)).map F ++ [.slice (some ⟨wr.heap.size, 0, none⟩) 2 2]))
    (gr : ((wr.alloc (.cells #[.int .i64 x, .int .i64 y] 3 (0, 0))).alloc ob).grownBy w9 v.ownBlock) (hg : v.ownBlock = some g9 ∨ g9 = ((wr.alloc (.cells #[.int .i64 x, .int .i64 y] 3 (0, 0))).alloc ob).heap.size) :
    Ht b2 A w5 w9 (R ++ [[x, y]]) (k + 1) (.slice (some ⟨g9, 0, none⟩) (R.length + 1) cap9) := by
  have hb6 : Below wr.heap.size wr ((wr.alloc (.cells #[.int .i64 x, .int .i64 y] 3 (0, 0))).alloc ob) := chain (below1 wr _) (below1 _ ob)
  have n6 := (two_row wr x y).keep (below1 _ ob)
  have r6 : ((wr.alloc (.cells #[.int .i64 x, .int .i64 y] 3 (0, 0))).alloc ob).heap[wr.heap.size]? = some (.cells #[.int .i64 x, .int .i64 y] 3 (0, 0)) := ((below1 _ ob).block _ (by rw [hsz]; omega)).trans (heap_alloc_new _ _)
  have s6 : wr.heap.size < ((wr.alloc (.cells #[.int .i64 x, .int .i64 y] 3 (0, 0))).alloc ob).heap.size := by rw [hsz, hsz]; omega
  generalize (wr.alloc (.cells #[.int .i64 x, .int .i64 y] 3 (0, 0))).alloc ob = w6 at *
  have hs := hb6.size
  have vb : ∀ z, v.ownBlock = some z → b2 ≤ z ∧ z < wr.heap.size := fun z hz => World.ownsRow.lt h1.own z hz
  have D := Ow.LGr.pushE Ow.keepsOI2 (w2 := w6) (Q := seg wr.heap.size w6.heap.size) (t := [x, y]) (news := [.slice (some ⟨wr.heap.size, 0, none⟩) 2 2]) h1 hb hs (fun z _ hz => hb6.block z hz) (own n6 (by simp)) (fun z hz => hz) rfl hown gr hg
  have len : (R ++ [[x, y]]).length = R.length + 1 := by simp
  refine ⟨(bel.trans (hb6.mono hb)).grown gr (by omega) (fun z hz => (vb z hz).1), ap_stepG ap hb6 gr hg, _, _, D, fun _ => ⟨wr.heap.size, x, y, ?_, ap.size⟩⟩
  refine ⟨?_, ?_, (gr.block _ s6 (fun e => by have := vb _ e.symm; omega)).trans r6, ?_⟩
  · rw [len, Nat.add_sub_cancel]
    dsimp only
    rw [if_pos rfl]
    exact ⟨Nat.le_refl _, s6⟩
  · rw [len, Nat.add_sub_cancel]
    dsimp only
    rw [if_neg (by omega), Nat.mul_one, Nat.sub_self]
    rfl
  · rw [len, Nat.add_sub_cancel]
    simp
theorem Ht.last {b2 k : Nat} {A : Option Addr} {w5 wr : World} {R : List (List Int)} {v : Value} (h : Ht b2 A w5 wr R k v) (hk : 0 < k) (hp : 0 < R.length) : ∃ gl a b g cap, v = .slice (some ⟨g, 0, none⟩) R.length cap ∧ R.length ≤ cap ∧ wr.cell? ⟨g, R.length - 1, none⟩ = some (.slice (some ⟨gl, 0, none⟩) 2 2) ∧ wr.frozen? ⟨gl, 1, none⟩ = false ∧ wr.cell? ⟨gl, 1, none⟩ = some (.int .i64 b) ∧ R.getD (R.length - 1) default = [a, b] ∧ ∀ e, Ht b2 A w5 (wr.setCell ⟨gl, 1, none⟩ (.int .i64 e)) (R.set (R.length - 1) [a, e]) (k + 1) v := by
  obtain ⟨F, P, h1, h2⟩ := h.gro
  obtain ⟨gl, a, b, h3, h4⟩ := h2 hk
  have M : Hm b2 w5 wr R v gl a b := ⟨hp, h.bel, F, P, h1, h3⟩
  obtain ⟨g, cap, e1, e2, e3, e4, e5⟩ := M.look
  refine ⟨gl, a, b, g, cap, e1, e2, e3, e4, e5, h3.2.2.2, fun e => ?_⟩
  obtain ⟨q1, q2, q3⟩ := Ow.set_last (e := e) h1 hp h3
  exact ⟨h.bel.setCell q3 _, ap_setc h.ap h4, F, P, q1, fun _ => ⟨gl, a, e, q2, h4⟩⟩
theorem Ht.gone {b2 k : Nat} {A : Option Addr} {w5 wr : World} {R : List (List Int)} {v : Value} (h : Ht b2 A w5 wr R k v) : Ow.LGrow 27 1 Ow.EOI2 wr b2 v R := by
  obtain ⟨F, P, h1, -⟩ := h.gro
  exact ⟨F, P, h1⟩
theorem Ht.next {b2 k : Nat} {A : Option Addr} {w5 wr : World} {R : List (List Int)} {v : Value} (h : Ht b2 A w5 wr R k v) (hk : 0 < k) : Ht b2 A w5 wr R (k + 1) v := by
  obtain ⟨F, P, h1, h2⟩ := h.gro
  exact ⟨h.bel, h.ap, F, P, h1, fun _ => h2 hk⟩
theorem Ht.keep {b2 k : Nat} {A : Option Addr} {w5 wr w' : World} {R : List (List Int)} {v : Value} (h : Ht b2 A w5 wr R k v) (h2 : b2 ≤ w5.heap.size) (hb : Below wr.heap.size wr w') : Ht b2 A w5 w' R k v := by
  obtain ⟨F, P, h1, h3⟩ := h.gro
  have s1 := h.bel.size
  have s2 := hb.size
  refine ⟨h.bel.trans (hb.mono (by omega)), ⟨by omega, fun y hy => ?_, h.ap.own⟩, F, P, h1.keep Ow.keepsOI2 hb.size (fun y _ hy => hb.block y hy), fun hk => ?_⟩
  · obtain ⟨r1, r2⟩ := h.ap.row y hy
    exact ⟨r1, (hb.block y (by omega)).trans r2⟩
  · obtain ⟨gl, a, b, ⟨p1, p2, p3, p4⟩, h4⟩ := h3 hk
    exact ⟨gl, a, b, ⟨p1, p2, (hb.block gl (Array.getElem?_eq_some_iff.1 p3).1).trans p3, p4⟩, h4⟩
theorem Ht.start {b2 : Nat} {A : Option Addr} {w5 : World} {R : List (List Int)} {v : Value} (h : Ow.LGrow 27 1 Ow.EOI2 w5 b2 v R) (ha : Ap A w5 w5 v) : Ht b2 A w5 w5 R 0 v := by
  obtain ⟨F, P, h1⟩ := h
  exact ⟨Below.refl _ _, ha, F, P, h1, fun h => absurd h (by omega)⟩
theorem all_next {k : Nat} : allW (k + 1) = if k = 0 then allW k ++ [[0, 1000000000001]] else allW k := by
  unfold allW
  by_cases h : k = 0
  · subst h; rfl
  · rw [if_neg (by omega), if_neg h, if_neg h]
theorem all_len (k : Nat) : (allW k).length = if k = 0 then 0 else 1 := by
  unfold allW
  split <;> rfl
/-- The windows of sessions, as the model asks: by the end of the last one. -/
theorem ses_ask {size : Int} {s : List Int} {k : Nat} {a b : Int} (hk : 0 < k) (h : (sesK size s k).getD ((sesK size s k).length - 1) default = [a, b]) : b = s.getD (k - 1) default + size + 1 := by
  obtain ⟨a', h'⟩ := ses_end size s k hk
  rw [h'] at h
  simp only [List.cons.injEq, and_true] at h
  exact h.2.symm
theorem row_ints {w : World} {B : Nat} {v : Value} {ns : List Int} (h : NRow w B v ns) (hl : ns.length ≤ 1048576) : IntsAt w (seg B w.heap.size) v ns := Ow.LOwn.lat growsI (fun _ _ _ _ h => h) (own h hl)
theorem out_keep {w w' : World} {b2 : Nat} (h : w.ownsRow b2 27 1 (.slice (some ⟨b2, 0, none⟩) 0 0) 0 []) (hk : w'.heap[b2]? = w.heap[b2]?) : w'.ownsRow b2 27 1 (.slice (some ⟨b2, 0, none⟩) 0 0) 0 [] := Ow.owns_keep h (fun x hx => by
  simp only [Value.ownBlock, Option.some.injEq] at hx
  subst hx
  exact hk)
theorem nil_ints (w : World) (A : Option Addr) (c : Nat) : IntsAt w (fun _ => False) (.slice A 0 c) [] := ⟨by simp, A, c, rfl, .inl rfl⟩
theorem srt_nil : srt [] = [] := by simp [srt]
/-- What the first loop keeps where it gathers starts. -/
structure Hu (b4 : Nat) (w5 wr : World) (size every : Int) (ts : List Int) (k : Nat) (v : Value) : Prop where
  lie : NRow wr b4 v (staL size every (ts.take k))
  bel : Below b4 w5 wr
structure Hx (b4 : Nat) (w5 wr : World) (size every : Int) (tar : List Int) (t s : Int) (k : Nat) (v : Value) (st : List Int) : Prop where
  some : ∃ n : Nat, st ++ hopF size every t n s = tar ∧ s - (t - size) ≤ (n : Int) * every ∧ st.length + n ≤ 21 * (k + 1) ∧ s ≤ t
  lie : NRow wr b4 v st
  bel : Below b4 w5 wr
theorem Hx.keep {b4 k : Nat} {w5 wr w' : World} {size every t s : Int} {tar st : List Int} {v : Value} (h : Hx b4 w5 wr size every tar t s k v st) (h2 : b4 ≤ w5.heap.size) (hb : Below wr.heap.size wr w') : Hx b4 w5 w' size every tar t s k v st :=
  ⟨h.some, h.lie.keep hb, h.bel.trans (hb.mono (by have := h.bel.size; omega))⟩
end Go.Proofs.Ytkibaimemomjpaa.WsP
namespace Go.Proofs.Ytkibaimemomjpaa.XqQ
set_option maxRecDepth 8000
open Go.RowKit
open Ls Lp QtP XsP QsI QyP XqP
set_option linter.unusedVariables false
def k1 (n0 ej n1 el n2 : Bool) : Bool := !n0 || ((!ej && !n1) || ((!el && !n2) || (!ej && !el)))
def k3 (ej el eo no iw z : Bool) : Bool := ((!ej || !el) != !eo) || ((!eo && !no) || (!iw || (ej && !z)))
def k5 (lw sw : Bool) (m12 df : Bool) : Bool := (!lw && !sw) || (m12 || !df)
def k12 (iw z lg : Bool) : Bool := !iw || (!z && lg)
def k14 (z s0 is : Bool) : Bool := (z && !s0) || (!z && !is)
def k16 (t ie m e0 : Bool) : Bool := (t && (!ie || m)) || (!t && !e0)
theorem em_name {t : ByteArray} (h : em t = true) : Nm.nameOk t = false := by
  refine Nm.name_size _ (.inl ?_)
  have : t.toList = [] := by simpa [em] using h
  rw [ByteArray.toList_eq] at this
  have h2 : t.data.size = 0 := by simpa using congrArg List.length this
  have : t.size = t.data.size := rfl
  omega
theorem partA (fr jn on lk : ByteArray) (wn : Int) : (!k1 (Nm.nameOk fr) (em jn) (Nm.nameOk jn) (em lk) (Nm.nameOk lk) && !k3 (em jn) (em lk) (em on) (Nm.nameOk on) (inR 0 wn 1000000000000) (decide (wn = 0))) = (Nm.nameOk fr && beP jn on lk wn) := by
  have hj := @em_name jn
  have hl := @em_name lk
  have ho := @em_name on
  have hw : decide (wn = 0) = true → inR 0 wn 1000000000000 = true := fun h => by
    have : wn = 0 := by simpa using h
    subst this
    rfl
  unfold beP k1 k3
  generalize Nm.nameOk fr = a at *
  generalize em jn = b at *
  generalize em lk = c at *
  generalize em on = d at *
  generalize Nm.nameOk jn = e at *
  generalize Nm.nameOk lk = f at *
  generalize Nm.nameOk on = g at *
  generalize decide (wn = 0) = h at *
  generalize inR 0 wn 1000000000000 = i at *
  revert a b c d e f g h i
  decide
theorem partB (q : Qry) : (!k5 (decide (q.wh.length = 0)) (stepsOk q.wh) (decide (12 < q.gps.length)) (diff q.gps) && q.gps.all Nm.nameOk) = (cOk q.gps && (decide (q.wh.length = 0) || stepsOk q.wh)) := by
  unfold k5 cOk
  have : decide (12 < q.gps.length) = !decide (q.gps.length ≤ 12) := by
    by_cases h : q.gps.length ≤ 12
    · rw [decide_eq_true h, decide_eq_false (by omega)]; rfl
    · rw [decide_eq_false h, decide_eq_true (by omega)]; rfl
  rw [this]
  generalize decide (q.wh.length = 0) = a
  generalize stepsOk q.wh = b
  generalize decide (q.gps.length ≤ 12) = c
  generalize diff q.gps = d
  generalize q.gps.all Nm.nameOk = e
  revert a b c d e
  decide
theorem partC (win size every : Int) (n : Nat) : (!k12 (inR 0 win 3) (decide (win = 0)) (decide (n = 0)) && (!k14 (decide (win = 0)) (decide (size = 0)) (inR 1 size 1000000000000) && !k16 (decide (win = 2)) (inR 1 every size) (decide (20 * every < size)) (decide (every = 0)))) = winP win size every n := by
  have hn : decide (n = 0) = !decide (0 < n) := by
    by_cases h : 0 < n
    · rw [decide_eq_true h, decide_eq_false (by omega)]; rfl
    · rw [decide_eq_false h, decide_eq_true (by omega)]; rfl
  have hm : decide (20 * every < size) = !decide (size ≤ 20 * every) := by
    by_cases h : size ≤ 20 * every
    · rw [decide_eq_true h, decide_eq_false (by omega)]; rfl
    · rw [decide_eq_false h, decide_eq_true (by omega)]; rfl
  rw [hn, hm]
  unfold winP k12 k14 k16
  generalize decide (0 < n) = a
  generalize decide (size ≤ 20 * every) = b
  generalize decide (size = 0) = c
  generalize decide (every = 0) = d
  generalize inR 1 size 1000000000000 = e
  generalize inR 1 every size = f
  by_cases h0 : win = 0
  · subst h0
    have : inR 0 0 3 = true := rfl
    rw [this]
    revert a b c d e f; decide
  by_cases h1 : win = 1
  · subst h1
    have : inR 0 1 3 = true := rfl
    rw [this]
    revert a b c d e f; decide
  by_cases h2 : win = 2
  · subst h2
    have : inR 0 2 3 = true := rfl
    rw [this]
    revert a b c d e f; decide
  by_cases h3 : win = 3
  · subst h3
    have : inR 0 3 3 = true := rfl
    rw [this]
    revert a b c d e f; decide
  have hi : inR 0 win 3 = false := by
    unfold inR
    by_cases hl : 0 ≤ win
    · rw [decide_eq_false (show ¬ win ≤ 3 by omega), Bool.and_false]
    · rw [decide_eq_false hl]; rfl
  rw [hi, if_neg h0, if_neg (by omega), if_neg h2]
  rfl
def mOk (q : Qry) : Bool := !k1 (Nm.nameOk q.fr) (em q.jn) (Nm.nameOk q.jn) (em q.lk) (Nm.nameOk q.lk) && (!k3 (em q.jn) (em q.lk) (em q.on) (Nm.nameOk q.on) (inR 0 q.wn 1000000000000) (decide (q.wn = 0)) && (!k5 (decide (q.wh.length = 0)) (stepsOk q.wh) (decide (12 < q.gps.length)) (diff q.gps) && (q.gps.all Nm.nameOk && (!k12 (inR 0 q.win 3) (decide (q.win = 0)) (decide (q.gps.length = 0)) && (!k14 (decide (q.win = 0)) (decide (q.size = 0)) (inR 1 q.size 1000000000000) && (!k16 (decide (q.win = 2)) (inR 1 q.every q.size) (decide (20 * q.every < q.size)) (decide (q.every = 0)) && (inR 1 q.gets.length 8 && q.gets.all (gtP (decide (0 < q.gps.length))))))))))
theorem re1 : ∀ x1 x3 x5 r x12 x14 x16 y : Bool, (!x1 && (!x3 && (!x5 && (r && (!x12 && (!x14 && (!x16 && y))))))) = ((!x1 && !x3) && ((!x5 && r) && ((!x12 && (!x14 && !x16)) && y))) := by decide
theorem re2 : ∀ p z s u t y : Bool, (p && (z && (s && (u && (t && y))))) = ((p && z) && ((s && t) && (u && y))) := by decide
theorem mOk_eq (q : Qry) : mOk q = qOk q := by
  unfold mOk qOk
  rw [re1, re2, partA, partB, partC]
end Go.Proofs.Ytkibaimemomjpaa.XqQ
