/- A right query, plain; A right query: the model's way to ask is the program's: plain. -/
import Derived.Test.YtboooabjeidmfaaJO15
import Derived.Test.YtboooabjeidmfaaJO13
import Derived.Test.YtboooabjeidmfaaJO16
namespace Go.Proofs.Ytboooabjeidmfaa.XqP
set_option maxRecDepth 8000
open Go.RowKit
open Ls Lp QtP XsP QsI QyP
open Recs (hsz below1 below2 chain)
set_option linter.unusedVariables false
abbrev qrow (q : Qry) (A5 : Option Addr) (c5 : Nat) (A6 : Option Addr) (c6 : Nat) (A10 : Option Addr) (c10 : Nat) : Array Value := #[.string q.fr, .string q.jn, .int .i64 q.wn, .string q.on, .string q.lk, .slice A5 q.wh.length c5, .slice A6 q.gps.length c6, .int .i64 q.win, .int .i64 q.size, .int .i64 q.every, .slice A10 q.gets.length c10]
theorem qform {w : World} {S : Nat → Prop} {v : Value} {q : Qry} (h : QryAt w S v q) : ∃ A5 c5 A6 c6 A10 c10, v = .agg (qrow q A5 c5 A6 c6 A10 c10) ∧ LAt 3 EStp w S (.slice A5 q.wh.length c5) q.wh ∧ LAt 1 EStr w S (.slice A6 q.gps.length c6) q.gps ∧ LAt 3 EGqt w S (.slice A10 q.gets.length c10) q.gets := by
  obtain ⟨f, rfl, h0, h1, h2, h3, h4, h5, h6, h7, h8, h9, h10⟩ := h
  obtain ⟨A5, c5, e5⟩ := h5.form
  obtain ⟨A6, c6, e6⟩ := h6.form
  obtain ⟨A10, c10, e10⟩ := h10.form
  refine ⟨A5, c5, A6, c6, A10, c10, ?_, by rw [← e5]; exact h5, by rw [← e6]; exact h6, by rw [← e10]; exact h10⟩
  simp only [arrQry, qrow]
  rw [h0, h1, h2, h3, h4, e5, e6, h7, h8, h9, e10]
theorem qcells {w : World} {g ty : Nat} {za zb zc zd ze zf zg zh zi zj zk : Value} (h : w.heap[g]? = some (.cells #[za, zb, zc, zd, ze, zf, zg, zh, zi, zj, zk] ty (0, 0))) : w.cell? ⟨g, 0, none⟩ = some za ∧ w.cell? ⟨g, 1, none⟩ = some zb ∧ w.cell? ⟨g, 2, none⟩ = some zc ∧ w.cell? ⟨g, 3, none⟩ = some zd ∧ w.cell? ⟨g, 4, none⟩ = some ze ∧ w.cell? ⟨g, 5, none⟩ = some zf ∧ w.cell? ⟨g, 6, none⟩ = some zg ∧ w.cell? ⟨g, 7, none⟩ = some zh ∧ w.cell? ⟨g, 8, none⟩ = some zi ∧ w.cell? ⟨g, 9, none⟩ = some zj ∧ w.cell? ⟨g, 10, none⟩ = some zk :=
  ⟨cell_of_row w g 0 _ _ (0, 0) h, cell_of_row w g 1 _ _ (0, 0) h, cell_of_row w g 2 _ _ (0, 0) h, cell_of_row w g 3 _ _ (0, 0) h, cell_of_row w g 4 _ _ (0, 0) h, cell_of_row w g 5 _ _ (0, 0) h, cell_of_row w g 6 _ _ (0, 0) h, cell_of_row w g 7 _ _ (0, 0) h, cell_of_row w g 8 _ _ (0, 0) h, cell_of_row w g 9 _ _ (0, 0) h, cell_of_row w g 10 _ _ (0, 0) h⟩
theorem gcells {w : World} {g ty : Nat} {za zb zc : Value} (h : w.heap[g]? = some (.cells #[za, zb, zc] ty (0, 0))) : w.cell? ⟨g, 0, none⟩ = some za ∧ w.cell? ⟨g, 1, none⟩ = some zb ∧ w.cell? ⟨g, 2, none⟩ = some zc :=
  ⟨cell_of_row w g 0 _ _ (0, 0) h, cell_of_row w g 1 _ _ (0, 0) h, cell_of_row w g 2 _ _ (0, 0) h⟩
/-- The cells of one Get of a list. -/
theorem gqt_at {w w' : World} {S : Nat → Prop} {A : Option Addr} {c : Nat} {us : List Gqt} {g o : Nat} {F : Nat → Nat → Value} (h : Opn 3 EGqt w S A c us g o F) (hS : ∀ g, S g → g < w.heap.size) (hb : Below w.heap.size w w') {k : Nat} (hk : k < us.length) : ∃ A' c', LAt 3 EStp w' S (.slice A' (us.getD k default).steps.length c') (us.getD k default).steps ∧ w'.cell? ⟨g, o + k * 3, none⟩ = some (.int .i64 (us.getD k default).kind) ∧ w'.cell? ⟨g, o + k * 3 + 1, none⟩ = some (.slice A' (us.getD k default).steps.length c') ∧ w'.cell? ⟨g, o + k * 3 + 2, none⟩ = some (.string (us.getD k default).nm) := by
  have OL := h.later keepsGqt hS hb
  obtain ⟨e0, e1, e2⟩ := OL.el k hk
  have cc := OL.cells k hk
  obtain ⟨A', c', e3⟩ := e1.form
  refine ⟨A', c', by rw [← e3]; exact e1, ?_, ?_, ?_⟩
  · rw [← e0]; exact cc 0 (by omega)
  · rw [← e3]; exact cc 1 (by omega)
  · rw [← e2]; exact cc 2 (by omega)
def beP (jn on lk : ByteArray) (wn : Int) : Bool := if (em jn && em lk) = true then (decide (wn = 0) && em on) else if em lk = true then (Nm.nameOk jn && (Nm.nameOk on && inR 0 wn 1000000000000)) else if em jn = true then (Nm.nameOk lk && (Nm.nameOk on && decide (wn = 0))) else false
def winP (win size every : Int) (n : Nat) : Bool := if win = 0 then (decide (size = 0) && decide (every = 0)) else if win = 1 ∨ win = 3 then (decide (0 < n) && (inR 1 size 1000000000000 && decide (every = 0))) else if win = 2 then (decide (0 < n) && (inR 1 size 1000000000000 && (inR 1 every size && decide (size ≤ 20 * every)))) else false
def gtP (gr : Bool) (g : Gqt) : Bool := Nm.nameOk g.nm && (inR 0 g.kind 4 && ((gr != decide (g.kind = 0)) && (if g.kind = 1 then decide (g.steps.length = 0) else stepsOk g.steps)))
def qOk (q : Qry) : Bool := Nm.nameOk q.fr && (beP q.jn q.on q.lk q.wn && (cOk q.gps && (winP q.win q.size q.every q.gps.length && ((decide (q.wh.length = 0) || stepsOk q.wh) && (inR 1 q.gets.length 8 && q.gets.all (gtP (decide (0 < q.gps.length))))))))
theorem sz_wh {q : Qry} (h : szQry q ≤ 1048576) : szL szStp q.wh ≤ 1048576 := by unfold szQry at h; omega
theorem sz_gps {q : Qry} (h : szQry q ≤ 1048576) : szL ByteArray.size q.gps ≤ 1048576 := by unfold szQry at h; omega
theorem sz_gets {q : Qry} (h : szQry q ≤ 1048576) : szL szGqt q.gets ≤ 1048576 := by unfold szQry at h; omega
theorem sz_strs {q : Qry} (h : szQry q ≤ 1048576) : q.fr.size ≤ maxLen ∧ q.jn.size ≤ maxLen ∧ q.on.size ≤ maxLen ∧ q.lk.size ≤ maxLen := by unfold szQry at h; unfold maxLen; omega
end Go.Proofs.Ytboooabjeidmfaa.XqP
namespace Go.Proofs.Ytboooabjeidmfaa.XqQ
set_option maxRecDepth 8000
open Go.RowKit
open Ls Lp QtP XsP QsI QyP XqP
set_option linter.unusedVariables false
def k1 (n0 ej n1 el n2 : Bool) : Bool := !n0 || ((!ej && !n1) || ((!el && !n2) || (!ej && !el)))
def k3 (ej el eo no iw z : Bool) : Bool := ((!ej || !el) != !eo) || ((!eo && !no) || (!iw || (ej && !z)))
def k5 (lw sw : Bool) (m12 df : Bool) : Bool := (!lw && !sw) || (m12 || !df)
def k12 (iw z lg : Bool) : Bool := !iw || (!z && lg)
def k14 (z s0 is : Bool) : Bool := (z && !s0) || (!z && !is)
def k16 (t ie m e0 : Bool) : Bool := (t && (!ie || m)) || (!t && !e0)
theorem em_name {t : ByteArray} (h : em t = true) : Nm.nameOk t = false := by
  refine Nm.name_size _ (.inl ?_)
  have : t.toList = [] := by simpa [em] using h
  rw [ByteArray.toList_eq] at this
  have h2 : t.data.size = 0 := by simpa using congrArg List.length this
  have : t.size = t.data.size := rfl
  omega
theorem partA (fr jn on lk : ByteArray) (wn : Int) : (!k1 (Nm.nameOk fr) (em jn) (Nm.nameOk jn) (em lk) (Nm.nameOk lk) && !k3 (em jn) (em lk) (em on) (Nm.nameOk on) (inR 0 wn 1000000000000) (decide (wn = 0))) = (Nm.nameOk fr && beP jn on lk wn) := by
  have hj := @em_name jn
  have hl := @em_name lk
  have ho := @em_name on
  have hw : decide (wn = 0) = true → inR 0 wn 1000000000000 = true := fun h => by
    have : wn = 0 := by simpa using h
    subst this
    rfl
  unfold beP k1 k3
  generalize Nm.nameOk fr = a at *
  generalize em jn = b at *
  generalize em lk = c at *
  generalize em on = d at *
  generalize Nm.nameOk jn = e at *
  generalize Nm.nameOk lk = f at *
  generalize Nm.nameOk on = g at *
  generalize decide (wn = 0) = h at *
  generalize inR 0 wn 1000000000000 = i at *
  revert a b c d e f g h i
  decide
theorem partB (q : Qry) : (!k5 (decide (q.wh.length = 0)) (stepsOk q.wh) (decide (12 < q.gps.length)) (diff q.gps) && q.gps.all Nm.nameOk) = (cOk q.gps && (decide (q.wh.length = 0) || stepsOk q.wh)) := by
  unfold k5 cOk
  have : decide (12 < q.gps.length) = !decide (q.gps.length ≤ 12) := by
    by_cases h : q.gps.length ≤ 12
    · rw [decide_eq_true h, decide_eq_false (by omega)]; rfl
    · rw [decide_eq_false h, decide_eq_true (by omega)]; rfl
  rw [this]
  generalize decide (q.wh.length = 0) = a
  generalize stepsOk q.wh = b
  generalize decide (q.gps.length ≤ 12) = c
  generalize diff q.gps = d
  generalize q.gps.all Nm.nameOk = e
  revert a b c d e
  decide
theorem partC (win size every : Int) (n : Nat) : (!k12 (inR 0 win 3) (decide (win = 0)) (decide (n = 0)) && (!k14 (decide (win = 0)) (decide (size = 0)) (inR 1 size 1000000000000) && !k16 (decide (win = 2)) (inR 1 every size) (decide (20 * every < size)) (decide (every = 0)))) = winP win size every n := by
  have hn : decide (n = 0) = !decide (0 < n) := by
    by_cases h : 0 < n
    · rw [decide_eq_true h, decide_eq_false (by omega)]; rfl
    · rw [decide_eq_false h, decide_eq_true (by omega)]; rfl
  have hm : decide (20 * every < size) = !decide (size ≤ 20 * every) := by
    by_cases h : size ≤ 20 * every
    · rw [decide_eq_true h, decide_eq_false (by omega)]; rfl
    · rw [decide_eq_false h, decide_eq_true (by omega)]; rfl
  rw [hn, hm]
  unfold winP k12 k14 k16
  generalize decide (0 < n) = a
  generalize decide (size ≤ 20 * every) = b
  generalize decide (size = 0) = c
  generalize decide (every = 0) = d
  generalize inR 1 size 1000000000000 = e
  generalize inR 1 every size = f
  by_cases h0 : win = 0
  · subst h0
    have : inR 0 0 3 = true := rfl
    rw [this]
    revert a b c d e f; decide
  by_cases h1 : win = 1
  · subst h1
    have : inR 0 1 3 = true := rfl
    rw [this]
    revert a b c d e f; decide
  by_cases h2 : win = 2
  · subst h2
    have : inR 0 2 3 = true := rfl
    rw [this]
    revert a b c d e f; decide
  by_cases h3 : win = 3
  · subst h3
    have : inR 0 3 3 = true := rfl
    rw [this]
    revert a b c d e f; decide
  have hi : inR 0 win 3 = false := by
    unfold inR
    by_cases hl : 0 ≤ win
    · rw [decide_eq_false (show ¬ win ≤ 3 by omega), Bool.and_false]
    · rw [decide_eq_false hl]; rfl
  rw [hi, if_neg h0, if_neg (by omega), if_neg h2]
  rfl
def mOk (q : Qry) : Bool := !k1 (Nm.nameOk q.fr) (em q.jn) (Nm.nameOk q.jn) (em q.lk) (Nm.nameOk q.lk) && (!k3 (em q.jn) (em q.lk) (em q.on) (Nm.nameOk q.on) (inR 0 q.wn 1000000000000) (decide (q.wn = 0)) && (!k5 (decide (q.wh.length = 0)) (stepsOk q.wh) (decide (12 < q.gps.length)) (diff q.gps) && (q.gps.all Nm.nameOk && (!k12 (inR 0 q.win 3) (decide (q.win = 0)) (decide (q.gps.length = 0)) && (!k14 (decide (q.win = 0)) (decide (q.size = 0)) (inR 1 q.size 1000000000000) && (!k16 (decide (q.win = 2)) (inR 1 q.every q.size) (decide (20 * q.every < q.size)) (decide (q.every = 0)) && (inR 1 q.gets.length 8 && q.gets.all (gtP (decide (0 < q.gps.length))))))))))
theorem re1 : ∀ x1 x3 x5 r x12 x14 x16 y : Bool, (!x1 && (!x3 && (!x5 && (r && (!x12 && (!x14 && (!x16 && y))))))) = ((!x1 && !x3) && ((!x5 && r) && ((!x12 && (!x14 && !x16)) && y))) := by decide
theorem re2 : ∀ p z s u t y : Bool, (p && (z && (s && (u && (t && y))))) = ((p && z) && ((s && t) && (u && y))) := by decide
theorem mOk_eq (q : Qry) : mOk q = qOk q := by
  unfold mOk qOk
  rw [re1, re2, partA, partB, partC]
end Go.Proofs.Ytboooabjeidmfaa.XqQ
