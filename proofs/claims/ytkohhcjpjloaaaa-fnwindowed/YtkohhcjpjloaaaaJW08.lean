/- An expression's steps, plain: how many numbers lie there behind each; Rows of Steps of the call's own, while numbers are drawn. -/
import Derived.Test.YtkohhcjpjloaaaaJW05
import Derived.Test.YtkohhcjpjloaaaaJW06
import Derived.Test.YtkohhcjpjloaaaaJW07
import Derived.Test.YtkohhcjpjloaaaaJW02
namespace Go.Proofs.Ytkohhcjpjloaaaa.QtP
set_option maxRecDepth 8000
open Go.RowKit
open Ls Lp
set_option linter.unusedVariables false
def em (t : ByteArray) : Bool := t.toList == []
def stepH (s : Stp) (h : Int) : Option Int :=
  if s.op = 1 then (if (inR 0 s.num 1000000000000000 && em s.name) = true then some (h + 1) else none)
  else if s.op = 2 then (if (Nm.nameOk s.name && decide (s.num = 0)) = true then some (h + 1) else none)
  else if inR 3 s.op 12 = true then (if (em s.name && (decide (s.num = 0) && (decide (1 ≤ h) && (decide (2 ≤ h) || decide (s.op = 12))))) = true then some (if s.op = 12 then h else h - 1) else none)
  else none
def runH : List Stp → Int → Option Int
  | [], h => some h
  | s :: r, h => match stepH s h with
    | none => none
    | some h' => runH r h'
def endH (o : Option Int) : Bool := match o with
  | none => false
  | some h => decide (h = 1)
def stepsOk (l : List Stp) : Bool := decide (l.length ≤ 60) && endH (runH l 0)
theorem run_none {l : List Stp} {k : Nat} {h : Int} (hk : k < l.length) (h1 : stepH (l.getD k default) h = none) : runH (l.drop k) h = none := by
  rw [drop_cons hk, runH, h1]
theorem run_some {l : List Stp} {k : Nat} {h h' : Int} (hk : k < l.length) (h1 : stepH (l.getD k default) h = some h') : runH (l.drop k) h = runH (l.drop (k + 1)) h' := by
  rw [drop_cons hk, runH, h1]
theorem step_num {s : Stp} {h : Int} {b e : Bool} (h1 : s.op = 1) (hb : inR 0 s.num 1000000000000000 = b) (he : em s.name = e) : stepH s h = if (b && e) = true then some (h + 1) else none := by
  rw [stepH, if_pos h1, hb, he]
theorem step_col {s : Stp} {h : Int} {b e : Bool} (h1 : s.op = 2) (hb : Nm.nameOk s.name = b) (he : decide (s.num = 0) = e) : stepH s h = if (b && e) = true then some (h + 1) else none := by
  rw [stepH, if_neg (by omega), if_pos h1, hb, he]
theorem step_op {s : Stp} {h : Int} {a b c : Bool} (h1 : 3 ≤ s.op ∧ s.op ≤ 12) (ha : em s.name = a) (hb : decide (s.num = 0) = b) (hc : (decide (1 ≤ h) && (decide (2 ≤ h) || decide (s.op = 12))) = c) : stepH s h = if (a && (b && c)) = true then some (if s.op = 12 then h else h - 1) else none := by
  rw [stepH, if_neg (by omega), if_neg (by omega), if_pos (by simp [inR]; omega), ha, hb, hc]
theorem step_not {s : Stp} {h : Int} (h1 : ¬ s.op = 1) (h2 : ¬ s.op = 2) (h3 : inR 3 s.op 12 = false) : stepH s h = none := by
  rw [stepH, if_neg h1, if_neg h2, if_neg (by rw [h3]; simp)]
/-- The cells of one step of a list. -/
theorem stp_at {w w' : World} {S : Nat → Prop} {A : Option Addr} {c : Nat} {us : List Stp} {g o : Nat} {F : Nat → Nat → Value} (h : Opn 3 EStp w S A c us g o F) (hS : ∀ g, S g → g < w.heap.size) (hb : Below w.heap.size w w') {k : Nat} (hk : k < us.length) : w'.cell? ⟨g, o + k * 3, none⟩ = some (.int .i64 (us.getD k default).op) ∧ w'.cell? ⟨g, o + k * 3 + 1, none⟩ = some (.int .i64 (us.getD k default).num) ∧ w'.cell? ⟨g, o + k * 3 + 2, none⟩ = some (.string (us.getD k default).name) := by
  have OL := h.later keepsStp hS hb
  obtain ⟨e0, e1, e2⟩ := OL.el k hk
  have cc := OL.cells k hk
  refine ⟨?_, ?_, ?_⟩
  · rw [← e0]; exact cc 0 (by omega)
  · rw [← e1]; exact cc 1 (by omega)
  · rw [← e2]; exact cc 2 (by omega)
end Go.Proofs.Ytkohhcjpjloaaaa.QtP
namespace Go.Proofs.Ytkohhcjpjloaaaa.DsP
set_option maxRecDepth 8000
open Go.RowKit
open Ls Lp QtP
open Draw (Cur Lft Bytes)
open Recs (hsz below1 below2 chain)
set_option linter.unusedVariables false
abbrev sc (a : Stp) : List Value := [.int .i64 a.op, .int .i64 a.num, .string a.name]
def scells (l : List Stp) : List Value := l.flatMap sc
theorem scells_len : ∀ l : List Stp, (scells l).length = l.length * 3
  | [] => rfl
  | a :: r => by
    have h := scells_len r
    have e : scells (a :: r) = sc a ++ scells r := rfl
    rw [e, List.length_append, h, List.length_cons]
    simp only [List.length_cons, List.length_nil]
    omega
theorem scells_add (l m : List Stp) : scells (l ++ m) = scells l ++ scells m := by simp [scells]
theorem scells_one (l : List Stp) : ∀ u ∈ scells l, u.oneCell' = true := by
  intro u hu
  simp only [scells, List.mem_flatMap] at hu
  obtain ⟨a, -, ha⟩ := hu
  simp only [sc, List.mem_cons, List.mem_nil_iff, or_false] at ha
  rcases ha with rfl | rfl | rfl <;> rfl
theorem scells_get {l : List Stp} {i j : Nat} (hi : i < l.length) (hj : j < 3) : (scells l)[i * 3 + j]? = some ((sc (l.getD i default)).getD j default) := by
  induction l generalizing i with
  | nil => exact absurd hi (Nat.not_lt_zero _)
  | cons a r ih =>
    have e : scells (a :: r) = sc a ++ scells r := rfl
    cases i with
    | zero =>
      rw [e, Nat.zero_mul, Nat.zero_add, List.getElem?_append_left (by simpa [sc] using hj)]
      match j, hj with
      | 0, _ => rfl
      | 1, _ => rfl
      | 2, _ => rfl
    | succ i =>
      rw [e, List.getElem?_append_right (by simp only [sc, List.length_cons, List.length_nil]; omega)]
      have := ih (i := i) (by simpa using hi)
      rw [show (i + 1) * 3 + j - (sc a).length = i * 3 + j by simp only [sc, List.length_cons, List.length_nil]; omega, this]
      simp
abbrev SRow (w : World) (B : Nat) (v : Value) (l : List Stp) : Prop := w.ownsRow B 55 3 v l.length (scells l)
theorem SRow.keep {w w' : World} {base b : Nat} {v : Value} {acc : List Stp} (h : SRow w base v acc) (hb : b < base) (g : w.grownBy w' (some b)) : SRow w' base v acc := by
  refine ⟨h.1, ?_⟩
  rcases h.2 with hn | ⟨g', cap, cur, h1, hbs, hgg, rest⟩
  · exact .inl hn
  · exact .inr ⟨g', cap, cur, h1, hbs, by rw [g.block g' (Array.getElem?_eq_some_iff.1 hgg).1 (by simp; omega)]; exact hgg, rest⟩
theorem SRow.later {w w' : World} {base : Nat} {v : Value} {acc : List Stp} (h : SRow w base v acc) (g : Below w.heap.size w w') : SRow w' base v acc := by
  refine ⟨h.1, ?_⟩
  rcases h.2 with hn | ⟨g', cap, cur, h1, hbs, hgg, rest⟩
  · exact .inl hn
  · exact .inr ⟨g', cap, cur, h1, hbs, by rw [g.block g' (Array.getElem?_eq_some_iff.1 hgg).1]; exact hgg, rest⟩
theorem SRow.form {w : World} {base : Nat} {v : Value} {acc : List Stp} (h : SRow w base v acc) : ∃ A c, v = .slice A acc.length c := by
  rcases h.2 with ⟨h1, h2⟩ | ⟨g', cap, cur, h1, _⟩
  · exact ⟨none, 0, by rw [h1, h2]⟩
  · exact ⟨_, cap, h1⟩
theorem SRow.weak {w : World} {B B' : Nat} {v : Value} {l : List Stp} (h : SRow w B v l) (hb : B' ≤ B) : SRow w B' v l :=
  ⟨h.1, h.2.imp id (fun ⟨g, cap, cur, h1, h2, h3⟩ => ⟨g, cap, cur, h1, by omega, h3⟩)⟩
theorem SRow.ownB {w : World} {B : Nat} {v : Value} {l : List Stp} (h : SRow w B v l) : ∀ x, v.ownBlock = some x → B ≤ x := fun x hx => (World.ownsRow.lt h x hx).1
theorem SRow.add {w : World} {B : Nat} {v : Value} {l m : List Stp} (h : w.ownsRow B 55 3 v (l.length + m.length) (scells l ++ scells m)) : SRow w B v (l ++ m) := by
  unfold SRow
  rw [List.length_append, scells_add]
  exact h
theorem empty_row (w : World) : SRow (w.alloc (.cells #[] 55 (0, 0))) w.heap.size (.slice (some ⟨w.heap.size, 0, none⟩) 0 0) [] :=
  ⟨rfl, .inr ⟨w.heap.size, 0, #[], rfl, Nat.le_refl _, heap_alloc_new _ _, by simp, by unfold maxLen; omega, by simp, rfl⟩⟩
theorem one_row (w : World) (s : Stp) : SRow (w.alloc (.cells #[.int .i64 s.op, .int .i64 s.num, .string s.name] 55 (0, 0))) w.heap.size (.slice (some ⟨w.heap.size, 0, none⟩) 1 1) [s] :=
  ⟨rfl, .inr ⟨w.heap.size, 1, #[.int .i64 s.op, .int .i64 s.num, .string s.name], rfl, Nat.le_refl _, heap_alloc_new _ _, by simp, by unfold maxLen; omega, by simp, by simp [scells, sc]⟩⟩
theorem SRow.lat {w : World} {base : Nat} {v : Value} {acc : List Stp} (hn : acc.length ≤ 9223372036854775807) (h : SRow w base v acc) : LAt 3 EStp w (seg base w.heap.size) v acc := by
  refine ⟨hn, ?_⟩
  rcases h.2 with ⟨h1, h2⟩ | ⟨g, cap, cur, h1, h2, h3, h4, h5, h6, h7⟩
  · exact ⟨none, 0, by rw [h1, h2], .inl h2⟩
  · refine ⟨_, cap, h1, .inr ⟨g, 0, fun i j => (sc (acc.getD i default)).getD j default, rfl, ⟨h2, (Array.getElem?_eq_some_iff.1 h3).1⟩, h4, fun i hi j hj => ?_, fun i hi => ⟨rfl, rfl, rfl⟩⟩⟩
    have e : cur[i * 3 + j]? = some ((sc (acc.getD i default)).getD j default) := by
      have h8 : (cur.toList.take (acc.length * 3))[i * 3 + j]? = (scells acc)[i * 3 + j]? := by rw [h7]
      rw [List.getElem?_take_of_lt (by omega), scells_get hi hj] at h8
      simpa using h8
    rw [show 0 + i * 3 + j = i * 3 + j by omega]
    simp [World.cell?, h3, e]
theorem news_of {w : World} {S : Nat → Prop} {A : Option Addr} {c : Nat} {us : List Stp} (h : LAt 3 EStp w S (.slice A us.length c) us) : us.length ≠ 0 → ∃ ad, A = some ad ∧ ∀ j u, (scells us)[j]? = some u → w.cell? (ad.add j) = some u := fun hn => by
  obtain ⟨_, A', c', h1, h2⟩ := h
  simp only [Value.slice.injEq, true_and] at h1
  obtain ⟨rfl, rfl⟩ := h1
  obtain ⟨g, o, F, rfl, hg, hc, hcell, hel⟩ := h2.resolve_left hn
  refine ⟨_, rfl, fun j u hj => ?_⟩
  have hlt := (List.getElem?_eq_some_iff.1 hj).1
  rw [scells_len] at hlt
  have hi : j / 3 < us.length := by omega
  have hc2 := hcell (j / 3) hi (j % 3) (by omega)
  obtain ⟨e0, e1, e2⟩ := hel (j / 3) hi
  have hadd : (⟨g, o, none⟩ : Addr).add j = ⟨g, o + j, none⟩ := by unfold Addr.add; split <;> simp_all
  rw [hadd, show o + j = o + j / 3 * 3 + j % 3 by omega, hc2]
  have hj2 := scells_get hi (show j % 3 < 3 by omega)
  rw [show j / 3 * 3 + j % 3 = j by omega, hj] at hj2
  rw [hj2]
  have h3 : j % 3 = 0 ∨ j % 3 = 1 ∨ j % 3 = 2 := by omega
  rcases h3 with h3 | h3 | h3 <;> rw [h3] <;> simp [sc, e0, e1, e2]
/-- Steps with short names. -/
def Sm (l : List Stp) : Prop := ∀ s, s ∈ l → s.name.size ≤ 10
theorem sz_sm : ∀ {l : List Stp}, Sm l → tot szStp l ≤ 10 * l.length
  | [], _ => by simp [tot]
  | s :: r, h => by
    have h1 := sz_sm (l := r) (fun x hx => h x (List.mem_cons_of_mem _ hx))
    have h2 := h s (List.mem_cons_self ..)
    have e : szStp s = s.name.size := rfl
    simp only [tot, List.length_cons, e]
    omega
theorem Sm.app {l m : List Stp} (h : Sm l) (h' : Sm m) : Sm (l ++ m) := fun s hs => (List.mem_append.1 hs).elim (h s) (h' s)
theorem Sm.one {s : Stp} (h : s.name.size ≤ 10) : Sm [s] := fun x hx => by rw [List.mem_singleton.1 hx]; exact h
/-- A list that grows while numbers are drawn. -/
structure SL (w wr : World) (b : Nat) (A : Option Addr) (n c : Nat) (v : Value) (acc : List Stp) : Prop where
  own : SRow wr w.heap.size v acc
  lft : Lft w wr b A n c
theorem SL.next {w wr w' : World} {b : Nat} {A : Option Addr} {n c : Nat} {v : Value} {acc : List Stp} (h : SL w wr b A n c v acc) (hb : b < w.heap.size) (l : Lft wr w' b A n c) : SL w w' b A n c v acc := ⟨h.own.keep hb l.grown, h.lft.trans l⟩
theorem SL.alloc {w wr : World} {b : Nat} {A : Option Addr} {n c : Nat} {v : Value} {acc : List Stp} (h : SL w wr b A n c v acc) (hb : b < w.heap.size) (o : Obj) : SL w (wr.alloc o) b A n c v acc :=
  h.next hb ⟨h.lft.cur.alloc o, World.grownBy_alloc wr o (some b)⟩
theorem SL.push {w wr w9 : World} {b : Nat} {A : Option Addr} {n c : Nat} {v v' : Value} {acc m : List Stp} (h0 : Cur w b A n c) (h : SL w wr b A n c v acc) (hown : w9.ownsRow w.heap.size 55 3 v' (acc.length + m.length) (scells acc ++ scells m)) (gr : wr.grownBy w9 v.ownBlock) : SL w w9 b A n c v' (acc ++ m) :=
  ⟨SRow.add hown, DrawB.Lft.above h0 h.lft gr (fun k hk => h.own.ownB k hk)⟩
end Go.Proofs.Ytkohhcjpjloaaaa.DsP
