/- What the law's helpers over one Record answer; RecordOk of the model and of the program: one plain function of the record. -/
import Derived.WalkLawsBesides
import Derived.Test.YtikfffeiemlnoabJWR05
namespace Go.Proofs.Ytikfffeiemlnoab.RecW
set_option maxRecDepth 8000
open Go.RowKit
open Recs
set_option linter.unusedVariables false

def recArr (r : Rec) (hv : Value) : Array Value := #[.int .i64 r.time, .bool r.keyed, .string r.key, .bool r.gone, .string r.val, hv]
theorem recArr_one (r : Rec) (hv : Value) (h : hv.oneCell' = true) : (recArr r hv).all (·.oneCell') = true := by
  simp [recArr, Value.oneCell'] at h ⊢
  exact h
end Go.Proofs.Ytikfffeiemlnoab.RecW
namespace Go.Proofs.Ytikfffeiemlnoab.ROk
set_option maxRecDepth 8000
open Go.RowKit
open Recs
set_option linter.unusedVariables false

def okH (h : Hd) : Bool := !h.key.toList.isEmpty && decide (h.key.size ≤ 100) && decide (h.val.size ≤ 100)
def okR0 (r : Rec) : Bool := (decide (0 ≤ r.time) && decide (r.time ≤ 1000000000000)) && decide (r.key.size ≤ 100) && decide (r.val.size ≤ 100) && decide (r.heads.length ≤ 3)
def okR1 (r : Rec) : Bool := (r.keyed || r.key.toList.isEmpty) && (!r.gone || r.val.toList.isEmpty)
def okR (r : Rec) : Bool := okR0 r && okR1 r && r.heads.all okH

theorem l1In_any (x lo hi : Int) (w : World) : Calls Try.prog 34 #[.int .i64 x, .int .i64 lo, .int .i64 hi] w fun e w' => e = .returned (.bool (decide (lo ≤ x) && decide (x ≤ hi))) ∧ w = w' := by
  go_enter Try.func34, Try.ntmps34
  go_wp2
  all_goals
    go_ret
    exact ⟨Seg.ret_bool (by rw [Bool.eq_iff_iff]; simp; try omega), rfl⟩
theorem within_any (x lo hi : Int) (w : World) : Calls Try.prog 37 #[.int .i64 x, .int .i64 lo, .int .i64 hi] w fun e w' => e = .returned (.bool (decide (lo ≤ x) && decide (x ≤ hi))) ∧ w = w' := by
  go_enter Try.func37, Try.ntmps37
  go_wp2
  all_goals
    go_ret
    exact ⟨Seg.ret_bool (by rw [Bool.eq_iff_iff]; simp; try omega), rfl⟩
theorem textOk_any (s : ByteArray) (w : World) : Calls Try.prog 116 #[.string s] w fun e w' => e = .returned (.bool (decide (s.size ≤ 100))) ∧ w = w' := by
  go_enter Try.func116, Try.ntmps116
  go_wp2
  all_goals
    go_ret
    exact ⟨Seg.ret_bool (by rw [Bool.eq_iff_iff]; simp; omega), rfl⟩

theorem l1In_b (x lo hi : Int) (b : Bool) (hb : (decide (lo ≤ x) && decide (x ≤ hi)) = b) (w : World) : Calls Try.prog 34 #[.int .i64 x, .int .i64 lo, .int .i64 hi] w fun e w' => e = .returned (.bool b) ∧ w = w' := by
  subst hb; exact l1In_any x lo hi w
theorem within_b (x lo hi : Int) (b : Bool) (hb : (decide (lo ≤ x) && decide (x ≤ hi)) = b) (w : World) : Calls Try.prog 37 #[.int .i64 x, .int .i64 lo, .int .i64 hi] w fun e w' => e = .returned (.bool b) ∧ w = w' := by
  subst hb; exact within_any x lo hi w
theorem textOk_b (s : ByteArray) (b : Bool) (hb : decide (s.size ≤ 100) = b) (w : World) : Calls Try.prog 116 #[.string s] w fun e w' => e = .returned (.bool b) ∧ w = w' := by
  subst hb; exact textOk_any s w
theorem gt_of (n m : Nat) (h : decide (n ≤ m) = false) : (m : Int) < (n : Int) := by simp at h; omega
theorem le_of (n m : Nat) (h : decide (n ≤ m) = true) : ¬ (m : Int) < (n : Int) := by simp at h; omega

def rv (t : Int) (kd : Bool) (k : ByteArray) (gn : Bool) (v : ByteArray) (hv : Value) : Value := .agg #[.int .i64 t, .bool kd, .string k, .bool gn, .string v, hv]
def ok0 (t : Int) (k v : ByteArray) (n : Nat) : Bool := (decide (0 ≤ t) && decide (t ≤ 1000000000000)) && decide (k.size ≤ 100) && decide (v.size ≤ 100) && decide (n ≤ 3)
def ok1 (kd : Bool) (k : ByteArray) (gn : Bool) (v : ByteArray) : Bool := (kd || k.toList.isEmpty) && (!gn || v.toList.isEmpty)

theorem ok0_parts {t : Int} {k v : ByteArray} {n : Nat} (h : ok0 t k v n = true) : (decide (0 ≤ t) && decide (t ≤ 1000000000000)) = true ∧ decide (k.size ≤ 100) = true ∧ decide (v.size ≤ 100) = true ∧ decide (n ≤ 3) = true := by
  simp only [ok0, Bool.and_eq_true] at h ⊢
  exact ⟨h.1.1.1, h.1.1.2, h.1.2, h.2⟩
/-- The block that holds the record which came in, and its list of Heads. -/
def Par (wr : World) (p tp : Nat) (u : Value) : Prop := ∃ cs : Array Value, wr.heap[p]? = some (.cells cs tp (0, 0)) ∧ cs[5]? = some u
theorem Par.cell {wr : World} {p tp : Nat} {u : Value} (h : Par wr p tp u) : wr.cell? ⟨p, 5, none⟩ = some u := by
  obtain ⟨cs, h1, h2⟩ := h
  rw [cell_of_row wr p 5 cs tp (0, 0) h1, h2]
theorem Par.alloc {wr : World} {p tp : Nat} {u : Value} (h : Par wr p tp u) (o : Obj) : Par (wr.alloc o) p tp u := by
  obtain ⟨cs, h1, h2⟩ := h
  exact ⟨cs, by rw [heap_alloc_old wr o (Array.getElem?_eq_some_iff.1 h1).1]; exact h1, h2⟩
theorem Par.below {wr w' : World} {p tp b : Nat} {u : Value} (h : Par wr p tp u) (hb : Below b wr w') (hp : p < b) : Par w' p tp u := by
  obtain ⟨cs, h1, h2⟩ := h
  exact ⟨cs, by rw [hb.block p hp]; exact h1, h2⟩
/-- The heads lie there. -/
def Lies (w : World) (A : Option Addr) (n c : Nat) (K V : Nat → ByteArray) : Prop :=
  n = 0 ∨ ∃ g o, A = some ⟨g, o, none⟩ ∧ g < w.heap.size ∧ n ≤ c ∧ ∀ i, i < n → w.cell? ⟨g, o + i * 2, none⟩ = some (.string (K i)) ∧ w.cell? ⟨g, o + i * 2 + 1, none⟩ = some (.string (V i))
def okKV (K V : Nat → ByteArray) (i : Nat) : Bool := !(K i).toList.isEmpty && decide ((K i).size ≤ 100) && decide ((V i).size ≤ 100)

structure Tells (e : Ending) (n : Nat) (K V : Nat → ByteArray) : Prop where
  tells : ∃ b, e = .returned (.bool b) ∧ ((b = true ∧ ∀ i, i < n → okKV K V i = true) ∨ (b = false ∧ ∃ i, i < n ∧ okKV K V i = false))
theorem Tells.bad {n j : Nat} {K V : Nat → ByteArray} (h : j < n) (hb : okKV K V j = false) : Tells (.returned (.bool false)) n K V := ⟨false, rfl, .inr ⟨rfl, j, h, hb⟩⟩
theorem Tells.good {n : Nat} {K V : Nat → ByteArray} (h : ∀ i, i < n → okKV K V i = true) : Tells (.returned (.bool true)) n K V := ⟨true, rfl, .inl ⟨rfl, h⟩⟩
end Go.Proofs.Ytikfffeiemlnoab.ROk
