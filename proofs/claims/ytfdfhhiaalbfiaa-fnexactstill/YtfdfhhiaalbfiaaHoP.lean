/- Who holds a slot, on plain data. -/
import Derived.Test.YtfdfhhiaalbfiaaWnP
namespace Go.Proofs.Ytfdfhhiaalbfiaa.HoP
set_option maxRecDepth 8000
open Go.RowKit
open Ls Lp WnP
set_option linter.unusedVariables false
theorem bytes_eq {a b : ByteArray} (h : a.toList = b.toList) : a = b := by
  rw [ByteArray.toList_eq, ByteArray.toList_eq] at h
  cases a; cases b
  simp only [ByteArray.mk.injEq]
  exact Array.ext' h
theorem same_iff {a b : Slt} : sameS a b = true ↔ a = b := by
  constructor
  · intro h
    simp only [sameS, Bool.and_eq_true, decide_eq_true_eq] at h
    obtain ⟨h1, h2⟩ := h
    have h3 := bytes_eq h1
    cases a; cases b
    simp only [Slt.mk.injEq]
    exact ⟨h3, h2⟩
  · rintro rfl
    simp [sameS]
theorem isIn_iff {l : List Slt} {s : Slt} : isIn l s = true ↔ s ∈ l := by
  simp only [isIn, List.any_eq_true]
  constructor
  · rintro ⟨x, h1, h2⟩
    rw [same_iff] at h2
    rw [← h2]; exact h1
  · intro h
    exact ⟨s, h, same_iff.2 rfl⟩
abbrev St := Slt → Option Int
def upd (f : St) (s : Slt) (v : Int) : St := fun t => if sameS t s = true then some v else f t
def vl (i : Int) : Option Int → Int
  | none => i
  | some o => if o = i then i else -2
def stp (i : Int) (f : St) (s : Slt) : St := upd f s (vl i (f s))
def hld (i : Int) (f : St) (l : List Slt) : St := l.foldl (stp i) f
def hlds : Nat → St → List (List Slt) → St
  | _, f, [] => f
  | i, f, l :: r => hlds (i + 1) (hld i f l) r
def bad (f : St) (i : Int) (s : Slt) : Bool := !decide (f s = some i)
def mv (f : St) (i : Int) (l : List Slt) : Nat := (l.filter (bad f i)).length
def mvs (f : St) : Nat → List (List Slt) → Nat
  | _, [] => 0
  | i, l :: r => mv f i l + mvs f (i + 1) r
def f0 : St := fun _ => none
theorem hld_cons (i : Int) (f : St) (s : Slt) (l : List Slt) : hld i f (s :: l) = hld i (stp i f s) l := rfl
theorem stp_same (i : Int) (f : St) (s : Slt) : stp i f s s = some (vl i (f s)) := by
  unfold stp upd
  rw [if_pos (same_iff.2 rfl)]
theorem stp_other (i : Int) (f : St) {s t : Slt} (h : t ≠ s) : stp i f s t = f t := by
  unfold stp upd
  rw [if_neg (fun e => h (same_iff.1 e))]
theorem hld_out (i : Int) : ∀ (l : List Slt) (f : St) (t : Slt), t ∉ l → hld i f l t = f t
  | [], f, t, _ => rfl
  | s :: l, f, t, h => by
    rw [hld_cons, hld_out i l _ t (fun e => h (List.mem_cons_of_mem _ e)), stp_other i f (fun e => h (by rw [e]; exact List.mem_cons_self ..))]
theorem hld_in (i : Nat) : ∀ (l : List Slt) (f : St) (t : Slt), (f t = none ∨ f t = some (i : Int)) → (t ∈ l ∨ f t = some (i : Int)) → hld i f l t = some (i : Int)
  | [], f, t, h, hm => by
    rcases hm with hm | hm
    · cases hm
    · exact hm
  | s :: l, f, t, h, hm => by
    rw [hld_cons]
    by_cases e : t = s
    · subst e
      have e1 : stp i f t t = some (i : Int) := by
        rw [stp_same]
        rcases h with h | h <;> rw [h] <;> simp [vl]
      exact hld_in i l _ t (.inr e1) (.inr e1)
    · have e1 : stp i f s t = f t := stp_other _ f e
      refine hld_in i l _ t (by rw [e1]; exact h) ?_
      rw [e1]
      rcases hm with hm | hm
      · rcases List.mem_cons.1 hm with hm | hm
        · exact absurd hm e
        · exact .inl hm
      · exact .inr hm
theorem hlds_out : ∀ (ls : List (List Slt)) (i : Nat) (f : St) (t : Slt), (∀ l ∈ ls, t ∉ l) → hlds i f ls t = f t
  | [], i, f, t, _ => rfl
  | l :: r, i, f, t, h => by
    rw [hlds, hlds_out r _ _ t (fun l' hl => h l' (List.mem_cons_of_mem _ hl)), hld_out _ l f t (h l (List.mem_cons_self ..))]
/-- No slot in two of the lists. -/
def apart : List (List Slt) → Prop
  | [] => True
  | l :: r => (∀ m ∈ r, ∀ t ∈ l, t ∉ m) ∧ apart r
theorem hlds_in : ∀ (ls : List (List Slt)) (i : Nat) (f : St), apart ls → (∀ l ∈ ls, ∀ t ∈ l, f t = none) → mvs (hlds i f ls) i ls = 0
  | [], i, f, _, _ => rfl
  | l :: r, i, f, h, hf => by
    have e1 : ∀ t ∈ l, hlds i f (l :: r) t = some (i : Int) := fun t ht => by
      rw [hlds, hlds_out r _ _ t (fun m hm => h.1 m hm t ht)]
      exact hld_in i l f t (.inl (hf l (List.mem_cons_self ..) t ht)) (.inl ht)
    have e2 : mvs (hlds (i + 1) (hld i f l) r) (i + 1) r = 0 := hlds_in r (i + 1) (hld i f l) h.2 (fun m hm t ht => by
      rw [hld_out _ l f t (fun e => h.1 m hm t e ht)]
      exact hf m (List.mem_cons_of_mem _ hm) t ht)
    have e3 : mv (hlds i f (l :: r)) i l = 0 := by
      unfold mv
      rw [List.length_eq_zero_iff, List.filter_eq_nil_iff]
      intro t ht
      simp [bad, e1 t ht]
    rw [mvs, e3]
    show 0 + mvs (hlds (i + 1) (hld i f l) r) (i + 1) r = 0
    rw [e2]
theorem mvs_zero : ∀ (ls : List (List Slt)) (i : Nat) (f : St), mvs f i ls = 0 → ∀ (j : Nat) (hj : j < ls.length), ∀ t ∈ ls[j], f t = some ((i + j : Nat) : Int)
  | [], i, f, _, j, hj => absurd hj (Nat.not_lt_zero _)
  | l :: r, i, f, h, j, hj => by
    rw [mvs] at h
    have h1 : mv f i l = 0 := by omega
    have h2 : mvs f (i + 1) r = 0 := by omega
    cases j with
    | zero =>
      intro t ht
      unfold mv at h1
      rw [List.length_eq_zero_iff, List.filter_eq_nil_iff] at h1
      have := h1 t ht
      simpa [bad] using this
    | succ j =>
      intro t ht
      have := mvs_zero r (i + 1) f h2 j (by simpa using hj) t ht
      rw [this]
      congr 1
      omega
theorem apart_of : ∀ (ls : List (List Slt)) (i : Nat) (f : St), mvs f i ls = 0 → apart ls
  | [], i, f, _ => trivial
  | l :: r, i, f, h => by
    have h0 := mvs_zero (l :: r) i f h
    rw [mvs] at h
    refine ⟨fun m hm t ht hc => ?_, apart_of r (i + 1) f (by omega)⟩
    obtain ⟨j, hj, rfl⟩ := List.getElem_of_mem hm
    have a1 := h0 0 (by simp) t ht
    have a2 := h0 (j + 1) (by simpa using hj) t (by simpa using hc)
    rw [a1] at a2
    simp at a2
    omega
theorem once_iff (ls : List (List Slt)) : mvs (hlds 0 f0 ls) 0 ls = 0 ↔ apart ls :=
  ⟨apart_of ls 0 _, fun h => hlds_in ls 0 f0 h (fun _ _ _ _ => rfl)⟩
/-- The same, as the model asks. -/
theorem apart_idx : ∀ (ls : List (List Slt)), apart ls ↔ ∀ (j k : Nat), j < k → k < ls.length → ∀ t ∈ ls.getD k default, t ∉ ls.getD j default
  | [] => by simp [apart]
  | l :: r => by
    rw [apart, apart_idx r]
    constructor
    · rintro ⟨h1, h2⟩ j k hjk hk t ht
      cases k with
      | zero => omega
      | succ k =>
        have hk' : k < r.length := by simpa using hk
        cases j with
        | zero =>
          intro hc
          refine h1 (r.getD k default) ?_ t (by simpa using hc) (by simpa using ht)
          rw [List.getD_eq_getElem?_getD, List.getElem?_eq_getElem hk']
          exact List.getElem_mem _
        | succ j => exact fun hc => h2 j k (by omega) hk' t (by simpa using ht) (by simpa using hc)
    · intro h
      refine ⟨fun m hm t ht hc => ?_, fun j k hjk hk t ht hc => ?_⟩
      · obtain ⟨k, hk, rfl⟩ := List.getElem_of_mem hm
        exact h 0 (k + 1) (by omega) (by simpa using hk) t (by simpa [hk] using hc) (by simpa using ht)
      · exact h (j + 1) (k + 1) (by omega) (by simpa using hk) t (by simpa using ht) (by simpa using hc)
end Go.Proofs.Ytfdfhhiaalbfiaa.HoP
