/- The map of who holds a slot: its keys, what it says. -/
import Derived.Test.YtfdfhhiaalbfiaaHoP
import Derived.Test.YtfdfhhiaalbfiaaCells
import Derived.Maps.OwnSet
import Derived.Maps.Views
import Derived.DeepKeys4
namespace Go.Proofs.Ytfdfhhiaalbfiaa.HoM
set_option maxRecDepth 8000
open Go.RowKit Go.Maps
open Ls Lp WnP HoP
open Recs (hsz below1 below2 chain)
set_option linter.unusedVariables false
theorem rowA : (73 : TypeId) < Try.prog.types.size := of_decide_eq_true (by kernel_rfl)
theorem laidOut : laidOutB Try.prog = true := by kernel_rfl
theorem wideA : (match Try.prog.underlying 73 with | some (.array _ _) | some (.struct _) => true | _ => false) = true := by kernel_rfl
theorem lawK : WideMaps.KeyLaw Try.prog 73 := deep_law_laid laidOut (m := 3) (by omega) rowA (by kernel_rfl) wideA
theorem law : Keyed Try.prog 73 := Keyed.of_law lawK
theorem zeroI (w : World) : (zeroValue 3).run Try.prog w = .ok (.int .i64 0) w := by kernel_rfl
theorem cellsA : Try.prog.cellsOf 73 = 2 := by kernel_rfl
theorem cellsT : Try.prog.cellsOf 9 = 1 := by kernel_rfl
theorem cellsI : Try.prog.cellsOf 3 = 1 := by kernel_rfl
theorem typeA : Try.prog.keyType 73 = true := by kernel_rfl
theorem depth : ∃ n, Try.prog.types.size = n + 1 := ⟨Try.prog.types.size - 1, by have h : (73 : Nat) < Try.prog.types.size := rowA; omega⟩
def keyS (s : Slt) : Lit := .string (keyBytes [.string s.topic.data.toList, .int .i64 s.part])
def Gd (s : Slt) : Prop := s.topic.size ≤ maxLen ∧ (Lit.int .i64 s.part).wf = true
theorem key_of (s : Slt) (h : Gd s) : keyOf Try.prog 73 (.agg #[.string s.topic, .int .i64 s.part]) = some (keyS s) := by
  obtain ⟨n, hn⟩ := depth
  have hf : (Value.agg #[.string s.topic, .int .i64 s.part]).formed Try.prog 73 = true := by simp [Value.formed, Try.underlying73, cellsA]
  have hk : Try.prog.keyLits (n + 1 + 1) 73 [.string s.topic, .int .i64 s.part] = some [.string s.topic.data.toList, .int .i64 s.part] := by
    simp [Program.keyLits, Try.underlying73, Try.underlying9, Try.underlying3, cellsA, cellsT, cellsI, h.1, h.2]
  simp [keyOf, Try.underlying73, typeA, hf, hn, hk, Value.cells, keyS]
theorem key_inj {a b : Slt} (ha : Gd a) (hb : Gd b) (h : keyS a = keyS b) : a = b := by
  have h1 := key_of a ha
  rw [h] at h1
  have h2 := law.inj h1 (key_of b hb)
  simp only [Value.agg.injEq, Array.mk.injEq, List.cons.injEq, Value.string.injEq, Value.int.injEq, and_true, true_and] at h2
  cases a; cases b
  simp only [Slt.mk.injEq]
  exact h2
def Mp (D : DataW Unit) (f : St) : Prop := ∀ s, Gd s → Maps.has D (keyS s) = (f s).isSome ∧ ∀ v, f s = some v → ∀ z, D.atKey (keyS s) z = .lit (.int .i64 v)
theorem mp_nil : Mp (.map []) f0 := fun s _ => ⟨rfl, fun v h => by cases h⟩
theorem mp_put {D : DataW Unit} {f : St} (h : Mp D f) (hD : IsMap D) (s : Slt) (hs : Gd s) (v : Int) : Mp (D.put (keyS s) (.lit (.int .i64 v))) (upd f s v) := fun t ht => by
  by_cases e : t = s
  · subst e
    have eu : upd f t v t = some v := by unfold upd; rw [if_pos (same_iff.2 rfl)]
    rw [eu]
    refine ⟨?_, fun v' hv z => ?_⟩
    · rw [has_put_same hD (show WideAt.IsKeyLit (keyS t) from trivial)]; rfl
    · simp at hv
      subst hv
      exact atKey_put_same hD (show WideAt.IsKeyLit (keyS t) from trivial) _ _
  · have ne : keyS t ≠ keyS s := fun e' => e (key_inj ht hs e')
    have eu : upd f s v t = f t := by unfold upd; rw [if_neg (fun e' => e (same_iff.1 e'))]
    rw [eu, has_put_other ne]
    exact ⟨(h t ht).1, fun v' hv z => by rw [atKey_put_other ne]; exact (h t ht).2 v' hv z⟩
/-- The map in block bm: at most n entries. -/
def MapAt (w : World) (bm n : Nat) (f : St) : Prop := ∃ D : DataW Unit, w.ownsMap Try.prog 73 (plainElem Try.prog 3) bm n D ∧ Mp D f
theorem MapAt.lt {w : World} {bm n : Nat} {f : St} (h : MapAt w bm n f) : bm < w.heap.size := by
  obtain ⟨D, h, _⟩ := h
  exact h.lt
theorem MapAt.mono {w : World} {bm n n' : Nat} {f : St} (h : MapAt w bm n f) (hn : n ≤ n') : MapAt w bm n' f := by
  obtain ⟨D, h, h2⟩ := h
  exact ⟨D, h.mono hn, h2⟩
theorem MapAt.keep {w w' : World} {bm n : Nat} {f : St} (h : MapAt w bm n f) (hk : w'.heap[bm]? = w.heap[bm]?) : MapAt w' bm n f := by
  obtain ⟨D, ⟨es, clock, hb, r⟩, h2⟩ := h
  exact ⟨D, ⟨es, clock, hk.trans hb, r⟩, h2⟩
end Go.Proofs.Ytfdfhhiaalbfiaa.HoM
