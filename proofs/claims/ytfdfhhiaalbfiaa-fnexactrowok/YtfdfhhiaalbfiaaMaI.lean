/- The program's matches: the places of a writer's fields by their names. -/
import Derived.Test.YtfdfhhiaalbfiaaMaP
import Derived.Maps.OwnSet
import Derived.Maps.Views
namespace Go.Proofs.Ytfdfhhiaalbfiaa.MaI
set_option maxRecDepth 8000
open Go.RowKit Go.Maps Go.ChangeShapes Go.WideShapes Go.ChangeMaps Go.MapKept Go.WideMaps
open Ls Lp VkP VkR ScP ScM ScN ScI ScS MaP
open Recs (hsz below1 below2 below3 chain chainD)
set_option linter.unusedVariables false
theorem zeroI (w : World) : (zeroValue 3).run Try.prog w = .ok (.int .i64 0) w := by kernel_rfl
theorem infoI : (Try.prog.info? 3).map (fun i => (i.zero, i.size, i.bytes)) = some (some (.int .i64 0), 1, 8) := by kernel_rfl
def PSays (D : DataW Unit) (ws : List Fld) : Prop := ∀ s : ByteArray, s.size ≤ maxLen → Maps.has D (key s) = decide (0 ≤ fnd ws s) ∧ (0 ≤ fnd ws s → ∀ z, D.atKey (key s) z = .lit (.int .i64 (fnd ws s)))
/-- The map of places. -/
def PM (w : World) (bm n : Nat) (ws : List Fld) : Prop := ∃ D : DataW Unit, w.ownsMap Try.prog 9 (plainElem Try.prog 3) bm n D ∧ PSays D ws
theorem PM.made (w : World) : PM (w.alloc (.map #[] 0)) w.heap.size 0 [] := ⟨_, World.ownsMap_made _ _ _ _, fun s _ => ⟨rfl, fun h => by have e : fnd [] s = -1 := rfl; rw [e] at h; omega⟩⟩
theorem PM.lt {w : World} {bm n : Nat} {ws : List Fld} (h : PM w bm n ws) : bm < w.heap.size := by
  obtain ⟨D, h, _⟩ := h
  exact h.lt
theorem PM.keep {w w' : World} {bm n : Nat} {ws : List Fld} (h : PM w bm n ws) (hk : w'.heap[bm]? = w.heap[bm]?) : PM w' bm n ws := by
  obtain ⟨D, ⟨es, clock, hb, r⟩, h2⟩ := h
  exact ⟨D, ⟨es, clock, hk.trans hb, r⟩, h2⟩
theorem psays_put {D : DataW Unit} {ws : List Fld} (h : PSays D ws) (hD : IsMap D) (f : Fld) (hn : fnd ws f.name = -1) : PSays (D.put (key f.name) (.lit (.int .i64 (ws.length : Int)))) (ws ++ [f]) := fun s hs' => by
  rw [fnd_push]
  by_cases e : s.toList = f.name.toList
  · have e1 : fnd ws s = -1 := by
      have : fnd ws s = fnd ws f.name := by unfold fnd; have : ∀ (l : List Fld) (i : Nat), fndF s i l = fndF f.name i l := (fun l => by induction l with | nil => intro i; rfl | cons a l ih => intro i; rw [fndF, fndF, e, ih]); exact this ws 0
      rw [this, hn]
    have e2 : (f.name.toList == s.toList) = true := by simp [e]
    have e3 : (if 0 ≤ fnd ws s then fnd ws s else if (f.name.toList == s.toList) = true then (ws.length : Int) else -1) = ws.length := by rw [e1, if_neg (by omega), if_pos e2]
    rw [e3, key_iff.2 e]
    refine ⟨?_, fun _ z => ?_⟩
    · rw [has_put_same hD (show WideAt.IsKeyLit (key f.name) from trivial)]
      simp
    · exact atKey_put_same hD (show WideAt.IsKeyLit (key f.name) from trivial) _ _
  · have ne : key s ≠ key f.name := fun e' => e (key_iff.1 e')
    have e2 : (f.name.toList == s.toList) = false := by simpa using fun e' => e e'.symm
    have e3 : (if 0 ≤ fnd ws s then fnd ws s else if (f.name.toList == s.toList) = true then (ws.length : Int) else -1) = fnd ws s := by
      by_cases h0 : 0 ≤ fnd ws s
      · rw [if_pos h0]
      · rw [if_neg h0, e2, fnd_neg h0]; rfl
    rw [e3, has_put_other ne]
    exact ⟨(h s hs').1, fun h0 z => by rw [atKey_put_other ne]; exact (h s hs').2 h0 z⟩
/-- A row of numbers of the call's own. -/
abbrev IRow (w : World) (B : Nat) (v : Value) (ns : List Int) : Prop := w.ownsRow B 3 1 v ns.length (ns.map (Value.int .i64))
theorem IRow.keep {w w' : World} {B : Nat} {v : Value} {ns : List Int} (h : IRow w B v ns) (hb : ∀ x, B ≤ x → x < w.heap.size → w'.heap[x]? = w.heap[x]?) : IRow w' B v ns := by
  refine ⟨h.1, ?_⟩
  rcases h.2 with ⟨h1, h2⟩ | ⟨g, cap, cur, h1, hb', hg, r⟩
  · exact .inl ⟨h1, h2⟩
  · exact .inr ⟨g, cap, cur, h1, hb', (hb g hb' (Array.getElem?_eq_some_iff.1 hg).1).trans hg, r⟩
theorem irow_put {w : World} {B : Nat} {v : Value} {ns : List Int} {a : Int} (h : w.ownsRow B 3 1 v (ns.length + 1) (ns.map (Value.int .i64) ++ [Value.int .i64 a])) : IRow w B v (ns ++ [a]) := by
  unfold IRow
  simpa using h
theorem map_take {T U : Type} [Inhabited T] (p : T → U) {l : List T} {k : Nat} (h : k < l.length) : (l.take (k + 1)).map p = (l.take k).map p ++ [p (l.getD k default)] := by
  rw [List.take_succ_eq_append_getElem h, List.map_append]
  simp [h]
end Go.Proofs.Ytfdfhhiaalbfiaa.MaI
