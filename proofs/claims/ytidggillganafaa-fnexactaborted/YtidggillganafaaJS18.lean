/- Gone: how it lies in memory; likeness; Transactions that are open, and those that were aborted: one batch after another, on plain data. -/
import Derived.Test.YtidggillganafaaJS17
import Derived.Test.YtidggillganafaaJS01
namespace Go.Proofs.Ytidggillganafaa.Ls
set_option maxRecDepth 8000
open Go.RowKit
open Recs
set_option linter.unusedVariables false
structure Gon where
  producer : Int
  first : Int
  last : Int
  deriving Inhabited
def EGon : Elt Gon := fun w S f u => f 0 = .int .i64 u.producer ∧ f 1 = .int .i64 u.first ∧ f 2 = .int .i64 u.last
theorem keepsGon : Keeps 3 EGon := fun w w' S f f' t h hk hf => by
  obtain ⟨h0, h1, h2⟩ := h
  exact ⟨by rw [hf 0 (by omega)]; exact h0, by rw [hf 1 (by omega)]; exact h1, by rw [hf 2 (by omega)]; exact h2⟩
theorem growsGon : Grows EGon := fun w S S' f t h hs => by
  obtain ⟨h0, h1, h2⟩ := h
  exact ⟨h0, h1, h2⟩
def arrGon (f : Nat → Value) : Array Value := #[f 0, f 1, f 2]
theorem oneGon {w : World} {S : Nat → Prop} {f : Nat → Value} {u : Gon} (h : EGon w S f u) : (arrGon f).all (·.oneCell') = true := by
  obtain ⟨h0, h1, h2⟩ := h
  have o0 : (f 0).oneCell' = true := by rw [h0]; rfl
  have o1 : (f 1).oneCell' = true := by rw [h1]; rfl
  have o2 : (f 2).oneCell' = true := by rw [h2]; rfl
  simp [arrGon, o0, o1, o2]
def GonAt (w : World) (S : Nat → Prop) (v : Value) (u : Gon) : Prop := ∃ f, v = .agg (arrGon f) ∧ EGon w S f u
abbrev GonsAt := LAt 3 EGon
theorem GonAt.keep {w w' : World} {S : Nat → Prop} {v : Value} {u : Gon} (h : GonAt w S v u) (hk : ∀ g, S g → w'.heap[g]? = w.heap[g]?) : GonAt w' S v u := by
  obtain ⟨f, h1, h2⟩ := h
  exact ⟨f, h1, keepsGon _ _ _ _ _ _ h2 hk (fun _ _ => rfl)⟩
theorem GonAt.mono {w : World} {S S' : Nat → Prop} {v : Value} {u : Gon} (h : GonAt w S v u) (hs : ∀ g, S g → S' g) : GonAt w S' v u := by
  obtain ⟨f, h1, h2⟩ := h
  exact ⟨f, h1, growsGon _ _ _ _ _ h2 hs⟩
theorem GonAt.below {w w' : World} {B : Nat} {S : Nat → Prop} {v : Value} {u : Gon} (h : GonAt w S v u) (hb : Below B w w') (hs : ∀ g, S g → g < B) : GonAt w' S v u := h.keep fun g hg => hb.block g (hs g hg)
def szGon (u : Gon) : Nat := 0
def FineGon (u : Gon) : Prop := I64 u.producer ∧ I64 u.first ∧ I64 u.last
theorem infoGon : (Try.prog.info? 46).map (·.size) = some 3 := by kernel_rfl
theorem infoZGon : (Try.prog.info? 46).map (fun i => (i.zero, i.size, i.bytes)) = some (some (.agg #[.int .i64 0, .int .i64 0, .int .i64 0]), 3, 24) := by kernel_rfl
set_option maxHeartbeats 1600000 in
theorem eqGone_any (v v' : Value) (u : Gon) (w : World) (S S' : Nat → Prop) (hv : GonAt w S v u) (hv' : GonAt w S' v' u) (hS : ∀ g, S g → g < w.heap.size) (hS' : ∀ g, S' g → g < w.heap.size) :
    Calls Try.prog 25 #[v, v'] w fun e w' => e = .returned (.bool true) ∧ Below w.heap.size w w' := by
  obtain ⟨f, rfl, y0, y1, y2⟩ := hv
  obtain ⟨f', rfl, y0', y1', y2'⟩ := hv'
  try simp only [arrGon]
  rw [show f 0 = _ from y0]
  clear y0
  rw [show f 1 = _ from y1]
  clear y1
  rw [show f 2 = _ from y2]
  clear y2
  try simp only [arrGon]
  rw [show f' 0 = _ from y0']
  clear y0'
  rw [show f' 1 = _ from y1']
  clear y1'
  rw [show f' 2 = _ from y2']
  clear y2'
  go_enter Try.func25, Try.ntmps25
  go_wp2
  go_ret
  exact ⟨rfl, below2 _ _ _⟩
end Go.Proofs.Ytidggillganafaa.Ls
namespace Go.Proofs.Ytidggillganafaa.SdQ
set_option maxRecDepth 8000
open Go.RowKit
open Ls
open Recs (Bat)
set_option linter.unusedVariables false
def mk (b : Bat) : Bool := decide (4 ≤ b.flags)
def op (b : Bat) : Bool := decide (b.flags / 2 % 2 = 1)
def key0 (b : Bat) : ByteArray := (b.recs.getD 0 default).key
def abort (b : Bat) : Bool := decide ((key0 b).toList = [97, 98, 111, 114, 116])
/-- Where a producer's transaction began, if one is open. -/
def fnd (p : Int) : List Gon → Option Int
  | [] => none
  | g :: r => if g.producer = p then some g.first else fnd p r
def del (p : Int) (l : List Gon) : List Gon := l.filter fun g => !decide (g.producer = p)
/-- One batch: what is open, and what was aborted. -/
def stp (s : List Gon × List Gon) (b : Bat) : List Gon × List Gon :=
  if mk b = true then
    match fnd b.producer s.1 with
    | none => s
    | some f => (del b.producer s.1, if abort b = true then s.2 ++ [⟨b.producer, f, b.base⟩] else s.2)
  else if (op b && (fnd b.producer s.1).isNone) = true then (s.1 ++ [⟨b.producer, b.base, 0⟩], s.2)
  else s
def runB (s : List Gon × List Gon) (l : List Bat) : List Gon × List Gon := l.foldl stp s
def least (n : Int) (l : List Gon) : Int := l.foldl (fun a g => min a g.first) n
theorem fnd_app (p : Int) : ∀ (l : List Gon) (g : Gon), fnd p (l ++ [g]) = (fnd p l).or (if g.producer = p then some g.first else none)
  | [], g => by simp [fnd]
  | x :: r, g => by
    simp only [List.cons_append, fnd]
    split
    · simp
    · exact fnd_app p r g
theorem fnd_del (p q : Int) : ∀ l : List Gon, fnd q (del p l) = if q = p then none else fnd q l
  | [] => by simp [del, fnd]
  | x :: r => by
    have ih := fnd_del p q r
    unfold del at ih ⊢
    by_cases h : x.producer = p
    · have e : ((x :: r).filter fun g => !decide (g.producer = p)) = r.filter fun g => !decide (g.producer = p) := by simp [h]
      rw [e, ih]
      by_cases hq : q = p
      · simp [hq]
      · simp only [hq, if_false, fnd]
        rw [if_neg (by rw [h]; exact fun e => hq e.symm)]
    · have e : ((x :: r).filter fun g => !decide (g.producer = p)) = x :: (r.filter fun g => !decide (g.producer = p)) := by simp [h]
      rw [e]
      simp only [fnd, ih]
      by_cases hq : q = p
      · simp only [hq, if_true]
        rw [if_neg h]
      · simp only [hq, if_false]
theorem del_none {p : Int} {l : List Gon} (h : fnd p l = none) : del p l = l := by
  unfold del
  rw [List.filter_eq_self]
  intro g hg
  induction l with
  | nil => cases hg
  | cons x r ih =>
    simp only [fnd] at h
    split at h
    · cases h
    · rename_i hx
      rcases List.mem_cons.1 hg with e | e
      · subst e; simp [hx]
      · exact ih h e
end Go.Proofs.Ytidggillganafaa.SdQ
