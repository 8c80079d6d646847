/- Right names and slots, on plain data. -/
import Derived.Test.YtfdfhhiaalbfiaaTpA
import Derived.Test.YtfdfhhiaalbfiaaTSlts
import Derived.Test.YtfdfhhiaalbfiaaLsT
namespace Go.Proofs.Ytfdfhhiaalbfiaa.WnP
set_option maxRecDepth 8000
open Go.RowKit
open Ls Lp
open TpP (sl aheadO)
open Recs (hsz below1 below2 chain)
set_option linter.unusedVariables false
def nmg : Option ByteArray → List ByteArray → Bool
  | _, [] => true
  | p, s :: r => (Nm.nameOk s && aheadO p s) && nmg (some s) r
def names (l : List ByteArray) : Bool := decide (l.length ≤ 20) && nmg none l
def pvs {T : Type} [Inhabited T] (l : List T) (k : Nat) : Option T := if k = 0 then none else some (l.getD (k - 1) default)
theorem pvs_next {T : Type} [Inhabited T] (l : List T) (k : Nat) : pvs l (k + 1) = some (l.getD k default) := by simp [pvs]
theorem pvs_zero {T : Type} [Inhabited T] (l : List T) : pvs l 0 = none := by simp [pvs]
theorem pvs_pos {T : Type} [Inhabited T] (l : List T) {k : Nat} (h : 0 < k) : pvs l k = some (l.getD (k - 1) default) := by simp only [pvs]; rw [if_neg (by omega)]
def ahd (a b : Slt) : Bool := sl a.topic b.topic || (decide (a.topic.toList = b.topic.toList) && decide (a.part < b.part))
def ahdO : Option Slt → Slt → Bool
  | none, _ => true
  | some a, b => ahd a b
def okS (s : Slt) : Bool := Nm.nameOk s.topic && inR 0 s.part 49
def slg : Option Slt → List Slt → Bool
  | _, [] => true
  | p, s :: r => (okS s && ahdO p s) && slg (some s) r
def slots (l : List Slt) : Bool := decide (l.length ≤ 400) && slg none l
def sameS (a b : Slt) : Bool := decide (a.topic.toList = b.topic.toList) && decide (a.part = b.part)
def isIn (l : List Slt) (s : Slt) : Bool := l.any (fun x => sameS x s)
theorem slt_cells {w : World} {S : Nat → Prop} {g o i : Nat} {t : Slt} {F : Nat → Value} (h : ∀ j, j < 2 → w.cell? ⟨g, o + i * 2 + j, none⟩ = some (F j)) (he : ESlt w S F t) : w.cell? ⟨g, o + i * 2, none⟩ = some (.string t.topic) ∧ w.cell? ⟨g, o + i * 2 + 1, none⟩ = some (.int .i64 t.part) := by
  obtain ⟨y0, y1⟩ := he
  exact ⟨by rw [← y0]; exact h 0 (by omega), by rw [← y1]; exact h 1 (by omega)⟩
end Go.Proofs.Ytfdfhhiaalbfiaa.WnP
