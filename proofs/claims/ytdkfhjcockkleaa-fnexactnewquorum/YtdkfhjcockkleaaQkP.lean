/- A right quorum, on plain data. -/
import Derived.Test.YtdkfhjcockkleaaTQrm
namespace Go.Proofs.Ytdkfhjcockkleaa.QkP
set_option maxRecDepth 8000
open Go.RowKit
open Ls
set_option linter.unusedVariables false
def inR (lo x hi : Int) : Bool := decide (lo ≤ x) && decide (x ≤ hi)
def asc (most : Int) : Int → List Int → Bool
  | _, [] => true
  | a, n :: r => inR (a + 1) n most && asc most n r
def allIn (most : Int) : List Int → Bool
  | [] => true
  | n :: r => inR 0 n most && allIn most r
def terms (hi : Int) : Int → List Cmd → Bool
  | _, [] => true
  | lo, c :: r => inR lo c.term hi && terms hi c.term r
def texts : List Cmd → Bool
  | [] => true
  | c :: r => decide (c.text.size ≤ 100) && texts r
def both (hi : Int) : Int → List Cmd → Bool
  | _, [] => true
  | lo, c :: r => (inR lo c.term hi && decide (c.text.size ≤ 100)) && both hi c.term r
def nums (ns : List Int) (n most : Int) : Bool := allIn most ns && decide ((ns.length : Int) = n)
def cmds (cs : List Cmd) : Bool := texts cs && decide (cs.length ≤ 200)
def first (n : Int) (v : Vtr) : Bool := inR 0 v.term 1000000000000 && (inR (-1) v.vote (n - 1) && inR 0 v.role 2)
def second (n : Int) (v : Vtr) : Bool := asc (n - 1) (-1) v.votes && (cmds v.log && (terms v.term 0 v.log && inR 0 v.sealed v.log.length))
def third (n : Int) (v : Vtr) : Bool := if v.role = 2 then nums v.next n v.log.length && nums v.mtch n v.log.length else decide (v.next.length = 0) && decide (v.mtch.length = 0)
def voter (n : Int) (v : Vtr) : Bool := first n v && (second n v && third n v)
def voters (n : Int) : List Vtr → Bool
  | [] => true
  | v :: r => voter n v && voters n r
def net : List Msg → Bool
  | [] => true
  | m :: r => cmds m.cmds && net r
def quorum (q : Qrm) : Bool := (inR 1 q.voters.length 5 && decide (q.net.length ≤ 400)) && (voters q.voters.length q.voters && net q.net)
theorem drop_cons {T : Type} [Inhabited T] {l : List T} {k : Nat} (h : k < l.length) : l.drop k = l.getD k default :: l.drop (k + 1) := by
  rw [List.drop_eq_getElem_cons h]; simp [h]
theorem both_eq (hi : Int) : ∀ (lo : Int) (cs : List Cmd), both hi lo cs = (terms hi lo cs && texts cs)
  | lo, [] => rfl
  | lo, c :: r => by
    simp only [both, terms, texts, both_eq hi c.term r]
    cases inR lo c.term hi <;> cases decide (c.text.size ≤ 100) <;> cases terms hi c.term r <;> rfl
end Go.Proofs.Ytdkfhjcockkleaa.QkP
