/- What rules allow, on plain data. -/
import Derived.Test.YtoaobifhiddpkaaRuP
namespace Go.Proofs.Ytoaobifhiddpkaa.AlP
set_option maxRecDepth 8000
open Go.RowKit
open Ls Lp RuP
set_option linter.unusedVariables false
def askOk (l : List Rul) (who : ByteArray) (may on : Int) (name : ByteArray) : Bool := (decide (l.length = 0) || !((text l).toList == [])) && (Nm.nameOk who && (Nm.nameOk name && (inR 1 may 3 && inR 1 on 2)))
def forWho (r : Rul) (who : ByteArray) : Bool := (r.who.toList == [42]) || (r.who.toList == who.toList)
def forMay (r : Rul) (may : Int) : Bool := (r.may == 4) || (r.may == may)
def pre (a b : ByteArray) : Bool := decide (a.size ≤ b.size) && ((b.extract 0 a.size).toList == a.toList)
def forName (r : Rul) (name : ByteArray) : Bool := (r.name.toList == name.toList) || (r.begins && pre r.name name)
def fits (r : Rul) (who : ByteArray) (may on : Int) (name : ByteArray) : Bool := (forWho r who && (forMay r may && (r.on == on))) && forName r name
def run (who : ByteArray) (may on : Int) (name : ByteArray) : List Rul → Bool → Bool
  | [], yes => yes
  | r :: l, yes => if fits r who may on name = true then (if r.deny = true then false else run who may on name l true) else run who may on name l yes
def allowed (l : List Rul) (who : ByteArray) (may on : Int) (name : ByteArray) : Bool := askOk l who may on name && run who may on name l false
theorem run_step {who : ByteArray} {may on : Int} {name : ByteArray} {l : List Rul} {k : Nat} (h : k < l.length) (y : Bool) : run who may on name (l.drop k) y = if fits (l.getD k default) who may on name = true then (if (l.getD k default).deny = true then false else run who may on name (l.drop (k + 1)) true) else run who may on name (l.drop (k + 1)) y := by
  rw [drop_cons h]; rfl
end Go.Proofs.Ytoaobifhiddpkaa.AlP
