/-
  No cell of these rows narrows 'for every input' (looked for: loops, veiled, ifaces, maps, wideKeys, modest, calm, conditions, laid).
  DERIVED. THE GIVEN ROWS OF THIS SEAT. 5 by the template 'for every input the law returns true; each argument reads behind the call as it read before'; 0 by the template 'total and deterministic' (their statements: YtboooabjeidmfaaTotals.lean).
  GIVEN WITH THE SEED: the statements are not yours to turn. If you find one false, say at which input.
  Laid BY PROGRAM, IN A SANDBOX (cutbox-rows.mjs): the forced cells as the released guide's own fill.sh prints them over the translation 787dc35db1283aa0… (all of the seat's roots in one cut). By AI agents, Wed Nov 11 2026. No macro, syntax, notation, axiom, sorry.
-/
import Derived.Test.YtboooabjeidmfaaChecked
import GoSem.Claim
import GoSem.ClaimJoined
import GoSem.ClaimMapViews
import Derived.JoinedTies
import Derived.KernelRfl
namespace Go.Proofs.Ytboooabjeidmfaa
/- THE CELL 'sum', in the pinned program and in every row, IS THE sha256 OF THE DUMP (.gsa) THAT YtboooabjeidmfaaProg.lean LOADS. Nothing in Lean hashes anything: it is a label: what it is worth is what the hold of that sum in a sandbox is worth. -/
noncomputable def Try.pinned : Pinned := { name := "ytboooabjeidmfaa", sum := "787dc35db1283aa03f7bbd563f1b7b64aea6c235244255bec0ebde3f4290d9c3", checked := Try.checked }
namespace Rows
def none {H : Type} : Left H := { results := [], args := [] }

/-- 'laws.FnExactSourcesOk': WHATEVER THE INPUT: true; the input reads as it did. -/
def fnExactSourcesOkSpec : ChangeSpec := { name := "fnExactSourcesOk", fn := fun _ => fun
  | [d] => { results := [.lit (.bool true)], args := [d] }
  | _ => none }
def fnExactSourcesOkRow : OpenClaim := { program := "ytboooabjeidmfaa", sum := "787dc35db1283aa03f7bbd563f1b7b64aea6c235244255bec0ebde3f4290d9c3", func := "loop.example/g00035/laws.FnExactSourcesOk", spec := "fnExactSourcesOk", apart := false }
def FnExactSourcesOkSaid : Prop := fnExactSourcesOkRow.holds Try.pinned (OpenSpec.ofChange fnExactSourcesOkSpec)

/-- ITS FALSE NEIGHBOUR: 'it returns false'. Refute it at one input. -/
def fnExactSourcesOkWrong : ChangeSpec := { name := "fnExactSourcesOk", fn := fun _ => fun
  | [d] => { results := [.lit (.bool false)], args := [d] }
  | _ => none }
def FnExactSourcesOkWrongFalsely : Prop := fnExactSourcesOkRow.holds Try.pinned (OpenSpec.ofChange fnExactSourcesOkWrong)

/-- 'laws.FnExactQueryOk': WHATEVER THE INPUT: true; the input reads as it did. -/
def fnExactQueryOkSpec : ChangeSpec := { name := "fnExactQueryOk", fn := fun _ => fun
  | [d] => { results := [.lit (.bool true)], args := [d] }
  | _ => none }
def fnExactQueryOkRow : OpenClaim := { program := "ytboooabjeidmfaa", sum := "787dc35db1283aa03f7bbd563f1b7b64aea6c235244255bec0ebde3f4290d9c3", func := "loop.example/g00035/laws.FnExactQueryOk", spec := "fnExactQueryOk", apart := false }
def FnExactQueryOkSaid : Prop := fnExactQueryOkRow.holds Try.pinned (OpenSpec.ofChange fnExactQueryOkSpec)

/-- ITS FALSE NEIGHBOUR: 'it returns false'. Refute it at one input. -/
def fnExactQueryOkWrong : ChangeSpec := { name := "fnExactQueryOk", fn := fun _ => fun
  | [d] => { results := [.lit (.bool false)], args := [d] }
  | _ => none }
def FnExactQueryOkWrongFalsely : Prop := fnExactQueryOkRow.holds Try.pinned (OpenSpec.ofChange fnExactQueryOkWrong)

/-- 'laws.FnExactReckon': WHATEVER THE INPUT: true; the input reads as it did. -/
def fnExactReckonSpec : ChangeSpec := { name := "fnExactReckon", fn := fun _ => fun
  | [d1, d2, d3] => { results := [.lit (.bool true)], args := [d1, d2, d3] }
  | _ => none }
def fnExactReckonRow : OpenClaim := { program := "ytboooabjeidmfaa", sum := "787dc35db1283aa03f7bbd563f1b7b64aea6c235244255bec0ebde3f4290d9c3", func := "loop.example/g00035/laws.FnExactReckon", spec := "fnExactReckon", unfollowed := true, recurses := true, apart := false }
def FnExactReckonSaid : Prop := fnExactReckonRow.holds Try.pinned (OpenSpec.ofChange fnExactReckonSpec)

/-- ITS FALSE NEIGHBOUR: 'it returns false'. Refute it at one input. -/
def fnExactReckonWrong : ChangeSpec := { name := "fnExactReckon", fn := fun _ => fun
  | [d1, d2, d3] => { results := [.lit (.bool false)], args := [d1, d2, d3] }
  | _ => none }
def FnExactReckonWrongFalsely : Prop := fnExactReckonRow.holds Try.pinned (OpenSpec.ofChange fnExactReckonWrong)

/-- 'laws.FnExactInside': WHATEVER THE INPUT: true; the input reads as it did. -/
def fnExactInsideSpec : ChangeSpec := { name := "fnExactInside", fn := fun _ => fun
  | [d1, d2] => { results := [.lit (.bool true)], args := [d1, d2] }
  | _ => none }
def fnExactInsideRow : OpenClaim := { program := "ytboooabjeidmfaa", sum := "787dc35db1283aa03f7bbd563f1b7b64aea6c235244255bec0ebde3f4290d9c3", func := "loop.example/g00035/laws.FnExactInside", spec := "fnExactInside", apart := false }
def FnExactInsideSaid : Prop := fnExactInsideRow.holds Try.pinned (OpenSpec.ofChange fnExactInsideSpec)

/-- ITS FALSE NEIGHBOUR: 'it returns false'. Refute it at one input. -/
def fnExactInsideWrong : ChangeSpec := { name := "fnExactInside", fn := fun _ => fun
  | [d1, d2] => { results := [.lit (.bool false)], args := [d1, d2] }
  | _ => none }
def FnExactInsideWrongFalsely : Prop := fnExactInsideRow.holds Try.pinned (OpenSpec.ofChange fnExactInsideWrong)

/-- 'laws.FnExactOutside': WHATEVER THE INPUT: true; the input reads as it did. -/
def fnExactOutsideSpec : ChangeSpec := { name := "fnExactOutside", fn := fun _ => fun
  | [d1, d2] => { results := [.lit (.bool true)], args := [d1, d2] }
  | _ => none }
def fnExactOutsideRow : OpenClaim := { program := "ytboooabjeidmfaa", sum := "787dc35db1283aa03f7bbd563f1b7b64aea6c235244255bec0ebde3f4290d9c3", func := "loop.example/g00035/laws.FnExactOutside", spec := "fnExactOutside", apart := false }
def FnExactOutsideSaid : Prop := fnExactOutsideRow.holds Try.pinned (OpenSpec.ofChange fnExactOutsideSpec)

/-- ITS FALSE NEIGHBOUR: 'it returns false'. Refute it at one input. -/
def fnExactOutsideWrong : ChangeSpec := { name := "fnExactOutside", fn := fun _ => fun
  | [d1, d2] => { results := [.lit (.bool false)], args := [d1, d2] }
  | _ => none }
def FnExactOutsideWrongFalsely : Prop := fnExactOutsideRow.holds Try.pinned (OpenSpec.ofChange fnExactOutsideWrong)

/- THE SECOND FORM. 'bulk': how many values and letters a reading holds, each counted each time it is reached (what is shared counts as often as it is met; a slice's spare places count too). A statement '..UptoSaid' is the law's where the arguments, and the package variables that the reading takes, are together of bulk at most 1048576: NARROWER than '..Said'. Prove '..Said' where nothing that the law and all that it calls make is longer than what came in: it says more and counts as full. Else prove '..UptoSaid'. A law counts once. -/
mutual
def uptoBulk {H : Type} : DataW H → Nat
  | .lit (.string bytes) => bytes.length + 1
  | .lit _ => 1
  | .nil => 1
  | .ptr d => uptoBulk d + 1
  | .slice elems spare => uptoBulkAll elems + uptoBulkAll spare + 1
  | .agg parts => uptoBulkAll parts + 1
  | .iface _ d => uptoBulk d + 1
  | .map entries => uptoBulkEntries entries + 1
  | .held _ => 1
def uptoBulkAll {H : Type} : List (DataW H) → Nat
  | [] => 0
  | d :: r => uptoBulk d + uptoBulkAll r
def uptoBulkEntries {H : Type} : List (Lit × DataW H) → Nat
  | [] => 0
  | x :: r => uptoBulkEntry x + uptoBulkEntries r
def uptoBulkEntry {H : Type} : Lit × DataW H → Nat
  | (.string bytes, d) => bytes.length + uptoBulk d + 1
  | (_, d) => uptoBulk d + 1
 end
def uptoSmall : (H : Type) → List (DataW H) → Bool := fun _ ds => decide (uptoBulkAll ds ≤ 1048576)
def OpenSpec.upto (s : _root_.Go.ChangeSpec) : _root_.Go.OpenSpec := { _root_.Go.OpenSpec.ofChange s with cond := some uptoSmall }

/-- 'laws.FnExactSourcesOk', WHERE WHAT IT READS IS OF BULK AT MOST 1048576: true; the input reads as it did. -/
def fnExactSourcesOkUptoRow : OpenClaim := { program := "ytboooabjeidmfaa", sum := "787dc35db1283aa03f7bbd563f1b7b64aea6c235244255bec0ebde3f4290d9c3", func := "loop.example/g00035/laws.FnExactSourcesOk", spec := "fnExactSourcesOk", apart := false, narrowed := true }
def FnExactSourcesOkUptoSaid : Prop := fnExactSourcesOkUptoRow.holds Try.pinned (OpenSpec.upto fnExactSourcesOkSpec)

/-- 'laws.FnExactQueryOk', WHERE WHAT IT READS IS OF BULK AT MOST 1048576: true; the input reads as it did. -/
def fnExactQueryOkUptoRow : OpenClaim := { program := "ytboooabjeidmfaa", sum := "787dc35db1283aa03f7bbd563f1b7b64aea6c235244255bec0ebde3f4290d9c3", func := "loop.example/g00035/laws.FnExactQueryOk", spec := "fnExactQueryOk", apart := false, narrowed := true }
def FnExactQueryOkUptoSaid : Prop := fnExactQueryOkUptoRow.holds Try.pinned (OpenSpec.upto fnExactQueryOkSpec)

/-- 'laws.FnExactReckon', WHERE WHAT IT READS IS OF BULK AT MOST 1048576: true; the input reads as it did. -/
def fnExactReckonUptoRow : OpenClaim := { program := "ytboooabjeidmfaa", sum := "787dc35db1283aa03f7bbd563f1b7b64aea6c235244255bec0ebde3f4290d9c3", func := "loop.example/g00035/laws.FnExactReckon", spec := "fnExactReckon", unfollowed := true, recurses := true, apart := false, narrowed := true }
def FnExactReckonUptoSaid : Prop := fnExactReckonUptoRow.holds Try.pinned (OpenSpec.upto fnExactReckonSpec)

/-- 'laws.FnExactInside', WHERE WHAT IT READS IS OF BULK AT MOST 1048576: true; the input reads as it did. -/
def fnExactInsideUptoRow : OpenClaim := { program := "ytboooabjeidmfaa", sum := "787dc35db1283aa03f7bbd563f1b7b64aea6c235244255bec0ebde3f4290d9c3", func := "loop.example/g00035/laws.FnExactInside", spec := "fnExactInside", apart := false, narrowed := true }
def FnExactInsideUptoSaid : Prop := fnExactInsideUptoRow.holds Try.pinned (OpenSpec.upto fnExactInsideSpec)

/-- 'laws.FnExactOutside', WHERE WHAT IT READS IS OF BULK AT MOST 1048576: true; the input reads as it did. -/
def fnExactOutsideUptoRow : OpenClaim := { program := "ytboooabjeidmfaa", sum := "787dc35db1283aa03f7bbd563f1b7b64aea6c235244255bec0ebde3f4290d9c3", func := "loop.example/g00035/laws.FnExactOutside", spec := "fnExactOutside", apart := false, narrowed := true }
def FnExactOutsideUptoSaid : Prop := fnExactOutsideUptoRow.holds Try.pinned (OpenSpec.upto fnExactOutsideSpec)

end Rows
end Go.Proofs.Ytboooabjeidmfaa
