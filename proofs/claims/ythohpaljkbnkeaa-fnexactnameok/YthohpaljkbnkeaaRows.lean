/-
  No cell of these rows narrows 'for every input' (looked for: loops, veiled, ifaces, maps, wideKeys, modest, calm, conditions, laid).
  DERIVED. THE GIVEN ROWS OF THIS SEAT. 6 by the template 'for every input the law returns true; each argument reads behind the call as it read before'; 0 by the template 'total and deterministic' (their statements: YthohpaljkbnkeaaTotals.lean).
  GIVEN WITH THE SEED: the statements are not yours to turn. If you find one false, say at which input.
  Laid BY PROGRAM, IN A SANDBOX (cutbox-rows.mjs): the forced cells as the released guide's own fill.sh prints them over the translation be02daa7fc799168… (all of the seat's roots in one cut). By AI agents, Wed Nov 11 2026. No macro, syntax, notation, axiom, sorry.
-/
import Derived.Test.YthohpaljkbnkeaaChecked
import GoSem.Claim
import GoSem.ClaimJoined
import GoSem.ClaimMapViews
import Derived.JoinedTies
import Derived.KernelRfl
namespace Go.Proofs.Ythohpaljkbnkeaa
/- THE CELL 'sum', in the pinned program and in every row, IS THE sha256 OF THE DUMP (.gsa) THAT YthohpaljkbnkeaaProg.lean LOADS. Nothing in Lean hashes anything: it is a label: what it is worth is what the hold of that sum in a sandbox is worth. -/
noncomputable def Try.pinned : Pinned := { name := "ythohpaljkbnkeaa", sum := "be02daa7fc7991682597c116643e43e625459cd1e9e987779e794557c2b79a6f", checked := Try.checked }
namespace Rows
def none {H : Type} : Left H := { results := [], args := [] }

/-- 'laws.FnExactNameOk': WHATEVER THE INPUT: true; the input reads as it did. -/
def fnExactNameOkSpec : ChangeSpec := { name := "fnExactNameOk", fn := fun _ => fun
  | [d] => { results := [.lit (.bool true)], args := [d] }
  | _ => none }
def fnExactNameOkRow : OpenClaim := { program := "ythohpaljkbnkeaa", sum := "be02daa7fc7991682597c116643e43e625459cd1e9e987779e794557c2b79a6f", func := "loop.example/g00035/laws.FnExactNameOk", spec := "fnExactNameOk", plainKeys := false, apart := false }
def FnExactNameOkSaid : Prop := fnExactNameOkRow.holds Try.pinned (OpenSpec.ofChange fnExactNameOkSpec)

/-- ITS FALSE NEIGHBOUR: 'it returns false'. Refute it at one input. -/
def fnExactNameOkWrong : ChangeSpec := { name := "fnExactNameOk", fn := fun _ => fun
  | [d] => { results := [.lit (.bool false)], args := [d] }
  | _ => none }
def FnExactNameOkWrongFalsely : Prop := fnExactNameOkRow.holds Try.pinned (OpenSpec.ofChange fnExactNameOkWrong)

/-- 'laws.FnExactTopicsOk': WHATEVER THE INPUT: true; the input reads as it did. -/
def fnExactTopicsOkSpec : ChangeSpec := { name := "fnExactTopicsOk", fn := fun _ => fun
  | [d] => { results := [.lit (.bool true)], args := [d] }
  | _ => none }
def fnExactTopicsOkRow : OpenClaim := { program := "ythohpaljkbnkeaa", sum := "be02daa7fc7991682597c116643e43e625459cd1e9e987779e794557c2b79a6f", func := "loop.example/g00035/laws.FnExactTopicsOk", spec := "fnExactTopicsOk", inPlace := ["internal/bytealg.abigen_runtime_cmpstring"], unfollowed := true, recurses := true, plainKeys := false, apart := false }
def FnExactTopicsOkSaid : Prop := fnExactTopicsOkRow.holds Try.pinned (OpenSpec.ofChange fnExactTopicsOkSpec)

/-- ITS FALSE NEIGHBOUR: 'it returns false'. Refute it at one input. -/
def fnExactTopicsOkWrong : ChangeSpec := { name := "fnExactTopicsOk", fn := fun _ => fun
  | [d] => { results := [.lit (.bool false)], args := [d] }
  | _ => none }
def FnExactTopicsOkWrongFalsely : Prop := fnExactTopicsOkRow.holds Try.pinned (OpenSpec.ofChange fnExactTopicsOkWrong)

/-- 'laws.FnExactWantsOk': WHATEVER THE INPUT: true; the input reads as it did. -/
def fnExactWantsOkSpec : ChangeSpec := { name := "fnExactWantsOk", fn := fun _ => fun
  | [d] => { results := [.lit (.bool true)], args := [d] }
  | _ => none }
def fnExactWantsOkRow : OpenClaim := { program := "ythohpaljkbnkeaa", sum := "be02daa7fc7991682597c116643e43e625459cd1e9e987779e794557c2b79a6f", func := "loop.example/g00035/laws.FnExactWantsOk", spec := "fnExactWantsOk", inPlace := ["internal/bytealg.abigen_runtime_cmpstring"], unfollowed := true, recurses := true, plainKeys := false, apart := false }
def FnExactWantsOkSaid : Prop := fnExactWantsOkRow.holds Try.pinned (OpenSpec.ofChange fnExactWantsOkSpec)

/-- ITS FALSE NEIGHBOUR: 'it returns false'. Refute it at one input. -/
def fnExactWantsOkWrong : ChangeSpec := { name := "fnExactWantsOk", fn := fun _ => fun
  | [d] => { results := [.lit (.bool false)], args := [d] }
  | _ => none }
def FnExactWantsOkWrongFalsely : Prop := fnExactWantsOkRow.holds Try.pinned (OpenSpec.ofChange fnExactWantsOkWrong)

/-- 'laws.FnExactSchemaOk': WHATEVER THE INPUT: true; the input reads as it did. -/
def fnExactSchemaOkSpec : ChangeSpec := { name := "fnExactSchemaOk", fn := fun _ => fun
  | [d] => { results := [.lit (.bool true)], args := [d] }
  | _ => none }
def fnExactSchemaOkRow : OpenClaim := { program := "ythohpaljkbnkeaa", sum := "be02daa7fc7991682597c116643e43e625459cd1e9e987779e794557c2b79a6f", func := "loop.example/g00035/laws.FnExactSchemaOk", spec := "fnExactSchemaOk", unfollowed := true, recurses := true, plainKeys := false, apart := false }
def FnExactSchemaOkSaid : Prop := fnExactSchemaOkRow.holds Try.pinned (OpenSpec.ofChange fnExactSchemaOkSpec)

/-- ITS FALSE NEIGHBOUR: 'it returns false'. Refute it at one input. -/
def fnExactSchemaOkWrong : ChangeSpec := { name := "fnExactSchemaOk", fn := fun _ => fun
  | [d] => { results := [.lit (.bool false)], args := [d] }
  | _ => none }
def FnExactSchemaOkWrongFalsely : Prop := fnExactSchemaOkRow.holds Try.pinned (OpenSpec.ofChange fnExactSchemaOkWrong)

/-- 'laws.FnExactFits': WHATEVER THE INPUT: true; the input reads as it did. -/
def fnExactFitsSpec : ChangeSpec := { name := "fnExactFits", fn := fun _ => fun
  | [d1, d2, d3] => { results := [.lit (.bool true)], args := [d1, d2, d3] }
  | _ => none }
def fnExactFitsRow : OpenClaim := { program := "ythohpaljkbnkeaa", sum := "be02daa7fc7991682597c116643e43e625459cd1e9e987779e794557c2b79a6f", func := "loop.example/g00035/laws.FnExactFits", spec := "fnExactFits", unfollowed := true, recurses := true, plainKeys := false, apart := false }
def FnExactFitsSaid : Prop := fnExactFitsRow.holds Try.pinned (OpenSpec.ofChange fnExactFitsSpec)

/-- ITS FALSE NEIGHBOUR: 'it returns false'. Refute it at one input. -/
def fnExactFitsWrong : ChangeSpec := { name := "fnExactFits", fn := fun _ => fun
  | [d1, d2, d3] => { results := [.lit (.bool false)], args := [d1, d2, d3] }
  | _ => none }
def FnExactFitsWrongFalsely : Prop := fnExactFitsRow.holds Try.pinned (OpenSpec.ofChange fnExactFitsWrong)

/-- 'laws.FnExactCanRead': WHATEVER THE INPUT: true; the input reads as it did. -/
def fnExactCanReadSpec : ChangeSpec := { name := "fnExactCanRead", fn := fun _ => fun
  | [d1, d2] => { results := [.lit (.bool true)], args := [d1, d2] }
  | _ => none }
def fnExactCanReadRow : OpenClaim := { program := "ythohpaljkbnkeaa", sum := "be02daa7fc7991682597c116643e43e625459cd1e9e987779e794557c2b79a6f", func := "loop.example/g00035/laws.FnExactCanRead", spec := "fnExactCanRead", unfollowed := true, recurses := true, plainKeys := false, apart := false }
def FnExactCanReadSaid : Prop := fnExactCanReadRow.holds Try.pinned (OpenSpec.ofChange fnExactCanReadSpec)

/-- ITS FALSE NEIGHBOUR: 'it returns false'. Refute it at one input. -/
def fnExactCanReadWrong : ChangeSpec := { name := "fnExactCanRead", fn := fun _ => fun
  | [d1, d2] => { results := [.lit (.bool false)], args := [d1, d2] }
  | _ => none }
def FnExactCanReadWrongFalsely : Prop := fnExactCanReadRow.holds Try.pinned (OpenSpec.ofChange fnExactCanReadWrong)

/- THE SECOND FORM. 'bulk': how many values and letters a reading holds, each counted each time it is reached (what is shared counts as often as it is met; a slice's spare places count too). A statement '..UptoSaid' is the law's where the arguments, and the package variables that the reading takes, are together of bulk at most 1048576: NARROWER than '..Said'. Prove '..Said' where nothing that the law and all that it calls make is longer than what came in: it says more and counts as full. Else prove '..UptoSaid'. A law counts once. -/
mutual
def uptoBulk {H : Type} : DataW H → Nat
  | .lit (.string bytes) => bytes.length + 1
  | .lit _ => 1
  | .nil => 1
  | .ptr d => uptoBulk d + 1
  | .slice elems spare => uptoBulkAll elems + uptoBulkAll spare + 1
  | .agg parts => uptoBulkAll parts + 1
  | .iface _ d => uptoBulk d + 1
  | .map entries => uptoBulkEntries entries + 1
  | .held _ => 1
def uptoBulkAll {H : Type} : List (DataW H) → Nat
  | [] => 0
  | d :: r => uptoBulk d + uptoBulkAll r
def uptoBulkEntries {H : Type} : List (Lit × DataW H) → Nat
  | [] => 0
  | x :: r => uptoBulkEntry x + uptoBulkEntries r
def uptoBulkEntry {H : Type} : Lit × DataW H → Nat
  | (.string bytes, d) => bytes.length + uptoBulk d + 1
  | (_, d) => uptoBulk d + 1
 end
def uptoSmall : (H : Type) → List (DataW H) → Bool := fun _ ds => decide (uptoBulkAll ds ≤ 1048576)
def OpenSpec.upto (s : _root_.Go.ChangeSpec) : _root_.Go.OpenSpec := { _root_.Go.OpenSpec.ofChange s with cond := some uptoSmall }

/-- 'laws.FnExactNameOk', WHERE WHAT IT READS IS OF BULK AT MOST 1048576: true; the input reads as it did. -/
def fnExactNameOkUptoRow : OpenClaim := { program := "ythohpaljkbnkeaa", sum := "be02daa7fc7991682597c116643e43e625459cd1e9e987779e794557c2b79a6f", func := "loop.example/g00035/laws.FnExactNameOk", spec := "fnExactNameOk", plainKeys := false, apart := false, narrowed := true }
def FnExactNameOkUptoSaid : Prop := fnExactNameOkUptoRow.holds Try.pinned (OpenSpec.upto fnExactNameOkSpec)

/-- 'laws.FnExactTopicsOk', WHERE WHAT IT READS IS OF BULK AT MOST 1048576: true; the input reads as it did. -/
def fnExactTopicsOkUptoRow : OpenClaim := { program := "ythohpaljkbnkeaa", sum := "be02daa7fc7991682597c116643e43e625459cd1e9e987779e794557c2b79a6f", func := "loop.example/g00035/laws.FnExactTopicsOk", spec := "fnExactTopicsOk", inPlace := ["internal/bytealg.abigen_runtime_cmpstring"], unfollowed := true, recurses := true, plainKeys := false, apart := false, narrowed := true }
def FnExactTopicsOkUptoSaid : Prop := fnExactTopicsOkUptoRow.holds Try.pinned (OpenSpec.upto fnExactTopicsOkSpec)

/-- 'laws.FnExactWantsOk', WHERE WHAT IT READS IS OF BULK AT MOST 1048576: true; the input reads as it did. -/
def fnExactWantsOkUptoRow : OpenClaim := { program := "ythohpaljkbnkeaa", sum := "be02daa7fc7991682597c116643e43e625459cd1e9e987779e794557c2b79a6f", func := "loop.example/g00035/laws.FnExactWantsOk", spec := "fnExactWantsOk", inPlace := ["internal/bytealg.abigen_runtime_cmpstring"], unfollowed := true, recurses := true, plainKeys := false, apart := false, narrowed := true }
def FnExactWantsOkUptoSaid : Prop := fnExactWantsOkUptoRow.holds Try.pinned (OpenSpec.upto fnExactWantsOkSpec)

/-- 'laws.FnExactSchemaOk', WHERE WHAT IT READS IS OF BULK AT MOST 1048576: true; the input reads as it did. -/
def fnExactSchemaOkUptoRow : OpenClaim := { program := "ythohpaljkbnkeaa", sum := "be02daa7fc7991682597c116643e43e625459cd1e9e987779e794557c2b79a6f", func := "loop.example/g00035/laws.FnExactSchemaOk", spec := "fnExactSchemaOk", unfollowed := true, recurses := true, plainKeys := false, apart := false, narrowed := true }
def FnExactSchemaOkUptoSaid : Prop := fnExactSchemaOkUptoRow.holds Try.pinned (OpenSpec.upto fnExactSchemaOkSpec)

/-- 'laws.FnExactFits', WHERE WHAT IT READS IS OF BULK AT MOST 1048576: true; the input reads as it did. -/
def fnExactFitsUptoRow : OpenClaim := { program := "ythohpaljkbnkeaa", sum := "be02daa7fc7991682597c116643e43e625459cd1e9e987779e794557c2b79a6f", func := "loop.example/g00035/laws.FnExactFits", spec := "fnExactFits", unfollowed := true, recurses := true, plainKeys := false, apart := false, narrowed := true }
def FnExactFitsUptoSaid : Prop := fnExactFitsUptoRow.holds Try.pinned (OpenSpec.upto fnExactFitsSpec)

/-- 'laws.FnExactCanRead', WHERE WHAT IT READS IS OF BULK AT MOST 1048576: true; the input reads as it did. -/
def fnExactCanReadUptoRow : OpenClaim := { program := "ythohpaljkbnkeaa", sum := "be02daa7fc7991682597c116643e43e625459cd1e9e987779e794557c2b79a6f", func := "loop.example/g00035/laws.FnExactCanRead", spec := "fnExactCanRead", unfollowed := true, recurses := true, plainKeys := false, apart := false, narrowed := true }
def FnExactCanReadUptoSaid : Prop := fnExactCanReadUptoRow.holds Try.pinned (OpenSpec.upto fnExactCanReadSpec)

end Rows
end Go.Proofs.Ythohpaljkbnkeaa
