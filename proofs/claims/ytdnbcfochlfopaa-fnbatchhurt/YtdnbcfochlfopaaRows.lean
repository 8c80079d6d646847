/-
  No cell of these rows narrows 'for every input' (looked for: loops, veiled, ifaces, maps, wideKeys, modest, calm, conditions, laid).
  DERIVED. THE GIVEN ROWS OF THIS SEAT. 5 by the template 'for every input the law returns true; each argument reads behind the call as it read before'; 0 by the template 'total and deterministic' (their statements: YtdnbcfochlfopaaTotals.lean).
  GIVEN WITH THE SEED: the statements are not yours to turn. If you find one false, say at which input.
  Laid BY PROGRAM, IN A SANDBOX (cutbox-rows.mjs): the forced cells as the released guide's own fill.sh prints them over the translation 791ce2b9c096f230… (all of the seat's roots in one cut). By AI agents, Wed Nov 11 2026. No macro, syntax, notation, axiom, sorry.
-/
import Derived.Test.YtdnbcfochlfopaaChecked
import GoSem.Claim
import GoSem.ClaimJoined
import GoSem.ClaimMapViews
import Derived.JoinedTies
import Derived.KernelRfl
namespace Go.Proofs.Ytdnbcfochlfopaa
/- THE CELL 'sum', in the pinned program and in every row, IS THE sha256 OF THE DUMP (.gsa) THAT YtdnbcfochlfopaaProg.lean LOADS. Nothing in Lean hashes anything: it is a label: what it is worth is what the hold of that sum in a sandbox is worth. -/
noncomputable def Try.pinned : Pinned := { name := "ytdnbcfochlfopaa", sum := "791ce2b9c096f230111ee47c53217d0138c92e9882036feb83bae48b6285717a", checked := Try.checked }
namespace Rows
def none {H : Type} : Left H := { results := [], args := [] }

/-- 'laws.FnBatchBack': WHATEVER THE INPUT: true; the input reads as it did. -/
def fnBatchBackSpec : ChangeSpec := { name := "fnBatchBack", fn := fun _ => fun
  | [d] => { results := [.lit (.bool true)], args := [d] }
  | _ => none }
def fnBatchBackRow : OpenClaim := { program := "ytdnbcfochlfopaa", sum := "791ce2b9c096f230111ee47c53217d0138c92e9882036feb83bae48b6285717a", func := "loop.example/g00035/laws.FnBatchBack", spec := "fnBatchBack", unfollowed := true, recurses := true, plainKeys := false, apart := false }
def FnBatchBackSaid : Prop := fnBatchBackRow.holds Try.pinned (OpenSpec.ofChange fnBatchBackSpec)

/-- ITS FALSE NEIGHBOUR: 'it returns false'. Refute it at one input. -/
def fnBatchBackWrong : ChangeSpec := { name := "fnBatchBack", fn := fun _ => fun
  | [d] => { results := [.lit (.bool false)], args := [d] }
  | _ => none }
def FnBatchBackWrongFalsely : Prop := fnBatchBackRow.holds Try.pinned (OpenSpec.ofChange fnBatchBackWrong)

/-- 'laws.FnBatchHurt': WHATEVER THE INPUT: true; the input reads as it did. -/
def fnBatchHurtSpec : ChangeSpec := { name := "fnBatchHurt", fn := fun _ => fun
  | [d1, d2] => { results := [.lit (.bool true)], args := [d1, d2] }
  | _ => none }
def fnBatchHurtRow : OpenClaim := { program := "ytdnbcfochlfopaa", sum := "791ce2b9c096f230111ee47c53217d0138c92e9882036feb83bae48b6285717a", func := "loop.example/g00035/laws.FnBatchHurt", spec := "fnBatchHurt", unfollowed := true, recurses := true, plainKeys := false, apart := false }
def FnBatchHurtSaid : Prop := fnBatchHurtRow.holds Try.pinned (OpenSpec.ofChange fnBatchHurtSpec)

/-- ITS FALSE NEIGHBOUR: 'it returns false'. Refute it at one input. -/
def fnBatchHurtWrong : ChangeSpec := { name := "fnBatchHurt", fn := fun _ => fun
  | [d1, d2] => { results := [.lit (.bool false)], args := [d1, d2] }
  | _ => none }
def FnBatchHurtWrongFalsely : Prop := fnBatchHurtRow.holds Try.pinned (OpenSpec.ofChange fnBatchHurtWrong)

/-- 'laws.FnExactWriteBatch': WHATEVER THE INPUT: true; the input reads as it did. -/
def fnExactWriteBatchSpec : ChangeSpec := { name := "fnExactWriteBatch", fn := fun _ => fun
  | [d1, d2] => { results := [.lit (.bool true)], args := [d1, d2] }
  | _ => none }
def fnExactWriteBatchRow : OpenClaim := { program := "ytdnbcfochlfopaa", sum := "791ce2b9c096f230111ee47c53217d0138c92e9882036feb83bae48b6285717a", func := "loop.example/g00035/laws.FnExactWriteBatch", spec := "fnExactWriteBatch", plainKeys := false, apart := false }
def FnExactWriteBatchSaid : Prop := fnExactWriteBatchRow.holds Try.pinned (OpenSpec.ofChange fnExactWriteBatchSpec)

/-- ITS FALSE NEIGHBOUR: 'it returns false'. Refute it at one input. -/
def fnExactWriteBatchWrong : ChangeSpec := { name := "fnExactWriteBatch", fn := fun _ => fun
  | [d1, d2] => { results := [.lit (.bool false)], args := [d1, d2] }
  | _ => none }
def FnExactWriteBatchWrongFalsely : Prop := fnExactWriteBatchRow.holds Try.pinned (OpenSpec.ofChange fnExactWriteBatchWrong)

/-- 'laws.FnExactReadBatch': WHATEVER THE INPUT: true; the input reads as it did. -/
def fnExactReadBatchSpec : ChangeSpec := { name := "fnExactReadBatch", fn := fun _ => fun
  | [d1, d2] => { results := [.lit (.bool true)], args := [d1, d2] }
  | _ => none }
def fnExactReadBatchRow : OpenClaim := { program := "ytdnbcfochlfopaa", sum := "791ce2b9c096f230111ee47c53217d0138c92e9882036feb83bae48b6285717a", func := "loop.example/g00035/laws.FnExactReadBatch", spec := "fnExactReadBatch", unfollowed := true, recurses := true, plainKeys := false, apart := false }
def FnExactReadBatchSaid : Prop := fnExactReadBatchRow.holds Try.pinned (OpenSpec.ofChange fnExactReadBatchSpec)

/-- ITS FALSE NEIGHBOUR: 'it returns false'. Refute it at one input. -/
def fnExactReadBatchWrong : ChangeSpec := { name := "fnExactReadBatch", fn := fun _ => fun
  | [d1, d2] => { results := [.lit (.bool false)], args := [d1, d2] }
  | _ => none }
def FnExactReadBatchWrongFalsely : Prop := fnExactReadBatchRow.holds Try.pinned (OpenSpec.ofChange fnExactReadBatchWrong)

/-- 'laws.FnExactReadAll': WHATEVER THE INPUT: true; the input reads as it did. -/
def fnExactReadAllSpec : ChangeSpec := { name := "fnExactReadAll", fn := fun _ => fun
  | [d] => { results := [.lit (.bool true)], args := [d] }
  | _ => none }
def fnExactReadAllRow : OpenClaim := { program := "ytdnbcfochlfopaa", sum := "791ce2b9c096f230111ee47c53217d0138c92e9882036feb83bae48b6285717a", func := "loop.example/g00035/laws.FnExactReadAll", spec := "fnExactReadAll", unfollowed := true, recurses := true, plainKeys := false, apart := false }
def FnExactReadAllSaid : Prop := fnExactReadAllRow.holds Try.pinned (OpenSpec.ofChange fnExactReadAllSpec)

/-- ITS FALSE NEIGHBOUR: 'it returns false'. Refute it at one input. -/
def fnExactReadAllWrong : ChangeSpec := { name := "fnExactReadAll", fn := fun _ => fun
  | [d] => { results := [.lit (.bool false)], args := [d] }
  | _ => none }
def FnExactReadAllWrongFalsely : Prop := fnExactReadAllRow.holds Try.pinned (OpenSpec.ofChange fnExactReadAllWrong)

/- THE SECOND FORM. 'bulk': how many values and letters a reading holds, each counted each time it is reached (what is shared counts as often as it is met; a slice's spare places count too). A statement '..UptoSaid' is the law's where the arguments, and the package variables that the reading takes, are together of bulk at most 1048576: NARROWER than '..Said'. Prove '..Said' where nothing that the law and all that it calls make is longer than what came in: it says more and counts as full. Else prove '..UptoSaid'. A law counts once. -/
mutual
def uptoBulk {H : Type} : DataW H → Nat
  | .lit (.string bytes) => bytes.length + 1
  | .lit _ => 1
  | .nil => 1
  | .ptr d => uptoBulk d + 1
  | .slice elems spare => uptoBulkAll elems + uptoBulkAll spare + 1
  | .agg parts => uptoBulkAll parts + 1
  | .iface _ d => uptoBulk d + 1
  | .map entries => uptoBulkEntries entries + 1
  | .held _ => 1
def uptoBulkAll {H : Type} : List (DataW H) → Nat
  | [] => 0
  | d :: r => uptoBulk d + uptoBulkAll r
def uptoBulkEntries {H : Type} : List (Lit × DataW H) → Nat
  | [] => 0
  | x :: r => uptoBulkEntry x + uptoBulkEntries r
def uptoBulkEntry {H : Type} : Lit × DataW H → Nat
  | (.string bytes, d) => bytes.length + uptoBulk d + 1
  | (_, d) => uptoBulk d + 1
 end
def uptoSmall : (H : Type) → List (DataW H) → Bool := fun _ ds => decide (uptoBulkAll ds ≤ 1048576)
def OpenSpec.upto (s : _root_.Go.ChangeSpec) : _root_.Go.OpenSpec := { _root_.Go.OpenSpec.ofChange s with cond := some uptoSmall }

/-- 'laws.FnBatchBack', WHERE WHAT IT READS IS OF BULK AT MOST 1048576: true; the input reads as it did. -/
def fnBatchBackUptoRow : OpenClaim := { program := "ytdnbcfochlfopaa", sum := "791ce2b9c096f230111ee47c53217d0138c92e9882036feb83bae48b6285717a", func := "loop.example/g00035/laws.FnBatchBack", spec := "fnBatchBack", unfollowed := true, recurses := true, plainKeys := false, apart := false, narrowed := true }
def FnBatchBackUptoSaid : Prop := fnBatchBackUptoRow.holds Try.pinned (OpenSpec.upto fnBatchBackSpec)

/-- 'laws.FnBatchHurt', WHERE WHAT IT READS IS OF BULK AT MOST 1048576: true; the input reads as it did. -/
def fnBatchHurtUptoRow : OpenClaim := { program := "ytdnbcfochlfopaa", sum := "791ce2b9c096f230111ee47c53217d0138c92e9882036feb83bae48b6285717a", func := "loop.example/g00035/laws.FnBatchHurt", spec := "fnBatchHurt", unfollowed := true, recurses := true, plainKeys := false, apart := false, narrowed := true }
def FnBatchHurtUptoSaid : Prop := fnBatchHurtUptoRow.holds Try.pinned (OpenSpec.upto fnBatchHurtSpec)

/-- 'laws.FnExactWriteBatch', WHERE WHAT IT READS IS OF BULK AT MOST 1048576: true; the input reads as it did. -/
def fnExactWriteBatchUptoRow : OpenClaim := { program := "ytdnbcfochlfopaa", sum := "791ce2b9c096f230111ee47c53217d0138c92e9882036feb83bae48b6285717a", func := "loop.example/g00035/laws.FnExactWriteBatch", spec := "fnExactWriteBatch", plainKeys := false, apart := false, narrowed := true }
def FnExactWriteBatchUptoSaid : Prop := fnExactWriteBatchUptoRow.holds Try.pinned (OpenSpec.upto fnExactWriteBatchSpec)

/-- 'laws.FnExactReadBatch', WHERE WHAT IT READS IS OF BULK AT MOST 1048576: true; the input reads as it did. -/
def fnExactReadBatchUptoRow : OpenClaim := { program := "ytdnbcfochlfopaa", sum := "791ce2b9c096f230111ee47c53217d0138c92e9882036feb83bae48b6285717a", func := "loop.example/g00035/laws.FnExactReadBatch", spec := "fnExactReadBatch", unfollowed := true, recurses := true, plainKeys := false, apart := false, narrowed := true }
def FnExactReadBatchUptoSaid : Prop := fnExactReadBatchUptoRow.holds Try.pinned (OpenSpec.upto fnExactReadBatchSpec)

/-- 'laws.FnExactReadAll', WHERE WHAT IT READS IS OF BULK AT MOST 1048576: true; the input reads as it did. -/
def fnExactReadAllUptoRow : OpenClaim := { program := "ytdnbcfochlfopaa", sum := "791ce2b9c096f230111ee47c53217d0138c92e9882036feb83bae48b6285717a", func := "loop.example/g00035/laws.FnExactReadAll", spec := "fnExactReadAll", unfollowed := true, recurses := true, plainKeys := false, apart := false, narrowed := true }
def FnExactReadAllUptoSaid : Prop := fnExactReadAllUptoRow.holds Try.pinned (OpenSpec.upto fnExactReadAllSpec)

end Rows
end Go.Proofs.Ytdnbcfochlfopaa
