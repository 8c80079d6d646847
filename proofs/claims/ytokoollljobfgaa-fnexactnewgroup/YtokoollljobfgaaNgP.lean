/- NewGroup: on plain data. -/
import Derived.Test.YtokoollljobfgaaOGrp
import Derived.Test.YtokoollljobfgaaInQ
import Derived.Deep.Cut
namespace Go.Proofs.Ytokoollljobfgaa.NgP
set_option maxRecDepth 8000
open Go.RowKit
open Ls Ow
open Recs (hsz below1 below2 chain)
open Lp (inR)
set_option linter.unusedVariables false
def newG (k t : Int) : Grp := if (inR 1 k 3 && inR 1 t 1000000000000) = true then ⟨k, t, 0, 0, [], []⟩ else ⟨0, 0, 0, 0, [], []⟩
theorem infoG : (Try.prog.info? 31).map (·.size) = some 6 := by kernel_rfl
theorem own_new (w : World) (S : Nat → Prop) (k t : Int) : GrpOwn w S (.agg #[.int .i64 k, .int .i64 t, .int .i64 0, .int .i64 0, .slice none 0 0, .slice none 0 0]) ⟨k, t, 0, 0, [], []⟩ :=
  ⟨fun q => match q with | 0 => .int .i64 k | 1 => .int .i64 t | 2 => .int .i64 0 | 3 => .int .i64 0 | _ => .slice none 0 0, rfl, ⟨rfl, rfl, rfl, rfl⟩, fun _ _ => False, fun _ _ h => h.elim, fun _ _ _ _ h => h.elim, LOwn.nil _ _ _ _, LOwn.nil _ _ _ _⟩
/-- What NewGroup leaves: its answer stands in the block that it began with. -/
theorem result (w : World) (k t : Int) (cs : Array Value) (hc : cs.size = 6) : ((w.alloc (.cells cs 31 (0, 0))).setCells w.heap.size 0 (#[.int .i64 k, .int .i64 t, .int .i64 0, .int .i64 0, .slice none 0 0, .slice none 0 0] : Array Value).toList).heap[w.heap.size]? = some (.cells #[.int .i64 k, .int .i64 t, .int .i64 0, .int .i64 0, .slice none 0 0, .slice none 0 0] 31 (0, 0)) := Cells.whole (vs := #[.int .i64 k, .int .i64 t, .int .i64 0, .int .i64 0, .slice none 0 0, .slice none 0 0]) (heap_alloc_new w _) hc
end Go.Proofs.Ytokoollljobfgaa.NgP
