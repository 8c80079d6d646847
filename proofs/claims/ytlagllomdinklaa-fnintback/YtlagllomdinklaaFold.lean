/- What foldSign answers: the sign folded into the lowest bit. -/
import Derived.Test.YtlagllomdinklaaRows
import Derived.Test.YtlagllomdinklaaNums
import Derived.WalkKit
import Derived.Outline
namespace Go.Proofs.Ytlagllomdinklaa.Fold
open Go.RowKit
theorem hid {p : Prop} (h : p) : Hid p := h
theorem ret_int {k : IntKind} {a b : Int} (h : a = b) : Ending.returned (.int k a) = .returned (.int k b) := by rw [h]
theorem foldSign_any (n : Int) (w : World) (h0 : -9223372036854775808 ≤ n) (h1 : n ≤ 9223372036854775807) :
    Calls Try.prog 19 #[.int .i64 n] w fun e w' => e = .returned (.int .u64 (Nums.fold n)) ∧ w = w' := by
  by_cases hn : n < 0
  · have HF : Hid (bits .xor .u64 IntKind.u64.max (IntKind.u64.wrap (IntKind.u64.wrap n * 2)) = ((Nums.fold n : Nat) : Int)) := Nums.neg_fold n h0 hn
    go_enter Try.func19, Try.ntmps19
    go_wp2
    go_ret
    exact ⟨ret_int HF.out, rfl⟩
  · have HF : Hid (n * 2 = ((Nums.fold n : Nat) : Int)) := Nums.pos_fold n (by omega)
    go_enter Try.func19, Try.ntmps19
    go_wp2
    go_ret
    exact ⟨ret_int HF.out, rfl⟩
end Go.Proofs.Ytlagllomdinklaa.Fold
