/- The law's helper: a byte of the draw, or a number made up. -/
import Derived.Test.YtmkkdladgoilmaaDraw
import Derived.WalkSmall
namespace Go.Proofs.Ytmkkdladgoilmaa.DrawC
set_option maxRecDepth 8000
open Go.RowKit
open Draw (Cur Lft Bytes)
set_option linter.unusedVariables false

theorem at_any (A : Option Addr) (n c b : Nat) (i : Nat) (w : World) (hn : n ≤ 1048576) (hb : Bytes w b A n c) (hi : i ≤ 1000) :
    Calls Try.prog 8 #[.slice A n c, .int .i64 i] w fun e w' => (∃ x : Nat, x < 256 ∧ e = .returned (.int .i64 x)) ∧ w = w' := by
  by_cases hlt : i < n
  · obtain ⟨g, o, rfl, hgb, hgl, hnc, hby⟩ := hb.resolve_left (by omega)
    obtain ⟨x, hx, hcx⟩ := hby i hlt
    clear hby hb
    go_enter Try.func8, Try.ntmps8
    go_wp2
    go_ret
    exact ⟨⟨x, hx, rfl⟩, rfl⟩
  · clear hb
    go_enter Try.func8, Try.ntmps8
    go_wp2
    go_ret
    exact ⟨⟨(i * 7 + n) % 256, Nat.mod_lt _ (by decide), Seg.ret_int (by omega)⟩, rfl⟩
end Go.Proofs.Ytmkkdladgoilmaa.DrawC
