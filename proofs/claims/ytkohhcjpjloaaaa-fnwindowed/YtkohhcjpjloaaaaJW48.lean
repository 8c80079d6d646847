/- The model's Windows: what it answers is memory of the call's own; How a Query lies: its value, its lists' addresses as letters. -/
import Derived.Test.YtkohhcjpjloaaaaJW47
import Derived.Test.YtkohhcjpjloaaaaJW18
namespace Go.Proofs.Ytkohhcjpjloaaaa.WsO
set_option maxRecDepth 8000
open Go.RowKit
open Ls Lp QyP QsP QtP XqP RkP IrA SrP WnP WnI SnI WiI WoO
open Recs (hsz below1 below2 chain)
set_option linter.unusedVariables false
theorem spec_own (x y : Value) (q : Qry) (ts : List Int) (w : World) (S : Nat → Prop) (hx : QryAt w S x q) (hv : IntsAt w S y ts) (hS : ∀ g, S g → g < w.heap.size) (hz : szQry q ≤ 1048576) (hf : ts.length ≤ 1048576) :
    Calls Try.prog 7 #[x, y] w fun e w' => ∃ v, e = .returned v ∧ Ow.I2sOwn w' (seg w.heap.size w'.heap.size) v (winsW q ts) ∧ Below w.heap.size w w' :=
  (WsS.spec_any x y q ts w S hx hv hS hz hf).mono fun e w' ⟨v, h1, ⟨B, h2, h3⟩, h4⟩ => ⟨v, h1, own_of h2 h3, h4⟩
end Go.Proofs.Ytkohhcjpjloaaaa.WsO
namespace Go.Proofs.Ytkohhcjpjloaaaa.FQry
set_option maxRecDepth 8000
open Go.RowKit
open Ls XqP
theorem form {w : World} {S : Nat → Prop} {v : Value} {t : Qry} (h : QryAt w S v t) : ∃ A5 q5 A6 q6 A10 q10, v = .agg #[.string t.fr, .string t.jn, .int .i64 t.wn, .string t.on, .string t.lk, .slice A5 t.wh.length q5, .slice A6 t.gps.length q6, .int .i64 t.win, .int .i64 t.size, .int .i64 t.every, .slice A10 t.gets.length q10] := by
  obtain ⟨A5, c5, A6, c6, A10, c10, e, -⟩ := qform h
  exact ⟨A5, c5, A6, c6, A10, c10, e⟩
end Go.Proofs.Ytkohhcjpjloaaaa.FQry
