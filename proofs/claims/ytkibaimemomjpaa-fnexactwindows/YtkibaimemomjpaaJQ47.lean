/- How a Query lies: its value, its lists' addresses as letters. -/
import Derived.Test.YtkibaimemomjpaaJQ30
namespace Go.Proofs.Ytkibaimemomjpaa.FQry
set_option maxRecDepth 8000
open Go.RowKit
open Ls XqP
theorem form {w : World} {S : Nat → Prop} {v : Value} {t : Qry} (h : QryAt w S v t) : ∃ A5 q5 A6 q6 A10 q10, v = .agg #[.string t.fr, .string t.jn, .int .i64 t.wn, .string t.on, .string t.lk, .slice A5 t.wh.length q5, .slice A6 t.gps.length q6, .int .i64 t.win, .int .i64 t.size, .int .i64 t.every, .slice A10 t.gets.length q10] := by
  obtain ⟨A5, c5, A6, c6, A10, c10, e, -⟩ := qform h
  exact ⟨A5, c5, A6, c6, A10, c10, e⟩
end Go.Proofs.Ytkibaimemomjpaa.FQry
