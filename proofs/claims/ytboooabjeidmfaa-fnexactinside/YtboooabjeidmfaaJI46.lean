/- How many marks a Query and Sources take; How a Query lies: its value, its lists' addresses as letters. -/
import Derived.Test.YtboooabjeidmfaaJI42
import Derived.Test.YtboooabjeidmfaaJI45
import Derived.Test.YtboooabjeidmfaaJI17
namespace Go.Proofs.Ytboooabjeidmfaa.FwQ
set_option maxRecDepth 8000
open Go.RowKit
open Ls
theorem stps : ∀ us : List Stp, tot Ow.nStp us = 3 * us.length
  | [] => rfl
  | t :: r => by simp only [tot, stps r, Ow.nStp, List.length_cons]; omega
theorem gqt (g : Gqt) : Ow.nGqt g ≤ 2 + 3 * szGqt g := by
  unfold Ow.nGqt szGqt szL
  rw [stps]
  omega
theorem gqts : ∀ us : List Gqt, tot Ow.nGqt us ≤ 2 * us.length + 3 * tot szGqt us
  | [] => by simp [tot]
  | f :: r => by
    have h1 := gqts r
    have h2 := gqt f
    simp only [tot, List.length_cons]
    omega
theorem qry (u : Qry) (h : szQry u ≤ 1048576) : Ow.nQry u ≤ 1000000000 := by
  have := gqts u.gets
  unfold szQry szL at h
  unfold Ow.nQry
  rw [stps, Ow.nX_tot]
  omega
theorem src (s : Src) : Ow.nSrc s ≤ 2 + szSrc s := by
  unfold Ow.nSrc szSrc szL
  rw [Ow.nX_tot]
  omega
theorem srct : ∀ us : List Src, tot Ow.nSrc us ≤ 2 * us.length + tot szSrc us
  | [] => by simp [tot]
  | f :: r => by
    have h1 := srct r
    have h2 := src f
    simp only [tot, List.length_cons]
    omega
theorem srcs (us : List Src) (h : szL szSrc us ≤ 1048576) : tot Ow.nSrc us ≤ 1000000000 := by
  have := srct us
  unfold szL at h
  omega
end Go.Proofs.Ytboooabjeidmfaa.FwQ
namespace Go.Proofs.Ytboooabjeidmfaa.FQry
set_option maxRecDepth 8000
open Go.RowKit
open Ls XqP
theorem form {w : World} {S : Nat → Prop} {v : Value} {t : Qry} (h : QryAt w S v t) : ∃ A5 q5 A6 q6 A10 q10, v = .agg #[.string t.fr, .string t.jn, .int .i64 t.wn, .string t.on, .string t.lk, .slice A5 t.wh.length q5, .slice A6 t.gps.length q6, .int .i64 t.win, .int .i64 t.size, .int .i64 t.every, .slice A10 t.gets.length q10] := by
  obtain ⟨A5, c5, A6, c6, A10, c10, e, -⟩ := qform h
  exact ⟨A5, c5, A6, c6, A10, c10, e⟩
end Go.Proofs.Ytboooabjeidmfaa.FQry
