/- How many marks a Schema takes; How many marks a row takes. -/
import Derived.Test.YtdhicmbfknagjaaJRO29
import Derived.Test.YtdhicmbfknagjaaJRO08
namespace Go.Proofs.Ytdhicmbfknagjaa.FwS
set_option maxRecDepth 8000
open Go.RowKit
open Ls
theorem itms : ∀ us : List Itm, tot Ow.nItm us = 2 * us.length
  | [] => rfl
  | t :: r => by simp only [tot, itms r, Ow.nItm, List.length_cons]; omega
theorem fld (f : Fld) : Ow.nFld f ≤ 9 + 2 * szFld f := by
  unfold Ow.nFld szFld szVlu szL
  rw [Ow.nX_tot, itms]
  simp only []
  omega
theorem flds : ∀ us : List Fld, tot Ow.nFld us ≤ 9 * us.length + 2 * tot szFld us
  | [] => by simp [tot]
  | f :: r => by
    have h1 := flds r
    have h2 := fld f
    simp only [tot, List.length_cons]
    omega
theorem sch (u : Sch) (h : szSch u ≤ 1048576) : Ow.nSch u ≤ 1000000000 := by
  have := flds u.fields
  unfold szSch szL at h
  unfold Ow.nSch
  omega
end Go.Proofs.Ytdhicmbfknagjaa.FwS
namespace Go.Proofs.Ytdhicmbfknagjaa.FwV
set_option maxRecDepth 8000
open Go.RowKit
open Ls
theorem vlu (u : Vlu) : Ow.nVlu u ≤ 4 + 2 * szVlu u := by
  unfold Ow.nVlu szVlu szL
  rw [FwS.itms]
  omega
theorem vlus : ∀ us : List Vlu, tot Ow.nVlu us ≤ 4 * us.length + 2 * tot szVlu us
  | [] => by simp [tot]
  | f :: r => by
    have h1 := vlus r
    have h2 := vlu f
    simp only [tot, List.length_cons]
    omega
theorem row (us : List Vlu) (h : szL szVlu us ≤ 1048576) : tot Ow.nVlu us ≤ 1000000000 := by
  have := vlus us
  unfold szL at h
  omega
end Go.Proofs.Ytdhicmbfknagjaa.FwV
