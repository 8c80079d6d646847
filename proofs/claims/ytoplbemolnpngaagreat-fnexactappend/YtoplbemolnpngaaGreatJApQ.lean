/- More of Append, on plain data. -/
import Derived.Test.YtoplbemolnpngaaGreatJP24
namespace Go.Proofs.YtoplbemolnpngaaGreat.ApP
set_option maxRecDepth 8000
open Recs SegW LogW BfP Zs JoP EoP
set_option linter.unusedVariables false
theorem put_last' {segs : List Sg} {b : Int} {u : Bat} : (segs ++ [(⟨b, []⟩ : Sg)]).set segs.length ⟨b, [] ++ [u]⟩ = segs ++ [(⟨b, [u]⟩ : Sg)] := by
  rw [List.set_append_right _ _ (Nat.le_refl _), Nat.sub_self]
  rfl
theorem last_flat' (ss : List Sg) (hok : ∀ i, i < ss.length → ∀ k, k < (ss.getD i default).bats.length → BOk.batOk ((ss.getD i default).bats.getD k default) = true) (hc : (flatB ss).length ≤ 400) : sizes (lastS ss).bats ≤ 40000000 ∧ (lastS ss).bats.length ≤ 400 ∧ ∀ i, i < (lastS ss).bats.length → BOk.batOk ((lastS ss).bats.getD i default) = true := by
  have h1 := flat_last ss
  have ok := ok_flat ss hok
  have z1 := sizes_all _ ok
  exact ⟨by omega, by omega, fun i hi => ok _ (last_mem ss i hi)⟩
theorem lastE_get : ∀ (bs : List Bat) (f : Int), bs.length ≠ 0 → lastE f bs = (bs.getD (bs.length - 1) default).epoch
  | [], f, h => absurd rfl h
  | [b], f, _ => rfl
  | b :: c :: r, f, _ => by
    have ih := lastE_get (c :: r) b.epoch (by simp)
    show lastE b.epoch (c :: r) = _
    rw [ih, show (b :: c :: r).length - 1 = ((c :: r).length - 1) + 1 by simp, List.getD_cons_succ]
end Go.Proofs.YtoplbemolnpngaaGreat.ApP
