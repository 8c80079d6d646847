/- The helpers that all the laws over drawn bytes share. -/
import Derived.Test.YtoaobifhiddpkaaDraw
namespace Go.Proofs.Ytoaobifhiddpkaa.LawH
set_option maxRecDepth 8000
open Go.RowKit
open Draw (Bytes)
set_option linter.unusedVariables false

theorem big_any (A : Option Addr) (n c : Nat) (w : World) (hn : n ≤ 140737488355328) : Calls Try.prog 4 #[.slice A n c] w fun e w' => e = .returned (.bool (decide (1048576 < (n : Int)))) ∧ w = w' := by
  go_enter Try.func4, Try.ntmps4
  go_wp2
  go_ret
  exact ⟨by simp, rfl⟩

/-- What the frame tells of a slice that came in, as the draw wants it. -/
theorem row_bytes (w : World) (a : Option Addr) (len cap : Nat) (zs : List Int)
    (h : (a = none ∧ len = 0 ∧ cap = 0 ∧ zs = []) ∨ ∃ x, a = some x ∧ len ≤ cap ∧ cap ≤ maxLen ∧ zs.length = cap ∧ (∀ i, i < zs.length → w.cell? (x.add i) = some (.int .u8 (zs.getD i 0))) ∧ ∀ n ∈ zs, (Lit.int .u8 n).wf = true)
    (hl : len ≤ 140737488355328) : Bytes w w.heap.size a len cap := by
  obtain ⟨l, h1, h2, h3, h4⟩ := Seg.row_seg w a len cap zs h hl
  by_cases hz : len = 0
  · exact .inl hz
  · obtain ⟨_, h2⟩ := h2
    rcases h2 with ⟨A, c, e, rfl⟩ | ⟨g, o, cap', e, h5, h6, h7⟩
    · exact .inl h1.symm
    · cases e
      refine .inr ⟨g, o, rfl, ?_, ?_, by omega, fun j hj => ?_⟩
      · have := (h4.resolve_left hz) g rfl
        omega
      · exact (h4.resolve_left hz) g rfl
      · have hb := h3 j
        exact ⟨(l.getD j 0).toNat, by omega, by rw [h7 j (by omega), Int.toNat_of_nonneg hb.1]⟩

end Go.Proofs.Ytoaobifhiddpkaa.LawH
