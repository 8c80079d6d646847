/- The finder's find, at every place. -/
import Derived.Test.YtbilpicolfpoaaaSqW
namespace Go.Proofs.Ytbilpicolfpoaaa.SqW
open Go.RowKit
open SqM SqK SqG
set_option linter.unusedVariables false
theorem cp_short {l : List Int} {at_ : Nat} (h : l.length < at_ + 4) : cp l at_ = (0, 0) := by
  have hb := bestF_best l at_ (min 4096 at_)
  rw [cp, if_pos]
  rcases Nat.eq_zero_or_pos (bestF l at_ (min 4096 at_)).2 with h0 | h0
  · rw [hb.no h0]; omega
  · rw [(hb.is h0).1]; have := (rn_le l at_ (bestF l at_ (min 4096 at_)).2).2; omega
set_option maxHeartbeats 800000 in
theorem find_out (g o c M at_ : Nat) (l : List Int) (w : World) (hl : l.length ≤ 60000) (hat : at_ < l.length) (hsh : l.length < at_ + 4) :
    Calls Try.prog 14 #[fv g o l.length c M, .int .i64 at_] w fun e w' => e = .returned (.tuple #[.int .i64 0, .int .i64 0]) ∧ Below w.heap.size w w' := by
  unfold fv
  obtain ⟨s, hs⟩ : ∃ s : Nat, l.length = at_ + s := ⟨l.length - at_, by omega⟩
  have m2 : (l.length : Int) - (at_ : Int) = (s : Int) := by omega
  have m3 : (s : Int) ≤ 67 := by omega
  have m4 : (s : Int) < 4 := by omega
  clear hs
  go_enter Try.func14, Try.ntmps14
  go_wp2
  all_goals
    go_ret2
    exact ⟨rfl, (Below.refl _ _).alloc (Nat.le_refl _) _⟩
theorem find_any (g o c M at_ : Nat) (l : List Int) (w : World) (hl : l.length ≤ 60000) (hc : l.length ≤ c) (hg : g < w.heap.size) (hat : at_ < l.length)
    (ha : ∀ i, i < l.length → w.cell? ⟨g, o + i, none⟩ = some (.int .u8 (l.getD i 0))) (hG : Grp w M l (min at_ (l.length - 3))) :
    Calls Try.prog 14 #[fv g o l.length c M, .int .i64 at_] w fun e w' => e = .returned (.tuple #[.int .i64 (cp l at_).1, .int .i64 (cp l at_).2]) ∧ Below w.heap.size w w' := by
  by_cases h : at_ + 4 ≤ l.length
  · rw [show min at_ (l.length - 3) = at_ by omega] at hG
    exact find_in g o c M at_ l w hl hc hg h ha hG
  · rw [cp_short (by omega)]
    exact find_out g o c M at_ l w hl hat (by omega)
end Go.Proofs.Ytbilpicolfpoaaa.SqW
