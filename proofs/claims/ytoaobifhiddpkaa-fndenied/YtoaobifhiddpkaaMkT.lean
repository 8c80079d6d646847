/- The law's marks: of a text; of a list of numbers; the look at these. -/
import Derived.Test.YtoaobifhiddpkaaOw
import Derived.Laws.BytesArg
import Derived.WalkLawsBesides
namespace Go.Proofs.Ytoaobifhiddpkaa.Ow
set_option maxRecDepth 8000
open Go.RowKit
open Recs
open Ls
set_option linter.unusedVariables false
/-- The mark of a number, as a text: its digits, f of them at most. -/
def mtF : Nat → Nat → ByteArray → ByteArray
  | 0, _, s => s
  | f + 1, n, s => if n = 0 then s else mtF f (n / 10) (strOfNums [48 + (n : Int) % 10] ++ s)
theorem mtF_same : ∀ (f g n : Nat) (s : ByteArray), n ≤ f → n ≤ g → mtF f n s = mtF g n s
  | 0, 0, n, s, _, _ => rfl
  | 0, g + 1, n, s, h, _ => by rw [mtF, mtF, if_pos (by omega)]
  | f + 1, 0, n, s, _, h => by rw [mtF, mtF, if_pos (by omega)]
  | f + 1, g + 1, n, s, h1, h2 => by
    rw [mtF, mtF]
    by_cases h : n = 0
    · rw [if_pos h, if_pos h]
    · rw [if_neg h, if_neg h, mtF_same f g (n / 10) _ (by omega) (by omega)]
def mt (k : Nat) : ByteArray := ByteArray.mk #[109] ++ mtF k k ByteArray.empty

end Go.Proofs.Ytoaobifhiddpkaa.Ow
