/- One of some texts, drawn. -/
import Derived.Test.YtoaobifhiddpkaaDraw
namespace Go.Proofs.Ytoaobifhiddpkaa.Draw
set_option maxRecDepth 8000
open Go.RowKit
set_option linter.unusedVariables false
set_option maxHeartbeats 800000 in
theorem pick_any (b : Nat) (A : Option Addr) (n c : Nat) (g m : Nat) (f : Nat → ByteArray) (w : World) (hc : Cur w b A n c) (hm : 0 < m) (hm2 : m ≤ 1000) (hg : g < w.heap.size) (hgb : g ≠ b)
    (hcell : ∀ i, i < m → w.cell? ⟨g, i, none⟩ = some (.string (f i))) :
    Calls Try.prog 16 #[.pointer (some ⟨b, 0, none⟩), .slice (some ⟨g, 0, none⟩) m m] w fun e w' => (∃ i : Nat, i < m ∧ e = .returned (.string (f i))) ∧ Lft w w' b A n c := by
  have HC := Seg.hid hc
  have HL := Seg.hid hcell
  clear hc hcell
  go_enter Try.func16, Try.ntmps16
  go_wp2_with fail
  refine (below_any b A n c m _ HC.out (by omega) (by omega)).mono ?_
  rintro e w1 ⟨⟨x, hx1, hx2, rfl⟩, L1⟩
  obtain ⟨k, rfl⟩ := Int.eq_ofNat_of_zero_le hx1
  have hk : k < m := by omega
  have hck : w1.cell? ⟨g, k, none⟩ = some (.string (f k)) := L1.grown.cell (HL.out k hk) (by simpa using hgb)
  go_wp2_with fail
  go_ret
  exact ⟨⟨k, hk, rfl⟩, L1⟩
end Go.Proofs.Ytoaobifhiddpkaa.Draw
