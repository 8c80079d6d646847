/- One of some numbers, drawn; One of some texts, drawn; the list may have spare room. -/
import Derived.Test.YtkohhcjpjloaaaaJW01
namespace Go.Proofs.Ytkohhcjpjloaaaa.Draw
set_option maxRecDepth 8000
open Go.RowKit
set_option linter.unusedVariables false
set_option maxHeartbeats 800000 in
theorem pickInt_any (b : Nat) (A : Option Addr) (n c : Nat) (g m : Nat) (f : Nat → Int) (w : World) (hc : Cur w b A n c) (hm : 0 < m) (hm2 : m ≤ 1000) (hg : g < w.heap.size) (hgb : g ≠ b)
    (hcell : ∀ i, i < m → w.cell? ⟨g, i, none⟩ = some (.int .i64 (f i))) :
    Calls Try.prog 13 #[.pointer (some ⟨b, 0, none⟩), .slice (some ⟨g, 0, none⟩) m m] w fun e w' => (∃ i : Nat, i < m ∧ e = .returned (.int .i64 (f i))) ∧ Lft w w' b A n c := by
  have HC := Seg.hid hc
  have HL := Seg.hid hcell
  clear hc hcell
  go_enter Try.func13, Try.ntmps13
  go_wp2_with fail
  refine (below_any b A n c m _ HC.out (by omega) (by omega)).mono ?_
  rintro e w1 ⟨⟨x, hx1, hx2, rfl⟩, L1⟩
  obtain ⟨k, rfl⟩ := Int.eq_ofNat_of_zero_le hx1
  have hk : k < m := by omega
  have hck : w1.cell? ⟨g, k, none⟩ = some (.int .i64 (f k)) := L1.grown.cell (HL.out k hk) (by simpa using hgb)
  go_wp2_with fail
  go_ret
  exact ⟨⟨k, hk, rfl⟩, L1⟩
end Go.Proofs.Ytkohhcjpjloaaaa.Draw
namespace Go.Proofs.Ytkohhcjpjloaaaa.Draw
set_option maxRecDepth 8000
open Go.RowKit
set_option linter.unusedVariables false
set_option maxHeartbeats 800000 in
theorem pickc_any (b : Nat) (A : Option Addr) (n c : Nat) (g m mc : Nat) (f : Nat → ByteArray) (w : World) (hc : Cur w b A n c) (hm : 0 < m) (hm2 : m ≤ 1000) (hg : g < w.heap.size) (hgb : g ≠ b)
    (hcell : ∀ i, i < m → w.cell? ⟨g, i, none⟩ = some (.string (f i))) :
    Calls Try.prog 22 #[.pointer (some ⟨b, 0, none⟩), .slice (some ⟨g, 0, none⟩) m mc] w fun e w' => (∃ i : Nat, i < m ∧ e = .returned (.string (f i))) ∧ Lft w w' b A n c := by
  have HC := Seg.hid hc
  have HL := Seg.hid hcell
  clear hc hcell
  go_enter Try.func22, Try.ntmps22
  go_wp2_with fail
  refine (below_any b A n c m _ HC.out (by omega) (by omega)).mono ?_
  rintro e w1 ⟨⟨x, hx1, hx2, rfl⟩, L1⟩
  obtain ⟨k, rfl⟩ := Int.eq_ofNat_of_zero_le hx1
  have hk : k < m := by omega
  have hck : w1.cell? ⟨g, k, none⟩ = some (.string (f k)) := L1.grown.cell (HL.out k hk) (by simpa using hgb)
  go_wp2_with fail
  go_ret
  exact ⟨⟨k, hk, rfl⟩, L1⟩
end Go.Proofs.Ytkohhcjpjloaaaa.Draw
