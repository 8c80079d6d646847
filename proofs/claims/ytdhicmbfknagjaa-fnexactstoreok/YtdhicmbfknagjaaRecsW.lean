/- What the law's helpers over a list of Records answer. -/
import Derived.Test.YtdhicmbfknagjaaRecW
namespace Go.Proofs.Ytdhicmbfknagjaa.RecsW
set_option maxRecDepth 8000
open Go.RowKit
open Recs
set_option linter.unusedVariables false

/-- The six cells of element i. -/
theorem six {w : World} {g o n : Nat} {rs : List Rec} {H : Nat → Value} (h : ∀ i, i < n → ∀ j, j < 6 → w.cell? ⟨g, o + i * 6 + j, none⟩ = some (recCells rs H i j)) (i : Nat) (hi : i < n) :
    w.cell? ⟨g, o + i * 6, none⟩ = some (.int .i64 (rs.getD i default).time) ∧ w.cell? ⟨g, o + i * 6 + 1, none⟩ = some (.bool (rs.getD i default).keyed) ∧ w.cell? ⟨g, o + i * 6 + 2, none⟩ = some (.string (rs.getD i default).key) ∧
    w.cell? ⟨g, o + i * 6 + 3, none⟩ = some (.bool (rs.getD i default).gone) ∧ w.cell? ⟨g, o + i * 6 + 4, none⟩ = some (.string (rs.getD i default).val) ∧ w.cell? ⟨g, o + i * 6 + 5, none⟩ = some (H i) :=
  ⟨h i hi 0 (by omega), h i hi 1 (by omega), h i hi 2 (by omega), h i hi 3 (by omega), h i hi 4 (by omega), h i hi 5 (by omega)⟩
/-- .. in a later world. -/
theorem six' {w w' : World} {g o n : Nat} {rs : List Rec} {H : Nat → Value} (h : ∀ i, i < n → ∀ j, j < 6 → w.cell? ⟨g, o + i * 6 + j, none⟩ = some (recCells rs H i j)) (hb : Below w.heap.size w w') (hg : g < w.heap.size) :
    ∀ i, i < n → ∀ j, j < 6 → w'.cell? ⟨g, o + i * 6 + j, none⟩ = some (recCells rs H i j) := fun i hi j hj => by rw [hb.cell (p := ⟨g, o + i * 6 + j, none⟩) hg]; exact h i hi j hj

theorem szRecordS_none (A : Option Addr) (c : Nat) (l : Int) (w : World) (h3 : -1 ≤ l) (h4 : l ≤ 1048576) :
    Calls Try.prog 146 #[.slice A 0 c, .int .i64 l] w fun e w' => ∃ r, e = .returned (.int .i64 r) ∧ -1 ≤ r ∧ r ≤ l ∧ Below w.heap.size w w' := by
  go_enter Try.func146, Try.ntmps146
  by_cases hlt : l < 0
  · go_wp2
    go_ret
    exact ⟨_, rfl, by omega, by omega, Below.refl _ _⟩
  go_wp2
  go_loop [1, 5] (fun x i => i = .int .i64 0 ∧ ∃ r, x = .int .i64 r ∧ 0 ≤ r ∧ r ≤ l) (fun _ _ => 0)
  case atStart => exact ⟨rfl, _, rfl, by omega, by omega⟩
  case round =>
    obtain ⟨rfl, r, rfl, hr0, hr1⟩ := hrel
    go_wp2
    go_ret
    exact ⟨r, rfl, by omega, by omega, Below.refl _ _⟩

set_option maxHeartbeats 400000 in
theorem szRecordS_core (g o n c b : Nat) (rs : List Rec) (H : Nat → Value) (l : Int) (w : World) (h3 : -1 ≤ l) (h4 : l ≤ 1048576) (hn : n ≤ 9223372036854775807) (hc : n ≤ c) (hg : g < w.heap.size) (lo : Nat) (hb : b ≤ w.heap.size)
    (hf : ∀ i, i < n → FineR (rs.getD i default)) (hh : ∀ i, i < n → Heads w lo b (H i) (rs.getD i default).heads)
    (ha : ∀ i, i < n → ∀ j, j < 6 → w.cell? ⟨g, o + i * 6 + j, none⟩ = some (recCells rs H i j)) :
    Calls Try.prog 146 #[.slice (some ⟨g, o, none⟩) n c, .int .i64 l] w fun e w' => ∃ r, e = .returned (.int .i64 r) ∧ -1 ≤ r ∧ r ≤ l ∧ (0 ≤ r → (n : Int) ≤ l ∧ ∀ i, i < n → FewR (rs.getD i default)) ∧ Below w.heap.size w w' := by
  have HA := Seg.hid ha
  have HK := Seg.hid hf
  have HH := Seg.hid hh
  clear ha hf hh
  go_enter Try.func146, Try.ntmps146
  by_cases hlt : l - (n : Int) < 0
  · go_wp2
    go_ret
    exact ⟨_, rfl, by omega, by omega, fun h => absurd h (by omega), Below.refl _ _⟩
  go_wp2
  go_loopw [1, 5] (fun x i wr => ∃ (k : Nat) (r : Int), k ≤ n ∧ x = .int .i64 r ∧ i = .int .i64 k ∧ 0 ≤ r ∧ r ≤ l ∧ Hid (Below w.heap.size w wr ∧ ∀ i, i < k → FewR (rs.getD i default))) (fun _ i _ => n - (intOf i).toNat)
  case atStart => exact ⟨0, l - n, Nat.zero_le _, rfl, rfl, by omega, by omega, Below.refl _ _, fun i hi => absurd hi (by omega)⟩
  case round =>
    obtain ⟨k, r, hk, rfl, rfl, hr0, hr1, HB⟩ := hrel
    by_cases hlt2 : k < n
    · obtain ⟨c0, c1, c2, c3, c4, c5⟩ := six (six' HA.out HB.out.1 hg) k hlt2
      have RA : Hid (RecAt wr lo b (.agg #[.int .i64 (rs.getD k default).time, .bool (rs.getD k default).keyed, .string (rs.getD k default).key, .bool (rs.getD k default).gone, .string (rs.getD k default).val, H k]) (rs.getD k default)) := ⟨_, rfl, (HH.out k hlt2).below (HB.out.1.mono hb)⟩
      have h0 : (0 : Int) ≤ (k : Int) := by omega
      have h1 : (k : Int) < (n : Int) := by omega
      have hbr : b ≤ wr.heap.size := Nat.le_trans hb HB.out.1.size
      generalize hrk : rs.getD k default = rk at *
      go_wp2_with fail
      refine (RecW.szRecord_any _ rk r wr lo b (by omega) (by omega) RA.out hbr (hrk ▸ HK.out k hlt2)).mono ?_
      rintro e w1 ⟨r1, rfl, hr2, hr3, hfw, b1⟩
      have B1 := Seg.hid (chain HB.out.1 b1)
      have FW := Seg.hid hfw
      clear b1 hfw
      by_cases hneg : r1 < 0
      · go_wp2
        go_ret
        exact ⟨-1, rfl, by omega, by omega, fun h => absurd h (by omega), B1.out⟩
      · go_wp2
        go_roundw
        case rel =>
          refine ⟨k + 1, r1, by omega, rfl, by go_num, by omega, by omega, B1.out, fun i hi => ?_⟩
          by_cases he : i = k
          · subst he; rw [hrk]; exact FW.out (by omega)
          · exact HB.out.2 i (by omega)
        case measure => simp [intOf]; omega
    · have : k = n := by omega
      subst this
      go_wp2
      go_ret
      exact ⟨r, rfl, by omega, by omega, fun _ => ⟨by omega, HB.out.2⟩, HB.out.1⟩

theorem szRecordS_any (v : Value) (rs : List Rec) (l : Int) (w : World) (lo b : Nat) (h3 : -1 ≤ l) (h4 : l ≤ 1048576) (hv : RecsAt w lo b v rs) (hb : b ≤ w.heap.size) (hf : ∀ i, i < rs.length → FineR (rs.getD i default)) :
    Calls Try.prog 146 #[v, .int .i64 l] w fun e w' => ∃ r, e = .returned (.int .i64 r) ∧ -1 ≤ r ∧ r ≤ l ∧ (0 ≤ r → (rs.length : Int) ≤ l ∧ ∀ i, i < rs.length → FewR (rs.getD i default)) ∧ Below w.heap.size w w' := by
  obtain ⟨H, ⟨hn, A, c, rfl, h⟩, hh⟩ := hv
  by_cases hz : rs.length = 0
  · rw [hz]
    exact (szRecordS_none A c l w h3 h4).mono fun e w' ⟨r, a1, a2, a3, a4⟩ => ⟨r, a1, a2, a3, fun h => ⟨by omega, fun i hi => absurd hi (by omega)⟩, a4⟩
  obtain ⟨g, o, rfl, hg, hc, hcell, _⟩ := h.resolve_left hz
  exact szRecordS_core g o rs.length c b rs H l w h3 h4 hn hc (by omega) lo hb hf hh hcell
end Go.Proofs.Ytdhicmbfknagjaa.RecsW
