/- The law's copier and its likeness over a list of Records. -/
import Derived.Test.YtafgakddhoabjaaRecsW
import Derived.Test.YtafgakddhoabjaaOwn
namespace Go.Proofs.Ytafgakddhoabjaa.RecsW
set_option maxRecDepth 8000
open Go.RowKit
open Recs
set_option linter.unusedVariables false
theorem info6 : (Try.prog.info? 56).map (fun i => (i.zero, i.size, i.bytes)) = some (some (.agg #[.int .i64 0, .bool false, .string ByteArray.empty, .bool false, .string ByteArray.empty, .slice none 0 0]), 6, 80) := by kernel_rfl

/-- What the loop has done: j elements are copied. -/
structure Done (w wr : World) (rs : List Rec) (n j : Nat) (F : Nat → Value) : Prop where
  mine : Mine wr 56 6 w.heap.size n F
  bel : Below w.heap.size w wr
  cells : ∀ i, i < j → ∀ q, q < 6 → F (i * 6 + q) = recCells rs (fun i => F (i * 6 + 5)) i q
  heads : ∀ i, i < j → Heads wr (w.heap.size + 1) wr.heap.size (F (i * 6 + 5)) (rs.getD i default).heads

theorem Done.step {w wr w1 : World} {rs : List Rec} {n j : Nat} {F : Nat → Value} (h : Done w wr rs n j F) (hj : j < n) (hv : Value) (b1 : Below wr.heap.size wr w1) (hh : Heads w1 wr.heap.size w1.heap.size hv (rs.getD j default).heads) :
    Done w (w1.setCells w.heap.size (j * 6) (RecW.recArr (rs.getD j default) hv).toList) rs n (j + 1) (Own.upd F (j * 6) (RecW.recArr (rs.getD j default) hv).toList) := by
  have hlt := h.mine.lt
  have keep : ∀ g, g ≠ w.heap.size → (w1.setCells w.heap.size (j * 6) (RecW.recArr (rs.getD j default) hv).toList).heap[g]? = w1.heap[g]? := fun g hg => Cells.heap_setCells_other _ _ hg
  have hsize := Cells.size_setCells (g := w.heap.size) (RecW.recArr (rs.getD j default) hv).toList (o := j * 6) w1
  have hcell : ∀ q, q < 6 → Own.upd F (j * 6) (RecW.recArr (rs.getD j default) hv).toList (j * 6 + q) = (RecW.recArr (rs.getD j default) hv).toList.getD q default := fun q hq => Own.upd_in (by simp [RecW.recArr]; omega)
  have hold : ∀ i, i < j → ∀ q, q < 6 → Own.upd F (j * 6) (RecW.recArr (rs.getD j default) hv).toList (i * 6 + q) = F (i * 6 + q) := fun i hi q hq => Own.upd_out (.inl (by omega))
  refine ⟨Own.mine_setCells _ _ _ _ (h.mine.below b1 hlt), ?_, ?_, ?_⟩
  · exact Cells.below_setCells (Nat.le_refl _) _ _ _ _ (chain h.bel b1)
  · intro i hi q hq
    by_cases he : i = j
    · subst he
      rw [hcell q hq]
      match q, hq with
      | 0, _ => rfl
      | 1, _ => rfl
      | 2, _ => rfl
      | 3, _ => rfl
      | 4, _ => rfl
      | 5, _ => show hv = _; exact (hcell 5 (by omega)).symm
    · rw [hold i (by omega) q hq, h.cells i (by omega) q hq]
      unfold recCells
      show _ = (if _ then _ else if _ then _ else if _ then _ else if _ then _ else if _ then _ else Own.upd F (j * 6) (RecW.recArr (rs.getD j default) hv).toList (i * 6 + 5))
      rw [hold i (by omega) 5 (by omega)]
  · intro i hi
    by_cases he : i = j
    · subst he
      rw [hcell 5 (by omega)]
      show Heads _ _ _ hv _
      exact (hh.keep fun g h1 h2 => keep g (by omega)).mono (by omega) (by omega)
    · rw [hold i (by omega) 5 (by omega)]
      exact (((h.heads i (by omega)).below b1).keep fun g h1 h2 => keep g (by omega)).mono (Nat.le_refl _) (by rw [hsize]; exact b1.size)

theorem eqRecordS_none (A A' : Option Addr) (c c' : Nat) (w : World) :
    Calls Try.prog 35 #[.slice A 0 c, .slice A' 0 c'] w fun e w' => e = .returned (.bool true) ∧ Below w.heap.size w w' := by
  go_enter Try.func35, Try.ntmps35
  go_wp2
  go_loop [5] (fun i => i = .int .i64 0) (fun _ => 0)
  case atStart => rfl
  case round =>
    subst hrel
    go_wp2
    go_ret
    exact ⟨rfl, Below.refl _ _⟩

set_option maxHeartbeats 800000 in
theorem eqRecordS_core (g o g' o' n c c' lo lo' b : Nat) (rs : List Rec) (H H' : Nat → Value) (w : World) (hn : n ≤ 9223372036854775807) (hc : n ≤ c) (hc' : n ≤ c') (hg : g < w.heap.size) (hg' : g' < w.heap.size) (hb : b ≤ w.heap.size)
    (hh : ∀ i, i < n → Heads w lo b (H i) (rs.getD i default).heads) (hh' : ∀ i, i < n → Heads w lo' b (H' i) (rs.getD i default).heads)
    (ha : ∀ i, i < n → ∀ j, j < 6 → w.cell? ⟨g, o + i * 6 + j, none⟩ = some (recCells rs H i j)) (ha' : ∀ i, i < n → ∀ j, j < 6 → w.cell? ⟨g', o' + i * 6 + j, none⟩ = some (recCells rs H' i j)) :
    Calls Try.prog 35 #[.slice (some ⟨g, o, none⟩) n c, .slice (some ⟨g', o', none⟩) n c'] w fun e w' => e = .returned (.bool true) ∧ Below w.heap.size w w' := by
  have HA := Seg.hid ha; have HA' := Seg.hid ha'; have HH := Seg.hid hh; have HH' := Seg.hid hh'
  clear ha ha' hh hh'
  go_enter Try.func35, Try.ntmps35
  go_wp2
  go_loopw [5] (fun i wr => ∃ (k : Nat), k ≤ n ∧ i = .int .i64 k ∧ Hid (Below w.heap.size w wr)) (fun i _ => n - (intOf i).toNat)
  case atStart => exact ⟨0, Nat.zero_le _, rfl, Below.refl _ _⟩
  case round =>
    obtain ⟨k, hk, rfl, HB⟩ := hrel
    by_cases hlt2 : k < n
    · obtain ⟨c0, c1, c2, c3, c4, c5⟩ := six (six' HA.out HB.out hg) k hlt2
      obtain ⟨d0, d1, d2, d3, d4, d5⟩ := six (six' HA'.out HB.out hg') k hlt2
      have RA : Hid (RecAt wr.drew lo b (.agg #[.int .i64 (rs.getD k default).time, .bool (rs.getD k default).keyed, .string (rs.getD k default).key, .bool (rs.getD k default).gone, .string (rs.getD k default).val, H k]) (rs.getD k default)) := ⟨_, rfl, (HH.out k hlt2).below (HB.out.drew.mono hb)⟩
      have RB : Hid (RecAt wr.drew lo' b (.agg #[.int .i64 (rs.getD k default).time, .bool (rs.getD k default).keyed, .string (rs.getD k default).key, .bool (rs.getD k default).gone, .string (rs.getD k default).val, H' k]) (rs.getD k default)) := ⟨_, rfl, (HH'.out k hlt2).below (HB.out.drew.mono hb)⟩
      have hbr : b ≤ wr.heap.size := Nat.le_trans hb HB.out.size
      have h0 : (0 : Int) ≤ (k : Int) := by omega
      have h1 : (k : Int) < (n : Int) := by omega
      generalize rs.getD k default = rk at *
      go_wp2_with fail
      go_region_with (go_at_call 36; refine (RecW.eqRecord_any _ _ rk wr.drew lo lo' b RA.out RB.out hbr).mono ?_; rintro e w1 ⟨rfl, b1⟩; have B1 : Hid (Below w.heap.size w w1) := chainD HB.out b1; clear b1)
      all_goals
        go_wp2
        go_roundw
        case rel => exact ⟨k + 1, by omega, by go_num, B1.out⟩
        case measure => simp [intOf]; omega
    · have : k = n := by omega
      subst this
      go_wp2
      go_ret
      exact ⟨rfl, HB.out⟩

theorem eqRecordS_any (v v' : Value) (rs : List Rec) (w : World) (lo lo' b : Nat) (hv : RecsAt w lo b v rs) (hv' : RecsAt w lo' b v' rs) (hb : b ≤ w.heap.size) :
    Calls Try.prog 35 #[v, v'] w fun e w' => e = .returned (.bool true) ∧ Below w.heap.size w w' := by
  obtain ⟨H, ⟨hn, A, c, rfl, h⟩, hh⟩ := hv
  obtain ⟨H', ⟨_, A', c', rfl, h'⟩, hh'⟩ := hv'
  by_cases hz : rs.length = 0
  · rw [hz]
    exact eqRecordS_none A A' c c' w
  obtain ⟨g, o, rfl, hg, hc, hcell, _⟩ := h.resolve_left hz
  obtain ⟨g', o', rfl, hg', hc', hcell', _⟩ := h'.resolve_left hz
  exact eqRecordS_core g o g' o' rs.length c c' lo lo' b rs H H' w hn hc hc' (by omega) (by omega) hb hh hh' hcell hcell'
end Go.Proofs.Ytafgakddhoabjaa.RecsW
