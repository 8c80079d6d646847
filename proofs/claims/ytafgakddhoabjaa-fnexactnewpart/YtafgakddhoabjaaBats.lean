/- Lists of Batches: how they lie in memory, and what the law's helpers answer. -/
import Derived.Test.YtafgakddhoabjaaBatW
namespace Go.Proofs.Ytafgakddhoabjaa.Bats
set_option maxRecDepth 8000
open Go.RowKit
open Recs
set_option linter.unusedVariables false
def batsCells (ts : List Bat) (H : Nat → Value) (i j : Nat) : Value := if j = 0 then .int .i64 (ts.getD i default).base else if j = 1 then .int .i64 (ts.getD i default).epoch else if j = 2 then .int .i64 (ts.getD i default).producer else if j = 3 then .int .i64 (ts.getD i default).turn else if j = 4 then .int .i64 (ts.getD i default).seq else if j = 5 then .int .i64 (ts.getD i default).flags else H i
def BatsAt (w : World) (lo b : Nat) (v : Value) (ts : List Bat) : Prop := ∃ H : Nat → Value, Row w lo b 7 v ts.length (batsCells ts H) ∧ ∀ i, i < ts.length → RecsAt w lo b (H i) (ts.getD i default).recs
section
variable {w w' : World} {lo lo' b b' : Nat} {v : Value} {ts : List Bat}
theorem BatsAt.keep (h : BatsAt w lo b v ts) (hk : ∀ g, lo ≤ g → g < b → w'.heap[g]? = w.heap[g]?) : BatsAt w' lo b v ts := by
  obtain ⟨H, h1, h2⟩ := h
  exact ⟨H, h1.keep hk, fun i hi => (h2 i hi).keep hk⟩
theorem BatsAt.below (h : BatsAt w lo b v ts) (hb : Below b w w') : BatsAt w' lo b v ts := h.keep fun g _ hg => hb.block g hg
theorem BatsAt.mono (h : BatsAt w lo b v ts) (hl : lo' ≤ lo) (hb : b ≤ b') : BatsAt w lo' b' v ts := by
  obtain ⟨H, h1, h2⟩ := h
  exact ⟨H, h1.mono hl hb, fun i hi => (h2 i hi).mono hl hb⟩
theorem BatsAt.drewN (h : BatsAt w lo b v ts) (k : Nat) : BatsAt (w.drewN k) lo b v ts := h
end
/-- The six cells of element i. -/
theorem six {w : World} {g o n : Nat} {ts : List Bat} {H : Nat → Value} (h : ∀ i, i < n → ∀ j, j < 7 → w.cell? ⟨g, o + i * 7 + j, none⟩ = some (batsCells ts H i j)) (i : Nat) (hi : i < n) :
    w.cell? ⟨g, o + i * 7, none⟩ = some (.int .i64 (ts.getD i default).base) ∧ w.cell? ⟨g, o + i * 7 + 1, none⟩ = some (.int .i64 (ts.getD i default).epoch) ∧ w.cell? ⟨g, o + i * 7 + 2, none⟩ = some (.int .i64 (ts.getD i default).producer) ∧ w.cell? ⟨g, o + i * 7 + 3, none⟩ = some (.int .i64 (ts.getD i default).turn) ∧ w.cell? ⟨g, o + i * 7 + 4, none⟩ = some (.int .i64 (ts.getD i default).seq) ∧ w.cell? ⟨g, o + i * 7 + 5, none⟩ = some (.int .i64 (ts.getD i default).flags) ∧ w.cell? ⟨g, o + i * 7 + 6, none⟩ = some (H i) :=
  ⟨h i hi 0 (by omega), h i hi 1 (by omega), h i hi 2 (by omega), h i hi 3 (by omega), h i hi 4 (by omega), h i hi 5 (by omega), h i hi 6 (by omega)⟩
/-- .. in a later world. -/
theorem six' {w w' : World} {g o n : Nat} {ts : List Bat} {H : Nat → Value} (h : ∀ i, i < n → ∀ j, j < 7 → w.cell? ⟨g, o + i * 7 + j, none⟩ = some (batsCells ts H i j)) (hb : Below w.heap.size w w') (hg : g < w.heap.size) :
    ∀ i, i < n → ∀ j, j < 7 → w'.cell? ⟨g, o + i * 7 + j, none⟩ = some (batsCells ts H i j) := fun i hi j hj => by rw [hb.cell (p := ⟨g, o + i * 7 + j, none⟩) hg]; exact h i hi j hj

theorem info6 : (Try.prog.info? 51).map (fun i => (i.zero, i.size, i.bytes)) = some (some (.agg #[.int .i64 0, .int .i64 0, .int .i64 0, .int .i64 0, .int .i64 0, .int .i64 0, .slice none 0 0]), 7, 72) := by kernel_rfl

/-- What the loop has done: j elements are copied. -/
structure Done (w wr : World) (ts : List Bat) (n j : Nat) (F : Nat → Value) : Prop where
  mine : Mine wr 51 7 w.heap.size n F
  bel : Below w.heap.size w wr
  cells : ∀ i, i < j → ∀ q, q < 7 → F (i * 7 + q) = batsCells ts (fun i => F (i * 7 + 6)) i q
  inner : ∀ i, i < j → RecsAt wr (w.heap.size + 1) wr.heap.size (F (i * 7 + 6)) (ts.getD i default).recs

theorem Done.step {w wr w1 : World} {ts : List Bat} {n j : Nat} {F : Nat → Value} (h : Done w wr ts n j F) (hj : j < n) (hv : Value) (b1 : Below wr.heap.size wr w1) (hh : RecsAt w1 wr.heap.size w1.heap.size hv (ts.getD j default).recs) :
    Done w (w1.setCells w.heap.size (j * 7) (BatW.batArr (ts.getD j default) hv).toList) ts n (j + 1) (Own.upd F (j * 7) (BatW.batArr (ts.getD j default) hv).toList) := by
  have hlt := h.mine.lt
  have keep : ∀ g, g ≠ w.heap.size → (w1.setCells w.heap.size (j * 7) (BatW.batArr (ts.getD j default) hv).toList).heap[g]? = w1.heap[g]? := fun g hg => Cells.heap_setCells_other _ _ hg
  have hsize := Cells.size_setCells (g := w.heap.size) (BatW.batArr (ts.getD j default) hv).toList (o := j * 7) w1
  have hcell : ∀ q, q < 7 → Own.upd F (j * 7) (BatW.batArr (ts.getD j default) hv).toList (j * 7 + q) = (BatW.batArr (ts.getD j default) hv).toList.getD q default := fun q hq => Own.upd_in (by simp [BatW.batArr]; omega)
  have hold : ∀ i, i < j → ∀ q, q < 7 → Own.upd F (j * 7) (BatW.batArr (ts.getD j default) hv).toList (i * 7 + q) = F (i * 7 + q) := fun i hi q hq => Own.upd_out (.inl (by omega))
  refine ⟨Own.mine_setCells _ _ _ _ (h.mine.below b1 hlt), ?_, ?_, ?_⟩
  · exact Cells.below_setCells (Nat.le_refl _) _ _ _ _ (chain h.bel b1)
  · intro i hi q hq
    by_cases he : i = j
    · subst he
      rw [hcell q hq]
      match q, hq with
      | 0, _ => rfl
      | 1, _ => rfl
      | 2, _ => rfl
      | 3, _ => rfl
      | 4, _ => rfl
      | 5, _ => rfl
      | 6, _ => show hv = _; exact (hcell 6 (by omega)).symm
    · rw [hold i (by omega) q hq, h.cells i (by omega) q hq]
      unfold batsCells
      show _ = (if _ then _ else if _ then _ else if _ then _ else if _ then _ else if _ then _ else if _ then _ else Own.upd F (j * 7) (BatW.batArr (ts.getD j default) hv).toList (i * 7 + 6))
      rw [hold i (by omega) 6 (by omega)]
  · intro i hi
    by_cases he : i = j
    · subst he
      rw [hcell 6 (by omega)]
      show RecsAt _ _ _ hv _
      exact (hh.keep fun g h1 h2 => keep g (by omega)).mono (by omega) (by omega)
    · rw [hold i (by omega) 6 (by omega)]
      exact (((h.inner i (by omega)).below b1).keep fun g h1 h2 => keep g (by omega)).mono (Nat.le_refl _) (by rw [hsize]; exact b1.size)

theorem eqBatchS_none (A A' : Option Addr) (c c' : Nat) (w : World) :
    Calls Try.prog 33 #[.slice A 0 c, .slice A' 0 c'] w fun e w' => e = .returned (.bool true) ∧ Below w.heap.size w w' := by
  go_enter Try.func33, Try.ntmps33
  go_wp2
  go_loop [5] (fun i => i = .int .i64 0) (fun _ => 0)
  case atStart => rfl
  case round =>
    subst hrel
    go_wp2
    go_ret
    exact ⟨rfl, Below.refl _ _⟩

set_option maxHeartbeats 800000 in
theorem eqBatchS_core (g o g' o' n c c' lo lo' b : Nat) (ts : List Bat) (H H' : Nat → Value) (w : World) (hn : n ≤ 9223372036854775807) (hc : n ≤ c) (hc' : n ≤ c') (hg : g < w.heap.size) (hg' : g' < w.heap.size) (hb : b ≤ w.heap.size)
    (hh : ∀ i, i < n → RecsAt w lo b (H i) (ts.getD i default).recs) (hh' : ∀ i, i < n → RecsAt w lo' b (H' i) (ts.getD i default).recs)
    (ha : ∀ i, i < n → ∀ j, j < 7 → w.cell? ⟨g, o + i * 7 + j, none⟩ = some (batsCells ts H i j)) (ha' : ∀ i, i < n → ∀ j, j < 7 → w.cell? ⟨g', o' + i * 7 + j, none⟩ = some (batsCells ts H' i j)) :
    Calls Try.prog 33 #[.slice (some ⟨g, o, none⟩) n c, .slice (some ⟨g', o', none⟩) n c'] w fun e w' => e = .returned (.bool true) ∧ Below w.heap.size w w' := by
  have HA := Seg.hid ha; have HA' := Seg.hid ha'; have HH := Seg.hid hh; have HH' := Seg.hid hh'
  clear ha ha' hh hh'
  go_enter Try.func33, Try.ntmps33
  go_wp2
  go_loopw [5] (fun i wr => ∃ (k : Nat), k ≤ n ∧ i = .int .i64 k ∧ Hid (Below w.heap.size w wr)) (fun i _ => n - (intOf i).toNat)
  case atStart => exact ⟨0, Nat.zero_le _, rfl, Below.refl _ _⟩
  case round =>
    obtain ⟨k, hk, rfl, HB⟩ := hrel
    by_cases hlt2 : k < n
    · obtain ⟨c0, c1, c2, c3, c4, c5, c6⟩ := six (six' HA.out HB.out hg) k hlt2
      obtain ⟨d0, d1, d2, d3, d4, d5, d6⟩ := six (six' HA'.out HB.out hg') k hlt2
      have RA : Hid (BatAt wr.drew lo b (.agg #[.int .i64 (ts.getD k default).base, .int .i64 (ts.getD k default).epoch, .int .i64 (ts.getD k default).producer, .int .i64 (ts.getD k default).turn, .int .i64 (ts.getD k default).seq, .int .i64 (ts.getD k default).flags, H k]) (ts.getD k default)) := ⟨_, rfl, (HH.out k hlt2).below (HB.out.drew.mono hb)⟩
      have RB : Hid (BatAt wr.drew lo' b (.agg #[.int .i64 (ts.getD k default).base, .int .i64 (ts.getD k default).epoch, .int .i64 (ts.getD k default).producer, .int .i64 (ts.getD k default).turn, .int .i64 (ts.getD k default).seq, .int .i64 (ts.getD k default).flags, H' k]) (ts.getD k default)) := ⟨_, rfl, (HH'.out k hlt2).below (HB.out.drew.mono hb)⟩
      have hbr : b ≤ wr.heap.size := Nat.le_trans hb HB.out.size
      have h0 : (0 : Int) ≤ (k : Int) := by omega
      have h1 : (k : Int) < (n : Int) := by omega
      generalize ts.getD k default = rk at *
      go_wp2_with fail
      go_region_with (go_at_call 34; refine (BatW.eqBatch_any _ _ rk wr.drew lo lo' b RA.out RB.out hbr).mono ?_; rintro e w1 ⟨rfl, b1⟩; have B1 : Hid (Below w.heap.size w w1) := chainD HB.out b1; clear b1)
      all_goals
        go_wp2
        go_roundw
        case rel => exact ⟨k + 1, by omega, by go_num, B1.out⟩
        case measure => simp [intOf]; omega
    · have : k = n := by omega
      subst this
      go_wp2
      go_ret
      exact ⟨rfl, HB.out⟩

theorem eqBatchS_any (v v' : Value) (ts : List Bat) (w : World) (lo lo' b : Nat) (hv : BatsAt w lo b v ts) (hv' : BatsAt w lo' b v' ts) (hb : b ≤ w.heap.size) :
    Calls Try.prog 33 #[v, v'] w fun e w' => e = .returned (.bool true) ∧ Below w.heap.size w w' := by
  obtain ⟨H, ⟨hn, A, c, rfl, h⟩, hh⟩ := hv
  obtain ⟨H', ⟨_, A', c', rfl, h'⟩, hh'⟩ := hv'
  by_cases hz : ts.length = 0
  · rw [hz]
    exact eqBatchS_none A A' c c' w
  obtain ⟨g, o, rfl, hg, hc, hcell, _⟩ := h.resolve_left hz
  obtain ⟨g', o', rfl, hg', hc', hcell', _⟩ := h'.resolve_left hz
  exact eqBatchS_core g o g' o' ts.length c c' lo lo' b ts H H' w hn hc hc' (by omega) (by omega) hb hh hh' hcell hcell'
end Go.Proofs.Ytafgakddhoabjaa.Bats
