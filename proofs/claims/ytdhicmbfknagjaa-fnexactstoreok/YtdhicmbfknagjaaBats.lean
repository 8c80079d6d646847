/- Lists of Batches: how they lie in memory, and what the law's helpers answer. -/
import Derived.Test.YtdhicmbfknagjaaBatW
namespace Go.Proofs.Ytdhicmbfknagjaa.Bats
set_option maxRecDepth 8000
open Go.RowKit
open Recs
set_option linter.unusedVariables false
def batsCells (ts : List Bat) (H : Nat → Value) (i j : Nat) : Value := if j = 0 then .int .i64 (ts.getD i default).base else if j = 1 then .int .i64 (ts.getD i default).epoch else if j = 2 then .int .i64 (ts.getD i default).producer else if j = 3 then .int .i64 (ts.getD i default).turn else if j = 4 then .int .i64 (ts.getD i default).seq else if j = 5 then .int .i64 (ts.getD i default).flags else H i
def BatsAt (w : World) (lo b : Nat) (v : Value) (ts : List Bat) : Prop := ∃ H : Nat → Value, Row w lo b 7 v ts.length (batsCells ts H) ∧ ∀ i, i < ts.length → RecsAt w lo b (H i) (ts.getD i default).recs
section
variable {w w' : World} {lo lo' b b' : Nat} {v : Value} {ts : List Bat}
theorem BatsAt.keep (h : BatsAt w lo b v ts) (hk : ∀ g, lo ≤ g → g < b → w'.heap[g]? = w.heap[g]?) : BatsAt w' lo b v ts := by
  obtain ⟨H, h1, h2⟩ := h
  exact ⟨H, h1.keep hk, fun i hi => (h2 i hi).keep hk⟩
theorem BatsAt.below (h : BatsAt w lo b v ts) (hb : Below b w w') : BatsAt w' lo b v ts := h.keep fun g _ hg => hb.block g hg
theorem BatsAt.mono (h : BatsAt w lo b v ts) (hl : lo' ≤ lo) (hb : b ≤ b') : BatsAt w lo' b' v ts := by
  obtain ⟨H, h1, h2⟩ := h
  exact ⟨H, h1.mono hl hb, fun i hi => (h2 i hi).mono hl hb⟩
theorem BatsAt.drewN (h : BatsAt w lo b v ts) (k : Nat) : BatsAt (w.drewN k) lo b v ts := h
end
/-- The six cells of element i. -/
theorem six {w : World} {g o n : Nat} {ts : List Bat} {H : Nat → Value} (h : ∀ i, i < n → ∀ j, j < 7 → w.cell? ⟨g, o + i * 7 + j, none⟩ = some (batsCells ts H i j)) (i : Nat) (hi : i < n) :
    w.cell? ⟨g, o + i * 7, none⟩ = some (.int .i64 (ts.getD i default).base) ∧ w.cell? ⟨g, o + i * 7 + 1, none⟩ = some (.int .i64 (ts.getD i default).epoch) ∧ w.cell? ⟨g, o + i * 7 + 2, none⟩ = some (.int .i64 (ts.getD i default).producer) ∧ w.cell? ⟨g, o + i * 7 + 3, none⟩ = some (.int .i64 (ts.getD i default).turn) ∧ w.cell? ⟨g, o + i * 7 + 4, none⟩ = some (.int .i64 (ts.getD i default).seq) ∧ w.cell? ⟨g, o + i * 7 + 5, none⟩ = some (.int .i64 (ts.getD i default).flags) ∧ w.cell? ⟨g, o + i * 7 + 6, none⟩ = some (H i) :=
  ⟨h i hi 0 (by omega), h i hi 1 (by omega), h i hi 2 (by omega), h i hi 3 (by omega), h i hi 4 (by omega), h i hi 5 (by omega), h i hi 6 (by omega)⟩
/-- .. in a later world. -/
theorem six' {w w' : World} {g o n : Nat} {ts : List Bat} {H : Nat → Value} (h : ∀ i, i < n → ∀ j, j < 7 → w.cell? ⟨g, o + i * 7 + j, none⟩ = some (batsCells ts H i j)) (hb : Below w.heap.size w w') (hg : g < w.heap.size) :
    ∀ i, i < n → ∀ j, j < 7 → w'.cell? ⟨g, o + i * 7 + j, none⟩ = some (batsCells ts H i j) := fun i hi j hj => by rw [hb.cell (p := ⟨g, o + i * 7 + j, none⟩) hg]; exact h i hi j hj

theorem szBatchS_none (A : Option Addr) (c : Nat) (l : Int) (w : World) (h3 : -1 ≤ l) (h4 : l ≤ 1048576) :
    Calls Try.prog 137 #[.slice A 0 c, .int .i64 l] w fun e w' => ∃ r, e = .returned (.int .i64 r) ∧ -1 ≤ r ∧ r ≤ l ∧ Below w.heap.size w w' := by
  go_enter Try.func137, Try.ntmps137
  by_cases hlt : l < 0
  · go_wp2
    go_ret
    exact ⟨_, rfl, by omega, by omega, Below.refl _ _⟩
  go_wp2
  go_loop [1, 5] (fun x i => i = .int .i64 0 ∧ ∃ r, x = .int .i64 r ∧ 0 ≤ r ∧ r ≤ l) (fun _ _ => 0)
  case atStart => exact ⟨rfl, _, rfl, by omega, by omega⟩
  case round =>
    obtain ⟨rfl, r, rfl, hr0, hr1⟩ := hrel
    go_wp2
    go_ret
    exact ⟨r, rfl, by omega, by omega, Below.refl _ _⟩

set_option maxHeartbeats 400000 in
theorem szBatchS_core (g o n c b : Nat) (ts : List Bat) (H : Nat → Value) (l : Int) (w : World) (h3 : -1 ≤ l) (h4 : l ≤ 1048576) (hn : n ≤ 9223372036854775807) (hc : n ≤ c) (hg : g < w.heap.size) (lo : Nat) (hb : b ≤ w.heap.size)
    (hf : ∀ i, i < n → FineB (ts.getD i default)) (hh : ∀ i, i < n → RecsAt w lo b (H i) (ts.getD i default).recs)
    (ha : ∀ i, i < n → ∀ j, j < 7 → w.cell? ⟨g, o + i * 7 + j, none⟩ = some (batsCells ts H i j)) :
    Calls Try.prog 137 #[.slice (some ⟨g, o, none⟩) n c, .int .i64 l] w fun e w' => ∃ r, e = .returned (.int .i64 r) ∧ -1 ≤ r ∧ r ≤ l ∧ (0 ≤ r → (n : Int) + r ≤ l ∧ ∀ i, i < n → FewB (ts.getD i default)) ∧ Below w.heap.size w w' := by
  have HA := Seg.hid ha
  have HK := Seg.hid hf
  have HH := Seg.hid hh
  clear ha hf hh
  go_enter Try.func137, Try.ntmps137
  by_cases hlt : l - (n : Int) < 0
  · go_wp2
    go_ret
    exact ⟨_, rfl, by omega, by omega, fun h => absurd h (by omega), Below.refl _ _⟩
  go_wp2
  go_loopw [1, 5] (fun x i wr => ∃ (k : Nat) (r : Int), k ≤ n ∧ x = .int .i64 r ∧ i = .int .i64 k ∧ 0 ≤ r ∧ r + (n : Int) ≤ l ∧ Hid (Below w.heap.size w wr ∧ ∀ i, i < k → FewB (ts.getD i default))) (fun _ i _ => n - (intOf i).toNat)
  case atStart => exact ⟨0, l - n, Nat.zero_le _, rfl, rfl, by omega, by omega, Below.refl _ _, fun i hi => absurd hi (by omega)⟩
  case round =>
    obtain ⟨k, r, hk, rfl, rfl, hr0, hr1, HB⟩ := hrel
    by_cases hlt2 : k < n
    · obtain ⟨c0, c1, c2, c3, c4, c5, c6⟩ := six (six' HA.out HB.out.1 hg) k hlt2
      have RA : Hid (BatAt wr lo b (.agg #[.int .i64 (ts.getD k default).base, .int .i64 (ts.getD k default).epoch, .int .i64 (ts.getD k default).producer, .int .i64 (ts.getD k default).turn, .int .i64 (ts.getD k default).seq, .int .i64 (ts.getD k default).flags, H k]) (ts.getD k default)) := ⟨_, rfl, (HH.out k hlt2).below (HB.out.1.mono hb)⟩
      have h0 : (0 : Int) ≤ (k : Int) := by omega
      have h1 : (k : Int) < (n : Int) := by omega
      have hbr : b ≤ wr.heap.size := Nat.le_trans hb HB.out.1.size
      generalize hrk : ts.getD k default = rk at *
      go_wp2_with fail
      refine (BatW.szBatch_any _ rk r wr lo b (by omega) (by omega) RA.out hbr (hrk ▸ HK.out k hlt2)).mono ?_
      rintro e w1 ⟨r1, rfl, hr2, hr3, hfw, b1⟩
      have B1 := Seg.hid (chain HB.out.1 b1)
      have FW := Seg.hid hfw
      clear b1 hfw
      by_cases hneg : r1 < 0
      · go_wp2
        go_ret
        exact ⟨-1, rfl, by omega, by omega, fun h => absurd h (by omega), B1.out⟩
      · go_wp2
        go_roundw
        case rel =>
          refine ⟨k + 1, r1, by omega, rfl, by go_num, by omega, by omega, B1.out, fun i hi => ?_⟩
          by_cases he : i = k
          · subst he; rw [hrk]; exact FW.out (by omega)
          · exact HB.out.2 i (by omega)
        case measure => simp [intOf]; omega
    · have : k = n := by omega
      subst this
      go_wp2
      go_ret
      exact ⟨r, rfl, by omega, by omega, fun _ => ⟨by omega, HB.out.2⟩, HB.out.1⟩

theorem szBatchS_any (v : Value) (ts : List Bat) (l : Int) (w : World) (lo b : Nat) (h3 : -1 ≤ l) (h4 : l ≤ 1048576) (hv : BatsAt w lo b v ts) (hb : b ≤ w.heap.size) (hf : ∀ i, i < ts.length → FineB (ts.getD i default)) :
    Calls Try.prog 137 #[v, .int .i64 l] w fun e w' => ∃ r, e = .returned (.int .i64 r) ∧ -1 ≤ r ∧ r ≤ l ∧ (0 ≤ r → (ts.length : Int) + r ≤ l ∧ ∀ i, i < ts.length → FewB (ts.getD i default)) ∧ Below w.heap.size w w' := by
  obtain ⟨H, ⟨hn, A, c, rfl, h⟩, hh⟩ := hv
  by_cases hz : ts.length = 0
  · rw [hz]
    exact (szBatchS_none A c l w h3 h4).mono fun e w' ⟨r, a1, a2, a3, a4⟩ => ⟨r, a1, a2, a3, fun h => ⟨by omega, fun i hi => absurd hi (by omega)⟩, a4⟩
  obtain ⟨g, o, rfl, hg, hc, hcell, _⟩ := h.resolve_left hz
  exact szBatchS_core g o ts.length c b ts H l w h3 h4 hn hc (by omega) lo hb hf hh hcell
theorem info6 : (Try.prog.info? 118).map (fun i => (i.zero, i.size, i.bytes)) = some (some (.agg #[.int .i64 0, .int .i64 0, .int .i64 0, .int .i64 0, .int .i64 0, .int .i64 0, .slice none 0 0]), 7, 72) := by kernel_rfl

set_option maxHeartbeats 400000 in
theorem toBatchS_none (A : Option Addr) (c : Nat) (w : World) :
    Calls Try.prog 138 #[.slice A 0 c] w fun e w' => ∃ v, e = .returned v ∧ (∃ A c, v = .slice A 0 c) ∧ Below w.heap.size w w' := by
  obtain ⟨i0, hi, hz0, hz1, hz2⟩ := info_parts info6
  go_enter Try.func138, Try.ntmps138
  go_wp2_with (at_make; refine wpList_make_full _ rfl _ _ 113 rfl w.heap.size 118 i0 _ 7 Try.underlying113 hi hz0 hz1 .i64 .i64 _ _ 0 rfl rfl rfl rfl (by omega) (by unfold maxLen; omega) (Nat.le_refl _) ?_; intro w1 hown hgr)
  have hb1 := (Below.refl w.heap.size w).grown hgr (Nat.le_refl _) (fun k hk => by cases hk)
  have HB := Seg.hid hb1
  clear hown hgr hb1 hi hz0 hz1 hz2
  go_loop [4] (fun i => i = .int .i64 0) (fun i => 0)
  case atStart => rfl
  case round =>
    subst hrel
    go_wp2
    go_ret
    exact ⟨_, rfl, ⟨_, _, rfl⟩, HB.out⟩

/-- What the loop has done: j elements are copied. -/
structure Done (w wr : World) (ts : List Bat) (n j : Nat) (F : Nat → Value) : Prop where
  mine : Mine wr 118 7 w.heap.size n F
  bel : Below w.heap.size w wr
  cells : ∀ i, i < j → ∀ q, q < 7 → F (i * 7 + q) = batsCells ts (fun i => F (i * 7 + 6)) i q
  inner : ∀ i, i < j → RecsAt wr (w.heap.size + 1) wr.heap.size (F (i * 7 + 6)) (ts.getD i default).recs

theorem Done.step {w wr w1 : World} {ts : List Bat} {n j : Nat} {F : Nat → Value} (h : Done w wr ts n j F) (hj : j < n) (hv : Value) (b1 : Below wr.heap.size wr w1) (hh : RecsAt w1 wr.heap.size w1.heap.size hv (ts.getD j default).recs) :
    Done w (w1.setCells w.heap.size (j * 7) (BatW.batArr (ts.getD j default) hv).toList) ts n (j + 1) (Own.upd F (j * 7) (BatW.batArr (ts.getD j default) hv).toList) := by
  have hlt := h.mine.lt
  have keep : ∀ g, g ≠ w.heap.size → (w1.setCells w.heap.size (j * 7) (BatW.batArr (ts.getD j default) hv).toList).heap[g]? = w1.heap[g]? := fun g hg => Cells.heap_setCells_other _ _ hg
  have hsize := Cells.size_setCells (g := w.heap.size) (BatW.batArr (ts.getD j default) hv).toList (o := j * 7) w1
  have hcell : ∀ q, q < 7 → Own.upd F (j * 7) (BatW.batArr (ts.getD j default) hv).toList (j * 7 + q) = (BatW.batArr (ts.getD j default) hv).toList.getD q default := fun q hq => Own.upd_in (by simp [BatW.batArr]; omega)
  have hold : ∀ i, i < j → ∀ q, q < 7 → Own.upd F (j * 7) (BatW.batArr (ts.getD j default) hv).toList (i * 7 + q) = F (i * 7 + q) := fun i hi q hq => Own.upd_out (.inl (by omega))
  refine ⟨Own.mine_setCells _ _ _ _ (h.mine.below b1 hlt), ?_, ?_, ?_⟩
  · exact Cells.below_setCells (Nat.le_refl _) _ _ _ _ (chain h.bel b1)
  · intro i hi q hq
    by_cases he : i = j
    · subst he
      rw [hcell q hq]
      match q, hq with
      | 0, _ => rfl
      | 1, _ => rfl
      | 2, _ => rfl
      | 3, _ => rfl
      | 4, _ => rfl
      | 5, _ => rfl
      | 6, _ => show hv = _; exact (hcell 6 (by omega)).symm
    · rw [hold i (by omega) q hq, h.cells i (by omega) q hq]
      unfold batsCells
      show _ = (if _ then _ else if _ then _ else if _ then _ else if _ then _ else if _ then _ else if _ then _ else Own.upd F (j * 7) (BatW.batArr (ts.getD j default) hv).toList (i * 7 + 6))
      rw [hold i (by omega) 6 (by omega)]
  · intro i hi
    by_cases he : i = j
    · subst he
      rw [hcell 6 (by omega)]
      show RecsAt _ _ _ hv _
      exact (hh.keep fun g h1 h2 => keep g (by omega)).mono (by omega) (by omega)
    · rw [hold i (by omega) 6 (by omega)]
      exact (((h.inner i (by omega)).below b1).keep fun g h1 h2 => keep g (by omega)).mono (Nat.le_refl _) (by rw [hsize]; exact b1.size)

set_option maxHeartbeats 800000 in
theorem toBatchS_core (g o n c b lo : Nat) (ts : List Bat) (H : Nat → Value) (w : World) (hn : n ≤ 1048576) (hc : n ≤ c) (hg : g < w.heap.size) (hb : b ≤ w.heap.size)
    (hf : ∀ i, i < n → FewB (ts.getD i default)) (hh : ∀ i, i < n → RecsAt w lo b (H i) (ts.getD i default).recs)
    (ha : ∀ i, i < n → ∀ j, j < 7 → w.cell? ⟨g, o + i * 7 + j, none⟩ = some (batsCells ts H i j)) :
    Calls Try.prog 138 #[.slice (some ⟨g, o, none⟩) n c] w fun e w' => ∃ F, e = .returned (.slice (some ⟨w.heap.size, 0, none⟩) n n) ∧ Done w w' ts n n F := by
  obtain ⟨i0, hi, hz0, hz1, hz2⟩ := info_parts info6
  have HA := Seg.hid ha; have HK := Seg.hid hf; have HH := Seg.hid hh
  clear ha hf hh
  go_enter Try.func138, Try.ntmps138
  go_wp2_with (at_make; refine wpList_make_full _ rfl _ _ 113 rfl w.heap.size 118 i0 _ 7 Try.underlying113 hi hz0 hz1 .i64 .i64 _ _ n rfl rfl rfl rfl (by rw [hz2]; omega) (by unfold maxLen; omega) (Nat.le_refl _) ?_; intro w1 hown hgr)
  have hb1 := (Below.refl w.heap.size w).grown hgr (Nat.le_refl _) (fun k hk => by cases hk)
  have HM := Seg.hid (Mine.of_made hown hown.1)
  have HB := Seg.hid hb1
  clear hown hgr hb1 hi hz0 hz1 hz2
  go_loopw [4] (fun i wr => ∃ (j : Nat) (F : Nat → Value), j ≤ n ∧ i = .int .i64 j ∧ Done w wr ts n j F) (fun i _ => n - (intOf i).toNat)
  case atStart => exact ⟨0, _, Nat.zero_le _, rfl, HM.out, HB.out, fun i hi => absurd hi (by omega), fun i hi => absurd hi (by omega)⟩
  case round =>
    clear HM HB
    obtain ⟨j, F, hj, rfl, HR⟩ := hrel
    by_cases hlt : j < n
    · obtain ⟨c0, c1, c2, c3, c4, c5, c6⟩ := six (six' HA.out HR.bel hg) j hlt
      have RA : Hid (BatAt wr lo b (.agg #[.int .i64 (ts.getD j default).base, .int .i64 (ts.getD j default).epoch, .int .i64 (ts.getD j default).producer, .int .i64 (ts.getD j default).turn, .int .i64 (ts.getD j default).seq, .int .i64 (ts.getD j default).flags, H j]) (ts.getD j default)) := ⟨_, rfl, (HH.out j hlt).below (HR.bel.mono hb)⟩
      have FW := Seg.hid (HK.out j hlt)
      have hbr : b ≤ wr.heap.size := Nat.le_trans hb HR.bel.size
      have ST := Seg.hid (fun w1 hv b1 hh => Done.step (w1 := w1) HR hlt hv b1 hh)
      have HM := Seg.hid HR.mine
      have h0 : (0 : Int) ≤ (j : Int) := by omega
      have h1 : (j : Int) < (n : Int) := by omega
      clear HR
      generalize ts.getD j default = rj at *
      go_wp2_with fail
      refine (BatW.toBatch_any _ rj wr lo b RA.out hbr FW.out).mono ?_
      rintro e w1 ⟨v1, rfl, ⟨hv1, rfl, hh1⟩, b1⟩
      have S1 := Seg.hid (ST.out w1 hv1 b1 hh1)
      have M1 := Seg.hid (Own.mine_there (o := j * 7) (m := 7) (HM.out.below b1 HM.out.lt) (by omega))
      obtain ⟨_, ⟨_, A1, k1, rfl, _⟩, _⟩ := hh1
      clear b1
      have M2 : Hid (w1.there w.heap.size (j * 7) (BatW.batArr rj (.slice A1 rj.recs.length k1)).size) := M1.out
      clear M1
      rw [show batVal rj (.slice A1 rj.recs.length k1) = .agg (BatW.batArr rj (.slice A1 rj.recs.length k1)) from rfl]
      go_wp2_with (refine wpList_store_mid rfl 118 _ _ rfl w.heap.size (j * 7) (BatW.batArr rj (.slice A1 rj.recs.length k1)) rfl rfl ?ht BatW.info40 (BatW.batArr_one _ _ rfl) ?_; case ht => exact M2.out)
      go_roundw
      case rel => exact ⟨j + 1, _, by omega, by go_num, S1.out⟩
      case measure => simp [intOf]; omega
    · have : j = n := by omega
      subst this
      go_wp2
      go_ret
      exact ⟨F, rfl, HR⟩

theorem toBatchS_any (v : Value) (ts : List Bat) (w : World) (lo b : Nat) (hv : BatsAt w lo b v ts) (hb : b ≤ w.heap.size) (hl : ts.length ≤ 1048576) (hf : ∀ i, i < ts.length → FewB (ts.getD i default)) :
    Calls Try.prog 138 #[v] w fun e w' => ∃ v', e = .returned v' ∧ BatsAt w' w.heap.size w'.heap.size v' ts ∧ Below w.heap.size w w' := by
  obtain ⟨H, ⟨hn, A, c, rfl, h⟩, hh⟩ := hv
  by_cases hz : ts.length = 0
  · rw [hz]
    refine (toBatchS_none A c w).mono fun e w' ⟨v', a1, ⟨A', c', a2⟩, a3⟩ => ⟨v', a1, ⟨H, ⟨hn, A', c', ?_, .inl hz⟩, fun i hi => absurd hi (by omega)⟩, a3⟩
    rw [a2, hz]
  obtain ⟨g, o, rfl, hg, hc, hcell, _⟩ := h.resolve_left hz
  refine (toBatchS_core g o ts.length c b lo ts H w hl hc (by omega) hb hf hh hcell).mono fun e w' ⟨F, a1, a2⟩ => ⟨_, a1, ⟨fun i => F (i * 7 + 6), ?_, ?_⟩, a2.bel⟩
  · exact a2.mine.row hn a2.mine.lt (Nat.le_refl _) a2.cells
  · exact fun i hi => (a2.inner i hi).mono (by omega) (Nat.le_refl _)

theorem eqBatchS_none (A A' : Option Addr) (c c' : Nat) (w : World) :
    Calls Try.prog 141 #[.slice A 0 c, .slice A' 0 c'] w fun e w' => e = .returned (.bool true) ∧ Below w.heap.size w w' := by
  go_enter Try.func141, Try.ntmps141
  go_wp2
  go_loop [5] (fun i => i = .int .i64 0) (fun _ => 0)
  case atStart => rfl
  case round =>
    subst hrel
    go_wp2
    go_ret
    exact ⟨rfl, Below.refl _ _⟩

set_option maxHeartbeats 800000 in
theorem eqBatchS_core (g o g' o' n c c' lo lo' b : Nat) (ts : List Bat) (H H' : Nat → Value) (w : World) (hn : n ≤ 9223372036854775807) (hc : n ≤ c) (hc' : n ≤ c') (hg : g < w.heap.size) (hg' : g' < w.heap.size) (hb : b ≤ w.heap.size)
    (hh : ∀ i, i < n → RecsAt w lo b (H i) (ts.getD i default).recs) (hh' : ∀ i, i < n → RecsAt w lo' b (H' i) (ts.getD i default).recs)
    (ha : ∀ i, i < n → ∀ j, j < 7 → w.cell? ⟨g, o + i * 7 + j, none⟩ = some (batsCells ts H i j)) (ha' : ∀ i, i < n → ∀ j, j < 7 → w.cell? ⟨g', o' + i * 7 + j, none⟩ = some (batsCells ts H' i j)) :
    Calls Try.prog 141 #[.slice (some ⟨g, o, none⟩) n c, .slice (some ⟨g', o', none⟩) n c'] w fun e w' => e = .returned (.bool true) ∧ Below w.heap.size w w' := by
  have HA := Seg.hid ha; have HA' := Seg.hid ha'; have HH := Seg.hid hh; have HH' := Seg.hid hh'
  clear ha ha' hh hh'
  go_enter Try.func141, Try.ntmps141
  go_wp2
  go_loopw [5] (fun i wr => ∃ (k : Nat), k ≤ n ∧ i = .int .i64 k ∧ Hid (Below w.heap.size w wr)) (fun i _ => n - (intOf i).toNat)
  case atStart => exact ⟨0, Nat.zero_le _, rfl, Below.refl _ _⟩
  case round =>
    obtain ⟨k, hk, rfl, HB⟩ := hrel
    by_cases hlt2 : k < n
    · obtain ⟨c0, c1, c2, c3, c4, c5, c6⟩ := six (six' HA.out HB.out hg) k hlt2
      obtain ⟨d0, d1, d2, d3, d4, d5, d6⟩ := six (six' HA'.out HB.out hg') k hlt2
      have RA : Hid (BatAt wr.drew lo b (.agg #[.int .i64 (ts.getD k default).base, .int .i64 (ts.getD k default).epoch, .int .i64 (ts.getD k default).producer, .int .i64 (ts.getD k default).turn, .int .i64 (ts.getD k default).seq, .int .i64 (ts.getD k default).flags, H k]) (ts.getD k default)) := ⟨_, rfl, (HH.out k hlt2).below (HB.out.drew.mono hb)⟩
      have RB : Hid (BatAt wr.drew lo' b (.agg #[.int .i64 (ts.getD k default).base, .int .i64 (ts.getD k default).epoch, .int .i64 (ts.getD k default).producer, .int .i64 (ts.getD k default).turn, .int .i64 (ts.getD k default).seq, .int .i64 (ts.getD k default).flags, H' k]) (ts.getD k default)) := ⟨_, rfl, (HH'.out k hlt2).below (HB.out.drew.mono hb)⟩
      have hbr : b ≤ wr.heap.size := Nat.le_trans hb HB.out.size
      have h0 : (0 : Int) ≤ (k : Int) := by omega
      have h1 : (k : Int) < (n : Int) := by omega
      generalize ts.getD k default = rk at *
      go_wp2_with fail
      go_region_with (go_at_call 145; refine (BatW.eqBatch_any _ _ rk wr.drew lo lo' b RA.out RB.out hbr).mono ?_; rintro e w1 ⟨rfl, b1⟩; have B1 : Hid (Below w.heap.size w w1) := chainD HB.out b1; clear b1)
      all_goals
        go_wp2
        go_roundw
        case rel => exact ⟨k + 1, by omega, by go_num, B1.out⟩
        case measure => simp [intOf]; omega
    · have : k = n := by omega
      subst this
      go_wp2
      go_ret
      exact ⟨rfl, HB.out⟩

theorem eqBatchS_any (v v' : Value) (ts : List Bat) (w : World) (lo lo' b : Nat) (hv : BatsAt w lo b v ts) (hv' : BatsAt w lo' b v' ts) (hb : b ≤ w.heap.size) :
    Calls Try.prog 141 #[v, v'] w fun e w' => e = .returned (.bool true) ∧ Below w.heap.size w w' := by
  obtain ⟨H, ⟨hn, A, c, rfl, h⟩, hh⟩ := hv
  obtain ⟨H', ⟨_, A', c', rfl, h'⟩, hh'⟩ := hv'
  by_cases hz : ts.length = 0
  · rw [hz]
    exact eqBatchS_none A A' c c' w
  obtain ⟨g, o, rfl, hg, hc, hcell, _⟩ := h.resolve_left hz
  obtain ⟨g', o', rfl, hg', hc', hcell', _⟩ := h'.resolve_left hz
  exact eqBatchS_core g o g' o' ts.length c c' lo lo' b ts H H' w hn hc hc' (by omega) (by omega) hb hh hh' hcell hcell'
end Go.Proofs.Ytdhicmbfknagjaa.Bats
