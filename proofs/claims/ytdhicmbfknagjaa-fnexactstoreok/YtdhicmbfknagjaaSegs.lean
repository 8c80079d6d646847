/- Lists of Segmentes: how they lie in memory, and what the law's helpers answer. -/
import Derived.Test.YtdhicmbfknagjaaSegW
namespace Go.Proofs.Ytdhicmbfknagjaa.Segs
set_option maxRecDepth 8000
open Go.RowKit
open Recs
open Bats SegW
set_option linter.unusedVariables false
/-- How many Batches k Segments have. -/
def tot (ts : List Sg) : Nat → Nat
  | 0 => 0
  | k + 1 => tot ts k + (ts.getD k default).bats.length
def segsCells (ts : List Sg) (H : Nat → Value) (i j : Nat) : Value := if j = 0 then .int .i64 (ts.getD i default).base else H i
def SegsAt (w : World) (lo b : Nat) (v : Value) (ts : List Sg) : Prop := ∃ H : Nat → Value, Row w lo b 2 v ts.length (segsCells ts H) ∧ ∀ i, i < ts.length → BatsAt w lo b (H i) (ts.getD i default).bats
section
variable {w w' : World} {lo lo' b b' : Nat} {v : Value} {ts : List Sg}
theorem SegsAt.keep (h : SegsAt w lo b v ts) (hk : ∀ g, lo ≤ g → g < b → w'.heap[g]? = w.heap[g]?) : SegsAt w' lo b v ts := by
  obtain ⟨H, h1, h2⟩ := h
  exact ⟨H, h1.keep hk, fun i hi => (h2 i hi).keep hk⟩
theorem SegsAt.below (h : SegsAt w lo b v ts) (hb : Below b w w') : SegsAt w' lo b v ts := h.keep fun g _ hg => hb.block g hg
theorem SegsAt.mono (h : SegsAt w lo b v ts) (hl : lo' ≤ lo) (hb : b ≤ b') : SegsAt w lo' b' v ts := by
  obtain ⟨H, h1, h2⟩ := h
  exact ⟨H, h1.mono hl hb, fun i hi => (h2 i hi).mono hl hb⟩
theorem SegsAt.drewN (h : SegsAt w lo b v ts) (k : Nat) : SegsAt (w.drewN k) lo b v ts := h
end
/-- The six cells of element i. -/
theorem six {w : World} {g o n : Nat} {ts : List Sg} {H : Nat → Value} (h : ∀ i, i < n → ∀ j, j < 2 → w.cell? ⟨g, o + i * 2 + j, none⟩ = some (segsCells ts H i j)) (i : Nat) (hi : i < n) :
    w.cell? ⟨g, o + i * 2, none⟩ = some (.int .i64 (ts.getD i default).base) ∧ w.cell? ⟨g, o + i * 2 + 1, none⟩ = some (H i) :=
  ⟨h i hi 0 (by omega), h i hi 1 (by omega)⟩
/-- .. in a later world. -/
theorem six' {w w' : World} {g o n : Nat} {ts : List Sg} {H : Nat → Value} (h : ∀ i, i < n → ∀ j, j < 2 → w.cell? ⟨g, o + i * 2 + j, none⟩ = some (segsCells ts H i j)) (hb : Below w.heap.size w w') (hg : g < w.heap.size) :
    ∀ i, i < n → ∀ j, j < 2 → w'.cell? ⟨g, o + i * 2 + j, none⟩ = some (segsCells ts H i j) := fun i hi j hj => by rw [hb.cell (p := ⟨g, o + i * 2 + j, none⟩) hg]; exact h i hi j hj

theorem szSegmentS_none (A : Option Addr) (c : Nat) (l : Int) (w : World) (h3 : -1 ≤ l) (h4 : l ≤ 1048576) :
    Calls Try.prog 103 #[.slice A 0 c, .int .i64 l] w fun e w' => ∃ r, e = .returned (.int .i64 r) ∧ -1 ≤ r ∧ r ≤ l ∧ Below w.heap.size w w' := by
  go_enter Try.func103, Try.ntmps103
  by_cases hlt : l < 0
  · go_wp2
    go_ret
    exact ⟨_, rfl, by omega, by omega, Below.refl _ _⟩
  go_wp2
  go_loop [1, 5] (fun x i => i = .int .i64 0 ∧ ∃ r, x = .int .i64 r ∧ 0 ≤ r ∧ r ≤ l) (fun _ _ => 0)
  case atStart => exact ⟨rfl, _, rfl, by omega, by omega⟩
  case round =>
    obtain ⟨rfl, r, rfl, hr0, hr1⟩ := hrel
    go_wp2
    go_ret
    exact ⟨r, rfl, by omega, by omega, Below.refl _ _⟩

set_option maxHeartbeats 400000 in
theorem szSegmentS_core (g o n c b : Nat) (ts : List Sg) (H : Nat → Value) (l : Int) (w : World) (h3 : -1 ≤ l) (h4 : l ≤ 1048576) (hn : n ≤ 9223372036854775807) (hc : n ≤ c) (hg : g < w.heap.size) (lo : Nat) (hb : b ≤ w.heap.size)
    (hf : ∀ i, i < n → FineS (ts.getD i default)) (hh : ∀ i, i < n → BatsAt w lo b (H i) (ts.getD i default).bats)
    (ha : ∀ i, i < n → ∀ j, j < 2 → w.cell? ⟨g, o + i * 2 + j, none⟩ = some (segsCells ts H i j)) :
    Calls Try.prog 103 #[.slice (some ⟨g, o, none⟩) n c, .int .i64 l] w fun e w' => ∃ r, e = .returned (.int .i64 r) ∧ -1 ≤ r ∧ r ≤ l ∧ (0 ≤ r → ((n : Int) ≤ l ∧ ∀ i, i < n → FewS (ts.getD i default)) ∧ (tot ts n : Int) + r ≤ l) ∧ Below w.heap.size w w' := by
  have HA := Seg.hid ha
  have HK := Seg.hid hf
  have HH := Seg.hid hh
  clear ha hf hh
  go_enter Try.func103, Try.ntmps103
  by_cases hlt : l - (n : Int) < 0
  · go_wp2
    go_ret
    exact ⟨_, rfl, by omega, by omega, fun h => absurd h (by omega), Below.refl _ _⟩
  go_wp2
  go_loopw [1, 5] (fun x i wr => ∃ (k : Nat) (r : Int), k ≤ n ∧ x = .int .i64 r ∧ i = .int .i64 k ∧ 0 ≤ r ∧ r + (n : Int) ≤ l ∧ Hid ((Below w.heap.size w wr ∧ ∀ i, i < k → FewS (ts.getD i default)) ∧ (tot ts k : Int) + r ≤ l)) (fun _ i _ => n - (intOf i).toNat)
  case atStart => exact ⟨0, l - n, Nat.zero_le _, rfl, rfl, by omega, by omega, ⟨Below.refl _ _, fun i hi => absurd hi (by omega)⟩, by simp [tot]; omega⟩
  case round =>
    obtain ⟨k, r, hk, rfl, rfl, hr0, hr1, HB'⟩ := hrel
    have HB := Seg.hid HB'.out.1
    have HT := Seg.hid HB'.out.2
    clear HB'
    by_cases hlt2 : k < n
    · obtain ⟨c0, c1⟩ := six (six' HA.out HB.out.1 hg) k hlt2
      have RA : Hid (SegAt wr lo b (.agg #[.int .i64 (ts.getD k default).base, H k]) (ts.getD k default)) := ⟨_, rfl, (HH.out k hlt2).below (HB.out.1.mono hb)⟩
      have h0 : (0 : Int) ≤ (k : Int) := by omega
      have h1 : (k : Int) < (n : Int) := by omega
      have hbr : b ≤ wr.heap.size := Nat.le_trans hb HB.out.1.size
      have hts : Hid (tot ts (k + 1) = tot ts k + (ts.getD k default).bats.length) := rfl
      generalize hrk : ts.getD k default = rk at *
      go_wp2_with fail
      refine (SegW.szSegment_any _ rk r wr lo b (by omega) (by omega) RA.out hbr (hrk ▸ HK.out k hlt2)).mono ?_
      rintro e w1 ⟨r1, rfl, hr2, hr3, hfw, b1⟩
      have B1 := Seg.hid (chain HB.out.1 b1)
      have FW := Seg.hid hfw
      clear b1 hfw
      by_cases hneg : r1 < 0
      · go_wp2
        go_ret
        exact ⟨-1, rfl, by omega, by omega, fun h => absurd h (by omega), B1.out⟩
      · go_wp2
        go_roundw
        case rel =>
          refine ⟨k + 1, r1, by omega, rfl, by go_num, by omega, by omega, ⟨B1.out, fun i hi => ?_⟩, ?_⟩
          · by_cases he : i = k
            · subst he; rw [hrk]; exact (FW.out (by omega)).1
            · exact HB.out.2 i (by omega)
          · have a1 := (FW.out (by omega)).2
            have a2 := HT.out
            rw [hts.out]
            omega
        case measure => simp [intOf]; omega
    · have : k = n := by omega
      subst this
      go_wp2
      go_ret
      exact ⟨r, rfl, by omega, by omega, fun _ => ⟨⟨by omega, HB.out.2⟩, HT.out⟩, HB.out.1⟩

theorem szSegmentS_any (v : Value) (ts : List Sg) (l : Int) (w : World) (lo b : Nat) (h3 : -1 ≤ l) (h4 : l ≤ 1048576) (hv : SegsAt w lo b v ts) (hb : b ≤ w.heap.size) (hf : ∀ i, i < ts.length → FineS (ts.getD i default)) :
    Calls Try.prog 103 #[v, .int .i64 l] w fun e w' => ∃ r, e = .returned (.int .i64 r) ∧ -1 ≤ r ∧ r ≤ l ∧ (0 ≤ r → ((ts.length : Int) ≤ l ∧ ∀ i, i < ts.length → FewS (ts.getD i default)) ∧ (tot ts ts.length : Int) + r ≤ l) ∧ Below w.heap.size w w' := by
  obtain ⟨H, ⟨hn, A, c, rfl, h⟩, hh⟩ := hv
  by_cases hz : ts.length = 0
  · rw [hz]
    exact (szSegmentS_none A c l w h3 h4).mono fun e w' ⟨r, a1, a2, a3, a4⟩ => ⟨r, a1, a2, a3, fun h => ⟨⟨by omega, fun i hi => absurd hi (by omega)⟩, by simp [tot]; omega⟩, a4⟩
  obtain ⟨g, o, rfl, hg, hc, hcell, _⟩ := h.resolve_left hz
  exact szSegmentS_core g o ts.length c b ts H l w h3 h4 hn hc (by omega) lo hb hf hh hcell
theorem info6 : (Try.prog.info? 115).map (fun i => (i.zero, i.size, i.bytes)) = some (some (.agg #[.int .i64 0, .slice none 0 0]), 2, 32) := by kernel_rfl

set_option maxHeartbeats 400000 in
theorem toSegmentS_none (A : Option Addr) (c : Nat) (w : World) :
    Calls Try.prog 106 #[.slice A 0 c] w fun e w' => ∃ v, e = .returned v ∧ (∃ A c, v = .slice A 0 c) ∧ Below w.heap.size w w' := by
  obtain ⟨i0, hi, hz0, hz1, hz2⟩ := info_parts info6
  go_enter Try.func106, Try.ntmps106
  go_wp2_with (at_make; refine wpList_make_full _ rfl _ _ 68 rfl w.heap.size 115 i0 _ 2 Try.underlying68 hi hz0 hz1 .i64 .i64 _ _ 0 rfl rfl rfl rfl (by omega) (by unfold maxLen; omega) (Nat.le_refl _) ?_; intro w1 hown hgr)
  have hb1 := (Below.refl w.heap.size w).grown hgr (Nat.le_refl _) (fun k hk => by cases hk)
  have HB := Seg.hid hb1
  clear hown hgr hb1 hi hz0 hz1 hz2
  go_loop [4] (fun i => i = .int .i64 0) (fun i => 0)
  case atStart => rfl
  case round =>
    subst hrel
    go_wp2
    go_ret
    exact ⟨_, rfl, ⟨_, _, rfl⟩, HB.out⟩

/-- What the loop has done: j elements are copied. -/
structure Done (w wr : World) (ts : List Sg) (n j : Nat) (F : Nat → Value) : Prop where
  mine : Mine wr 115 2 w.heap.size n F
  bel : Below w.heap.size w wr
  cells : ∀ i, i < j → ∀ q, q < 2 → F (i * 2 + q) = segsCells ts (fun i => F (i * 2 + 1)) i q
  inner : ∀ i, i < j → BatsAt wr (w.heap.size + 1) wr.heap.size (F (i * 2 + 1)) (ts.getD i default).bats

theorem Done.step {w wr w1 : World} {ts : List Sg} {n j : Nat} {F : Nat → Value} (h : Done w wr ts n j F) (hj : j < n) (hv : Value) (b1 : Below wr.heap.size wr w1) (hh : BatsAt w1 wr.heap.size w1.heap.size hv (ts.getD j default).bats) :
    Done w (w1.setCells w.heap.size (j * 2) (segArr (ts.getD j default) hv).toList) ts n (j + 1) (Own.upd F (j * 2) (segArr (ts.getD j default) hv).toList) := by
  have hlt := h.mine.lt
  have keep : ∀ g, g ≠ w.heap.size → (w1.setCells w.heap.size (j * 2) (segArr (ts.getD j default) hv).toList).heap[g]? = w1.heap[g]? := fun g hg => Cells.heap_setCells_other _ _ hg
  have hsize := Cells.size_setCells (g := w.heap.size) (segArr (ts.getD j default) hv).toList (o := j * 2) w1
  have hcell : ∀ q, q < 2 → Own.upd F (j * 2) (segArr (ts.getD j default) hv).toList (j * 2 + q) = (segArr (ts.getD j default) hv).toList.getD q default := fun q hq => Own.upd_in (by simp [segArr]; omega)
  have hold : ∀ i, i < j → ∀ q, q < 2 → Own.upd F (j * 2) (segArr (ts.getD j default) hv).toList (i * 2 + q) = F (i * 2 + q) := fun i hi q hq => Own.upd_out (.inl (by omega))
  refine ⟨Own.mine_setCells _ _ _ _ (h.mine.below b1 hlt), ?_, ?_, ?_⟩
  · exact Cells.below_setCells (Nat.le_refl _) _ _ _ _ (chain h.bel b1)
  · intro i hi q hq
    by_cases he : i = j
    · subst he
      rw [hcell q hq]
      match q, hq with
      | 0, _ => rfl
      | 1, _ => show hv = _; exact (hcell 1 (by omega)).symm
    · rw [hold i (by omega) q hq, h.cells i (by omega) q hq]
      unfold segsCells
      show _ = (if _ then _ else Own.upd F (j * 2) (segArr (ts.getD j default) hv).toList (i * 2 + 1))
      rw [hold i (by omega) 1 (by omega)]
  · intro i hi
    by_cases he : i = j
    · subst he
      rw [hcell 1 (by omega)]
      show BatsAt _ _ _ hv _
      exact (hh.keep fun g h1 h2 => keep g (by omega)).mono (by omega) (by omega)
    · rw [hold i (by omega) 1 (by omega)]
      exact (((h.inner i (by omega)).below b1).keep fun g h1 h2 => keep g (by omega)).mono (Nat.le_refl _) (by rw [hsize]; exact b1.size)

set_option maxHeartbeats 800000 in
theorem toSegmentS_core (g o n c b lo : Nat) (ts : List Sg) (H : Nat → Value) (w : World) (hn : n ≤ 1048576) (hc : n ≤ c) (hg : g < w.heap.size) (hb : b ≤ w.heap.size)
    (hf : ∀ i, i < n → FewS (ts.getD i default)) (hh : ∀ i, i < n → BatsAt w lo b (H i) (ts.getD i default).bats)
    (ha : ∀ i, i < n → ∀ j, j < 2 → w.cell? ⟨g, o + i * 2 + j, none⟩ = some (segsCells ts H i j)) :
    Calls Try.prog 106 #[.slice (some ⟨g, o, none⟩) n c] w fun e w' => ∃ F, e = .returned (.slice (some ⟨w.heap.size, 0, none⟩) n n) ∧ Done w w' ts n n F := by
  obtain ⟨i0, hi, hz0, hz1, hz2⟩ := info_parts info6
  have HA := Seg.hid ha; have HK := Seg.hid hf; have HH := Seg.hid hh
  clear ha hf hh
  go_enter Try.func106, Try.ntmps106
  go_wp2_with (at_make; refine wpList_make_full _ rfl _ _ 68 rfl w.heap.size 115 i0 _ 2 Try.underlying68 hi hz0 hz1 .i64 .i64 _ _ n rfl rfl rfl rfl (by rw [hz2]; omega) (by unfold maxLen; omega) (Nat.le_refl _) ?_; intro w1 hown hgr)
  have hb1 := (Below.refl w.heap.size w).grown hgr (Nat.le_refl _) (fun k hk => by cases hk)
  have HM := Seg.hid (Mine.of_made hown hown.1)
  have HB := Seg.hid hb1
  clear hown hgr hb1 hi hz0 hz1 hz2
  go_loopw [4] (fun i wr => ∃ (j : Nat) (F : Nat → Value), j ≤ n ∧ i = .int .i64 j ∧ Done w wr ts n j F) (fun i _ => n - (intOf i).toNat)
  case atStart => exact ⟨0, _, Nat.zero_le _, rfl, HM.out, HB.out, fun i hi => absurd hi (by omega), fun i hi => absurd hi (by omega)⟩
  case round =>
    clear HM HB
    obtain ⟨j, F, hj, rfl, HR⟩ := hrel
    by_cases hlt : j < n
    · obtain ⟨c0, c1⟩ := six (six' HA.out HR.bel hg) j hlt
      have RA : Hid (SegAt wr lo b (.agg #[.int .i64 (ts.getD j default).base, H j]) (ts.getD j default)) := ⟨_, rfl, (HH.out j hlt).below (HR.bel.mono hb)⟩
      have FW := Seg.hid (HK.out j hlt)
      have hbr : b ≤ wr.heap.size := Nat.le_trans hb HR.bel.size
      have ST := Seg.hid (fun w1 hv b1 hh => Done.step (w1 := w1) HR hlt hv b1 hh)
      have HM := Seg.hid HR.mine
      have h0 : (0 : Int) ≤ (j : Int) := by omega
      have h1 : (j : Int) < (n : Int) := by omega
      clear HR
      generalize ts.getD j default = rj at *
      go_wp2_with fail
      refine (SegW.toSegment_any _ rj wr lo b RA.out hbr FW.out).mono ?_
      rintro e w1 ⟨v1, rfl, ⟨hv1, rfl, hh1⟩, b1⟩
      have S1 := Seg.hid (ST.out w1 hv1 b1 hh1)
      have M1 := Seg.hid (Own.mine_there (o := j * 2) (m := 2) (HM.out.below b1 HM.out.lt) (by omega))
      obtain ⟨_, ⟨_, A1, k1, rfl, _⟩, _⟩ := hh1
      clear b1
      have M2 : Hid (w1.there w.heap.size (j * 2) (segArr rj (.slice A1 rj.bats.length k1)).size) := M1.out
      clear M1
      rw [show segVal rj (.slice A1 rj.bats.length k1) = .agg (segArr rj (.slice A1 rj.bats.length k1)) from rfl]
      go_wp2_with (refine wpList_store_mid rfl 115 _ _ rfl w.heap.size (j * 2) (segArr rj (.slice A1 rj.bats.length k1)) rfl rfl ?ht infoN (segArr_one _ _ rfl) ?_; case ht => exact M2.out)
      go_roundw
      case rel => exact ⟨j + 1, _, by omega, by go_num, S1.out⟩
      case measure => simp [intOf]; omega
    · have : j = n := by omega
      subst this
      go_wp2
      go_ret
      exact ⟨F, rfl, HR⟩

theorem toSegmentS_any (v : Value) (ts : List Sg) (w : World) (lo b : Nat) (hv : SegsAt w lo b v ts) (hb : b ≤ w.heap.size) (hl : ts.length ≤ 1048576) (hf : ∀ i, i < ts.length → FewS (ts.getD i default)) :
    Calls Try.prog 106 #[v] w fun e w' => ∃ v', e = .returned v' ∧ SegsAt w' w.heap.size w'.heap.size v' ts ∧ Below w.heap.size w w' := by
  obtain ⟨H, ⟨hn, A, c, rfl, h⟩, hh⟩ := hv
  by_cases hz : ts.length = 0
  · rw [hz]
    refine (toSegmentS_none A c w).mono fun e w' ⟨v', a1, ⟨A', c', a2⟩, a3⟩ => ⟨v', a1, ⟨H, ⟨hn, A', c', ?_, .inl hz⟩, fun i hi => absurd hi (by omega)⟩, a3⟩
    rw [a2, hz]
  obtain ⟨g, o, rfl, hg, hc, hcell, _⟩ := h.resolve_left hz
  refine (toSegmentS_core g o ts.length c b lo ts H w hl hc (by omega) hb hf hh hcell).mono fun e w' ⟨F, a1, a2⟩ => ⟨_, a1, ⟨fun i => F (i * 2 + 1), ?_, ?_⟩, a2.bel⟩
  · exact a2.mine.row hn a2.mine.lt (Nat.le_refl _) a2.cells
  · exact fun i hi => (a2.inner i hi).mono (by omega) (Nat.le_refl _)

theorem eqSegmentS_none (A A' : Option Addr) (c c' : Nat) (w : World) :
    Calls Try.prog 114 #[.slice A 0 c, .slice A' 0 c'] w fun e w' => e = .returned (.bool true) ∧ Below w.heap.size w w' := by
  go_enter Try.func114, Try.ntmps114
  go_wp2
  go_loop [5] (fun i => i = .int .i64 0) (fun _ => 0)
  case atStart => rfl
  case round =>
    subst hrel
    go_wp2
    go_ret
    exact ⟨rfl, Below.refl _ _⟩

set_option maxHeartbeats 800000 in
theorem eqSegmentS_core (g o g' o' n c c' lo lo' b : Nat) (ts : List Sg) (H H' : Nat → Value) (w : World) (hn : n ≤ 9223372036854775807) (hc : n ≤ c) (hc' : n ≤ c') (hg : g < w.heap.size) (hg' : g' < w.heap.size) (hb : b ≤ w.heap.size)
    (hh : ∀ i, i < n → BatsAt w lo b (H i) (ts.getD i default).bats) (hh' : ∀ i, i < n → BatsAt w lo' b (H' i) (ts.getD i default).bats)
    (ha : ∀ i, i < n → ∀ j, j < 2 → w.cell? ⟨g, o + i * 2 + j, none⟩ = some (segsCells ts H i j)) (ha' : ∀ i, i < n → ∀ j, j < 2 → w.cell? ⟨g', o' + i * 2 + j, none⟩ = some (segsCells ts H' i j)) :
    Calls Try.prog 114 #[.slice (some ⟨g, o, none⟩) n c, .slice (some ⟨g', o', none⟩) n c'] w fun e w' => e = .returned (.bool true) ∧ Below w.heap.size w w' := by
  have HA := Seg.hid ha; have HA' := Seg.hid ha'; have HH := Seg.hid hh; have HH' := Seg.hid hh'
  clear ha ha' hh hh'
  go_enter Try.func114, Try.ntmps114
  go_wp2
  go_loopw [5] (fun i wr => ∃ (k : Nat), k ≤ n ∧ i = .int .i64 k ∧ Hid (Below w.heap.size w wr)) (fun i _ => n - (intOf i).toNat)
  case atStart => exact ⟨0, Nat.zero_le _, rfl, Below.refl _ _⟩
  case round =>
    obtain ⟨k, hk, rfl, HB⟩ := hrel
    by_cases hlt2 : k < n
    · obtain ⟨c0, c1⟩ := six (six' HA.out HB.out hg) k hlt2
      obtain ⟨d0, d1⟩ := six (six' HA'.out HB.out hg') k hlt2
      have RA : Hid (SegAt wr.drew lo b (.agg #[.int .i64 (ts.getD k default).base, H k]) (ts.getD k default)) := ⟨_, rfl, (HH.out k hlt2).below (HB.out.drew.mono hb)⟩
      have RB : Hid (SegAt wr.drew lo' b (.agg #[.int .i64 (ts.getD k default).base, H' k]) (ts.getD k default)) := ⟨_, rfl, (HH'.out k hlt2).below (HB.out.drew.mono hb)⟩
      have hbr : b ≤ wr.heap.size := Nat.le_trans hb HB.out.size
      have h0 : (0 : Int) ≤ (k : Int) := by omega
      have h1 : (k : Int) < (n : Int) := by omega
      generalize ts.getD k default = rk at *
      go_wp2_with fail
      go_region_with (go_at_call 134; refine (SegW.eqSegment_any _ _ rk wr.drew lo lo' b RA.out RB.out hbr).mono ?_; rintro e w1 ⟨rfl, b1⟩; have B1 : Hid (Below w.heap.size w w1) := chainD HB.out b1; clear b1)
      all_goals
        go_wp2
        go_roundw
        case rel => exact ⟨k + 1, by omega, by go_num, B1.out⟩
        case measure => simp [intOf]; omega
    · have : k = n := by omega
      subst this
      go_wp2
      go_ret
      exact ⟨rfl, HB.out⟩

theorem eqSegmentS_any (v v' : Value) (ts : List Sg) (w : World) (lo lo' b : Nat) (hv : SegsAt w lo b v ts) (hv' : SegsAt w lo' b v' ts) (hb : b ≤ w.heap.size) :
    Calls Try.prog 114 #[v, v'] w fun e w' => e = .returned (.bool true) ∧ Below w.heap.size w w' := by
  obtain ⟨H, ⟨hn, A, c, rfl, h⟩, hh⟩ := hv
  obtain ⟨H', ⟨_, A', c', rfl, h'⟩, hh'⟩ := hv'
  by_cases hz : ts.length = 0
  · rw [hz]
    exact eqSegmentS_none A A' c c' w
  obtain ⟨g, o, rfl, hg, hc, hcell, _⟩ := h.resolve_left hz
  obtain ⟨g', o', rfl, hg', hc', hcell', _⟩ := h'.resolve_left hz
  exact eqSegmentS_core g o g' o' ts.length c c' lo lo' b ts H H' w hn hc hc' (by omega) (by omega) hb hh hh' hcell hcell'
end Go.Proofs.Ytdhicmbfknagjaa.Segs
