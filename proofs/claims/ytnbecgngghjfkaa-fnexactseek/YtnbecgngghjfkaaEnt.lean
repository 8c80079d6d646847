/- Entries: as plain data, how they lie in memory, and what the law's helpers over them answer. -/
import Derived.Test.YtnbecgngghjfkaaInB
import Derived.Test.YtnbecgngghjfkaaRecs
namespace Go.Proofs.Ytnbecgngghjfkaa.Ent
set_option maxRecDepth 8000
open Go.RowKit
open Recs (Row Mine hsz below1 below2 below3 at3 chainD)
set_option linter.unusedVariables false
structure En where
  off : Int
  time : Int
  place : Int
  deriving Inhabited
def enCells (es : List En) (i j : Nat) : Value := if j = 0 then .int .i64 (es.getD i default).off else if j = 1 then .int .i64 (es.getD i default).time else .int .i64 (es.getD i default).place
def Ens (w : World) (lo b : Nat) (v : Value) (es : List En) : Prop := Row w lo b 3 v es.length (enCells es)
def env (a b c : Int) : Value := .agg #[.int .i64 a, .int .i64 b, .int .i64 c]
theorem row3 {F : Nat → Value} {A B C : Nat → Int} {i : Nat} (h : F (i * 3) = .int .i64 (A i) ∧ F (i * 3 + 1) = .int .i64 (B i) ∧ F (i * 3 + 2) = .int .i64 (C i)) (q : Nat) (hq : q < 3) : F (i * 3 + q) = if q = 0 then .int .i64 (A i) else if q = 1 then .int .i64 (B i) else .int .i64 (C i) := by
  match q, hq with
  | 0, _ => exact h.1
  | 1, _ => exact h.2.1
  | 2, _ => exact h.2.2
theorem info3 : (Try.prog.info? 42).map (·.size) = some 3 := by kernel_rfl
theorem toEntry_any (a b c : Int) (w : World) : Calls Try.prog 20 #[.agg #[.int .i64 a, .int .i64 b, .int .i64 c]] w fun e w' => e = .returned (.agg #[.int .i64 a, .int .i64 b, .int .i64 c]) ∧ Below w.heap.size w w' := by
  go_enter Try.func20, Try.ntmps20
  go_wp2
  exact bodyPost_ret (v := .agg #[.int .i64 a, .int .i64 b, .int .i64 c]) (results_cell_row rfl _ _ (w.heap.size + 1) _ _ _ _ rfl (at3 _ _ _ _) Try.underlying42 rfl info3) rfl ⟨rfl, below3 _ _ _ _⟩
theorem eqEntry_any (a b c : Int) (w : World) : Calls Try.prog 24 #[.agg #[.int .i64 a, .int .i64 b, .int .i64 c], .agg #[.int .i64 a, .int .i64 b, .int .i64 c]] w fun e w' => e = .returned (.bool true) ∧ Below w.heap.size w w' := by
  go_enter Try.func24, Try.ntmps24
  go_wp2
  go_ret
  exact ⟨rfl, below2 _ _ _⟩
theorem szEntryS_any (A : Option Addr) (n c : Nat) (w : World) (hn : n ≤ 9223372036854775807) : Calls Try.prog 10 #[.slice A n c, .int .i64 1048576] w fun e w' => (∃ r : Int, e = .returned (.int .i64 r) ∧ (r < 0 ∨ (n : Int) ≤ 1048576 ∧ 0 ≤ r)) ∧ w = w' := by
  go_enter Try.func10, Try.ntmps10
  go_wp2
  all_goals
    go_ret
    exact ⟨⟨_, rfl, by omega⟩, rfl⟩
theorem infoE : (Try.prog.info? 42).map (fun i => (i.zero, i.size, i.bytes)) = some (some (.agg #[.int .i64 0, .int .i64 0, .int .i64 0]), 3, 24) := by kernel_rfl

set_option maxHeartbeats 400000 in
theorem toEntryS_core (g o n c : Nat) (A B C : Nat → Int) (w : World) (hn : n ≤ 1048576) (hc : n ≤ c) (hg : g < w.heap.size)
    (ha : ∀ i, i < n → w.cell? ⟨g, o + i * 3, none⟩ = some (.int .i64 (A i)) ∧ w.cell? ⟨g, o + i * 3 + 1, none⟩ = some (.int .i64 (B i)) ∧ w.cell? ⟨g, o + i * 3 + 2, none⟩ = some (.int .i64 (C i))) :
    Calls Try.prog 12 #[.slice (some ⟨g, o, none⟩) n c] w fun e w' => ∃ v, e = .returned v ∧ Row w' w.heap.size w'.heap.size 3 v n (fun i j => if j = 0 then .int .i64 (A i) else if j = 1 then .int .i64 (B i) else .int .i64 (C i)) ∧ Below w.heap.size w w' := by
  obtain ⟨i0, hi, hz0, hz1, hz2⟩ := info_parts infoE
  have HA := Seg.hid ha
  clear ha
  go_enter Try.func12, Try.ntmps12
  go_wp2_with (at_make; refine wpList_make_full _ rfl _ _ 33 rfl w.heap.size 42 i0 _ 3 Try.underlying33 hi hz0 hz1 .i64 .i64 _ _ n rfl rfl rfl rfl (by rw [hz2]; omega) (by unfold maxLen; omega) (Nat.le_refl _) ?_; intro w1 hown hgr)
  have hb1 := (Below.refl w.heap.size w).grown hgr (Nat.le_refl _) (fun k hk => by cases hk)
  have HM := Seg.hid (Mine.of_made hown hown.1)
  have HB := Seg.hid hb1
  clear hown hgr hb1 hi hz0 hz1 hz2
  go_loopw [4] (fun i wr => ∃ (j : Nat) (F : Nat → Value), j ≤ n ∧ i = .int .i64 j ∧ Hid (Mine wr 42 3 w.heap.size n F ∧ Below w.heap.size w wr ∧ ∀ i, i < j → F (i * 3) = .int .i64 (A i) ∧ F (i * 3 + 1) = .int .i64 (B i) ∧ F (i * 3 + 2) = .int .i64 (C i))) (fun i _ => n - (intOf i).toNat)
  case atStart => exact ⟨0, _, Nat.zero_le _, rfl, HM.out, HB.out, fun i hi => absurd hi (by omega)⟩
  case round =>
    clear HM HB
    obtain ⟨j, F, hj, rfl, HR⟩ := hrel
    by_cases hlt : j < n
    · have c1 : wr.cell? ⟨g, o + j * 3, none⟩ = some (.int .i64 (A j)) := by rw [HR.out.2.1.cell (p := ⟨g, o + j * 3, none⟩) hg]; exact (HA.out j hlt).1
      have c2 : wr.cell? ⟨g, o + j * 3 + 1, none⟩ = some (.int .i64 (B j)) := by rw [HR.out.2.1.cell (p := ⟨g, o + j * 3 + 1, none⟩) hg]; exact (HA.out j hlt).2.1
      have c3 : wr.cell? ⟨g, o + j * 3 + 2, none⟩ = some (.int .i64 (C j)) := by rw [HR.out.2.1.cell (p := ⟨g, o + j * 3 + 2, none⟩) hg]; exact (HA.out j hlt).2.2
      have h0 : (0 : Int) ≤ (j : Int) := by omega
      have h1 : (j : Int) < (n : Int) := by omega
      go_wp2_with fail
      refine (toEntry_any (A j) (B j) (C j) wr).mono ?_
      rintro e w1 ⟨rfl, b1⟩
      have M1 : Hid (Mine w1 42 3 w.heap.size n F) := HR.out.1.below b1 HR.out.1.lt
      have B1 := Seg.hid (HR.out.2.1.trans (b1.mono HR.out.2.1.size))
      clear b1
      have d1 := M1.out.cell (j * 3) (by omega)
      have d2 := M1.out.cell (j * 3 + 1) (by omega)
      have d3 := M1.out.cell (j * 3 + 2) (by omega)
      have f1 := M1.out.frozen (j * 3)
      have f2 := M1.out.frozen (j * 3 + 1)
      have f3 := M1.out.frozen (j * 3 + 2)
      have M2 := Seg.hid (((M1.out.set (j * 3) (.int .i64 (A j))).set (j * 3 + 1) (.int .i64 (B j))).set (j * 3 + 2) (.int .i64 (C j)))
      have B2 := Seg.hid (((B1.out.setCell (p := ⟨w.heap.size, j * 3, none⟩) (Nat.le_refl _) (.int .i64 (A j))).setCell (p := ⟨w.heap.size, j * 3 + 1, none⟩) (Nat.le_refl _) (.int .i64 (B j))).setCell (p := ⟨w.heap.size, j * 3 + 2, none⟩) (Nat.le_refl _) (.int .i64 (C j)))
      go_wp2
      go_roundw
      case rel =>
        refine ⟨j + 1, _, by omega, by go_num, M2.out, B2.out, fun i hi => ?_⟩
        have hr := HR.out.2.2
        by_cases he : i = j
        · subst he; simp
        · have := hr i (by omega)
          simp [show ¬ i * 3 = j * 3 + 1 by omega, show ¬ i * 3 = j * 3 + 2 by omega, show ¬ i * 3 = j * 3 by omega, show ¬ i * 3 + 1 = j * 3 by omega, show ¬ i * 3 + 2 = j * 3 by omega, show ¬ i * 3 + 2 = j * 3 + 1 by omega, this]
      case measure => simp [intOf]; omega
    · have : j = n := by omega
      subst this
      go_wp2
      go_ret
      exact ⟨_, rfl, HR.out.1.row (by omega) HR.out.1.lt (Nat.le_refl _) (fun i hi q hq => row3 (HR.out.2.2 i hi) q hq), HR.out.2.1⟩

set_option maxHeartbeats 400000 in
theorem toEntryS_none (A : Option Addr) (c : Nat) (w : World) :
    Calls Try.prog 12 #[.slice A 0 c] w fun e w' => ∃ v, e = .returned v ∧ (∃ A c, v = .slice A 0 c) ∧ Below w.heap.size w w' := by
  obtain ⟨i0, hi, hz0, hz1, hz2⟩ := info_parts infoE
  go_enter Try.func12, Try.ntmps12
  go_wp2_with (at_make; refine wpList_make_full _ rfl _ _ 33 rfl w.heap.size 42 i0 _ 3 Try.underlying33 hi hz0 hz1 .i64 .i64 _ _ 0 rfl rfl rfl rfl (by omega) (by unfold maxLen; omega) (Nat.le_refl _) ?_; intro w1 hown hgr)
  have hb1 := (Below.refl w.heap.size w).grown hgr (Nat.le_refl _) (fun k hk => by cases hk)
  have HB := Seg.hid hb1
  clear hown hgr hb1 hi hz0 hz1 hz2
  go_loop [4] (fun i => i = .int .i64 0) (fun i => 0)
  case atStart => rfl
  case round =>
    subst hrel
    go_wp2
    go_ret
    exact ⟨_, rfl, ⟨_, _, rfl⟩, HB.out⟩
theorem cell0 {w : World} {g o : Nat} {es : List En} (h : ∀ i, i < es.length → ∀ j, j < 3 → w.cell? ⟨g, o + i * 3 + j, none⟩ = some (enCells es i j)) (i : Nat) (hi : i < es.length) :
    w.cell? ⟨g, o + i * 3, none⟩ = some (.int .i64 (es.getD i default).off) ∧ w.cell? ⟨g, o + i * 3 + 1, none⟩ = some (.int .i64 (es.getD i default).time) ∧ w.cell? ⟨g, o + i * 3 + 2, none⟩ = some (.int .i64 (es.getD i default).place) := ⟨h i hi 0 (by omega), h i hi 1 (by omega), h i hi 2 (by omega)⟩

theorem toEntryS_any (v : Value) (es : List En) (w : World) (lo b : Nat) (hv : Ens w lo b v es) (hb : b ≤ w.heap.size) (hl : es.length ≤ 1048576) :
    Calls Try.prog 12 #[v] w fun e w' => ∃ v', e = .returned v' ∧ Ens w' w.heap.size w'.heap.size v' es ∧ Below w.heap.size w w' := by
  obtain ⟨hn, A, c, rfl, h⟩ := hv
  by_cases hz : es.length = 0
  · rw [hz]
    refine (toEntryS_none A c w).mono fun e w' ⟨v', a1, ⟨A', c', a2⟩, a3⟩ => ⟨v', a1, ⟨hn, A', c', ?_, .inl hz⟩, a3⟩
    rw [a2, hz]
  obtain ⟨g, o, rfl, hg, hc, hcell, _⟩ := h.resolve_left hz
  exact toEntryS_core g o es.length c (fun i => (es.getD i default).off) (fun i => (es.getD i default).time) (fun i => (es.getD i default).place) w hl hc (by omega) (fun i hi => cell0 hcell i hi)

theorem eqEntryS_none (A A' : Option Addr) (c c' : Nat) (w : World) :
    Calls Try.prog 14 #[.slice A 0 c, .slice A' 0 c'] w fun e w' => e = .returned (.bool true) ∧ Below w.heap.size w w' := by
  go_enter Try.func14, Try.ntmps14
  go_wp2
  go_loop [5] (fun i => i = .int .i64 0) (fun _ => 0)
  case atStart => rfl
  case round =>
    subst hrel
    go_wp2
    go_ret
    exact ⟨rfl, Below.refl _ _⟩

set_option maxHeartbeats 400000 in
theorem eqEntryS_core (g o g' o' n c c' : Nat) (A B C : Nat → Int) (w : World) (hn : n ≤ 9223372036854775807) (hc : n ≤ c) (hc' : n ≤ c') (hg : g < w.heap.size) (hg' : g' < w.heap.size)
    (ha : ∀ i, i < n → w.cell? ⟨g, o + i * 3, none⟩ = some (.int .i64 (A i)) ∧ w.cell? ⟨g, o + i * 3 + 1, none⟩ = some (.int .i64 (B i)) ∧ w.cell? ⟨g, o + i * 3 + 2, none⟩ = some (.int .i64 (C i)))
    (ha' : ∀ i, i < n → w.cell? ⟨g', o' + i * 3, none⟩ = some (.int .i64 (A i)) ∧ w.cell? ⟨g', o' + i * 3 + 1, none⟩ = some (.int .i64 (B i)) ∧ w.cell? ⟨g', o' + i * 3 + 2, none⟩ = some (.int .i64 (C i))) :
    Calls Try.prog 14 #[.slice (some ⟨g, o, none⟩) n c, .slice (some ⟨g', o', none⟩) n c'] w fun e w' => e = .returned (.bool true) ∧ Below w.heap.size w w' := by
  have HA := Seg.hid ha; have HA' := Seg.hid ha'
  clear ha ha'
  go_enter Try.func14, Try.ntmps14
  go_wp2
  go_loopw [5] (fun i wr => ∃ (k : Nat), k ≤ n ∧ i = .int .i64 k ∧ Hid (Below w.heap.size w wr)) (fun i _ => n - (intOf i).toNat)
  case atStart => exact ⟨0, Nat.zero_le _, rfl, Below.refl _ _⟩
  case round =>
    obtain ⟨k, hk, rfl, HB⟩ := hrel
    by_cases hlt2 : k < n
    · have c1 : wr.cell? ⟨g, o + k * 3, none⟩ = some (.int .i64 (A k)) := by rw [HB.out.cell (p := ⟨g, o + k * 3, none⟩) hg]; exact (HA.out k hlt2).1
      have c2 : wr.cell? ⟨g, o + k * 3 + 1, none⟩ = some (.int .i64 (B k)) := by rw [HB.out.cell (p := ⟨g, o + k * 3 + 1, none⟩) hg]; exact (HA.out k hlt2).2.1
      have c3 : wr.cell? ⟨g, o + k * 3 + 2, none⟩ = some (.int .i64 (C k)) := by rw [HB.out.cell (p := ⟨g, o + k * 3 + 2, none⟩) hg]; exact (HA.out k hlt2).2.2
      have d1 : wr.cell? ⟨g', o' + k * 3, none⟩ = some (.int .i64 (A k)) := by rw [HB.out.cell (p := ⟨g', o' + k * 3, none⟩) hg']; exact (HA'.out k hlt2).1
      have d2 : wr.cell? ⟨g', o' + k * 3 + 1, none⟩ = some (.int .i64 (B k)) := by rw [HB.out.cell (p := ⟨g', o' + k * 3 + 1, none⟩) hg']; exact (HA'.out k hlt2).2.1
      have d3 : wr.cell? ⟨g', o' + k * 3 + 2, none⟩ = some (.int .i64 (C k)) := by rw [HB.out.cell (p := ⟨g', o' + k * 3 + 2, none⟩) hg']; exact (HA'.out k hlt2).2.2
      have h0 : (0 : Int) ≤ (k : Int) := by omega
      have h1 : (k : Int) < (n : Int) := by omega
      go_wp2_with fail
      go_region_with (go_at_call 24; refine (eqEntry_any _ _ _ _).mono ?_; rintro e w1 ⟨rfl, b1⟩; have B1 : Hid (Below w.heap.size w w1) := chainD HB.out b1; clear b1)
      all_goals
        go_wp2
        go_roundw
        case rel => exact ⟨k + 1, by omega, by go_num, B1.out⟩
        case measure => simp [intOf]; omega
    · have : k = n := by omega
      subst this
      go_wp2
      go_ret
      exact ⟨rfl, HB.out⟩

theorem eqEntryS_any (v v' : Value) (es : List En) (w : World) (lo lo' b : Nat) (hv : Ens w lo b v es) (hv' : Ens w lo' b v' es) (hb : b ≤ w.heap.size) :
    Calls Try.prog 14 #[v, v'] w fun e w' => e = .returned (.bool true) ∧ Below w.heap.size w w' := by
  obtain ⟨hn, A, c, rfl, h⟩ := hv
  obtain ⟨_, A', c', rfl, h'⟩ := hv'
  by_cases hz : es.length = 0
  · rw [hz]
    exact eqEntryS_none A A' c c' w
  obtain ⟨g, o, rfl, hg, hc, hcell, _⟩ := h.resolve_left hz
  obtain ⟨g', o', rfl, hg', hc', hcell', _⟩ := h'.resolve_left hz
  exact eqEntryS_core g o g' o' es.length c c' (fun i => (es.getD i default).off) (fun i => (es.getD i default).time) (fun i => (es.getD i default).place) w hn hc hc' (by omega) (by omega) (fun i hi => cell0 hcell i hi) (fun i hi => cell0 hcell' i hi)
end Go.Proofs.Ytnbecgngghjfkaa.Ent
