/- The search by halves. -/
import Derived.Test.YteaiceeapambdaaSrW
namespace Go.Proofs.Yteaiceeapambdaa.SrW
set_option maxRecDepth 8000
open Go.RowKit
open Recs (hsz below1 below2 chain chainD BatAt RecsAt)
open Bats SegW Segs LogW SrP
set_option linter.unusedVariables false
/-- The search by halves, over a question that stays yes once it is. -/
theorem found_step {p : Nat → Bool} {n i j : Nat} (h : i = j) (hj : j ≤ n) (h1 : ∀ x, x < i → p x = false) (h2 : ∀ x, j ≤ x → x < n → p x = true) : Fnd p n i := ⟨by omega, h1, fun hi => h2 i (by omega) hi⟩
set_option maxHeartbeats 800000 in
theorem search_seg (A : Option Addr) (c h1 h2 : Nat) (x : Int) (ss : List Sg) (w : World) (lo b : Nat) (hv : SegsAt w lo b (.slice A ss.length c) ss) (hb : b ≤ w.heap.size) (hl : ∀ i, i < ss.length → (ss.getD i default).bats.length ≤ 1048576) (hok : ∀ i, i < ss.length → ∀ k, k < (ss.getD i default).bats.length → BOk.batOk ((ss.getD i default).bats.getD k default) = true)
    (hm : ∀ i j, i ≤ j → j < ss.length → pS x (ss.getD i default) = true → pS x (ss.getD j default) = true)
    (hn : ss.length ≤ 1048576) (c1 : w.cell? ⟨h1, 0, none⟩ = some (.slice A ss.length c)) (c2 : w.cell? ⟨h2, 0, none⟩ = some (.int .i64 x)) (l1 : h1 < w.heap.size) (l2 : h2 < w.heap.size) :
    Calls Try.prog 44 #[.int .i64 ss.length, .func (.func 45) #[] #[.pointer (some ⟨h1, 0, none⟩), .pointer (some ⟨h2, 0, none⟩)]] w fun e w' => ∃ r : Nat, e = .returned (.int .i64 r) ∧ Fnd (fun i => pS x (ss.getD i default)) ss.length r ∧ Below w.heap.size w w' := by
  have ASK : Hid (∀ wr (i : Nat), Below w.heap.size w wr → i < ss.length → Calls Try.prog 45 #[.int .i64 i, .pointer (some ⟨h1, 0, none⟩), .pointer (some ⟨h2, 0, none⟩)] wr fun e w' => e = .returned (.bool (pS x (ss.getD i default))) ∧ Below wr.heap.size wr w') := fun wr i bl hi =>
    ask_seg A c h1 h2 i x ss wr lo b (hv.below (bl.mono hb)) (Nat.le_trans hb bl.size) hi (hl i hi) (hok i hi) hn ((bl.cell (p := ⟨h1, 0, none⟩) l1).trans c1) ((bl.cell (p := ⟨h2, 0, none⟩) l2).trans c2) (Nat.lt_of_lt_of_le l1 bl.size) (Nat.lt_of_lt_of_le l2 bl.size)
  have HM := Seg.hid hm
  clear hv hl hok hm c1 c2
  go_enter Try.func44, Try.ntmps44
  go_wp2_with fail
  go_loopw [5, 6] (fun vi vj wr => ∃ (i j : Nat), i ≤ j ∧ j ≤ ss.length ∧ vi = .int .i64 i ∧ vj = .int .i64 j ∧ Hid ((∀ y, y < i → pS x (ss.getD y default) = false) ∧ (∀ y, j ≤ y → y < ss.length → pS x (ss.getD y default) = true) ∧ Below w.heap.size w wr)) (fun vi vj _ => (intOf vj).toNat - (intOf vi).toNat)
  case atStart => exact ⟨0, ss.length, Nat.zero_le _, Nat.le_refl _, rfl, rfl, fun y hy => absurd hy (by omega), fun y hy hy2 => absurd hy (by omega), Below.refl _ _⟩
  case round =>
    obtain ⟨i, j, hij, hjn, rfl, rfl, HW⟩ := hrel
    by_cases hlt : i < j
    · have q0 : (i : Int) < (j : Int) := by omega
      go_wp2_with fail
      obtain ⟨m, hmd⟩ : ∃ m : Nat, ((i : Int) + (j : Int)) / 2 = (m : Int) := ⟨(i + j) / 2, by omega⟩
      have m1 : i ≤ m := by omega
      have m2 : m < j := by omega
      rw [hmd]
      clear hmd
      refine (ASK.out wr m HW.out.2.2 (by omega)).mono ?_
      rintro e w1 ⟨rfl, b1⟩
      have B1 := Seg.hid (chain HW.out.2.2 b1)
      clear b1
      cases hp : pS x (ss.getD m default) with
      | false =>
        have N1 : Hid (∀ y, y < m + 1 → pS x (ss.getD y default) = false) := fun y hy => by
          cases hq : pS x (ss.getD y default) with
          | false => rfl
          | true => rw [HM.out y m (by omega) (by omega) hq] at hp; cases hp
        clear hp
        go_wp2_with fail
        go_roundw
        case rel => exact ⟨m + 1, j, by omega, hjn, by go_num, rfl, N1.out, HW.out.2.1, B1.out⟩
        case measure => simp [intOf]; omega
      | true =>
        have N1 : Hid (∀ y, m ≤ y → y < ss.length → pS x (ss.getD y default) = true) := fun y hy hy2 => HM.out m y hy hy2 hp
        clear hp
        go_wp2_with fail
        go_roundw
        case rel => exact ⟨i, m, by omega, by omega, rfl, rfl, HW.out.1, N1.out, B1.out⟩
        case measure => simp [intOf]; omega
    · have hij' : i = j := by omega
      have FD := Seg.hid (found_step hij' hjn HW.out.1 HW.out.2.1)
      have BL := Seg.hid HW.out.2.2
      have q0 : ¬ (i : Int) < (j : Int) := by omega
      clear HW hij'
      go_wp2_with fail
      go_ret
      exact ⟨i, rfl, FD.out, BL.out⟩
set_option maxHeartbeats 800000 in
theorem search_bat (A : Option Addr) (c h1 h2 : Nat) (x : Int) (ss : List Recs.Bat) (w : World) (lo b : Nat) (hv : BatsAt w lo b (.slice A ss.length c) ss) (hb : b ≤ w.heap.size) (hok : ∀ i, i < ss.length → BOk.batOk (ss.getD i default) = true)
    (hm : ∀ i j, i ≤ j → j < ss.length → pB x (ss.getD i default) = true → pB x (ss.getD j default) = true)
    (hn : ss.length ≤ 1048576) (c1 : w.cell? ⟨h1, 0, none⟩ = some (.slice A ss.length c)) (c2 : w.cell? ⟨h2, 0, none⟩ = some (.int .i64 x)) (l1 : h1 < w.heap.size) (l2 : h2 < w.heap.size) :
    Calls Try.prog 44 #[.int .i64 ss.length, .func (.func 46) #[] #[.pointer (some ⟨h1, 0, none⟩), .pointer (some ⟨h2, 0, none⟩)]] w fun e w' => ∃ r : Nat, e = .returned (.int .i64 r) ∧ Fnd (fun i => pB x (ss.getD i default)) ss.length r ∧ Below w.heap.size w w' := by
  have ASK : Hid (∀ wr (i : Nat), Below w.heap.size w wr → i < ss.length → Calls Try.prog 46 #[.int .i64 i, .pointer (some ⟨h1, 0, none⟩), .pointer (some ⟨h2, 0, none⟩)] wr fun e w' => e = .returned (.bool (pB x (ss.getD i default))) ∧ Below wr.heap.size wr w') := fun wr i bl hi =>
    ask_bat A c h1 h2 i x ss wr lo b (hv.below (bl.mono hb)) (Nat.le_trans hb bl.size) hi (hok i hi) hn ((bl.cell (p := ⟨h1, 0, none⟩) l1).trans c1) ((bl.cell (p := ⟨h2, 0, none⟩) l2).trans c2) (Nat.lt_of_lt_of_le l1 bl.size) (Nat.lt_of_lt_of_le l2 bl.size)
  have HM := Seg.hid hm
  clear hv hok hm c1 c2
  go_enter Try.func44, Try.ntmps44
  go_wp2_with fail
  go_loopw [5, 6] (fun vi vj wr => ∃ (i j : Nat), i ≤ j ∧ j ≤ ss.length ∧ vi = .int .i64 i ∧ vj = .int .i64 j ∧ Hid ((∀ y, y < i → pB x (ss.getD y default) = false) ∧ (∀ y, j ≤ y → y < ss.length → pB x (ss.getD y default) = true) ∧ Below w.heap.size w wr)) (fun vi vj _ => (intOf vj).toNat - (intOf vi).toNat)
  case atStart => exact ⟨0, ss.length, Nat.zero_le _, Nat.le_refl _, rfl, rfl, fun y hy => absurd hy (by omega), fun y hy hy2 => absurd hy (by omega), Below.refl _ _⟩
  case round =>
    obtain ⟨i, j, hij, hjn, rfl, rfl, HW⟩ := hrel
    by_cases hlt : i < j
    · have q0 : (i : Int) < (j : Int) := by omega
      go_wp2_with fail
      obtain ⟨m, hmd⟩ : ∃ m : Nat, ((i : Int) + (j : Int)) / 2 = (m : Int) := ⟨(i + j) / 2, by omega⟩
      have m1 : i ≤ m := by omega
      have m2 : m < j := by omega
      rw [hmd]
      clear hmd
      refine (ASK.out wr m HW.out.2.2 (by omega)).mono ?_
      rintro e w1 ⟨rfl, b1⟩
      have B1 := Seg.hid (chain HW.out.2.2 b1)
      clear b1
      cases hp : pB x (ss.getD m default) with
      | false =>
        have N1 : Hid (∀ y, y < m + 1 → pB x (ss.getD y default) = false) := fun y hy => by
          cases hq : pB x (ss.getD y default) with
          | false => rfl
          | true => rw [HM.out y m (by omega) (by omega) hq] at hp; cases hp
        clear hp
        go_wp2_with fail
        go_roundw
        case rel => exact ⟨m + 1, j, by omega, hjn, by go_num, rfl, N1.out, HW.out.2.1, B1.out⟩
        case measure => simp [intOf]; omega
      | true =>
        have N1 : Hid (∀ y, m ≤ y → y < ss.length → pB x (ss.getD y default) = true) := fun y hy hy2 => HM.out m y hy hy2 hp
        clear hp
        go_wp2_with fail
        go_roundw
        case rel => exact ⟨i, m, by omega, by omega, rfl, rfl, HW.out.1, N1.out, B1.out⟩
        case measure => simp [intOf]; omega
    · have hij' : i = j := by omega
      have FD := Seg.hid (found_step hij' hjn HW.out.1 HW.out.2.1)
      have BL := Seg.hid HW.out.2.2
      have q0 : ¬ (i : Int) < (j : Int) := by omega
      clear HW hij'
      go_wp2_with fail
      go_ret
      exact ⟨i, rfl, FD.out, BL.out⟩

set_option maxHeartbeats 800000 in
theorem segmentAt_any (v : Value) (x : Int) (ss : List Sg) (w : World) (lo b : Nat) (hv : SegsAt w lo b v ss) (hb : b ≤ w.heap.size) (hl : ∀ i, i < ss.length → (ss.getD i default).bats.length ≤ 1048576) (hok : ∀ i, i < ss.length → ∀ k, k < (ss.getD i default).bats.length → BOk.batOk ((ss.getD i default).bats.getD k default) = true)
    (hm : ∀ i j, i ≤ j → j < ss.length → pS x (ss.getD i default) = true → pS x (ss.getD j default) = true) (hn : ss.length ≤ 1048576) :
    Calls Try.prog 37 #[v, .int .i64 x] w fun e w' => ∃ r : Nat, e = .returned (.int .i64 r) ∧ Fnd (fun i => pS x (ss.getD i default)) ss.length r ∧ Below w.heap.size w w' := by
  have HV := Seg.hid hv; have HL := Seg.hid hl; have HO := Seg.hid hok; have HM := Seg.hid hm
  obtain ⟨_, ⟨_, A, c, rfl, _⟩, _⟩ := id hv
  clear hv hl hok hm
  go_enter Try.func37, Try.ntmps37
  go_wp2_with fail
  refine (search_seg A c w.heap.size (w.heap.size + 1) x ss ((w.alloc _).alloc _) lo b (HV.out.below ((below2 w _ _).mono hb)) (by rw [hsz, hsz]; omega) HL.out HO.out HM.out hn (cell_of_row _ w.heap.size 0 #[.slice A ss.length c] _ (0, 0) ((heap_alloc_old _ _ (by rw [hsz]; omega)).trans (heap_alloc_new _ _))) (cell_of_row _ (w.heap.size + 1) 0 #[.int .i64 x] _ (0, 0) (by have := heap_alloc_new (w.alloc (.cells #[.slice A ss.length c] 28 (0, 0))) (.cells #[.int .i64 x] 3 (0, 0)); rw [hsz] at this; exact this)) (by rw [hsz, hsz]; omega) (by rw [hsz, hsz]; omega)).mono ?_
  rintro e w1 ⟨r, rfl, hF, b1⟩
  have F1 := Seg.hid hF
  have B1 := Seg.hid (chain (below2 w _ _) b1)
  clear hF b1
  go_wp2_with fail
  go_ret
  exact ⟨r, rfl, F1.out, B1.out⟩
set_option maxHeartbeats 800000 in
theorem batchAt_any (v : Value) (x : Int) (ss : List Recs.Bat) (w : World) (lo b : Nat) (hv : BatsAt w lo b v ss) (hb : b ≤ w.heap.size) (hok : ∀ i, i < ss.length → BOk.batOk (ss.getD i default) = true)
    (hm : ∀ i j, i ≤ j → j < ss.length → pB x (ss.getD i default) = true → pB x (ss.getD j default) = true) (hn : ss.length ≤ 1048576) :
    Calls Try.prog 38 #[v, .int .i64 x] w fun e w' => ∃ r : Nat, e = .returned (.int .i64 r) ∧ Fnd (fun i => pB x (ss.getD i default)) ss.length r ∧ Below w.heap.size w w' := by
  have HV := Seg.hid hv; have HO := Seg.hid hok; have HM := Seg.hid hm
  obtain ⟨_, ⟨_, A, c, rfl, _⟩, _⟩ := id hv
  clear hv hok hm
  go_enter Try.func38, Try.ntmps38
  go_wp2_with fail
  refine (search_bat A c w.heap.size (w.heap.size + 1) x ss ((w.alloc _).alloc _) lo b (HV.out.below ((below2 w _ _).mono hb)) (by rw [hsz, hsz]; omega) HO.out HM.out hn (cell_of_row _ w.heap.size 0 #[.slice A ss.length c] _ (0, 0) ((heap_alloc_old _ _ (by rw [hsz]; omega)).trans (heap_alloc_new _ _))) (cell_of_row _ (w.heap.size + 1) 0 #[.int .i64 x] _ (0, 0) (by have := heap_alloc_new (w.alloc (.cells #[.slice A ss.length c] 36 (0, 0))) (.cells #[.int .i64 x] 3 (0, 0)); rw [hsz] at this; exact this)) (by rw [hsz, hsz]; omega) (by rw [hsz, hsz]; omega)).mono ?_
  rintro e w1 ⟨r, rfl, hF, b1⟩
  have F1 := Seg.hid hF
  have B1 := Seg.hid (chain (below2 w _ _) b1)
  clear hF b1
  go_wp2_with fail
  go_ret
  exact ⟨r, rfl, F1.out, B1.out⟩
end Go.Proofs.Yteaiceeapambdaa.SrW
