/- What the law's own copier answers: the same bytes in memory of its own. -/
import Derived.Test.YtadfaeihpfjfcaaSame
namespace Go.Proofs.Ytadfaeihpfjfcaa.To
open Go.RowKit
open Seg (Own B marks)
set_option linter.unusedVariables false
theorem infoB : (Try.prog.info? 5).map (fun i => (i.zero, i.size, i.bytes)) = some (some (.int .u8 0), 1, 1) := by kernel_rfl
theorem made_B (n : Nat) : (madeCells (Value.int .u8 0).cells (n * 1)).toList = B ((List.range 0).map (fun _ => (0 : Int)) ++ List.replicate (n - 0) 0) := by
  rw [Nat.mul_one]
  show (madeCells #[Value.int .u8 0] n).toList = _
  rw [toList_madeCells_one]
  simp [B]
theorem step (f : Nat → Int) (n j : Nat) (h : j < n) : ((List.range j).map f ++ List.replicate (n - j) 0).set j (f j) = (List.range (j + 1)).map f ++ List.replicate (n - (j + 1)) 0 := by
  rw [List.set_append_right _ _ (by simp), List.length_map, List.length_range, Nat.sub_self]
  obtain ⟨m, hm⟩ : ∃ m, n - j = m + 1 := ⟨n - j - 1, by omega⟩
  have : n - (j + 1) = m := by omega
  rw [hm, this, List.replicate_succ, List.set_cons_zero, List.range_succ]
  simp

set_option maxHeartbeats 400000 in
theorem to_core (b o n c : Nat) (f : Nat → Int) (w : World) (hn : n ≤ 1048576) (hc1 : n ≤ c)
    (ha : ∀ i, i < n → w.cell? ⟨b, o + i, none⟩ = some (.int .u8 (f i))) (hb : b < w.heap.size) :
    Calls Try.prog 5 #[.slice (some ⟨b, o, none⟩) n c] w fun e w' => ∃ g cap, e = .returned (.slice (some ⟨g, 0, none⟩) n cap) ∧
      w'.ownsRow w.heap.size 5 1 (.slice (some ⟨g, 0, none⟩) n cap) n (B ((List.range n).map f)) ∧ Below w.heap.size w w' := by
  obtain ⟨i0, hi, hz0, hz1, hz2⟩ := info_parts infoB
  have HA := Seg.hid ha
  clear ha
  go_enter Try.func5, Try.ntmps5
  go_wp2_with (at_make; refine wpList_make_full _ rfl _ _ 22 rfl w.heap.size 5 i0 (.int .u8 0) 1 Try.underlying22 hi hz0 hz1 .i64 .i64 _ _ n rfl rfl rfl rfl (by rw [hz2]; omega) (by unfold maxLen; omega) (Nat.le_refl _) ?_; intro w1 hown hgr)
  rw [made_B] at hown
  have hb1 := (Below.refl w.heap.size w).grown hgr (Nat.le_refl _) (fun k hk => by cases hk)
  have HO := Seg.hid hown
  have HB := Seg.hid hb1
  clear hown hgr hb1 hi hz0 hz1 hz2
  go_loopw [4] (fun i wr => ∃ j : Nat, j ≤ n ∧ i = .int .i64 j ∧ wr.ownsRow w.heap.size 5 1 (.slice (some ⟨w.heap.size, 0, none⟩) n n) n (B ((List.range j).map f ++ List.replicate (n - j) 0)) ∧ Below w.heap.size w wr) (fun i _ => n - (intOf i).toNat)
  case atStart => exact ⟨0, Nat.zero_le _, rfl, HO.out, HB.out⟩
  case round =>
    clear HO HB
    obtain ⟨j, hj, rfl, hown, hbel⟩ := hrel
    by_cases hlt : j < n
    · have ca : wr.cell? ⟨b, o + j, none⟩ = some (.int .u8 (f j)) := by rw [hbel.cell (p := ⟨b, o + j, none⟩) hb]; exact HA.out j hlt
      have hc := Seg.owns_cell hown j hlt
      have hf := hown.frozenAt j
      have hst := hown.stored j (.int .u8 (f j))
      have HS : Hid ((wr.setCell ⟨w.heap.size, j, none⟩ (.int .u8 (f j))).ownsRow w.heap.size 5 1 (.slice (some ⟨w.heap.size, 0, none⟩) n n) n (B ((List.range (j + 1)).map f ++ List.replicate (n - (j + 1)) 0))) := by
        have := hst.1
        rw [B, ← List.map_set, step f n j hlt] at this
        exact this
      have HG : Hid (Below w.heap.size w (wr.setCell ⟨w.heap.size, j, none⟩ (.int .u8 (f j)))) := hbel.setCell (Nat.le_refl _) _
      clear hst hown hbel
      have h0 : (0 : Int) ≤ (j : Int) := by omega
      have h1 : (j : Int) < (n : Int) := by omega
      go_wp2
      go_roundw
      case rel => exact ⟨j + 1, by omega, by go_num, HS.out, HG.out⟩
      case measure => simp [intOf]; omega
    · have : j = n := by omega
      subst this
      have HO : Hid (wr.ownsRow w.heap.size 5 1 (.slice (some ⟨w.heap.size, 0, none⟩) j j) j (B ((List.range j).map f))) := by
        have := hown
        rw [Nat.sub_self, List.replicate_zero, List.append_nil] at this
        exact this
      have HG := Seg.hid hbel
      clear hown hbel
      go_wp2
      go_ret
      exact ⟨w.heap.size, j, rfl, HO.out, HG.out⟩

set_option maxHeartbeats 400000 in
theorem to_nil (A : Option Addr) (c : Nat) (w : World) :
    Calls Try.prog 5 #[.slice A 0 c] w fun e w' => ∃ g cap, e = .returned (.slice (some ⟨g, 0, none⟩) 0 cap) ∧
      w'.ownsRow w.heap.size 5 1 (.slice (some ⟨g, 0, none⟩) 0 cap) 0 (B []) ∧ Below w.heap.size w w' := by
  obtain ⟨i0, hi, hz0, hz1, hz2⟩ := info_parts infoB
  go_enter Try.func5, Try.ntmps5
  go_wp2_with (at_make; refine wpList_make_full _ rfl _ _ 22 rfl w.heap.size 5 i0 (.int .u8 0) 1 Try.underlying22 hi hz0 hz1 .i64 .i64 _ _ 0 rfl rfl rfl rfl (by omega) (by unfold maxLen; omega) (Nat.le_refl _) ?_; intro w1 hown hgr)
  rw [made_B] at hown
  have hb1 := (Below.refl w.heap.size w).grown hgr (Nat.le_refl _) (fun k hk => by cases hk)
  have HO := Seg.hid hown
  have HB := Seg.hid hb1
  clear hown hgr hb1 hi hz0 hz1 hz2
  go_loop [4] (fun i => i = .int .i64 0) (fun i => 0)
  case atStart => rfl
  case round =>
    subst hrel
    go_wp2
    go_ret
    exact ⟨w.heap.size, 0, rfl, HO.out, HB.out⟩

theorem to_any (a : Value) (l : List Int) (w : World) (ha : Seg.Seg w a l) (hl : l.length ≤ 1048576) (hin : l.length = 0 ∨ ∀ g, a.ownBlock = some g → g < w.heap.size) :
    Calls Try.prog 5 #[a] w fun e w' => ∃ g cap, e = .returned (.slice (some ⟨g, 0, none⟩) l.length cap) ∧
      w'.ownsRow w.heap.size 5 1 (.slice (some ⟨g, 0, none⟩) l.length cap) l.length (B l) ∧ Below w.heap.size w w' := by
  obtain ⟨_, ha⟩ := ha
  rcases ha with ⟨A, c, rfl, rfl⟩ | ⟨g, o, cap, rfl, h2, h3, h4⟩
  · exact to_nil A c w
  · have hf : (List.range l.length).map (fun i => l.getD i 0) = l := List.ext_getElem (by simp) fun i h1 h2 => by simp at h1; simp [h1]
    by_cases hz : l.length = 0
    · obtain rfl : l = [] := List.length_eq_zero_iff.1 hz
      exact to_nil _ cap w
    refine (to_core g o l.length cap (fun i => l.getD i 0) w hl h2 h4 ((hin.resolve_left hz) g rfl)).mono fun e w' h => ?_
    rw [hf] at h
    exact h
end Go.Proofs.Ytadfaeihpfjfcaa.To
