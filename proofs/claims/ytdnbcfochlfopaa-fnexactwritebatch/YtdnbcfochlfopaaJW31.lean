/- What the law's own helpers answer: whether two runs of bytes are alike, the marking of a run, the asking of the marks; What the law's own copier answers: the same bytes in memory of its own. -/
import Derived.RegionTactic
import Derived.Maps.AppendAt
import Derived.Outline
import Derived.Test.YtdnbcfochlfopaaRows
import Derived.Test.YtdnbcfochlfopaaJW02
namespace Go.Proofs.Ytdnbcfochlfopaa.Same
open Go.RowKit
open Seg (Own B marks)
set_option linter.unusedVariables false

theorem eq_unlike (A A' : Option Addr) (n n' c c' : Nat) (w : World) (h : ((n : Int) != (n' : Int)) = true) (h1 : n ≤ 140737488355328) (h2 : n' ≤ 140737488355328) :
    Calls Try.prog 20 #[.slice A n c, .slice A' n' c'] w fun e w' => e = .returned (.bool false) ∧ ∃ n, w' = w.drewN n := by
  go_enter Try.func20, Try.ntmps20
  go_wp2
  go_ret
  exact ⟨rfl, 0, rfl⟩

set_option maxHeartbeats 400000 in
theorem eq_none (A A' : Option Addr) (c c' : Nat) (w : World) :
    Calls Try.prog 20 #[.slice A 0 c, .slice A' 0 c'] w fun e w' => e = .returned (.bool true) ∧ ∃ n, w' = w.drewN n := by
  go_enter Try.func20, Try.ntmps20
  go_wp2
  go_loop [5] (fun i => i = .int .i64 0) (fun _ => 0)
  case atStart => rfl
  case round =>
    subst hrel
    go_wp2
    go_ret
    exact ⟨rfl, 0, rfl⟩

set_option maxHeartbeats 400000 in
theorem eq_core (g o g' o' n c c' : Nat) (fa fb : Nat → Int) (w : World) (hn : n ≤ 140737488355328) (hc1 : n ≤ c) (hc2 : n ≤ c')
    (ha : ∀ i, i < n → w.cell? ⟨g, o + i, none⟩ = some (.int .u8 (fa i))) (hb : ∀ i, i < n → w.cell? ⟨g', o' + i, none⟩ = some (.int .u8 (fb i))) :
    Calls Try.prog 20 #[.slice (some ⟨g, o, none⟩) n c, .slice (some ⟨g', o', none⟩) n c'] w fun e w' => (∃ b, e = .returned (.bool b) ∧ ((b = true ∧ ∀ i, i < n → fa i = fb i) ∨ (b = false ∧ ∃ i, i < n ∧ ¬ fa i = fb i))) ∧ ∃ n, w' = w.drewN n := by
  have HA := Seg.hid ha
  have HB := Seg.hid hb
  clear ha hb
  go_enter Try.func20, Try.ntmps20
  go_wp2
  go_loopw [5] (fun i wr => ∃ k d : Nat, k ≤ n ∧ i = .int .i64 k ∧ wr = w.drewN d ∧ Hid (∀ i, i < k → fa i = fb i)) (fun i _ => n - (intOf i).toNat)
  case atStart => exact ⟨0, 0, Nat.zero_le _, rfl, rfl, fun i hi => by omega⟩
  case round =>
    obtain ⟨k, d, hk, rfl, rfl, HE⟩ := hrel
    by_cases hlt : k < n
    · have ca := HA.out k hlt
      have cb := HB.out k hlt
      have h0 : (0 : Int) ≤ (k : Int) := by omega
      have h1 : (k : Int) < (n : Int) := by omega
      cases he : (fa k != fb k) with
      | true =>
        go_wp2
        go_region
        go_wp2
        go_ret
        exact ⟨⟨false, rfl, .inr ⟨rfl, k, hlt, by simpa using he⟩⟩, d + 1, rfl⟩
      | false =>
        go_wp2
        go_region
        go_wp2
        go_roundw
        case rel => exact ⟨k + 1, d + 1, by omega, by go_num, rfl, fun i hi => by
          by_cases e : i = k
          · subst e; simpa using he
          · exact HE.out i (by omega)⟩
        case measure => simp [intOf]; omega
    · go_wp2
      go_ret
      exact ⟨⟨true, rfl, .inl ⟨rfl, fun i hi => HE.out i (by omega)⟩⟩, d, rfl⟩

theorem eq_any (a b : Value) (l m : List Int) (w : World) (ha : Seg.Seg w a l) (hb : Seg.Seg w b m) :
    Calls Try.prog 20 #[a, b] w fun e w' => e = .returned (.bool (decide (l = m))) ∧ ∃ n, w' = w.drewN n := by
  obtain ⟨hl, ha⟩ := ha
  obtain ⟨hm, hb⟩ := hb
  have fa : ∃ A c, a = .slice A l.length c := by
    rcases ha with ⟨A, c, rfl, rfl⟩ | ⟨g, o, cap, rfl, _⟩
    · exact ⟨A, c, rfl⟩
    · exact ⟨_, _, rfl⟩
  have fb : ∃ A c, b = .slice A m.length c := by
    rcases hb with ⟨A, c, rfl, rfl⟩ | ⟨g, o, cap, rfl, _⟩
    · exact ⟨A, c, rfl⟩
    · exact ⟨_, _, rfl⟩
  by_cases hlen : l.length = m.length
  · by_cases hz : l.length = 0
    · obtain ⟨A, c, rfl⟩ := fa
      obtain ⟨A', c', rfl⟩ := fb
      obtain rfl : l = [] := List.length_eq_zero_iff.1 hz
      obtain rfl : m = [] := List.length_eq_zero_iff.1 hlen.symm
      exact (eq_none A A' c c' w).mono fun e w' h => h
    · rcases ha with ⟨_, _, _, rfl⟩ | ⟨g, o, cap, rfl, hc1, hc2, hca⟩
      · exact absurd rfl hz
      rcases hb with ⟨_, _, _, rfl⟩ | ⟨g', o', cap', rfl, hd1, hd2, hcb⟩
      · exact absurd hlen hz
      rw [Seg.eq_cut hlen]
      rw [← hlen] at hd1 hcb ⊢
      refine (eq_core g o g' o' l.length cap cap' (fun i => l.getD i 0) (fun i => m.getD i 0) w hl hc1 hd1 hca hcb).mono fun e w' h => ?_
      obtain ⟨⟨b, rfl, h⟩, h2⟩ := h
      refine ⟨Seg.ret_bool ?_, h2⟩
      rcases h with ⟨rfl, h⟩ | ⟨rfl, i, hi, h⟩
      · exact (decide_eq_true h).symm
      · exact (decide_eq_false fun hh => h (hh i hi)).symm
  · rw [Seg.eq_len hlen]
    obtain ⟨A, c, rfl⟩ := fa
    obtain ⟨A', c', rfl⟩ := fb
    exact (eq_unlike A A' _ _ c c' w (by rw [bne_iff_ne]; omega) hl hm).mono fun e w' h => h

set_option maxHeartbeats 400000 in
theorem mark_any (base g n c : Nat) (l : List Int) (k0 : Int) (w : World) (hl : l.length = n) (hn : n ≤ 140737488355328) (hk0 : 0 ≤ k0) (hk1 : k0 ≤ 1000)
    (ho : w.ownsRow base 5 1 (.slice (some ⟨g, 0, none⟩) n c) n (B l)) :
    Calls Try.prog 23 #[.slice (some ⟨g, 0, none⟩) n c, .int .i64 k0] w fun e w' => e = .returned (.int .i64 (k0 + n)) ∧
      w'.ownsRow base 5 1 (.slice (some ⟨g, 0, none⟩) n c) n (B (marks k0 n)) ∧ w.grownBy w' (some g) := by
  have HL := Seg.hid hl
  clear hl
  have hcap := Seg.owns_cap ho
  have hc1 := hcap.1
  clear hcap
  go_enter Try.func23, Try.ntmps23
  go_wp2
  go_loopw [1, 5] (fun k i wr => ∃ j : Nat, j ≤ n ∧ i = .int .i64 j ∧ k = .int .i64 (k0 + j) ∧ wr.ownsRow base 5 1 (.slice (some ⟨g, 0, none⟩) n c) n (B (marks k0 j ++ l.drop j)) ∧ w.grownBy wr (some g)) (fun _ i _ => n - (intOf i).toNat)
  case atStart => exact ⟨0, Nat.zero_le _, rfl, by simp, by simpa [marks] using ho, World.grownBy.refl _ _⟩
  case round =>
    obtain ⟨j, hj, rfl, rfl, hown, hgr⟩ := hrel
    by_cases hlt : j < n
    · have hc := Seg.owns_cell hown j hlt
      have hf := hown.frozenAt j
      have hst := hown.stored j (.int .u8 ((k0 + (j : Int)) % 256))
      have HS : Hid ((wr.setCell ⟨g, j, none⟩ (.int .u8 ((k0 + (j : Int)) % 256))).ownsRow base 5 1 (.slice (some ⟨g, 0, none⟩) n c) n (B (marks k0 (j + 1) ++ l.drop (j + 1)))) := by
        have := hst.1
        rw [B, ← List.map_set, Seg.marks_set k0 j l (by rw [HL.out]; exact hlt)] at this
        exact this
      have HG : Hid (w.grownBy (wr.setCell ⟨g, j, none⟩ (.int .u8 ((k0 + (j : Int)) % 256))) (some g)) := hgr.trans hst.2
      clear hst hown hgr ho
      have h0 : (0 : Int) ≤ (j : Int) := by omega
      have h1 : (j : Int) < (n : Int) := by omega
      go_wp2
      go_roundw
      case rel => exact ⟨j + 1, by omega, by go_num, by go_num, HS.out, HG.out⟩
      case measure => simp [intOf]; omega
    · have : j = n := by omega
      subst this
      have HO : Hid (wr.ownsRow base 5 1 (.slice (some ⟨g, 0, none⟩) j c) j (B (marks k0 j))) := by
        have := hown
        rw [List.drop_of_length_le (by rw [HL.out]; exact Nat.le_refl _), List.append_nil] at this
        exact this
      clear hown ho
      go_wp2
      go_ret
      exact ⟨rfl, HO.out, hgr⟩

set_option maxHeartbeats 400000 in
theorem held_any (base g n c : Nat) (k0 : Int) (w : World) (hn : n ≤ 140737488355328) (hk0 : 0 ≤ k0) (hk1 : k0 ≤ 1000)
    (ho : w.ownsRow base 5 1 (.slice (some ⟨g, 0, none⟩) n c) n (B (marks k0 n))) :
    Calls Try.prog 24 #[.slice (some ⟨g, 0, none⟩) n c, .int .i64 k0] w fun e w' => e = .returned (.int .i64 (k0 + n)) ∧ w = w' := by
  have hcap := Seg.owns_cap ho
  have hc1 := hcap.1
  clear hcap
  have HO := Seg.hid ho
  clear ho
  go_enter Try.func24, Try.ntmps24
  go_wp2
  go_loop [1, 5] (fun k i => ∃ j : Nat, j ≤ n ∧ i = .int .i64 j ∧ k = .int .i64 (k0 + j)) (fun _ i => n - (intOf i).toNat)
  case atStart => exact ⟨0, Nat.zero_le _, rfl, by simp⟩
  case round =>
    obtain ⟨j, hj, rfl, rfl⟩ := hrel
    by_cases hlt : j < n
    · have hc := Seg.owns_cell HO.out j hlt
      rw [Seg.marks_get k0 n j hlt] at hc
      have h0 : (0 : Int) ≤ (j : Int) := by omega
      have h1 : (j : Int) < (n : Int) := by omega
      go_wp2
      go_round
      case rel => exact ⟨j + 1, by omega, by go_num, by go_num⟩
      case measure => simp [intOf]; omega
    · have : j = n := by omega
      subst this
      go_wp2
      go_ret
      exact ⟨rfl, rfl⟩
end Go.Proofs.Ytdnbcfochlfopaa.Same
namespace Go.Proofs.Ytdnbcfochlfopaa.To
open Go.RowKit
open Seg (Own B marks)
set_option linter.unusedVariables false
theorem infoB : (Try.prog.info? 5).map (fun i => (i.zero, i.size, i.bytes)) = some (some (.int .u8 0), 1, 1) := by kernel_rfl
theorem made_B (n : Nat) : (madeCells (Value.int .u8 0).cells (n * 1)).toList = B ((List.range 0).map (fun _ => (0 : Int)) ++ List.replicate (n - 0) 0) := by
  rw [Nat.mul_one]
  show (madeCells #[Value.int .u8 0] n).toList = _
  rw [toList_madeCells_one]
  simp [B]
theorem step (f : Nat → Int) (n j : Nat) (h : j < n) : ((List.range j).map f ++ List.replicate (n - j) 0).set j (f j) = (List.range (j + 1)).map f ++ List.replicate (n - (j + 1)) 0 := by
  rw [List.set_append_right _ _ (by simp), List.length_map, List.length_range, Nat.sub_self]
  obtain ⟨m, hm⟩ : ∃ m, n - j = m + 1 := ⟨n - j - 1, by omega⟩
  have : n - (j + 1) = m := by omega
  rw [hm, this, List.replicate_succ, List.set_cons_zero, List.range_succ]
  simp

set_option maxHeartbeats 400000 in
theorem to_core (b o n c : Nat) (f : Nat → Int) (w : World) (hn : n ≤ 1048576) (hc1 : n ≤ c)
    (ha : ∀ i, i < n → w.cell? ⟨b, o + i, none⟩ = some (.int .u8 (f i))) (hb : b < w.heap.size) :
    Calls Try.prog 26 #[.slice (some ⟨b, o, none⟩) n c] w fun e w' => ∃ g cap, e = .returned (.slice (some ⟨g, 0, none⟩) n cap) ∧
      w'.ownsRow w.heap.size 5 1 (.slice (some ⟨g, 0, none⟩) n cap) n (B ((List.range n).map f)) ∧ Below w.heap.size w w' := by
  obtain ⟨i0, hi, hz0, hz1, hz2⟩ := info_parts infoB
  have HA := Seg.hid ha
  clear ha
  go_enter Try.func26, Try.ntmps26
  go_wp2_with (at_make; refine wpList_make_full _ rfl _ _ 22 rfl w.heap.size 5 i0 (.int .u8 0) 1 Try.underlying22 hi hz0 hz1 .i64 .i64 _ _ n rfl rfl rfl rfl (by rw [hz2]; omega) (by unfold maxLen; omega) (Nat.le_refl _) ?_; intro w1 hown hgr)
  rw [made_B] at hown
  have hb1 := (Below.refl w.heap.size w).grown hgr (Nat.le_refl _) (fun k hk => by cases hk)
  have HO := Seg.hid hown
  have HB := Seg.hid hb1
  clear hown hgr hb1 hi hz0 hz1 hz2
  go_loopw [4] (fun i wr => ∃ j : Nat, j ≤ n ∧ i = .int .i64 j ∧ wr.ownsRow w.heap.size 5 1 (.slice (some ⟨w.heap.size, 0, none⟩) n n) n (B ((List.range j).map f ++ List.replicate (n - j) 0)) ∧ Below w.heap.size w wr) (fun i _ => n - (intOf i).toNat)
  case atStart => exact ⟨0, Nat.zero_le _, rfl, HO.out, HB.out⟩
  case round =>
    clear HO HB
    obtain ⟨j, hj, rfl, hown, hbel⟩ := hrel
    by_cases hlt : j < n
    · have ca : wr.cell? ⟨b, o + j, none⟩ = some (.int .u8 (f j)) := by rw [hbel.cell (p := ⟨b, o + j, none⟩) hb]; exact HA.out j hlt
      have hc := Seg.owns_cell hown j hlt
      have hf := hown.frozenAt j
      have hst := hown.stored j (.int .u8 (f j))
      have HS : Hid ((wr.setCell ⟨w.heap.size, j, none⟩ (.int .u8 (f j))).ownsRow w.heap.size 5 1 (.slice (some ⟨w.heap.size, 0, none⟩) n n) n (B ((List.range (j + 1)).map f ++ List.replicate (n - (j + 1)) 0))) := by
        have := hst.1
        rw [B, ← List.map_set, step f n j hlt] at this
        exact this
      have HG : Hid (Below w.heap.size w (wr.setCell ⟨w.heap.size, j, none⟩ (.int .u8 (f j)))) := hbel.setCell (Nat.le_refl _) _
      clear hst hown hbel
      have h0 : (0 : Int) ≤ (j : Int) := by omega
      have h1 : (j : Int) < (n : Int) := by omega
      go_wp2
      go_roundw
      case rel => exact ⟨j + 1, by omega, by go_num, HS.out, HG.out⟩
      case measure => simp [intOf]; omega
    · have : j = n := by omega
      subst this
      have HO : Hid (wr.ownsRow w.heap.size 5 1 (.slice (some ⟨w.heap.size, 0, none⟩) j j) j (B ((List.range j).map f))) := by
        have := hown
        rw [Nat.sub_self, List.replicate_zero, List.append_nil] at this
        exact this
      have HG := Seg.hid hbel
      clear hown hbel
      go_wp2
      go_ret
      exact ⟨w.heap.size, j, rfl, HO.out, HG.out⟩

set_option maxHeartbeats 400000 in
theorem to_nil (A : Option Addr) (c : Nat) (w : World) :
    Calls Try.prog 26 #[.slice A 0 c] w fun e w' => ∃ g cap, e = .returned (.slice (some ⟨g, 0, none⟩) 0 cap) ∧
      w'.ownsRow w.heap.size 5 1 (.slice (some ⟨g, 0, none⟩) 0 cap) 0 (B []) ∧ Below w.heap.size w w' := by
  obtain ⟨i0, hi, hz0, hz1, hz2⟩ := info_parts infoB
  go_enter Try.func26, Try.ntmps26
  go_wp2_with (at_make; refine wpList_make_full _ rfl _ _ 22 rfl w.heap.size 5 i0 (.int .u8 0) 1 Try.underlying22 hi hz0 hz1 .i64 .i64 _ _ 0 rfl rfl rfl rfl (by omega) (by unfold maxLen; omega) (Nat.le_refl _) ?_; intro w1 hown hgr)
  rw [made_B] at hown
  have hb1 := (Below.refl w.heap.size w).grown hgr (Nat.le_refl _) (fun k hk => by cases hk)
  have HO := Seg.hid hown
  have HB := Seg.hid hb1
  clear hown hgr hb1 hi hz0 hz1 hz2
  go_loop [4] (fun i => i = .int .i64 0) (fun i => 0)
  case atStart => rfl
  case round =>
    subst hrel
    go_wp2
    go_ret
    exact ⟨w.heap.size, 0, rfl, HO.out, HB.out⟩

theorem to_any (a : Value) (l : List Int) (w : World) (ha : Seg.Seg w a l) (hl : l.length ≤ 1048576) (hin : l.length = 0 ∨ ∀ g, a.ownBlock = some g → g < w.heap.size) :
    Calls Try.prog 26 #[a] w fun e w' => ∃ g cap, e = .returned (.slice (some ⟨g, 0, none⟩) l.length cap) ∧
      w'.ownsRow w.heap.size 5 1 (.slice (some ⟨g, 0, none⟩) l.length cap) l.length (B l) ∧ Below w.heap.size w w' := by
  obtain ⟨_, ha⟩ := ha
  rcases ha with ⟨A, c, rfl, rfl⟩ | ⟨g, o, cap, rfl, h2, h3, h4⟩
  · exact to_nil A c w
  · have hf : (List.range l.length).map (fun i => l.getD i 0) = l := List.ext_getElem (by simp) fun i h1 h2 => by simp at h1; simp [h1]
    by_cases hz : l.length = 0
    · obtain rfl : l = [] := List.length_eq_zero_iff.1 hz
      exact to_nil _ cap w
    refine (to_core g o l.length cap (fun i => l.getD i 0) w hl h2 h4 ((hin.resolve_left hz) g rfl)).mono fun e w' h => ?_
    rw [hf] at h
    exact h
end Go.Proofs.Ytdnbcfochlfopaa.To
