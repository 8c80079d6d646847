/- What the law's own helpers answer: whether two runs of bytes are alike, the marking of a run, the asking of the marks. -/
import Derived.Test.YtadfaeihpfjfcaaRows
import Derived.Test.YtadfaeihpfjfcaaSeg
import Derived.RegionTactic
import Derived.Maps.AppendAt
import Derived.Outline
namespace Go.Proofs.Ytadfaeihpfjfcaa.Same
open Go.RowKit
open Seg (Own B marks)
set_option linter.unusedVariables false

theorem eq_unlike (A A' : Option Addr) (n n' c c' : Nat) (w : World) (h : ((n : Int) != (n' : Int)) = true) (h1 : n ≤ 140737488355328) (h2 : n' ≤ 140737488355328) :
    Calls Try.prog 7 #[.slice A n c, .slice A' n' c'] w fun e w' => e = .returned (.bool false) ∧ ∃ n, w' = w.drewN n := by
  go_enter Try.func7, Try.ntmps7
  go_wp2
  go_ret
  exact ⟨rfl, 0, rfl⟩

set_option maxHeartbeats 400000 in
theorem eq_none (A A' : Option Addr) (c c' : Nat) (w : World) :
    Calls Try.prog 7 #[.slice A 0 c, .slice A' 0 c'] w fun e w' => e = .returned (.bool true) ∧ ∃ n, w' = w.drewN n := by
  go_enter Try.func7, Try.ntmps7
  go_wp2
  go_loop [5] (fun i => i = .int .i64 0) (fun _ => 0)
  case atStart => rfl
  case round =>
    subst hrel
    go_wp2
    go_ret
    exact ⟨rfl, 0, rfl⟩

set_option maxHeartbeats 400000 in
theorem eq_core (g o g' o' n c c' : Nat) (fa fb : Nat → Int) (w : World) (hn : n ≤ 140737488355328) (hc1 : n ≤ c) (hc2 : n ≤ c')
    (ha : ∀ i, i < n → w.cell? ⟨g, o + i, none⟩ = some (.int .u8 (fa i))) (hb : ∀ i, i < n → w.cell? ⟨g', o' + i, none⟩ = some (.int .u8 (fb i))) :
    Calls Try.prog 7 #[.slice (some ⟨g, o, none⟩) n c, .slice (some ⟨g', o', none⟩) n c'] w fun e w' => (∃ b, e = .returned (.bool b) ∧ ((b = true ∧ ∀ i, i < n → fa i = fb i) ∨ (b = false ∧ ∃ i, i < n ∧ ¬ fa i = fb i))) ∧ ∃ n, w' = w.drewN n := by
  have HA := Seg.hid ha
  have HB := Seg.hid hb
  clear ha hb
  go_enter Try.func7, Try.ntmps7
  go_wp2
  go_loopw [5] (fun i wr => ∃ k d : Nat, k ≤ n ∧ i = .int .i64 k ∧ wr = w.drewN d ∧ Hid (∀ i, i < k → fa i = fb i)) (fun i _ => n - (intOf i).toNat)
  case atStart => exact ⟨0, 0, Nat.zero_le _, rfl, rfl, fun i hi => by omega⟩
  case round =>
    obtain ⟨k, d, hk, rfl, rfl, HE⟩ := hrel
    by_cases hlt : k < n
    · have ca := HA.out k hlt
      have cb := HB.out k hlt
      have h0 : (0 : Int) ≤ (k : Int) := by omega
      have h1 : (k : Int) < (n : Int) := by omega
      cases he : (fa k != fb k) with
      | true =>
        go_wp2
        go_region
        go_wp2
        go_ret
        exact ⟨⟨false, rfl, .inr ⟨rfl, k, hlt, by simpa using he⟩⟩, d + 1, rfl⟩
      | false =>
        go_wp2
        go_region
        go_wp2
        go_roundw
        case rel => exact ⟨k + 1, d + 1, by omega, by go_num, rfl, fun i hi => by
          by_cases e : i = k
          · subst e; simpa using he
          · exact HE.out i (by omega)⟩
        case measure => simp [intOf]; omega
    · go_wp2
      go_ret
      exact ⟨⟨true, rfl, .inl ⟨rfl, fun i hi => HE.out i (by omega)⟩⟩, d, rfl⟩

theorem eq_any (a b : Value) (l m : List Int) (w : World) (ha : Seg.Seg w a l) (hb : Seg.Seg w b m) :
    Calls Try.prog 7 #[a, b] w fun e w' => e = .returned (.bool (decide (l = m))) ∧ ∃ n, w' = w.drewN n := by
  obtain ⟨hl, ha⟩ := ha
  obtain ⟨hm, hb⟩ := hb
  have fa : ∃ A c, a = .slice A l.length c := by
    rcases ha with ⟨A, c, rfl, rfl⟩ | ⟨g, o, cap, rfl, _⟩
    · exact ⟨A, c, rfl⟩
    · exact ⟨_, _, rfl⟩
  have fb : ∃ A c, b = .slice A m.length c := by
    rcases hb with ⟨A, c, rfl, rfl⟩ | ⟨g, o, cap, rfl, _⟩
    · exact ⟨A, c, rfl⟩
    · exact ⟨_, _, rfl⟩
  by_cases hlen : l.length = m.length
  · by_cases hz : l.length = 0
    · obtain ⟨A, c, rfl⟩ := fa
      obtain ⟨A', c', rfl⟩ := fb
      obtain rfl : l = [] := List.length_eq_zero_iff.1 hz
      obtain rfl : m = [] := List.length_eq_zero_iff.1 hlen.symm
      exact (eq_none A A' c c' w).mono fun e w' h => h
    · rcases ha with ⟨_, _, _, rfl⟩ | ⟨g, o, cap, rfl, hc1, hc2, hca⟩
      · exact absurd rfl hz
      rcases hb with ⟨_, _, _, rfl⟩ | ⟨g', o', cap', rfl, hd1, hd2, hcb⟩
      · exact absurd hlen hz
      rw [Seg.eq_cut hlen]
      rw [← hlen] at hd1 hcb ⊢
      refine (eq_core g o g' o' l.length cap cap' (fun i => l.getD i 0) (fun i => m.getD i 0) w hl hc1 hd1 hca hcb).mono fun e w' h => ?_
      obtain ⟨⟨b, rfl, h⟩, h2⟩ := h
      refine ⟨Seg.ret_bool ?_, h2⟩
      rcases h with ⟨rfl, h⟩ | ⟨rfl, i, hi, h⟩
      · exact (decide_eq_true h).symm
      · exact (decide_eq_false fun hh => h (hh i hi)).symm
  · rw [Seg.eq_len hlen]
    obtain ⟨A, c, rfl⟩ := fa
    obtain ⟨A', c', rfl⟩ := fb
    exact (eq_unlike A A' _ _ c c' w (by rw [bne_iff_ne]; omega) hl hm).mono fun e w' h => h

set_option maxHeartbeats 400000 in
theorem mark_any (base g n c : Nat) (l : List Int) (k0 : Int) (w : World) (hl : l.length = n) (hn : n ≤ 140737488355328) (hk0 : 0 ≤ k0) (hk1 : k0 ≤ 1000)
    (ho : w.ownsRow base 5 1 (.slice (some ⟨g, 0, none⟩) n c) n (B l)) :
    Calls Try.prog 8 #[.slice (some ⟨g, 0, none⟩) n c, .int .i64 k0] w fun e w' => e = .returned (.int .i64 (k0 + n)) ∧
      w'.ownsRow base 5 1 (.slice (some ⟨g, 0, none⟩) n c) n (B (marks k0 n)) ∧ w.grownBy w' (some g) := by
  have HL := Seg.hid hl
  clear hl
  have hcap := Seg.owns_cap ho
  have hc1 := hcap.1
  clear hcap
  go_enter Try.func8, Try.ntmps8
  go_wp2
  go_loopw [1, 5] (fun k i wr => ∃ j : Nat, j ≤ n ∧ i = .int .i64 j ∧ k = .int .i64 (k0 + j) ∧ wr.ownsRow base 5 1 (.slice (some ⟨g, 0, none⟩) n c) n (B (marks k0 j ++ l.drop j)) ∧ w.grownBy wr (some g)) (fun _ i _ => n - (intOf i).toNat)
  case atStart => exact ⟨0, Nat.zero_le _, rfl, by simp, by simpa [marks] using ho, World.grownBy.refl _ _⟩
  case round =>
    obtain ⟨j, hj, rfl, rfl, hown, hgr⟩ := hrel
    by_cases hlt : j < n
    · have hc := Seg.owns_cell hown j hlt
      have hf := hown.frozenAt j
      have hst := hown.stored j (.int .u8 ((k0 + (j : Int)) % 256))
      have HS : Hid ((wr.setCell ⟨g, j, none⟩ (.int .u8 ((k0 + (j : Int)) % 256))).ownsRow base 5 1 (.slice (some ⟨g, 0, none⟩) n c) n (B (marks k0 (j + 1) ++ l.drop (j + 1)))) := by
        have := hst.1
        rw [B, ← List.map_set, Seg.marks_set k0 j l (by rw [HL.out]; exact hlt)] at this
        exact this
      have HG : Hid (w.grownBy (wr.setCell ⟨g, j, none⟩ (.int .u8 ((k0 + (j : Int)) % 256))) (some g)) := hgr.trans hst.2
      clear hst hown hgr ho
      have h0 : (0 : Int) ≤ (j : Int) := by omega
      have h1 : (j : Int) < (n : Int) := by omega
      go_wp2
      go_roundw
      case rel => exact ⟨j + 1, by omega, by go_num, by go_num, HS.out, HG.out⟩
      case measure => simp [intOf]; omega
    · have : j = n := by omega
      subst this
      have HO : Hid (wr.ownsRow base 5 1 (.slice (some ⟨g, 0, none⟩) j c) j (B (marks k0 j))) := by
        have := hown
        rw [List.drop_of_length_le (by rw [HL.out]; exact Nat.le_refl _), List.append_nil] at this
        exact this
      clear hown ho
      go_wp2
      go_ret
      exact ⟨rfl, HO.out, hgr⟩

set_option maxHeartbeats 400000 in
theorem held_any (base g n c : Nat) (k0 : Int) (w : World) (hn : n ≤ 140737488355328) (hk0 : 0 ≤ k0) (hk1 : k0 ≤ 1000)
    (ho : w.ownsRow base 5 1 (.slice (some ⟨g, 0, none⟩) n c) n (B (marks k0 n))) :
    Calls Try.prog 9 #[.slice (some ⟨g, 0, none⟩) n c, .int .i64 k0] w fun e w' => e = .returned (.int .i64 (k0 + n)) ∧ w = w' := by
  have hcap := Seg.owns_cap ho
  have hc1 := hcap.1
  clear hcap
  have HO := Seg.hid ho
  clear ho
  go_enter Try.func9, Try.ntmps9
  go_wp2
  go_loop [1, 5] (fun k i => ∃ j : Nat, j ≤ n ∧ i = .int .i64 j ∧ k = .int .i64 (k0 + j)) (fun _ i => n - (intOf i).toNat)
  case atStart => exact ⟨0, Nat.zero_le _, rfl, by simp⟩
  case round =>
    obtain ⟨j, hj, rfl, rfl⟩ := hrel
    by_cases hlt : j < n
    · have hc := Seg.owns_cell HO.out j hlt
      rw [Seg.marks_get k0 n j hlt] at hc
      have h0 : (0 : Int) ≤ (j : Int) := by omega
      have h1 : (j : Int) < (n : Int) := by omega
      go_wp2
      go_round
      case rel => exact ⟨j + 1, by omega, by go_num, by go_num⟩
      case measure => simp [intOf]; omega
    · have : j = n := by omega
      subst this
      go_wp2
      go_ret
      exact ⟨rfl, rfl⟩
end Go.Proofs.Ytadfaeihpfjfcaa.Same
