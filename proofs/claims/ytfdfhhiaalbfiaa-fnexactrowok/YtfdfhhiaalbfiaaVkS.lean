/- The model's ValueOk and ValueOf. -/
import Derived.Test.YtfdfhhiaalbfiaaVkP
import Derived.Test.YtfdfhhiaalbfiaaTFld
import Derived.Test.YtfdfhhiaalbfiaaVkR
import Derived.Deep.RegionHeld3
import Derived.Deep.RegionLaw
import Derived.BigQuiet
import Derived.Laws.StructEq
namespace Go.Proofs.Ytfdfhhiaalbfiaa.VkS
set_option maxRecDepth 8000
open Go.RowKit
open Ls Lp VkP VkR
open Recs (hsz below1 below2 below3 chain chainD)
set_option linter.unusedVariables false
set_option maxHeartbeats 1600000 in
theorem same_any (u : Vlu) (A : Option Addr) (c : Nat) (w : World) : Calls Try.prog 91 #[.agg (vrow u A c), .agg #[.int .i64 0, .int .i64 0, .string ⟨#[]⟩, .bool false, .slice none 0 0]] w fun e w' => e = .returned (.bool (zero u)) ∧ Below w.heap.size w w' := by
  go_enter Try.func91, Try.ntmps91
  by_cases h0 : u.kind = 0
  · by_cases h1 : u.num = 0
    · obtain ⟨e, he⟩ : ∃ e, (u.text.toList == []) = e := ⟨_, rfl⟩
      cases e with
      | false =>
        have R : Hid (zero u = false) := by show _ = _; simp [zero, nil0, em, he]
        go_wp2
        go_ret
        exact ⟨by rw [R.out]; rfl, below2 _ _ _⟩
      | true =>
        obtain ⟨l, hl⟩ : ∃ l, u.lst = l := ⟨_, rfl⟩
        cases l with
        | true =>
          have R : Hid (zero u = false) := by show _ = _; simp [zero, hl]
          go_wp2
          go_ret
          exact ⟨by rw [R.out]; rfl, below2 _ _ _⟩
        | false =>
          have R : Hid (zero u = decide (u.items.length = 0)) := by show _ = _; simp [zero, nil0, em, he, h0, h1, hl]
          by_cases hz : u.items.length = 0
          · have R2 : Hid (zero u = true) := by show _ = _; rw [R.out]; simp [hz]
            go_wp2
            go_loop [5] (fun i => i = .int .i64 0) (fun _ => 0)
            case atStart => rfl
            case round =>
              subst hrel
              go_wp2
              go_ret
              exact ⟨by rw [R2.out]; rfl, below2 _ _ _⟩
          · have R2 : Hid (zero u = false) := by show _ = _; rw [R.out]; simp [hz]
            have hz1 : ((u.items.length : Int) != 0) = true := by
              have : ¬ (u.items.length : Int) = 0 := by omega
              simpa using this
            go_wp2
            go_ret
            exact ⟨by rw [R2.out]; rfl, below2 _ _ _⟩
    · have R : Hid (zero u = false) := by show _ = _; simp [zero, nil0, h1]
      have h2 : (u.num != 0) = true := by simpa using h1
      go_wp2
      go_ret
      exact ⟨by rw [R.out]; rfl, below2 _ _ _⟩
  · have R : Hid (zero u = false) := by show _ = _; simp [zero, h0]
    have h2 : (u.kind != 0) = true := by simpa using h0
    go_wp2
    go_ret
    exact ⟨by rw [R.out]; rfl, below2 _ _ _⟩
set_option maxHeartbeats 3200000 in
theorem item_any (k n : Int) (t : ByteArray) (w : World) (ht : t.size ≤ maxLen) : Calls Try.prog 127 #[.int .i64 k, .agg #[.int .i64 n, .string t]] w fun e w' => e = .returned (.bool (has k n t)) ∧ Below w.heap.size w w' := by
  unfold maxLen at ht
  go_enter Try.func127, Try.ntmps127
  obtain ⟨e, he⟩ : ∃ e, (t.toList == []) = e := ⟨_, rfl⟩
  by_cases k1 : k = 1
  · subst k1
    obtain ⟨b, hb⟩ : ∃ b, inR 0 n 1 = b := ⟨_, rfl⟩
    have R : Hid (has 1 n t = (b && e)) := by show _ = _; simp [has, hasN, em, hb, he]
    have HB := Seg.hid hb
    clear hb
    cases b <;> cases e
    all_goals
      go_wp2_with (go_at_call 32; refine (InB.l1In_b _ _ _ _ HB.out _).mono ?_; rintro e w5 ⟨rfl, rfl⟩)
      go_ret
      exact ⟨by rw [R.out]; rfl, below1 _ _⟩
  by_cases k2 : k = 2
  · subst k2
    obtain ⟨b, hb⟩ : ∃ b, inR (-32768) n 32767 = b := ⟨_, rfl⟩
    have R : Hid (has 2 n t = (b && e)) := by show _ = _; simp [has, hasN, em, loK, hiK, hb, he]
    have HB := Seg.hid hb
    clear hb
    cases b <;> cases e
    all_goals
      go_wp2_with (go_at_call 32; refine (InB.l1In_b _ _ _ _ HB.out _).mono ?_; rintro e w5 ⟨rfl, rfl⟩)
      go_ret
      exact ⟨by rw [R.out]; rfl, below1 _ _⟩
  by_cases k3 : k = 3
  · subst k3
    obtain ⟨b, hb⟩ : ∃ b, inR (-1000000000000000) n 1000000000000000 = b := ⟨_, rfl⟩
    have R : Hid (has 3 n t = (b && e)) := by show _ = _; simp [has, hasN, em, loK, hiK, hb, he]
    have HB := Seg.hid hb
    clear hb
    cases b <;> cases e
    all_goals
      go_wp2_with (go_at_call 32; refine (InB.l1In_b _ _ _ _ HB.out _).mono ?_; rintro e w5 ⟨rfl, rfl⟩)
      go_ret
      exact ⟨by rw [R.out]; rfl, below1 _ _⟩
  by_cases k4 : k = 4
  · subst k4
    have R : Hid (has 4 n t = hasT n t) := by show _ = _; simp [has]
    clear he k1 k2 k3
    go_wp2
    go_loop [5] (fun i => ∃ k : Nat, k ≤ t.size ∧ i = .int .i64 k ∧ Hid (ltrs t k = true)) (fun i => t.size - (intOf i).toNat)
    case atStart => exact ⟨0, Nat.zero_le _, rfl, ltrs_zero t⟩
    case round =>
      obtain ⟨k, hk, rfl, HG⟩ := hrel
      by_cases hlt : k < t.size
      · have h0 : (0 : Int) ≤ (k : Int) := by omega
        have h1 : (k : Int) < (t.size : Int) := by omega
        by_cases ha : (t[k].toNat : Int) < 32
        · have HL : Hid (hasT n t = false) := by
            show _ = _
            have : ltr t k = false := by rw [ltr_at t k hlt]; simp [inR]; omega
            simp [hasT, ltrs_bad t k _ hlt this]
          go_wp2
          go_ret
          exact ⟨by rw [R.out, HL.out]; rfl, below1 _ _⟩
        · by_cases hb : (126 : Int) < (t[k].toNat : Int)
          · have HL : Hid (hasT n t = false) := by
              show _ = _
              have : ltr t k = false := by rw [ltr_at t k hlt]; simp [inR]; omega
              simp [hasT, ltrs_bad t k _ hlt this]
            go_wp2
            go_ret
            exact ⟨by rw [R.out, HL.out]; rfl, below1 _ _⟩
          · have HL : Hid (ltrs t (k + 1) = true) := by
              show _ = _
              have : ltr t k = true := by rw [ltr_at t k hlt]; simp [inR]; omega
              rw [ltrs_succ, HG.out, this]; rfl
            go_wp2
            go_round
            case rel => exact ⟨k + 1, by omega, by go_num, HL.out⟩
            case measure => simp [intOf]; omega
      · obtain rfl : k = t.size := by omega
        have R2 : Hid (hasT n t = (decide (n = 0) && decide (t.size ≤ 100))) := by show _ = _; simp [hasT, HG.out]
        by_cases hn : n = 0
        · subst hn
          by_cases hs : t.size ≤ 100
          · have q : (t.size : Int) ≤ 100 := by omega
            go_wp2
            go_ret
            exact ⟨by rw [R.out, R2.out]; simp [hs], below1 _ _⟩
          · have q : ¬ (t.size : Int) ≤ 100 := by omega
            go_wp2
            go_ret
            exact ⟨by rw [R.out, R2.out]; simp [hs], below1 _ _⟩
        · have hn2 : (n == 0) = false := by simpa using hn
          go_wp2
          go_ret
          exact ⟨by rw [R.out, R2.out]; simp [hn], below1 _ _⟩
  · have R : Hid (has k n t = false) := by show _ = _; simp [has, k1, k2, k3, k4]
    go_wp2
    go_ret
    exact ⟨by rw [R.out]; rfl, below1 _ _⟩
end Go.Proofs.Ytfdfhhiaalbfiaa.VkS
