/- The two readers of a name, each walked once: what they answer is one plain function of the text; A name, in a region that draws. -/
import Derived.WalkKit
import Derived.Outline
import Derived.Test.YtdhicmbfknagjaaRows
import Derived.Test.YtdhicmbfknagjaaJRO01
namespace Go.Proofs.Ytdhicmbfknagjaa.Nm
set_option maxRecDepth 8000
open Go.RowKit

def isL (n : Int) : Bool := (decide (97 ≤ n) && decide (n ≤ 122)) || (decide (65 ≤ n) && decide (n ≤ 90))
def isD (n : Int) : Bool := decide (48 ≤ n) && decide (n ≤ 57)
theorem ret_bool {a b : Bool} (h : a = b) : Ending.returned (.bool a) = .returned (.bool b) := by rw [h]

theorem isLetter_any (n : Int) (w : World) : Calls Try.prog 118 #[.int .u8 n] w fun e w' => e = .returned (.bool (isL n)) ∧ w = w' := by
  go_enter Try.func118, Try.ntmps118
  go_wp2
  all_goals
    go_ret
    exact ⟨ret_bool (by rw [Bool.eq_iff_iff]; simp [isL]; omega), rfl⟩

theorem isDigit_any (n : Int) (w : World) : Calls Try.prog 136 #[.int .u8 n] w fun e w' => e = .returned (.bool (isD n)) ∧ w = w' := by
  go_enter Try.func136, Try.ntmps136
  go_wp2
  all_goals
    go_ret
    exact ⟨ret_bool (by rw [Bool.eq_iff_iff]; simp [isD]; omega), rfl⟩

def ch (c : Int) : Bool := isL c || isD c || decide (c = 95)
theorem ch_L {c : Int} (h : isL c = true) : ch c = true := by simp [ch, h]
theorem ch_D {c : Int} (h : isD c = true) : ch c = true := by simp [ch, h]
theorem ch_U {c : Int} (h : (c != 95) = false) : ch c = true := by simp at h; simp [ch, h]
theorem ch_no {c : Int} (h1 : isL c = false) (h2 : isD c = false) (h : (c != 95) = true) : ch c = false := by simp at h; simp [ch, h, h1, h2]
theorem isNameByte_any (n : Int) (w : World) : Calls Try.prog 119 #[.int .u8 n] w fun e w' => e = .returned (.bool (ch n)) ∧ w = w' := by
  go_enter Try.func119, Try.ntmps119
  cases hL : isL n <;> cases hD : isD n
  all_goals
    have HC : Hid (ch n = (isL n || isD n || decide (n = 95))) := rfl
    rw [hL, hD] at HC
    go_wp2_with (first | (go_at_call 118; refine (isLetter_any _ _).mono ?_; rintro e w' ⟨rfl, rfl⟩; rw [hL]) | (go_at_call 136; refine (isDigit_any _ _).mono ?_; rintro e w' ⟨rfl, rfl⟩; rw [hD]))
    go_ret
    exact ⟨ret_bool (by rw [HC.out, Bool.eq_iff_iff]; simp), rfl⟩

/-- The test at one place: a letter; behind the first place a digit or the low line too. -/
def tst (s : ByteArray) (i : Nat) : Bool := if h : i < s.size then (isL (s[i].toNat : Int) || (decide (0 < i) && (isD (s[i].toNat : Int) || decide ((s[i].toNat : Int) = 95)))) else false
def good (s : ByteArray) (k : Nat) : Bool := (List.range k).all (tst s)
def nameOk (s : ByteArray) : Bool := decide (1 ≤ s.size ∧ s.size ≤ 20) && good s s.size

theorem good_zero (s : ByteArray) : good s 0 = true := rfl
theorem good_succ (s : ByteArray) (k : Nat) : good s (k + 1) = (good s k && tst s k) := by
  simp [good, List.range_succ]
theorem good_bad (s : ByteArray) (k n : Nat) (h : k < n) (hb : tst s k = false) : good s n = false := by
  simp only [good, List.all_eq_false, List.mem_range]
  exact ⟨k, h, by simp [hb]⟩
theorem name_bad (s : ByteArray) (k : Nat) (h : k < s.size) (hb : tst s k = false) : nameOk s = false := by
  simp [nameOk, good_bad s k s.size h hb]
theorem name_good (s : ByteArray) (h1 : 1 ≤ s.size) (h2 : s.size ≤ 20) (h : good s s.size = true) : nameOk s = true := by
  simp [nameOk, h, h1, h2]
theorem name_size (s : ByteArray) (h : s.size < 1 ∨ 20 < s.size) : nameOk s = false := by
  have : ¬ (1 ≤ s.size ∧ s.size ≤ 20) := by omega
  simp [nameOk, this]

theorem ways (c : Int) (k : Nat) : (97 ≤ c ∧ c ≤ 122) ∨ (65 ≤ c ∧ c ≤ 90) ∨ (0 < k ∧ 95 ≤ c ∧ c ≤ 95) ∨ (0 < k ∧ 48 ≤ c ∧ c ≤ 57) ∨ (k = 0 ∧ c < 65) ∨ (k = 0 ∧ 90 < c ∧ c < 97) ∨ (k = 0 ∧ 122 < c) ∨
    (0 < k ∧ c < 48) ∨ (0 < k ∧ 57 < c ∧ c < 65) ∨ (0 < k ∧ 90 < c ∧ c < 95) ∨ (0 < k ∧ 95 < c ∧ c < 97) ∨ (0 < k ∧ 122 < c) := by omega

set_option maxHeartbeats 800000 in
theorem spec_any (s : ByteArray) (w : World) (hs : s.size ≤ maxLen) : Calls Try.prog 37 #[.string s] w fun e w' => e = .returned (.bool (nameOk s)) ∧ w = w' := by
  unfold maxLen at hs
  by_cases h1 : s.size < 1
  · have hb := name_size s (.inl h1)
    have HB : Hid (nameOk s = false) := hb
    clear hb
    go_enter Try.func37, Try.ntmps37
    go_wp2
    go_ret
    exact ⟨ret_bool HB.out.symm, rfl⟩
  by_cases h2 : 20 < s.size
  · have HB : Hid (nameOk s = false) := name_size s (.inr h2)
    go_enter Try.func37, Try.ntmps37
    go_wp2
    go_ret
    exact ⟨ret_bool HB.out.symm, rfl⟩
  go_enter Try.func37, Try.ntmps37
  go_wp2
  go_loop [3] (fun i => ∃ k : Nat, k ≤ s.size ∧ i = .int .i64 k ∧ Hid (good s k = true)) (fun i => s.size - (intOf i).toNat)
  case atStart => exact ⟨0, Nat.zero_le _, rfl, good_zero s⟩
  case round =>
    obtain ⟨k, hk, rfl, HG⟩ := hrel
    by_cases hlt : k < s.size
    · have HT : Hid (tst s k = (isL (s[k].toNat : Int) || (decide (0 < k) && (isD (s[k].toNat : Int) || decide ((s[k].toNat : Int) = 95))))) := by
        show tst s k = _
        simp [tst, hlt]
      rcases ways (s[k].toNat : Int) k with h | h | ⟨h, h'⟩ | ⟨h, h'⟩ | h | h | h | h | h | h | h | h
      all_goals
        first
        | (have HY : Hid (tst s k = true) := (by show tst s k = true; rw [HT.out]; simp [isL, isD]; omega)
           clear HT
           go_wp2
           go_round
           case rel => exact ⟨k + 1, by omega, by go_num, (by show good s (k + 1) = true; rw [good_succ, HG.out, HY.out]; rfl)⟩
           case measure => simp [intOf]; omega)
        | (have HY : Hid (nameOk s = false) := name_bad s k hlt (by rw [HT.out]; simp [isL, isD]; omega)
           clear HT
           first
           | (have h0 : 0 < k := by omega
              go_wp2
              all_goals first
              | (go_ret
                 exact ⟨ret_bool HY.out.symm, rfl⟩)
              | (exfalso; rename_i hq; simp at hq; omega))
           | (obtain rfl : k = 0 := by omega
              go_wp2
              all_goals first
              | (go_ret
                 exact ⟨ret_bool HY.out.symm, rfl⟩)
              | (exfalso; rename_i hq; simp at hq; omega)))
    · go_wp2
      go_ret
      exact ⟨ret_bool (by rw [name_good s (by omega) (by omega) (by have : k = s.size := by omega
                                                                    subst this; exact HG.out)]), rfl⟩

theorem tst_ch (s : ByteArray) (k : Nat) (h : k < s.size) (h0 : isL ((s[0]'(by omega)).toNat : Int) = true) : tst s k = ch (s[k].toNat : Int) := by
  by_cases hk : 0 < k
  · simp [tst, ch, h, hk, Bool.or_assoc]
  · obtain rfl : k = 0 := by omega
    simp [tst, ch, h, h0]
theorem tst_zero (s : ByteArray) (h : 0 < s.size) (h0 : isL (s[0].toNat : Int) = false) : tst s 0 = false := by
  simp [tst, h, h0]

set_option maxHeartbeats 800000 in
theorem impl_any (s : ByteArray) (w : World) (hs : s.size ≤ maxLen) : Calls Try.prog 86 #[.string s] w fun e w' => e = .returned (.bool (nameOk s)) ∧ w = w' := by
  unfold maxLen at hs
  by_cases h1 : s.size < 1
  · have HB : Hid (nameOk s = false) := name_size s (.inl h1)
    go_enter Try.func86, Try.ntmps86
    go_wp2
    go_ret
    exact ⟨ret_bool HB.out.symm, rfl⟩
  by_cases h2 : 20 < s.size
  · have HB : Hid (nameOk s = false) := name_size s (.inr h2)
    go_enter Try.func86, Try.ntmps86
    go_wp2
    go_ret
    exact ⟨ret_bool HB.out.symm, rfl⟩
  have hz : 0 < s.size := by omega
  cases hl : isL (s[0].toNat : Int) with
  | false =>
    have HB : Hid (nameOk s = false) := name_bad s 0 hz (tst_zero s hz hl)
    go_enter Try.func86, Try.ntmps86
    go_wp2_with (go_at_call 118; refine (isLetter_any _ _).mono ?_; rintro e w' ⟨rfl, rfl⟩)
    go_ret
    exact ⟨ret_bool HB.out.symm, rfl⟩
  | true =>
    go_enter Try.func86, Try.ntmps86
    go_wp2_with (go_at_call 118; refine (isLetter_any _ _).mono ?_; rintro e w' ⟨rfl, rfl⟩)
    go_loop [3, 20] (fun _ i => ∃ k : Nat, k ≤ s.size ∧ i = .int .i64 k ∧ Hid (good s k = true)) (fun _ i => s.size - (intOf i).toNat)
    case atStart => exact ⟨0, Nat.zero_le _, rfl, good_zero s⟩
    case round =>
      obtain ⟨k, hk, rfl, HG⟩ := hrel
      by_cases hlt : k < s.size
      · have HT : Hid (tst s k = ch (s[k].toNat : Int)) := tst_ch s k hlt hl
        cases hC : ch (s[k].toNat : Int) with
        | true =>
          have HY : Hid (tst s k = true) := by show tst s k = true; rw [HT.out, hC]
          have HC := Seg.hid hC
          clear HT hC
          go_wp2_with (go_at_call 119; refine (isNameByte_any _ _).mono ?_; rintro e w' ⟨rfl, rfl⟩; rw [HC.out])
          go_round
          case rel => exact ⟨k + 1, by omega, by go_num, (by show good s (k + 1) = true; rw [good_succ, HG.out, HY.out]; rfl)⟩
          case measure => simp [intOf]; omega
        | false =>
          have HY : Hid (nameOk s = false) := name_bad s k hlt (by rw [HT.out, hC])
          have HC := Seg.hid hC
          clear HT hC
          go_wp2_with (go_at_call 119; refine (isNameByte_any _ _).mono ?_; rintro e w' ⟨rfl, rfl⟩; rw [HC.out])
          go_ret
          exact ⟨ret_bool HY.out.symm, rfl⟩
      · go_wp2
        go_ret
        exact ⟨ret_bool (by rw [name_good s (by omega) (by omega) (by have : k = s.size := by omega
                                                                      subst this; exact HG.out)]), rfl⟩
end Go.Proofs.Ytdhicmbfknagjaa.Nm
namespace Go.Proofs.Ytdhicmbfknagjaa.Nm
set_option maxRecDepth 8000
open Go.RowKit
theorem spec_q (s : ByteArray) (b : Bool) (hb : nameOk s = b) (w : World) (hs : s.size ≤ maxLen) : Calls Try.prog 37 #[.string s] w fun e w' => e = .returned (.bool b) ∧ w' = w :=
  (spec_any s w hs).mono fun e w' ⟨h1, h2⟩ => ⟨by rw [h1, hb], h2.symm⟩
theorem impl_q (s : ByteArray) (b : Bool) (hb : nameOk s = b) (w : World) (hs : s.size ≤ maxLen) : Calls Try.prog 86 #[.string s] w fun e w' => e = .returned (.bool b) ∧ w = w' :=
  (impl_any s w hs).mono fun e w' ⟨h1, h2⟩ => ⟨by rw [h1, hb], h2⟩
end Go.Proofs.Ytdhicmbfknagjaa.Nm
