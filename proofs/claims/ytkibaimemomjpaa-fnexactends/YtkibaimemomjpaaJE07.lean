/- Names in a list of texts; lists of unlike texts: plain; The two readers of a name, each walked once: what they answer is one plain function of the text. -/
import Derived.WalkKit
import Derived.Outline
import Derived.Test.YtkibaimemomjpaaRows
import Derived.Test.YtkibaimemomjpaaJE06
import Derived.Test.YtkibaimemomjpaaJE05
import Derived.Test.YtkibaimemomjpaaJE01
namespace Go.Proofs.Ytkibaimemomjpaa.QyP
set_option maxRecDepth 8000
open Go.RowKit
open Ls Lp
set_option linter.unusedVariables false
def hasT (l : List ByteArray) (n : ByteArray) : Bool := l.any fun m => m.toList == n.toList
def unl (l : List ByteArray) (i : Nat) : Bool := !hasT (l.take i) (l.getD i default)
def diffN (l : List ByteArray) (k : Nat) : Bool := (List.range k).all (unl l)
def diff (l : List ByteArray) : Bool := diffN l l.length
theorem hasT_zero (l : List ByteArray) (n : ByteArray) : hasT (l.take 0) n = false := by simp [hasT]
theorem hasT_next {l : List ByteArray} {k : Nat} (h : k < l.length) (n : ByteArray) : hasT (l.take (k + 1)) n = (hasT (l.take k) n || ((l.getD k default).toList == n.toList)) := by
  unfold hasT
  rw [List.take_succ_eq_append_getElem h, List.any_append]
  simp [h]
theorem hasT_hit {l : List ByteArray} {k : Nat} (h : k < l.length) {n : ByteArray} (he : ((l.getD k default).toList == n.toList) = true) : hasT l n = true := by
  unfold hasT
  refine List.any_eq_true.2 ⟨l[k], List.getElem_mem h, ?_⟩
  simpa [h] using he
theorem diffN_zero (l : List ByteArray) : diffN l 0 = true := rfl
theorem diffN_next {l : List ByteArray} {k : Nat} (h : diffN l k = true) (h1 : hasT (l.take k) (l.getD k default) = false) : diffN l (k + 1) = true := by
  unfold diffN at *
  rw [List.range_succ, List.all_append, h, List.all_cons, List.all_nil, unl, h1]
  rfl
theorem diffN_bad {l : List ByteArray} {k n : Nat} (hk : k < n) (h1 : hasT (l.take k) (l.getD k default) = true) : diffN l n = false := by
  unfold diffN
  exact List.all_eq_false.2 ⟨k, List.mem_range.2 hk, by rw [unl, h1]; decide⟩
theorem strs_cell {w w' : World} {S : Nat → Prop} {A : Option Addr} {c : Nat} {us : List ByteArray} {g o : Nat} {F : Nat → Nat → Value} (h : Opn 1 EStr w S A c us g o F) (hb : w'.heap[g]? = w.heap[g]?) {k : Nat} (hk : k < us.length) : w'.cell? ⟨g, o + k, none⟩ = some (.string (us.getD k default)) := by
  have e : F k 0 = .string (us.getD k default) := h.el k hk
  have c := h.cells k hk 0 (by omega)
  rw [e] at c
  rw [World.cell?_of_block (w := w) (a := ⟨g, o + k, none⟩) hb]
  simpa using c
/-- The beginning of a list in memory. -/
theorem take_at {w : World} {S : Nat → Prop} {A : Option Addr} {c : Nat} {us : List ByteArray} {k : Nat} (h : LAt 1 EStr w S (.slice A us.length c) us) (hk : k ≤ us.length) : LAt 1 EStr w S (.slice A k c) (us.take k) := by
  obtain ⟨h0, A', c', h1, h2⟩ := h
  simp only [Value.slice.injEq, true_and] at h1
  obtain ⟨rfl, rfl⟩ := h1
  have hl : (us.take k).length = k := by rw [List.length_take]; omega
  refine ⟨by omega, A, c, by rw [hl], ?_⟩
  rw [hl]
  by_cases hz : k = 0
  · exact .inl hz
  · obtain ⟨g, o, F, ea, hg, hc, hcell, hel⟩ := h2.resolve_left (by omega)
    refine .inr ⟨g, o, F, ea, hg, by omega, fun i hi j hj => hcell i (by omega) j hj, fun i hi => ?_⟩
    have := hel i (by omega)
    rw [show (us.take k).getD i default = us.getD i default by simp [List.getD_eq_getElem?_getD, hi]]
    exact this
end Go.Proofs.Ytkibaimemomjpaa.QyP
namespace Go.Proofs.Ytkibaimemomjpaa.Nm
set_option maxRecDepth 8000
open Go.RowKit

def isL (n : Int) : Bool := (decide (97 ≤ n) && decide (n ≤ 122)) || (decide (65 ≤ n) && decide (n ≤ 90))
def isD (n : Int) : Bool := decide (48 ≤ n) && decide (n ≤ 57)
theorem ret_bool {a b : Bool} (h : a = b) : Ending.returned (.bool a) = .returned (.bool b) := by rw [h]

theorem isLetter_any (n : Int) (w : World) : Calls Try.prog 100 #[.int .u8 n] w fun e w' => e = .returned (.bool (isL n)) ∧ w = w' := by
  go_enter Try.func100, Try.ntmps100
  go_wp2
  all_goals
    go_ret
    exact ⟨ret_bool (by rw [Bool.eq_iff_iff]; simp [isL]; omega), rfl⟩

theorem isDigit_any (n : Int) (w : World) : Calls Try.prog 112 #[.int .u8 n] w fun e w' => e = .returned (.bool (isD n)) ∧ w = w' := by
  go_enter Try.func112, Try.ntmps112
  go_wp2
  all_goals
    go_ret
    exact ⟨ret_bool (by rw [Bool.eq_iff_iff]; simp [isD]; omega), rfl⟩

def ch (c : Int) : Bool := isL c || isD c || decide (c = 95)
theorem ch_L {c : Int} (h : isL c = true) : ch c = true := by simp [ch, h]
theorem ch_D {c : Int} (h : isD c = true) : ch c = true := by simp [ch, h]
theorem ch_U {c : Int} (h : (c != 95) = false) : ch c = true := by simp at h; simp [ch, h]
theorem ch_no {c : Int} (h1 : isL c = false) (h2 : isD c = false) (h : (c != 95) = true) : ch c = false := by simp at h; simp [ch, h, h1, h2]
theorem isNameByte_any (n : Int) (w : World) : Calls Try.prog 101 #[.int .u8 n] w fun e w' => e = .returned (.bool (ch n)) ∧ w = w' := by
  go_enter Try.func101, Try.ntmps101
  cases hL : isL n <;> cases hD : isD n
  all_goals
    have HC : Hid (ch n = (isL n || isD n || decide (n = 95))) := rfl
    rw [hL, hD] at HC
    go_wp2_with (first | (go_at_call 100; refine (isLetter_any _ _).mono ?_; rintro e w' ⟨rfl, rfl⟩; rw [hL]) | (go_at_call 112; refine (isDigit_any _ _).mono ?_; rintro e w' ⟨rfl, rfl⟩; rw [hD]))
    go_ret
    exact ⟨ret_bool (by rw [HC.out, Bool.eq_iff_iff]; simp), rfl⟩

/-- The test at one place: a letter; behind the first place a digit or the low line too. -/
def tst (s : ByteArray) (i : Nat) : Bool := if h : i < s.size then (isL (s[i].toNat : Int) || (decide (0 < i) && (isD (s[i].toNat : Int) || decide ((s[i].toNat : Int) = 95)))) else false
def good (s : ByteArray) (k : Nat) : Bool := (List.range k).all (tst s)
def nameOk (s : ByteArray) : Bool := decide (1 ≤ s.size ∧ s.size ≤ 20) && good s s.size

theorem good_zero (s : ByteArray) : good s 0 = true := rfl
theorem good_succ (s : ByteArray) (k : Nat) : good s (k + 1) = (good s k && tst s k) := by
  simp [good, List.range_succ]
theorem good_bad (s : ByteArray) (k n : Nat) (h : k < n) (hb : tst s k = false) : good s n = false := by
  simp only [good, List.all_eq_false, List.mem_range]
  exact ⟨k, h, by simp [hb]⟩
theorem name_bad (s : ByteArray) (k : Nat) (h : k < s.size) (hb : tst s k = false) : nameOk s = false := by
  simp [nameOk, good_bad s k s.size h hb]
theorem name_good (s : ByteArray) (h1 : 1 ≤ s.size) (h2 : s.size ≤ 20) (h : good s s.size = true) : nameOk s = true := by
  simp [nameOk, h, h1, h2]
theorem name_size (s : ByteArray) (h : s.size < 1 ∨ 20 < s.size) : nameOk s = false := by
  have : ¬ (1 ≤ s.size ∧ s.size ≤ 20) := by omega
  simp [nameOk, this]

theorem ways (c : Int) (k : Nat) : (97 ≤ c ∧ c ≤ 122) ∨ (65 ≤ c ∧ c ≤ 90) ∨ (0 < k ∧ 95 ≤ c ∧ c ≤ 95) ∨ (0 < k ∧ 48 ≤ c ∧ c ≤ 57) ∨ (k = 0 ∧ c < 65) ∨ (k = 0 ∧ 90 < c ∧ c < 97) ∨ (k = 0 ∧ 122 < c) ∨
    (0 < k ∧ c < 48) ∨ (0 < k ∧ 57 < c ∧ c < 65) ∨ (0 < k ∧ 90 < c ∧ c < 95) ∨ (0 < k ∧ 95 < c ∧ c < 97) ∨ (0 < k ∧ 122 < c) := by omega

set_option maxHeartbeats 800000 in
theorem spec_any (s : ByteArray) (w : World) (hs : s.size ≤ maxLen) : Calls Try.prog 71 #[.string s] w fun e w' => e = .returned (.bool (nameOk s)) ∧ w = w' := by
  unfold maxLen at hs
  by_cases h1 : s.size < 1
  · have hb := name_size s (.inl h1)
    have HB : Hid (nameOk s = false) := hb
    clear hb
    go_enter Try.func71, Try.ntmps71
    go_wp2
    go_ret
    exact ⟨ret_bool HB.out.symm, rfl⟩
  by_cases h2 : 20 < s.size
  · have HB : Hid (nameOk s = false) := name_size s (.inr h2)
    go_enter Try.func71, Try.ntmps71
    go_wp2
    go_ret
    exact ⟨ret_bool HB.out.symm, rfl⟩
  go_enter Try.func71, Try.ntmps71
  go_wp2
  go_loop [3] (fun i => ∃ k : Nat, k ≤ s.size ∧ i = .int .i64 k ∧ Hid (good s k = true)) (fun i => s.size - (intOf i).toNat)
  case atStart => exact ⟨0, Nat.zero_le _, rfl, good_zero s⟩
  case round =>
    obtain ⟨k, hk, rfl, HG⟩ := hrel
    by_cases hlt : k < s.size
    · have HT : Hid (tst s k = (isL (s[k].toNat : Int) || (decide (0 < k) && (isD (s[k].toNat : Int) || decide ((s[k].toNat : Int) = 95))))) := by
        show tst s k = _
        simp [tst, hlt]
      rcases ways (s[k].toNat : Int) k with h | h | ⟨h, h'⟩ | ⟨h, h'⟩ | h | h | h | h | h | h | h | h
      all_goals
        first
        | (have HY : Hid (tst s k = true) := (by show tst s k = true; rw [HT.out]; simp [isL, isD]; omega)
           clear HT
           go_wp2
           go_round
           case rel => exact ⟨k + 1, by omega, by go_num, (by show good s (k + 1) = true; rw [good_succ, HG.out, HY.out]; rfl)⟩
           case measure => simp [intOf]; omega)
        | (have HY : Hid (nameOk s = false) := name_bad s k hlt (by rw [HT.out]; simp [isL, isD]; omega)
           clear HT
           first
           | (have h0 : 0 < k := by omega
              go_wp2
              all_goals first
              | (go_ret
                 exact ⟨ret_bool HY.out.symm, rfl⟩)
              | (exfalso; rename_i hq; simp at hq; omega))
           | (obtain rfl : k = 0 := by omega
              go_wp2
              all_goals first
              | (go_ret
                 exact ⟨ret_bool HY.out.symm, rfl⟩)
              | (exfalso; rename_i hq; simp at hq; omega)))
    · go_wp2
      go_ret
      exact ⟨ret_bool (by rw [name_good s (by omega) (by omega) (by have : k = s.size := by omega
                                                                    subst this; exact HG.out)]), rfl⟩

theorem tst_ch (s : ByteArray) (k : Nat) (h : k < s.size) (h0 : isL ((s[0]'(by omega)).toNat : Int) = true) : tst s k = ch (s[k].toNat : Int) := by
  by_cases hk : 0 < k
  · simp [tst, ch, h, hk, Bool.or_assoc]
  · obtain rfl : k = 0 := by omega
    simp [tst, ch, h, h0]
theorem tst_zero (s : ByteArray) (h : 0 < s.size) (h0 : isL (s[0].toNat : Int) = false) : tst s 0 = false := by
  simp [tst, h, h0]

set_option maxHeartbeats 800000 in
theorem impl_any (s : ByteArray) (w : World) (hs : s.size ≤ maxLen) : Calls Try.prog 76 #[.string s] w fun e w' => e = .returned (.bool (nameOk s)) ∧ w = w' := by
  unfold maxLen at hs
  by_cases h1 : s.size < 1
  · have HB : Hid (nameOk s = false) := name_size s (.inl h1)
    go_enter Try.func76, Try.ntmps76
    go_wp2
    go_ret
    exact ⟨ret_bool HB.out.symm, rfl⟩
  by_cases h2 : 20 < s.size
  · have HB : Hid (nameOk s = false) := name_size s (.inr h2)
    go_enter Try.func76, Try.ntmps76
    go_wp2
    go_ret
    exact ⟨ret_bool HB.out.symm, rfl⟩
  have hz : 0 < s.size := by omega
  cases hl : isL (s[0].toNat : Int) with
  | false =>
    have HB : Hid (nameOk s = false) := name_bad s 0 hz (tst_zero s hz hl)
    go_enter Try.func76, Try.ntmps76
    go_wp2_with (go_at_call 100; refine (isLetter_any _ _).mono ?_; rintro e w' ⟨rfl, rfl⟩)
    go_ret
    exact ⟨ret_bool HB.out.symm, rfl⟩
  | true =>
    go_enter Try.func76, Try.ntmps76
    go_wp2_with (go_at_call 100; refine (isLetter_any _ _).mono ?_; rintro e w' ⟨rfl, rfl⟩)
    go_loop [3, 20] (fun _ i => ∃ k : Nat, k ≤ s.size ∧ i = .int .i64 k ∧ Hid (good s k = true)) (fun _ i => s.size - (intOf i).toNat)
    case atStart => exact ⟨0, Nat.zero_le _, rfl, good_zero s⟩
    case round =>
      obtain ⟨k, hk, rfl, HG⟩ := hrel
      by_cases hlt : k < s.size
      · have HT : Hid (tst s k = ch (s[k].toNat : Int)) := tst_ch s k hlt hl
        cases hC : ch (s[k].toNat : Int) with
        | true =>
          have HY : Hid (tst s k = true) := by show tst s k = true; rw [HT.out, hC]
          have HC := Seg.hid hC
          clear HT hC
          go_wp2_with (go_at_call 101; refine (isNameByte_any _ _).mono ?_; rintro e w' ⟨rfl, rfl⟩; rw [HC.out])
          go_round
          case rel => exact ⟨k + 1, by omega, by go_num, (by show good s (k + 1) = true; rw [good_succ, HG.out, HY.out]; rfl)⟩
          case measure => simp [intOf]; omega
        | false =>
          have HY : Hid (nameOk s = false) := name_bad s k hlt (by rw [HT.out, hC])
          have HC := Seg.hid hC
          clear HT hC
          go_wp2_with (go_at_call 101; refine (isNameByte_any _ _).mono ?_; rintro e w' ⟨rfl, rfl⟩; rw [HC.out])
          go_ret
          exact ⟨ret_bool HY.out.symm, rfl⟩
      · go_wp2
        go_ret
        exact ⟨ret_bool (by rw [name_good s (by omega) (by omega) (by have : k = s.size := by omega
                                                                      subst this; exact HG.out)]), rfl⟩
end Go.Proofs.Ytkibaimemomjpaa.Nm
