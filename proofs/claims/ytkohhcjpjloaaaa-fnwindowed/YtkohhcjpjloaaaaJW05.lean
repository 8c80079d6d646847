/- Plain helpers for lists in memory: a number between two, a list opened where it has elements, a world that has only drawn; The two readers of a name, each walked once: what they answer is one plain function of the text. -/
import Derived.WalkKit
import Derived.Outline
import Derived.Test.YtkohhcjpjloaaaaRows
import Derived.Test.YtkohhcjpjloaaaaJW04
import Derived.Test.YtkohhcjpjloaaaaJW01
namespace Go.Proofs.Ytkohhcjpjloaaaa.Lp
set_option maxRecDepth 8000
open Go.RowKit
open Ls
open Recs (hsz below1 below2 chain)
set_option linter.unusedVariables false
def inR (lo x hi : Int) : Bool := decide (lo ≤ x) && decide (x ≤ hi)
theorem inR_true {lo x hi : Int} (h : inR lo x hi = true) : lo ≤ x ∧ x ≤ hi := by simpa [inR] using h
theorem drop_cons {T : Type} [Inhabited T] {l : List T} {k : Nat} (h : k < l.length) : l.drop k = l.getD k default :: l.drop (k + 1) := by
  rw [List.drop_eq_getElem_cons h]; simp [h]
/-- A list in memory, opened where it has elements. -/
structure Opn {T : Type} [Inhabited T] (nf : Nat) (E : Elt T) (w : World) (S : Nat → Prop) (A : Option Addr) (c : Nat) (us : List T) (g o : Nat) (F : Nat → Nat → Value) : Prop where
  addr : us.length = 0 ∨ (A = some ⟨g, o, none⟩ ∧ us.length ≤ c ∧ g < w.heap.size)
  cells : ∀ i, i < us.length → ∀ j, j < nf → w.cell? ⟨g, o + i * nf + j, none⟩ = some (F i j)
  el : ∀ i, i < us.length → E w S (F i) (us.getD i default)
theorem opn {T : Type} [Inhabited T] {nf : Nat} {E : Elt T} {w : World} {S : Nat → Prop} {v : Value} {us : List T} (h : LAt nf E w S v us) (hS : ∀ g, S g → g < w.heap.size) : ∃ A c g o F, v = .slice A us.length c ∧ Opn nf E w S A c us g o F ∧ us.length ≤ 9223372036854775807 := by
  obtain ⟨hn, A, c, rfl, h⟩ := h
  by_cases hz : us.length = 0
  · exact ⟨A, c, 0, 0, fun _ _ => default, rfl, ⟨.inl hz, fun i hi => absurd hi (by omega), fun i hi => absurd hi (by omega)⟩, hn⟩
  obtain ⟨g, o, F, rfl, hg, hc, hcell, hel⟩ := h.resolve_left hz
  exact ⟨_, c, g, o, F, rfl, ⟨.inr ⟨rfl, hc, hS g hg⟩, hcell, hel⟩, hn⟩
theorem Opn.later {T : Type} [Inhabited T] {nf : Nat} {E : Elt T} (hK : Keeps nf E) {w w' : World} {S : Nat → Prop} {A : Option Addr} {c : Nat} {us : List T} {g o : Nat} {F : Nat → Nat → Value} (h : Opn nf E w S A c us g o F) (hS : ∀ g, S g → g < w.heap.size) (hb : Below w.heap.size w w') : Opn nf E w' S A c us g o F := by
  refine ⟨h.addr.imp id (fun ⟨a, b, c⟩ => ⟨a, b, Nat.lt_of_lt_of_le c hb.size⟩), fun i hi j hj => ?_, fun i hi => hK _ _ _ _ _ _ (h.el i hi) (fun g hg => hb.block g (hS g hg)) (fun _ _ => rfl)⟩
  have hg : g < w.heap.size := by
    rcases h.addr with h0 | h0
    · omega
    · exact h0.2.2
  rw [hb.cell (p := ⟨g, o + i * nf + j, none⟩) hg]
  exact h.cells i hi j hj
/-- A world that has only drawn since. -/
structure Qt (a b : World) : Prop where
  heap : b.heap = a.heap
  os : b.os = a.os
  tape : b.tape = a.tape
  output : b.output = a.output
theorem Qt.refl (a : World) : Qt a a := ⟨rfl, rfl, rfl, rfl⟩
theorem Qt.drewN {a b : World} (h : Qt a b) (n : Nat) : Qt a (b.drewN n) := ⟨h.heap, h.os, h.tape, h.output⟩
theorem Qt.drew {a b : World} (h : Qt a b) : Qt a b.drew := ⟨h.heap, h.os, h.tape, h.output⟩
theorem Qt.cell {a b : World} (h : Qt a b) (p : Addr) : b.cell? p = a.cell? p := World.cell?_of_block (w := a) (a := p) (by rw [h.heap])
theorem Qt.bel {a b : World} (h : Qt a b) (B : Nat) : Below B a b := ⟨h.os, h.tape, h.output, by rw [h.heap]; exact Nat.le_refl _, fun k _ => by rw [h.heap]⟩
end Go.Proofs.Ytkohhcjpjloaaaa.Lp
namespace Go.Proofs.Ytkohhcjpjloaaaa.Nm
set_option maxRecDepth 8000
open Go.RowKit

def isL (n : Int) : Bool := (decide (97 ≤ n) && decide (n ≤ 122)) || (decide (65 ≤ n) && decide (n ≤ 90))
def isD (n : Int) : Bool := decide (48 ≤ n) && decide (n ≤ 57)
theorem ret_bool {a b : Bool} (h : a = b) : Ending.returned (.bool a) = .returned (.bool b) := by rw [h]

theorem isLetter_any (n : Int) (w : World) : Calls Try.prog 40 #[.int .u8 n] w fun e w' => e = .returned (.bool (isL n)) ∧ w = w' := by
  go_enter Try.func40, Try.ntmps40
  go_wp2
  all_goals
    go_ret
    exact ⟨ret_bool (by rw [Bool.eq_iff_iff]; simp [isL]; omega), rfl⟩

theorem isDigit_any (n : Int) (w : World) : Calls Try.prog 51 #[.int .u8 n] w fun e w' => e = .returned (.bool (isD n)) ∧ w = w' := by
  go_enter Try.func51, Try.ntmps51
  go_wp2
  all_goals
    go_ret
    exact ⟨ret_bool (by rw [Bool.eq_iff_iff]; simp [isD]; omega), rfl⟩

def ch (c : Int) : Bool := isL c || isD c || decide (c = 95)
theorem ch_L {c : Int} (h : isL c = true) : ch c = true := by simp [ch, h]
theorem ch_D {c : Int} (h : isD c = true) : ch c = true := by simp [ch, h]
theorem ch_U {c : Int} (h : (c != 95) = false) : ch c = true := by simp at h; simp [ch, h]
theorem ch_no {c : Int} (h1 : isL c = false) (h2 : isD c = false) (h : (c != 95) = true) : ch c = false := by simp at h; simp [ch, h, h1, h2]
theorem isNameByte_any (n : Int) (w : World) : Calls Try.prog 41 #[.int .u8 n] w fun e w' => e = .returned (.bool (ch n)) ∧ w = w' := by
  go_enter Try.func41, Try.ntmps41
  cases hL : isL n <;> cases hD : isD n
  all_goals
    have HC : Hid (ch n = (isL n || isD n || decide (n = 95))) := rfl
    rw [hL, hD] at HC
    go_wp2_with (first | (go_at_call 40; refine (isLetter_any _ _).mono ?_; rintro e w' ⟨rfl, rfl⟩; rw [hL]) | (go_at_call 51; refine (isDigit_any _ _).mono ?_; rintro e w' ⟨rfl, rfl⟩; rw [hD]))
    go_ret
    exact ⟨ret_bool (by rw [HC.out, Bool.eq_iff_iff]; simp), rfl⟩

/-- The test at one place: a letter; behind the first place a digit or the low line too. -/
def tst (s : ByteArray) (i : Nat) : Bool := if h : i < s.size then (isL (s[i].toNat : Int) || (decide (0 < i) && (isD (s[i].toNat : Int) || decide ((s[i].toNat : Int) = 95)))) else false
def good (s : ByteArray) (k : Nat) : Bool := (List.range k).all (tst s)
def nameOk (s : ByteArray) : Bool := decide (1 ≤ s.size ∧ s.size ≤ 20) && good s s.size

theorem good_zero (s : ByteArray) : good s 0 = true := rfl
theorem good_succ (s : ByteArray) (k : Nat) : good s (k + 1) = (good s k && tst s k) := by
  simp [good, List.range_succ]
theorem good_bad (s : ByteArray) (k n : Nat) (h : k < n) (hb : tst s k = false) : good s n = false := by
  simp only [good, List.all_eq_false, List.mem_range]
  exact ⟨k, h, by simp [hb]⟩
theorem name_bad (s : ByteArray) (k : Nat) (h : k < s.size) (hb : tst s k = false) : nameOk s = false := by
  simp [nameOk, good_bad s k s.size h hb]
theorem name_good (s : ByteArray) (h1 : 1 ≤ s.size) (h2 : s.size ≤ 20) (h : good s s.size = true) : nameOk s = true := by
  simp [nameOk, h, h1, h2]
theorem name_size (s : ByteArray) (h : s.size < 1 ∨ 20 < s.size) : nameOk s = false := by
  have : ¬ (1 ≤ s.size ∧ s.size ≤ 20) := by omega
  simp [nameOk, this]

theorem ways (c : Int) (k : Nat) : (97 ≤ c ∧ c ≤ 122) ∨ (65 ≤ c ∧ c ≤ 90) ∨ (0 < k ∧ 95 ≤ c ∧ c ≤ 95) ∨ (0 < k ∧ 48 ≤ c ∧ c ≤ 57) ∨ (k = 0 ∧ c < 65) ∨ (k = 0 ∧ 90 < c ∧ c < 97) ∨ (k = 0 ∧ 122 < c) ∨
    (0 < k ∧ c < 48) ∨ (0 < k ∧ 57 < c ∧ c < 65) ∨ (0 < k ∧ 90 < c ∧ c < 95) ∨ (0 < k ∧ 95 < c ∧ c < 97) ∨ (0 < k ∧ 122 < c) := by omega

set_option maxHeartbeats 800000 in
theorem spec_any (s : ByteArray) (w : World) (hs : s.size ≤ maxLen) : Calls Try.prog 36 #[.string s] w fun e w' => e = .returned (.bool (nameOk s)) ∧ w = w' := by
  unfold maxLen at hs
  by_cases h1 : s.size < 1
  · have hb := name_size s (.inl h1)
    have HB : Hid (nameOk s = false) := hb
    clear hb
    go_enter Try.func36, Try.ntmps36
    go_wp2
    go_ret
    exact ⟨ret_bool HB.out.symm, rfl⟩
  by_cases h2 : 20 < s.size
  · have HB : Hid (nameOk s = false) := name_size s (.inr h2)
    go_enter Try.func36, Try.ntmps36
    go_wp2
    go_ret
    exact ⟨ret_bool HB.out.symm, rfl⟩
  go_enter Try.func36, Try.ntmps36
  go_wp2
  go_loop [3] (fun i => ∃ k : Nat, k ≤ s.size ∧ i = .int .i64 k ∧ Hid (good s k = true)) (fun i => s.size - (intOf i).toNat)
  case atStart => exact ⟨0, Nat.zero_le _, rfl, good_zero s⟩
  case round =>
    obtain ⟨k, hk, rfl, HG⟩ := hrel
    by_cases hlt : k < s.size
    · have HT : Hid (tst s k = (isL (s[k].toNat : Int) || (decide (0 < k) && (isD (s[k].toNat : Int) || decide ((s[k].toNat : Int) = 95))))) := by
        show tst s k = _
        simp [tst, hlt]
      rcases ways (s[k].toNat : Int) k with h | h | ⟨h, h'⟩ | ⟨h, h'⟩ | h | h | h | h | h | h | h | h
      all_goals
        first
        | (have HY : Hid (tst s k = true) := (by show tst s k = true; rw [HT.out]; simp [isL, isD]; omega)
           clear HT
           go_wp2
           go_round
           case rel => exact ⟨k + 1, by omega, by go_num, (by show good s (k + 1) = true; rw [good_succ, HG.out, HY.out]; rfl)⟩
           case measure => simp [intOf]; omega)
        | (have HY : Hid (nameOk s = false) := name_bad s k hlt (by rw [HT.out]; simp [isL, isD]; omega)
           clear HT
           first
           | (have h0 : 0 < k := by omega
              go_wp2
              all_goals first
              | (go_ret
                 exact ⟨ret_bool HY.out.symm, rfl⟩)
              | (exfalso; rename_i hq; simp at hq; omega))
           | (obtain rfl : k = 0 := by omega
              go_wp2
              all_goals first
              | (go_ret
                 exact ⟨ret_bool HY.out.symm, rfl⟩)
              | (exfalso; rename_i hq; simp at hq; omega)))
    · go_wp2
      go_ret
      exact ⟨ret_bool (by rw [name_good s (by omega) (by omega) (by have : k = s.size := by omega
                                                                    subst this; exact HG.out)]), rfl⟩

theorem tst_ch (s : ByteArray) (k : Nat) (h : k < s.size) (h0 : isL ((s[0]'(by omega)).toNat : Int) = true) : tst s k = ch (s[k].toNat : Int) := by
  by_cases hk : 0 < k
  · simp [tst, ch, h, hk, Bool.or_assoc]
  · obtain rfl : k = 0 := by omega
    simp [tst, ch, h, h0]
theorem tst_zero (s : ByteArray) (h : 0 < s.size) (h0 : isL (s[0].toNat : Int) = false) : tst s 0 = false := by
  simp [tst, h, h0]

set_option maxHeartbeats 800000 in
theorem impl_any (s : ByteArray) (w : World) (hs : s.size ≤ maxLen) : Calls Try.prog 25 #[.string s] w fun e w' => e = .returned (.bool (nameOk s)) ∧ w = w' := by
  unfold maxLen at hs
  by_cases h1 : s.size < 1
  · have HB : Hid (nameOk s = false) := name_size s (.inl h1)
    go_enter Try.func25, Try.ntmps25
    go_wp2
    go_ret
    exact ⟨ret_bool HB.out.symm, rfl⟩
  by_cases h2 : 20 < s.size
  · have HB : Hid (nameOk s = false) := name_size s (.inr h2)
    go_enter Try.func25, Try.ntmps25
    go_wp2
    go_ret
    exact ⟨ret_bool HB.out.symm, rfl⟩
  have hz : 0 < s.size := by omega
  cases hl : isL (s[0].toNat : Int) with
  | false =>
    have HB : Hid (nameOk s = false) := name_bad s 0 hz (tst_zero s hz hl)
    go_enter Try.func25, Try.ntmps25
    go_wp2_with (go_at_call 40; refine (isLetter_any _ _).mono ?_; rintro e w' ⟨rfl, rfl⟩)
    go_ret
    exact ⟨ret_bool HB.out.symm, rfl⟩
  | true =>
    go_enter Try.func25, Try.ntmps25
    go_wp2_with (go_at_call 40; refine (isLetter_any _ _).mono ?_; rintro e w' ⟨rfl, rfl⟩)
    go_loop [3, 20] (fun _ i => ∃ k : Nat, k ≤ s.size ∧ i = .int .i64 k ∧ Hid (good s k = true)) (fun _ i => s.size - (intOf i).toNat)
    case atStart => exact ⟨0, Nat.zero_le _, rfl, good_zero s⟩
    case round =>
      obtain ⟨k, hk, rfl, HG⟩ := hrel
      by_cases hlt : k < s.size
      · have HT : Hid (tst s k = ch (s[k].toNat : Int)) := tst_ch s k hlt hl
        cases hC : ch (s[k].toNat : Int) with
        | true =>
          have HY : Hid (tst s k = true) := by show tst s k = true; rw [HT.out, hC]
          have HC := Seg.hid hC
          clear HT hC
          go_wp2_with (go_at_call 41; refine (isNameByte_any _ _).mono ?_; rintro e w' ⟨rfl, rfl⟩; rw [HC.out])
          go_round
          case rel => exact ⟨k + 1, by omega, by go_num, (by show good s (k + 1) = true; rw [good_succ, HG.out, HY.out]; rfl)⟩
          case measure => simp [intOf]; omega
        | false =>
          have HY : Hid (nameOk s = false) := name_bad s k hlt (by rw [HT.out, hC])
          have HC := Seg.hid hC
          clear HT hC
          go_wp2_with (go_at_call 41; refine (isNameByte_any _ _).mono ?_; rintro e w' ⟨rfl, rfl⟩; rw [HC.out])
          go_ret
          exact ⟨ret_bool HY.out.symm, rfl⟩
      · go_wp2
        go_ret
        exact ⟨ret_bool (by rw [name_good s (by omega) (by omega) (by have : k = s.size := by omega
                                                                      subst this; exact HG.out)]), rfl⟩
end Go.Proofs.Ytkohhcjpjloaaaa.Nm
