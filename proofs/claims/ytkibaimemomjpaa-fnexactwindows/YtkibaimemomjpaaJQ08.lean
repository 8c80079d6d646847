/- The two readers of a name, each walked once: what they answer is one plain function of the text; Source: how it lies in memory; what the law's measure and copier answer. -/
import Derived.WalkKit
import Derived.Outline
import Derived.Test.YtkibaimemomjpaaRows
import Derived.Test.YtkibaimemomjpaaJQ01
import Derived.Test.YtkibaimemomjpaaJQ07
namespace Go.Proofs.Ytkibaimemomjpaa.Nm
set_option maxRecDepth 8000
open Go.RowKit

def isL (n : Int) : Bool := (decide (97 ≤ n) && decide (n ≤ 122)) || (decide (65 ≤ n) && decide (n ≤ 90))
def isD (n : Int) : Bool := decide (48 ≤ n) && decide (n ≤ 57)
theorem ret_bool {a b : Bool} (h : a = b) : Ending.returned (.bool a) = .returned (.bool b) := by rw [h]

theorem isLetter_any (n : Int) (w : World) : Calls Try.prog 100 #[.int .u8 n] w fun e w' => e = .returned (.bool (isL n)) ∧ w = w' := by
  go_enter Try.func100, Try.ntmps100
  go_wp2
  all_goals
    go_ret
    exact ⟨ret_bool (by rw [Bool.eq_iff_iff]; simp [isL]; omega), rfl⟩

theorem isDigit_any (n : Int) (w : World) : Calls Try.prog 112 #[.int .u8 n] w fun e w' => e = .returned (.bool (isD n)) ∧ w = w' := by
  go_enter Try.func112, Try.ntmps112
  go_wp2
  all_goals
    go_ret
    exact ⟨ret_bool (by rw [Bool.eq_iff_iff]; simp [isD]; omega), rfl⟩

def ch (c : Int) : Bool := isL c || isD c || decide (c = 95)
theorem ch_L {c : Int} (h : isL c = true) : ch c = true := by simp [ch, h]
theorem ch_D {c : Int} (h : isD c = true) : ch c = true := by simp [ch, h]
theorem ch_U {c : Int} (h : (c != 95) = false) : ch c = true := by simp at h; simp [ch, h]
theorem ch_no {c : Int} (h1 : isL c = false) (h2 : isD c = false) (h : (c != 95) = true) : ch c = false := by simp at h; simp [ch, h, h1, h2]
theorem isNameByte_any (n : Int) (w : World) : Calls Try.prog 101 #[.int .u8 n] w fun e w' => e = .returned (.bool (ch n)) ∧ w = w' := by
  go_enter Try.func101, Try.ntmps101
  cases hL : isL n <;> cases hD : isD n
  all_goals
    have HC : Hid (ch n = (isL n || isD n || decide (n = 95))) := rfl
    rw [hL, hD] at HC
    go_wp2_with (first | (go_at_call 100; refine (isLetter_any _ _).mono ?_; rintro e w' ⟨rfl, rfl⟩; rw [hL]) | (go_at_call 112; refine (isDigit_any _ _).mono ?_; rintro e w' ⟨rfl, rfl⟩; rw [hD]))
    go_ret
    exact ⟨ret_bool (by rw [HC.out, Bool.eq_iff_iff]; simp), rfl⟩

/-- The test at one place: a letter; behind the first place a digit or the low line too. -/
def tst (s : ByteArray) (i : Nat) : Bool := if h : i < s.size then (isL (s[i].toNat : Int) || (decide (0 < i) && (isD (s[i].toNat : Int) || decide ((s[i].toNat : Int) = 95)))) else false
def good (s : ByteArray) (k : Nat) : Bool := (List.range k).all (tst s)
def nameOk (s : ByteArray) : Bool := decide (1 ≤ s.size ∧ s.size ≤ 20) && good s s.size

theorem good_zero (s : ByteArray) : good s 0 = true := rfl
theorem good_succ (s : ByteArray) (k : Nat) : good s (k + 1) = (good s k && tst s k) := by
  simp [good, List.range_succ]
theorem good_bad (s : ByteArray) (k n : Nat) (h : k < n) (hb : tst s k = false) : good s n = false := by
  simp only [good, List.all_eq_false, List.mem_range]
  exact ⟨k, h, by simp [hb]⟩
theorem name_bad (s : ByteArray) (k : Nat) (h : k < s.size) (hb : tst s k = false) : nameOk s = false := by
  simp [nameOk, good_bad s k s.size h hb]
theorem name_good (s : ByteArray) (h1 : 1 ≤ s.size) (h2 : s.size ≤ 20) (h : good s s.size = true) : nameOk s = true := by
  simp [nameOk, h, h1, h2]
theorem name_size (s : ByteArray) (h : s.size < 1 ∨ 20 < s.size) : nameOk s = false := by
  have : ¬ (1 ≤ s.size ∧ s.size ≤ 20) := by omega
  simp [nameOk, this]

theorem ways (c : Int) (k : Nat) : (97 ≤ c ∧ c ≤ 122) ∨ (65 ≤ c ∧ c ≤ 90) ∨ (0 < k ∧ 95 ≤ c ∧ c ≤ 95) ∨ (0 < k ∧ 48 ≤ c ∧ c ≤ 57) ∨ (k = 0 ∧ c < 65) ∨ (k = 0 ∧ 90 < c ∧ c < 97) ∨ (k = 0 ∧ 122 < c) ∨
    (0 < k ∧ c < 48) ∨ (0 < k ∧ 57 < c ∧ c < 65) ∨ (0 < k ∧ 90 < c ∧ c < 95) ∨ (0 < k ∧ 95 < c ∧ c < 97) ∨ (0 < k ∧ 122 < c) := by omega

set_option maxHeartbeats 800000 in
theorem spec_any (s : ByteArray) (w : World) (hs : s.size ≤ maxLen) : Calls Try.prog 71 #[.string s] w fun e w' => e = .returned (.bool (nameOk s)) ∧ w = w' := by
  unfold maxLen at hs
  by_cases h1 : s.size < 1
  · have hb := name_size s (.inl h1)
    have HB : Hid (nameOk s = false) := hb
    clear hb
    go_enter Try.func71, Try.ntmps71
    go_wp2
    go_ret
    exact ⟨ret_bool HB.out.symm, rfl⟩
  by_cases h2 : 20 < s.size
  · have HB : Hid (nameOk s = false) := name_size s (.inr h2)
    go_enter Try.func71, Try.ntmps71
    go_wp2
    go_ret
    exact ⟨ret_bool HB.out.symm, rfl⟩
  go_enter Try.func71, Try.ntmps71
  go_wp2
  go_loop [3] (fun i => ∃ k : Nat, k ≤ s.size ∧ i = .int .i64 k ∧ Hid (good s k = true)) (fun i => s.size - (intOf i).toNat)
  case atStart => exact ⟨0, Nat.zero_le _, rfl, good_zero s⟩
  case round =>
    obtain ⟨k, hk, rfl, HG⟩ := hrel
    by_cases hlt : k < s.size
    · have HT : Hid (tst s k = (isL (s[k].toNat : Int) || (decide (0 < k) && (isD (s[k].toNat : Int) || decide ((s[k].toNat : Int) = 95))))) := by
        show tst s k = _
        simp [tst, hlt]
      rcases ways (s[k].toNat : Int) k with h | h | ⟨h, h'⟩ | ⟨h, h'⟩ | h | h | h | h | h | h | h | h
      all_goals
        first
        | (have HY : Hid (tst s k = true) := (by show tst s k = true; rw [HT.out]; simp [isL, isD]; omega)
           clear HT
           go_wp2
           go_round
           case rel => exact ⟨k + 1, by omega, by go_num, (by show good s (k + 1) = true; rw [good_succ, HG.out, HY.out]; rfl)⟩
           case measure => simp [intOf]; omega)
        | (have HY : Hid (nameOk s = false) := name_bad s k hlt (by rw [HT.out]; simp [isL, isD]; omega)
           clear HT
           first
           | (have h0 : 0 < k := by omega
              go_wp2
              all_goals first
              | (go_ret
                 exact ⟨ret_bool HY.out.symm, rfl⟩)
              | (exfalso; rename_i hq; simp at hq; omega))
           | (obtain rfl : k = 0 := by omega
              go_wp2
              all_goals first
              | (go_ret
                 exact ⟨ret_bool HY.out.symm, rfl⟩)
              | (exfalso; rename_i hq; simp at hq; omega)))
    · go_wp2
      go_ret
      exact ⟨ret_bool (by rw [name_good s (by omega) (by omega) (by have : k = s.size := by omega
                                                                    subst this; exact HG.out)]), rfl⟩

theorem tst_ch (s : ByteArray) (k : Nat) (h : k < s.size) (h0 : isL ((s[0]'(by omega)).toNat : Int) = true) : tst s k = ch (s[k].toNat : Int) := by
  by_cases hk : 0 < k
  · simp [tst, ch, h, hk, Bool.or_assoc]
  · obtain rfl : k = 0 := by omega
    simp [tst, ch, h, h0]
theorem tst_zero (s : ByteArray) (h : 0 < s.size) (h0 : isL (s[0].toNat : Int) = false) : tst s 0 = false := by
  simp [tst, h, h0]

set_option maxHeartbeats 800000 in
theorem impl_any (s : ByteArray) (w : World) (hs : s.size ≤ maxLen) : Calls Try.prog 76 #[.string s] w fun e w' => e = .returned (.bool (nameOk s)) ∧ w = w' := by
  unfold maxLen at hs
  by_cases h1 : s.size < 1
  · have HB : Hid (nameOk s = false) := name_size s (.inl h1)
    go_enter Try.func76, Try.ntmps76
    go_wp2
    go_ret
    exact ⟨ret_bool HB.out.symm, rfl⟩
  by_cases h2 : 20 < s.size
  · have HB : Hid (nameOk s = false) := name_size s (.inr h2)
    go_enter Try.func76, Try.ntmps76
    go_wp2
    go_ret
    exact ⟨ret_bool HB.out.symm, rfl⟩
  have hz : 0 < s.size := by omega
  cases hl : isL (s[0].toNat : Int) with
  | false =>
    have HB : Hid (nameOk s = false) := name_bad s 0 hz (tst_zero s hz hl)
    go_enter Try.func76, Try.ntmps76
    go_wp2_with (go_at_call 100; refine (isLetter_any _ _).mono ?_; rintro e w' ⟨rfl, rfl⟩)
    go_ret
    exact ⟨ret_bool HB.out.symm, rfl⟩
  | true =>
    go_enter Try.func76, Try.ntmps76
    go_wp2_with (go_at_call 100; refine (isLetter_any _ _).mono ?_; rintro e w' ⟨rfl, rfl⟩)
    go_loop [3, 20] (fun _ i => ∃ k : Nat, k ≤ s.size ∧ i = .int .i64 k ∧ Hid (good s k = true)) (fun _ i => s.size - (intOf i).toNat)
    case atStart => exact ⟨0, Nat.zero_le _, rfl, good_zero s⟩
    case round =>
      obtain ⟨k, hk, rfl, HG⟩ := hrel
      by_cases hlt : k < s.size
      · have HT : Hid (tst s k = ch (s[k].toNat : Int)) := tst_ch s k hlt hl
        cases hC : ch (s[k].toNat : Int) with
        | true =>
          have HY : Hid (tst s k = true) := by show tst s k = true; rw [HT.out, hC]
          have HC := Seg.hid hC
          clear HT hC
          go_wp2_with (go_at_call 101; refine (isNameByte_any _ _).mono ?_; rintro e w' ⟨rfl, rfl⟩; rw [HC.out])
          go_round
          case rel => exact ⟨k + 1, by omega, by go_num, (by show good s (k + 1) = true; rw [good_succ, HG.out, HY.out]; rfl)⟩
          case measure => simp [intOf]; omega
        | false =>
          have HY : Hid (nameOk s = false) := name_bad s k hlt (by rw [HT.out, hC])
          have HC := Seg.hid hC
          clear HT hC
          go_wp2_with (go_at_call 101; refine (isNameByte_any _ _).mono ?_; rintro e w' ⟨rfl, rfl⟩; rw [HC.out])
          go_ret
          exact ⟨ret_bool HY.out.symm, rfl⟩
      · go_wp2
        go_ret
        exact ⟨ret_bool (by rw [name_good s (by omega) (by omega) (by have : k = s.size := by omega
                                                                      subst this; exact HG.out)]), rfl⟩
end Go.Proofs.Ytkibaimemomjpaa.Nm
namespace Go.Proofs.Ytkibaimemomjpaa.Ls
set_option maxRecDepth 8000
open Go.RowKit
open Recs
set_option linter.unusedVariables false
structure Src where
  name : ByteArray
  tab : Bool
  cols : List ByteArray
  deriving Inhabited
def ESrc : Elt Src := fun w S f u => f 0 = .string u.name ∧ f 1 = .bool u.tab ∧ StrsAt w S (f 2) u.cols
theorem keepsSrc : Keeps 3 ESrc := fun w w' S f f' t h hk hf => by
  obtain ⟨h0, h1, h2⟩ := h
  exact ⟨by rw [hf 0 (by omega)]; exact h0, by rw [hf 1 (by omega)]; exact h1, by rw [hf 2 (by omega)]; exact h2.keep keepsStr hk⟩
theorem growsSrc : Grows ESrc := fun w S S' f t h hs => by
  obtain ⟨h0, h1, h2⟩ := h
  exact ⟨h0, h1, h2.mono growsStr hs⟩
def arrSrc (f : Nat → Value) : Array Value := #[f 0, f 1, f 2]
theorem oneSrc {w : World} {S : Nat → Prop} {f : Nat → Value} {u : Src} (h : ESrc w S f u) : (arrSrc f).all (·.oneCell') = true := by
  obtain ⟨h0, h1, h2⟩ := h
  have o0 : (f 0).oneCell' = true := by rw [h0]; rfl
  have o1 : (f 1).oneCell' = true := by rw [h1]; rfl
  have o2 : (f 2).oneCell' = true := h2.one
  simp [arrSrc, o0, o1, o2]
def SrcAt (w : World) (S : Nat → Prop) (v : Value) (u : Src) : Prop := ∃ f, v = .agg (arrSrc f) ∧ ESrc w S f u
abbrev SrcsAt := LAt 3 ESrc
theorem SrcAt.keep {w w' : World} {S : Nat → Prop} {v : Value} {u : Src} (h : SrcAt w S v u) (hk : ∀ g, S g → w'.heap[g]? = w.heap[g]?) : SrcAt w' S v u := by
  obtain ⟨f, h1, h2⟩ := h
  exact ⟨f, h1, keepsSrc _ _ _ _ _ _ h2 hk (fun _ _ => rfl)⟩
theorem SrcAt.mono {w : World} {S S' : Nat → Prop} {v : Value} {u : Src} (h : SrcAt w S v u) (hs : ∀ g, S g → S' g) : SrcAt w S' v u := by
  obtain ⟨f, h1, h2⟩ := h
  exact ⟨f, h1, growsSrc _ _ _ _ _ h2 hs⟩
theorem SrcAt.below {w w' : World} {B : Nat} {S : Nat → Prop} {v : Value} {u : Src} (h : SrcAt w S v u) (hb : Below B w w') (hs : ∀ g, S g → g < B) : SrcAt w' S v u := h.keep fun g hg => hb.block g (hs g hg)
def szSrc (u : Src) : Nat := u.name.size + szL ByteArray.size (u.cols)
def FineSrc (u : Src) : Prop := u.name.size ≤ maxLen ∧ True ∧ FineL FineStr u.cols
theorem infoSrc : (Try.prog.info? 92).map (·.size) = some 3 := by kernel_rfl
theorem infoLSrc : (Try.prog.info? 80).map (·.size) = some 3 := by kernel_rfl
theorem infoZSrc : (Try.prog.info? 92).map (fun i => (i.zero, i.size, i.bytes)) = some (some (.agg #[.string ByteArray.empty, .bool false, .slice none 0 0]), 3, 48) := by kernel_rfl
set_option maxHeartbeats 800000 in
theorem szSource_any (v : Value) (u : Src) (l : Int) (w : World) (S : Nat → Prop) (h3 : -1 ≤ l) (h4 : l ≤ 1048576) (hv : SrcAt w S v u) (hS : ∀ g, S g → g < w.heap.size) (hf : FineSrc u) :
    Calls Try.prog 51 #[v, .int .i64 l] w fun e w' => ∃ q, e = .returned (.int .i64 q) ∧ -1 ≤ q ∧ q ≤ l ∧ Lf l (szSrc u) q ∧ Below w.heap.size w w' := by
  obtain ⟨f, rfl, y0, y1, y2⟩ := hv
  try simp only [arrSrc]
  rw [show f 0 = _ from y0]
  clear y0
  rw [show f 1 = _ from y1]
  clear y1
  obtain ⟨A2, c2, g2⟩ := y2.form
  rw [g2] at y2 ⊢
  have H2 := Seg.hid y2
  clear y2 g2
  obtain ⟨z0, z1, z2⟩ := hf
  unfold maxLen at z0
  have Z2 := Seg.hid z2
  clear z1 z2
  go_enter Try.func51, Try.ntmps51
  by_cases k0 : l - (u.name.size : Int) < 0
  · go_wp2
    go_ret
    exact ⟨_, rfl, by omega, by omega, by simp only [szSrc]; exact ⟨fun _ => by omega, fun _ => by omega⟩, below1 _ _⟩
  go_wp2_with fail
  refine (szStringS_any _ u.cols _ (w.alloc _) S (by omega) (by omega) (H2.out.below keepsStr (below1 w _) hS) (fun g hg => by rw [hsz]; have := hS g hg; omega) Z2.out).mono ?_
  rintro e w1 ⟨q1, rfl, a1, b1, L1', d1⟩
  have B1 := Seg.hid (chain (below1 w _) d1)
  have L1 := Seg.hid L1'
  clear d1 L1'
  by_cases k2 : q1 < 0
  · go_wp2
    go_ret
    exact ⟨_, rfl, by omega, by omega, by have m0 := L1.out.2 (by omega); simp only [szSrc]; exact ⟨fun _ => by omega, fun _ => by omega⟩, B1.out⟩
  go_wp2
  go_ret
  exact ⟨_, rfl, by omega, by omega, by have m0 := L1.out.1 (by omega); simp only [szSrc]; exact ⟨fun _ => by omega, fun _ => by omega⟩, B1.out⟩
set_option maxHeartbeats 1600000 in
theorem toSource_any (v : Value) (u : Src) (w : World) (S : Nat → Prop) (hv : SrcAt w S v u) (hS : ∀ g, S g → g < w.heap.size) (hf : szSrc u ≤ 1048576) :
    Calls Try.prog 57 #[v] w fun e w' => ∃ v', e = .returned v' ∧ SrcAt w' (seg w.heap.size w'.heap.size) v' u ∧ Below w.heap.size w w' := by
  obtain ⟨f, rfl, y0, y1, y2⟩ := hv
  try simp only [arrSrc]
  rw [show f 0 = _ from y0]
  clear y0
  rw [show f 1 = _ from y1]
  clear y1
  obtain ⟨A2, c2, g2⟩ := y2.form
  rw [g2] at y2 ⊢
  have H2 := Seg.hid y2
  clear y2 g2
  unfold szSrc at hf
  go_enter Try.func57, Try.ntmps57
  go_wp2_with fail
  refine (toStringS_any _ u.cols (((w.alloc _).alloc _).alloc _) S (H2.out.below keepsStr (below3 w _ _ _) hS) (fun g hg => by rw [hsz, hsz, hsz]; have := hS g hg; omega) (by omega)).mono ?_
  rintro e w1 ⟨v1, rfl, l1, b1⟩
  have B1 := Seg.hid (chain (below3 w _ _ _) b1)
  have Ta1 : Hid (w1.heap[w.heap.size]? = some (.cells #[.string u.name, .bool u.tab, .slice A2 u.cols.length c2] 80 (0, 0))) := (b1.block w.heap.size (by rw [hsz, hsz, hsz]; omega)).trans (at3z w _ _ _)
  have Tr1 : Hid (w1.heap[w.heap.size + 1]? = some (.cells #[.string ByteArray.empty, .bool false, .slice none 0 0] 92 (0, 0))) := (b1.block (w.heap.size + 1) (by rw [hsz, hsz, hsz]; omega)).trans (at3 w _ _ _)
  have To1 : Hid (w1.heap[w.heap.size + 1 + 1]? = some (.cells #[.string u.name, .bool u.tab, .slice none 0 0] 92 (0, 0))) := (b1.block (w.heap.size + 1 + 1) (by rw [hsz, hsz, hsz]; omega)).trans (Cells.at3' w _ _ _)
  have s1 : w.heap.size + 3 ≤ w1.heap.size := by have := b1.size; rw [hsz, hsz, hsz] at this; omega
  have M1 : Hid (StrsAt w1 (seg (w.heap.size + 3) w1.heap.size) v1 u.cols) := by
    rw [hsz, hsz, hsz] at l1
    exact l1
  obtain ⟨Y1, x1, r1⟩ := M1.out.form
  subst r1
  clear b1 l1
  have N11 := M1
  have po12 : (w1).cell? ⟨w.heap.size + 1 + 1, 2, none⟩ = some (.slice none 0 0) := cell_of_row (w1) _ 2 _ _ (0, 0) (To1.out)
  have pf12 : (w1).frozen? ⟨w.heap.size + 1 + 1, 2, none⟩ = false := frozen_of_row (w1) _ 2 _ _ (To1.out)
  have qo12 : Hid (((w1.setCell ⟨w.heap.size + 1 + 1, 2, none⟩ (.slice Y1 u.cols.length x1))).heap[w.heap.size + 1 + 1]? = some (.cells #[.string u.name, .bool u.tab, .slice Y1 u.cols.length x1] 92 (0, 0))) := heap_setCell_same (w1) (w.heap.size + 1 + 1) 2 _ _ (.slice Y1 u.cols.length x1) (To1.out)
  have Uo1 := Seg.hid (qo12.out)
  have Ur1 := Seg.hid ((heap_setCell_other (w1) ⟨w.heap.size + 1 + 1, 2, none⟩ (w.heap.size + 1) (.slice Y1 u.cols.length x1) (by simp)).trans (Tr1.out))
  have Ua1 := Seg.hid ((heap_setCell_other (w1) ⟨w.heap.size + 1 + 1, 2, none⟩ w.heap.size (.slice Y1 u.cols.length x1) (by simp; omega)).trans (Ta1.out))
  have D1 : Hid (Below w.heap.size w (w1.setCell ⟨w.heap.size + 1 + 1, 2, none⟩ (.slice Y1 u.cols.length x1))) := (B1.out).setCell (p := ⟨w.heap.size + 1 + 1, 2, none⟩) (by simp; omega) (.slice Y1 u.cols.length x1)
  have N11' : Hid (StrsAt (w1.setCell ⟨w.heap.size + 1 + 1, 2, none⟩ (.slice Y1 u.cols.length x1)) (seg (w.heap.size + 3) w1.heap.size) (.slice Y1 u.cols.length x1) u.cols) := N11.out.keep keepsStr (fun g hg => by have := hg.1; rw [heap_setCell_other _ _ _ _ (by show _ ≠ w.heap.size + 1 + 1; omega)])
  obtain ⟨fx, hfx⟩ : ∃ fx : Nat → Value, fx = (fun q => if q = 0 then .string u.name else if q = 1 then .bool u.tab else .slice Y1 u.cols.length x1) := ⟨_, rfl⟩
  have HX := Seg.hid hfx
  have Uz : Hid ((w1.setCell ⟨w.heap.size + 1 + 1, 2, none⟩ (.slice Y1 u.cols.length x1)).heap[w.heap.size + 1 + 1]? = some (.cells (arrSrc fx) 92 (0, 0))) := by
    show _ = _
    rw [hfx]
    exact Uo1.out
  clear hfx
  have H5a := Cells.there_of Ur1.out
  have H5 : Hid ((w1.setCell ⟨w.heap.size + 1 + 1, 2, none⟩ (.slice Y1 u.cols.length x1)).there (w.heap.size + 1) 0 (arrSrc fx).size) := H5a
  clear H5a
  have H4 := Seg.hid (Cells.whole (vs := arrSrc fx) Ur1.out rfl)
  have B9 := Seg.hid (Cells.below_setCells (g := w.heap.size + 1) (by omega) (arrSrc fx).toList 0 _ _ D1.out)
  have F1 : Hid (StrsAt ((w1.setCell ⟨w.heap.size + 1 + 1, 2, none⟩ (.slice Y1 u.cols.length x1)).setCells (w.heap.size + 1) 0 (arrSrc fx).toList) (seg w.heap.size ((w1.setCell ⟨w.heap.size + 1 + 1, 2, none⟩ (.slice Y1 u.cols.length x1)).setCells (w.heap.size + 1) 0 (arrSrc fx).toList).heap.size) (fx 2) u.cols) := by
    show StrsAt _ _ _ _
    rw [show fx 2 = .slice Y1 u.cols.length x1 by rw [HX.out]; rfl]
    refine (N11'.out.keep keepsStr (fun g hg => ?_)).mono growsStr (fun g hg => ⟨by have := hg.1; omega, ?_⟩)
    · have := hg.1
      rw [Cells.heap_setCells_other _ _ (by omega)]
    · rw [Cells.size_setCells]
      have := hg.2
      simpa using this
  have EX : Hid (ESrc ((w1.setCell ⟨w.heap.size + 1 + 1, 2, none⟩ (.slice Y1 u.cols.length x1)).setCells (w.heap.size + 1) 0 (arrSrc fx).toList) (seg w.heap.size ((w1.setCell ⟨w.heap.size + 1 + 1, 2, none⟩ (.slice Y1 u.cols.length x1)).setCells (w.heap.size + 1) 0 (arrSrc fx).toList).heap.size) fx u) := ⟨by rw [HX.out]; rfl, by rw [HX.out]; rfl, F1.out⟩
  have ON := Seg.hid (oneSrc EX.out)
  clear Ta1 Tr1 To1 Ua1 M1
  go_upto_region 5 with fail
  clear po12 pf12
  generalize (w1.setCell ⟨w.heap.size + 1 + 1, 2, none⟩ (.slice Y1 u.cols.length x1)) = wz at *
  go_wp2_with (first | (refine wpList_load_row rfl 92 _ rfl (w.heap.size + 1 + 1) rfl _ _ _ _ Uz.out Try.underlying92 rfl infoSrc ?_) | (refine wpList_store_mid rfl 92 _ _ rfl (w.heap.size + 1) 0 (arrSrc fx) rfl rfl H5.out infoSrc ON.out ?_))
  exact bodyPost_ret (v := .agg (arrSrc fx)) (results_cell_row rfl _ _ (w.heap.size + 1) _ _ _ _ rfl H4.out Try.underlying92 rfl infoSrc) rfl ⟨_, rfl, ⟨fx, rfl, EX.out⟩, B9.out⟩
set_option maxHeartbeats 1600000 in
theorem eqSource_any (v v' : Value) (u : Src) (w : World) (S S' : Nat → Prop) (hv : SrcAt w S v u) (hv' : SrcAt w S' v' u) (hS : ∀ g, S g → g < w.heap.size) (hS' : ∀ g, S' g → g < w.heap.size) :
    Calls Try.prog 65 #[v, v'] w fun e w' => e = .returned (.bool true) ∧ Below w.heap.size w w' := by
  obtain ⟨f, rfl, y0, y1, y2⟩ := hv
  obtain ⟨f', rfl, y0', y1', y2'⟩ := hv'
  try simp only [arrSrc]
  rw [show f 0 = _ from y0]
  clear y0
  rw [show f 1 = _ from y1]
  clear y1
  obtain ⟨A2, c2, g2⟩ := y2.form
  rw [g2] at y2 ⊢
  have H2 := Seg.hid y2
  clear y2 g2
  try simp only [arrSrc]
  rw [show f' 0 = _ from y0']
  clear y0'
  rw [show f' 1 = _ from y1']
  clear y1'
  obtain ⟨A2', c2', g2'⟩ := y2'.form
  rw [g2'] at y2' ⊢
  have H2' := Seg.hid y2'
  clear y2' g2'
  go_enter Try.func65, Try.ntmps65
  go_wp2_with fail
  refine (eqStringS_any _ _ u.cols ((w.alloc _).alloc _) S S' (H2.out.below keepsStr (below2 w _ _) hS) (H2'.out.below keepsStr (below2 w _ _) hS') (fun g hg => by rw [hsz, hsz]; have := hS g hg; omega) (fun g hg => by rw [hsz, hsz]; have := hS' g hg; omega)).mono ?_
  rintro e w1 ⟨rfl, b1⟩
  have B1 := Seg.hid (chain (below2 w _ _) b1)
  clear b1
  go_wp2
  go_ret
  exact ⟨rfl, B1.out⟩
end Go.Proofs.Ytkibaimemomjpaa.Ls
