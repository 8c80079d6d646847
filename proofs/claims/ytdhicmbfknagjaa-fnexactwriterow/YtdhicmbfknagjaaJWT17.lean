/- A Value's and a Field's cells; The two readers of a name, each walked once: what they answer is one plain function of the text. -/
import Derived.WalkKit
import Derived.Outline
import Derived.Test.YtdhicmbfknagjaaRows
import Derived.Test.YtdhicmbfknagjaaJWT15
import Derived.Test.YtdhicmbfknagjaaJWT16
import Derived.Test.YtdhicmbfknagjaaJWT02
namespace Go.Proofs.Ytdhicmbfknagjaa.VkR
set_option maxRecDepth 8000
open Go.RowKit
open Ls Lp VkP
open Recs (hsz below1 below2 below3 chain chainD)
set_option linter.unusedVariables false
abbrev vrow (u : Vlu) (A : Option Addr) (c : Nat) : Array Value := #[.int .i64 u.kind, .int .i64 u.num, .string u.text, .bool u.lst, .slice A u.items.length c]
theorem five {w w1 : World} {u : Vlu} {A : Option Addr} {c : Nat} (b1 : Below (w.alloc (.cells (vrow u A c) 84 (0, 0))).heap.size (w.alloc (.cells (vrow u A c) 84 (0, 0))) w1) : w1.cell? ⟨w.heap.size, 0, none⟩ = some (.int .i64 u.kind) ∧ w1.cell? ⟨w.heap.size, 1, none⟩ = some (.int .i64 u.num) ∧ w1.cell? ⟨w.heap.size, 2, none⟩ = some (.string u.text) ∧ w1.cell? ⟨w.heap.size, 3, none⟩ = some (.bool u.lst) ∧ w1.cell? ⟨w.heap.size, 4, none⟩ = some (.slice A u.items.length c) := by
  have h := (b1.block w.heap.size (by rw [hsz]; omega)).trans (heap_alloc_new w _)
  exact ⟨cell_of_row w1 _ 0 _ _ (0, 0) h, cell_of_row w1 _ 1 _ _ (0, 0) h, cell_of_row w1 _ 2 _ _ (0, 0) h, cell_of_row w1 _ 3 _ _ (0, 0) h, cell_of_row w1 _ 4 _ _ (0, 0) h⟩
theorem itm_at {w w' : World} {S : Nat → Prop} {A : Option Addr} {c : Nat} {us : List Itm} {g o : Nat} {F : Nat → Nat → Value} (h : Opn 2 EItm w S A c us g o F) (hS : ∀ g, S g → g < w.heap.size) (hb : Below w.heap.size w w') {k : Nat} (hk : k < us.length) : w'.cell? ⟨g, o + k * 2, none⟩ = some (.int .i64 (us.getD k default).num) ∧ w'.cell? ⟨g, o + k * 2 + 1, none⟩ = some (.string (us.getD k default).text) := by
  have OL := h.later keepsItm hS hb
  have e := OL.el k hk
  exact ⟨by have := OL.cells k hk 0 (by omega); rw [e.1] at this; simpa using this, by have := OL.cells k hk 1 (by omega); rw [e.2] at this; exact this⟩
theorem all_next {T : Type} [Inhabited T] (p : T → Bool) (us : List T) (k : Nat) (hk : k < us.length) (h : (us.take k).all p = true) (hp : p (us.getD k default) = true) : (us.take (k + 1)).all p = true := by
  rw [List.take_succ_eq_append_getElem hk, List.all_append, h]
  simp [hk] at hp
  simp [hp]
theorem all_bad {T : Type} [Inhabited T] (p : T → Bool) (us : List T) (k : Nat) (hk : k < us.length) (hp : p (us.getD k default) = false) : us.all p = false := by
  simp [hk] at hp
  exact List.all_eq_false.2 ⟨us[k], List.getElem_mem hk, by simp [hp]⟩
theorem one_text {us : List Itm} (h : szL szItm us ≤ 1048576) {k : Nat} (hk : k < us.length) : (us.getD k default).text.size ≤ 1048576 := by
  have := szL_one szItm h hk
  simpa [szItm] using this
abbrev frow (f : Fld) (A : Option Addr) (c : Nat) (B : Option Addr) (d : Nat) : Array Value := #[.string f.name, .int .i64 f.kind, .bool f.lst, .bool f.may, .slice A f.was.length c, .bool f.fixd, .int .i64 f.vk, .int .i64 f.vn, .string f.vt, .bool f.vl, .slice B f.vi.length d]
/-- The Value that lies in a Field. -/
def vluOf (f : Fld) : Vlu := ⟨f.vk, f.vn, f.vt, f.vl, f.vi⟩
theorem form {w : World} {S : Nat → Prop} {v : Value} {f : Fld} (h : FldAt w S v f) : ∃ A c B d, v = .agg (frow f A c B d) ∧ StrsAt w S (.slice A f.was.length c) f.was ∧ LAt 2 EItm w S (.slice B f.vi.length d) f.vi := by
  obtain ⟨q, rfl, y0, y1, y2, y3, y4, y5, y6, y7, y8, y9, y10⟩ := h
  obtain ⟨A, c, h4⟩ := y4.form
  obtain ⟨B, d, h10⟩ := y10.form
  refine ⟨A, c, B, d, ?_, by rw [← h4]; exact y4, by rw [← h10]; exact y10⟩
  simp only [arrFld, frow]
  rw [y0, y1, y2, y3, h4, y5, y6, y7, y8, y9, h10]
theorem formV {w : World} {S : Nat → Prop} {v : Value} {u : Vlu} (h : VluAt w S v u) : ∃ A c, v = .agg (vrow u A c) ∧ LAt 2 EItm w S (.slice A u.items.length c) u.items := by
  obtain ⟨q, rfl, y0, y1, y2, y3, y4⟩ := h
  obtain ⟨A, c, h4⟩ := y4.form
  refine ⟨A, c, ?_, by rw [← h4]; exact y4⟩
  simp only [arrVlu, vrow]
  rw [y0, y1, y2, y3, h4]
theorem inner {w : World} {S : Nat → Prop} {f : Fld} {B : Option Addr} {d : Nat} (h : LAt 2 EItm w S (.slice B f.vi.length d) f.vi) : VluAt w S (.agg (vrow (vluOf f) B d)) (vluOf f) :=
  ⟨fun q => if q = 0 then .int .i64 f.vk else if q = 1 then .int .i64 f.vn else if q = 2 then .string f.vt else if q = 3 then .bool f.vl else .slice B f.vi.length d, rfl, rfl, rfl, rfl, rfl, h⟩
theorem sz_inner (f : Fld) (h : szFld f ≤ 1048576) : szVlu (vluOf f) ≤ 1048576 := by
  unfold szFld at h
  unfold vluOf
  omega
namespace FVlu
theorem form {w : World} {S : Nat → Prop} {v : Value} {t : Vlu} (h : VluAt w S v t) : ∃ A4 aq4, v = .agg #[.int .i64 t.kind, .int .i64 t.num, .string t.text, .bool t.lst, .slice A4 t.items.length aq4] := by
  obtain ⟨A, c, h1, -⟩ := formV h
  exact ⟨A, c, h1⟩
end FVlu
namespace FFld
theorem form {w : World} {S : Nat → Prop} {v : Value} {t : Fld} (h : FldAt w S v t) : ∃ A4 aq4 A10 aq10, v = .agg #[.string t.name, .int .i64 t.kind, .bool t.lst, .bool t.may, .slice A4 t.was.length aq4, .bool t.fixd, .int .i64 t.vk, .int .i64 t.vn, .string t.vt, .bool t.vl, .slice A10 t.vi.length aq10] := by
  obtain ⟨A, c, B, d, h1, -, -⟩ := VkR.form h
  exact ⟨A, c, B, d, h1⟩
end FFld
end Go.Proofs.Ytdhicmbfknagjaa.VkR
namespace Go.Proofs.Ytdhicmbfknagjaa.Nm
set_option maxRecDepth 8000
open Go.RowKit

def isL (n : Int) : Bool := (decide (97 ≤ n) && decide (n ≤ 122)) || (decide (65 ≤ n) && decide (n ≤ 90))
def isD (n : Int) : Bool := decide (48 ≤ n) && decide (n ≤ 57)
theorem ret_bool {a b : Bool} (h : a = b) : Ending.returned (.bool a) = .returned (.bool b) := by rw [h]

theorem isLetter_any (n : Int) (w : World) : Calls Try.prog 118 #[.int .u8 n] w fun e w' => e = .returned (.bool (isL n)) ∧ w = w' := by
  go_enter Try.func118, Try.ntmps118
  go_wp2
  all_goals
    go_ret
    exact ⟨ret_bool (by rw [Bool.eq_iff_iff]; simp [isL]; omega), rfl⟩

theorem isDigit_any (n : Int) (w : World) : Calls Try.prog 136 #[.int .u8 n] w fun e w' => e = .returned (.bool (isD n)) ∧ w = w' := by
  go_enter Try.func136, Try.ntmps136
  go_wp2
  all_goals
    go_ret
    exact ⟨ret_bool (by rw [Bool.eq_iff_iff]; simp [isD]; omega), rfl⟩

def ch (c : Int) : Bool := isL c || isD c || decide (c = 95)
theorem ch_L {c : Int} (h : isL c = true) : ch c = true := by simp [ch, h]
theorem ch_D {c : Int} (h : isD c = true) : ch c = true := by simp [ch, h]
theorem ch_U {c : Int} (h : (c != 95) = false) : ch c = true := by simp at h; simp [ch, h]
theorem ch_no {c : Int} (h1 : isL c = false) (h2 : isD c = false) (h : (c != 95) = true) : ch c = false := by simp at h; simp [ch, h, h1, h2]
theorem isNameByte_any (n : Int) (w : World) : Calls Try.prog 119 #[.int .u8 n] w fun e w' => e = .returned (.bool (ch n)) ∧ w = w' := by
  go_enter Try.func119, Try.ntmps119
  cases hL : isL n <;> cases hD : isD n
  all_goals
    have HC : Hid (ch n = (isL n || isD n || decide (n = 95))) := rfl
    rw [hL, hD] at HC
    go_wp2_with (first | (go_at_call 118; refine (isLetter_any _ _).mono ?_; rintro e w' ⟨rfl, rfl⟩; rw [hL]) | (go_at_call 136; refine (isDigit_any _ _).mono ?_; rintro e w' ⟨rfl, rfl⟩; rw [hD]))
    go_ret
    exact ⟨ret_bool (by rw [HC.out, Bool.eq_iff_iff]; simp), rfl⟩

/-- The test at one place: a letter; behind the first place a digit or the low line too. -/
def tst (s : ByteArray) (i : Nat) : Bool := if h : i < s.size then (isL (s[i].toNat : Int) || (decide (0 < i) && (isD (s[i].toNat : Int) || decide ((s[i].toNat : Int) = 95)))) else false
def good (s : ByteArray) (k : Nat) : Bool := (List.range k).all (tst s)
def nameOk (s : ByteArray) : Bool := decide (1 ≤ s.size ∧ s.size ≤ 20) && good s s.size

theorem good_zero (s : ByteArray) : good s 0 = true := rfl
theorem good_succ (s : ByteArray) (k : Nat) : good s (k + 1) = (good s k && tst s k) := by
  simp [good, List.range_succ]
theorem good_bad (s : ByteArray) (k n : Nat) (h : k < n) (hb : tst s k = false) : good s n = false := by
  simp only [good, List.all_eq_false, List.mem_range]
  exact ⟨k, h, by simp [hb]⟩
theorem name_bad (s : ByteArray) (k : Nat) (h : k < s.size) (hb : tst s k = false) : nameOk s = false := by
  simp [nameOk, good_bad s k s.size h hb]
theorem name_good (s : ByteArray) (h1 : 1 ≤ s.size) (h2 : s.size ≤ 20) (h : good s s.size = true) : nameOk s = true := by
  simp [nameOk, h, h1, h2]
theorem name_size (s : ByteArray) (h : s.size < 1 ∨ 20 < s.size) : nameOk s = false := by
  have : ¬ (1 ≤ s.size ∧ s.size ≤ 20) := by omega
  simp [nameOk, this]

theorem ways (c : Int) (k : Nat) : (97 ≤ c ∧ c ≤ 122) ∨ (65 ≤ c ∧ c ≤ 90) ∨ (0 < k ∧ 95 ≤ c ∧ c ≤ 95) ∨ (0 < k ∧ 48 ≤ c ∧ c ≤ 57) ∨ (k = 0 ∧ c < 65) ∨ (k = 0 ∧ 90 < c ∧ c < 97) ∨ (k = 0 ∧ 122 < c) ∨
    (0 < k ∧ c < 48) ∨ (0 < k ∧ 57 < c ∧ c < 65) ∨ (0 < k ∧ 90 < c ∧ c < 95) ∨ (0 < k ∧ 95 < c ∧ c < 97) ∨ (0 < k ∧ 122 < c) := by omega

set_option maxHeartbeats 800000 in
theorem spec_any (s : ByteArray) (w : World) (hs : s.size ≤ maxLen) : Calls Try.prog 37 #[.string s] w fun e w' => e = .returned (.bool (nameOk s)) ∧ w = w' := by
  unfold maxLen at hs
  by_cases h1 : s.size < 1
  · have hb := name_size s (.inl h1)
    have HB : Hid (nameOk s = false) := hb
    clear hb
    go_enter Try.func37, Try.ntmps37
    go_wp2
    go_ret
    exact ⟨ret_bool HB.out.symm, rfl⟩
  by_cases h2 : 20 < s.size
  · have HB : Hid (nameOk s = false) := name_size s (.inr h2)
    go_enter Try.func37, Try.ntmps37
    go_wp2
    go_ret
    exact ⟨ret_bool HB.out.symm, rfl⟩
  go_enter Try.func37, Try.ntmps37
  go_wp2
  go_loop [3] (fun i => ∃ k : Nat, k ≤ s.size ∧ i = .int .i64 k ∧ Hid (good s k = true)) (fun i => s.size - (intOf i).toNat)
  case atStart => exact ⟨0, Nat.zero_le _, rfl, good_zero s⟩
  case round =>
    obtain ⟨k, hk, rfl, HG⟩ := hrel
    by_cases hlt : k < s.size
    · have HT : Hid (tst s k = (isL (s[k].toNat : Int) || (decide (0 < k) && (isD (s[k].toNat : Int) || decide ((s[k].toNat : Int) = 95))))) := by
        show tst s k = _
        simp [tst, hlt]
      rcases ways (s[k].toNat : Int) k with h | h | ⟨h, h'⟩ | ⟨h, h'⟩ | h | h | h | h | h | h | h | h
      all_goals
        first
        | (have HY : Hid (tst s k = true) := (by show tst s k = true; rw [HT.out]; simp [isL, isD]; omega)
           clear HT
           go_wp2
           go_round
           case rel => exact ⟨k + 1, by omega, by go_num, (by show good s (k + 1) = true; rw [good_succ, HG.out, HY.out]; rfl)⟩
           case measure => simp [intOf]; omega)
        | (have HY : Hid (nameOk s = false) := name_bad s k hlt (by rw [HT.out]; simp [isL, isD]; omega)
           clear HT
           first
           | (have h0 : 0 < k := by omega
              go_wp2
              all_goals first
              | (go_ret
                 exact ⟨ret_bool HY.out.symm, rfl⟩)
              | (exfalso; rename_i hq; simp at hq; omega))
           | (obtain rfl : k = 0 := by omega
              go_wp2
              all_goals first
              | (go_ret
                 exact ⟨ret_bool HY.out.symm, rfl⟩)
              | (exfalso; rename_i hq; simp at hq; omega)))
    · go_wp2
      go_ret
      exact ⟨ret_bool (by rw [name_good s (by omega) (by omega) (by have : k = s.size := by omega
                                                                    subst this; exact HG.out)]), rfl⟩

theorem tst_ch (s : ByteArray) (k : Nat) (h : k < s.size) (h0 : isL ((s[0]'(by omega)).toNat : Int) = true) : tst s k = ch (s[k].toNat : Int) := by
  by_cases hk : 0 < k
  · simp [tst, ch, h, hk, Bool.or_assoc]
  · obtain rfl : k = 0 := by omega
    simp [tst, ch, h, h0]
theorem tst_zero (s : ByteArray) (h : 0 < s.size) (h0 : isL (s[0].toNat : Int) = false) : tst s 0 = false := by
  simp [tst, h, h0]

set_option maxHeartbeats 800000 in
theorem impl_any (s : ByteArray) (w : World) (hs : s.size ≤ maxLen) : Calls Try.prog 86 #[.string s] w fun e w' => e = .returned (.bool (nameOk s)) ∧ w = w' := by
  unfold maxLen at hs
  by_cases h1 : s.size < 1
  · have HB : Hid (nameOk s = false) := name_size s (.inl h1)
    go_enter Try.func86, Try.ntmps86
    go_wp2
    go_ret
    exact ⟨ret_bool HB.out.symm, rfl⟩
  by_cases h2 : 20 < s.size
  · have HB : Hid (nameOk s = false) := name_size s (.inr h2)
    go_enter Try.func86, Try.ntmps86
    go_wp2
    go_ret
    exact ⟨ret_bool HB.out.symm, rfl⟩
  have hz : 0 < s.size := by omega
  cases hl : isL (s[0].toNat : Int) with
  | false =>
    have HB : Hid (nameOk s = false) := name_bad s 0 hz (tst_zero s hz hl)
    go_enter Try.func86, Try.ntmps86
    go_wp2_with (go_at_call 118; refine (isLetter_any _ _).mono ?_; rintro e w' ⟨rfl, rfl⟩)
    go_ret
    exact ⟨ret_bool HB.out.symm, rfl⟩
  | true =>
    go_enter Try.func86, Try.ntmps86
    go_wp2_with (go_at_call 118; refine (isLetter_any _ _).mono ?_; rintro e w' ⟨rfl, rfl⟩)
    go_loop [3, 20] (fun _ i => ∃ k : Nat, k ≤ s.size ∧ i = .int .i64 k ∧ Hid (good s k = true)) (fun _ i => s.size - (intOf i).toNat)
    case atStart => exact ⟨0, Nat.zero_le _, rfl, good_zero s⟩
    case round =>
      obtain ⟨k, hk, rfl, HG⟩ := hrel
      by_cases hlt : k < s.size
      · have HT : Hid (tst s k = ch (s[k].toNat : Int)) := tst_ch s k hlt hl
        cases hC : ch (s[k].toNat : Int) with
        | true =>
          have HY : Hid (tst s k = true) := by show tst s k = true; rw [HT.out, hC]
          have HC := Seg.hid hC
          clear HT hC
          go_wp2_with (go_at_call 119; refine (isNameByte_any _ _).mono ?_; rintro e w' ⟨rfl, rfl⟩; rw [HC.out])
          go_round
          case rel => exact ⟨k + 1, by omega, by go_num, (by show good s (k + 1) = true; rw [good_succ, HG.out, HY.out]; rfl)⟩
          case measure => simp [intOf]; omega
        | false =>
          have HY : Hid (nameOk s = false) := name_bad s k hlt (by rw [HT.out, hC])
          have HC := Seg.hid hC
          clear HT hC
          go_wp2_with (go_at_call 119; refine (isNameByte_any _ _).mono ?_; rintro e w' ⟨rfl, rfl⟩; rw [HC.out])
          go_ret
          exact ⟨ret_bool HY.out.symm, rfl⟩
      · go_wp2
        go_ret
        exact ⟨ret_bool (by rw [name_good s (by omega) (by omega) (by have : k = s.size := by omega
                                                                      subst this; exact HG.out)]), rfl⟩
end Go.Proofs.Ytdhicmbfknagjaa.Nm
