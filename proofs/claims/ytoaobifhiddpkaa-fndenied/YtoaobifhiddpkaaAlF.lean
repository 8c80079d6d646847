/- Whom a rule is for, as the program asks. -/
import Derived.Test.YtoaobifhiddpkaaAlP
import Derived.Test.YtoaobifhiddpkaaInB
import Derived.Deep.RegionHeld3
namespace Go.Proofs.Ytoaobifhiddpkaa.AlI
set_option maxRecDepth 8000
open Go.RowKit
open Ls Lp RuP AlP
open Recs (hsz below1 below2 chain)
set_option linter.unusedVariables false
set_option maxHeartbeats 1600000 in
theorem lite_any (a b : ByteArray) (w : World) (ha : a.size ≤ maxLen) (hb : b.size ≤ maxLen) : Calls Try.prog 41 #[.string b, .string a] w fun e w' => e = .returned (.bool (pre a b)) ∧ w = w' := by
  by_cases h : a.size ≤ b.size
  · have Z : Hid (pre a b = ((b.extract 0 a.size).toList == a.toList)) := by show _ = _; simp [pre, h]
    have h1 : (a.size : Int) ≤ (b.size : Int) := by omega
    have h2 : (0 : Int) ≤ (a.size : Int) := by omega
    have h3 : ¬ (b.size : Int) < (a.size : Int) := by omega
    go_enter Try.func41, Try.ntmps41
    go_wp2
    go_ret
    exact ⟨Seg.ret_bool (by rw [Z.out]), rfl⟩
  · have Z : Hid (pre a b = false) := by show _ = _; simp [pre, h]
    have h1 : ¬ (a.size : Int) ≤ (b.size : Int) := by omega
    go_enter Try.func41, Try.ntmps41
    go_wp2
    go_ret
    exact ⟨Seg.ret_bool (by rw [Z.out]), rfl⟩
theorem pre_any (a b : ByteArray) (w : World) (ha : a.size ≤ maxLen) (hb : b.size ≤ maxLen) : Calls Try.prog 34 #[.string b, .string a] w fun e w' => e = .returned (.bool (pre a b)) ∧ w = w' := by
  have C := Seg.hid (lite_any a b w ha hb)
  generalize pre a b = q at *
  go_enter Try.func34, Try.ntmps34
  go_wp2_with (go_at_call 41; refine C.out.mono ?_; rintro e w' ⟨rfl, rfl⟩)
  go_ret
  exact ⟨rfl, rfl⟩
theorem tri (a b : Bool) : a = true ∨ (a = false ∧ b = true) ∨ (a = false ∧ b = false) := by cases a <;> cases b <;> simp
set_option maxHeartbeats 6400000 in
theorem no_any (r : Rul) (who : ByteArray) (may on : Int) (name : ByteArray) (w : World) (h : (forWho r who && (forMay r may && (r.on == on))) = false) :
    Calls Try.prog 23 #[.agg (rrow r), .string who, .int .i64 may, .int .i64 on, .string name] w fun e w' => e = .returned (.bool (fits r who may on name)) ∧ Below w.heap.size w w' := by
  have Z : Hid (fits r who may on name = false) := by show _ = _; rw [fits, h]; rfl
  have B1 : Hid (∀ x, Below w.heap.size w (w.alloc x)) := fun x => below1 w x
  obtain ⟨b1, x1⟩ : ∃ b1, (r.who.toList == who.toList) = b1 := ⟨_, rfl⟩
  obtain ⟨b2, x2⟩ : ∃ b2, (r.who.toList == [42]) = b2 := ⟨_, rfl⟩
  obtain ⟨b3, x3⟩ : ∃ b3, (r.may == may) = b3 := ⟨_, rfl⟩
  obtain ⟨b4, x4⟩ : ∃ b4, (r.may == 4) = b4 := ⟨_, rfl⟩
  obtain ⟨b5, x5⟩ : ∃ b5, (r.on == on) = b5 := ⟨_, rfl⟩
  have y3 : (r.may != may) = !b3 := by rw [← x3]; rfl
  have y4 : (r.may != 4) = !b4 := by rw [← x4]; rfl
  have y5 : (r.on != on) = !b5 := by rw [← x5]; rfl
  rw [forWho, forMay, x1, x2, x3, x4, x5] at h
  go_enter Try.func23, Try.ntmps23
  rcases tri b1 b2 with z1 | ⟨z1, z2⟩ | ⟨z1, z2⟩
  all_goals rcases tri b3 b4 with z3 | ⟨z3, z4⟩ | ⟨z3, z4⟩
  all_goals cases b5
  all_goals (subst z1; subst z3)
  all_goals (try subst z2)
  all_goals (try subst z4)
  all_goals first
    | (exfalso; simp at h; done)
    | skip
  all_goals clear h
  all_goals (try simp only [Bool.not_true, Bool.not_false] at y3 y4 y5)
  all_goals
    go_wp2
    go_ret
    exact ⟨Seg.ret_bool (by rw [Z.out]), B1.out _⟩
set_option maxHeartbeats 6400000 in
theorem yes_any (r : Rul) (who : ByteArray) (may on : Int) (name : ByteArray) (w : World) (hn : r.name.size ≤ maxLen) (hm : name.size ≤ maxLen) (h : (forWho r who && (forMay r may && (r.on == on))) = true) :
    Calls Try.prog 23 #[.agg (rrow r), .string who, .int .i64 may, .int .i64 on, .string name] w fun e w' => e = .returned (.bool (fits r who may on name)) ∧ Below w.heap.size w w' := by
  have Z0 : fits r who may on name = forName r name := by rw [fits, h]; rfl
  have B1 : Hid (∀ x, Below w.heap.size w (w.alloc x)) := fun x => below1 w x
  have CP : Hid (∀ wx, Calls Try.prog 34 #[.string name, .string r.name] wx fun e w' => e = .returned (.bool (pre r.name name)) ∧ wx = w') := fun wx => pre_any _ _ wx hn hm
  obtain ⟨b1, x1⟩ : ∃ b1, (r.who.toList == who.toList) = b1 := ⟨_, rfl⟩
  obtain ⟨b2, x2⟩ : ∃ b2, (r.who.toList == [42]) = b2 := ⟨_, rfl⟩
  obtain ⟨b3, x3⟩ : ∃ b3, (r.may == may) = b3 := ⟨_, rfl⟩
  obtain ⟨b4, x4⟩ : ∃ b4, (r.may == 4) = b4 := ⟨_, rfl⟩
  obtain ⟨b6, x6⟩ : ∃ b6, (r.name.toList == name.toList) = b6 := ⟨_, rfl⟩
  obtain ⟨b7, x7⟩ : ∃ b7, r.begins = b7 := ⟨_, rfl⟩
  obtain ⟨b8, x8⟩ : ∃ b8, pre r.name name = b8 := ⟨_, rfl⟩
  have Z : Hid (fits r who may on name = (b6 || (b7 && b8))) := by show _ = _; rw [Z0, forName, x6, x7, x8]
  rw [x8] at CP
  have x5 : (r.on == on) = true := by simp only [Bool.and_eq_true] at h; exact h.2.2
  have y3 : (r.may != may) = !b3 := by rw [← x3]; rfl
  have y4 : (r.may != 4) = !b4 := by rw [← x4]; rfl
  have y5 : (r.on != on) = false := by simp only [bne, x5]; rfl
  rw [forWho, forMay, x1, x2, x3, x4, x5] at h
  unfold rrow
  rw [x7]
  clear Z0 x8 x7
  go_enter Try.func23, Try.ntmps23
  rcases tri b1 b2 with z1 | ⟨z1, z2⟩ | ⟨z1, z2⟩
  all_goals rcases tri b3 b4 with z3 | ⟨z3, z4⟩ | ⟨z3, z4⟩
  all_goals (subst z1; subst z3)
  all_goals (try subst z2)
  all_goals (try subst z4)
  all_goals first
    | (exfalso; simp at h; done)
    | skip
  all_goals clear h
  all_goals (try simp only [Bool.not_true, Bool.not_false] at y3 y4)
  all_goals (rcases tri b6 b7 with z6 | ⟨z6, z7⟩ | ⟨z6, z7⟩ <;> subst z6 <;> (try subst z7))
  all_goals
    go_wp2_with (go_at_call 34; refine (CP.out _).mono ?_; rintro e w' ⟨rfl, rfl⟩)
    go_ret
    exact ⟨Seg.ret_bool (by have := Z.out; simp_all), B1.out _⟩
theorem isFor_any (r : Rul) (who : ByteArray) (may on : Int) (name : ByteArray) (w : World) (hn : r.name.size ≤ maxLen) (hm : name.size ≤ maxLen) :
    Calls Try.prog 23 #[.agg (rrow r), .string who, .int .i64 may, .int .i64 on, .string name] w fun e w' => e = .returned (.bool (fits r who may on name)) ∧ Below w.heap.size w w' := by
  cases h : (forWho r who && (forMay r may && (r.on == on))) with
  | false => exact no_any r who may on name w h
  | true => exact yes_any r who may on name w hn hm h
end Go.Proofs.Ytoaobifhiddpkaa.AlI
