/- Texts held against each other: strings.Compare; lists that ascend, on plain data. -/
import Derived.Test.YtfdfhhiaalbfiaaTpA
import Derived.Lib.Bytealg
namespace Go.Proofs.Ytfdfhhiaalbfiaa.Cmp
set_option maxRecDepth 8000
open Go.RowKit
open TpP (sl aheadO)
set_option linter.unusedVariables false
def cmpB (a b : ByteArray) : Int := Lib.compareBytes a.data.toList b.data.toList
theorem cmp_range : ∀ (a b : List UInt8), -1 ≤ Lib.compareBytes a b ∧ Lib.compareBytes a b ≤ 1
  | [], [] => by simp [Lib.compareBytes]
  | [], _ :: _ => by simp [Lib.compareBytes]
  | _ :: _, [] => by simp [Lib.compareBytes]
  | a :: xs, b :: ys => by
    have h := cmp_range xs ys
    unfold Lib.compareBytes
    split
    · omega
    · split <;> omega
theorem cmp_less : ∀ (a b : List UInt8), decide (Lib.compareBytes a b < 0) = Go.Op.bytesLess a b
  | [], [] => by simp [Lib.compareBytes, Go.Op.bytesLess]
  | [], _ :: _ => by simp [Lib.compareBytes, Go.Op.bytesLess]
  | _ :: _, [] => by simp [Lib.compareBytes, Go.Op.bytesLess]
  | a :: xs, b :: ys => by
    have h := cmp_less xs ys
    unfold Lib.compareBytes Go.Op.bytesLess
    by_cases h1 : a < b
    · simp [h1]
    · by_cases h2 : b < a
      · have hne : ¬ a = b := fun e => by rw [e] at h2; exact absurd h2 (UInt8.lt_irrefl _)
        simp [h1, h2, hne]
      · have he : a = b := by
          rw [UInt8.lt_iff_toNat_lt] at h1 h2
          exact UInt8.toNat_inj.1 (by omega)
        subst he
        simp only [h1, if_false, beq_self_eq_true, Bool.true_and, decide_false, Bool.false_or]
        exact h
theorem cmp_zero : ∀ (a b : List UInt8), Lib.compareBytes a b = 0 → a = b
  | [], [] => fun _ => rfl
  | [], _ :: _ => fun h => by simp [Lib.compareBytes] at h
  | _ :: _, [] => fun h => by simp [Lib.compareBytes] at h
  | a :: xs, b :: ys => fun h => by
    unfold Lib.compareBytes at h
    by_cases h1 : a < b
    · rw [if_pos h1] at h; omega
    · by_cases h2 : b < a
      · rw [if_neg h1, if_pos h2] at h; omega
      · rw [if_neg h1, if_neg h2] at h
        have he : a = b := by
          rw [UInt8.lt_iff_toNat_lt] at h1 h2
          exact UInt8.toNat_inj.1 (by omega)
        rw [he, cmp_zero xs ys h]
theorem cmpB_range (a b : ByteArray) : -1 ≤ cmpB a b ∧ cmpB a b ≤ 1 := cmp_range _ _
theorem cmpB_less (a b : ByteArray) : decide (cmpB a b < 0) = sl a b := by
  unfold cmpB sl
  rw [ByteArray.toList_eq, ByteArray.toList_eq]
  exact cmp_less _ _
theorem cmpB_geq (a b : ByteArray) : decide (0 ≤ cmpB a b) = !sl a b := by
  rw [← cmpB_less]
  by_cases h : cmpB a b < 0
  · rw [decide_eq_true h, decide_eq_false (by omega)]; rfl
  · rw [decide_eq_false h, decide_eq_true (by omega)]; rfl
set_option maxHeartbeats 1000000 in
theorem cs_any (a b : ByteArray) (w : World) :
    Calls Try.prog 134 #[.string a, .string b] w fun e w' => e = .returned (.int .i64 (cmpB a b)) ∧ w = w' := by
  go_enter Try.func134, Try.ntmps134
  go_wp2
  rw [run_callFunc_extern Try.func143 (by kernel_rfl) (by kernel_rfl) (by kernel_rfl) (e := Extern.BytealgCompare.compare) (by kernel_rfl), Lib.run_compareString]
  simp only [Result.andThen]
  rw [Oper.upon_value]
  go_wp2
  go_ret
  exact ⟨rfl, rfl⟩
set_option maxHeartbeats 1000000 in
theorem sc_any (a b : ByteArray) (w : World) :
    Calls Try.prog 106 #[.string a, .string b] w fun e w' => e = .returned (.int .i64 (cmpB a b)) ∧ w = w' := by
  go_enter Try.func106, Try.ntmps106
  go_wp2_with (go_at_call 134; refine (cs_any _ _ _).mono ?_; rintro e w' ⟨rfl, rfl⟩)
  go_ret
  exact ⟨rfl, rfl⟩
/-- Each of a list is above the one ahead of it. -/
def ascL {T : Type} (r : T → T → Bool) : List T → Bool
  | [] => true
  | [_] => true
  | a :: b :: t => r a b && ascL r (b :: t)
theorem ascL_step {T : Type} [Inhabited T] (r : T → T → Bool) {l : List T} {k : Nat} (h0 : 0 < k) (h : k < l.length) : ascL r (l.drop (k - 1)) = (r (l.getD (k - 1) default) (l.getD k default) && ascL r (l.drop k)) := by
  rw [Lp.drop_cons (l := l) (k := k - 1) (by omega), show k - 1 + 1 = k by omega, Lp.drop_cons h]
  rfl
theorem ascL_end {T : Type} (r : T → T → Bool) {l : List T} {k : Nat} (h : l.length ≤ k) : ascL r (l.drop (k - 1)) = true := by
  have : (l.drop (k - 1)).length ≤ 1 := by rw [List.length_drop]; omega
  match hd : l.drop (k - 1), this with
  | [], _ => rfl
  | [_], _ => rfl
  | a :: b :: t, h2 => simp at h2
theorem ascL_drop0 {T : Type} (r : T → T → Bool) (l : List T) : ascL r (l.drop (1 - 1)) = ascL r l := rfl
end Go.Proofs.Ytfdfhhiaalbfiaa.Cmp
