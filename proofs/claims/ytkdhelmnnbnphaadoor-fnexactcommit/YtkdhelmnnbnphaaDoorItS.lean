/- The decimal of a number, as the model writes it. -/
import Derived.Test.YtkdhelmnnbnphaaDoorLsP
import Derived.Laws.BytesArg
import Derived.WalkLawsBesides
import Derived.Lib.ItoaNum
namespace Go.Proofs.YtkdhelmnnbnphaaDoor.ItS
set_option maxRecDepth 8000
open Go.RowKit
open Recs (hsz below1 below2 chain)
set_option linter.unusedVariables false
def dec (n : Nat) : ByteArray := ⟨(Lib.decDigits n).toArray⟩
theorem dig_step {q : Nat} (h : 9 < q) : Lib.decDigits q = Lib.decDigits (q / 10) ++ [UInt8.ofNat (48 + q % 10)] := by
  rw [Lib.decDigits, dif_neg (by omega)]
theorem dig_one {q : Nat} (h : q ≤ 9) : Lib.decDigits q = [UInt8.ofNat (48 + q)] := by
  rw [Lib.decDigits, dif_pos (by omega)]
theorem one_text (a : Nat) (ha : a < 256) : strOfNums [(a : Int)] = ⟨#[UInt8.ofNat a]⟩ := by
  unfold strOfNums
  simp
theorem one_app (a : Nat) (ha : a < 256) (l : List UInt8) : strOfNums [(a : Int)] ++ (⟨l.toArray⟩ : ByteArray) = ⟨(UInt8.ofNat a :: l).toArray⟩ := by
  rw [one_text a ha]
  apply ByteArray.ext
  simp
set_option maxHeartbeats 1600000 in
theorem itoa_any (n : Nat) (w : World) (h1 : n ≤ 4611686018427387904) :
    Calls Tryd.prog 20 #[.int .i64 n] w fun e w' => e = .returned (.string (dec n)) ∧ Below w.heap.size w w' := by
  have f0 : ¬ (n : Int) < 0 := by omega
  have wz : IntKind.u64.wrap (n : Int) = (n : Int) := by rw [IntKind.wrap_u64] <;> omega
  go_enter Tryd.func20, Tryd.ntmps20
  go_wp2_with fail
  go_loopw [3, 4] (fun u v wr => ∃ (q : Nat) (l : List UInt8), u = .int .u64 q ∧ v = .string ⟨l.toArray⟩ ∧ q + l.length ≤ n ∧ Hid (Below w.heap.size w wr ∧ Lib.decDigits q ++ l = Lib.decDigits n)) (fun u _ _ => (intOf u).toNat)
  case atStart => exact ⟨n, [], by first | rfl | (rw [wz]), rfl, by simp, Below.refl _ _, by simp⟩
  case round =>
    obtain ⟨q, l, rfl, rfl, hn, HQ⟩ := hrel
    have hqn : q ≤ n := by omega
    clear wz f0
    by_cases hz : 9 < q
    · have hp : (9 : Int) < (q : Int) := by omega
      have hrl : (q : Int) % 10 = ((q % 10 : Nat) : Int) := by omega
      have NX : Hid (Lib.decDigits (q / 10) ++ (UInt8.ofNat (48 + q % 10) :: l) = Lib.decDigits n) := by
        show _ = _
        rw [← HQ.out.2, dig_step hz]; simp
      have BB := Seg.hid (fun x => HQ.out.1.alloc HQ.out.1.size x)
      have hcv : (convert 58 9 (.slice (some ⟨wr.heap.size, 0, none⟩) 1 1)).run Tryd.prog (wr.alloc (.cells #[.int .u8 (48 + (q : Int) % 10)] 5 (0, 0))) = .ok (.string (strOfNums [48 + (q : Int) % 10])) (wr.alloc (.cells #[.int .u8 (48 + (q : Int) % 10)] 5 (0, 0))) :=
        run_convert_bytes_arg (P := Tryd.prog) _ 58 5 Tryd.underlying58 Tryd.underlying5 wr.heap.size 0 1 1 [48 + (q : Int) % 10] rfl (fun i hi => by
          have : i = 0 := by omega
          subst this
          exact cell_of_row _ _ 0 _ _ (0, 0) (heap_alloc_new _ _)) 9 Tryd.underlying9
      have HT : Hid (strOfNums [48 + (q : Int) % 10] ++ (⟨l.toArray⟩ : ByteArray) = ⟨(UInt8.ofNat (48 + q % 10) :: l).toArray⟩) := by
        have := one_app (48 + q % 10) (by omega) l
        rw [show ((48 + q % 10 : Nat) : Int) = 48 + (q : Int) % 10 by omega] at this
        exact this
      have f3 : (strOfNums [48 + (q : Int) % 10]).size = 1 := rfl
      have f5 : (⟨l.toArray⟩ : ByteArray).size = l.length := by simp [ByteArray.size]
      have f2 : ¬ 9223372036854775807 < (strOfNums [48 + (q : Int) % 10]).size + (⟨l.toArray⟩ : ByteArray).size := by omega
      have f4 : q / 10 + (UInt8.ofNat (48 + q % 10) :: l).length ≤ n := by simp; omega
      clear hz f3 f5 hrl
      go_wp2
      go_roundw
      case rel => exact ⟨q / 10, _, by go_num, by rw [HT.out], f4, BB.out _, NX.out⟩
      case measure => simp [intOf]; omega
    · have hp : ¬ (9 : Int) < (q : Int) := by omega
      have HE : Hid ((⟨(UInt8.ofNat (48 + q) :: l).toArray⟩ : ByteArray) = dec n) := by
        have := HQ.out.2
        rw [dig_one (by omega)] at this
        show _ = _
        unfold dec
        rw [← this]; rfl
      have BB := Seg.hid (fun x => HQ.out.1.alloc HQ.out.1.size x)
      have hcv : (convert 58 9 (.slice (some ⟨wr.heap.size, 0, none⟩) 1 1)).run Tryd.prog (wr.alloc (.cells #[.int .u8 (48 + (q : Int))] 5 (0, 0))) = .ok (.string (strOfNums [48 + (q : Int)])) (wr.alloc (.cells #[.int .u8 (48 + (q : Int))] 5 (0, 0))) :=
        run_convert_bytes_arg (P := Tryd.prog) _ 58 5 Tryd.underlying58 Tryd.underlying5 wr.heap.size 0 1 1 [48 + (q : Int)] rfl (fun i hi => by
          have : i = 0 := by omega
          subst this
          exact cell_of_row _ _ 0 _ _ (0, 0) (heap_alloc_new _ _)) 9 Tryd.underlying9
      have HT : Hid (strOfNums [48 + (q : Int)] ++ (⟨l.toArray⟩ : ByteArray) = ⟨(UInt8.ofNat (48 + q) :: l).toArray⟩) := by
        have := one_app (48 + q) (by omega) l
        rw [show ((48 + q : Nat) : Int) = 48 + (q : Int) by omega] at this
        exact this
      have f3 : (strOfNums [48 + (q : Int)]).size = 1 := rfl
      have f5 : (⟨l.toArray⟩ : ByteArray).size = l.length := by simp [ByteArray.size]
      have f2 : ¬ 9223372036854775807 < (strOfNums [48 + (q : Int)]).size + (⟨l.toArray⟩ : ByteArray).size := by omega
      have f6 : ¬ (n : Int) < 0 := by omega
      clear hz f3 f5
      go_wp2
      go_ret
      exact ⟨by rw [← HE.out, ← HT.out]; rfl, BB.out _⟩
end Go.Proofs.YtkdhelmnnbnphaaDoor.ItS
