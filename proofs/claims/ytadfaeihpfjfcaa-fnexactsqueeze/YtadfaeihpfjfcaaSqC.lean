/- What the model's l1Copy answers: the copy at a place. -/
import Derived.Test.YtadfaeihpfjfcaaSqM
import Derived.Test.YtadfaeihpfjfcaaRows
import Derived.RegionTactic
import Derived.Outline
import Derived.Deep.QuietTactic
import Derived.BigQuiet
namespace Go.Proofs.Ytadfaeihpfjfcaa.SqC
open Go.RowKit
open SqM
set_option linter.unusedVariables false

set_option maxRecDepth 30000 in
set_option maxHeartbeats 4000000 in
theorem copy_any (g o c at_ : Nat) (l : List Int) (w : World) (hl : l.length ≤ 60000) (hc : l.length ≤ c) (hat : at_ < l.length)
    (ha : ∀ i, i < l.length → w.cell? ⟨g, o + i, none⟩ = some (.int .u8 (l.getD i 0))) :
    Calls Try.prog 10 #[.slice (some ⟨g, o, none⟩) l.length c, .int .i64 at_] w fun e w' => e = .returned (.tuple #[.int .i64 (cp l at_).1, .int .i64 (cp l at_).2]) ∧ ∃ n, w' = w.drewN n := by
  have HA := Seg.hid ha
  clear ha
  go_enter Try.func10, Try.ntmps10
  go_wp2
  go_loopw [6, 7, 8, 9] (fun x y z _ wr => ∃ D L e k : Nat, x = .int .i64 L ∧ y = .int .i64 e ∧ z = .int .i64 ((D : Int) + 1) ∧ D ≤ 4096 ∧ D ≤ at_ ∧ wr = w.drewN k ∧ Hid (Best l at_ D L e)) (fun _ _ z _ _ => at_ + 1 - (intOf z).toNat)
  case atStart => exact ⟨0, 0, 0, 0, rfl, rfl, rfl, by omega, by omega, rfl, Best.start l at_⟩
  case round =>
    obtain ⟨D, L, e, k, rfl, rfl, rfl, hD, hD2, rfl, HB⟩ := hrel
    by_cases hend : D + 1 ≤ 4096 ∧ D + 1 ≤ at_
    · obtain ⟨e1, e2⟩ := hend
      have f1 : (D : Int) + 1 ≤ 4096 := by omega
      have f2 : (D : Int) + 1 ≤ (at_ : Int) := by omega
      go_wp2
      go_loopw [9] (fun x wr => ∃ n q : Nat, x = .int .i64 n ∧ n ≤ 67 ∧ at_ + n ≤ l.length ∧ wr = w.drewN q ∧ Hid (∀ j, j < n → l.getD (at_ + j) 0 = l.getD (at_ + j - (D + 1)) 0)) (fun x _ => 67 - (intOf x).toNat)
      case atStart => exact ⟨0, k, rfl, by omega, by omega, rfl, fun j hj => absurd hj (by omega)⟩
      case round =>
        obtain ⟨n, q, rfl, hn, hn2, rfl, HN⟩ := hrel
        by_cases hn67 : n < 67
        · have f3 : (n : Int) < 67 := by omega
          by_cases hlen : at_ + n < l.length
          · have f4 : (at_ : Int) + (n : Int) < (l.length : Int) := by omega
            have f5 : (0 : Int) ≤ (at_ : Int) + (n : Int) := by omega
            have f6 : (0 : Int) ≤ (at_ : Int) + (n : Int) - ((D : Int) + 1) := by omega
            have f7 : (at_ : Int) + (n : Int) - ((D : Int) + 1) < (l.length : Int) := by omega
            have t1 : ((at_ : Int) + (n : Int)).toNat = at_ + n := by omega
            have t2 : ((at_ : Int) + (n : Int) - ((D : Int) + 1)).toNat = at_ + n - (D + 1) := by omega
            have c1 := HA.out (at_ + n) hlen
            have c2 := HA.out (at_ + n - (D + 1)) (by omega)
            generalize hx : l.getD (at_ + n) 0 = x at c1
            generalize hy : l.getD (at_ + n - (D + 1)) 0 = y at c2
            have HX := Seg.hid hx
            have HY := Seg.hid hy
            clear hx hy
            cases hsame : (x == y) with
            | true =>
              have HE : Hid (l.getD (at_ + n) 0 = l.getD (at_ + n - (D + 1)) 0) := by
                show l.getD (at_ + n) 0 = l.getD (at_ + n - (D + 1)) 0
                rw [HX.out, HY.out]
                simpa using hsame
              go_wp2
              go_quiet (fail)
              go_wp2
              go_roundw
              case rel =>
                refine ⟨n + 1, _, by go_num, by omega, by omega, rfl, fun j hj => ?_⟩
                by_cases he : j = n
                · subst he; exact HE.out
                · exact HN.out j (by omega)
              case measure => simp [intOf]; omega
            | false =>
              have HR : Hid (n = rn l at_ (D + 1)) := rn_is (by omega) (by omega) HN.out (fun _ _ => by rw [HX.out, HY.out]; simpa using hsame)
              by_cases hbet : (L : Int) < (n : Int)
              · have HZ := Seg.hid (HB.out.better (by rw [← HR.out]; omega))
                rw [← HR.out] at HZ
                go_wp2
                go_quiet (fail)
                go_wp2
                go_roundw
                case rel => exact ⟨D + 1, n, D + 1, _, rfl, by go_num, by go_num, by omega, by omega, rfl, HZ.out⟩
                case measure => simp [intOf]; omega
              · have HZ := Seg.hid (HB.out.worse (by rw [← HR.out]; omega))
                go_wp2
                go_quiet (fail)
                go_wp2
                go_roundw
                case rel => exact ⟨D + 1, L, e, _, rfl, rfl, by go_num, by omega, by omega, rfl, HZ.out⟩
                case measure => simp [intOf]; omega
          · have f4 : decide ((at_ : Int) + (n : Int) < (l.length : Int)) = false := by simp; omega
            have HR : Hid (n = rn l at_ (D + 1)) := rn_is (by omega) (by omega) HN.out (fun _ h => absurd h (by omega))
            by_cases hbet : (L : Int) < (n : Int)
            · have HZ := Seg.hid (HB.out.better (by rw [← HR.out]; omega))
              rw [← HR.out] at HZ
              go_wp2
              go_quiet (fail)
              go_wp2
              go_roundw
              case rel => exact ⟨D + 1, n, D + 1, _, rfl, by go_num, by go_num, by omega, by omega, rfl, HZ.out⟩
              case measure => simp [intOf]; omega
            · have HZ := Seg.hid (HB.out.worse (by rw [← HR.out]; omega))
              go_wp2
              go_quiet (fail)
              go_wp2
              go_roundw
              case rel => exact ⟨D + 1, L, e, _, rfl, rfl, by go_num, by omega, by omega, rfl, HZ.out⟩
              case measure => simp [intOf]; omega
        · obtain rfl : n = 67 := by omega
          have f3 : decide (((67 : Nat) : Int) < 67) = false := by simp
          have HR : Hid (67 = rn l at_ (D + 1)) := rn_is (by omega) (by omega) HN.out (fun h => absurd h (by omega))
          by_cases hbet : (L : Int) < (67 : Int)
          · have HZ := Seg.hid (HB.out.better (by rw [← HR.out]; omega))
            rw [← HR.out] at HZ
            go_wp2
            go_quiet (fail)
            go_wp2
            go_roundw
            case rel => exact ⟨D + 1, 67, D + 1, _, rfl, by go_num, by go_num, by omega, by omega, rfl, HZ.out⟩
            case measure => simp [intOf]; omega
          · have HZ := Seg.hid (HB.out.worse (by rw [← HR.out]; omega))
            go_wp2
            go_quiet (fail)
            go_wp2
            go_roundw
            case rel => exact ⟨D + 1, L, e, _, rfl, rfl, by go_num, by omega, by omega, rfl, HZ.out⟩
            case measure => simp [intOf]; omega
    · have hDm : D = min 4096 at_ := by omega
      have HC : Hid (cp l at_ = if L < 4 then (0, 0) else (L, e)) := cp_of_best (hDm ▸ HB.out)
      clear hDm HB
      by_cases h4 : (L : Int) < 4
      · by_cases e1 : D + 1 ≤ 4096
        · have f1 : (D : Int) + 1 ≤ 4096 := by omega
          have f2 : ¬ (D : Int) + 1 ≤ (at_ : Int) := by omega
          clear hend e1 hD hD2
          go_wp2
          go_ret2
          exact ⟨by rw [HC.out, if_pos (by omega)]; rfl, k, rfl⟩
        · have f1 : ¬ (D : Int) + 1 ≤ 4096 := by omega
          clear hend e1 hD hD2
          go_wp2
          go_ret2
          exact ⟨by rw [HC.out, if_pos (by omega)]; rfl, k, rfl⟩
      · by_cases e1 : D + 1 ≤ 4096
        · have f1 : (D : Int) + 1 ≤ 4096 := by omega
          have f2 : ¬ (D : Int) + 1 ≤ (at_ : Int) := by omega
          clear hend e1 hD hD2
          go_wp2
          go_ret2
          exact ⟨by rw [HC.out, if_neg (by omega)]; rfl, k, rfl⟩
        · have f1 : ¬ (D : Int) + 1 ≤ 4096 := by omega
          clear hend e1 hD hD2
          go_wp2
          go_ret2
          exact ⟨by rw [HC.out, if_neg (by omega)]; rfl, k, rfl⟩
end Go.Proofs.Ytadfaeihpfjfcaa.SqC
