/- What the two readers of a number answer: both the plain scan of the groups; What foldSign answers: the sign folded into the lowest bit. -/
import Derived.Laws.DeepNot64
import Derived.Outline
import Derived.Deep.DeepMust
import Derived.Deep.Cut
import Derived.WalkKit
import Derived.Test.YtdnbcfochlfopaaRows
import Derived.Test.YtdnbcfochlfopaaJH01
import Derived.Test.YtdnbcfochlfopaaJH02
namespace Go.Proofs.Ytdnbcfochlfopaa.Get
set_option maxRecDepth 8000
open Go.RowKit
set_option linter.unusedVariables false

theorem unfold_any (u : Nat) (w : World) (hu : u < 18446744073709551616) :
    Calls Try.prog 53 #[.int .u64 u] w fun e w' => e = .returned (.int .i64 (Nums.unf u)) ∧ w = w' := by
  have e1 := Nums.u64_and1 (u : Int) (by omega) (by omega)
  by_cases ho : u % 2 = 1
  · have hb : ((u : Int) % 2 == 1) = true := beq_iff_eq.2 (by omega)
    have HE : Hid (bits .xor .i64 (-1) ((u : Int) / 2) = Nums.unf u) := by
      have := i64_not (u / 2) (by omega)
      have e2 : ((u / 2 : Nat) : Int) = (u : Int) / 2 := by omega
      rw [e2] at this
      show bits .xor .i64 (-1) ((u : Int) / 2) = Nums.unf u
      rw [this, Nums.unf, if_pos ho]
      omega
    go_enter Try.func53, Try.ntmps53
    go_wp2
    go_ret
    exact ⟨Seg.ret_int HE.out, rfl⟩
  · have hb : ((u : Int) % 2 == 1) = false := beq_eq_false_iff_ne.2 (by omega)
    have HE : Hid ((u : Int) / 2 = Nums.unf u) := by
      show (u : Int) / 2 = Nums.unf u
      rw [Nums.unf, if_neg ho]
      omega
    go_enter Try.func53, Try.ntmps53
    go_wp2
    go_ret
    exact ⟨Seg.ret_int HE.out, rfl⟩

theorem ret_tuple {a b : Array Value} (h : a = b) : Ending.returned (.tuple a) = .returned (.tuple b) := by rw [h]

set_option maxHeartbeats 400000 in
theorem impl_out (A : Option Addr) (n c : Nat) (at_ : Int) (w : World) (h : at_ < 0 ∨ (0 ≤ at_ ∧ (n : Int) < at_)) :
    Calls Try.prog 16 #[.slice A n c, .int .i64 at_] w fun e w' => e = .returned (.tuple (Nums.got none)) ∧ w = w' := by
  rcases h with h | ⟨h, h'⟩
  · go_enter Try.func16, Try.ntmps16
    go_wp2
    go_ret3
    exact ⟨rfl, rfl⟩
  · go_enter Try.func16, Try.ntmps16
    go_wp2
    go_ret3
    exact ⟨rfl, rfl⟩

set_option maxHeartbeats 400000 in
theorem impl_end (g o n c : Nat) (w : World) (hn : n ≤ 140737488355328) (hc1 : n ≤ c) :
    Calls Try.prog 16 #[.slice (some ⟨g, o, none⟩) n c, .int .i64 n] w fun e w' => e = .returned (.tuple (Nums.got none)) ∧ w = w' := by
  have hneg : decide ((n : Int) < 0) = false := by simp
  go_enter Try.func16, Try.ntmps16
  go_wp2
  all_goals
    go_loop [22] (fun i => i = .int .i64 0) (fun _ => 0)
    case atStart => rfl
    case round =>
      subst hrel
      go_wp2
      go_ret3
      exact ⟨rfl, rfl⟩

set_option maxRecDepth 4000 in
set_option maxHeartbeats 1600000 in
theorem impl_in (g o n c a : Nat) (l : List Int) (w : World) (hn : n ≤ 140737488355328) (hc1 : n ≤ c) (hl : l.length = n) (ha : a < n)
    (hcell : ∀ i, i < n → w.cell? ⟨g, o + i, none⟩ = some (.int .u8 (l.getD i 0))) (hby : ∀ i, 0 ≤ l.getD i 0 ∧ l.getD i 0 < 256) :
    Calls Try.prog 16 #[.slice (some ⟨g, o, none⟩) n c, .int .i64 a] w fun e w' => e = .returned (.tuple (Nums.got (Nums.scan l a 0 0))) ∧ w = w' := by
  have HC := Seg.hid hcell
  have HL := Seg.hid hl
  have HY := Seg.hid hby
  clear hcell hl hby
  have hneg : decide ((a : Int) < 0) = false := by simp
  have hca : ¬ c = a := by omega
  go_enter Try.func16, Try.ntmps16
  go_wp2
  go_loop [7, 8, 9, 22] (fun u _ _ i => ∃ k m : Nat, k ≤ 9 ∧ a + k ≤ n ∧ i = .int .i64 k ∧ u = .int .u64 m ∧ Nums.At l a k m) (fun _ _ _ i => n - (intOf i).toNat)
  case atStart => exact ⟨0, 0, by omega, by omega, rfl, rfl, Nums.At.start l a⟩
  case round =>
    obtain ⟨k, m, hk, hkn, rfl, rfl, HAT⟩ := hrel
    by_cases hlt : a + k < n
    · obtain ⟨x, HX, hx⟩ : ∃ x : Nat, Hid (l.getD (a + k) 0 = (x : Int)) ∧ x < 256 := ⟨(l.getD (a + k) 0).toNat, by show _ = _; have := HY.out (a + k); omega, by have := HY.out (a + k); omega⟩
      have hc : w.cell? ⟨g, o + a + k, none⟩ = some (.int .u8 (x : Int)) := by rw [Nat.add_assoc, HC.out (a + k) hlt, HX.out]
      have e1 := Nums.u8_and127 (x : Int) (by omega) (by omega)
      have HX2 : Hid ((l.getD (a + k) 0).toNat = x) := (by show _ = _; rw [HX.out]; simp)
      have hll : Hid (a + k < l.length) := (by show _ < _; rw [HL.out]; exact hlt)
      by_cases c1 : k = 9 ∧ 1 < x
      · obtain ⟨rfl, c1⟩ := c1
        have HR : Hid (Nums.scan l a 0 0 = none) := HAT.eq.trans (Nums.scan_ten hll.out HX2.out c1)
        clear HAT
        go_wp2
        go_ret3
        exact ⟨by rw [HR.out]; rfl, rfl⟩
      · obtain ⟨p, HP⟩ : ∃ p : Nat, Hid (p = x % 128 * 2 ^ (7 * k)) := ⟨_, rfl⟩
        have hsum := Nums.sum_64 (by omega) HAT.lt c1
        have hor := Nums.or_p (by omega) HAT.lt c1 HP.out
        have hsh := Nums.shl_p (by omega) c1 HP.out
        rw [← HP.out] at hsum
        have HSUM := Seg.hid hsum
        clear hsum
        cases hb9 : ((k : Int) == 9) with
        | true =>
          have hx1 : x ≤ 1 := by have := eq_of_beq hb9; omega
          have c2 : x < 128 := by omega
          have hd : decide ((x : Int) < 128) = true := decide_eq_true (by omega)
          have hd1 : decide (1 < (x : Int)) = false := decide_eq_false (by omega)
          by_cases c3 : x = 0 ∧ 0 < k
          · skip
            have HR : Hid (Nums.scan l a 0 0 = none) := HAT.eq.trans (Nums.scan_void (by omega) c3.2 hll.out HX2.out c3.1)
            have hx0 : ((x : Int) == 0) = true := beq_iff_eq.2 (by omega)
            have hk0 : 0 < k := c3.2
            clear HAT c1 c3
            go_upto_region 10 with fail
            rw [hsh]
            clear hsh hor e1
            go_wp2
            go_ret3
            exact ⟨by rw [HR.out]; rfl, rfl⟩
          · skip
            have HR : Hid (Nums.scan l a 0 0 = some (m + p, a + k + 1)) := (by show _ = _; rw [HP.out]; exact HAT.eq.trans (Nums.scan_last (by omega) hll.out HX2.out c1 c2 c3))
            have HU2 := Seg.hid (fun w => unfold_any (m + p) w HSUM.out)
            have e3 : ((m + p : Nat) : Int) = (m : Int) + (p : Int) := Int.natCast_add m p
            have hk0 : x = 0 → k ≤ 0 := fun h => by omega
            clear HAT c1 c3
            cases hx0 : ((x : Int) == 0) with
            | false =>
              clear hk0
              go_upto_region 10 with fail
              rw [hsh]
              clear hsh hor e1
              go_wp2_with (go_at_call 53; go_must (refine (HU2.out _).mono ?_); rintro e w' ⟨rfl, rfl⟩)
              go_ret3
              exact ⟨by rw [HR.out]; rfl, rfl⟩
            | true =>
              exfalso
              have h1 := eq_of_beq hb9
              have h2 := hk0 (by have := eq_of_beq hx0; omega)
              omega
        | false =>
          have hk9 : k < 9 := by have : ¬ (k : Int) = 9 := ne_of_beq_false hb9
                                 omega
          by_cases c2 : x < 128
          · have hd : decide ((x : Int) < 128) = true := decide_eq_true (by omega)
            by_cases c3 : x = 0 ∧ 0 < k
            · skip
              have HR : Hid (Nums.scan l a 0 0 = none) := HAT.eq.trans (Nums.scan_void (by omega) c3.2 hll.out HX2.out c3.1)
              have hx0 : ((x : Int) == 0) = true := beq_iff_eq.2 (by omega)
              have hk0 : 0 < k := c3.2
              clear HAT c1 c3
              go_upto_region 10 with fail
              rw [hsh]
              clear hsh hor e1
              go_wp2
              go_ret3
              exact ⟨by rw [HR.out]; rfl, rfl⟩
            · skip
              have HR : Hid (Nums.scan l a 0 0 = some (m + p, a + k + 1)) := (by show _ = _; rw [HP.out]; exact HAT.eq.trans (Nums.scan_last (by omega) hll.out HX2.out c1 c2 c3))
              have HU2 := Seg.hid (fun w => unfold_any (m + p) w HSUM.out)
              have e3 : ((m + p : Nat) : Int) = (m : Int) + (p : Int) := Int.natCast_add m p
              have hk0 : x = 0 → k ≤ 0 := fun h => by omega
              clear HAT c1 c3
              cases hx0 : ((x : Int) == 0) with
              | false =>
                clear hk0
                go_upto_region 10 with fail
                rw [hsh]
                clear hsh hor e1
                go_wp2_with (go_at_call 53; go_must (refine (HU2.out _).mono ?_); rintro e w' ⟨rfl, rfl⟩)
                go_ret3
                exact ⟨by rw [HR.out]; rfl, rfl⟩
              | true =>
                have hk1 := hk0 (by have := eq_of_beq hx0; omega)
                clear hk0
                go_upto_region 10 with fail
                rw [hsh]
                clear hsh hor e1
                go_wp2_with (go_at_call 53; go_must (refine (HU2.out _).mono ?_); rintro e w' ⟨rfl, rfl⟩)
                go_ret3
                exact ⟨by rw [HR.out]; rfl, rfl⟩
          · have hd : decide ((x : Int) < 128) = false := decide_eq_false (by omega)
            have HR := Seg.hid (HAT.next hk9 hll.out HX2.out c2 HP.out)
            clear HAT c1
            go_upto_region 10 with fail
            rw [hsh]
            clear hsh hor e1
            go_wp2
            go_round
            case rel => exact ⟨k + 1, m + p, by omega, by omega, by go_num, by go_num, HR.out⟩
            case measure => simp [intOf]; omega
    · have HR : Hid (Nums.scan l a 0 0 = none) := HAT.eq.trans (Nums.scan_short (by rw [HL.out]; exact hlt))
      clear HAT
      go_wp2
      go_ret3
      exact ⟨by rw [HR.out]; rfl, rfl⟩
set_option maxHeartbeats 400000 in
theorem spec_out (A : Option Addr) (n c : Nat) (at_ : Int) (w : World) (h : at_ < 0 ∨ (0 ≤ at_ ∧ (n : Int) < at_)) :
    Calls Try.prog 58 #[.slice A n c, .int .i64 at_] w fun e w' => e = .returned (.tuple (Nums.got none)) ∧ w = w' := by
  rcases h with h | ⟨h, h'⟩
  · go_enter Try.func58, Try.ntmps58
    go_wp2
    go_ret3
    exact ⟨rfl, rfl⟩
  · go_enter Try.func58, Try.ntmps58
    go_wp2
    go_ret3
    exact ⟨rfl, rfl⟩

theorem ret_some {o : Option (Nat × Nat)} {u nx : Nat} {v : Int} (h : o = some (u, nx)) (hv : v = Nums.unf u) : Ending.returned (.tuple #[.int .i64 v, .int .i64 (nx : Int), .bool true]) = .returned (.tuple (Nums.got o)) := by
  rw [h, hv]; rfl

set_option maxRecDepth 4000 in
set_option maxHeartbeats 1600000 in
theorem spec_in (g o n c a : Nat) (l : List Int) (w : World) (hn : n ≤ 140737488355328) (hc1 : n ≤ c) (hl : l.length = n) (ha : a ≤ n)
    (hcell : ∀ i, i < n → w.cell? ⟨g, o + i, none⟩ = some (.int .u8 (l.getD i 0))) (hby : ∀ i, 0 ≤ l.getD i 0 ∧ l.getD i 0 < 256) :
    Calls Try.prog 58 #[.slice (some ⟨g, o, none⟩) n c, .int .i64 a] w fun e w' => e = .returned (.tuple (Nums.got (Nums.scan l a 0 0))) ∧ w = w' := by
  have HC := Seg.hid hcell
  have HL := Seg.hid hl
  have HY := Seg.hid hby
  clear hcell hl hby
  have hneg : decide ((a : Int) < 0) = false := by simp
  go_enter Try.func58, Try.ntmps58
  go_wp2
  go_loop [7, 8, 9, 10] (fun u i _ _ => ∃ k m : Nat, k ≤ 9 ∧ a + k ≤ n ∧ i = .int .i64 k ∧ u = .int .u64 m ∧ Nums.At l a k m) (fun _ i _ _ => n + 10 - (intOf i).toNat)
  case atStart => exact ⟨0, 0, by omega, by omega, rfl, rfl, Nums.At.start l a⟩
  case round =>
    obtain ⟨k, m, hk, hkn, rfl, rfl, HAT⟩ := hrel
    by_cases hlt : a + k < n
    · obtain ⟨x, HX, hx⟩ : ∃ x : Nat, Hid (l.getD (a + k) 0 = (x : Int)) ∧ x < 256 := ⟨(l.getD (a + k) 0).toNat, by show _ = _; have := HY.out (a + k); omega, by have := HY.out (a + k); omega⟩
      have hc : w.cell? ⟨g, o + (a + k), none⟩ = some (.int .u8 (x : Int)) := by rw [HC.out (a + k) hlt, HX.out]
      have HX2 : Hid ((l.getD (a + k) 0).toNat = x) := (by show _ = _; rw [HX.out]; simp)
      have hll : Hid (a + k < l.length) := (by show _ < _; rw [HL.out]; exact hlt)
      by_cases c1 : k = 9 ∧ 1 < x
      · obtain ⟨rfl, c1⟩ := c1
        have HR : Hid (Nums.scan l a 0 0 = none) := HAT.eq.trans (Nums.scan_ten hll.out HX2.out c1)
        clear HAT
        go_wp2
        go_ret3
        exact ⟨by rw [HR.out]; rfl, rfl⟩
      · obtain ⟨p, HP⟩ : ∃ p : Nat, Hid (p = x % 128 * 2 ^ (7 * k)) := ⟨_, rfl⟩
        have hsum := Nums.sum_64 (by omega) HAT.lt c1
        have hsh := Nums.shl_p (by omega) c1 HP.out
        rw [← HP.out] at hsum
        cases hb9 : ((k : Int) == 9) with
        | true =>
          have hx1 : x ≤ 1 := by have := eq_of_beq hb9; omega
          have c2 : x < 128 := by omega
          have hd : decide ((x : Int) < 128) = true := decide_eq_true (by omega)
          have hd1 : decide (1 < (x : Int)) = false := decide_eq_false (by omega)
          by_cases c3 : x = 0 ∧ 0 < k
          · skip
            have HR : Hid (Nums.scan l a 0 0 = none) := HAT.eq.trans (Nums.scan_void (by omega) c3.2 hll.out HX2.out c3.1)
            have hx0 : ((x : Int) == 0) = true := beq_iff_eq.2 (by omega)
            have hk0 : 0 < k := c3.2
            clear HAT c1 c3
            go_upto_region 13 with fail
            rw [hsh]
            clear hsh
            go_wp2
            go_ret3
            exact ⟨by rw [HR.out]; rfl, rfl⟩
          · skip
            have HR : Hid (Nums.scan l a 0 0 = some (m + p, a + k + 1)) := (by show _ = _; rw [HP.out]; exact HAT.eq.trans (Nums.scan_last (by omega) hll.out HX2.out c1 c2 c3))
            have hk0 : x = 0 → k ≤ 0 := fun h => by omega
            clear HAT c1 c3
            cases hx0 : ((x : Int) == 0) with
            | false =>
              clear hk0
              go_upto_region 13 with fail
              rw [hsh]
              clear hsh
              cases hodd : (((m : Int) + (p : Int)) % 2 == 1) with
              | true =>
                have HV := Seg.hid (Nums.unf_odd hodd)
                go_wp2
                go_ret3
                exact ⟨ret_some HR.out HV.out, rfl⟩
              | false =>
                have HV := Seg.hid (Nums.unf_even hodd)
                go_wp2
                go_ret3
                exact ⟨ret_some HR.out HV.out, rfl⟩
            | true =>
              exfalso
              have h1 := eq_of_beq hb9
              have h2 := hk0 (by have := eq_of_beq hx0; omega)
              omega
        | false =>
          have hk9 : k < 9 := by have : ¬ (k : Int) = 9 := ne_of_beq_false hb9
                                 omega
          by_cases c2 : x < 128
          · have hd : decide ((x : Int) < 128) = true := decide_eq_true (by omega)
            by_cases c3 : x = 0 ∧ 0 < k
            · skip
              have HR : Hid (Nums.scan l a 0 0 = none) := HAT.eq.trans (Nums.scan_void (by omega) c3.2 hll.out HX2.out c3.1)
              have hx0 : ((x : Int) == 0) = true := beq_iff_eq.2 (by omega)
              have hk0 : 0 < k := c3.2
              clear HAT c1 c3
              go_upto_region 13 with fail
              rw [hsh]
              clear hsh
              go_wp2
              go_ret3
              exact ⟨by rw [HR.out]; rfl, rfl⟩
            · skip
              have HR : Hid (Nums.scan l a 0 0 = some (m + p, a + k + 1)) := (by show _ = _; rw [HP.out]; exact HAT.eq.trans (Nums.scan_last (by omega) hll.out HX2.out c1 c2 c3))
              have hk0 : x = 0 → k ≤ 0 := fun h => by omega
              clear HAT c1 c3
              cases hx0 : ((x : Int) == 0) with
              | false =>
                clear hk0
                go_upto_region 13 with fail
                rw [hsh]
                clear hsh
                cases hodd : (((m : Int) + (p : Int)) % 2 == 1) with
                | true =>
                  have HV := Seg.hid (Nums.unf_odd hodd)
                  go_wp2
                  go_ret3
                  exact ⟨ret_some HR.out HV.out, rfl⟩
                | false =>
                  have HV := Seg.hid (Nums.unf_even hodd)
                  go_wp2
                  go_ret3
                  exact ⟨ret_some HR.out HV.out, rfl⟩
              | true =>
                have hk1 := hk0 (by have := eq_of_beq hx0; omega)
                clear hk0
                go_upto_region 13 with fail
                rw [hsh]
                clear hsh
                cases hodd : (((m : Int) + (p : Int)) % 2 == 1) with
                | true =>
                  have HV := Seg.hid (Nums.unf_odd hodd)
                  go_wp2
                  go_ret3
                  exact ⟨ret_some HR.out HV.out, rfl⟩
                | false =>
                  have HV := Seg.hid (Nums.unf_even hodd)
                  go_wp2
                  go_ret3
                  exact ⟨ret_some HR.out HV.out, rfl⟩
          · have hd : decide ((x : Int) < 128) = false := decide_eq_false (by omega)
            have HR := Seg.hid (HAT.next hk9 hll.out HX2.out c2 HP.out)
            clear HAT c1
            go_upto_region 13 with fail
            rw [hsh]
            clear hsh
            go_wp2
            go_round
            case rel => exact ⟨k + 1, m + p, by omega, by omega, by go_num, by go_num, HR.out⟩
            case measure => simp [intOf]; omega
    · have HR : Hid (Nums.scan l a 0 0 = none) := HAT.eq.trans (Nums.scan_short (by rw [HL.out]; exact hlt))
      clear HAT
      go_wp2
      go_ret3
      exact ⟨by rw [HR.out]; rfl, rfl⟩

/-- What GetInt answers at whatever place. -/
def getR (l : List Int) (at_ : Int) : Option (Nat × Nat) := if 0 ≤ at_ ∧ at_ ≤ l.length then Nums.scan l at_.toNat 0 0 else none

theorem impl_any (g n c : Nat) (base : Nat) (l : List Int) (at_ : Int) (w : World) (hn : n ≤ 140737488355328) (hl : l.length = n) (hby : Seg.Byt l)
    (ho : w.ownsRow base 5 1 (.slice (some ⟨g, 0, none⟩) n c) n (Seg.B l)) :
    Calls Try.prog 16 #[.slice (some ⟨g, 0, none⟩) n c, .int .i64 at_] w fun e w' => e = .returned (.tuple (Nums.got (getR l at_))) ∧ w = w' := by
  have hc := Seg.owns_cap ho
  have hcell : ∀ i, i < n → w.cell? ⟨g, 0 + i, none⟩ = some (.int .u8 (l.getD i 0)) := fun i hi => by rw [Nat.zero_add]; exact Seg.owns_cell ho i hi
  by_cases h : 0 ≤ at_ ∧ at_ ≤ l.length
  · rw [getR, if_pos h]
    obtain ⟨a, rfl⟩ := Int.eq_ofNat_of_zero_le h.1
    rw [Int.toNat_natCast]
    by_cases ha : a < n
    · exact impl_in g 0 n c a l w hn hc.1 hl ha hcell hby
    · obtain rfl : a = n := by omega
      rw [Nums.scan_short (by omega)]
      exact impl_end g 0 a c w hn hc.1
  · rw [getR, if_neg h]
    exact impl_out _ n c at_ w (by omega)
theorem spec_any (g n c : Nat) (base : Nat) (l : List Int) (at_ : Int) (w : World) (hn : n ≤ 140737488355328) (hl : l.length = n) (hby : Seg.Byt l)
    (ho : w.ownsRow base 5 1 (.slice (some ⟨g, 0, none⟩) n c) n (Seg.B l)) :
    Calls Try.prog 58 #[.slice (some ⟨g, 0, none⟩) n c, .int .i64 at_] w fun e w' => e = .returned (.tuple (Nums.got (getR l at_))) ∧ w = w' := by
  have hc := Seg.owns_cap ho
  have hcell : ∀ i, i < n → w.cell? ⟨g, 0 + i, none⟩ = some (.int .u8 (l.getD i 0)) := fun i hi => by rw [Nat.zero_add]; exact Seg.owns_cell ho i hi
  by_cases h : 0 ≤ at_ ∧ at_ ≤ l.length
  · rw [getR, if_pos h]
    obtain ⟨a, rfl⟩ := Int.eq_ofNat_of_zero_le h.1
    rw [Int.toNat_natCast]
    exact spec_in g 0 n c a l w hn hc.1 hl (by omega) hcell hby
  · rw [getR, if_neg h]
    exact spec_out _ n c at_ w (by omega)
theorem got_form (o : Option (Nat × Nat)) : ∃ a b : Int, ∃ t : Bool, Nums.got o = #[.int .i64 a, .int .i64 b, .bool t] := by
  rcases o with _ | ⟨u, nx⟩
  · exact ⟨0, 0, false, rfl⟩
  · exact ⟨_, _, true, rfl⟩
end Go.Proofs.Ytdnbcfochlfopaa.Get
namespace Go.Proofs.Ytdnbcfochlfopaa.Fold
set_option maxRecDepth 8000
open Go.RowKit
theorem hid {p : Prop} (h : p) : Hid p := h
theorem ret_int {k : IntKind} {a b : Int} (h : a = b) : Ending.returned (.int k a) = .returned (.int k b) := by rw [h]
theorem foldSign_any (n : Int) (w : World) (h0 : -9223372036854775808 ≤ n) (h1 : n ≤ 9223372036854775807) :
    Calls Try.prog 101 #[.int .i64 n] w fun e w' => e = .returned (.int .u64 (Nums.fold n)) ∧ w = w' := by
  by_cases hn : n < 0
  · have HF : Hid (bits .xor .u64 IntKind.u64.max (IntKind.u64.wrap (IntKind.u64.wrap n * 2)) = ((Nums.fold n : Nat) : Int)) := Nums.neg_fold n h0 hn
    go_enter Try.func101, Try.ntmps101
    go_wp2
    go_ret
    exact ⟨ret_int HF.out, rfl⟩
  · have HF : Hid (n * 2 = ((Nums.fold n : Nat) : Int)) := Nums.pos_fold n (by omega)
    go_enter Try.func101, Try.ntmps101
    go_wp2
    go_ret
    exact ⟨ret_int HF.out, rfl⟩
end Go.Proofs.Ytdnbcfochlfopaa.Fold
