/- WriteBatch of the program, whatever the batch; Two lists of bytes of one length that differ in one byte have unlike checks. -/
import Derived.Test.YtdnbcfochlfopaaJH32
import Derived.Test.YtdnbcfochlfopaaJH02
namespace Go.Proofs.Ytdnbcfochlfopaa.WrI
set_option maxRecDepth 8000
open Go.RowKit
open WrP
open Recs
set_option linter.unusedVariables false

set_option maxHeartbeats 800000 in
theorem impl_no (v : Value) (t : Bat) (ver : Int) (w : World) (lo b : Nat) (hv : BatAt w lo b v t) (hb : b ≤ w.heap.size) (hok : (BOk.batOk t && holds t ver) = false) :
    Calls Try.prog 10 #[v, .int .i64 ver] w fun e w' => Wrote w w' t ver e := by
  have HV := Seg.hid hv
  obtain ⟨rv, rfl, hrs⟩ := hv
  obtain ⟨H, ⟨hn, A, c, rfl, hx1⟩, hx2⟩ := hrs
  have HK := Seg.hid hok
  clear hx1 hx2
  unfold batVal at HV ⊢
  go_enter Try.func10, Try.ntmps10
  go_wp2_with fail
  refine (BOk.impl_any _ t (w.alloc _) lo b (HV.out.below ((below1 w _).mono hb)) (by rw [hsz]; omega)).mono ?_
  rintro e w1 ⟨rfl, b1⟩
  have B1 := Seg.hid (chain (below1 w _) b1)
  have T1 : Hid (w1.heap[w.heap.size]? = some (.cells (BatW.batArr t (.slice A t.recs.length c)) 26 (0, 0))) := (b1.block w.heap.size (by rw [hsz]; omega)).trans (heap_alloc_new _ _)
  have z1 : w.heap.size < w1.heap.size := (Array.getElem?_eq_some_iff.1 T1.out).1
  clear b1
  cases h1 : BOk.batOk t with
  | false =>
    clear h1 hok
    go_wp2
    go_ret
    exact wrote_none HK.out B1.out _ rfl
  | true =>
    rw [h1, Bool.true_and] at hok
    clear h1
    obtain ⟨c0, c1, c2, c3, c4, c5, c6⟩ := BOk.seven T1.out
    go_wp2_with fail
    clear c0 c1 c2 c3 c4 c5 c6
    refine (WrC.holds_any ver _ t w1 lo b (HV.out.below (B1.out.mono hb)) (by omega)).mono ?_
    rintro e w2 ⟨rfl, b2⟩
    rw [hok]
    have B2 := Seg.hid (chain B1.out b2)
    clear b2 hok
    go_wp2
    go_ret
    exact wrote_none HK.out B2.out _ rfl

theorem impl_any (v : Value) (t : Bat) (ver : Int) (w : World) (lo b : Nat) (hv : BatAt w lo b v t) (hb : b ≤ w.heap.size) :
    Calls Try.prog 10 #[v, .int .i64 ver] w fun e w' => Wrote w w' t ver e := by
  cases hk : (BOk.batOk t && holds t ver) with
  | false => exact impl_no v t ver w lo b hv hb hk
  | true =>
    rw [Bool.and_eq_true] at hk
    have hver : ver = 1 ∨ ver = 2 := by
      have := hk.2
      simp only [holds, Bool.or_eq_true, Bool.and_eq_true, decide_eq_true_eq] at this
      rcases this with h | h
      · exact .inr h
      · exact .inl h.1.1
    cases ho : odd t.flags with
    | true =>
      rcases hver with rfl | rfl
      · exact impl_s1 v t w lo b hv hb hk.1 hk.2 ho
      · exact impl_s2 v t w lo b hv hb hk.1 hk.2 ho
    | false =>
      rcases hver with rfl | rfl
      · exact impl_p1 v t w lo b hv hb hk.1 hk.2 ho
      · exact impl_p2 v t w lo b hv hb hk.1 hk.2 ho
end Go.Proofs.Ytdnbcfochlfopaa.WrI
namespace Go.Proofs.Ytdnbcfochlfopaa.CrcNe
set_option maxRecDepth 8000
open Crc (steps upd poly)
theorem high {u : Nat} (h : u < 2147483648) : 2147483648 ≤ u ^^^ poly := by
  rcases Nat.lt_or_ge (u ^^^ poly) 2147483648 with hl | hl
  · have h1 : u ^^^ (u ^^^ poly) < 2 ^ 31 := Nat.xor_lt_two_pow h hl
    rw [← Nat.xor_assoc, Nat.xor_self, Nat.zero_xor] at h1
    exact absurd h1 (by decide)
  · exact hl
theorem xor_inj {a b c : Nat} (h : a ^^^ c = b ^^^ c) : a = b := by
  have := congrArg (· ^^^ c) h
  simpa [Nat.xor_assoc] using this
theorem step_inj {a b : Nat} (ha : a < 4294967296) (hb : b < 4294967296) (h : Crc.step a = Crc.step b) : a = b := by
  by_cases oa : a % 2 = 1 <;> by_cases ob : b % 2 = 1
  · rw [Crc.step_odd oa, Crc.step_odd ob] at h
    have := xor_inj h
    omega
  · rw [Crc.step_odd oa, Crc.step_even ob] at h
    have := high (u := a / 2) (by omega)
    omega
  · rw [Crc.step_even oa, Crc.step_odd ob] at h
    have := high (u := b / 2) (by omega)
    omega
  · rw [Crc.step_even oa, Crc.step_even ob] at h
    omega
theorem steps_inj {a b : Nat} (ha : a < 4294967296) (hb : b < 4294967296) : ∀ k, steps k a = steps k b → a = b
  | 0, h => h
  | k + 1, h => steps_inj ha hb k (step_inj (Crc.steps_lt ha k) (Crc.steps_lt hb k) h)
theorem upd_inj {a b : Nat} {x : Int} (ha : a < 4294967296) (hb : b < 4294967296) (hx : x < 256) (h : upd a x = upd b x) : a = b :=
  xor_inj (steps_inj (Crc.xor_lt ha (by omega)) (Crc.xor_lt hb (by omega)) 8 h)
theorem upd_ne {a : Nat} {x y : Int} (ha : a < 4294967296) (hx : 0 ≤ x ∧ x < 256) (hy : 0 ≤ y ∧ y < 256) (h : x ≠ y) : upd a x ≠ upd a y := fun e => by
  have := steps_inj (Crc.xor_lt ha (by omega)) (Crc.xor_lt ha (by omega)) 8 e
  rw [Nat.xor_comm a, Nat.xor_comm a] at this
  have := xor_inj this
  omega
theorem foldl_ne : ∀ (l : List Int) (a b : Nat), (∀ x ∈ l, 0 ≤ x ∧ x < 256) → a < 4294967296 → b < 4294967296 → a ≠ b → l.foldl upd a ≠ l.foldl upd b
  | [], a, b, _, _, _, h => h
  | x :: r, a, b, hx, ha, hb, h => foldl_ne r _ _ (fun y hy => hx y (by simp [hy])) (Crc.upd_lt ha (hx x (by simp)).2) (Crc.upd_lt hb (hx x (by simp)).2) (fun e => h (upd_inj ha hb (hx x (by simp)).2 e))
theorem set_ne : ∀ (l : List Int) (k : Nat) (y : Int) (a : Nat), (∀ x ∈ l, 0 ≤ x ∧ x < 256) → a < 4294967296 → k < l.length → (0 ≤ y ∧ y < 256) → l.getD k 0 ≠ y → l.foldl upd a ≠ (l.set k y).foldl upd a
  | x :: r, 0, y, a, hx, ha, _, hy, hne => by
    simp only [List.set_cons_zero, List.foldl_cons]
    have h1 := hx x (by simp)
    exact foldl_ne r _ _ (fun z hz => hx z (by simp [hz])) (Crc.upd_lt ha h1.2) (Crc.upd_lt ha hy.2) (upd_ne ha h1 hy (by simpa using hne))
  | x :: r, k + 1, y, a, hx, ha, hk, hy, hne => by
    simp only [List.set_cons_succ, List.foldl_cons]
    exact set_ne r k y _ (fun z hz => hx z (by simp [hz])) (Crc.upd_lt ha (hx x (by simp)).2) (by simpa using hk) hy (by simpa using hne)
theorem check_ne (l : List Int) (k : Nat) (y : Int) (hx : ∀ x ∈ l, 0 ≤ x ∧ x < 256) (hk : k < l.length) (hy : 0 ≤ y ∧ y < 256) (hne : l.getD k 0 ≠ y) : Crc.check l ≠ Crc.check (l.set k y) := fun e => by
  unfold Crc.check at e
  exact set_ne l k y 4294967295 hx (by decide) hk hy hne (xor_inj (Int.ofNat.inj e))
theorem u8_xor (a b : Nat) (ha : a < 256) (hb : b < 256) : bits .xor .u8 (a : Int) (b : Int) = ((a ^^^ b : Nat) : Int) := by
  have h : a ^^^ b < 2 ^ 8 := Nat.xor_lt_two_pow ha hb
  simp only [bits]
  rw [show IntKind.u8.bits = 8 by rfl, BitVec.toNat_xor, BitVec.toNat_ofInt, BitVec.toNat_ofInt, IntKind.wrap_u8]
  have e1 : ((a : Int) % ((2 ^ 8 : Nat) : Int)).toNat = a := by omega
  have e2 : ((b : Int) % ((2 ^ 8 : Nat) : Int)).toNat = b := by omega
  rw [e1, e2]
  omega
theorem xor_ne {a b : Nat} (hb : 0 < b) : a ≠ a ^^^ b := fun e => by
  have h := congrArg (a ^^^ ·) e
  simp [← Nat.xor_assoc] at h
  omega
/-- The known check of nine digits. -/
theorem known : Crc.check [49, 50, 51, 52, 53, 54, 55, 56, 57] = 3421780262 := by decide +kernel
end Go.Proofs.Ytdnbcfochlfopaa.CrcNe
