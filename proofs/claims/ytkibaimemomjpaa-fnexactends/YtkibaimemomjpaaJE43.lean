/- Lists of lists of Arrival: the law's copier answers memory of its own; Lists of Coming with marks: the law's look at these. -/
import Derived.Test.YtkibaimemomjpaaJE34
import Derived.Test.YtkibaimemomjpaaJE42
import Derived.Test.YtkibaimemomjpaaJE21
import Derived.Test.YtkibaimemomjpaaJE17
namespace Go.Proofs.Ytkibaimemomjpaa.Ow
set_option maxRecDepth 8000
open Go.RowKit
open Recs
open Ls
set_option linter.unusedVariables false
set_option maxHeartbeats 1600000 in
theorem toArrivalSS_ocore (g o n c : Nat) (us : List (List Arr)) (F0 : Nat → Nat → Value) (w : World) (S : Nat → Prop) (hn : n ≤ 1048576) (hc : n ≤ c) (hg : g < w.heap.size) (hS : ∀ g, S g → g < w.heap.size)
    (hf : ∀ i, i < n → (szL szArr) (us.getD i default) ≤ 1048576) (he : ∀ i, i < n → EArr2 w S (F0 i) (us.getD i default))
    (ha : ∀ i, i < n → w.cell? ⟨g, o + i, none⟩ = some (F0 i 0)) :
    Calls Try.prog 21 #[.slice (some ⟨g, o, none⟩) n c] w fun e w' => ∃ F P, e = .returned (.slice (some ⟨w.heap.size, 0, none⟩) n n) ∧ LPart 85 1 EOArr2 w w' us n n F P := by
  obtain ⟨i0, hi, hz0, hz1, hz2⟩ := info_parts infoZArr2
  have HA := Seg.hid ha; have HK := Seg.hid hf; have HH := Seg.hid he
  clear ha hf he
  go_enter Try.func21, Try.ntmps21
  go_wp2_with (at_make; refine wpList_make_full _ rfl _ _ 52 rfl w.heap.size 85 i0 _ 1 Try.underlying52 hi hz0 hz1 .i64 .i64 _ _ n rfl rfl rfl rfl (by rw [hz2]; omega) (by unfold maxLen; omega) (Nat.le_refl _) ?_; intro w1 hown hgr)
  have hb1 := (Below.refl w.heap.size w).grown hgr (Nat.le_refl _) (fun k hk => by cases hk)
  have HM := Seg.hid (Mine.of_made hown hown.1)
  have HB := Seg.hid hb1
  clear hown hgr hb1 hi hz0 hz1 hz2
  go_loopw [4] (fun i wr => ∃ (j : Nat) (F : Nat → Value) (P : Nat → Nat → Prop), j ≤ n ∧ i = .int .i64 j ∧ LPart 85 1 EOArr2 w wr us n j F P) (fun i _ => n - (intOf i).toNat)
  case atStart => exact ⟨0, _, fun _ _ => False, Nat.zero_le _, rfl, HM.out, HB.out, fun i hi => absurd hi (by omega), fun i hi => absurd hi (by omega), fun i k hi => absurd hi (by omega)⟩
  case round =>
    clear HM HB
    obtain ⟨j, F, P, hj, rfl, HR⟩ := hrel
    by_cases hlt : j < n
    · have c0 : wr.cell? ⟨g, o + j, none⟩ = some (F0 j 0) := (HR.bel.cell (p := ⟨g, o + j, none⟩) hg).trans (HA.out j hlt)
      have RA : Hid (LAt 3 EArr wr S (F0 j 0) (us.getD j default)) := LAt.keep keepsArr (HH.out j hlt) (fun g hg => HR.bel.block g (hS g hg))
      have FW := Seg.hid (HK.out j hlt)
      have hbr : Hid (∀ g, S g → g < wr.heap.size) := fun g hg => Nat.lt_of_lt_of_le (hS g hg) HR.bel.size
      have ST := Seg.hid (fun w1 vs hv b1 he => LPart.step keepsOArr2 (w1 := w1) HR vs hv b1 he)
      have HM := Seg.hid HR.mine
      have h0 : (0 : Int) ≤ (j : Int) := by omega
      have h1 : (j : Int) < (n : Int) := by omega
      clear HR
      generalize us.getD j default = uj at *
      go_wp2_with fail
      refine (toArrivalS_own _ uj wr S RA.out hbr.out FW.out).mono ?_
      rintro e w1 ⟨v1, rfl, he1, b1⟩
      obtain ⟨A1, c1, hv1⟩ := LOwn.form he1
      subst hv1
      have S1 := Seg.hid (ST.out w1 [.slice A1 uj.length c1] rfl b1 he1)
      have hm1 := HM.out.below b1 HM.out.lt
      have d1 : w1.cell? ⟨w.heap.size, j, none⟩ = some (F j) := hm1.cell j (by omega)
      have f1 := hm1.frozen j
      have SC : Hid (w1.setCells w.heap.size (j * 1) [.slice A1 uj.length c1] = w1.setCell ⟨w.heap.size, j, none⟩ (.slice A1 uj.length c1)) := by show _ = _; rw [Nat.mul_one]; rfl
      clear b1 he1 hm1
      go_wp2
      go_roundw
      case rel => exact ⟨j + 1, _, _, by omega, by go_num, by rw [← SC.out]; exact S1.out⟩
      case measure => simp [intOf]; omega
    · have : j = n := by omega
      subst this
      go_wp2
      go_ret
      exact ⟨F, P, rfl, HR⟩
theorem toArrivalSS_own (v : Value) (us : List (List Arr)) (w : World) (S : Nat → Prop) (hv : LAt 1 EArr2 w S v us) (hS : ∀ g, S g → g < w.heap.size) (hf : szL (szL szArr) us ≤ 1048576) :
    Calls Try.prog 21 #[v] w fun e w' => ∃ v', e = .returned v' ∧ Arr2sOwn w' (seg w.heap.size w'.heap.size) v' us ∧ Below w.heap.size w w' := by
  obtain ⟨hn, A, c, rfl, h⟩ := hv
  by_cases hz : us.length = 0
  · obtain rfl := List.length_eq_zero_iff.1 hz
    refine (toArrivalSS_none A c w).mono fun e w' ⟨v', a1, ⟨A', c', a2⟩, a3⟩ => ⟨v', a1, ?_, a3⟩
    rw [a2]
    exact LOwn.nil _ _ _ _
  obtain ⟨g, o, F, rfl, hg, hc, hcell, hel⟩ := h.resolve_left hz
  exact (toArrivalSS_ocore g o us.length c us F w S (szL_len _ hf) hc (hS g hg) hS (fun i hi => szL_one _ hf hi) hel (cells1 hcell)).mono fun e w' ⟨F, P, a1, a2⟩ => ⟨_, a1, a2.own (szL_len _ hf), a2.bel⟩
end Go.Proofs.Ytkibaimemomjpaa.Ow
namespace Go.Proofs.Ytkibaimemomjpaa.Ow
set_option maxRecDepth 8000
open Go.RowKit
open Recs
open Ls
set_option linter.unusedVariables false
theorem heldComingS_none (A : Option Addr) (c : Nat) (k : Int) (w : World) : Calls Try.prog 29 #[.slice A 0 c, .int .i64 k] w fun e w' => e = .returned (.int .i64 k) ∧ Below w.heap.size w w' := by
  go_enter Try.func29, Try.ntmps29
  go_wp2
  go_loop [1, 5] (fun x i => i = .int .i64 0 ∧ x = .int .i64 k) (fun _ _ => 0)
  case atStart => exact ⟨rfl, rfl⟩
  case round =>
    obtain ⟨rfl, rfl⟩ := hrel
    go_wp2
    go_ret
    exact ⟨rfl, Below.refl _ _⟩
set_option maxHeartbeats 3200000 in
theorem heldComingS_core (g o n c k : Nat) (us : List Cmg) (F : Nat → Nat → Value) (w : World) (S : Nat → Prop) (hn : n ≤ 9223372036854775807) (hc : n ≤ c) (hg : g < w.heap.size) (hS : ∀ g, S g → g < w.heap.size) (hnl : us.length = n) (hk : 0 < k) (hk1 : k + tot nCmg us ≤ 4000000000000000000)
    (ha : ∀ i, i < n → ∀ j, j < 5 → w.cell? ⟨g, o + i * 5 + j, none⟩ = some (F i j)) (he : ∀ i, i < n → ECmg w S (F i) (mCmg (k + tot nCmg (us.take i)) (us.getD i default))) :
    Calls Try.prog 29 #[.slice (some ⟨g, o, none⟩) n c, .int .i64 k] w fun e w' => e = .returned (.int .i64 ((k + tot nCmg us : Nat) : Int)) ∧ Below w.heap.size w w' := by
  have HA := Seg.hid ha; have HE := Seg.hid he
  have HN := Seg.hid hnl
  have KL : Hid (∀ j, j < n → k + tot nCmg (us.take j) + nCmg (us.getD j default) ≤ 4000000000000000000) := fun j hj => by
    have a1 := tot_take nCmg (ts := us) (j := j) (by rw [HN.out]; exact hj)
    have a2 := tot_le nCmg us (j + 1)
    omega
  have KE : Hid (k + tot nCmg (us.take n) = k + tot nCmg us) := by show _ = _; rw [← HN.out, List.take_length]
  clear ha he hk1 hnl
  go_enter Try.func29, Try.ntmps29
  go_wp2
  go_loopw [1, 5] (fun x i wr => ∃ (j : Nat), j ≤ n ∧ i = .int .i64 j ∧ x = .int .i64 ((k + tot nCmg (us.take j) : Nat) : Int) ∧ Hid (Below w.heap.size w wr)) (fun _ i _ => n - (intOf i).toNat)
  case atStart => exact ⟨0, Nat.zero_le _, rfl, rfl, Below.refl _ _⟩
  case round =>
    obtain ⟨j, hj, rfl, rfl, HR⟩ := hrel
    by_cases hlt : j < n
    · have h0 : (0 : Int) ≤ (j : Int) := by omega
      have h1 : (j : Int) < (n : Int) := by omega
      have EL := HE.out j hlt
      have TK := Seg.hid (tot_take nCmg (ts := us) (j := j) (by rw [HN.out]; exact hlt))
      have hxb := KL.out j hlt
      have HC : Hid (∀ w', Below w.heap.size w w' → ∀ q, q < 5 → w'.cell? ⟨g, o + j * 5 + q, none⟩ = some (F j q)) := fun w' hb q hq => by rw [hb.cell (p := ⟨g, o + j * 5 + q, none⟩) hg]; exact HA.out j hlt q hq
      obtain ⟨x, hx⟩ : ∃ x, k + tot nCmg (us.take j) = x := ⟨_, rfl⟩
      have HX := Seg.hid hx
      rw [hx] at hxb EL ⊢
      have hx0 : 0 < x := by omega
      clear hx
      generalize us.getD j default = u at *
      have HXB := Seg.hid hxb
      clear hxb
      obtain ⟨s0, s1, s2, s3, s4⟩ := EL
      obtain ⟨A2, c2, g2⟩ := s2.form
      have M2 : Hid (IntsAt w S (.slice A2 u.row.length c2) (mL mI nI (x + 2) u.row) ∧ F j 2 = .slice A2 u.row.length c2) := by
        have hl : (mCmg x u).row.length = u.row.length := mL_len _ _ _ _
        rw [hl] at g2
        have h := s2
        rw [g2] at h
        exact ⟨h, g2⟩
      have HB_x : Hid (x + 4 + tot nI u.row ≤ 4000000000000000000) := by show _ ≤ _; have := HXB.out; simp only [nCmg] at this; omega
      have hd_x : x + 2 ≤ 4000000000000000000 := by have := HB_x.out; omega
      have S0 := Seg.hid s0
      have S1 := Seg.hid s1
      have S3 := Seg.hid s3
      have S4 := Seg.hid s4
      clear s0 s1 s2 s3 s4 g2
      have c0 : wr.cell? ⟨g, o + j * 5, none⟩ = some (.int .i64 ((x : Int))) := (HC.out _ HR.out 0 (by omega)).trans (by rw [S0.out]; exact congrArg (fun z : Int => some (Value.int .i64 z)) (show (((x + 0) : Nat) : Int) = (x : Int) by omega))
      have c1 : wr.cell? ⟨g, o + j * 5 + 1, none⟩ = some (.int .i64 ((x : Int) + 1)) := (HC.out _ HR.out 1 (by omega)).trans (by rw [S1.out]; exact congrArg (fun z : Int => some (Value.int .i64 z)) (show (((x + 1) : Nat) : Int) = (x : Int) + 1 by omega))
      have c2 : wr.cell? ⟨g, o + j * 5 + 2, none⟩ = some (.slice A2 u.row.length c2) := (HC.out _ HR.out 2 (by omega)).trans (congrArg some M2.out.2)
      go_wp2_with fail
      clear c0 c1 c2
      refine (heldIntS_at _ (x + 2) (by omega) S u.row wr (by have := HB_x.out; omega) (by have h := M2.out.1; rw [show (x + 2) = x + 2 by omega] at h; exact h.below keepsI HR.out hS)).mono ?_
      rintro e w1 ⟨rfl, b1⟩
      have B1 := Seg.hid (chain HR.out b1)
      clear b1
      obtain ⟨y1, hy1⟩ : ∃ y1, x + 2 + tot nI u.row = y1 := ⟨_, rfl⟩
      rw [hy1]
      have Hy1 := Seg.hid hy1
      have HB_y1 : Hid (y1 + 2 ≤ 4000000000000000000) := by show _ ≤ _; have := HB_x.out; omega
      have hd_y1 : y1 + 2 ≤ 4000000000000000000 := by have := HB_y1.out; omega
      have hp_y1 : 0 < y1 := by omega
      have hq_y1 : ¬ (y1 : Int) < 0 := by omega
      clear hy1
      have c3 : w1.cell? ⟨g, o + j * 5 + 3, none⟩ = some (.bool (((y1 : Int)) % 3 == 0)) := (HC.out _ B1.out 3 (by omega)).trans (by rw [S3.out]; exact congrArg (fun z : Int => some (Value.bool (z % 3 == 0))) (show (((x + 2 + tot nI u.row) : Nat) : Int) = (y1 : Int) by have z0 := Hy1.out; omega))
      have c4 : w1.cell? ⟨g, o + j * 5 + 4, none⟩ = some (.int .i64 ((y1 : Int) + 1)) := (HC.out _ B1.out 4 (by omega)).trans (by rw [S4.out]; exact congrArg (fun z : Int => some (Value.int .i64 z)) (show (((x + 3 + tot nI u.row) : Nat) : Int) = (y1 : Int) + 1 by have z0 := Hy1.out; omega))
      have HKK : Hid ((y1 : Int) + 1 + 1 = ((k + tot nCmg (us.take (j + 1)) : Nat) : Int)) := by
        show _ = _
        have z0 := Hy1.out; have a1 := TK.out; have a2 := HX.out; simp only [nCmg] at a1; omega
      go_wp2
      go_roundw
      case rel => exact ⟨j + 1, by omega, by go_num, congrArg (Value.int .i64) HKK.out, B1.out⟩
      case measure => simp [intOf]; omega
    · have : j = n := by omega
      subst this
      rw [KE.out]
      go_wp2
      go_ret
      exact ⟨rfl, HR.out⟩
theorem heldComingS_at (x : Int) (k : Nat) (hx : x = (k : Int)) (S : Nat → Prop) (us : List Cmg) (w : World) {v : Value} (hk : 0 < k) (hk1 : k + tot nCmg us ≤ 4000000000000000000) (hS : ∀ g, S g → g < w.heap.size) (hv : LAt 5 ECmg w S v (mL mCmg nCmg k us)) :
    Calls Try.prog 29 #[v, .int .i64 x] w fun e w' => e = .returned (.int .i64 ((k + tot nCmg us : Nat) : Int)) ∧ Below w.heap.size w w' := by
  subst hx
  obtain ⟨hn, A, c, rfl, h⟩ := hv
  rw [mL_len] at hn h ⊢
  by_cases hz : us.length = 0
  · obtain rfl := List.length_eq_zero_iff.1 hz
    exact heldComingS_none A c k w
  obtain ⟨g, o, F, rfl, hg, hc, hcell, hel⟩ := h.resolve_left hz
  exact heldComingS_core g o us.length c k us F w S hn hc (hS g hg) hS rfl hk hk1 hcell (fun i hi => by have := hel i hi; rw [mL_get mCmg nCmg hi] at this; exact this)
end Go.Proofs.Ytkibaimemomjpaa.Ow
