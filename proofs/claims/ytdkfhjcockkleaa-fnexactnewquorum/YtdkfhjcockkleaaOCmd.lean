/- Lists of Command of the call's own; the law's marks on them, and its look at these. -/
import Derived.Test.YtdkfhjcockkleaaMkT
import Derived.Test.YtdkfhjcockkleaaTCmds
namespace Go.Proofs.Ytdkfhjcockkleaa.Ow
set_option maxRecDepth 8000
open Go.RowKit
open Recs
open Ls
set_option linter.unusedVariables false
def EOCmd : Elt Cmd := ECmd
theorem keepsOCmd : KeepsO 2 EOCmd := keepsO_of keepsCmd
theorem atOCmd (w : World) (S : Nat → Prop) (f : Nat → Value) (u : Cmd) (h : EOCmd w S f u) : ECmd w S f u := h
abbrev CmdsOwn := LOwn 51 2 EOCmd
def mCmd (k : Nat) (u : Cmd) : Cmd := ⟨(((k + 0) : Nat) : Int), mt (k + 1)⟩
def nCmd (u : Cmd) : Nat := 2
theorem markCommandS_none (A : Option Addr) (c : Nat) (k : Int) (w : World) : Calls Try.prog 46 #[.slice A 0 c, .int .i64 k] w fun e w' => e = .returned (.int .i64 k) ∧ w = w' := by
  go_enter Try.func46, Try.ntmps46
  go_wp2
  go_loop [1, 5] (fun x i => i = .int .i64 0 ∧ x = .int .i64 k) (fun _ _ => 0)
  case atStart => exact ⟨rfl, rfl⟩
  case round =>
    obtain ⟨rfl, rfl⟩ := hrel
    go_wp2
    go_ret
    exact ⟨rfl, rfl⟩
set_option maxHeartbeats 3200000 in
theorem markCommandS_core (g n c k : Nat) (S : Nat → Prop) (P : Nat → Nat → Prop) (F0 : Nat → Value) (us : List Cmd) (w : World) (hn : n ≤ 1048576) (hk : 0 < k) (hk1 : k + tot nCmd us ≤ 4000000000000000000) (hSg : S g) (hSP : ∀ i, i < n → ∀ y, P i y → S y) (ho : LOpen 51 2 EOCmd w g n c F0 P us) :
    Calls Try.prog 46 #[.slice (some ⟨g, 0, none⟩) n c, .int .i64 k] w fun e w' => ∃ F, e = .returned (.int .i64 ((k + tot nCmd us : Nat) : Int)) ∧ LOpen 51 2 EOCmd w' g n c F P (mL mCmd nCmd k us) ∧ Foot w w' S := by
  have hc := ho.mine.le
  have hlen := Seg.hid ho.len
  have HM : Hid (LOpen 51 2 EOCmd w g n c F0 P (mid mCmd nCmd k 0 us) ∧ Foot w w S) := ⟨by rw [mid_zero]; exact ho, Foot.refl _ _⟩
  have HSG := Seg.hid hSg; have HSP := Seg.hid hSP
  have KL : Hid (∀ j, j < n → k + tot nCmd (us.take j) + nCmd (us.getD j default) ≤ 4000000000000000000) := fun j hj => by
    have a1 := tot_take nCmd (ts := us) (j := j) (by rw [hlen.out]; exact hj)
    have a2 := tot_le nCmd us (j + 1)
    omega
  have KE : Hid (k + tot nCmd (us.take n) = k + tot nCmd us) := by show _ = _; rw [← hlen.out, List.take_length]
  clear ho hSg hSP hk1
  go_enter Try.func46, Try.ntmps46
  go_wp2
  go_loopw [1, 5] (fun x i wr => ∃ (j : Nat) (F : Nat → Value), j ≤ n ∧ i = .int .i64 j ∧ x = .int .i64 ((k + tot nCmd (us.take j) : Nat) : Int) ∧ Hid (LOpen 51 2 EOCmd wr g n c F P (mid mCmd nCmd k j us) ∧ Foot w wr S)) (fun _ i _ => n - (intOf i).toNat)
  case atStart => exact ⟨0, F0, Nat.zero_le _, rfl, rfl, HM.out⟩
  case round =>
    clear HM
    obtain ⟨j, F, hj, rfl, rfl, HR⟩ := hrel
    by_cases hlt : j < n
    · have h0 : (0 : Int) ≤ (j : Int) := by omega
      have h1 : (j : Int) < (n : Int) := by omega
      have EL := HR.out.1.el j hlt
      rw [mid_get mCmd nCmd (by rw [hlen.out]; exact hlt)] at EL
      have MS := mid_step mCmd nCmd (k := k) (ts := us) (j := j) (by rw [hlen.out]; exact hlt)
      have TK := Seg.hid (tot_take nCmd (ts := us) (j := j) (by rw [hlen.out]; exact hlt))
      have hxb := KL.out j hlt
      have HAP := Seg.hid (HR.out.1.apart j hlt)
      obtain ⟨x, hx⟩ : ∃ x, k + tot nCmd (us.take j) = x := ⟨_, rfl⟩
      have HX := Seg.hid hx
      rw [hx] at hxb MS ⊢
      have hx0 : 0 < x := by omega
      clear hx
      have MS' := Seg.hid MS
      clear MS
      generalize us.getD j default = u at *
      have HXB := Seg.hid hxb
      clear hxb
      obtain ⟨s0, s1⟩ := EL
      have R0 : Hid (Rnd 51 2 g n c (P j) w wr wr S F j [.int .i64 u.term, .string u.text]) := Rnd.start HR.out.1.mine HR.out.2 rfl (fun q hq => by
        match q, hq with
        | 0, _ => exact s0
        | 1, _ => exact s1)
      clear s0 s1
      have HB_x : Hid (x + 2 ≤ 4000000000000000000) := by show _ ≤ _; have := HXB.out; simp only [nCmd] at this; omega
      have hc_x : x + 3 ≤ 4000000000000000000 + 3 := by have := HB_x.out; omega
      have hd_x : x + 2 ≤ 4000000000000000000 := by have := HB_x.out; omega
      have d0 : (wr).cell? ⟨g, j * 2, none⟩ = some (.int .i64 u.term) := R0.out.cell hlt 0 (by omega)
      have f0 : (wr).frozen? ⟨g, j * 2, none⟩ = false := R0.out.frozen _
      have R1 : Hid (Rnd 51 2 g n c (P j) w wr (wr.setCell ⟨g, j * 2, none⟩ (.int .i64 ((x : Int)))) S F j [.int .i64 ((x : Int)), .string u.text]) := R0.out.set HSG.out 0 (by omega) (.int .i64 ((x : Int)))
      go_wp2_with fail
      clear d0 f0
      refine (markText_at _ (x + 1) (by omega) (wr.setCell ⟨g, j * 2, none⟩ (.int .i64 ((x : Int)))) (by omega) (by omega)).mono ?_
      rintro e w1 ⟨rfl, b1⟩
      have R2 : Hid (Rnd 51 2 g n c (P j) w wr w1 S F j [.int .i64 ((x : Int)), .string u.text]) := R1.out.below b1
      clear b1
      have d1 : (w1).cell? ⟨g, j * 2 + 1, none⟩ = some (.string u.text) := R2.out.cell hlt 1 (by omega)
      have f1 : (w1).frozen? ⟨g, j * 2 + 1, none⟩ = false := R2.out.frozen _
      have R3 : Hid (Rnd 51 2 g n c (P j) w wr (w1.setCell ⟨g, j * 2 + 1, none⟩ (.string (mt (x + 1)))) S F j [.int .i64 ((x : Int)), .string (mt (x + 1))]) := R2.out.set HSG.out 1 (by omega) (.string (mt (x + 1)))
      have EE : Hid (EOCmd (w1.setCell ⟨g, j * 2 + 1, none⟩ (.string (mt (x + 1)))) (P j) (fun q => [.int .i64 ((x : Int)), .string (mt (x + 1))].getD q default) (mCmd x u)) := by
        exact ⟨congrArg (Value.int .i64) (show (x : Int) = (((x + 0) : Nat) : Int) by omega), congrArg (fun z : Nat => Value.string (mt z)) (show x + 1 = (x + 1) by omega)⟩
      obtain ⟨F', L', F2⟩ := Rnd.done keepsOCmd (t := mCmd x u) HR.out.1 hlt R3.out EE.out
      rw [MS'.out] at L'
      have L2 := Seg.hid L'
      have F3 := Seg.hid F2
      clear L' F2
      have HKK : Hid ((x : Int) + 1 + 1 = ((k + tot nCmd (us.take (j + 1)) : Nat) : Int)) := by
        show _ = _
        have a1 := TK.out; have a2 := HX.out; simp only [nCmd] at a1; omega
      go_wp2
      clear d1 f1
      go_roundw
      case rel => exact ⟨j + 1, F', by omega, by go_num, congrArg (Value.int .i64) HKK.out, L2.out, F3.out⟩
      case measure => simp [intOf]; omega
    · have : j = n := by omega
      subst this
      have E := HR.out
      rw [show mid mCmd nCmd k j us = mL mCmd nCmd k us by rw [← hlen.out]; exact mid_all _ _ _ _] at E
      have EH' := Seg.hid E
      clear E
      rw [KE.out]
      go_wp2
      go_ret
      exact ⟨F, rfl, EH'.out⟩
theorem markCommandS_own (x : Int) (k : Nat) (hx : x = (k : Int)) (S : Nat → Prop) (us : List Cmd) (w : World) {v : Value} (hk : 0 < k) (hk1 : k + tot nCmd us ≤ 4000000000000000000) (hv : CmdsOwn w S v us) :
    Calls Try.prog 46 #[v, .int .i64 x] w fun e w' => e = .returned (.int .i64 ((k + tot nCmd us : Nat) : Int)) ∧ CmdsOwn w' S v (mL mCmd nCmd k us) ∧ Foot w w' S := by
  subst hx
  obtain ⟨h0, A, c, rfl, h⟩ := hv
  by_cases hz : us.length = 0
  · obtain rfl := List.length_eq_zero_iff.1 hz
    exact (markCommandS_none A c k w).mono fun e w' ⟨h1, h2⟩ => by
      subst h2
      exact ⟨by rw [h1]; rfl, LOwn.nil _ _ _ _, Foot.refl _ _⟩
  obtain ⟨g, F, P, rfl, h3, h4, h5⟩ := h.resolve_left hz
  refine (markCommandS_core g us.length c k S P F us w h0 hk hk1 h3 h4 h5).mono fun e w' ⟨F', a1, a2, a3⟩ => ⟨a1, ⟨by rw [mL_len]; exact h0, _, c, by rw [mL_len], .inr ⟨g, F', P, rfl, h3, fun i hi => h4 i (by rw [mL_len] at hi; exact hi), ?_⟩⟩, a3⟩
  rw [mL_len]
  exact a2
theorem heldCommandS_none (A : Option Addr) (c : Nat) (k : Int) (w : World) : Calls Try.prog 48 #[.slice A 0 c, .int .i64 k] w fun e w' => e = .returned (.int .i64 k) ∧ Below w.heap.size w w' := by
  go_enter Try.func48, Try.ntmps48
  go_wp2
  go_loop [1, 5] (fun x i => i = .int .i64 0 ∧ x = .int .i64 k) (fun _ _ => 0)
  case atStart => exact ⟨rfl, rfl⟩
  case round =>
    obtain ⟨rfl, rfl⟩ := hrel
    go_wp2
    go_ret
    exact ⟨rfl, Below.refl _ _⟩
set_option maxHeartbeats 3200000 in
theorem heldCommandS_core (g o n c k : Nat) (us : List Cmd) (F : Nat → Nat → Value) (w : World) (S : Nat → Prop) (hn : n ≤ 9223372036854775807) (hc : n ≤ c) (hg : g < w.heap.size) (hS : ∀ g, S g → g < w.heap.size) (hnl : us.length = n) (hk : 0 < k) (hk1 : k + tot nCmd us ≤ 4000000000000000000)
    (ha : ∀ i, i < n → ∀ j, j < 2 → w.cell? ⟨g, o + i * 2 + j, none⟩ = some (F i j)) (he : ∀ i, i < n → ECmd w S (F i) (mCmd (k + tot nCmd (us.take i)) (us.getD i default))) :
    Calls Try.prog 48 #[.slice (some ⟨g, o, none⟩) n c, .int .i64 k] w fun e w' => e = .returned (.int .i64 ((k + tot nCmd us : Nat) : Int)) ∧ Below w.heap.size w w' := by
  have HA := Seg.hid ha; have HE := Seg.hid he
  have HN := Seg.hid hnl
  have KL : Hid (∀ j, j < n → k + tot nCmd (us.take j) + nCmd (us.getD j default) ≤ 4000000000000000000) := fun j hj => by
    have a1 := tot_take nCmd (ts := us) (j := j) (by rw [HN.out]; exact hj)
    have a2 := tot_le nCmd us (j + 1)
    omega
  have KE : Hid (k + tot nCmd (us.take n) = k + tot nCmd us) := by show _ = _; rw [← HN.out, List.take_length]
  clear ha he hk1 hnl
  go_enter Try.func48, Try.ntmps48
  go_wp2
  go_loopw [1, 5] (fun x i wr => ∃ (j : Nat), j ≤ n ∧ i = .int .i64 j ∧ x = .int .i64 ((k + tot nCmd (us.take j) : Nat) : Int) ∧ Hid (Below w.heap.size w wr)) (fun _ i _ => n - (intOf i).toNat)
  case atStart => exact ⟨0, Nat.zero_le _, rfl, rfl, Below.refl _ _⟩
  case round =>
    obtain ⟨j, hj, rfl, rfl, HR⟩ := hrel
    by_cases hlt : j < n
    · have h0 : (0 : Int) ≤ (j : Int) := by omega
      have h1 : (j : Int) < (n : Int) := by omega
      have EL := HE.out j hlt
      have TK := Seg.hid (tot_take nCmd (ts := us) (j := j) (by rw [HN.out]; exact hlt))
      have hxb := KL.out j hlt
      have HC : Hid (∀ w', Below w.heap.size w w' → ∀ q, q < 2 → w'.cell? ⟨g, o + j * 2 + q, none⟩ = some (F j q)) := fun w' hb q hq => by rw [hb.cell (p := ⟨g, o + j * 2 + q, none⟩) hg]; exact HA.out j hlt q hq
      obtain ⟨x, hx⟩ : ∃ x, k + tot nCmd (us.take j) = x := ⟨_, rfl⟩
      have HX := Seg.hid hx
      rw [hx] at hxb EL ⊢
      have hx0 : 0 < x := by omega
      clear hx
      generalize us.getD j default = u at *
      have HXB := Seg.hid hxb
      clear hxb
      obtain ⟨s0, s1⟩ := EL
      have HB_x : Hid (x + 2 ≤ 4000000000000000000) := by show _ ≤ _; have := HXB.out; simp only [nCmd] at this; omega
      have hd_x : x + 2 ≤ 4000000000000000000 := by have := HB_x.out; omega
      have S0 := Seg.hid s0
      have S1 := Seg.hid s1
      clear s0 s1
      have c0 : wr.cell? ⟨g, o + j * 2, none⟩ = some (.int .i64 ((x : Int))) := (HC.out _ HR.out 0 (by omega)).trans (by rw [S0.out]; exact congrArg (fun z : Int => some (Value.int .i64 z)) (show (((x + 0) : Nat) : Int) = (x : Int) by omega))
      have c1 : wr.cell? ⟨g, o + j * 2 + 1, none⟩ = some (.string (mt (x + 1))) := (HC.out _ HR.out 1 (by omega)).trans (by rw [S1.out]; exact congrArg (fun z : Nat => some (Value.string (mt z))) (show (x + 1) = x + 1 by omega))
      have c1d : wr.drew.cell? ⟨g, o + j * 2 + 1, none⟩ = some (.string (mt (x + 1))) := c1
      go_wp2_with fail
      go_region_with (go_at_call 57; refine (markText_at _ (x + 1) (by omega) wr.drew (by omega) (by omega)).mono ?_; rintro e w1 ⟨rfl, b1⟩; have B1 : Hid (Below w.heap.size w w1) := chainD HR.out b1; clear b1; have c1e : w1.cell? ⟨g, o + j * 2 + 1, none⟩ = some (.string (mt (x + 1))) := (HC.out _ B1.out 1 (by omega)).trans ((HC.out _ HR.out 1 (by omega)).symm.trans c1))
      all_goals
        try clear c0
        try clear c1
        try clear c1d
        try clear c1e
        have HKK : Hid ((x : Int) + 1 + 1 = ((k + tot nCmd (us.take (j + 1)) : Nat) : Int)) := by
          show _ = _
          have a1 := TK.out; have a2 := HX.out; simp only [nCmd] at a1; omega
        go_wp2
        go_roundw
        case rel => exact ⟨j + 1, by omega, by go_num, congrArg (Value.int .i64) HKK.out, B1.out⟩
        case measure => simp [intOf]; omega
    · have : j = n := by omega
      subst this
      rw [KE.out]
      go_wp2
      go_ret
      exact ⟨rfl, HR.out⟩
theorem heldCommandS_at (x : Int) (k : Nat) (hx : x = (k : Int)) (S : Nat → Prop) (us : List Cmd) (w : World) {v : Value} (hk : 0 < k) (hk1 : k + tot nCmd us ≤ 4000000000000000000) (hS : ∀ g, S g → g < w.heap.size) (hv : LAt 2 ECmd w S v (mL mCmd nCmd k us)) :
    Calls Try.prog 48 #[v, .int .i64 x] w fun e w' => e = .returned (.int .i64 ((k + tot nCmd us : Nat) : Int)) ∧ Below w.heap.size w w' := by
  subst hx
  obtain ⟨hn, A, c, rfl, h⟩ := hv
  rw [mL_len] at hn h ⊢
  by_cases hz : us.length = 0
  · obtain rfl := List.length_eq_zero_iff.1 hz
    exact heldCommandS_none A c k w
  obtain ⟨g, o, F, rfl, hg, hc, hcell, hel⟩ := h.resolve_left hz
  exact heldCommandS_core g o us.length c k us F w S hn hc (hS g hg) hS rfl hk hk1 hcell (fun i hi => by have := hel i hi; rw [mL_get mCmd nCmd hi] at this; exact this)
end Go.Proofs.Ytdkfhjcockkleaa.Ow
