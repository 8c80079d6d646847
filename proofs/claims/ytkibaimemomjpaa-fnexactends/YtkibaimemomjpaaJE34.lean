/- Lists of Arrival with marks: the law's look at these; Lists of lists of Arrival of the call's own; the law's marks on them. -/
import Derived.Test.YtkibaimemomjpaaJE21
import Derived.Test.YtkibaimemomjpaaJE17
import Derived.Test.YtkibaimemomjpaaJE10
namespace Go.Proofs.Ytkibaimemomjpaa.Ow
set_option maxRecDepth 8000
open Go.RowKit
open Recs
open Ls
set_option linter.unusedVariables false
end Go.Proofs.Ytkibaimemomjpaa.Ow
namespace Go.Proofs.Ytkibaimemomjpaa.Ow
set_option maxRecDepth 8000
open Go.RowKit
open Recs
open Ls
set_option linter.unusedVariables false
def EOArr2 : Elt (List Arr) := fun w S f u => ArrsOwn w S (f 0) u
theorem keepsOArr2 : KeepsO 1 EOArr2 := fun w w' S f f' t h hs hk hf => by
  show ArrsOwn w' S (f' 0) t
  rw [hf 0 (by omega)]
  exact LOwn.keep keepsOArr h hs hk
theorem atOArr2 (w : World) (S : Nat → Prop) (f : Nat → Value) (u : List Arr) (h : EOArr2 w S f u) : EArr2 w S f u := LOwn.lat growsArr atOArr h
abbrev Arr2sOwn := LOwn 85 1 EOArr2
def mArr2 (k : Nat) (u : List Arr) : List Arr := mL mArr nArr k u
def nArr2 (u : List Arr) : Nat := tot nArr u
theorem markArrivalSS_none (A : Option Addr) (c : Nat) (k : Int) (w : World) : Calls Try.prog 27 #[.slice A 0 c, .int .i64 k] w fun e w' => e = .returned (.int .i64 k) ∧ w = w' := by
  go_enter Try.func27, Try.ntmps27
  go_wp2
  go_loop [1, 5] (fun x i => i = .int .i64 0 ∧ x = .int .i64 k) (fun _ _ => 0)
  case atStart => exact ⟨rfl, rfl⟩
  case round =>
    obtain ⟨rfl, rfl⟩ := hrel
    go_wp2
    go_ret
    exact ⟨rfl, rfl⟩
set_option maxHeartbeats 3200000 in
theorem markArrivalSS_core (g n c k : Nat) (S : Nat → Prop) (P : Nat → Nat → Prop) (F0 : Nat → Value) (us : List (List Arr)) (w : World) (hn : n ≤ 1048576) (hk : 0 < k) (hk1 : k + tot nArr2 us ≤ 4000000000000000000) (hSg : S g) (hSP : ∀ i, i < n → ∀ y, P i y → S y) (ho : LOpen 85 1 EOArr2 w g n c F0 P us) :
    Calls Try.prog 27 #[.slice (some ⟨g, 0, none⟩) n c, .int .i64 k] w fun e w' => ∃ F, e = .returned (.int .i64 ((k + tot nArr2 us : Nat) : Int)) ∧ LOpen 85 1 EOArr2 w' g n c F P (mL mArr2 nArr2 k us) ∧ Foot w w' S := by
  have hc := ho.mine.le
  have hlen := Seg.hid ho.len
  have HM : Hid (LOpen 85 1 EOArr2 w g n c F0 P (mid mArr2 nArr2 k 0 us) ∧ Foot w w S) := ⟨by rw [mid_zero]; exact ho, Foot.refl _ _⟩
  have HSG := Seg.hid hSg; have HSP := Seg.hid hSP
  have KL : Hid (∀ j, j < n → k + tot nArr2 (us.take j) + nArr2 (us.getD j default) ≤ 4000000000000000000) := fun j hj => by
    have a1 := tot_take nArr2 (ts := us) (j := j) (by rw [hlen.out]; exact hj)
    have a2 := tot_le nArr2 us (j + 1)
    omega
  have KE : Hid (k + tot nArr2 (us.take n) = k + tot nArr2 us) := by show _ = _; rw [← hlen.out, List.take_length]
  clear ho hSg hSP hk1
  go_enter Try.func27, Try.ntmps27
  go_wp2
  go_loopw [1, 5] (fun x i wr => ∃ (j : Nat) (F : Nat → Value), j ≤ n ∧ i = .int .i64 j ∧ x = .int .i64 ((k + tot nArr2 (us.take j) : Nat) : Int) ∧ Hid (LOpen 85 1 EOArr2 wr g n c F P (mid mArr2 nArr2 k j us) ∧ Foot w wr S)) (fun _ i _ => n - (intOf i).toNat)
  case atStart => exact ⟨0, F0, Nat.zero_le _, rfl, rfl, HM.out⟩
  case round =>
    clear HM
    obtain ⟨j, F, hj, rfl, rfl, HR⟩ := hrel
    by_cases hlt : j < n
    · have h0 : (0 : Int) ≤ (j : Int) := by omega
      have h1 : (j : Int) < (n : Int) := by omega
      have EL := HR.out.1.el j hlt
      rw [mid_get mArr2 nArr2 (by rw [hlen.out]; exact hlt)] at EL
      have MS := mid_step mArr2 nArr2 (k := k) (ts := us) (j := j) (by rw [hlen.out]; exact hlt)
      have TK := Seg.hid (tot_take nArr2 (ts := us) (j := j) (by rw [hlen.out]; exact hlt))
      have hxb := KL.out j hlt
      have HAP := Seg.hid (HR.out.1.apart j hlt)
      obtain ⟨x, hx⟩ : ∃ x, k + tot nArr2 (us.take j) = x := ⟨_, rfl⟩
      have HX := Seg.hid hx
      rw [hx] at hxb MS ⊢
      have hx0 : 0 < x := by omega
      clear hx
      have MS' := Seg.hid MS
      clear MS
      generalize us.getD j default = u at *
      have HXB : Hid (x + tot nArr u ≤ 4000000000000000000) := hxb
      clear hxb
      obtain ⟨A1, c1, g1⟩ := LOwn.form EL
      have O0 : Hid (ArrsOwn wr (P j) (.slice A1 u.length c1) u) := by
        have h : ArrsOwn wr (P j) (F (j * 1 + 0)) u := EL
        have g1' : F (j * 1 + 0) = .slice A1 u.length c1 := g1
        rw [g1'] at h
        exact h
      have R0 : Hid (Rnd 85 1 g n c (P j) w wr wr S F j [.slice A1 u.length c1]) := Rnd.start HR.out.1.mine HR.out.2 rfl (fun q hq => by
        match q, hq with
        | 0, _ => exact g1)
      clear g1 EL
      have d0 : (wr).cell? ⟨g, j, none⟩ = some (.slice A1 u.length c1) := by have := R0.out.cell hlt 0 (by omega); simpa using this
      go_wp2_with fail
      clear d0
      refine (markArrivalS_own _ x (by omega) (P j) u wr hx0 (by have := HXB.out; omega) O0.out).mono ?_
      rintro e w1 ⟨rfl, o1, t1⟩
      have R2 : Hid (Rnd 85 1 g n c (P j) w wr w1 S F j [.slice A1 u.length c1]) := R0.out.foot t1 (fun y hy => hy) (fun h => (HAP.out g h).1 rfl) (HSP.out j hlt)
      have EE : Hid (EOArr2 w1 (P j) (fun q => [.slice A1 u.length c1].getD q default) (mArr2 x u)) := o1
      clear o1 t1
      obtain ⟨F', L', F2⟩ := Rnd.done keepsOArr2 (t := mArr2 x u) HR.out.1 hlt R2.out EE.out
      rw [MS'.out] at L'
      have L2 := Seg.hid L'
      have F3 := Seg.hid F2
      clear L' F2
      have HKK : Hid (((x + tot nArr u : Nat) : Int) = ((k + tot nArr2 (us.take (j + 1)) : Nat) : Int)) := by
        show _ = _
        have a1 := TK.out; have a2 := HX.out; simp only [nArr2] at a1 a2 ⊢; omega
      obtain ⟨y, hy⟩ : ∃ y, x + tot nArr u = y := ⟨_, rfl⟩
      rw [hy] at HKK ⊢
      clear hy
      go_wp2
      go_roundw
      case rel => exact ⟨j + 1, F', by omega, by go_num, congrArg (Value.int .i64) HKK.out, L2.out, F3.out⟩
      case measure => simp [intOf]; omega
    · have : j = n := by omega
      subst this
      have E := HR.out
      rw [show mid mArr2 nArr2 k j us = mL mArr2 nArr2 k us by rw [← hlen.out]; exact mid_all _ _ _ _] at E
      have EH' := Seg.hid E
      clear E
      rw [KE.out]
      go_wp2
      go_ret
      exact ⟨F, rfl, EH'.out⟩
theorem markArrivalSS_own (x : Int) (k : Nat) (hx : x = (k : Int)) (S : Nat → Prop) (us : List (List Arr)) (w : World) {v : Value} (hk : 0 < k) (hk1 : k + tot nArr2 us ≤ 4000000000000000000) (hv : Arr2sOwn w S v us) :
    Calls Try.prog 27 #[v, .int .i64 x] w fun e w' => e = .returned (.int .i64 ((k + tot nArr2 us : Nat) : Int)) ∧ Arr2sOwn w' S v (mL mArr2 nArr2 k us) ∧ Foot w w' S := by
  subst hx
  obtain ⟨h0, A, c, rfl, h⟩ := hv
  by_cases hz : us.length = 0
  · obtain rfl := List.length_eq_zero_iff.1 hz
    exact (markArrivalSS_none A c k w).mono fun e w' ⟨h1, h2⟩ => by
      subst h2
      exact ⟨by rw [h1]; rfl, LOwn.nil _ _ _ _, Foot.refl _ _⟩
  obtain ⟨g, F, P, rfl, h3, h4, h5⟩ := h.resolve_left hz
  refine (markArrivalSS_core g us.length c k S P F us w h0 hk hk1 h3 h4 h5).mono fun e w' ⟨F', a1, a2, a3⟩ => ⟨a1, ⟨by rw [mL_len]; exact h0, _, c, by rw [mL_len], .inr ⟨g, F', P, rfl, h3, fun i hi => h4 i (by rw [mL_len] at hi; exact hi), ?_⟩⟩, a3⟩
  rw [mL_len]
  exact a2
end Go.Proofs.Ytkibaimemomjpaa.Ow
