/- Api: the law's copiers answer memory of their own. -/
import Derived.Test.YtencpfcjgfpciaaOwT
import Derived.Test.YtencpfcjgfpciaaOApx
namespace Go.Proofs.Ytencpfcjgfpciaa.Ow
set_option maxRecDepth 8000
open Go.RowKit
open Recs
open Ls
set_option linter.unusedVariables false
def ApxOwn (w : World) (S : Nat → Prop) (v : Value) (u : Apx) : Prop := ∃ f, v = .agg (arrApx f) ∧ EOApx w S f u
set_option maxHeartbeats 1600000 in
theorem toApi_own (v : Value) (u : Apx) (w : World) (S : Nat → Prop) (hv : ApxAt w S v u) (hS : ∀ g, S g → g < w.heap.size) (hf : szApx u ≤ 1048576) :
    Calls Try.prog 24 #[v] w fun e w' => ∃ v', e = .returned v' ∧ ApxOwn w' (seg w.heap.size w'.heap.size) v' u ∧ Below w.heap.size w w' := by
  exact (toApi_any v u w S hv hS hf).mono fun e w' ⟨v', h1, h2, h3⟩ => ⟨v', h1, h2, h3⟩
set_option maxHeartbeats 800000 in
theorem toApiS_ocore (g o n c : Nat) (us : List Apx) (F0 : Nat → Nat → Value) (w : World) (S : Nat → Prop) (hn : n ≤ 1048576) (hc : n ≤ c) (hg : g < w.heap.size) (hS : ∀ g, S g → g < w.heap.size)
    (hf : ∀ i, i < n → szApx (us.getD i default) ≤ 1048576) (he : ∀ i, i < n → EApx w S (F0 i) (us.getD i default))
    (ha : ∀ i, i < n → ∀ j, j < 3 → w.cell? ⟨g, o + i * 3 + j, none⟩ = some (F0 i j)) :
    Calls Try.prog 11 #[.slice (some ⟨g, o, none⟩) n c] w fun e w' => ∃ F P, e = .returned (.slice (some ⟨w.heap.size, 0, none⟩) n n) ∧ LPart 47 3 EOApx w w' us n n F P := by
  obtain ⟨i0, hi, hz0, hz1, hz2⟩ := info_parts infoZApx
  have HA := Seg.hid ha; have HK := Seg.hid hf; have HH := Seg.hid he
  clear ha hf he
  go_enter Try.func11, Try.ntmps11
  go_wp2_with (at_make; refine wpList_make_full _ rfl _ _ 32 rfl w.heap.size 47 i0 _ 3 Try.underlying32 hi hz0 hz1 .i64 .i64 _ _ n rfl rfl rfl rfl (by rw [hz2]; omega) (by unfold maxLen; omega) (Nat.le_refl _) ?_; intro w1 hown hgr)
  have hb1 := (Below.refl w.heap.size w).grown hgr (Nat.le_refl _) (fun k hk => by cases hk)
  have HM := Seg.hid (Mine.of_made hown hown.1)
  have HB := Seg.hid hb1
  clear hown hgr hb1 hi hz0 hz1 hz2
  go_loopw [4] (fun i wr => ∃ (j : Nat) (F : Nat → Value) (P : Nat → Nat → Prop), j ≤ n ∧ i = .int .i64 j ∧ LPart 47 3 EOApx w wr us n j F P) (fun i _ => n - (intOf i).toNat)
  case atStart => exact ⟨0, _, fun _ _ => False, Nat.zero_le _, rfl, HM.out, HB.out, fun i hi => absurd hi (by omega), fun i hi => absurd hi (by omega), fun i k hi => absurd hi (by omega)⟩
  case round =>
    clear HM HB
    obtain ⟨j, F, P, hj, rfl, HR⟩ := hrel
    by_cases hlt : j < n
    · have CL := cells_later HA.out HR.bel hg
      have c0 : wr.cell? ⟨g, o + j * 3, none⟩ = some (F0 j 0) := CL j ‹j < n› 0 (by omega)
      have c1 : wr.cell? ⟨g, o + j * 3 + 1, none⟩ = some (F0 j 1) := CL j ‹j < n› 1 (by omega)
      have c2 : wr.cell? ⟨g, o + j * 3 + 2, none⟩ = some (F0 j 2) := CL j ‹j < n› 2 (by omega)
      clear CL
      have RA : Hid (ApxAt wr S (.agg (arrApx (F0 j))) (us.getD j default)) := ⟨_, rfl, keepsApx _ _ _ _ _ _ (HH.out j hlt) (fun g hg => HR.bel.block g (hS g hg)) (fun _ _ => rfl)⟩
      have FW := Seg.hid (HK.out j hlt)
      have hbr : Hid (∀ g, S g → g < wr.heap.size) := fun g hg => Nat.lt_of_lt_of_le (hS g hg) HR.bel.size
      have ST := Seg.hid (fun w1 vs hv b1 he => LPart.step keepsOApx (w1 := w1) HR vs hv b1 he)
      have HM := Seg.hid HR.mine
      have h0 : (0 : Int) ≤ (j : Int) := by omega
      have h1 : (j : Int) < (n : Int) := by omega
      clear HR
      generalize us.getD j default = uj at *
      go_wp2_with fail
      refine (toApi_own _ uj wr S RA.out hbr.out FW.out).mono ?_
      rintro e w1 ⟨v1, rfl, ⟨f1, rfl, he1⟩, b1⟩
      have S1 := Seg.hid (ST.out w1 (arrApx f1).toList rfl b1 (keepsOApx _ _ _ _ _ _ he1 (Nat.le_refl _) (fun _ _ => rfl) (fun q hq => by
        match q, hq with
        | 0, _ => rfl
        | 1, _ => rfl
        | 2, _ => rfl
        )))
      have M1 : Hid (w1.there w.heap.size (j * 3) (arrApx f1).size) := Own.mine_there (o := j * 3) (m := 3) (HM.out.below b1 HM.out.lt) (by omega)
      have ON := Seg.hid (oneApx (atOApx _ _ _ _ he1))
      clear b1 he1
      go_wp2_with (refine wpList_store_mid rfl 47 _ _ rfl w.heap.size (j * 3) (arrApx f1) rfl rfl ?ht infoApx ON.out ?_; case ht => exact M1.out)
      go_roundw
      case rel => exact ⟨j + 1, _, _, by omega, by go_num, S1.out⟩
      case measure => simp [intOf]; omega
    · have : j = n := by omega
      subst this
      go_wp2
      go_ret
      exact ⟨F, P, rfl, HR⟩
theorem toApiS_own (v : Value) (us : List Apx) (w : World) (S : Nat → Prop) (hv : LAt 3 EApx w S v us) (hS : ∀ g, S g → g < w.heap.size) (hf : szL szApx us ≤ 1048576) :
    Calls Try.prog 11 #[v] w fun e w' => ∃ v', e = .returned v' ∧ ApxsOwn w' (seg w.heap.size w'.heap.size) v' us ∧ Below w.heap.size w w' := by
  obtain ⟨hn, A, c, rfl, h⟩ := hv
  by_cases hz : us.length = 0
  · obtain rfl := List.length_eq_zero_iff.1 hz
    refine (toApiS_none A c w).mono fun e w' ⟨v', a1, ⟨A', c', a2⟩, a3⟩ => ⟨v', a1, ?_, a3⟩
    rw [a2]
    exact LOwn.nil _ _ _ _
  obtain ⟨g, o, F, rfl, hg, hc, hcell, hel⟩ := h.resolve_left hz
  exact (toApiS_ocore g o us.length c us F w S (szL_len _ hf) hc (hS g hg) hS (fun i hi => szL_one _ hf hi) hel hcell).mono fun e w' ⟨F, P, a1, a2⟩ => ⟨_, a1, a2.own (szL_len _ hf), a2.bel⟩
end Go.Proofs.Ytencpfcjgfpciaa.Ow
