/- A copier's list of its own, filled one by one, by sets; Step: the law's copiers answer memory of their own. -/
import Derived.Test.YtkibaimemomjpaaJQ18
import Derived.Test.YtkibaimemomjpaaJQ41
namespace Go.Proofs.Ytkibaimemomjpaa.Ow
set_option maxRecDepth 8000
open Go.RowKit
open Recs
open Ls
set_option linter.unusedVariables false
/-- A row of one's own that is filled one by one: m elements stand. -/
structure LPart {T : Type} [Inhabited T] (ty nf : Nat) (EO : Elt T) (w wr : World) (us : List T) (n m : Nat) (F : Nat → Value) (P : Nat → Nat → Prop) : Prop where
  mine : Mine wr ty nf w.heap.size n F
  bel : Below w.heap.size w wr
  el : ∀ i, i < m → EO wr (P i) (fun q => F (i * nf + q)) (us.getD i default)
  apart : ∀ i, i < m → ∀ x, P i x → w.heap.size < x ∧ x < wr.heap.size
  disj : ∀ i j, i < m → j < m → i ≠ j → ∀ x, P i x → ¬ P j x
section
variable {T : Type} [Inhabited T] {ty nf : Nat} {EO : Elt T}
theorem LPart.step (hE : KeepsO nf EO) {w wr w1 : World} {n m : Nat} {F : Nat → Value} {P : Nat → Nat → Prop} {us : List T} (h : LPart ty nf EO w wr us n m F P) (vs : List Value) (hv : vs.length = nf) (b1 : Below wr.heap.size wr w1)
    (he : EO w1 (seg wr.heap.size w1.heap.size) (fun q => vs.getD q default) (us.getD m default)) :
    LPart ty nf EO w (w1.setCells w.heap.size (m * nf) vs) us n (m + 1) (Own.upd F (m * nf) vs) (fun i => if i = m then seg wr.heap.size w1.heap.size else P i) := by
  have hlt := h.mine.lt
  have keep : ∀ g, g ≠ w.heap.size → (w1.setCells w.heap.size (m * nf) vs).heap[g]? = w1.heap[g]? := fun g hg => Cells.heap_setCells_other _ _ hg
  have hsize := Cells.size_setCells (g := w.heap.size) vs (o := m * nf) w1
  have b1s := b1.size
  refine ⟨Own.mine_setCells _ _ _ _ (h.mine.below b1 hlt), Cells.below_setCells (Nat.le_refl _) _ _ _ _ (chain h.bel b1), fun i hi => ?_, fun i hi x hx => ?_, fun i j hi hj hij x hx hx' => ?_⟩
  · by_cases e : i = m
    · subst e
      rw [if_pos rfl]
      exact hE _ _ _ _ _ _ he (by rw [hsize]; exact Nat.le_refl _) (fun g hg => keep g (by have := hg.1; omega)) (fun q hq => Own.upd_in (by omega))
    · rw [if_neg e]
      refine hE _ _ _ _ _ _ (h.el i (by omega)) (by rw [hsize]; exact b1s) (fun g hg => ?_) (fun q hq => ?_)
      · have := h.apart i (by omega) g hg
        exact (keep g (by omega)).trans (b1.block g (by omega))
      · refine Own.upd_out (.inl ?_)
        have : (i + 1) * nf ≤ m * nf := Nat.mul_le_mul_right nf (by omega)
        rw [Nat.succ_mul] at this
        omega
  · rw [hsize]
    by_cases e : i = m
    · subst e
      rw [if_pos rfl] at hx
      have := hx.1; have := hx.2
      exact ⟨by omega, by omega⟩
    · rw [if_neg e] at hx
      have := h.apart i (by omega) x hx
      exact ⟨by omega, by omega⟩
  · by_cases e : i = m
    · subst e
      rw [if_pos rfl] at hx
      rw [if_neg (Ne.symm hij)] at hx'
      have a1 := hx.1
      have a2 := h.apart j (by omega) x hx'
      omega
    · rw [if_neg e] at hx
      by_cases e2 : j = m
      · subst e2
        rw [if_pos rfl] at hx'
        have a1 := hx'.1
        have a2 := h.apart i (by omega) x hx
        omega
      · rw [if_neg e2] at hx'
        exact h.disj i j (by omega) (by omega) hij x hx hx'
theorem LPart.own {w wr : World} {F : Nat → Value} {P : Nat → Nat → Prop} {us : List T} (h : LPart ty nf EO w wr us us.length us.length F P) (hn : us.length ≤ 1048576) : LOwn ty nf EO wr (seg w.heap.size wr.heap.size) (.slice (some ⟨w.heap.size, 0, none⟩) us.length us.length) us :=
  ⟨hn, _, _, rfl, .inr ⟨w.heap.size, F, P, rfl, ⟨Nat.le_refl _, h.mine.lt⟩, fun i hi x hx => ⟨by have := h.apart i hi x hx; omega, (h.apart i hi x hx).2⟩, h.mine, rfl, h.el, fun i hi x hx => ⟨by have := h.apart i hi x hx; omega, (h.apart i hi x hx).2⟩, h.disj⟩⟩
end
end Go.Proofs.Ytkibaimemomjpaa.Ow
namespace Go.Proofs.Ytkibaimemomjpaa.Ow
set_option maxRecDepth 8000
open Go.RowKit
open Recs
open Ls
set_option linter.unusedVariables false
def StpOwn (w : World) (S : Nat → Prop) (v : Value) (u : Stp) : Prop := ∃ f, v = .agg (arrStp f) ∧ EOStp w S f u
set_option maxHeartbeats 1600000 in
theorem toStep_own (v : Value) (u : Stp) (w : World) (S : Nat → Prop) (hv : StpAt w S v u) (hS : ∀ g, S g → g < w.heap.size) (hf : szStp u ≤ 1048576) :
    Calls Try.prog 74 #[v] w fun e w' => ∃ v', e = .returned v' ∧ StpOwn w' (seg w.heap.size w'.heap.size) v' u ∧ Below w.heap.size w w' := by
  exact (toStep_any v u w S hv hS hf).mono fun e w' ⟨v', h1, h2, h3⟩ => ⟨v', h1, h2, h3⟩
set_option maxHeartbeats 800000 in
theorem toStepS_ocore (g o n c : Nat) (us : List Stp) (F0 : Nat → Nat → Value) (w : World) (S : Nat → Prop) (hn : n ≤ 1048576) (hc : n ≤ c) (hg : g < w.heap.size) (hS : ∀ g, S g → g < w.heap.size)
    (hf : ∀ i, i < n → szStp (us.getD i default) ≤ 1048576) (he : ∀ i, i < n → EStp w S (F0 i) (us.getD i default))
    (ha : ∀ i, i < n → ∀ j, j < 3 → w.cell? ⟨g, o + i * 3 + j, none⟩ = some (F0 i j)) :
    Calls Try.prog 35 #[.slice (some ⟨g, o, none⟩) n c] w fun e w' => ∃ F P, e = .returned (.slice (some ⟨w.heap.size, 0, none⟩) n n) ∧ LPart 118 3 EOStp w w' us n n F P := by
  obtain ⟨i0, hi, hz0, hz1, hz2⟩ := info_parts infoZStp
  have HA := Seg.hid ha; have HK := Seg.hid hf; have HH := Seg.hid he
  clear ha hf he
  go_enter Try.func35, Try.ntmps35
  go_wp2_with (at_make; refine wpList_make_full _ rfl _ _ 31 rfl w.heap.size 118 i0 _ 3 Try.underlying31 hi hz0 hz1 .i64 .i64 _ _ n rfl rfl rfl rfl (by rw [hz2]; omega) (by unfold maxLen; omega) (Nat.le_refl _) ?_; intro w1 hown hgr)
  have hb1 := (Below.refl w.heap.size w).grown hgr (Nat.le_refl _) (fun k hk => by cases hk)
  have HM := Seg.hid (Mine.of_made hown hown.1)
  have HB := Seg.hid hb1
  clear hown hgr hb1 hi hz0 hz1 hz2
  go_loopw [4] (fun i wr => ∃ (j : Nat) (F : Nat → Value) (P : Nat → Nat → Prop), j ≤ n ∧ i = .int .i64 j ∧ LPart 118 3 EOStp w wr us n j F P) (fun i _ => n - (intOf i).toNat)
  case atStart => exact ⟨0, _, fun _ _ => False, Nat.zero_le _, rfl, HM.out, HB.out, fun i hi => absurd hi (by omega), fun i hi => absurd hi (by omega), fun i k hi => absurd hi (by omega)⟩
  case round =>
    clear HM HB
    obtain ⟨j, F, P, hj, rfl, HR⟩ := hrel
    by_cases hlt : j < n
    · have CL := cells_later HA.out HR.bel hg
      have c0 : wr.cell? ⟨g, o + j * 3, none⟩ = some (F0 j 0) := CL j ‹j < n› 0 (by omega)
      have c1 : wr.cell? ⟨g, o + j * 3 + 1, none⟩ = some (F0 j 1) := CL j ‹j < n› 1 (by omega)
      have c2 : wr.cell? ⟨g, o + j * 3 + 2, none⟩ = some (F0 j 2) := CL j ‹j < n› 2 (by omega)
      clear CL
      have RA : Hid (StpAt wr S (.agg (arrStp (F0 j))) (us.getD j default)) := ⟨_, rfl, keepsStp _ _ _ _ _ _ (HH.out j hlt) (fun g hg => HR.bel.block g (hS g hg)) (fun _ _ => rfl)⟩
      have FW := Seg.hid (HK.out j hlt)
      have hbr : Hid (∀ g, S g → g < wr.heap.size) := fun g hg => Nat.lt_of_lt_of_le (hS g hg) HR.bel.size
      have ST := Seg.hid (fun w1 vs hv b1 he => LPart.step keepsOStp (w1 := w1) HR vs hv b1 he)
      have HM := Seg.hid HR.mine
      have h0 : (0 : Int) ≤ (j : Int) := by omega
      have h1 : (j : Int) < (n : Int) := by omega
      clear HR
      generalize us.getD j default = uj at *
      go_wp2_with fail
      refine (toStep_own _ uj wr S RA.out hbr.out FW.out).mono ?_
      rintro e w1 ⟨v1, rfl, ⟨f1, rfl, he1⟩, b1⟩
      have S1 := Seg.hid (ST.out w1 (arrStp f1).toList rfl b1 (keepsOStp _ _ _ _ _ _ he1 (Nat.le_refl _) (fun _ _ => rfl) (fun q hq => by
        match q, hq with
        | 0, _ => rfl
        | 1, _ => rfl
        | 2, _ => rfl
        )))
      have M1 : Hid (w1.there w.heap.size (j * 3) (arrStp f1).size) := Own.mine_there (o := j * 3) (m := 3) (HM.out.below b1 HM.out.lt) (by omega)
      have ON := Seg.hid (oneStp (atOStp _ _ _ _ he1))
      clear b1 he1
      go_wp2_with (refine wpList_store_mid rfl 118 _ _ rfl w.heap.size (j * 3) (arrStp f1) rfl rfl ?ht infoStp ON.out ?_; case ht => exact M1.out)
      go_roundw
      case rel => exact ⟨j + 1, _, _, by omega, by go_num, S1.out⟩
      case measure => simp [intOf]; omega
    · have : j = n := by omega
      subst this
      go_wp2
      go_ret
      exact ⟨F, P, rfl, HR⟩
theorem toStepS_own (v : Value) (us : List Stp) (w : World) (S : Nat → Prop) (hv : LAt 3 EStp w S v us) (hS : ∀ g, S g → g < w.heap.size) (hf : szL szStp us ≤ 1048576) :
    Calls Try.prog 35 #[v] w fun e w' => ∃ v', e = .returned v' ∧ StpsOwn w' (seg w.heap.size w'.heap.size) v' us ∧ Below w.heap.size w w' := by
  obtain ⟨hn, A, c, rfl, h⟩ := hv
  by_cases hz : us.length = 0
  · obtain rfl := List.length_eq_zero_iff.1 hz
    refine (toStepS_none A c w).mono fun e w' ⟨v', a1, ⟨A', c', a2⟩, a3⟩ => ⟨v', a1, ?_, a3⟩
    rw [a2]
    exact LOwn.nil _ _ _ _
  obtain ⟨g, o, F, rfl, hg, hc, hcell, hel⟩ := h.resolve_left hz
  exact (toStepS_ocore g o us.length c us F w S (szL_len _ hf) hc (hS g hg) hS (fun i hi => szL_one _ hf hi) hel hcell).mono fun e w' ⟨F, P, a1, a2⟩ => ⟨_, a1, a2.own (szL_len _ hf), a2.bel⟩
end Go.Proofs.Ytkibaimemomjpaa.Ow
