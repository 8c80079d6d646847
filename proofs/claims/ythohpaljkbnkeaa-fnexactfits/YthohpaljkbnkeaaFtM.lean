/- The model's Fits. -/
import Derived.Test.YthohpaljkbnkeaaFtI
import Derived.Test.YthohpaljkbnkeaaCrS
import Derived.Test.YthohpaljkbnkeaaHdK
import Derived.Deep.RegionHeld3
import Derived.Deep.RegionLaw
import Derived.BigQuiet
namespace Go.Proofs.Ythohpaljkbnkeaa.FtM
set_option maxRecDepth 8000
open Go.RowKit
open Ls Lp VkP VkR ScP ScM ScN ScI ScS MaP MaI CrP FtP
open Recs (hsz below1 below2 below3 chain chainD)
set_option linter.unusedVariables false
theorem drop_bad {p : Sch → Bool} {l : List Sch} {n k : Nat} (h : n ≤ k) (hk : k < l.length) (hp : p (l.getD k default) = false) : (l.drop n).all p = false := by
  refine List.all_eq_false.2 ⟨l.getD k default, ?_, by rw [hp]; simp⟩
  rw [List.getD_eq_getElem?_getD, List.getElem?_eq_getElem hk, Option.getD_some, List.mem_drop_iff_getElem]
  exact ⟨k - n, by omega, by congr 1; omega⟩
theorem drop_all {p : Sch → Bool} {l : List Sch} {n : Nat} (h : ∀ j, n ≤ j → j < l.length → p (l.getD j default) = true) : (l.drop n).all p = true := by
  refine List.all_eq_true.2 fun x hx => ?_
  rw [List.mem_drop_iff_getElem] at hx
  obtain ⟨j, hj, rfl⟩ := hx
  have h2 : n + j < l.length := by omega
  have := h (n + j) (by omega) h2
  rwa [List.getD_eq_getElem?_getD, List.getElem?_eq_getElem h2, Option.getD_some] at this
theorem rme1 {m : Int} (h : mOk m = true) : (m % 8 == 1) = (bck m && !fth m) := by rcases mOk_cases h with rfl | rfl | rfl | rfl | rfl | rfl | rfl | rfl <;> rfl
theorem rme2 {m : Int} (h : mOk m = true) : (m % 8 == 2) = (fth m && !bck m) := by rcases mOk_cases h with rfl | rfl | rfl | rfl | rfl | rfl | rfl | rfl <;> rfl
theorem rme4 {m : Int} (h : mOk m = true) : (m % 8 == 4) = (bck m && fth m) := by rcases mOk_cases h with rfl | rfl | rfl | rfl | rfl | rfl | rfl | rfl <;> rfl
theorem mOk_no {m : Int} (h : mOk m = false) : m < 0 ∨ 12 < m ∨ m = 3 ∨ m = 5 ∨ m = 6 ∨ m = 7 ∨ m = 11 := by
  have h' : ¬ (m = 0 ∨ m = 1 ∨ m = 2 ∨ m = 4 ∨ m = 8 ∨ m = 9 ∨ m = 10 ∨ m = 12) := by simpa [mOk] using h
  omega
theorem mode_any (m : Int) (w : World) : Calls Try.prog 62 #[.int .i64 m] w fun e w' => e = .returned (.bool (mOk m)) ∧ w = w' := by
  cases h : mOk m with
  | true =>
    rcases mOk_cases h with rfl | rfl | rfl | rfl | rfl | rfl | rfl | rfl
    all_goals
      clear h
      go_enter Try.func62, Try.ntmps62
      go_wp2
      go_ret
      exact ⟨rfl, rfl⟩
  | false =>
    rcases mOk_no h with h1 | h1 | rfl | rfl | rfl | rfl | rfl
    · have q : ¬ (0 : Int) ≤ m := by omega
      clear h
      go_enter Try.func62, Try.ntmps62
      go_wp2
      go_ret
      exact ⟨rfl, rfl⟩
    · have q : (0 : Int) ≤ m := by omega
      have q2 : ¬ m ≤ 12 := by omega
      clear h
      go_enter Try.func62, Try.ntmps62
      go_wp2
      go_ret
      exact ⟨rfl, rfl⟩
    all_goals
      clear h
      go_enter Try.func62, Try.ntmps62
      go_wp2
      go_ret
      exact ⟨rfl, rfl⟩
set_option maxHeartbeats 25600000 in
theorem spec_any (m : Int) (v y : Value) (old : List Sch) (s : Sch) (w : World) (S : Nat → Prop) (hv : LAt 2 ESch w S v old) (hy : SchAt w S y s) (hS : ∀ g, S g → g < w.heap.size) (hf : szL szSch old ≤ 1048576) (hfs : szSch s ≤ 1048576) :
    Calls Try.prog 27 #[.int .i64 m, v, y] w fun e w' => e = .returned (.bool (fitP m old s)) ∧ Below w.heap.size w w' := by
  have HY := Seg.hid hy
  obtain ⟨A, c, g, o, F, rfl, OP, hn⟩ := opn hv hS
  obtain ⟨A2, c2, rfl, -⟩ := formS hy
  have HO := Seg.hid OP
  have HZ := Seg.hid hf
  have ZS := Seg.hid hfs
  clear hv hy OP
  have C2 : Hid (∀ wx, Below w.heap.size w wx → Calls Try.prog 22 #[.agg (srow s A2 c2)] wx fun e w' => e = .returned (.bool (sok s)) ∧ Below wx.heap.size wx w') := fun wx b => ScS.first_any _ s wx S (HY.out.below b hS) (fun g hg => Nat.lt_of_lt_of_le (hS g hg) b.size) hfs
  have R0 : Hid (fitP m old s = (mOk m && decide (old.length ≤ 20) && old.all sok && sok s && fitL m old s)) := rfl
  clear hf hfs
  go_enter Try.func27, Try.ntmps27
  go_wp2_with fail
  refine (C2.out _ (below1 w _)).mono ?_
  rintro e w2 ⟨rfl, b2⟩
  have B2 := Seg.hid (chain (below1 w _) b2)
  have P2 : Hid (w2.heap[w.heap.size]? = some (.cells (srow s A2 c2) 44 (0, 0))) := (b2.block w.heap.size (by rw [hsz]; omega)).trans (heap_alloc_new _ _)
  clear b2
  cases h3 : sok s with
  | false =>
    have R : Hid (fitP m old s = false) := by show _ = _; rw [R0.out, h3]; simp
    clear h3
    go_wp2
    go_ret
    exact ⟨by rw [R.out]; rfl, B2.out⟩
  | true =>
  have SS := Seg.hid h3
  clear h3
  by_cases h20 : 20 < old.length
  · have R : Hid (fitP m old s = false) := by
      show _ = _
      have : ¬ old.length ≤ 20 := by omega
      rw [R0.out]; simp [this]
    have q : (20 : Int) < (old.length : Int) := by omega
    go_wp2
    go_ret
    exact ⟨by rw [R.out]; rfl, B2.out⟩
  have q20 : ¬ (20 : Int) < (old.length : Int) := by omega
  have CM := Seg.hid (fun wx => mode_any m wx)
  cases hm : mOk m with
  | false =>
    have R : Hid (fitP m old s = false) := by show _ = _; rw [R0.out, hm]; rfl
    rw [hm] at CM
    clear hm
    go_wp2_with (go_at_call 62; refine (CM.out _).mono ?_; rintro e w5 ⟨rfl, rfl⟩)
    go_ret
    exact ⟨by rw [R.out]; rfl, B2.out⟩
  | true =>
  rw [hm] at CM
  have R1 : Hid (fitP m old s = (old.all sok && fitL m old s)) := by
    show _ = _
    have : old.length ≤ 20 := by omega
    rw [R0.out, hm, SS.out]; simp [this]
  have E1 := rem1 hm
  have E2 := rem2 hm
  have E4 := rem4 hm
  have E5 := rme1 hm
  have E6 := rme2 hm
  have E7 := rme4 hm
  obtain ⟨bk, hbk⟩ : ∃ b, bck m = b := ⟨_, rfl⟩
  obtain ⟨fo, hfo⟩ : ∃ b, fth m = b := ⟨_, rfl⟩
  rw [hbk, hfo] at E1 E2 E4 E5 E6 E7
  have HB := Seg.hid hbk
  have HF := Seg.hid hfo
  have HE1 := Seg.hid E1
  have HE2 := Seg.hid E2
  have HE4 := Seg.hid E4
  have HE5 := Seg.hid E5
  have HE6 := Seg.hid E6
  have HE7 := Seg.hid E7
  clear hm hbk hfo E1 E2 E4 E5 E6 E7
  go_wp2_with (go_at_call 62; refine (CM.out _).mono ?_; rintro e w5 ⟨rfl, rfl⟩)
  go_loopw [7] (fun i wr => ∃ k : Nat, k ≤ old.length ∧ i = .int .i64 k ∧ Hid (Below w.heap.size w wr ∧ wr.heap[w.heap.size]? = some (.cells (srow s A2 c2) 44 (0, 0)) ∧ (old.take k).all sok = true)) (fun i _ => old.length - (intOf i).toNat)
  case atStart => exact ⟨0, Nat.zero_le _, rfl, B2.out, P2.out, by simp⟩
  case round =>
    obtain ⟨k, hk, rfl, HG⟩ := hrel
    by_cases hlt : k < old.length
    · obtain ⟨ea, hc, hgw⟩ := HO.out.addr.resolve_left (by omega)
      subst ea
      obtain ⟨A', c', hfl, d0, d1⟩ := sch_at HO.out hS HG.out.1 hlt
      have h0 : (0 : Int) ≤ (k : Int) := by omega
      have h1 : (k : Int) < (old.length : Int) := by omega
      have ZU : Hid (szSch (old.getD k default) ≤ 1048576) := szL_one szSch HZ.out hlt
      have NX := Seg.hid (all_next sok old k hlt HG.out.2.2)
      have BX := Seg.hid (all_bad sok old k hlt)
      have HFL := Seg.hid hfl
      have BW := Seg.hid HG.out.1
      have PW := Seg.hid HG.out.2.1
      have hz : w.heap.size < wr.heap.size := (Array.getElem?_eq_some_iff.1 PW.out).1
      clear HG hfl
      generalize old.getD k default = u at *
      have CS : Hid (Calls Try.prog 22 #[.agg (srow u A' c')] wr fun e w' => e = .returned (.bool (sok u)) ∧ Below wr.heap.size wr w') := ScS.first_any _ u wr S HFL.out (fun g hg => Nat.lt_of_lt_of_le (hS g hg) BW.out.size) ZU.out
      obtain ⟨b, hb⟩ : ∃ b, sok u = b := ⟨_, rfl⟩
      rw [hb] at CS NX BX
      clear hb
      go_wp2_with fail
      refine (CS.out).mono ?_
      rintro e w6 ⟨rfl, b6⟩
      have B6 : Hid (Below w.heap.size w w6) := chain BW.out b6
      have P6 : Hid (w6.heap[w.heap.size]? = some (.cells (srow s A2 c2) 44 (0, 0))) := (b6.block _ hz).trans PW.out
      clear b6
      cases b with
      | true =>
        go_wp2
        go_roundw
        case rel => exact ⟨k + 1, by omega, by go_num, B6.out, P6.out, NX.out (by simp)⟩
        case measure => simp [intOf]; omega
      | false =>
        have RF : Hid (fitP m old s = false) := by show _ = _; rw [R1.out, BX.out (by simp)]; rfl
        go_wp2
        go_ret
        exact ⟨by rw [RF.out]; rfl, B6.out⟩
    · obtain rfl : k = old.length := by omega
      obtain ⟨wE, hE⟩ : ∃ x, x = wr := ⟨_, rfl⟩
      subst hE
      have HA : Hid (old.all sok = true) := by show _ = _; have := HG.out.2.2; rwa [List.take_length] at this
      have R : Hid (fitP m old s = fitL m old s) := by show _ = _; rw [R1.out, HA.out]; rfl
      have BE := Seg.hid HG.out.1
      have PE := Seg.hid HG.out.2.1
      clear HG
      by_cases h8 : 8 ≤ m
      · obtain ⟨fr, hfr⟩ : ∃ n : Nat, n = 0 := ⟨_, rfl⟩
        have AK : Hid (asked m old = old.drop fr) := by show _ = _; rw [asked, if_neg (by omega), hfr]; rfl
        have FRL : Hid (fr ≤ old.length) := by show _ ≤ _; omega
        have HFR := Seg.hid hfr
        clear hfr
        go_wp2
        go_loopw [9] (fun i wr => ∃ k : Nat, fr ≤ k ∧ k ≤ old.length ∧ i = .int .i64 k ∧ Hid (Below w.heap.size w wr ∧ wr.heap[w.heap.size]? = some (.cells (srow s A2 c2) 44 (0, 0)) ∧ ∀ j, fr ≤ j → j < k → fit1 m s (old.getD j default) = true)) (fun i _ => old.length - (intOf i).toNat)
        case atStart => exact ⟨fr, Nat.le_refl _, FRL.out, by first | rfl | (rw [HFR.out]; rfl), BE.out, PE.out, fun j h1 h2 => absurd h2 (by omega)⟩
        case round =>
          obtain ⟨k, hfk, hk, rfl, HG⟩ := hrel
          by_cases hlt : k < old.length
          · obtain ⟨ea, hc, hgw⟩ := HO.out.addr.resolve_left (by omega)
            subst ea
            obtain ⟨A', c', hfl, d0, d1⟩ := sch_at HO.out hS HG.out.1 hlt
            have SU : Hid (sok (old.getD k default) = true) := all_at HA.out hlt
            have ZU : Hid (szSch (old.getD k default) ≤ 1048576) := szL_one szSch HZ.out hlt
            have h0 : (0 : Int) ≤ (k : Int) := by omega
            have h1 : (k : Int) < (old.length : Int) := by omega
            have HFL := Seg.hid hfl
            have BW := Seg.hid HG.out.1
            have PW := Seg.hid HG.out.2.1
            have hz : w.heap.size < wr.heap.size := (Array.getElem?_eq_some_iff.1 PW.out).1
            have gz : g < wr.heap.size := Nat.lt_of_lt_of_le hgw BW.out.size
            have GO : Hid (fit1 m s (old.getD k default) = true → ∀ j, fr ≤ j → j < k + 1 → fit1 m s (old.getD j default) = true) := fun h j h1 h2 => by
              rcases Nat.lt_or_ge j k with h' | h'
              · exact HG.out.2.2 j h1 h'
              · obtain rfl : j = k := by omega
                exact h
            have NO : Hid (fit1 m s (old.getD k default) = false → fitP m old s = false) := fun h => by rw [R.out, fitL, AK.out]; exact drop_bad hfk hlt h
            have FD : Hid (fit1 m s (old.getD k default) = ((!bk || crd s (old.getD k default)) && (!fo || crd (old.getD k default) s))) := by show _ = _; rw [fit1, HB.out, HF.out]
            have q0 : wr.cell? ⟨w.heap.size, 0, none⟩ = some (.string s.name) := cell_of_row wr _ 0 _ _ (0, 0) PW.out
            have q1 : wr.cell? ⟨w.heap.size, 1, none⟩ = some (.slice A2 s.fields.length c2) := cell_of_row wr _ 1 _ _ (0, 0) PW.out
            clear HG hfl
            generalize old.getD k default = u at *
            have CB : Hid (∀ wx, Below w.heap.size w wx → Calls Try.prog 31 #[.agg (srow s A2 c2), .agg (srow u A' c')] wx fun e w' => e = .returned (.bool (crd s u)) ∧ Below wx.heap.size wx w') := fun wx b => by
              have h := CrS.spec_any (.agg (srow s A2 c2)) (.agg (srow u A' c')) s u wx S (HY.out.below b hS) (HFL.out.keep (fun g hg => by rw [b.block g (hS g hg), BW.out.block g (hS g hg)])) (fun g hg => Nat.lt_of_lt_of_le (hS g hg) b.size) ZS.out ZU.out
              rw [canR, SS.out, SU.out] at h
              exact h
            have CF : Hid (∀ wx, Below w.heap.size w wx → Calls Try.prog 31 #[.agg (srow u A' c'), .agg (srow s A2 c2)] wx fun e w' => e = .returned (.bool (crd u s)) ∧ Below wx.heap.size wx w') := fun wx b => by
              have h := CrS.spec_any (.agg (srow u A' c')) (.agg (srow s A2 c2)) u s wx S (HFL.out.keep (fun g hg => by rw [b.block g (hS g hg), BW.out.block g (hS g hg)])) (HY.out.below b hS) (fun g hg => Nat.lt_of_lt_of_le (hS g hg) b.size) ZU.out ZS.out
              rw [canR, SS.out, SU.out] at h
              exact h
            obtain ⟨b1, e1⟩ : ∃ b, crd s u = b := ⟨_, rfl⟩
            obtain ⟨b2, e2⟩ : ∃ b, crd u s = b := ⟨_, rfl⟩
            rw [e1] at CB FD
            rw [e2] at CF FD
            clear e1 e2
            have GO2 : Hid (((!bk || b1) && (!fo || b2)) = true → ∀ j, fr ≤ j → j < k + 1 → fit1 m s (old.getD j default) = true) := fun h => GO.out (by rw [FD.out]; exact h)
            have NO2 : Hid (((!bk || b1) && (!fo || b2)) = false → fitP m old s = false) := fun h => NO.out (by rw [FD.out]; exact h)
            clear FD GO NO hlt hk hc
            go_upto_region 14 with fail
            refine wp_region_held_drew (S := (fun w' => w'.cell? ⟨w.heap.size, 0, none⟩ = some (.string s.name) ∧ w'.cell? ⟨w.heap.size, 1, none⟩ = some (.slice A2 s.fields.length c2) ∧ w'.cell? ⟨g, o + k * 2, none⟩ = some (.string u.name) ∧ w'.cell? ⟨g, o + k * 2 + 1, none⟩ = some (.slice A' u.fields.length c'))) (by kernel_rfl) ⟨q0, q1, d0, d1⟩ (fun hHeld => ?_)
            refine HdK.tke 0 (some 53) (.agg #[.string s.name, .slice A2 s.fields.length c2]) rfl rfl ?_
            try simp only [Act.put, List.setIfInBounds_toArray, List.set_cons_zero, List.set_cons_succ]
            refine HdK.tke 1 (some 54) (.slice (some ⟨g, o, none⟩) old.length c) rfl rfl ?_
            try simp only [Act.put, List.setIfInBounds_toArray, List.set_cons_zero, List.set_cons_succ]
            refine HdK.tke 2 (some 55) (.int .i64 (k : Int)) rfl rfl ?_
            try simp only [Act.put, List.setIfInBounds_toArray, List.set_cons_zero, List.set_cons_succ]
            refine HdK.tke 3 (some 56) (.pointer (some ⟨g, o + k * 2, none⟩)) rfl rfl ?_
            try simp only [Act.put, List.setIfInBounds_toArray, List.set_cons_zero, List.set_cons_succ]
            refine HdK.tke 4 (some 57) (.agg #[.string u.name, .slice A' u.fields.length c']) rfl rfl ?_
            try simp only [Act.put, List.setIfInBounds_toArray, List.set_cons_zero, List.set_cons_succ]
            refine HdK.tke 6 (some 59) (.slice (some ⟨g, o, none⟩) old.length c) rfl rfl ?_
            try simp only [Act.put, List.setIfInBounds_toArray, List.set_cons_zero, List.set_cons_succ]
            refine HdK.tke 7 (some 60) (.int .i64 (k : Int)) rfl rfl ?_
            try simp only [Act.put, List.setIfInBounds_toArray, List.set_cons_zero, List.set_cons_succ]
            refine HdK.tke 8 (some 61) (.pointer (some ⟨g, o + k * 2, none⟩)) rfl rfl ?_
            try simp only [Act.put, List.setIfInBounds_toArray, List.set_cons_zero, List.set_cons_succ]
            refine HdK.tke 9 (some 62) (.agg #[.string u.name, .slice A' u.fields.length c']) rfl rfl ?_
            try simp only [Act.put, List.setIfInBounds_toArray, List.set_cons_zero, List.set_cons_succ]
            refine HdK.tke 10 (some 63) (.agg #[.string s.name, .slice A2 s.fields.length c2]) rfl rfl ?_
            try simp only [Act.put, List.setIfInBounds_toArray, List.set_cons_zero, List.set_cons_succ]
            refine wpAnyH_ready (rs := [5]) (by kernel_rfl) (by simp) ?_
            refine AllReadyH.cons rfl (fun K hK => ?_) AllReadyH.nil
            (go_simp; go_at_call 31; refine (CB.out wr.drew BW.out.drew).mono ?_; rintro e w8 ⟨rfl, b8⟩; have N8 : Hid (Below wr.heap.size wr w8) := ⟨b8.os, b8.tape, b8.output, b8.size, b8.block⟩; clear b8; have r0 := (N8.out.cell (p := ⟨w.heap.size, 0, none⟩) hz).trans q0; have r1 := (N8.out.cell (p := ⟨w.heap.size, 1, none⟩) hz).trans q1; have r2 := (N8.out.cell (p := ⟨g, o + k * 2, none⟩) gz).trans d0; have r3 := (N8.out.cell (p := ⟨g, o + k * 2 + 1, none⟩) gz).trans d1; try (go_wp2_with fail))
            refine hK.out _ _ ⟨r0, r1, r2, r3⟩ (fun hHeld => ?_)
            clear hK K
            try simp only [Act.put, List.setIfInBounds_toArray, List.set_cons_zero, List.set_cons_succ]
            refine wpAnyH_ready (rs := [11]) (by kernel_rfl) (by simp) ?_
            refine AllReadyH.cons rfl (fun K hK => ?_) AllReadyH.nil
            (go_simp; go_at_call 31; refine (CF.out w8 (chain BW.out N8.out)).mono ?_; rintro e w9 ⟨rfl, b9⟩; have N9 := Seg.hid (chain N8.out b9); clear b9; have t0 := (N9.out.cell (p := ⟨w.heap.size, 0, none⟩) hz).trans q0; have t1 := (N9.out.cell (p := ⟨w.heap.size, 1, none⟩) hz).trans q1; have t2 := (N9.out.cell (p := ⟨g, o + k * 2, none⟩) gz).trans d0; have t3 := (N9.out.cell (p := ⟨g, o + k * 2 + 1, none⟩) gz).trans d1; try (go_wp2_with fail))
            refine hK.out _ _ ⟨t0, t1, t2, t3⟩ (fun hHeld => ?_)
            clear hK K
            try simp only [Act.put, List.setIfInBounds_toArray, List.set_cons_zero, List.set_cons_succ]
            refine HdK.tke 12 (some 10) (.bool b1) rfl rfl ?_
            try simp only [Act.put, List.setIfInBounds_toArray, List.set_cons_zero, List.set_cons_succ]
            refine HdK.tke 13 (some 11) (.bool b2) rfl rfl ?_
            try simp only [Act.put, List.setIfInBounds_toArray, List.set_cons_zero, List.set_cons_succ]
            refine wpAnyH_done (by kernel_rfl) ?_ _
            all_goals
              have BN := Seg.hid (chain BW.out N9.out)
              have PN : Hid (w9.heap[w.heap.size]? = some (.cells (srow s A2 c2) 44 (0, 0))) := (N9.out.block _ hz).trans PW.out
              clear q0 q1 d0 d1 r0 r1 r2 r3 t0 t1 t2 t3
              cases bk <;> cases fo <;> cases b1 <;> cases b2
              · have z1 : (m.tmod 8 == 1) = false := HE1.out
                have z2 : (m.tmod 8 == 2) = false := HE2.out
                have z4 : (m.tmod 8 == 4) = false := HE4.out
                have z5 : (m % 8 == 1) = false := HE5.out
                have z6 : (m % 8 == 2) = false := HE6.out
                have z7 : (m % 8 == 4) = false := HE7.out
                have GG := Seg.hid (GO2.out rfl)
                go_wp2
                go_roundw
                case rel => exact ⟨k + 1, by omega, by omega, by go_num, BN.out, PN.out, GG.out⟩
                case measure => simp [intOf]; omega
              · have z1 : (m.tmod 8 == 1) = false := HE1.out
                have z2 : (m.tmod 8 == 2) = false := HE2.out
                have z4 : (m.tmod 8 == 4) = false := HE4.out
                have z5 : (m % 8 == 1) = false := HE5.out
                have z6 : (m % 8 == 2) = false := HE6.out
                have z7 : (m % 8 == 4) = false := HE7.out
                have GG := Seg.hid (GO2.out rfl)
                go_wp2
                go_roundw
                case rel => exact ⟨k + 1, by omega, by omega, by go_num, BN.out, PN.out, GG.out⟩
                case measure => simp [intOf]; omega
              · have z1 : (m.tmod 8 == 1) = false := HE1.out
                have z2 : (m.tmod 8 == 2) = false := HE2.out
                have z4 : (m.tmod 8 == 4) = false := HE4.out
                have z5 : (m % 8 == 1) = false := HE5.out
                have z6 : (m % 8 == 2) = false := HE6.out
                have z7 : (m % 8 == 4) = false := HE7.out
                have GG := Seg.hid (GO2.out rfl)
                go_wp2
                go_roundw
                case rel => exact ⟨k + 1, by omega, by omega, by go_num, BN.out, PN.out, GG.out⟩
                case measure => simp [intOf]; omega
              · have z1 : (m.tmod 8 == 1) = false := HE1.out
                have z2 : (m.tmod 8 == 2) = false := HE2.out
                have z4 : (m.tmod 8 == 4) = false := HE4.out
                have z5 : (m % 8 == 1) = false := HE5.out
                have z6 : (m % 8 == 2) = false := HE6.out
                have z7 : (m % 8 == 4) = false := HE7.out
                have GG := Seg.hid (GO2.out rfl)
                go_wp2
                go_roundw
                case rel => exact ⟨k + 1, by omega, by omega, by go_num, BN.out, PN.out, GG.out⟩
                case measure => simp [intOf]; omega
              · have z1 : (m.tmod 8 == 1) = false := HE1.out
                have z2 : (m.tmod 8 == 2) = true := HE2.out
                have z4 : (m.tmod 8 == 4) = false := HE4.out
                have z5 : (m % 8 == 1) = false := HE5.out
                have z6 : (m % 8 == 2) = true := HE6.out
                have z7 : (m % 8 == 4) = false := HE7.out
                have GG := Seg.hid (NO2.out rfl)
                go_wp2
                go_ret
                exact ⟨by rw [GG.out]; rfl, BN.out⟩
              · have z1 : (m.tmod 8 == 1) = false := HE1.out
                have z2 : (m.tmod 8 == 2) = true := HE2.out
                have z4 : (m.tmod 8 == 4) = false := HE4.out
                have z5 : (m % 8 == 1) = false := HE5.out
                have z6 : (m % 8 == 2) = true := HE6.out
                have z7 : (m % 8 == 4) = false := HE7.out
                have GG := Seg.hid (GO2.out rfl)
                go_wp2
                go_roundw
                case rel => exact ⟨k + 1, by omega, by omega, by go_num, BN.out, PN.out, GG.out⟩
                case measure => simp [intOf]; omega
              · have z1 : (m.tmod 8 == 1) = false := HE1.out
                have z2 : (m.tmod 8 == 2) = true := HE2.out
                have z4 : (m.tmod 8 == 4) = false := HE4.out
                have z5 : (m % 8 == 1) = false := HE5.out
                have z6 : (m % 8 == 2) = true := HE6.out
                have z7 : (m % 8 == 4) = false := HE7.out
                have GG := Seg.hid (NO2.out rfl)
                go_wp2
                go_ret
                exact ⟨by rw [GG.out]; rfl, BN.out⟩
              · have z1 : (m.tmod 8 == 1) = false := HE1.out
                have z2 : (m.tmod 8 == 2) = true := HE2.out
                have z4 : (m.tmod 8 == 4) = false := HE4.out
                have z5 : (m % 8 == 1) = false := HE5.out
                have z6 : (m % 8 == 2) = true := HE6.out
                have z7 : (m % 8 == 4) = false := HE7.out
                have GG := Seg.hid (GO2.out rfl)
                go_wp2
                go_roundw
                case rel => exact ⟨k + 1, by omega, by omega, by go_num, BN.out, PN.out, GG.out⟩
                case measure => simp [intOf]; omega
              · have z1 : (m.tmod 8 == 1) = true := HE1.out
                have z2 : (m.tmod 8 == 2) = false := HE2.out
                have z4 : (m.tmod 8 == 4) = false := HE4.out
                have z5 : (m % 8 == 1) = true := HE5.out
                have z6 : (m % 8 == 2) = false := HE6.out
                have z7 : (m % 8 == 4) = false := HE7.out
                have GG := Seg.hid (NO2.out rfl)
                go_wp2
                go_ret
                exact ⟨by rw [GG.out]; rfl, BN.out⟩
              · have z1 : (m.tmod 8 == 1) = true := HE1.out
                have z2 : (m.tmod 8 == 2) = false := HE2.out
                have z4 : (m.tmod 8 == 4) = false := HE4.out
                have z5 : (m % 8 == 1) = true := HE5.out
                have z6 : (m % 8 == 2) = false := HE6.out
                have z7 : (m % 8 == 4) = false := HE7.out
                have GG := Seg.hid (NO2.out rfl)
                go_wp2
                go_ret
                exact ⟨by rw [GG.out]; rfl, BN.out⟩
              · have z1 : (m.tmod 8 == 1) = true := HE1.out
                have z2 : (m.tmod 8 == 2) = false := HE2.out
                have z4 : (m.tmod 8 == 4) = false := HE4.out
                have z5 : (m % 8 == 1) = true := HE5.out
                have z6 : (m % 8 == 2) = false := HE6.out
                have z7 : (m % 8 == 4) = false := HE7.out
                have GG := Seg.hid (GO2.out rfl)
                go_wp2
                go_roundw
                case rel => exact ⟨k + 1, by omega, by omega, by go_num, BN.out, PN.out, GG.out⟩
                case measure => simp [intOf]; omega
              · have z1 : (m.tmod 8 == 1) = true := HE1.out
                have z2 : (m.tmod 8 == 2) = false := HE2.out
                have z4 : (m.tmod 8 == 4) = false := HE4.out
                have z5 : (m % 8 == 1) = true := HE5.out
                have z6 : (m % 8 == 2) = false := HE6.out
                have z7 : (m % 8 == 4) = false := HE7.out
                have GG := Seg.hid (GO2.out rfl)
                go_wp2
                go_roundw
                case rel => exact ⟨k + 1, by omega, by omega, by go_num, BN.out, PN.out, GG.out⟩
                case measure => simp [intOf]; omega
              · have z1 : (m.tmod 8 == 1) = false := HE1.out
                have z2 : (m.tmod 8 == 2) = false := HE2.out
                have z4 : (m.tmod 8 == 4) = true := HE4.out
                have z5 : (m % 8 == 1) = false := HE5.out
                have z6 : (m % 8 == 2) = false := HE6.out
                have z7 : (m % 8 == 4) = true := HE7.out
                have GG := Seg.hid (NO2.out rfl)
                go_wp2
                go_ret
                exact ⟨by rw [GG.out]; rfl, BN.out⟩
              · have z1 : (m.tmod 8 == 1) = false := HE1.out
                have z2 : (m.tmod 8 == 2) = false := HE2.out
                have z4 : (m.tmod 8 == 4) = true := HE4.out
                have z5 : (m % 8 == 1) = false := HE5.out
                have z6 : (m % 8 == 2) = false := HE6.out
                have z7 : (m % 8 == 4) = true := HE7.out
                have GG := Seg.hid (NO2.out rfl)
                go_wp2
                go_ret
                exact ⟨by rw [GG.out]; rfl, BN.out⟩
              · have z1 : (m.tmod 8 == 1) = false := HE1.out
                have z2 : (m.tmod 8 == 2) = false := HE2.out
                have z4 : (m.tmod 8 == 4) = true := HE4.out
                have z5 : (m % 8 == 1) = false := HE5.out
                have z6 : (m % 8 == 2) = false := HE6.out
                have z7 : (m % 8 == 4) = true := HE7.out
                have GG := Seg.hid (NO2.out rfl)
                go_wp2
                go_ret
                exact ⟨by rw [GG.out]; rfl, BN.out⟩
              · have z1 : (m.tmod 8 == 1) = false := HE1.out
                have z2 : (m.tmod 8 == 2) = false := HE2.out
                have z4 : (m.tmod 8 == 4) = true := HE4.out
                have z5 : (m % 8 == 1) = false := HE5.out
                have z6 : (m % 8 == 2) = false := HE6.out
                have z7 : (m % 8 == 4) = true := HE7.out
                have GG := Seg.hid (GO2.out rfl)
                go_wp2
                go_roundw
                case rel => exact ⟨k + 1, by omega, by omega, by go_num, BN.out, PN.out, GG.out⟩
                case measure => simp [intOf]; omega
          · obtain rfl : k = old.length := by omega
            have RF : Hid (fitP m old s = true) := by show _ = _; rw [R.out, fitL, AK.out]; exact drop_all (fun j h1 h2 => HG.out.2.2 j h1 h2)
            go_wp2
            go_ret
            exact ⟨by rw [RF.out]; rfl, HG.out.1⟩
      · by_cases hz : old.length = 0
        · obtain ⟨fr, hfr⟩ : ∃ n : Nat, n = 0 := ⟨_, rfl⟩
          have AK : Hid (asked m old = old.drop fr) := by show _ = _; rw [asked, if_pos (by omega), hz, hfr]
          have FRL : Hid (fr ≤ old.length) := by show _ ≤ _; omega
          have hq : (old.length : Int) - 1 < 0 := by omega
          have RF : Hid (fitP m old s = true) := by show _ = _; rw [R.out, fitL, AK.out, List.length_eq_zero_iff.1 hz]; simp
          clear hfr
          go_wp2
          go_loop [9] (fun i => i = .int .i64 0) (fun _ => 0)
          case atStart => rfl
          case round =>
            subst hrel
            go_wp2
            go_ret
            exact ⟨by rw [RF.out]; rfl, BE.out⟩
        · obtain ⟨fr, hfr⟩ : ∃ n : Nat, n = old.length - 1 := ⟨_, rfl⟩
          have AK : Hid (asked m old = old.drop fr) := by show _ = _; rw [asked, if_pos (by omega), hfr]
          have FRL : Hid (fr ≤ old.length) := by show _ ≤ _; omega
          have hq : (old.length : Int) - 1 = (fr : Int) := by omega
          have hq2 : ¬ (fr : Int) < 0 := by omega
          have HFR := Seg.hid hfr
          clear hfr
          go_wp2
          go_loopw [9] (fun i wr => ∃ k : Nat, fr ≤ k ∧ k ≤ old.length ∧ i = .int .i64 k ∧ Hid (Below w.heap.size w wr ∧ wr.heap[w.heap.size]? = some (.cells (srow s A2 c2) 44 (0, 0)) ∧ ∀ j, fr ≤ j → j < k → fit1 m s (old.getD j default) = true)) (fun i _ => old.length - (intOf i).toNat)
          case atStart => exact ⟨fr, Nat.le_refl _, FRL.out, by first | rfl | (rw [HFR.out]; rfl), BE.out, PE.out, fun j h1 h2 => absurd h2 (by omega)⟩
          case round =>
            obtain ⟨k, hfk, hk, rfl, HG⟩ := hrel
            by_cases hlt : k < old.length
            · obtain ⟨ea, hc, hgw⟩ := HO.out.addr.resolve_left (by omega)
              subst ea
              obtain ⟨A', c', hfl, d0, d1⟩ := sch_at HO.out hS HG.out.1 hlt
              have SU : Hid (sok (old.getD k default) = true) := all_at HA.out hlt
              have ZU : Hid (szSch (old.getD k default) ≤ 1048576) := szL_one szSch HZ.out hlt
              have h0 : (0 : Int) ≤ (k : Int) := by omega
              have h1 : (k : Int) < (old.length : Int) := by omega
              have HFL := Seg.hid hfl
              have BW := Seg.hid HG.out.1
              have PW := Seg.hid HG.out.2.1
              have hz : w.heap.size < wr.heap.size := (Array.getElem?_eq_some_iff.1 PW.out).1
              have gz : g < wr.heap.size := Nat.lt_of_lt_of_le hgw BW.out.size
              have GO : Hid (fit1 m s (old.getD k default) = true → ∀ j, fr ≤ j → j < k + 1 → fit1 m s (old.getD j default) = true) := fun h j h1 h2 => by
                rcases Nat.lt_or_ge j k with h' | h'
                · exact HG.out.2.2 j h1 h'
                · obtain rfl : j = k := by omega
                  exact h
              have NO : Hid (fit1 m s (old.getD k default) = false → fitP m old s = false) := fun h => by rw [R.out, fitL, AK.out]; exact drop_bad hfk hlt h
              have FD : Hid (fit1 m s (old.getD k default) = ((!bk || crd s (old.getD k default)) && (!fo || crd (old.getD k default) s))) := by show _ = _; rw [fit1, HB.out, HF.out]
              have q0 : wr.cell? ⟨w.heap.size, 0, none⟩ = some (.string s.name) := cell_of_row wr _ 0 _ _ (0, 0) PW.out
              have q1 : wr.cell? ⟨w.heap.size, 1, none⟩ = some (.slice A2 s.fields.length c2) := cell_of_row wr _ 1 _ _ (0, 0) PW.out
              clear HG hfl
              generalize old.getD k default = u at *
              have CB : Hid (∀ wx, Below w.heap.size w wx → Calls Try.prog 31 #[.agg (srow s A2 c2), .agg (srow u A' c')] wx fun e w' => e = .returned (.bool (crd s u)) ∧ Below wx.heap.size wx w') := fun wx b => by
                have h := CrS.spec_any (.agg (srow s A2 c2)) (.agg (srow u A' c')) s u wx S (HY.out.below b hS) (HFL.out.keep (fun g hg => by rw [b.block g (hS g hg), BW.out.block g (hS g hg)])) (fun g hg => Nat.lt_of_lt_of_le (hS g hg) b.size) ZS.out ZU.out
                rw [canR, SS.out, SU.out] at h
                exact h
              have CF : Hid (∀ wx, Below w.heap.size w wx → Calls Try.prog 31 #[.agg (srow u A' c'), .agg (srow s A2 c2)] wx fun e w' => e = .returned (.bool (crd u s)) ∧ Below wx.heap.size wx w') := fun wx b => by
                have h := CrS.spec_any (.agg (srow u A' c')) (.agg (srow s A2 c2)) u s wx S (HFL.out.keep (fun g hg => by rw [b.block g (hS g hg), BW.out.block g (hS g hg)])) (HY.out.below b hS) (fun g hg => Nat.lt_of_lt_of_le (hS g hg) b.size) ZU.out ZS.out
                rw [canR, SS.out, SU.out] at h
                exact h
              obtain ⟨b1, e1⟩ : ∃ b, crd s u = b := ⟨_, rfl⟩
              obtain ⟨b2, e2⟩ : ∃ b, crd u s = b := ⟨_, rfl⟩
              rw [e1] at CB FD
              rw [e2] at CF FD
              clear e1 e2
              have GO2 : Hid (((!bk || b1) && (!fo || b2)) = true → ∀ j, fr ≤ j → j < k + 1 → fit1 m s (old.getD j default) = true) := fun h => GO.out (by rw [FD.out]; exact h)
              have NO2 : Hid (((!bk || b1) && (!fo || b2)) = false → fitP m old s = false) := fun h => NO.out (by rw [FD.out]; exact h)
              clear FD GO NO hlt hk hc
              go_upto_region 14 with fail
              refine wp_region_held_drew (S := (fun w' => w'.cell? ⟨w.heap.size, 0, none⟩ = some (.string s.name) ∧ w'.cell? ⟨w.heap.size, 1, none⟩ = some (.slice A2 s.fields.length c2) ∧ w'.cell? ⟨g, o + k * 2, none⟩ = some (.string u.name) ∧ w'.cell? ⟨g, o + k * 2 + 1, none⟩ = some (.slice A' u.fields.length c'))) (by kernel_rfl) ⟨q0, q1, d0, d1⟩ (fun hHeld => ?_)
              refine HdK.tke 0 (some 53) (.agg #[.string s.name, .slice A2 s.fields.length c2]) rfl rfl ?_
              try simp only [Act.put, List.setIfInBounds_toArray, List.set_cons_zero, List.set_cons_succ]
              refine HdK.tke 1 (some 54) (.slice (some ⟨g, o, none⟩) old.length c) rfl rfl ?_
              try simp only [Act.put, List.setIfInBounds_toArray, List.set_cons_zero, List.set_cons_succ]
              refine HdK.tke 2 (some 55) (.int .i64 (k : Int)) rfl rfl ?_
              try simp only [Act.put, List.setIfInBounds_toArray, List.set_cons_zero, List.set_cons_succ]
              refine HdK.tke 3 (some 56) (.pointer (some ⟨g, o + k * 2, none⟩)) rfl rfl ?_
              try simp only [Act.put, List.setIfInBounds_toArray, List.set_cons_zero, List.set_cons_succ]
              refine HdK.tke 4 (some 57) (.agg #[.string u.name, .slice A' u.fields.length c']) rfl rfl ?_
              try simp only [Act.put, List.setIfInBounds_toArray, List.set_cons_zero, List.set_cons_succ]
              refine HdK.tke 6 (some 59) (.slice (some ⟨g, o, none⟩) old.length c) rfl rfl ?_
              try simp only [Act.put, List.setIfInBounds_toArray, List.set_cons_zero, List.set_cons_succ]
              refine HdK.tke 7 (some 60) (.int .i64 (k : Int)) rfl rfl ?_
              try simp only [Act.put, List.setIfInBounds_toArray, List.set_cons_zero, List.set_cons_succ]
              refine HdK.tke 8 (some 61) (.pointer (some ⟨g, o + k * 2, none⟩)) rfl rfl ?_
              try simp only [Act.put, List.setIfInBounds_toArray, List.set_cons_zero, List.set_cons_succ]
              refine HdK.tke 9 (some 62) (.agg #[.string u.name, .slice A' u.fields.length c']) rfl rfl ?_
              try simp only [Act.put, List.setIfInBounds_toArray, List.set_cons_zero, List.set_cons_succ]
              refine HdK.tke 10 (some 63) (.agg #[.string s.name, .slice A2 s.fields.length c2]) rfl rfl ?_
              try simp only [Act.put, List.setIfInBounds_toArray, List.set_cons_zero, List.set_cons_succ]
              refine wpAnyH_ready (rs := [5]) (by kernel_rfl) (by simp) ?_
              refine AllReadyH.cons rfl (fun K hK => ?_) AllReadyH.nil
              (go_simp; go_at_call 31; refine (CB.out wr.drew BW.out.drew).mono ?_; rintro e w8 ⟨rfl, b8⟩; have N8 : Hid (Below wr.heap.size wr w8) := ⟨b8.os, b8.tape, b8.output, b8.size, b8.block⟩; clear b8; have r0 := (N8.out.cell (p := ⟨w.heap.size, 0, none⟩) hz).trans q0; have r1 := (N8.out.cell (p := ⟨w.heap.size, 1, none⟩) hz).trans q1; have r2 := (N8.out.cell (p := ⟨g, o + k * 2, none⟩) gz).trans d0; have r3 := (N8.out.cell (p := ⟨g, o + k * 2 + 1, none⟩) gz).trans d1; try (go_wp2_with fail))
              refine hK.out _ _ ⟨r0, r1, r2, r3⟩ (fun hHeld => ?_)
              clear hK K
              try simp only [Act.put, List.setIfInBounds_toArray, List.set_cons_zero, List.set_cons_succ]
              refine wpAnyH_ready (rs := [11]) (by kernel_rfl) (by simp) ?_
              refine AllReadyH.cons rfl (fun K hK => ?_) AllReadyH.nil
              (go_simp; go_at_call 31; refine (CF.out w8 (chain BW.out N8.out)).mono ?_; rintro e w9 ⟨rfl, b9⟩; have N9 := Seg.hid (chain N8.out b9); clear b9; have t0 := (N9.out.cell (p := ⟨w.heap.size, 0, none⟩) hz).trans q0; have t1 := (N9.out.cell (p := ⟨w.heap.size, 1, none⟩) hz).trans q1; have t2 := (N9.out.cell (p := ⟨g, o + k * 2, none⟩) gz).trans d0; have t3 := (N9.out.cell (p := ⟨g, o + k * 2 + 1, none⟩) gz).trans d1; try (go_wp2_with fail))
              refine hK.out _ _ ⟨t0, t1, t2, t3⟩ (fun hHeld => ?_)
              clear hK K
              try simp only [Act.put, List.setIfInBounds_toArray, List.set_cons_zero, List.set_cons_succ]
              refine HdK.tke 12 (some 10) (.bool b1) rfl rfl ?_
              try simp only [Act.put, List.setIfInBounds_toArray, List.set_cons_zero, List.set_cons_succ]
              refine HdK.tke 13 (some 11) (.bool b2) rfl rfl ?_
              try simp only [Act.put, List.setIfInBounds_toArray, List.set_cons_zero, List.set_cons_succ]
              refine wpAnyH_done (by kernel_rfl) ?_ _
              all_goals
                have BN := Seg.hid (chain BW.out N9.out)
                have PN : Hid (w9.heap[w.heap.size]? = some (.cells (srow s A2 c2) 44 (0, 0))) := (N9.out.block _ hz).trans PW.out
                clear q0 q1 d0 d1 r0 r1 r2 r3 t0 t1 t2 t3
                cases bk <;> cases fo <;> cases b1 <;> cases b2
                · have z1 : (m.tmod 8 == 1) = false := HE1.out
                  have z2 : (m.tmod 8 == 2) = false := HE2.out
                  have z4 : (m.tmod 8 == 4) = false := HE4.out
                  have z5 : (m % 8 == 1) = false := HE5.out
                  have z6 : (m % 8 == 2) = false := HE6.out
                  have z7 : (m % 8 == 4) = false := HE7.out
                  have GG := Seg.hid (GO2.out rfl)
                  go_wp2
                  go_roundw
                  case rel => exact ⟨k + 1, by omega, by omega, by go_num, BN.out, PN.out, GG.out⟩
                  case measure => simp [intOf]; omega
                · have z1 : (m.tmod 8 == 1) = false := HE1.out
                  have z2 : (m.tmod 8 == 2) = false := HE2.out
                  have z4 : (m.tmod 8 == 4) = false := HE4.out
                  have z5 : (m % 8 == 1) = false := HE5.out
                  have z6 : (m % 8 == 2) = false := HE6.out
                  have z7 : (m % 8 == 4) = false := HE7.out
                  have GG := Seg.hid (GO2.out rfl)
                  go_wp2
                  go_roundw
                  case rel => exact ⟨k + 1, by omega, by omega, by go_num, BN.out, PN.out, GG.out⟩
                  case measure => simp [intOf]; omega
                · have z1 : (m.tmod 8 == 1) = false := HE1.out
                  have z2 : (m.tmod 8 == 2) = false := HE2.out
                  have z4 : (m.tmod 8 == 4) = false := HE4.out
                  have z5 : (m % 8 == 1) = false := HE5.out
                  have z6 : (m % 8 == 2) = false := HE6.out
                  have z7 : (m % 8 == 4) = false := HE7.out
                  have GG := Seg.hid (GO2.out rfl)
                  go_wp2
                  go_roundw
                  case rel => exact ⟨k + 1, by omega, by omega, by go_num, BN.out, PN.out, GG.out⟩
                  case measure => simp [intOf]; omega
                · have z1 : (m.tmod 8 == 1) = false := HE1.out
                  have z2 : (m.tmod 8 == 2) = false := HE2.out
                  have z4 : (m.tmod 8 == 4) = false := HE4.out
                  have z5 : (m % 8 == 1) = false := HE5.out
                  have z6 : (m % 8 == 2) = false := HE6.out
                  have z7 : (m % 8 == 4) = false := HE7.out
                  have GG := Seg.hid (GO2.out rfl)
                  go_wp2
                  go_roundw
                  case rel => exact ⟨k + 1, by omega, by omega, by go_num, BN.out, PN.out, GG.out⟩
                  case measure => simp [intOf]; omega
                · have z1 : (m.tmod 8 == 1) = false := HE1.out
                  have z2 : (m.tmod 8 == 2) = true := HE2.out
                  have z4 : (m.tmod 8 == 4) = false := HE4.out
                  have z5 : (m % 8 == 1) = false := HE5.out
                  have z6 : (m % 8 == 2) = true := HE6.out
                  have z7 : (m % 8 == 4) = false := HE7.out
                  have GG := Seg.hid (NO2.out rfl)
                  go_wp2
                  go_ret
                  exact ⟨by rw [GG.out]; rfl, BN.out⟩
                · have z1 : (m.tmod 8 == 1) = false := HE1.out
                  have z2 : (m.tmod 8 == 2) = true := HE2.out
                  have z4 : (m.tmod 8 == 4) = false := HE4.out
                  have z5 : (m % 8 == 1) = false := HE5.out
                  have z6 : (m % 8 == 2) = true := HE6.out
                  have z7 : (m % 8 == 4) = false := HE7.out
                  have GG := Seg.hid (GO2.out rfl)
                  go_wp2
                  go_roundw
                  case rel => exact ⟨k + 1, by omega, by omega, by go_num, BN.out, PN.out, GG.out⟩
                  case measure => simp [intOf]; omega
                · have z1 : (m.tmod 8 == 1) = false := HE1.out
                  have z2 : (m.tmod 8 == 2) = true := HE2.out
                  have z4 : (m.tmod 8 == 4) = false := HE4.out
                  have z5 : (m % 8 == 1) = false := HE5.out
                  have z6 : (m % 8 == 2) = true := HE6.out
                  have z7 : (m % 8 == 4) = false := HE7.out
                  have GG := Seg.hid (NO2.out rfl)
                  go_wp2
                  go_ret
                  exact ⟨by rw [GG.out]; rfl, BN.out⟩
                · have z1 : (m.tmod 8 == 1) = false := HE1.out
                  have z2 : (m.tmod 8 == 2) = true := HE2.out
                  have z4 : (m.tmod 8 == 4) = false := HE4.out
                  have z5 : (m % 8 == 1) = false := HE5.out
                  have z6 : (m % 8 == 2) = true := HE6.out
                  have z7 : (m % 8 == 4) = false := HE7.out
                  have GG := Seg.hid (GO2.out rfl)
                  go_wp2
                  go_roundw
                  case rel => exact ⟨k + 1, by omega, by omega, by go_num, BN.out, PN.out, GG.out⟩
                  case measure => simp [intOf]; omega
                · have z1 : (m.tmod 8 == 1) = true := HE1.out
                  have z2 : (m.tmod 8 == 2) = false := HE2.out
                  have z4 : (m.tmod 8 == 4) = false := HE4.out
                  have z5 : (m % 8 == 1) = true := HE5.out
                  have z6 : (m % 8 == 2) = false := HE6.out
                  have z7 : (m % 8 == 4) = false := HE7.out
                  have GG := Seg.hid (NO2.out rfl)
                  go_wp2
                  go_ret
                  exact ⟨by rw [GG.out]; rfl, BN.out⟩
                · have z1 : (m.tmod 8 == 1) = true := HE1.out
                  have z2 : (m.tmod 8 == 2) = false := HE2.out
                  have z4 : (m.tmod 8 == 4) = false := HE4.out
                  have z5 : (m % 8 == 1) = true := HE5.out
                  have z6 : (m % 8 == 2) = false := HE6.out
                  have z7 : (m % 8 == 4) = false := HE7.out
                  have GG := Seg.hid (NO2.out rfl)
                  go_wp2
                  go_ret
                  exact ⟨by rw [GG.out]; rfl, BN.out⟩
                · have z1 : (m.tmod 8 == 1) = true := HE1.out
                  have z2 : (m.tmod 8 == 2) = false := HE2.out
                  have z4 : (m.tmod 8 == 4) = false := HE4.out
                  have z5 : (m % 8 == 1) = true := HE5.out
                  have z6 : (m % 8 == 2) = false := HE6.out
                  have z7 : (m % 8 == 4) = false := HE7.out
                  have GG := Seg.hid (GO2.out rfl)
                  go_wp2
                  go_roundw
                  case rel => exact ⟨k + 1, by omega, by omega, by go_num, BN.out, PN.out, GG.out⟩
                  case measure => simp [intOf]; omega
                · have z1 : (m.tmod 8 == 1) = true := HE1.out
                  have z2 : (m.tmod 8 == 2) = false := HE2.out
                  have z4 : (m.tmod 8 == 4) = false := HE4.out
                  have z5 : (m % 8 == 1) = true := HE5.out
                  have z6 : (m % 8 == 2) = false := HE6.out
                  have z7 : (m % 8 == 4) = false := HE7.out
                  have GG := Seg.hid (GO2.out rfl)
                  go_wp2
                  go_roundw
                  case rel => exact ⟨k + 1, by omega, by omega, by go_num, BN.out, PN.out, GG.out⟩
                  case measure => simp [intOf]; omega
                · have z1 : (m.tmod 8 == 1) = false := HE1.out
                  have z2 : (m.tmod 8 == 2) = false := HE2.out
                  have z4 : (m.tmod 8 == 4) = true := HE4.out
                  have z5 : (m % 8 == 1) = false := HE5.out
                  have z6 : (m % 8 == 2) = false := HE6.out
                  have z7 : (m % 8 == 4) = true := HE7.out
                  have GG := Seg.hid (NO2.out rfl)
                  go_wp2
                  go_ret
                  exact ⟨by rw [GG.out]; rfl, BN.out⟩
                · have z1 : (m.tmod 8 == 1) = false := HE1.out
                  have z2 : (m.tmod 8 == 2) = false := HE2.out
                  have z4 : (m.tmod 8 == 4) = true := HE4.out
                  have z5 : (m % 8 == 1) = false := HE5.out
                  have z6 : (m % 8 == 2) = false := HE6.out
                  have z7 : (m % 8 == 4) = true := HE7.out
                  have GG := Seg.hid (NO2.out rfl)
                  go_wp2
                  go_ret
                  exact ⟨by rw [GG.out]; rfl, BN.out⟩
                · have z1 : (m.tmod 8 == 1) = false := HE1.out
                  have z2 : (m.tmod 8 == 2) = false := HE2.out
                  have z4 : (m.tmod 8 == 4) = true := HE4.out
                  have z5 : (m % 8 == 1) = false := HE5.out
                  have z6 : (m % 8 == 2) = false := HE6.out
                  have z7 : (m % 8 == 4) = true := HE7.out
                  have GG := Seg.hid (NO2.out rfl)
                  go_wp2
                  go_ret
                  exact ⟨by rw [GG.out]; rfl, BN.out⟩
                · have z1 : (m.tmod 8 == 1) = false := HE1.out
                  have z2 : (m.tmod 8 == 2) = false := HE2.out
                  have z4 : (m.tmod 8 == 4) = true := HE4.out
                  have z5 : (m % 8 == 1) = false := HE5.out
                  have z6 : (m % 8 == 2) = false := HE6.out
                  have z7 : (m % 8 == 4) = true := HE7.out
                  have GG := Seg.hid (GO2.out rfl)
                  go_wp2
                  go_roundw
                  case rel => exact ⟨k + 1, by omega, by omega, by go_num, BN.out, PN.out, GG.out⟩
                  case measure => simp [intOf]; omega
            · obtain rfl : k = old.length := by omega
              have RF : Hid (fitP m old s = true) := by show _ = _; rw [R.out, fitL, AK.out]; exact drop_all (fun j h1 h2 => HG.out.2.2 j h1 h2)
              go_wp2
              go_ret
              exact ⟨by rw [RF.out]; rfl, HG.out.1⟩
end Go.Proofs.Ythohpaljkbnkeaa.FtM
