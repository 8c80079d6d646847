/- Lists of Get: what the law's helpers answer; Lists of Get of the call's own; the law's marks on them. -/
import Derived.Test.YtkibaimemomjpaaJE36
namespace Go.Proofs.Ytkibaimemomjpaa.Ls
set_option maxRecDepth 8000
open Go.RowKit
open Recs
set_option linter.unusedVariables false
theorem szGetS_none (A : Option Addr) (c : Nat) (l : Int) (w : World) (h3 : -1 ≤ l) (h4 : l ≤ 1048576) :
    Calls Try.prog 32 #[.slice A 0 c, .int .i64 l] w fun e w' => ∃ q, e = .returned (.int .i64 q) ∧ -1 ≤ q ∧ q ≤ l ∧ Lf l 0 q ∧ Below w.heap.size w w' := by
  go_enter Try.func32, Try.ntmps32
  by_cases hlt : l < 0
  · go_wp2
    go_ret
    exact ⟨_, rfl, by omega, by omega, ⟨fun _ => by omega, fun _ => by omega⟩, Below.refl _ _⟩
  go_wp2
  go_loop [1, 5] (fun x i => i = .int .i64 0 ∧ x = .int .i64 l) (fun _ _ => 0)
  case atStart => exact ⟨rfl, by go_num⟩
  case round =>
    obtain ⟨rfl, rfl⟩ := hrel
    go_wp2
    go_ret
    exact ⟨_, rfl, by omega, by omega, ⟨fun _ => by omega, fun _ => by omega⟩, Below.refl _ _⟩

set_option maxHeartbeats 800000 in
theorem szGetS_core (g o n c : Nat) (us : List Gqt) (F : Nat → Nat → Value) (l : Int) (w : World) (S : Nat → Prop) (h3 : -1 ≤ l) (h4 : l ≤ 1048576) (hn : n ≤ 9223372036854775807) (hc : n ≤ c) (hg : g < w.heap.size) (hS : ∀ g, S g → g < w.heap.size) (hnl : us.length = n)
    (hf : ∀ i, i < n → FineGqt (us.getD i default)) (he : ∀ i, i < n → EGqt w S (F i) (us.getD i default))
    (ha : ∀ i, i < n → ∀ j, j < 3 → w.cell? ⟨g, o + i * 3 + j, none⟩ = some (F i j)) :
    Calls Try.prog 32 #[.slice (some ⟨g, o, none⟩) n c, .int .i64 l] w fun e w' => ∃ q, e = .returned (.int .i64 q) ∧ -1 ≤ q ∧ q ≤ l ∧ Lf l (szL szGqt us) q ∧ Below w.heap.size w w' := by
  have HA := Seg.hid ha
  have HK := Seg.hid hf
  have HH := Seg.hid he
  have HN := Seg.hid hnl
  clear ha hf he hnl
  go_enter Try.func32, Try.ntmps32
  by_cases hlt : l - (n : Int) < 0
  · go_wp2
    go_ret
    exact ⟨_, rfl, by omega, by omega, ⟨fun h => absurd h (by omega), fun _ => by unfold szL; rw [HN.out]; omega⟩, Below.refl _ _⟩
  go_wp2
  go_loopw [1, 5] (fun x i wr => ∃ (k : Nat) (r : Int), k ≤ n ∧ x = .int .i64 r ∧ i = .int .i64 k ∧ 0 ≤ r ∧ r ≤ l ∧ Hid (Below w.heap.size w wr ∧ r = l - n - tot szGqt (us.take k))) (fun _ i _ => n - (intOf i).toNat)
  case atStart => exact ⟨0, l - n, Nat.zero_le _, rfl, rfl, by omega, by omega, Below.refl _ _, by simp [tot]⟩
  case round =>
    obtain ⟨k, r, hk, rfl, rfl, hr0, hr1, HB⟩ := hrel
    by_cases hlt2 : k < n
    · have CL := cells_later HA.out HB.out.1 hg
      have c0 : wr.cell? ⟨g, o + k * 3, none⟩ = some (F k 0) := CL k ‹k < n› 0 (by omega)
      have c1 : wr.cell? ⟨g, o + k * 3 + 1, none⟩ = some (F k 1) := CL k ‹k < n› 1 (by omega)
      have c2 : wr.cell? ⟨g, o + k * 3 + 2, none⟩ = some (F k 2) := CL k ‹k < n› 2 (by omega)
      clear CL
      have RA : Hid (GqtAt wr S (.agg (arrGqt (F k))) (us.getD k default)) := ⟨_, rfl, keepsGqt _ _ _ _ _ _ (HH.out k hlt2) (fun g hg => HB.out.1.block g (hS g hg)) (fun _ _ => rfl)⟩
      have h0 : (0 : Int) ≤ (k : Int) := by omega
      have h1 : (k : Int) < (n : Int) := by omega
      have hbr : Hid (∀ g, S g → g < wr.heap.size) := fun g hg => Nat.lt_of_lt_of_le (hS g hg) HB.out.1.size
      have TK := Seg.hid (tot_take szGqt (ts := us) (j := k) (by rw [HN.out]; exact hlt2))
      have TL := Seg.hid (tot_le szGqt us (k + 1))
      have FK := Seg.hid (HK.out k hlt2)
      generalize us.getD k default = uk at *
      go_wp2_with fail
      refine (szGet_any _ uk r wr S (by omega) (by omega) RA.out hbr.out FK.out).mono ?_
      rintro e w1 ⟨r1, rfl, hr2, hr3, hlf, b1⟩
      have B1 := Seg.hid (chain HB.out.1 b1)
      have FW := Seg.hid hlf
      clear b1 hlf
      by_cases hneg : r1 < 0
      · go_wp2
        go_ret
        refine ⟨-1, rfl, by omega, by omega, ⟨fun h => absurd h (by omega), fun _ => ?_⟩, B1.out⟩
        have m1 := FW.out.2 hneg; have m2 := HB.out.2; have m3 := TK.out; have m4 := TL.out
        unfold szL; rw [HN.out]; omega
      · go_wp2
        go_roundw
        case rel =>
          refine ⟨k + 1, r1, by omega, rfl, by go_num, by omega, by omega, B1.out, ?_⟩
          have m1 := FW.out.1 (by omega); have m2 := HB.out.2; have m3 := TK.out
          omega
        case measure => simp [intOf]; omega
    · have : k = n := by omega
      subst this
      go_wp2
      go_ret
      refine ⟨r, rfl, by omega, by omega, ⟨fun _ => ?_, fun h => absurd h (by omega)⟩, HB.out.1⟩
      have m2 := HB.out.2
      rw [← HN.out, List.take_length, HN.out] at m2
      unfold szL; rw [HN.out]; omega
theorem szGetS_any (v : Value) (us : List Gqt) (l : Int) (w : World) (S : Nat → Prop) (h3 : -1 ≤ l) (h4 : l ≤ 1048576) (hv : LAt 3 EGqt w S v us) (hS : ∀ g, S g → g < w.heap.size) (hf : FineL FineGqt us) :
    Calls Try.prog 32 #[v, .int .i64 l] w fun e w' => ∃ q, e = .returned (.int .i64 q) ∧ -1 ≤ q ∧ q ≤ l ∧ Lf l (szL szGqt us) q ∧ Below w.heap.size w w' := by
  obtain ⟨hn, A, c, rfl, h⟩ := hv
  by_cases hz : us.length = 0
  · obtain rfl := List.length_eq_zero_iff.1 hz
    exact szGetS_none A c l w h3 h4
  obtain ⟨g, o, F, rfl, hg, hc, hcell, hel⟩ := h.resolve_left hz
  exact szGetS_core g o us.length c us F l w S h3 h4 hn hc (hS g hg) hS rfl hf.2 hel hcell
set_option maxHeartbeats 400000 in
theorem toGetS_none (A : Option Addr) (c : Nat) (w : World) :
    Calls Try.prog 37 #[.slice A 0 c] w fun e w' => ∃ v, e = .returned v ∧ (∃ A c, v = .slice A 0 c) ∧ Below w.heap.size w w' := by
  obtain ⟨i0, hi, hz0, hz1, hz2⟩ := info_parts infoZGqt
  go_enter Try.func37, Try.ntmps37
  go_wp2_with (at_make; refine wpList_make_full _ rfl _ _ 32 rfl w.heap.size 117 i0 _ 3 Try.underlying32 hi hz0 hz1 .i64 .i64 _ _ 0 rfl rfl rfl rfl (by omega) (by unfold maxLen; omega) (Nat.le_refl _) ?_; intro w1 hown hgr)
  have hb1 := (Below.refl w.heap.size w).grown hgr (Nat.le_refl _) (fun k hk => by cases hk)
  have HB := Seg.hid hb1
  clear hown hgr hb1 hi hz0 hz1 hz2
  go_loop [4] (fun i => i = .int .i64 0) (fun i => 0)
  case atStart => rfl
  case round =>
    subst hrel
    go_wp2
    go_ret
    exact ⟨_, rfl, ⟨_, _, rfl⟩, HB.out⟩
set_option maxHeartbeats 800000 in
theorem toGetS_core (g o n c : Nat) (us : List Gqt) (F0 : Nat → Nat → Value) (w : World) (S : Nat → Prop) (hn : n ≤ 1048576) (hc : n ≤ c) (hg : g < w.heap.size) (hS : ∀ g, S g → g < w.heap.size)
    (hf : ∀ i, i < n → szGqt (us.getD i default) ≤ 1048576) (he : ∀ i, i < n → EGqt w S (F0 i) (us.getD i default))
    (ha : ∀ i, i < n → ∀ j, j < 3 → w.cell? ⟨g, o + i * 3 + j, none⟩ = some (F0 i j)) :
    Calls Try.prog 37 #[.slice (some ⟨g, o, none⟩) n c] w fun e w' => ∃ F, e = .returned (.slice (some ⟨w.heap.size, 0, none⟩) n n) ∧ Done 117 3 EGqt w w' us n n F := by
  obtain ⟨i0, hi, hz0, hz1, hz2⟩ := info_parts infoZGqt
  have HA := Seg.hid ha; have HK := Seg.hid hf; have HH := Seg.hid he
  clear ha hf he
  go_enter Try.func37, Try.ntmps37
  go_wp2_with (at_make; refine wpList_make_full _ rfl _ _ 32 rfl w.heap.size 117 i0 _ 3 Try.underlying32 hi hz0 hz1 .i64 .i64 _ _ n rfl rfl rfl rfl (by rw [hz2]; omega) (by unfold maxLen; omega) (Nat.le_refl _) ?_; intro w1 hown hgr)
  have hb1 := (Below.refl w.heap.size w).grown hgr (Nat.le_refl _) (fun k hk => by cases hk)
  have HM := Seg.hid (Mine.of_made hown hown.1)
  have HB := Seg.hid hb1
  clear hown hgr hb1 hi hz0 hz1 hz2
  go_loopw [4] (fun i wr => ∃ (j : Nat) (F : Nat → Value), j ≤ n ∧ i = .int .i64 j ∧ Done 117 3 EGqt w wr us n j F) (fun i _ => n - (intOf i).toNat)
  case atStart => exact ⟨0, _, Nat.zero_le _, rfl, HM.out, HB.out, fun i hi => absurd hi (by omega)⟩
  case round =>
    clear HM HB
    obtain ⟨j, F, hj, rfl, HR⟩ := hrel
    by_cases hlt : j < n
    · have CL := cells_later HA.out HR.bel hg
      have c0 : wr.cell? ⟨g, o + j * 3, none⟩ = some (F0 j 0) := CL j ‹j < n› 0 (by omega)
      have c1 : wr.cell? ⟨g, o + j * 3 + 1, none⟩ = some (F0 j 1) := CL j ‹j < n› 1 (by omega)
      have c2 : wr.cell? ⟨g, o + j * 3 + 2, none⟩ = some (F0 j 2) := CL j ‹j < n› 2 (by omega)
      clear CL
      have RA : Hid (GqtAt wr S (.agg (arrGqt (F0 j))) (us.getD j default)) := ⟨_, rfl, keepsGqt _ _ _ _ _ _ (HH.out j hlt) (fun g hg => HR.bel.block g (hS g hg)) (fun _ _ => rfl)⟩
      have FW := Seg.hid (HK.out j hlt)
      have hbr : Hid (∀ g, S g → g < wr.heap.size) := fun g hg => Nat.lt_of_lt_of_le (hS g hg) HR.bel.size
      have ST := Seg.hid (fun w1 vs hv b1 he => Done.step keepsGqt growsGqt (w1 := w1) HR vs hv b1 he)
      have HM := Seg.hid HR.mine
      have h0 : (0 : Int) ≤ (j : Int) := by omega
      have h1 : (j : Int) < (n : Int) := by omega
      clear HR
      generalize us.getD j default = uj at *
      go_wp2_with fail
      refine (toGet_any _ uj wr S RA.out hbr.out FW.out).mono ?_
      rintro e w1 ⟨v1, rfl, ⟨f1, rfl, he1⟩, b1⟩
      have S1 := Seg.hid (ST.out w1 (arrGqt f1).toList rfl b1 (keepsGqt _ _ _ _ _ _ he1 (fun _ _ => rfl) (fun q hq => by
        match q, hq with
        | 0, _ => rfl
        | 1, _ => rfl
        | 2, _ => rfl
        )))
      have M1 : Hid (w1.there w.heap.size (j * 3) (arrGqt f1).size) := Own.mine_there (o := j * 3) (m := 3) (HM.out.below b1 HM.out.lt) (by omega)
      have ON := Seg.hid (oneGqt he1)
      clear b1 he1
      go_wp2_with (refine wpList_store_mid rfl 117 _ _ rfl w.heap.size (j * 3) (arrGqt f1) rfl rfl ?ht infoGqt ON.out ?_; case ht => exact M1.out)
      go_roundw
      case rel => exact ⟨j + 1, _, by omega, by go_num, S1.out⟩
      case measure => simp [intOf]; omega
    · have : j = n := by omega
      subst this
      go_wp2
      go_ret
      exact ⟨F, rfl, HR⟩
theorem toGetS_any (v : Value) (us : List Gqt) (w : World) (S : Nat → Prop) (hv : LAt 3 EGqt w S v us) (hS : ∀ g, S g → g < w.heap.size) (hf : szL szGqt us ≤ 1048576) :
    Calls Try.prog 37 #[v] w fun e w' => ∃ v', e = .returned v' ∧ LAt 3 EGqt w' (seg w.heap.size w'.heap.size) v' us ∧ Below w.heap.size w w' := by
  obtain ⟨hn, A, c, rfl, h⟩ := hv
  by_cases hz : us.length = 0
  · obtain rfl := List.length_eq_zero_iff.1 hz
    refine (toGetS_none A c w).mono fun e w' ⟨v', a1, ⟨A', c', a2⟩, a3⟩ => ⟨v', a1, ?_, a3⟩
    rw [a2]
    exact LAt.nil _ _ _ _
  obtain ⟨g, o, F, rfl, hg, hc, hcell, hel⟩ := h.resolve_left hz
  exact (toGetS_core g o us.length c us F w S (szL_len _ hf) hc (hS g hg) hS (fun i hi => szL_one _ hf hi) hel hcell).mono fun e w' ⟨F, a1, a2⟩ => ⟨_, a1, a2.all growsGqt hn, a2.bel⟩
theorem eqGetS_none (A A' : Option Addr) (c c' : Nat) (w : World) :
    Calls Try.prog 46 #[.slice A 0 c, .slice A' 0 c'] w fun e w' => e = .returned (.bool true) ∧ Below w.heap.size w w' := by
  go_enter Try.func46, Try.ntmps46
  go_wp2
  go_loop [5] (fun i => i = .int .i64 0) (fun _ => 0)
  case atStart => rfl
  case round =>
    subst hrel
    go_wp2
    go_ret
    exact ⟨rfl, Below.refl _ _⟩
set_option maxHeartbeats 1600000 in
theorem eqGetS_core (g o g' o' n c c' : Nat) (us : List Gqt) (F F' : Nat → Nat → Value) (w : World) (S S' : Nat → Prop) (hn : n ≤ 9223372036854775807) (hc : n ≤ c) (hc' : n ≤ c') (hg : g < w.heap.size) (hg' : g' < w.heap.size) (hS : ∀ g, S g → g < w.heap.size) (hS' : ∀ g, S' g → g < w.heap.size)
    (he : ∀ i, i < n → EGqt w S (F i) (us.getD i default)) (he' : ∀ i, i < n → EGqt w S' (F' i) (us.getD i default))
    (ha : ∀ i, i < n → ∀ j, j < 3 → w.cell? ⟨g, o + i * 3 + j, none⟩ = some (F i j)) (ha' : ∀ i, i < n → ∀ j, j < 3 → w.cell? ⟨g', o' + i * 3 + j, none⟩ = some (F' i j)) :
    Calls Try.prog 46 #[.slice (some ⟨g, o, none⟩) n c, .slice (some ⟨g', o', none⟩) n c'] w fun e w' => e = .returned (.bool true) ∧ Below w.heap.size w w' := by
  have HA := Seg.hid ha; have HA' := Seg.hid ha'; have HH := Seg.hid he; have HH' := Seg.hid he'
  clear ha ha' he he'
  go_enter Try.func46, Try.ntmps46
  go_wp2
  go_loopw [5] (fun i wr => ∃ (k : Nat), k ≤ n ∧ i = .int .i64 k ∧ Hid (Below w.heap.size w wr)) (fun i _ => n - (intOf i).toNat)
  case atStart => exact ⟨0, Nat.zero_le _, rfl, Below.refl _ _⟩
  case round =>
    obtain ⟨k, hk, rfl, HB⟩ := hrel
    by_cases hlt2 : k < n
    · have CL := cells_later HA.out HB.out hg
      have CL' := cells_later HA'.out HB.out hg'
      have c0 : wr.cell? ⟨g, o + k * 3, none⟩ = some (F k 0) := CL k ‹k < n› 0 (by omega)
      have c1 : wr.cell? ⟨g, o + k * 3 + 1, none⟩ = some (F k 1) := CL k ‹k < n› 1 (by omega)
      have c2 : wr.cell? ⟨g, o + k * 3 + 2, none⟩ = some (F k 2) := CL k ‹k < n› 2 (by omega)
      have d0 : wr.cell? ⟨g', o' + k * 3, none⟩ = some (F' k 0) := CL' k ‹k < n› 0 (by omega)
      have d1 : wr.cell? ⟨g', o' + k * 3 + 1, none⟩ = some (F' k 1) := CL' k ‹k < n› 1 (by omega)
      have d2 : wr.cell? ⟨g', o' + k * 3 + 2, none⟩ = some (F' k 2) := CL' k ‹k < n› 2 (by omega)
      clear CL CL'
      have RA : Hid (GqtAt wr.drew S (.agg (arrGqt (F k))) (us.getD k default)) := ⟨_, rfl, keepsGqt _ _ _ _ _ _ (HH.out k hlt2) (fun g hg => HB.out.drew.block g (hS g hg)) (fun _ _ => rfl)⟩
      have RB : Hid (GqtAt wr.drew S' (.agg (arrGqt (F' k))) (us.getD k default)) := ⟨_, rfl, keepsGqt _ _ _ _ _ _ (HH'.out k hlt2) (fun g hg => HB.out.drew.block g (hS' g hg)) (fun _ _ => rfl)⟩
      have hbr : Hid (∀ g, S g → g < wr.drew.heap.size) := fun g hg => Nat.lt_of_lt_of_le (hS g hg) HB.out.size
      have hbr' : Hid (∀ g, S' g → g < wr.drew.heap.size) := fun g hg => Nat.lt_of_lt_of_le (hS' g hg) HB.out.size
      have h0 : (0 : Int) ≤ (k : Int) := by omega
      have h1 : (k : Int) < (n : Int) := by omega
      generalize us.getD k default = uk at *
      go_wp2_with fail
      go_region_with (go_at_call 88; refine (eqGet_any _ _ uk wr.drew S S' RA.out RB.out hbr.out hbr'.out).mono ?_; rintro e w1 ⟨rfl, b1⟩; have B1 : Hid (Below w.heap.size w w1) := chainD HB.out b1; clear b1)
      all_goals
        go_wp2
        go_roundw
        case rel => exact ⟨k + 1, by omega, by go_num, B1.out⟩
        case measure => simp [intOf]; omega
    · have : k = n := by omega
      subst this
      go_wp2
      go_ret
      exact ⟨rfl, HB.out⟩
theorem eqGetS_any (v v' : Value) (us : List Gqt) (w : World) (S S' : Nat → Prop) (hv : LAt 3 EGqt w S v us) (hv' : LAt 3 EGqt w S' v' us) (hS : ∀ g, S g → g < w.heap.size) (hS' : ∀ g, S' g → g < w.heap.size) :
    Calls Try.prog 46 #[v, v'] w fun e w' => e = .returned (.bool true) ∧ Below w.heap.size w w' := by
  obtain ⟨hn, A, c, rfl, h⟩ := hv
  obtain ⟨_, A', c', rfl, h'⟩ := hv'
  by_cases hz : us.length = 0
  · rw [hz]
    exact eqGetS_none A A' c c' w
  obtain ⟨g, o, F, rfl, hg, hc, hcell, hel⟩ := h.resolve_left hz
  obtain ⟨g', o', F', rfl, hg', hc', hcell', hel'⟩ := h'.resolve_left hz
  exact eqGetS_core g o g' o' us.length c c' us F F' w S S' hn hc hc' (hS g hg) (hS' g' hg') hS hS' hel hel' hcell hcell'
end Go.Proofs.Ytkibaimemomjpaa.Ls
namespace Go.Proofs.Ytkibaimemomjpaa.Ow
set_option maxRecDepth 8000
open Go.RowKit
open Recs
open Ls
set_option linter.unusedVariables false
def EOGqt : Elt Gqt := fun w S f u => (f 0 = .int .i64 u.kind ∧ f 2 = .string u.nm) ∧ ∃ Q : Nat → Nat → Prop, (∀ i y, Q i y → S y) ∧ (∀ i j, i ≠ j → ∀ y, Q i y → ¬ Q j y) ∧ StpsOwn w (Q 1) (f 1) u.steps
theorem keepsOGqt : KeepsO 3 EOGqt := fun w w' S f f' t h hs hk hf => by
  obtain ⟨⟨s0, s2⟩, Q, q1, q2, l1⟩ := h
  exact ⟨⟨by rw [hf 0 (by omega)]; exact s0, by rw [hf 2 (by omega)]; exact s2⟩, Q, q1, q2, by rw [hf 1 (by omega)]; exact l1.keep keepsOStp hs (fun g hg => hk g (q1 _ g hg))⟩
theorem atOGqt (w : World) (S : Nat → Prop) (f : Nat → Value) (u : Gqt) (h : EOGqt w S f u) : EGqt w S f u := by
  obtain ⟨⟨s0, s2⟩, Q, q1, q2, l1⟩ := h
  exact ⟨s0, (LOwn.lat growsStp atOStp l1).mono growsStp (q1 1), s2⟩
abbrev GqtsOwn := LOwn 117 3 EOGqt
def mGqt (k : Nat) (u : Gqt) : Gqt := ⟨(((k + 0) : Nat) : Int), mL mStp nStp (k + 1) u.steps, mt (k + 1 + tot nStp u.steps)⟩
def nGqt (u : Gqt) : Nat := 2 + tot nStp u.steps
theorem markGetS_none (A : Option Addr) (c : Nat) (k : Int) (w : World) : Calls Try.prog 49 #[.slice A 0 c, .int .i64 k] w fun e w' => e = .returned (.int .i64 k) ∧ w = w' := by
  go_enter Try.func49, Try.ntmps49
  go_wp2
  go_loop [1, 5] (fun x i => i = .int .i64 0 ∧ x = .int .i64 k) (fun _ _ => 0)
  case atStart => exact ⟨rfl, rfl⟩
  case round =>
    obtain ⟨rfl, rfl⟩ := hrel
    go_wp2
    go_ret
    exact ⟨rfl, rfl⟩
set_option maxHeartbeats 3200000 in
theorem markGetS_core (g n c k : Nat) (S : Nat → Prop) (P : Nat → Nat → Prop) (F0 : Nat → Value) (us : List Gqt) (w : World) (hn : n ≤ 1048576) (hk : 0 < k) (hk1 : k + tot nGqt us ≤ 4000000000000000000) (hSg : S g) (hSP : ∀ i, i < n → ∀ y, P i y → S y) (ho : LOpen 117 3 EOGqt w g n c F0 P us) :
    Calls Try.prog 49 #[.slice (some ⟨g, 0, none⟩) n c, .int .i64 k] w fun e w' => ∃ F, e = .returned (.int .i64 ((k + tot nGqt us : Nat) : Int)) ∧ LOpen 117 3 EOGqt w' g n c F P (mL mGqt nGqt k us) ∧ Foot w w' S := by
  have hc := ho.mine.le
  have hlen := Seg.hid ho.len
  have HM : Hid (LOpen 117 3 EOGqt w g n c F0 P (mid mGqt nGqt k 0 us) ∧ Foot w w S) := ⟨by rw [mid_zero]; exact ho, Foot.refl _ _⟩
  have HSG := Seg.hid hSg; have HSP := Seg.hid hSP
  have KL : Hid (∀ j, j < n → k + tot nGqt (us.take j) + nGqt (us.getD j default) ≤ 4000000000000000000) := fun j hj => by
    have a1 := tot_take nGqt (ts := us) (j := j) (by rw [hlen.out]; exact hj)
    have a2 := tot_le nGqt us (j + 1)
    omega
  have KE : Hid (k + tot nGqt (us.take n) = k + tot nGqt us) := by show _ = _; rw [← hlen.out, List.take_length]
  clear ho hSg hSP hk1
  go_enter Try.func49, Try.ntmps49
  go_wp2
  go_loopw [1, 5] (fun x i wr => ∃ (j : Nat) (F : Nat → Value), j ≤ n ∧ i = .int .i64 j ∧ x = .int .i64 ((k + tot nGqt (us.take j) : Nat) : Int) ∧ Hid (LOpen 117 3 EOGqt wr g n c F P (mid mGqt nGqt k j us) ∧ Foot w wr S)) (fun _ i _ => n - (intOf i).toNat)
  case atStart => exact ⟨0, F0, Nat.zero_le _, rfl, rfl, HM.out⟩
  case round =>
    clear HM
    obtain ⟨j, F, hj, rfl, rfl, HR⟩ := hrel
    by_cases hlt : j < n
    · have h0 : (0 : Int) ≤ (j : Int) := by omega
      have h1 : (j : Int) < (n : Int) := by omega
      have EL := HR.out.1.el j hlt
      rw [mid_get mGqt nGqt (by rw [hlen.out]; exact hlt)] at EL
      have MS := mid_step mGqt nGqt (k := k) (ts := us) (j := j) (by rw [hlen.out]; exact hlt)
      have TK := Seg.hid (tot_take nGqt (ts := us) (j := j) (by rw [hlen.out]; exact hlt))
      have hxb := KL.out j hlt
      have HAP := Seg.hid (HR.out.1.apart j hlt)
      obtain ⟨x, hx⟩ : ∃ x, k + tot nGqt (us.take j) = x := ⟨_, rfl⟩
      have HX := Seg.hid hx
      rw [hx] at hxb MS ⊢
      have hx0 : 0 < x := by omega
      clear hx
      have MS' := Seg.hid MS
      clear MS
      generalize us.getD j default = u at *
      have HXB := Seg.hid hxb
      clear hxb
      obtain ⟨⟨s0, s2⟩, Q, q1, q2, l1⟩ := EL
      obtain ⟨A1, c1, g1⟩ := l1.form
      have O0_1 : Hid (StpsOwn wr (Q 1) (.slice A1 u.steps.length c1) u.steps) := by
        have := l1
        rw [g1] at this
        exact this
      have QP := Seg.hid q1
      have QD := Seg.hid q2
      have R0 : Hid (Rnd 117 3 g n c (P j) w wr wr S F j [.int .i64 u.kind, .slice A1 u.steps.length c1, .string u.nm]) := Rnd.start HR.out.1.mine HR.out.2 rfl (fun q hq => by
        match q, hq with
        | 0, _ => exact s0
        | 1, _ => exact g1
        | 2, _ => exact s2)
      clear s0 s2 l1 g1 q1 q2
      have QG : Hid (∀ i y, Q i y → y ≠ g) := fun i y hy => (HAP.out y (QP.out i y hy)).1
      have QL : Hid (∀ i y, Q i y → y < wr.heap.size) := fun i y hy => (HAP.out y (QP.out i y hy)).2
      have HB_x : Hid (x + 2 + tot nStp u.steps ≤ 4000000000000000000) := by show _ ≤ _; have := HXB.out; simp only [nGqt] at this; omega
      have hc_x : x + 2 ≤ 4000000000000000000 + 2 := by have := HB_x.out; omega
      have hd_x : x + 1 ≤ 4000000000000000000 := by have := HB_x.out; omega
      have d0 : (wr).cell? ⟨g, j * 3, none⟩ = some (.int .i64 u.kind) := R0.out.cell hlt 0 (by omega)
      have f0 : (wr).frozen? ⟨g, j * 3, none⟩ = false := R0.out.frozen _
      have R1 : Hid (Rnd 117 3 g n c (P j) w wr (wr.setCell ⟨g, j * 3, none⟩ (.int .i64 ((x : Int)))) S F j [.int .i64 ((x : Int)), .slice A1 u.steps.length c1, .string u.nm]) := R0.out.set HSG.out 0 (by omega) (.int .i64 ((x : Int)))
      have O1_1 : Hid (StpsOwn (wr.setCell ⟨g, j * 3, none⟩ (.int .i64 ((x : Int)))) (Q 1) (.slice A1 u.steps.length c1) (u.steps)) := O0_1.out.set keepsOStp _ (QG.out 1) _
      have d1 : ((wr.setCell ⟨g, j * 3, none⟩ (.int .i64 ((x : Int))))).cell? ⟨g, j * 3 + 1, none⟩ = some (.slice A1 u.steps.length c1) := R1.out.cell hlt 1 (by omega)
      go_wp2_with fail
      clear d0 f0 d1
      refine (markStepS_own _ (x + 1) (by omega) (Q 1) u.steps (wr.setCell ⟨g, j * 3, none⟩ (.int .i64 ((x : Int)))) (by omega) (by have := HB_x.out; omega) O1_1.out).mono ?_
      rintro e w1 ⟨rfl, o1, t1⟩
      have R2 : Hid (Rnd 117 3 g n c (P j) w wr w1 S F j [.int .i64 ((x : Int)), .slice A1 u.steps.length c1, .string u.nm]) := R1.out.foot t1 (QP.out 1) (fun h => (HAP.out g h).1 rfl) (HSP.out j hlt)
      have O2_1 : Hid (StpsOwn w1 (Q 1) (.slice A1 u.steps.length c1) (mL mStp nStp (x + 1) u.steps)) := o1
      clear o1 t1
      obtain ⟨y1, hy1⟩ : ∃ y1, x + 1 + tot nStp u.steps = y1 := ⟨_, rfl⟩
      rw [hy1]
      have Hy1 := Seg.hid hy1
      have HB_y1 : Hid (y1 + 1 ≤ 4000000000000000000) := by show _ ≤ _; have := HB_x.out; omega
      have hd_y1 : y1 + 1 ≤ 4000000000000000000 := by have := HB_y1.out; omega
      have hp_y1 : 0 < y1 := by omega
      clear hy1
      go_wp2_with fail
      refine (markText_at _ (y1) (by omega) w1 (by omega) (by omega)).mono ?_
      rintro e w2 ⟨rfl, b2⟩
      have R3 : Hid (Rnd 117 3 g n c (P j) w wr w2 S F j [.int .i64 ((x : Int)), .slice A1 u.steps.length c1, .string u.nm]) := R2.out.below b2
      have O3_1 : Hid (StpsOwn w2 (Q 1) (.slice A1 u.steps.length c1) (mL mStp nStp (x + 1) u.steps)) := O2_1.out.belowO keepsOStp b2 (fun y hy => Nat.lt_of_lt_of_le (QL.out 1 y hy) R2.out.le)
      clear b2
      have d2 : (w2).cell? ⟨g, j * 3 + 2, none⟩ = some (.string u.nm) := R3.out.cell hlt 2 (by omega)
      have f2 : (w2).frozen? ⟨g, j * 3 + 2, none⟩ = false := R3.out.frozen _
      have R4 : Hid (Rnd 117 3 g n c (P j) w wr (w2.setCell ⟨g, j * 3 + 2, none⟩ (.string (mt (y1)))) S F j [.int .i64 ((x : Int)), .slice A1 u.steps.length c1, .string (mt (y1))]) := R3.out.set HSG.out 2 (by omega) (.string (mt (y1)))
      have O4_1 : Hid (StpsOwn (w2.setCell ⟨g, j * 3 + 2, none⟩ (.string (mt (y1)))) (Q 1) (.slice A1 u.steps.length c1) (mL mStp nStp (x + 1) u.steps)) := O3_1.out.set keepsOStp _ (QG.out 1) _
      have EE : Hid (EOGqt (w2.setCell ⟨g, j * 3 + 2, none⟩ (.string (mt (y1)))) (P j) (fun q => [.int .i64 ((x : Int)), .slice A1 u.steps.length c1, .string (mt (y1))].getD q default) (mGqt x u)) := by
        refine ⟨⟨?_, ?_⟩, Q, QP.out, QD.out, ?_⟩
        · exact congrArg (Value.int .i64) (show (x : Int) = (((x + 0) : Nat) : Int) by have z0 := Hy1.out; omega)
        · exact congrArg (fun z : Nat => Value.string (mt z)) (show y1 = (x + 1 + tot nStp u.steps) by have z0 := Hy1.out; omega)
        · have hz : x + 1 = (x + 1) := by (have z0 := Hy1.out; omega)
          have ho := O4_1.out
          rw [hz] at ho
          exact ho
      obtain ⟨F', L', F2⟩ := Rnd.done keepsOGqt (t := mGqt x u) HR.out.1 hlt R4.out EE.out
      rw [MS'.out] at L'
      have L2 := Seg.hid L'
      have F3 := Seg.hid F2
      clear L' F2
      have HKK : Hid ((y1 : Int) + 1 = ((k + tot nGqt (us.take (j + 1)) : Nat) : Int)) := by
        show _ = _
        have z0 := Hy1.out; have a1 := TK.out; have a2 := HX.out; simp only [nGqt] at a1; omega
      go_wp2
      clear d2 f2
      go_roundw
      case rel => exact ⟨j + 1, F', by omega, by go_num, congrArg (Value.int .i64) HKK.out, L2.out, F3.out⟩
      case measure => simp [intOf]; omega
    · have : j = n := by omega
      subst this
      have E := HR.out
      rw [show mid mGqt nGqt k j us = mL mGqt nGqt k us by rw [← hlen.out]; exact mid_all _ _ _ _] at E
      have EH' := Seg.hid E
      clear E
      rw [KE.out]
      go_wp2
      go_ret
      exact ⟨F, rfl, EH'.out⟩
theorem markGetS_own (x : Int) (k : Nat) (hx : x = (k : Int)) (S : Nat → Prop) (us : List Gqt) (w : World) {v : Value} (hk : 0 < k) (hk1 : k + tot nGqt us ≤ 4000000000000000000) (hv : GqtsOwn w S v us) :
    Calls Try.prog 49 #[v, .int .i64 x] w fun e w' => e = .returned (.int .i64 ((k + tot nGqt us : Nat) : Int)) ∧ GqtsOwn w' S v (mL mGqt nGqt k us) ∧ Foot w w' S := by
  subst hx
  obtain ⟨h0, A, c, rfl, h⟩ := hv
  by_cases hz : us.length = 0
  · obtain rfl := List.length_eq_zero_iff.1 hz
    exact (markGetS_none A c k w).mono fun e w' ⟨h1, h2⟩ => by
      subst h2
      exact ⟨by rw [h1]; rfl, LOwn.nil _ _ _ _, Foot.refl _ _⟩
  obtain ⟨g, F, P, rfl, h3, h4, h5⟩ := h.resolve_left hz
  refine (markGetS_core g us.length c k S P F us w h0 hk hk1 h3 h4 h5).mono fun e w' ⟨F', a1, a2, a3⟩ => ⟨a1, ⟨by rw [mL_len]; exact h0, _, c, by rw [mL_len], .inr ⟨g, F', P, rfl, h3, fun i hi => h4 i (by rw [mL_len] at hi; exact hi), ?_⟩⟩, a3⟩
  rw [mL_len]
  exact a2
end Go.Proofs.Ytkibaimemomjpaa.Ow
