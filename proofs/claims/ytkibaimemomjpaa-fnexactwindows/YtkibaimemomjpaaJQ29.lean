/- Lists of Get: what the law's helpers answer; Query: how it lies in memory; what the law's measure and copier answer. -/
import Derived.Test.YtkibaimemomjpaaJQ28
import Derived.Test.YtkibaimemomjpaaJQ07
namespace Go.Proofs.Ytkibaimemomjpaa.Ls
set_option maxRecDepth 8000
open Go.RowKit
open Recs
set_option linter.unusedVariables false
theorem szGetS_none (A : Option Addr) (c : Nat) (l : Int) (w : World) (h3 : -1 ≤ l) (h4 : l ≤ 1048576) :
    Calls Try.prog 32 #[.slice A 0 c, .int .i64 l] w fun e w' => ∃ q, e = .returned (.int .i64 q) ∧ -1 ≤ q ∧ q ≤ l ∧ Lf l 0 q ∧ Below w.heap.size w w' := by
  go_enter Try.func32, Try.ntmps32
  by_cases hlt : l < 0
  · go_wp2
    go_ret
    exact ⟨_, rfl, by omega, by omega, ⟨fun _ => by omega, fun _ => by omega⟩, Below.refl _ _⟩
  go_wp2
  go_loop [1, 5] (fun x i => i = .int .i64 0 ∧ x = .int .i64 l) (fun _ _ => 0)
  case atStart => exact ⟨rfl, by go_num⟩
  case round =>
    obtain ⟨rfl, rfl⟩ := hrel
    go_wp2
    go_ret
    exact ⟨_, rfl, by omega, by omega, ⟨fun _ => by omega, fun _ => by omega⟩, Below.refl _ _⟩

set_option maxHeartbeats 800000 in
theorem szGetS_core (g o n c : Nat) (us : List Gqt) (F : Nat → Nat → Value) (l : Int) (w : World) (S : Nat → Prop) (h3 : -1 ≤ l) (h4 : l ≤ 1048576) (hn : n ≤ 9223372036854775807) (hc : n ≤ c) (hg : g < w.heap.size) (hS : ∀ g, S g → g < w.heap.size) (hnl : us.length = n)
    (hf : ∀ i, i < n → FineGqt (us.getD i default)) (he : ∀ i, i < n → EGqt w S (F i) (us.getD i default))
    (ha : ∀ i, i < n → ∀ j, j < 3 → w.cell? ⟨g, o + i * 3 + j, none⟩ = some (F i j)) :
    Calls Try.prog 32 #[.slice (some ⟨g, o, none⟩) n c, .int .i64 l] w fun e w' => ∃ q, e = .returned (.int .i64 q) ∧ -1 ≤ q ∧ q ≤ l ∧ Lf l (szL szGqt us) q ∧ Below w.heap.size w w' := by
  have HA := Seg.hid ha
  have HK := Seg.hid hf
  have HH := Seg.hid he
  have HN := Seg.hid hnl
  clear ha hf he hnl
  go_enter Try.func32, Try.ntmps32
  by_cases hlt : l - (n : Int) < 0
  · go_wp2
    go_ret
    exact ⟨_, rfl, by omega, by omega, ⟨fun h => absurd h (by omega), fun _ => by unfold szL; rw [HN.out]; omega⟩, Below.refl _ _⟩
  go_wp2
  go_loopw [1, 5] (fun x i wr => ∃ (k : Nat) (r : Int), k ≤ n ∧ x = .int .i64 r ∧ i = .int .i64 k ∧ 0 ≤ r ∧ r ≤ l ∧ Hid (Below w.heap.size w wr ∧ r = l - n - tot szGqt (us.take k))) (fun _ i _ => n - (intOf i).toNat)
  case atStart => exact ⟨0, l - n, Nat.zero_le _, rfl, rfl, by omega, by omega, Below.refl _ _, by simp [tot]⟩
  case round =>
    obtain ⟨k, r, hk, rfl, rfl, hr0, hr1, HB⟩ := hrel
    by_cases hlt2 : k < n
    · have CL := cells_later HA.out HB.out.1 hg
      have c0 : wr.cell? ⟨g, o + k * 3, none⟩ = some (F k 0) := CL k ‹k < n› 0 (by omega)
      have c1 : wr.cell? ⟨g, o + k * 3 + 1, none⟩ = some (F k 1) := CL k ‹k < n› 1 (by omega)
      have c2 : wr.cell? ⟨g, o + k * 3 + 2, none⟩ = some (F k 2) := CL k ‹k < n› 2 (by omega)
      clear CL
      have RA : Hid (GqtAt wr S (.agg (arrGqt (F k))) (us.getD k default)) := ⟨_, rfl, keepsGqt _ _ _ _ _ _ (HH.out k hlt2) (fun g hg => HB.out.1.block g (hS g hg)) (fun _ _ => rfl)⟩
      have h0 : (0 : Int) ≤ (k : Int) := by omega
      have h1 : (k : Int) < (n : Int) := by omega
      have hbr : Hid (∀ g, S g → g < wr.heap.size) := fun g hg => Nat.lt_of_lt_of_le (hS g hg) HB.out.1.size
      have TK := Seg.hid (tot_take szGqt (ts := us) (j := k) (by rw [HN.out]; exact hlt2))
      have TL := Seg.hid (tot_le szGqt us (k + 1))
      have FK := Seg.hid (HK.out k hlt2)
      generalize us.getD k default = uk at *
      go_wp2_with fail
      refine (szGet_any _ uk r wr S (by omega) (by omega) RA.out hbr.out FK.out).mono ?_
      rintro e w1 ⟨r1, rfl, hr2, hr3, hlf, b1⟩
      have B1 := Seg.hid (chain HB.out.1 b1)
      have FW := Seg.hid hlf
      clear b1 hlf
      by_cases hneg : r1 < 0
      · go_wp2
        go_ret
        refine ⟨-1, rfl, by omega, by omega, ⟨fun h => absurd h (by omega), fun _ => ?_⟩, B1.out⟩
        have m1 := FW.out.2 hneg; have m2 := HB.out.2; have m3 := TK.out; have m4 := TL.out
        unfold szL; rw [HN.out]; omega
      · go_wp2
        go_roundw
        case rel =>
          refine ⟨k + 1, r1, by omega, rfl, by go_num, by omega, by omega, B1.out, ?_⟩
          have m1 := FW.out.1 (by omega); have m2 := HB.out.2; have m3 := TK.out
          omega
        case measure => simp [intOf]; omega
    · have : k = n := by omega
      subst this
      go_wp2
      go_ret
      refine ⟨r, rfl, by omega, by omega, ⟨fun _ => ?_, fun h => absurd h (by omega)⟩, HB.out.1⟩
      have m2 := HB.out.2
      rw [← HN.out, List.take_length, HN.out] at m2
      unfold szL; rw [HN.out]; omega
theorem szGetS_any (v : Value) (us : List Gqt) (l : Int) (w : World) (S : Nat → Prop) (h3 : -1 ≤ l) (h4 : l ≤ 1048576) (hv : LAt 3 EGqt w S v us) (hS : ∀ g, S g → g < w.heap.size) (hf : FineL FineGqt us) :
    Calls Try.prog 32 #[v, .int .i64 l] w fun e w' => ∃ q, e = .returned (.int .i64 q) ∧ -1 ≤ q ∧ q ≤ l ∧ Lf l (szL szGqt us) q ∧ Below w.heap.size w w' := by
  obtain ⟨hn, A, c, rfl, h⟩ := hv
  by_cases hz : us.length = 0
  · obtain rfl := List.length_eq_zero_iff.1 hz
    exact szGetS_none A c l w h3 h4
  obtain ⟨g, o, F, rfl, hg, hc, hcell, hel⟩ := h.resolve_left hz
  exact szGetS_core g o us.length c us F l w S h3 h4 hn hc (hS g hg) hS rfl hf.2 hel hcell
set_option maxHeartbeats 400000 in
theorem toGetS_none (A : Option Addr) (c : Nat) (w : World) :
    Calls Try.prog 37 #[.slice A 0 c] w fun e w' => ∃ v, e = .returned v ∧ (∃ A c, v = .slice A 0 c) ∧ Below w.heap.size w w' := by
  obtain ⟨i0, hi, hz0, hz1, hz2⟩ := info_parts infoZGqt
  go_enter Try.func37, Try.ntmps37
  go_wp2_with (at_make; refine wpList_make_full _ rfl _ _ 32 rfl w.heap.size 117 i0 _ 3 Try.underlying32 hi hz0 hz1 .i64 .i64 _ _ 0 rfl rfl rfl rfl (by omega) (by unfold maxLen; omega) (Nat.le_refl _) ?_; intro w1 hown hgr)
  have hb1 := (Below.refl w.heap.size w).grown hgr (Nat.le_refl _) (fun k hk => by cases hk)
  have HB := Seg.hid hb1
  clear hown hgr hb1 hi hz0 hz1 hz2
  go_loop [4] (fun i => i = .int .i64 0) (fun i => 0)
  case atStart => rfl
  case round =>
    subst hrel
    go_wp2
    go_ret
    exact ⟨_, rfl, ⟨_, _, rfl⟩, HB.out⟩
set_option maxHeartbeats 800000 in
theorem toGetS_core (g o n c : Nat) (us : List Gqt) (F0 : Nat → Nat → Value) (w : World) (S : Nat → Prop) (hn : n ≤ 1048576) (hc : n ≤ c) (hg : g < w.heap.size) (hS : ∀ g, S g → g < w.heap.size)
    (hf : ∀ i, i < n → szGqt (us.getD i default) ≤ 1048576) (he : ∀ i, i < n → EGqt w S (F0 i) (us.getD i default))
    (ha : ∀ i, i < n → ∀ j, j < 3 → w.cell? ⟨g, o + i * 3 + j, none⟩ = some (F0 i j)) :
    Calls Try.prog 37 #[.slice (some ⟨g, o, none⟩) n c] w fun e w' => ∃ F, e = .returned (.slice (some ⟨w.heap.size, 0, none⟩) n n) ∧ Done 117 3 EGqt w w' us n n F := by
  obtain ⟨i0, hi, hz0, hz1, hz2⟩ := info_parts infoZGqt
  have HA := Seg.hid ha; have HK := Seg.hid hf; have HH := Seg.hid he
  clear ha hf he
  go_enter Try.func37, Try.ntmps37
  go_wp2_with (at_make; refine wpList_make_full _ rfl _ _ 32 rfl w.heap.size 117 i0 _ 3 Try.underlying32 hi hz0 hz1 .i64 .i64 _ _ n rfl rfl rfl rfl (by rw [hz2]; omega) (by unfold maxLen; omega) (Nat.le_refl _) ?_; intro w1 hown hgr)
  have hb1 := (Below.refl w.heap.size w).grown hgr (Nat.le_refl _) (fun k hk => by cases hk)
  have HM := Seg.hid (Mine.of_made hown hown.1)
  have HB := Seg.hid hb1
  clear hown hgr hb1 hi hz0 hz1 hz2
  go_loopw [4] (fun i wr => ∃ (j : Nat) (F : Nat → Value), j ≤ n ∧ i = .int .i64 j ∧ Done 117 3 EGqt w wr us n j F) (fun i _ => n - (intOf i).toNat)
  case atStart => exact ⟨0, _, Nat.zero_le _, rfl, HM.out, HB.out, fun i hi => absurd hi (by omega)⟩
  case round =>
    clear HM HB
    obtain ⟨j, F, hj, rfl, HR⟩ := hrel
    by_cases hlt : j < n
    · have CL := cells_later HA.out HR.bel hg
      have c0 : wr.cell? ⟨g, o + j * 3, none⟩ = some (F0 j 0) := CL j ‹j < n› 0 (by omega)
      have c1 : wr.cell? ⟨g, o + j * 3 + 1, none⟩ = some (F0 j 1) := CL j ‹j < n› 1 (by omega)
      have c2 : wr.cell? ⟨g, o + j * 3 + 2, none⟩ = some (F0 j 2) := CL j ‹j < n› 2 (by omega)
      clear CL
      have RA : Hid (GqtAt wr S (.agg (arrGqt (F0 j))) (us.getD j default)) := ⟨_, rfl, keepsGqt _ _ _ _ _ _ (HH.out j hlt) (fun g hg => HR.bel.block g (hS g hg)) (fun _ _ => rfl)⟩
      have FW := Seg.hid (HK.out j hlt)
      have hbr : Hid (∀ g, S g → g < wr.heap.size) := fun g hg => Nat.lt_of_lt_of_le (hS g hg) HR.bel.size
      have ST := Seg.hid (fun w1 vs hv b1 he => Done.step keepsGqt growsGqt (w1 := w1) HR vs hv b1 he)
      have HM := Seg.hid HR.mine
      have h0 : (0 : Int) ≤ (j : Int) := by omega
      have h1 : (j : Int) < (n : Int) := by omega
      clear HR
      generalize us.getD j default = uj at *
      go_wp2_with fail
      refine (toGet_any _ uj wr S RA.out hbr.out FW.out).mono ?_
      rintro e w1 ⟨v1, rfl, ⟨f1, rfl, he1⟩, b1⟩
      have S1 := Seg.hid (ST.out w1 (arrGqt f1).toList rfl b1 (keepsGqt _ _ _ _ _ _ he1 (fun _ _ => rfl) (fun q hq => by
        match q, hq with
        | 0, _ => rfl
        | 1, _ => rfl
        | 2, _ => rfl
        )))
      have M1 : Hid (w1.there w.heap.size (j * 3) (arrGqt f1).size) := Own.mine_there (o := j * 3) (m := 3) (HM.out.below b1 HM.out.lt) (by omega)
      have ON := Seg.hid (oneGqt he1)
      clear b1 he1
      go_wp2_with (refine wpList_store_mid rfl 117 _ _ rfl w.heap.size (j * 3) (arrGqt f1) rfl rfl ?ht infoGqt ON.out ?_; case ht => exact M1.out)
      go_roundw
      case rel => exact ⟨j + 1, _, by omega, by go_num, S1.out⟩
      case measure => simp [intOf]; omega
    · have : j = n := by omega
      subst this
      go_wp2
      go_ret
      exact ⟨F, rfl, HR⟩
theorem toGetS_any (v : Value) (us : List Gqt) (w : World) (S : Nat → Prop) (hv : LAt 3 EGqt w S v us) (hS : ∀ g, S g → g < w.heap.size) (hf : szL szGqt us ≤ 1048576) :
    Calls Try.prog 37 #[v] w fun e w' => ∃ v', e = .returned v' ∧ LAt 3 EGqt w' (seg w.heap.size w'.heap.size) v' us ∧ Below w.heap.size w w' := by
  obtain ⟨hn, A, c, rfl, h⟩ := hv
  by_cases hz : us.length = 0
  · obtain rfl := List.length_eq_zero_iff.1 hz
    refine (toGetS_none A c w).mono fun e w' ⟨v', a1, ⟨A', c', a2⟩, a3⟩ => ⟨v', a1, ?_, a3⟩
    rw [a2]
    exact LAt.nil _ _ _ _
  obtain ⟨g, o, F, rfl, hg, hc, hcell, hel⟩ := h.resolve_left hz
  exact (toGetS_core g o us.length c us F w S (szL_len _ hf) hc (hS g hg) hS (fun i hi => szL_one _ hf hi) hel hcell).mono fun e w' ⟨F, a1, a2⟩ => ⟨_, a1, a2.all growsGqt hn, a2.bel⟩
theorem eqGetS_none (A A' : Option Addr) (c c' : Nat) (w : World) :
    Calls Try.prog 46 #[.slice A 0 c, .slice A' 0 c'] w fun e w' => e = .returned (.bool true) ∧ Below w.heap.size w w' := by
  go_enter Try.func46, Try.ntmps46
  go_wp2
  go_loop [5] (fun i => i = .int .i64 0) (fun _ => 0)
  case atStart => rfl
  case round =>
    subst hrel
    go_wp2
    go_ret
    exact ⟨rfl, Below.refl _ _⟩
set_option maxHeartbeats 1600000 in
theorem eqGetS_core (g o g' o' n c c' : Nat) (us : List Gqt) (F F' : Nat → Nat → Value) (w : World) (S S' : Nat → Prop) (hn : n ≤ 9223372036854775807) (hc : n ≤ c) (hc' : n ≤ c') (hg : g < w.heap.size) (hg' : g' < w.heap.size) (hS : ∀ g, S g → g < w.heap.size) (hS' : ∀ g, S' g → g < w.heap.size)
    (he : ∀ i, i < n → EGqt w S (F i) (us.getD i default)) (he' : ∀ i, i < n → EGqt w S' (F' i) (us.getD i default))
    (ha : ∀ i, i < n → ∀ j, j < 3 → w.cell? ⟨g, o + i * 3 + j, none⟩ = some (F i j)) (ha' : ∀ i, i < n → ∀ j, j < 3 → w.cell? ⟨g', o' + i * 3 + j, none⟩ = some (F' i j)) :
    Calls Try.prog 46 #[.slice (some ⟨g, o, none⟩) n c, .slice (some ⟨g', o', none⟩) n c'] w fun e w' => e = .returned (.bool true) ∧ Below w.heap.size w w' := by
  have HA := Seg.hid ha; have HA' := Seg.hid ha'; have HH := Seg.hid he; have HH' := Seg.hid he'
  clear ha ha' he he'
  go_enter Try.func46, Try.ntmps46
  go_wp2
  go_loopw [5] (fun i wr => ∃ (k : Nat), k ≤ n ∧ i = .int .i64 k ∧ Hid (Below w.heap.size w wr)) (fun i _ => n - (intOf i).toNat)
  case atStart => exact ⟨0, Nat.zero_le _, rfl, Below.refl _ _⟩
  case round =>
    obtain ⟨k, hk, rfl, HB⟩ := hrel
    by_cases hlt2 : k < n
    · have CL := cells_later HA.out HB.out hg
      have CL' := cells_later HA'.out HB.out hg'
      have c0 : wr.cell? ⟨g, o + k * 3, none⟩ = some (F k 0) := CL k ‹k < n› 0 (by omega)
      have c1 : wr.cell? ⟨g, o + k * 3 + 1, none⟩ = some (F k 1) := CL k ‹k < n› 1 (by omega)
      have c2 : wr.cell? ⟨g, o + k * 3 + 2, none⟩ = some (F k 2) := CL k ‹k < n› 2 (by omega)
      have d0 : wr.cell? ⟨g', o' + k * 3, none⟩ = some (F' k 0) := CL' k ‹k < n› 0 (by omega)
      have d1 : wr.cell? ⟨g', o' + k * 3 + 1, none⟩ = some (F' k 1) := CL' k ‹k < n› 1 (by omega)
      have d2 : wr.cell? ⟨g', o' + k * 3 + 2, none⟩ = some (F' k 2) := CL' k ‹k < n› 2 (by omega)
      clear CL CL'
      have RA : Hid (GqtAt wr.drew S (.agg (arrGqt (F k))) (us.getD k default)) := ⟨_, rfl, keepsGqt _ _ _ _ _ _ (HH.out k hlt2) (fun g hg => HB.out.drew.block g (hS g hg)) (fun _ _ => rfl)⟩
      have RB : Hid (GqtAt wr.drew S' (.agg (arrGqt (F' k))) (us.getD k default)) := ⟨_, rfl, keepsGqt _ _ _ _ _ _ (HH'.out k hlt2) (fun g hg => HB.out.drew.block g (hS' g hg)) (fun _ _ => rfl)⟩
      have hbr : Hid (∀ g, S g → g < wr.drew.heap.size) := fun g hg => Nat.lt_of_lt_of_le (hS g hg) HB.out.size
      have hbr' : Hid (∀ g, S' g → g < wr.drew.heap.size) := fun g hg => Nat.lt_of_lt_of_le (hS' g hg) HB.out.size
      have h0 : (0 : Int) ≤ (k : Int) := by omega
      have h1 : (k : Int) < (n : Int) := by omega
      generalize us.getD k default = uk at *
      go_wp2_with fail
      go_region_with (go_at_call 88; refine (eqGet_any _ _ uk wr.drew S S' RA.out RB.out hbr.out hbr'.out).mono ?_; rintro e w1 ⟨rfl, b1⟩; have B1 : Hid (Below w.heap.size w w1) := chainD HB.out b1; clear b1)
      all_goals
        go_wp2
        go_roundw
        case rel => exact ⟨k + 1, by omega, by go_num, B1.out⟩
        case measure => simp [intOf]; omega
    · have : k = n := by omega
      subst this
      go_wp2
      go_ret
      exact ⟨rfl, HB.out⟩
theorem eqGetS_any (v v' : Value) (us : List Gqt) (w : World) (S S' : Nat → Prop) (hv : LAt 3 EGqt w S v us) (hv' : LAt 3 EGqt w S' v' us) (hS : ∀ g, S g → g < w.heap.size) (hS' : ∀ g, S' g → g < w.heap.size) :
    Calls Try.prog 46 #[v, v'] w fun e w' => e = .returned (.bool true) ∧ Below w.heap.size w w' := by
  obtain ⟨hn, A, c, rfl, h⟩ := hv
  obtain ⟨_, A', c', rfl, h'⟩ := hv'
  by_cases hz : us.length = 0
  · rw [hz]
    exact eqGetS_none A A' c c' w
  obtain ⟨g, o, F, rfl, hg, hc, hcell, hel⟩ := h.resolve_left hz
  obtain ⟨g', o', F', rfl, hg', hc', hcell', hel'⟩ := h'.resolve_left hz
  exact eqGetS_core g o g' o' us.length c c' us F F' w S S' hn hc hc' (hS g hg) (hS' g' hg') hS hS' hel hel' hcell hcell'
end Go.Proofs.Ytkibaimemomjpaa.Ls
namespace Go.Proofs.Ytkibaimemomjpaa.Ls
set_option maxRecDepth 8000
open Go.RowKit
open Recs
set_option linter.unusedVariables false
structure Qry where
  fr : ByteArray
  jn : ByteArray
  wn : Int
  on : ByteArray
  lk : ByteArray
  wh : List Stp
  gps : List ByteArray
  win : Int
  size : Int
  every : Int
  gets : List Gqt
  deriving Inhabited
def EQry : Elt Qry := fun w S f u => f 0 = .string u.fr ∧ f 1 = .string u.jn ∧ f 2 = .int .i64 u.wn ∧ f 3 = .string u.on ∧ f 4 = .string u.lk ∧ LAt 3 EStp w S (f 5) u.wh ∧ StrsAt w S (f 6) u.gps ∧ f 7 = .int .i64 u.win ∧ f 8 = .int .i64 u.size ∧ f 9 = .int .i64 u.every ∧ LAt 3 EGqt w S (f 10) u.gets
theorem keepsQry : Keeps 11 EQry := fun w w' S f f' t h hk hf => by
  obtain ⟨h0, h1, h2, h3, h4, h5, h6, h7, h8, h9, h10⟩ := h
  exact ⟨by rw [hf 0 (by omega)]; exact h0, by rw [hf 1 (by omega)]; exact h1, by rw [hf 2 (by omega)]; exact h2, by rw [hf 3 (by omega)]; exact h3, by rw [hf 4 (by omega)]; exact h4, by rw [hf 5 (by omega)]; exact h5.keep keepsStp hk, by rw [hf 6 (by omega)]; exact h6.keep keepsStr hk, by rw [hf 7 (by omega)]; exact h7, by rw [hf 8 (by omega)]; exact h8, by rw [hf 9 (by omega)]; exact h9, by rw [hf 10 (by omega)]; exact h10.keep keepsGqt hk⟩
theorem growsQry : Grows EQry := fun w S S' f t h hs => by
  obtain ⟨h0, h1, h2, h3, h4, h5, h6, h7, h8, h9, h10⟩ := h
  exact ⟨h0, h1, h2, h3, h4, h5.mono growsStp hs, h6.mono growsStr hs, h7, h8, h9, h10.mono growsGqt hs⟩
def arrQry (f : Nat → Value) : Array Value := #[f 0, f 1, f 2, f 3, f 4, f 5, f 6, f 7, f 8, f 9, f 10]
theorem oneQry {w : World} {S : Nat → Prop} {f : Nat → Value} {u : Qry} (h : EQry w S f u) : (arrQry f).all (·.oneCell') = true := by
  obtain ⟨h0, h1, h2, h3, h4, h5, h6, h7, h8, h9, h10⟩ := h
  have o0 : (f 0).oneCell' = true := by rw [h0]; rfl
  have o1 : (f 1).oneCell' = true := by rw [h1]; rfl
  have o2 : (f 2).oneCell' = true := by rw [h2]; rfl
  have o3 : (f 3).oneCell' = true := by rw [h3]; rfl
  have o4 : (f 4).oneCell' = true := by rw [h4]; rfl
  have o5 : (f 5).oneCell' = true := h5.one
  have o6 : (f 6).oneCell' = true := h6.one
  have o7 : (f 7).oneCell' = true := by rw [h7]; rfl
  have o8 : (f 8).oneCell' = true := by rw [h8]; rfl
  have o9 : (f 9).oneCell' = true := by rw [h9]; rfl
  have o10 : (f 10).oneCell' = true := h10.one
  simp [arrQry, o0, o1, o2, o3, o4, o5, o6, o7, o8, o9, o10]
def QryAt (w : World) (S : Nat → Prop) (v : Value) (u : Qry) : Prop := ∃ f, v = .agg (arrQry f) ∧ EQry w S f u
abbrev QrysAt := LAt 11 EQry
theorem QryAt.keep {w w' : World} {S : Nat → Prop} {v : Value} {u : Qry} (h : QryAt w S v u) (hk : ∀ g, S g → w'.heap[g]? = w.heap[g]?) : QryAt w' S v u := by
  obtain ⟨f, h1, h2⟩ := h
  exact ⟨f, h1, keepsQry _ _ _ _ _ _ h2 hk (fun _ _ => rfl)⟩
theorem QryAt.mono {w : World} {S S' : Nat → Prop} {v : Value} {u : Qry} (h : QryAt w S v u) (hs : ∀ g, S g → S' g) : QryAt w S' v u := by
  obtain ⟨f, h1, h2⟩ := h
  exact ⟨f, h1, growsQry _ _ _ _ _ h2 hs⟩
theorem QryAt.below {w w' : World} {B : Nat} {S : Nat → Prop} {v : Value} {u : Qry} (h : QryAt w S v u) (hb : Below B w w') (hs : ∀ g, S g → g < B) : QryAt w' S v u := h.keep fun g hg => hb.block g (hs g hg)
def szQry (u : Qry) : Nat := u.fr.size + u.jn.size + u.on.size + u.lk.size + szL szStp (u.wh) + szL ByteArray.size (u.gps) + szL szGqt (u.gets)
def FineQry (u : Qry) : Prop := u.fr.size ≤ maxLen ∧ u.jn.size ≤ maxLen ∧ I64 u.wn ∧ u.on.size ≤ maxLen ∧ u.lk.size ≤ maxLen ∧ FineL FineStp u.wh ∧ FineL FineStr u.gps ∧ I64 u.win ∧ I64 u.size ∧ I64 u.every ∧ FineL FineGqt u.gets
theorem infoQry : (Try.prog.info? 34).map (·.size) = some 11 := by kernel_rfl
theorem infoLQry : (Try.prog.info? 26).map (·.size) = some 11 := by kernel_rfl
theorem infoZQry : (Try.prog.info? 34).map (fun i => (i.zero, i.size, i.bytes)) = some (some (.agg #[.string ByteArray.empty, .string ByteArray.empty, .int .i64 0, .string ByteArray.empty, .string ByteArray.empty, .slice none 0 0, .slice none 0 0, .int .i64 0, .int .i64 0, .int .i64 0, .slice none 0 0]), 11, 168) := by kernel_rfl
set_option maxHeartbeats 800000 in
theorem szQuery_any (v : Value) (u : Qry) (l : Int) (w : World) (S : Nat → Prop) (h3 : -1 ≤ l) (h4 : l ≤ 1048576) (hv : QryAt w S v u) (hS : ∀ g, S g → g < w.heap.size) (hf : FineQry u) :
    Calls Try.prog 5 #[v, .int .i64 l] w fun e w' => ∃ q, e = .returned (.int .i64 q) ∧ -1 ≤ q ∧ q ≤ l ∧ Lf l (szQry u) q ∧ Below w.heap.size w w' := by
  obtain ⟨f, rfl, y0, y1, y2, y3, y4, y5, y6, y7, y8, y9, y10⟩ := hv
  try simp only [arrQry]
  rw [show f 0 = _ from y0]
  clear y0
  rw [show f 1 = _ from y1]
  clear y1
  rw [show f 2 = _ from y2]
  clear y2
  rw [show f 3 = _ from y3]
  clear y3
  rw [show f 4 = _ from y4]
  clear y4
  obtain ⟨A5, c5, g5⟩ := y5.form
  rw [g5] at y5 ⊢
  have H5 := Seg.hid y5
  clear y5 g5
  obtain ⟨A6, c6, g6⟩ := y6.form
  rw [g6] at y6 ⊢
  have H6 := Seg.hid y6
  clear y6 g6
  rw [show f 7 = _ from y7]
  clear y7
  rw [show f 8 = _ from y8]
  clear y8
  rw [show f 9 = _ from y9]
  clear y9
  obtain ⟨A10, c10, g10⟩ := y10.form
  rw [g10] at y10 ⊢
  have H10 := Seg.hid y10
  clear y10 g10
  obtain ⟨z0, z1, z2, z3, z4, z5, z6, z7, z8, z9, z10⟩ := hf
  unfold maxLen at z0
  unfold maxLen at z1
  unfold maxLen at z3
  unfold maxLen at z4
  have Z5 := Seg.hid z5
  have Z6 := Seg.hid z6
  have Z10 := Seg.hid z10
  clear z2 z5 z6 z7 z8 z9 z10
  go_enter Try.func5, Try.ntmps5
  by_cases k0 : l - (u.fr.size : Int) < 0
  · go_wp2
    go_ret
    exact ⟨_, rfl, by omega, by omega, by simp only [szQry]; exact ⟨fun _ => by omega, fun _ => by omega⟩, below1 _ _⟩
  by_cases k1 : (l - (u.fr.size : Int)) - (u.jn.size : Int) < 0
  · go_wp2
    go_ret
    exact ⟨_, rfl, by omega, by omega, by simp only [szQry]; exact ⟨fun _ => by omega, fun _ => by omega⟩, below1 _ _⟩
  by_cases k3 : ((l - (u.fr.size : Int)) - (u.jn.size : Int)) - (u.on.size : Int) < 0
  · go_wp2
    go_ret
    exact ⟨_, rfl, by omega, by omega, by simp only [szQry]; exact ⟨fun _ => by omega, fun _ => by omega⟩, below1 _ _⟩
  by_cases k4 : (((l - (u.fr.size : Int)) - (u.jn.size : Int)) - (u.on.size : Int)) - (u.lk.size : Int) < 0
  · go_wp2
    go_ret
    exact ⟨_, rfl, by omega, by omega, by simp only [szQry]; exact ⟨fun _ => by omega, fun _ => by omega⟩, below1 _ _⟩
  go_wp2_with fail
  refine (szStepS_any _ u.wh _ (w.alloc _) S (by omega) (by omega) (H5.out.below keepsStp (below1 w _) hS) (fun g hg => by rw [hsz]; have := hS g hg; omega) Z5.out).mono ?_
  rintro e w1 ⟨q1, rfl, a1, b1, L1', d1⟩
  have B1 := Seg.hid (chain (below1 w _) d1)
  have L1 := Seg.hid L1'
  have T1 : Hid (w1.heap[w.heap.size]? = some (.cells #[.string u.fr, .string u.jn, .int .i64 u.wn, .string u.on, .string u.lk, .slice A5 u.wh.length c5, .slice A6 u.gps.length c6, .int .i64 u.win, .int .i64 u.size, .int .i64 u.every, .slice A10 u.gets.length c10] 26 (0, 0))) := (d1.block w.heap.size (by rw [hsz]; omega)).trans (heap_alloc_new _ _)
  have s1 : w.heap.size < w1.heap.size := (Array.getElem?_eq_some_iff.1 T1.out).1
  have p16 : w1.cell? ⟨w.heap.size, 6, none⟩ = some (.slice A6 u.gps.length c6) := cell_of_row w1 _ 6 _ _ (0, 0) T1.out
  have p110 : w1.cell? ⟨w.heap.size, 10, none⟩ = some (.slice A10 u.gets.length c10) := cell_of_row w1 _ 10 _ _ (0, 0) T1.out
  clear d1 L1'
  by_cases k5 : q1 < 0
  · go_wp2
    go_ret
    exact ⟨_, rfl, by omega, by omega, by have m0 := L1.out.2 (by omega); simp only [szQry]; exact ⟨fun _ => by omega, fun _ => by omega⟩, B1.out⟩
  go_wp2_with fail
  refine (szStringS_any _ u.gps _ w1 S (by omega) (by omega) (H6.out.below keepsStr B1.out hS) (fun g hg => Nat.lt_of_lt_of_le (hS g hg) B1.out.size) Z6.out).mono ?_
  rintro e w2 ⟨q2, rfl, a2, b2, L2', d2⟩
  have B2 := Seg.hid (chain B1.out d2)
  have L2 := Seg.hid L2'
  have T2 : Hid (w2.heap[w.heap.size]? = some (.cells #[.string u.fr, .string u.jn, .int .i64 u.wn, .string u.on, .string u.lk, .slice A5 u.wh.length c5, .slice A6 u.gps.length c6, .int .i64 u.win, .int .i64 u.size, .int .i64 u.every, .slice A10 u.gets.length c10] 26 (0, 0))) := (d2.block w.heap.size s1).trans T1.out
  have s2 : w.heap.size < w2.heap.size := (Array.getElem?_eq_some_iff.1 T2.out).1
  have p210 : w2.cell? ⟨w.heap.size, 10, none⟩ = some (.slice A10 u.gets.length c10) := cell_of_row w2 _ 10 _ _ (0, 0) T2.out
  clear d2 L2'
  by_cases k6 : q2 < 0
  · go_wp2
    go_ret
    exact ⟨_, rfl, by omega, by omega, by have m0 := L1.out.1 (by omega); have m1 := L2.out.2 (by omega); simp only [szQry]; exact ⟨fun _ => by omega, fun _ => by omega⟩, B2.out⟩
  go_wp2_with fail
  refine (szGetS_any _ u.gets _ w2 S (by omega) (by omega) (H10.out.below keepsGqt B2.out hS) (fun g hg => Nat.lt_of_lt_of_le (hS g hg) B2.out.size) Z10.out).mono ?_
  rintro e w3 ⟨q3, rfl, a3, b3, L3', d3⟩
  have B3 := Seg.hid (chain B2.out d3)
  have L3 := Seg.hid L3'
  clear d3 L3'
  by_cases k10 : q3 < 0
  · go_wp2
    go_ret
    exact ⟨_, rfl, by omega, by omega, by have m0 := L1.out.1 (by omega); have m1 := L2.out.1 (by omega); have m2 := L3.out.2 (by omega); simp only [szQry]; exact ⟨fun _ => by omega, fun _ => by omega⟩, B3.out⟩
  go_wp2
  go_ret
  exact ⟨_, rfl, by omega, by omega, by have m0 := L1.out.1 (by omega); have m1 := L2.out.1 (by omega); have m2 := L3.out.1 (by omega); simp only [szQry]; exact ⟨fun _ => by omega, fun _ => by omega⟩, B3.out⟩
set_option maxHeartbeats 1600000 in
theorem toQuery_any (v : Value) (u : Qry) (w : World) (S : Nat → Prop) (hv : QryAt w S v u) (hS : ∀ g, S g → g < w.heap.size) (hf : szQry u ≤ 1048576) :
    Calls Try.prog 7 #[v] w fun e w' => ∃ v', e = .returned v' ∧ QryAt w' (seg w.heap.size w'.heap.size) v' u ∧ Below w.heap.size w w' := by
  obtain ⟨f, rfl, y0, y1, y2, y3, y4, y5, y6, y7, y8, y9, y10⟩ := hv
  try simp only [arrQry]
  rw [show f 0 = _ from y0]
  clear y0
  rw [show f 1 = _ from y1]
  clear y1
  rw [show f 2 = _ from y2]
  clear y2
  rw [show f 3 = _ from y3]
  clear y3
  rw [show f 4 = _ from y4]
  clear y4
  obtain ⟨A5, c5, g5⟩ := y5.form
  rw [g5] at y5 ⊢
  have H5 := Seg.hid y5
  clear y5 g5
  obtain ⟨A6, c6, g6⟩ := y6.form
  rw [g6] at y6 ⊢
  have H6 := Seg.hid y6
  clear y6 g6
  rw [show f 7 = _ from y7]
  clear y7
  rw [show f 8 = _ from y8]
  clear y8
  rw [show f 9 = _ from y9]
  clear y9
  obtain ⟨A10, c10, g10⟩ := y10.form
  rw [g10] at y10 ⊢
  have H10 := Seg.hid y10
  clear y10 g10
  unfold szQry at hf
  go_enter Try.func7, Try.ntmps7
  go_wp2_with fail
  refine (toStepS_any _ u.wh (((w.alloc _).alloc _).alloc _) S (H5.out.below keepsStp (below3 w _ _ _) hS) (fun g hg => by rw [hsz, hsz, hsz]; have := hS g hg; omega) (by omega)).mono ?_
  rintro e w1 ⟨v1, rfl, l1, b1⟩
  have B1 := Seg.hid (chain (below3 w _ _ _) b1)
  have Ta1 : Hid (w1.heap[w.heap.size]? = some (.cells #[.string u.fr, .string u.jn, .int .i64 u.wn, .string u.on, .string u.lk, .slice A5 u.wh.length c5, .slice A6 u.gps.length c6, .int .i64 u.win, .int .i64 u.size, .int .i64 u.every, .slice A10 u.gets.length c10] 26 (0, 0))) := (b1.block w.heap.size (by rw [hsz, hsz, hsz]; omega)).trans (at3z w _ _ _)
  have Tr1 : Hid (w1.heap[w.heap.size + 1]? = some (.cells #[.string ByteArray.empty, .string ByteArray.empty, .int .i64 0, .string ByteArray.empty, .string ByteArray.empty, .slice none 0 0, .slice none 0 0, .int .i64 0, .int .i64 0, .int .i64 0, .slice none 0 0] 34 (0, 0))) := (b1.block (w.heap.size + 1) (by rw [hsz, hsz, hsz]; omega)).trans (at3 w _ _ _)
  have To1 : Hid (w1.heap[w.heap.size + 1 + 1]? = some (.cells #[.string u.fr, .string u.jn, .int .i64 u.wn, .string u.on, .string u.lk, .slice none 0 0, .slice none 0 0, .int .i64 0, .int .i64 0, .int .i64 0, .slice none 0 0] 34 (0, 0))) := (b1.block (w.heap.size + 1 + 1) (by rw [hsz, hsz, hsz]; omega)).trans (Cells.at3' w _ _ _)
  have s1 : w.heap.size + 3 ≤ w1.heap.size := by have := b1.size; rw [hsz, hsz, hsz] at this; omega
  have M1 : Hid (LAt 3 EStp w1 (seg (w.heap.size + 3) w1.heap.size) v1 u.wh) := by
    rw [hsz, hsz, hsz] at l1
    exact l1
  obtain ⟨Y1, x1, r1⟩ := M1.out.form
  subst r1
  clear b1 l1
  have N11 := M1
  have pa16 : w1.cell? ⟨w.heap.size, 6, none⟩ = some (.slice A6 u.gps.length c6) := cell_of_row w1 _ 6 _ _ (0, 0) Ta1.out
  have po15 : (w1).cell? ⟨w.heap.size + 1 + 1, 5, none⟩ = some (.slice none 0 0) := cell_of_row (w1) _ 5 _ _ (0, 0) (To1.out)
  have pf15 : (w1).frozen? ⟨w.heap.size + 1 + 1, 5, none⟩ = false := frozen_of_row (w1) _ 5 _ _ (To1.out)
  have qo15 : Hid (((w1.setCell ⟨w.heap.size + 1 + 1, 5, none⟩ (.slice Y1 u.wh.length x1))).heap[w.heap.size + 1 + 1]? = some (.cells #[.string u.fr, .string u.jn, .int .i64 u.wn, .string u.on, .string u.lk, .slice Y1 u.wh.length x1, .slice none 0 0, .int .i64 0, .int .i64 0, .int .i64 0, .slice none 0 0] 34 (0, 0))) := heap_setCell_same (w1) (w.heap.size + 1 + 1) 5 _ _ (.slice Y1 u.wh.length x1) (To1.out)
  have Uo1 := Seg.hid (qo15.out)
  have Ur1 := Seg.hid ((heap_setCell_other (w1) ⟨w.heap.size + 1 + 1, 5, none⟩ (w.heap.size + 1) (.slice Y1 u.wh.length x1) (by simp)).trans (Tr1.out))
  have Ua1 := Seg.hid ((heap_setCell_other (w1) ⟨w.heap.size + 1 + 1, 5, none⟩ w.heap.size (.slice Y1 u.wh.length x1) (by simp; omega)).trans (Ta1.out))
  have D1 : Hid (Below w.heap.size w (w1.setCell ⟨w.heap.size + 1 + 1, 5, none⟩ (.slice Y1 u.wh.length x1))) := (B1.out).setCell (p := ⟨w.heap.size + 1 + 1, 5, none⟩) (by simp; omega) (.slice Y1 u.wh.length x1)
  have N11' : Hid (LAt 3 EStp (w1.setCell ⟨w.heap.size + 1 + 1, 5, none⟩ (.slice Y1 u.wh.length x1)) (seg (w.heap.size + 3) w1.heap.size) (.slice Y1 u.wh.length x1) u.wh) := N11.out.keep keepsStp (fun g hg => by have := hg.1; rw [heap_setCell_other _ _ _ _ (by show _ ≠ w.heap.size + 1 + 1; omega)])
  go_wp2_with fail
  refine (toStringS_any _ u.gps (w1.setCell ⟨w.heap.size + 1 + 1, 5, none⟩ (.slice Y1 u.wh.length x1)) S (H6.out.below keepsStr D1.out hS) (fun g hg => Nat.lt_of_lt_of_le (hS g hg) D1.out.size) (by omega)).mono ?_
  rintro e w2 ⟨v2, rfl, l2, b2⟩
  have B2 := Seg.hid (chain D1.out b2)
  have z2 : (w1.setCell ⟨w.heap.size + 1 + 1, 5, none⟩ (.slice Y1 u.wh.length x1)).heap.size = w1.heap.size := by simp
  have Ta2 := Seg.hid ((b2.block w.heap.size (by omega)).trans Ua1.out)
  have Tr2 := Seg.hid ((b2.block (w.heap.size + 1) (by omega)).trans Ur1.out)
  have To2 := Seg.hid ((b2.block (w.heap.size + 1 + 1) (by omega)).trans Uo1.out)
  have s2 : w.heap.size + 3 ≤ w2.heap.size := by have := b2.size; omega
  have M2 : Hid (StrsAt w2 (seg (w.heap.size + 3) w2.heap.size) v2 u.gps) := l2.mono growsStr (fun g hg => ⟨by have := hg.1; omega, hg.2⟩)
  have N21 : Hid (LAt 3 EStp w2 (seg (w.heap.size + 3) w2.heap.size) (.slice Y1 u.wh.length x1) u.wh) := ((N11'.out.keep keepsStp (fun g hg => b2.block g (by have := hg.2; omega))).mono growsStp (fun g hg => ⟨hg.1, by have := b2.size; have := hg.2; omega⟩))
  clear z2
  obtain ⟨Y2, x2, r2⟩ := M2.out.form
  subst r2
  clear b2 l2
  have N22 := M2
  have pa27 : w2.cell? ⟨w.heap.size, 7, none⟩ = some (.int .i64 u.win) := cell_of_row w2 _ 7 _ _ (0, 0) Ta2.out
  have pa28 : w2.cell? ⟨w.heap.size, 8, none⟩ = some (.int .i64 u.size) := cell_of_row w2 _ 8 _ _ (0, 0) Ta2.out
  have pa29 : w2.cell? ⟨w.heap.size, 9, none⟩ = some (.int .i64 u.every) := cell_of_row w2 _ 9 _ _ (0, 0) Ta2.out
  have pa210 : w2.cell? ⟨w.heap.size, 10, none⟩ = some (.slice A10 u.gets.length c10) := cell_of_row w2 _ 10 _ _ (0, 0) Ta2.out
  have po26 : (w2).cell? ⟨w.heap.size + 1 + 1, 6, none⟩ = some (.slice none 0 0) := cell_of_row (w2) _ 6 _ _ (0, 0) (To2.out)
  have pf26 : (w2).frozen? ⟨w.heap.size + 1 + 1, 6, none⟩ = false := frozen_of_row (w2) _ 6 _ _ (To2.out)
  have qo26 : Hid (((w2.setCell ⟨w.heap.size + 1 + 1, 6, none⟩ (.slice Y2 u.gps.length x2))).heap[w.heap.size + 1 + 1]? = some (.cells #[.string u.fr, .string u.jn, .int .i64 u.wn, .string u.on, .string u.lk, .slice Y1 u.wh.length x1, .slice Y2 u.gps.length x2, .int .i64 0, .int .i64 0, .int .i64 0, .slice none 0 0] 34 (0, 0))) := heap_setCell_same (w2) (w.heap.size + 1 + 1) 6 _ _ (.slice Y2 u.gps.length x2) (To2.out)
  have po27 : ((w2.setCell ⟨w.heap.size + 1 + 1, 6, none⟩ (.slice Y2 u.gps.length x2))).cell? ⟨w.heap.size + 1 + 1, 7, none⟩ = some (.int .i64 0) := cell_of_row ((w2.setCell ⟨w.heap.size + 1 + 1, 6, none⟩ (.slice Y2 u.gps.length x2))) _ 7 _ _ (0, 0) (qo26.out)
  have pf27 : ((w2.setCell ⟨w.heap.size + 1 + 1, 6, none⟩ (.slice Y2 u.gps.length x2))).frozen? ⟨w.heap.size + 1 + 1, 7, none⟩ = false := frozen_of_row ((w2.setCell ⟨w.heap.size + 1 + 1, 6, none⟩ (.slice Y2 u.gps.length x2))) _ 7 _ _ (qo26.out)
  have qo27 : Hid ((((w2.setCell ⟨w.heap.size + 1 + 1, 6, none⟩ (.slice Y2 u.gps.length x2)).setCell ⟨w.heap.size + 1 + 1, 7, none⟩ (.int .i64 u.win))).heap[w.heap.size + 1 + 1]? = some (.cells #[.string u.fr, .string u.jn, .int .i64 u.wn, .string u.on, .string u.lk, .slice Y1 u.wh.length x1, .slice Y2 u.gps.length x2, .int .i64 u.win, .int .i64 0, .int .i64 0, .slice none 0 0] 34 (0, 0))) := heap_setCell_same ((w2.setCell ⟨w.heap.size + 1 + 1, 6, none⟩ (.slice Y2 u.gps.length x2))) (w.heap.size + 1 + 1) 7 _ _ (.int .i64 u.win) (qo26.out)
  have po28 : (((w2.setCell ⟨w.heap.size + 1 + 1, 6, none⟩ (.slice Y2 u.gps.length x2)).setCell ⟨w.heap.size + 1 + 1, 7, none⟩ (.int .i64 u.win))).cell? ⟨w.heap.size + 1 + 1, 8, none⟩ = some (.int .i64 0) := cell_of_row (((w2.setCell ⟨w.heap.size + 1 + 1, 6, none⟩ (.slice Y2 u.gps.length x2)).setCell ⟨w.heap.size + 1 + 1, 7, none⟩ (.int .i64 u.win))) _ 8 _ _ (0, 0) (qo27.out)
  have pf28 : (((w2.setCell ⟨w.heap.size + 1 + 1, 6, none⟩ (.slice Y2 u.gps.length x2)).setCell ⟨w.heap.size + 1 + 1, 7, none⟩ (.int .i64 u.win))).frozen? ⟨w.heap.size + 1 + 1, 8, none⟩ = false := frozen_of_row (((w2.setCell ⟨w.heap.size + 1 + 1, 6, none⟩ (.slice Y2 u.gps.length x2)).setCell ⟨w.heap.size + 1 + 1, 7, none⟩ (.int .i64 u.win))) _ 8 _ _ (qo27.out)
  have qo28 : Hid (((((w2.setCell ⟨w.heap.size + 1 + 1, 6, none⟩ (.slice Y2 u.gps.length x2)).setCell ⟨w.heap.size + 1 + 1, 7, none⟩ (.int .i64 u.win)).setCell ⟨w.heap.size + 1 + 1, 8, none⟩ (.int .i64 u.size))).heap[w.heap.size + 1 + 1]? = some (.cells #[.string u.fr, .string u.jn, .int .i64 u.wn, .string u.on, .string u.lk, .slice Y1 u.wh.length x1, .slice Y2 u.gps.length x2, .int .i64 u.win, .int .i64 u.size, .int .i64 0, .slice none 0 0] 34 (0, 0))) := heap_setCell_same (((w2.setCell ⟨w.heap.size + 1 + 1, 6, none⟩ (.slice Y2 u.gps.length x2)).setCell ⟨w.heap.size + 1 + 1, 7, none⟩ (.int .i64 u.win))) (w.heap.size + 1 + 1) 8 _ _ (.int .i64 u.size) (qo27.out)
  have po29 : ((((w2.setCell ⟨w.heap.size + 1 + 1, 6, none⟩ (.slice Y2 u.gps.length x2)).setCell ⟨w.heap.size + 1 + 1, 7, none⟩ (.int .i64 u.win)).setCell ⟨w.heap.size + 1 + 1, 8, none⟩ (.int .i64 u.size))).cell? ⟨w.heap.size + 1 + 1, 9, none⟩ = some (.int .i64 0) := cell_of_row ((((w2.setCell ⟨w.heap.size + 1 + 1, 6, none⟩ (.slice Y2 u.gps.length x2)).setCell ⟨w.heap.size + 1 + 1, 7, none⟩ (.int .i64 u.win)).setCell ⟨w.heap.size + 1 + 1, 8, none⟩ (.int .i64 u.size))) _ 9 _ _ (0, 0) (qo28.out)
  have pf29 : ((((w2.setCell ⟨w.heap.size + 1 + 1, 6, none⟩ (.slice Y2 u.gps.length x2)).setCell ⟨w.heap.size + 1 + 1, 7, none⟩ (.int .i64 u.win)).setCell ⟨w.heap.size + 1 + 1, 8, none⟩ (.int .i64 u.size))).frozen? ⟨w.heap.size + 1 + 1, 9, none⟩ = false := frozen_of_row ((((w2.setCell ⟨w.heap.size + 1 + 1, 6, none⟩ (.slice Y2 u.gps.length x2)).setCell ⟨w.heap.size + 1 + 1, 7, none⟩ (.int .i64 u.win)).setCell ⟨w.heap.size + 1 + 1, 8, none⟩ (.int .i64 u.size))) _ 9 _ _ (qo28.out)
  have qo29 : Hid ((((((w2.setCell ⟨w.heap.size + 1 + 1, 6, none⟩ (.slice Y2 u.gps.length x2)).setCell ⟨w.heap.size + 1 + 1, 7, none⟩ (.int .i64 u.win)).setCell ⟨w.heap.size + 1 + 1, 8, none⟩ (.int .i64 u.size)).setCell ⟨w.heap.size + 1 + 1, 9, none⟩ (.int .i64 u.every))).heap[w.heap.size + 1 + 1]? = some (.cells #[.string u.fr, .string u.jn, .int .i64 u.wn, .string u.on, .string u.lk, .slice Y1 u.wh.length x1, .slice Y2 u.gps.length x2, .int .i64 u.win, .int .i64 u.size, .int .i64 u.every, .slice none 0 0] 34 (0, 0))) := heap_setCell_same ((((w2.setCell ⟨w.heap.size + 1 + 1, 6, none⟩ (.slice Y2 u.gps.length x2)).setCell ⟨w.heap.size + 1 + 1, 7, none⟩ (.int .i64 u.win)).setCell ⟨w.heap.size + 1 + 1, 8, none⟩ (.int .i64 u.size))) (w.heap.size + 1 + 1) 9 _ _ (.int .i64 u.every) (qo28.out)
  have Uo2 := Seg.hid (qo29.out)
  have Ur2 := Seg.hid ((heap_setCell_other ((((w2.setCell ⟨w.heap.size + 1 + 1, 6, none⟩ (.slice Y2 u.gps.length x2)).setCell ⟨w.heap.size + 1 + 1, 7, none⟩ (.int .i64 u.win)).setCell ⟨w.heap.size + 1 + 1, 8, none⟩ (.int .i64 u.size))) ⟨w.heap.size + 1 + 1, 9, none⟩ (w.heap.size + 1) (.int .i64 u.every) (by simp)).trans ((heap_setCell_other (((w2.setCell ⟨w.heap.size + 1 + 1, 6, none⟩ (.slice Y2 u.gps.length x2)).setCell ⟨w.heap.size + 1 + 1, 7, none⟩ (.int .i64 u.win))) ⟨w.heap.size + 1 + 1, 8, none⟩ (w.heap.size + 1) (.int .i64 u.size) (by simp)).trans ((heap_setCell_other ((w2.setCell ⟨w.heap.size + 1 + 1, 6, none⟩ (.slice Y2 u.gps.length x2))) ⟨w.heap.size + 1 + 1, 7, none⟩ (w.heap.size + 1) (.int .i64 u.win) (by simp)).trans ((heap_setCell_other (w2) ⟨w.heap.size + 1 + 1, 6, none⟩ (w.heap.size + 1) (.slice Y2 u.gps.length x2) (by simp)).trans (Tr2.out)))))
  have Ua2 := Seg.hid ((heap_setCell_other ((((w2.setCell ⟨w.heap.size + 1 + 1, 6, none⟩ (.slice Y2 u.gps.length x2)).setCell ⟨w.heap.size + 1 + 1, 7, none⟩ (.int .i64 u.win)).setCell ⟨w.heap.size + 1 + 1, 8, none⟩ (.int .i64 u.size))) ⟨w.heap.size + 1 + 1, 9, none⟩ w.heap.size (.int .i64 u.every) (by simp; omega)).trans ((heap_setCell_other (((w2.setCell ⟨w.heap.size + 1 + 1, 6, none⟩ (.slice Y2 u.gps.length x2)).setCell ⟨w.heap.size + 1 + 1, 7, none⟩ (.int .i64 u.win))) ⟨w.heap.size + 1 + 1, 8, none⟩ w.heap.size (.int .i64 u.size) (by simp; omega)).trans ((heap_setCell_other ((w2.setCell ⟨w.heap.size + 1 + 1, 6, none⟩ (.slice Y2 u.gps.length x2))) ⟨w.heap.size + 1 + 1, 7, none⟩ w.heap.size (.int .i64 u.win) (by simp; omega)).trans ((heap_setCell_other (w2) ⟨w.heap.size + 1 + 1, 6, none⟩ w.heap.size (.slice Y2 u.gps.length x2) (by simp; omega)).trans (Ta2.out)))))
  have D2 : Hid (Below w.heap.size w ((((w2.setCell ⟨w.heap.size + 1 + 1, 6, none⟩ (.slice Y2 u.gps.length x2)).setCell ⟨w.heap.size + 1 + 1, 7, none⟩ (.int .i64 u.win)).setCell ⟨w.heap.size + 1 + 1, 8, none⟩ (.int .i64 u.size)).setCell ⟨w.heap.size + 1 + 1, 9, none⟩ (.int .i64 u.every))) := ((((B2.out).setCell (p := ⟨w.heap.size + 1 + 1, 6, none⟩) (by simp; omega) (.slice Y2 u.gps.length x2)).setCell (p := ⟨w.heap.size + 1 + 1, 7, none⟩) (by simp; omega) (.int .i64 u.win)).setCell (p := ⟨w.heap.size + 1 + 1, 8, none⟩) (by simp; omega) (.int .i64 u.size)).setCell (p := ⟨w.heap.size + 1 + 1, 9, none⟩) (by simp; omega) (.int .i64 u.every)
  have N21' : Hid (LAt 3 EStp ((((w2.setCell ⟨w.heap.size + 1 + 1, 6, none⟩ (.slice Y2 u.gps.length x2)).setCell ⟨w.heap.size + 1 + 1, 7, none⟩ (.int .i64 u.win)).setCell ⟨w.heap.size + 1 + 1, 8, none⟩ (.int .i64 u.size)).setCell ⟨w.heap.size + 1 + 1, 9, none⟩ (.int .i64 u.every)) (seg (w.heap.size + 3) w2.heap.size) (.slice Y1 u.wh.length x1) u.wh) := N21.out.keep keepsStp (fun g hg => by have := hg.1; rw [heap_setCell_other _ _ _ _ (by show _ ≠ w.heap.size + 1 + 1; omega), heap_setCell_other _ _ _ _ (by show _ ≠ w.heap.size + 1 + 1; omega), heap_setCell_other _ _ _ _ (by show _ ≠ w.heap.size + 1 + 1; omega), heap_setCell_other _ _ _ _ (by show _ ≠ w.heap.size + 1 + 1; omega)])
  have N22' : Hid (StrsAt ((((w2.setCell ⟨w.heap.size + 1 + 1, 6, none⟩ (.slice Y2 u.gps.length x2)).setCell ⟨w.heap.size + 1 + 1, 7, none⟩ (.int .i64 u.win)).setCell ⟨w.heap.size + 1 + 1, 8, none⟩ (.int .i64 u.size)).setCell ⟨w.heap.size + 1 + 1, 9, none⟩ (.int .i64 u.every)) (seg (w.heap.size + 3) w2.heap.size) (.slice Y2 u.gps.length x2) u.gps) := N22.out.keep keepsStr (fun g hg => by have := hg.1; rw [heap_setCell_other _ _ _ _ (by show _ ≠ w.heap.size + 1 + 1; omega), heap_setCell_other _ _ _ _ (by show _ ≠ w.heap.size + 1 + 1; omega), heap_setCell_other _ _ _ _ (by show _ ≠ w.heap.size + 1 + 1; omega), heap_setCell_other _ _ _ _ (by show _ ≠ w.heap.size + 1 + 1; omega)])
  go_wp2_with fail
  refine (toGetS_any _ u.gets ((((w2.setCell ⟨w.heap.size + 1 + 1, 6, none⟩ (.slice Y2 u.gps.length x2)).setCell ⟨w.heap.size + 1 + 1, 7, none⟩ (.int .i64 u.win)).setCell ⟨w.heap.size + 1 + 1, 8, none⟩ (.int .i64 u.size)).setCell ⟨w.heap.size + 1 + 1, 9, none⟩ (.int .i64 u.every)) S (H10.out.below keepsGqt D2.out hS) (fun g hg => Nat.lt_of_lt_of_le (hS g hg) D2.out.size) (by omega)).mono ?_
  rintro e w3 ⟨v3, rfl, l3, b3⟩
  have B3 := Seg.hid (chain D2.out b3)
  have z3 : ((((w2.setCell ⟨w.heap.size + 1 + 1, 6, none⟩ (.slice Y2 u.gps.length x2)).setCell ⟨w.heap.size + 1 + 1, 7, none⟩ (.int .i64 u.win)).setCell ⟨w.heap.size + 1 + 1, 8, none⟩ (.int .i64 u.size)).setCell ⟨w.heap.size + 1 + 1, 9, none⟩ (.int .i64 u.every)).heap.size = w2.heap.size := by simp
  have Ta3 := Seg.hid ((b3.block w.heap.size (by omega)).trans Ua2.out)
  have Tr3 := Seg.hid ((b3.block (w.heap.size + 1) (by omega)).trans Ur2.out)
  have To3 := Seg.hid ((b3.block (w.heap.size + 1 + 1) (by omega)).trans Uo2.out)
  have s3 : w.heap.size + 3 ≤ w3.heap.size := by have := b3.size; omega
  have M3 : Hid (LAt 3 EGqt w3 (seg (w.heap.size + 3) w3.heap.size) v3 u.gets) := l3.mono growsGqt (fun g hg => ⟨by have := hg.1; omega, hg.2⟩)
  have N31 : Hid (LAt 3 EStp w3 (seg (w.heap.size + 3) w3.heap.size) (.slice Y1 u.wh.length x1) u.wh) := ((N21'.out.keep keepsStp (fun g hg => b3.block g (by have := hg.2; omega))).mono growsStp (fun g hg => ⟨hg.1, by have := b3.size; have := hg.2; omega⟩))
  have N32 : Hid (StrsAt w3 (seg (w.heap.size + 3) w3.heap.size) (.slice Y2 u.gps.length x2) u.gps) := ((N22'.out.keep keepsStr (fun g hg => b3.block g (by have := hg.2; omega))).mono growsStr (fun g hg => ⟨hg.1, by have := b3.size; have := hg.2; omega⟩))
  clear z3
  obtain ⟨Y3, x3, r3⟩ := M3.out.form
  subst r3
  clear b3 l3
  have N33 := M3
  have po310 : (w3).cell? ⟨w.heap.size + 1 + 1, 10, none⟩ = some (.slice none 0 0) := cell_of_row (w3) _ 10 _ _ (0, 0) (To3.out)
  have pf310 : (w3).frozen? ⟨w.heap.size + 1 + 1, 10, none⟩ = false := frozen_of_row (w3) _ 10 _ _ (To3.out)
  have qo310 : Hid (((w3.setCell ⟨w.heap.size + 1 + 1, 10, none⟩ (.slice Y3 u.gets.length x3))).heap[w.heap.size + 1 + 1]? = some (.cells #[.string u.fr, .string u.jn, .int .i64 u.wn, .string u.on, .string u.lk, .slice Y1 u.wh.length x1, .slice Y2 u.gps.length x2, .int .i64 u.win, .int .i64 u.size, .int .i64 u.every, .slice Y3 u.gets.length x3] 34 (0, 0))) := heap_setCell_same (w3) (w.heap.size + 1 + 1) 10 _ _ (.slice Y3 u.gets.length x3) (To3.out)
  have Uo3 := Seg.hid (qo310.out)
  have Ur3 := Seg.hid ((heap_setCell_other (w3) ⟨w.heap.size + 1 + 1, 10, none⟩ (w.heap.size + 1) (.slice Y3 u.gets.length x3) (by simp)).trans (Tr3.out))
  have Ua3 := Seg.hid ((heap_setCell_other (w3) ⟨w.heap.size + 1 + 1, 10, none⟩ w.heap.size (.slice Y3 u.gets.length x3) (by simp; omega)).trans (Ta3.out))
  have D3 : Hid (Below w.heap.size w (w3.setCell ⟨w.heap.size + 1 + 1, 10, none⟩ (.slice Y3 u.gets.length x3))) := (B3.out).setCell (p := ⟨w.heap.size + 1 + 1, 10, none⟩) (by simp; omega) (.slice Y3 u.gets.length x3)
  have N31' : Hid (LAt 3 EStp (w3.setCell ⟨w.heap.size + 1 + 1, 10, none⟩ (.slice Y3 u.gets.length x3)) (seg (w.heap.size + 3) w3.heap.size) (.slice Y1 u.wh.length x1) u.wh) := N31.out.keep keepsStp (fun g hg => by have := hg.1; rw [heap_setCell_other _ _ _ _ (by show _ ≠ w.heap.size + 1 + 1; omega)])
  have N32' : Hid (StrsAt (w3.setCell ⟨w.heap.size + 1 + 1, 10, none⟩ (.slice Y3 u.gets.length x3)) (seg (w.heap.size + 3) w3.heap.size) (.slice Y2 u.gps.length x2) u.gps) := N32.out.keep keepsStr (fun g hg => by have := hg.1; rw [heap_setCell_other _ _ _ _ (by show _ ≠ w.heap.size + 1 + 1; omega)])
  have N33' : Hid (LAt 3 EGqt (w3.setCell ⟨w.heap.size + 1 + 1, 10, none⟩ (.slice Y3 u.gets.length x3)) (seg (w.heap.size + 3) w3.heap.size) (.slice Y3 u.gets.length x3) u.gets) := N33.out.keep keepsGqt (fun g hg => by have := hg.1; rw [heap_setCell_other _ _ _ _ (by show _ ≠ w.heap.size + 1 + 1; omega)])
  obtain ⟨fx, hfx⟩ : ∃ fx : Nat → Value, fx = (fun q => if q = 0 then .string u.fr else if q = 1 then .string u.jn else if q = 2 then .int .i64 u.wn else if q = 3 then .string u.on else if q = 4 then .string u.lk else if q = 5 then .slice Y1 u.wh.length x1 else if q = 6 then .slice Y2 u.gps.length x2 else if q = 7 then .int .i64 u.win else if q = 8 then .int .i64 u.size else if q = 9 then .int .i64 u.every else .slice Y3 u.gets.length x3) := ⟨_, rfl⟩
  have HX := Seg.hid hfx
  have Uz : Hid ((w3.setCell ⟨w.heap.size + 1 + 1, 10, none⟩ (.slice Y3 u.gets.length x3)).heap[w.heap.size + 1 + 1]? = some (.cells (arrQry fx) 34 (0, 0))) := by
    show _ = _
    rw [hfx]
    exact Uo3.out
  clear hfx
  have H5a := Cells.there_of Ur3.out
  have H5 : Hid ((w3.setCell ⟨w.heap.size + 1 + 1, 10, none⟩ (.slice Y3 u.gets.length x3)).there (w.heap.size + 1) 0 (arrQry fx).size) := H5a
  clear H5a
  have H4 := Seg.hid (Cells.whole (vs := arrQry fx) Ur3.out rfl)
  have B9 := Seg.hid (Cells.below_setCells (g := w.heap.size + 1) (by omega) (arrQry fx).toList 0 _ _ D3.out)
  have F1 : Hid (LAt 3 EStp ((w3.setCell ⟨w.heap.size + 1 + 1, 10, none⟩ (.slice Y3 u.gets.length x3)).setCells (w.heap.size + 1) 0 (arrQry fx).toList) (seg w.heap.size ((w3.setCell ⟨w.heap.size + 1 + 1, 10, none⟩ (.slice Y3 u.gets.length x3)).setCells (w.heap.size + 1) 0 (arrQry fx).toList).heap.size) (fx 5) u.wh) := by
    show LAt 3 EStp _ _ _ _
    rw [show fx 5 = .slice Y1 u.wh.length x1 by rw [HX.out]; rfl]
    refine (N31'.out.keep keepsStp (fun g hg => ?_)).mono growsStp (fun g hg => ⟨by have := hg.1; omega, ?_⟩)
    · have := hg.1
      rw [Cells.heap_setCells_other _ _ (by omega)]
    · rw [Cells.size_setCells]
      have := hg.2
      simpa using this
  have F2 : Hid (StrsAt ((w3.setCell ⟨w.heap.size + 1 + 1, 10, none⟩ (.slice Y3 u.gets.length x3)).setCells (w.heap.size + 1) 0 (arrQry fx).toList) (seg w.heap.size ((w3.setCell ⟨w.heap.size + 1 + 1, 10, none⟩ (.slice Y3 u.gets.length x3)).setCells (w.heap.size + 1) 0 (arrQry fx).toList).heap.size) (fx 6) u.gps) := by
    show StrsAt _ _ _ _
    rw [show fx 6 = .slice Y2 u.gps.length x2 by rw [HX.out]; rfl]
    refine (N32'.out.keep keepsStr (fun g hg => ?_)).mono growsStr (fun g hg => ⟨by have := hg.1; omega, ?_⟩)
    · have := hg.1
      rw [Cells.heap_setCells_other _ _ (by omega)]
    · rw [Cells.size_setCells]
      have := hg.2
      simpa using this
  have F3 : Hid (LAt 3 EGqt ((w3.setCell ⟨w.heap.size + 1 + 1, 10, none⟩ (.slice Y3 u.gets.length x3)).setCells (w.heap.size + 1) 0 (arrQry fx).toList) (seg w.heap.size ((w3.setCell ⟨w.heap.size + 1 + 1, 10, none⟩ (.slice Y3 u.gets.length x3)).setCells (w.heap.size + 1) 0 (arrQry fx).toList).heap.size) (fx 10) u.gets) := by
    show LAt 3 EGqt _ _ _ _
    rw [show fx 10 = .slice Y3 u.gets.length x3 by rw [HX.out]; rfl]
    refine (N33'.out.keep keepsGqt (fun g hg => ?_)).mono growsGqt (fun g hg => ⟨by have := hg.1; omega, ?_⟩)
    · have := hg.1
      rw [Cells.heap_setCells_other _ _ (by omega)]
    · rw [Cells.size_setCells]
      have := hg.2
      simpa using this
  have EX : Hid (EQry ((w3.setCell ⟨w.heap.size + 1 + 1, 10, none⟩ (.slice Y3 u.gets.length x3)).setCells (w.heap.size + 1) 0 (arrQry fx).toList) (seg w.heap.size ((w3.setCell ⟨w.heap.size + 1 + 1, 10, none⟩ (.slice Y3 u.gets.length x3)).setCells (w.heap.size + 1) 0 (arrQry fx).toList).heap.size) fx u) := ⟨by rw [HX.out]; rfl, by rw [HX.out]; rfl, by rw [HX.out]; rfl, by rw [HX.out]; rfl, by rw [HX.out]; rfl, F1.out, F2.out, by rw [HX.out]; rfl, by rw [HX.out]; rfl, by rw [HX.out]; rfl, F3.out⟩
  have ON := Seg.hid (oneQry EX.out)
  clear Ta1 Tr1 To1 Ua1 M1 Ta2 Tr2 To2 Ua2 M2 Ta3 Tr3 To3 Ua3 M3
  go_upto_region 13 with fail
  clear po310 pf310
  generalize (w3.setCell ⟨w.heap.size + 1 + 1, 10, none⟩ (.slice Y3 u.gets.length x3)) = wz at *
  go_wp2_with (first | (refine wpList_load_row rfl 34 _ rfl (w.heap.size + 1 + 1) rfl _ _ _ _ Uz.out Try.underlying34 rfl infoQry ?_) | (refine wpList_store_mid rfl 34 _ _ rfl (w.heap.size + 1) 0 (arrQry fx) rfl rfl H5.out infoQry ON.out ?_))
  exact bodyPost_ret (v := .agg (arrQry fx)) (results_cell_row rfl _ _ (w.heap.size + 1) _ _ _ _ rfl H4.out Try.underlying34 rfl infoQry) rfl ⟨_, rfl, ⟨fx, rfl, EX.out⟩, B9.out⟩
set_option maxHeartbeats 1600000 in
theorem eqQuery_any (v v' : Value) (u : Qry) (w : World) (S S' : Nat → Prop) (hv : QryAt w S v u) (hv' : QryAt w S' v' u) (hS : ∀ g, S g → g < w.heap.size) (hS' : ∀ g, S' g → g < w.heap.size) :
    Calls Try.prog 11 #[v, v'] w fun e w' => e = .returned (.bool true) ∧ Below w.heap.size w w' := by
  obtain ⟨f, rfl, y0, y1, y2, y3, y4, y5, y6, y7, y8, y9, y10⟩ := hv
  obtain ⟨f', rfl, y0', y1', y2', y3', y4', y5', y6', y7', y8', y9', y10'⟩ := hv'
  try simp only [arrQry]
  rw [show f 0 = _ from y0]
  clear y0
  rw [show f 1 = _ from y1]
  clear y1
  rw [show f 2 = _ from y2]
  clear y2
  rw [show f 3 = _ from y3]
  clear y3
  rw [show f 4 = _ from y4]
  clear y4
  obtain ⟨A5, c5, g5⟩ := y5.form
  rw [g5] at y5 ⊢
  have H5 := Seg.hid y5
  clear y5 g5
  obtain ⟨A6, c6, g6⟩ := y6.form
  rw [g6] at y6 ⊢
  have H6 := Seg.hid y6
  clear y6 g6
  rw [show f 7 = _ from y7]
  clear y7
  rw [show f 8 = _ from y8]
  clear y8
  rw [show f 9 = _ from y9]
  clear y9
  obtain ⟨A10, c10, g10⟩ := y10.form
  rw [g10] at y10 ⊢
  have H10 := Seg.hid y10
  clear y10 g10
  try simp only [arrQry]
  rw [show f' 0 = _ from y0']
  clear y0'
  rw [show f' 1 = _ from y1']
  clear y1'
  rw [show f' 2 = _ from y2']
  clear y2'
  rw [show f' 3 = _ from y3']
  clear y3'
  rw [show f' 4 = _ from y4']
  clear y4'
  obtain ⟨A5', c5', g5'⟩ := y5'.form
  rw [g5'] at y5' ⊢
  have H5' := Seg.hid y5'
  clear y5' g5'
  obtain ⟨A6', c6', g6'⟩ := y6'.form
  rw [g6'] at y6' ⊢
  have H6' := Seg.hid y6'
  clear y6' g6'
  rw [show f' 7 = _ from y7']
  clear y7'
  rw [show f' 8 = _ from y8']
  clear y8'
  rw [show f' 9 = _ from y9']
  clear y9'
  obtain ⟨A10', c10', g10'⟩ := y10'.form
  rw [g10'] at y10' ⊢
  have H10' := Seg.hid y10'
  clear y10' g10'
  go_enter Try.func11, Try.ntmps11
  go_wp2_with fail
  refine (eqStepS_any _ _ u.wh ((w.alloc _).alloc _) S S' (H5.out.below keepsStp (below2 w _ _) hS) (H5'.out.below keepsStp (below2 w _ _) hS') (fun g hg => by rw [hsz, hsz]; have := hS g hg; omega) (fun g hg => by rw [hsz, hsz]; have := hS' g hg; omega)).mono ?_
  rintro e w1 ⟨rfl, b1⟩
  have B1 := Seg.hid (chain (below2 w _ _) b1)
  have Ta1 : Hid (w1.heap[w.heap.size]? = some (.cells #[.string u.fr, .string u.jn, .int .i64 u.wn, .string u.on, .string u.lk, .slice A5 u.wh.length c5, .slice A6 u.gps.length c6, .int .i64 u.win, .int .i64 u.size, .int .i64 u.every, .slice A10 u.gets.length c10] 34 (0, 0))) := (b1.block w.heap.size (by rw [hsz, hsz]; omega)).trans (at2z w _ _)
  have Tb1 : Hid (w1.heap[w.heap.size + 1]? = some (.cells #[.string u.fr, .string u.jn, .int .i64 u.wn, .string u.on, .string u.lk, .slice A5' u.wh.length c5', .slice A6' u.gps.length c6', .int .i64 u.win, .int .i64 u.size, .int .i64 u.every, .slice A10' u.gets.length c10'] 34 (0, 0))) := (b1.block (w.heap.size + 1) (by rw [hsz, hsz]; omega)).trans (at2y w _ _)
  have s1 : w.heap.size + 1 < w1.heap.size := (Array.getElem?_eq_some_iff.1 Tb1.out).1
  have pa16 : w1.cell? ⟨w.heap.size, 6, none⟩ = some (.slice A6 u.gps.length c6) := cell_of_row w1 _ 6 _ _ (0, 0) Ta1.out
  have pb16 : w1.cell? ⟨w.heap.size + 1, 6, none⟩ = some (.slice A6' u.gps.length c6') := cell_of_row w1 _ 6 _ _ (0, 0) Tb1.out
  clear b1
  go_wp2_with fail
  refine (eqStringS_any _ _ u.gps w1 S S' (H6.out.below keepsStr B1.out hS) (H6'.out.below keepsStr B1.out hS') (fun g hg => Nat.lt_of_lt_of_le (hS g hg) B1.out.size) (fun g hg => Nat.lt_of_lt_of_le (hS' g hg) B1.out.size)).mono ?_
  rintro e w2 ⟨rfl, b2⟩
  have B2 := Seg.hid (chain B1.out b2)
  have Ta2 : Hid (w2.heap[w.heap.size]? = some (.cells #[.string u.fr, .string u.jn, .int .i64 u.wn, .string u.on, .string u.lk, .slice A5 u.wh.length c5, .slice A6 u.gps.length c6, .int .i64 u.win, .int .i64 u.size, .int .i64 u.every, .slice A10 u.gets.length c10] 34 (0, 0))) := (b2.block w.heap.size (by omega)).trans Ta1.out
  have Tb2 : Hid (w2.heap[w.heap.size + 1]? = some (.cells #[.string u.fr, .string u.jn, .int .i64 u.wn, .string u.on, .string u.lk, .slice A5' u.wh.length c5', .slice A6' u.gps.length c6', .int .i64 u.win, .int .i64 u.size, .int .i64 u.every, .slice A10' u.gets.length c10'] 34 (0, 0))) := (b2.block (w.heap.size + 1) (by omega)).trans Tb1.out
  have s2 : w.heap.size + 1 < w2.heap.size := (Array.getElem?_eq_some_iff.1 Tb2.out).1
  have pa27 : w2.cell? ⟨w.heap.size, 7, none⟩ = some (.int .i64 u.win) := cell_of_row w2 _ 7 _ _ (0, 0) Ta2.out
  have pb27 : w2.cell? ⟨w.heap.size + 1, 7, none⟩ = some (.int .i64 u.win) := cell_of_row w2 _ 7 _ _ (0, 0) Tb2.out
  have pa28 : w2.cell? ⟨w.heap.size, 8, none⟩ = some (.int .i64 u.size) := cell_of_row w2 _ 8 _ _ (0, 0) Ta2.out
  have pb28 : w2.cell? ⟨w.heap.size + 1, 8, none⟩ = some (.int .i64 u.size) := cell_of_row w2 _ 8 _ _ (0, 0) Tb2.out
  have pa29 : w2.cell? ⟨w.heap.size, 9, none⟩ = some (.int .i64 u.every) := cell_of_row w2 _ 9 _ _ (0, 0) Ta2.out
  have pb29 : w2.cell? ⟨w.heap.size + 1, 9, none⟩ = some (.int .i64 u.every) := cell_of_row w2 _ 9 _ _ (0, 0) Tb2.out
  have pa210 : w2.cell? ⟨w.heap.size, 10, none⟩ = some (.slice A10 u.gets.length c10) := cell_of_row w2 _ 10 _ _ (0, 0) Ta2.out
  have pb210 : w2.cell? ⟨w.heap.size + 1, 10, none⟩ = some (.slice A10' u.gets.length c10') := cell_of_row w2 _ 10 _ _ (0, 0) Tb2.out
  clear b2
  go_wp2_with fail
  refine (eqGetS_any _ _ u.gets w2 S S' (H10.out.below keepsGqt B2.out hS) (H10'.out.below keepsGqt B2.out hS') (fun g hg => Nat.lt_of_lt_of_le (hS g hg) B2.out.size) (fun g hg => Nat.lt_of_lt_of_le (hS' g hg) B2.out.size)).mono ?_
  rintro e w3 ⟨rfl, b3⟩
  have B3 := Seg.hid (chain B2.out b3)
  clear b3
  go_wp2
  go_ret
  exact ⟨rfl, B3.out⟩
end Go.Proofs.Ytkibaimemomjpaa.Ls
