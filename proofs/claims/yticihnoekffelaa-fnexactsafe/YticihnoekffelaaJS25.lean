/- Lists of Replica: what the law's helpers answer; Part: how it lies in memory; what the law's measure and copier answer; BatchOk of the program. -/
import Derived.Test.YticihnoekffelaaJS24
import Derived.Test.YticihnoekffelaaJS23
import Derived.Test.YticihnoekffelaaJS10
namespace Go.Proofs.Yticihnoekffelaa.Ls
set_option maxRecDepth 8000
open Go.RowKit
open Recs
open SegW (Sg)
open LogW (Lg)
set_option linter.unusedVariables false
theorem szReplicaS_none (A : Option Addr) (c : Nat) (l : Int) (w : World) (h3 : -1 ≤ l) (h4 : l ≤ 1048576) :
    Calls Try.prog 34 #[.slice A 0 c, .int .i64 l] w fun e w' => ∃ q, e = .returned (.int .i64 q) ∧ -1 ≤ q ∧ q ≤ l ∧ Lf l 0 q ∧ Below w.heap.size w w' := by
  go_enter Try.func34, Try.ntmps34
  by_cases hlt : l < 0
  · go_wp2
    go_ret
    exact ⟨_, rfl, by omega, by omega, ⟨fun _ => by omega, fun _ => by omega⟩, Below.refl _ _⟩
  go_wp2
  go_loop [1, 5] (fun x i => i = .int .i64 0 ∧ x = .int .i64 l) (fun _ _ => 0)
  case atStart => exact ⟨rfl, by go_num⟩
  case round =>
    obtain ⟨rfl, rfl⟩ := hrel
    go_wp2
    go_ret
    exact ⟨_, rfl, by omega, by omega, ⟨fun _ => by omega, fun _ => by omega⟩, Below.refl _ _⟩

set_option maxHeartbeats 800000 in
theorem szReplicaS_core (g o n c : Nat) (us : List Rpl) (F : Nat → Nat → Value) (l : Int) (w : World) (S : Nat → Prop) (h3 : -1 ≤ l) (h4 : l ≤ 1048576) (hn : n ≤ 9223372036854775807) (hc : n ≤ c) (hg : g < w.heap.size) (hS : ∀ g, S g → g < w.heap.size) (hnl : us.length = n)
    (hf : ∀ i, i < n → FineRpl (us.getD i default)) (he : ∀ i, i < n → ERpl w S (F i) (us.getD i default))
    (ha : ∀ i, i < n → ∀ j, j < 6 → w.cell? ⟨g, o + i * 6 + j, none⟩ = some (F i j)) :
    Calls Try.prog 34 #[.slice (some ⟨g, o, none⟩) n c, .int .i64 l] w fun e w' => ∃ q, e = .returned (.int .i64 q) ∧ -1 ≤ q ∧ q ≤ l ∧ Lf l (szL szRpl us) q ∧ Below w.heap.size w w' := by
  have HA := Seg.hid ha
  have HK := Seg.hid hf
  have HH := Seg.hid he
  have HN := Seg.hid hnl
  clear ha hf he hnl
  go_enter Try.func34, Try.ntmps34
  by_cases hlt : l - (n : Int) < 0
  · go_wp2
    go_ret
    exact ⟨_, rfl, by omega, by omega, ⟨fun h => absurd h (by omega), fun _ => by unfold szL; rw [HN.out]; omega⟩, Below.refl _ _⟩
  go_wp2
  go_loopw [1, 5] (fun x i wr => ∃ (k : Nat) (r : Int), k ≤ n ∧ x = .int .i64 r ∧ i = .int .i64 k ∧ 0 ≤ r ∧ r ≤ l ∧ Hid (Below w.heap.size w wr ∧ r = l - n - tot szRpl (us.take k))) (fun _ i _ => n - (intOf i).toNat)
  case atStart => exact ⟨0, l - n, Nat.zero_le _, rfl, rfl, by omega, by omega, Below.refl _ _, by simp [tot]⟩
  case round =>
    obtain ⟨k, r, hk, rfl, rfl, hr0, hr1, HB⟩ := hrel
    by_cases hlt2 : k < n
    · have CL := cells_later HA.out HB.out.1 hg
      have c0 : wr.cell? ⟨g, o + k * 6, none⟩ = some (F k 0) := CL k ‹k < n› 0 (by omega)
      have c1 : wr.cell? ⟨g, o + k * 6 + 1, none⟩ = some (F k 1) := CL k ‹k < n› 1 (by omega)
      have c2 : wr.cell? ⟨g, o + k * 6 + 2, none⟩ = some (F k 2) := CL k ‹k < n› 2 (by omega)
      have c3 : wr.cell? ⟨g, o + k * 6 + 3, none⟩ = some (F k 3) := CL k ‹k < n› 3 (by omega)
      have c4 : wr.cell? ⟨g, o + k * 6 + 4, none⟩ = some (F k 4) := CL k ‹k < n› 4 (by omega)
      have c5 : wr.cell? ⟨g, o + k * 6 + 5, none⟩ = some (F k 5) := CL k ‹k < n› 5 (by omega)
      clear CL
      have RA : Hid (RplAt wr S (.agg (arrRpl (F k))) (us.getD k default)) := ⟨_, rfl, keepsRpl _ _ _ _ _ _ (HH.out k hlt2) (fun g hg => HB.out.1.block g (hS g hg)) (fun _ _ => rfl)⟩
      have h0 : (0 : Int) ≤ (k : Int) := by omega
      have h1 : (k : Int) < (n : Int) := by omega
      have hbr : Hid (∀ g, S g → g < wr.heap.size) := fun g hg => Nat.lt_of_lt_of_le (hS g hg) HB.out.1.size
      have TK := Seg.hid (tot_take szRpl (ts := us) (j := k) (by rw [HN.out]; exact hlt2))
      have TL := Seg.hid (tot_le szRpl us (k + 1))
      have FK := Seg.hid (HK.out k hlt2)
      generalize us.getD k default = uk at *
      go_wp2_with fail
      refine (szReplica_any _ uk r wr S (by omega) (by omega) RA.out hbr.out FK.out).mono ?_
      rintro e w1 ⟨r1, rfl, hr2, hr3, hlf, b1⟩
      have B1 := Seg.hid (chain HB.out.1 b1)
      have FW := Seg.hid hlf
      clear b1 hlf
      by_cases hneg : r1 < 0
      · go_wp2
        go_ret
        refine ⟨-1, rfl, by omega, by omega, ⟨fun h => absurd h (by omega), fun _ => ?_⟩, B1.out⟩
        have m1 := FW.out.2 hneg; have m2 := HB.out.2; have m3 := TK.out; have m4 := TL.out
        unfold szL; rw [HN.out]; omega
      · go_wp2
        go_roundw
        case rel =>
          refine ⟨k + 1, r1, by omega, rfl, by go_num, by omega, by omega, B1.out, ?_⟩
          have m1 := FW.out.1 (by omega); have m2 := HB.out.2; have m3 := TK.out
          omega
        case measure => simp [intOf]; omega
    · have : k = n := by omega
      subst this
      go_wp2
      go_ret
      refine ⟨r, rfl, by omega, by omega, ⟨fun _ => ?_, fun h => absurd h (by omega)⟩, HB.out.1⟩
      have m2 := HB.out.2
      rw [← HN.out, List.take_length, HN.out] at m2
      unfold szL; rw [HN.out]; omega
theorem szReplicaS_any (v : Value) (us : List Rpl) (l : Int) (w : World) (S : Nat → Prop) (h3 : -1 ≤ l) (h4 : l ≤ 1048576) (hv : LAt 6 ERpl w S v us) (hS : ∀ g, S g → g < w.heap.size) (hf : FineL FineRpl us) :
    Calls Try.prog 34 #[v, .int .i64 l] w fun e w' => ∃ q, e = .returned (.int .i64 q) ∧ -1 ≤ q ∧ q ≤ l ∧ Lf l (szL szRpl us) q ∧ Below w.heap.size w w' := by
  obtain ⟨hn, A, c, rfl, h⟩ := hv
  by_cases hz : us.length = 0
  · obtain rfl := List.length_eq_zero_iff.1 hz
    exact szReplicaS_none A c l w h3 h4
  obtain ⟨g, o, F, rfl, hg, hc, hcell, hel⟩ := h.resolve_left hz
  exact szReplicaS_core g o us.length c us F l w S h3 h4 hn hc (hS g hg) hS rfl hf.2 hel hcell
set_option maxHeartbeats 400000 in
theorem toReplicaS_none (A : Option Addr) (c : Nat) (w : World) :
    Calls Try.prog 39 #[.slice A 0 c] w fun e w' => ∃ v, e = .returned v ∧ (∃ A c, v = .slice A 0 c) ∧ Below w.heap.size w w' := by
  obtain ⟨i0, hi, hz0, hz1, hz2⟩ := info_parts infoZRpl
  go_enter Try.func39, Try.ntmps39
  go_wp2_with (at_make; refine wpList_make_full _ rfl _ _ 42 rfl w.heap.size 69 i0 _ 6 Try.underlying42 hi hz0 hz1 .i64 .i64 _ _ 0 rfl rfl rfl rfl (by omega) (by unfold maxLen; omega) (Nat.le_refl _) ?_; intro w1 hown hgr)
  have hb1 := (Below.refl w.heap.size w).grown hgr (Nat.le_refl _) (fun k hk => by cases hk)
  have HB := Seg.hid hb1
  clear hown hgr hb1 hi hz0 hz1 hz2
  go_loop [4] (fun i => i = .int .i64 0) (fun i => 0)
  case atStart => rfl
  case round =>
    subst hrel
    go_wp2
    go_ret
    exact ⟨_, rfl, ⟨_, _, rfl⟩, HB.out⟩
set_option maxHeartbeats 800000 in
theorem toReplicaS_core (g o n c : Nat) (us : List Rpl) (F0 : Nat → Nat → Value) (w : World) (S : Nat → Prop) (hn : n ≤ 1048576) (hc : n ≤ c) (hg : g < w.heap.size) (hS : ∀ g, S g → g < w.heap.size)
    (hf : ∀ i, i < n → szRpl (us.getD i default) ≤ 1048576) (he : ∀ i, i < n → ERpl w S (F0 i) (us.getD i default))
    (ha : ∀ i, i < n → ∀ j, j < 6 → w.cell? ⟨g, o + i * 6 + j, none⟩ = some (F0 i j)) :
    Calls Try.prog 39 #[.slice (some ⟨g, o, none⟩) n c] w fun e w' => ∃ F, e = .returned (.slice (some ⟨w.heap.size, 0, none⟩) n n) ∧ Done 69 6 ERpl w w' us n n F := by
  obtain ⟨i0, hi, hz0, hz1, hz2⟩ := info_parts infoZRpl
  have HA := Seg.hid ha; have HK := Seg.hid hf; have HH := Seg.hid he
  clear ha hf he
  go_enter Try.func39, Try.ntmps39
  go_wp2_with (at_make; refine wpList_make_full _ rfl _ _ 42 rfl w.heap.size 69 i0 _ 6 Try.underlying42 hi hz0 hz1 .i64 .i64 _ _ n rfl rfl rfl rfl (by rw [hz2]; omega) (by unfold maxLen; omega) (Nat.le_refl _) ?_; intro w1 hown hgr)
  have hb1 := (Below.refl w.heap.size w).grown hgr (Nat.le_refl _) (fun k hk => by cases hk)
  have HM := Seg.hid (Mine.of_made hown hown.1)
  have HB := Seg.hid hb1
  clear hown hgr hb1 hi hz0 hz1 hz2
  go_loopw [4] (fun i wr => ∃ (j : Nat) (F : Nat → Value), j ≤ n ∧ i = .int .i64 j ∧ Done 69 6 ERpl w wr us n j F) (fun i _ => n - (intOf i).toNat)
  case atStart => exact ⟨0, _, Nat.zero_le _, rfl, HM.out, HB.out, fun i hi => absurd hi (by omega)⟩
  case round =>
    clear HM HB
    obtain ⟨j, F, hj, rfl, HR⟩ := hrel
    by_cases hlt : j < n
    · have CL := cells_later HA.out HR.bel hg
      have c0 : wr.cell? ⟨g, o + j * 6, none⟩ = some (F0 j 0) := CL j ‹j < n› 0 (by omega)
      have c1 : wr.cell? ⟨g, o + j * 6 + 1, none⟩ = some (F0 j 1) := CL j ‹j < n› 1 (by omega)
      have c2 : wr.cell? ⟨g, o + j * 6 + 2, none⟩ = some (F0 j 2) := CL j ‹j < n› 2 (by omega)
      have c3 : wr.cell? ⟨g, o + j * 6 + 3, none⟩ = some (F0 j 3) := CL j ‹j < n› 3 (by omega)
      have c4 : wr.cell? ⟨g, o + j * 6 + 4, none⟩ = some (F0 j 4) := CL j ‹j < n› 4 (by omega)
      have c5 : wr.cell? ⟨g, o + j * 6 + 5, none⟩ = some (F0 j 5) := CL j ‹j < n› 5 (by omega)
      clear CL
      have RA : Hid (RplAt wr S (.agg (arrRpl (F0 j))) (us.getD j default)) := ⟨_, rfl, keepsRpl _ _ _ _ _ _ (HH.out j hlt) (fun g hg => HR.bel.block g (hS g hg)) (fun _ _ => rfl)⟩
      have FW := Seg.hid (HK.out j hlt)
      have hbr : Hid (∀ g, S g → g < wr.heap.size) := fun g hg => Nat.lt_of_lt_of_le (hS g hg) HR.bel.size
      have ST := Seg.hid (fun w1 vs hv b1 he => Done.step keepsRpl growsRpl (w1 := w1) HR vs hv b1 he)
      have HM := Seg.hid HR.mine
      have h0 : (0 : Int) ≤ (j : Int) := by omega
      have h1 : (j : Int) < (n : Int) := by omega
      clear HR
      generalize us.getD j default = uj at *
      go_wp2_with fail
      refine (toReplica_any _ uj wr S RA.out hbr.out FW.out).mono ?_
      rintro e w1 ⟨v1, rfl, ⟨f1, rfl, he1⟩, b1⟩
      have S1 := Seg.hid (ST.out w1 (arrRpl f1).toList rfl b1 (keepsRpl _ _ _ _ _ _ he1 (fun _ _ => rfl) (fun q hq => by
        match q, hq with
        | 0, _ => rfl
        | 1, _ => rfl
        | 2, _ => rfl
        | 3, _ => rfl
        | 4, _ => rfl
        | 5, _ => rfl
        )))
      have M1 : Hid (w1.there w.heap.size (j * 6) (arrRpl f1).size) := Own.mine_there (o := j * 6) (m := 6) (HM.out.below b1 HM.out.lt) (by omega)
      have ON := Seg.hid (oneRpl he1)
      clear b1 he1
      go_wp2_with (refine wpList_store_mid rfl 69 _ _ rfl w.heap.size (j * 6) (arrRpl f1) rfl rfl ?ht infoRpl ON.out ?_; case ht => exact M1.out)
      go_roundw
      case rel => exact ⟨j + 1, _, by omega, by go_num, S1.out⟩
      case measure => simp [intOf]; omega
    · have : j = n := by omega
      subst this
      go_wp2
      go_ret
      exact ⟨F, rfl, HR⟩
theorem toReplicaS_any (v : Value) (us : List Rpl) (w : World) (S : Nat → Prop) (hv : LAt 6 ERpl w S v us) (hS : ∀ g, S g → g < w.heap.size) (hf : szL szRpl us ≤ 1048576) :
    Calls Try.prog 39 #[v] w fun e w' => ∃ v', e = .returned v' ∧ LAt 6 ERpl w' (seg w.heap.size w'.heap.size) v' us ∧ Below w.heap.size w w' := by
  obtain ⟨hn, A, c, rfl, h⟩ := hv
  by_cases hz : us.length = 0
  · obtain rfl := List.length_eq_zero_iff.1 hz
    refine (toReplicaS_none A c w).mono fun e w' ⟨v', a1, ⟨A', c', a2⟩, a3⟩ => ⟨v', a1, ?_, a3⟩
    rw [a2]
    exact LAt.nil _ _ _ _
  obtain ⟨g, o, F, rfl, hg, hc, hcell, hel⟩ := h.resolve_left hz
  exact (toReplicaS_core g o us.length c us F w S (szL_len _ hf) hc (hS g hg) hS (fun i hi => szL_one _ hf hi) hel hcell).mono fun e w' ⟨F, a1, a2⟩ => ⟨_, a1, a2.all growsRpl hn, a2.bel⟩
theorem eqReplicaS_none (A A' : Option Addr) (c c' : Nat) (w : World) :
    Calls Try.prog 44 #[.slice A 0 c, .slice A' 0 c'] w fun e w' => e = .returned (.bool true) ∧ Below w.heap.size w w' := by
  go_enter Try.func44, Try.ntmps44
  go_wp2
  go_loop [5] (fun i => i = .int .i64 0) (fun _ => 0)
  case atStart => rfl
  case round =>
    subst hrel
    go_wp2
    go_ret
    exact ⟨rfl, Below.refl _ _⟩
set_option maxHeartbeats 1600000 in
theorem eqReplicaS_core (g o g' o' n c c' : Nat) (us : List Rpl) (F F' : Nat → Nat → Value) (w : World) (S S' : Nat → Prop) (hn : n ≤ 9223372036854775807) (hc : n ≤ c) (hc' : n ≤ c') (hg : g < w.heap.size) (hg' : g' < w.heap.size) (hS : ∀ g, S g → g < w.heap.size) (hS' : ∀ g, S' g → g < w.heap.size)
    (he : ∀ i, i < n → ERpl w S (F i) (us.getD i default)) (he' : ∀ i, i < n → ERpl w S' (F' i) (us.getD i default))
    (ha : ∀ i, i < n → ∀ j, j < 6 → w.cell? ⟨g, o + i * 6 + j, none⟩ = some (F i j)) (ha' : ∀ i, i < n → ∀ j, j < 6 → w.cell? ⟨g', o' + i * 6 + j, none⟩ = some (F' i j)) :
    Calls Try.prog 44 #[.slice (some ⟨g, o, none⟩) n c, .slice (some ⟨g', o', none⟩) n c'] w fun e w' => e = .returned (.bool true) ∧ Below w.heap.size w w' := by
  have HA := Seg.hid ha; have HA' := Seg.hid ha'; have HH := Seg.hid he; have HH' := Seg.hid he'
  clear ha ha' he he'
  go_enter Try.func44, Try.ntmps44
  go_wp2
  go_loopw [5] (fun i wr => ∃ (k : Nat), k ≤ n ∧ i = .int .i64 k ∧ Hid (Below w.heap.size w wr)) (fun i _ => n - (intOf i).toNat)
  case atStart => exact ⟨0, Nat.zero_le _, rfl, Below.refl _ _⟩
  case round =>
    obtain ⟨k, hk, rfl, HB⟩ := hrel
    by_cases hlt2 : k < n
    · have CL := cells_later HA.out HB.out hg
      have CL' := cells_later HA'.out HB.out hg'
      have c0 : wr.cell? ⟨g, o + k * 6, none⟩ = some (F k 0) := CL k ‹k < n› 0 (by omega)
      have c1 : wr.cell? ⟨g, o + k * 6 + 1, none⟩ = some (F k 1) := CL k ‹k < n› 1 (by omega)
      have c2 : wr.cell? ⟨g, o + k * 6 + 2, none⟩ = some (F k 2) := CL k ‹k < n› 2 (by omega)
      have c3 : wr.cell? ⟨g, o + k * 6 + 3, none⟩ = some (F k 3) := CL k ‹k < n› 3 (by omega)
      have c4 : wr.cell? ⟨g, o + k * 6 + 4, none⟩ = some (F k 4) := CL k ‹k < n› 4 (by omega)
      have c5 : wr.cell? ⟨g, o + k * 6 + 5, none⟩ = some (F k 5) := CL k ‹k < n› 5 (by omega)
      have d0 : wr.cell? ⟨g', o' + k * 6, none⟩ = some (F' k 0) := CL' k ‹k < n› 0 (by omega)
      have d1 : wr.cell? ⟨g', o' + k * 6 + 1, none⟩ = some (F' k 1) := CL' k ‹k < n› 1 (by omega)
      have d2 : wr.cell? ⟨g', o' + k * 6 + 2, none⟩ = some (F' k 2) := CL' k ‹k < n› 2 (by omega)
      have d3 : wr.cell? ⟨g', o' + k * 6 + 3, none⟩ = some (F' k 3) := CL' k ‹k < n› 3 (by omega)
      have d4 : wr.cell? ⟨g', o' + k * 6 + 4, none⟩ = some (F' k 4) := CL' k ‹k < n› 4 (by omega)
      have d5 : wr.cell? ⟨g', o' + k * 6 + 5, none⟩ = some (F' k 5) := CL' k ‹k < n› 5 (by omega)
      clear CL CL'
      have RA : Hid (RplAt wr.drew S (.agg (arrRpl (F k))) (us.getD k default)) := ⟨_, rfl, keepsRpl _ _ _ _ _ _ (HH.out k hlt2) (fun g hg => HB.out.drew.block g (hS g hg)) (fun _ _ => rfl)⟩
      have RB : Hid (RplAt wr.drew S' (.agg (arrRpl (F' k))) (us.getD k default)) := ⟨_, rfl, keepsRpl _ _ _ _ _ _ (HH'.out k hlt2) (fun g hg => HB.out.drew.block g (hS' g hg)) (fun _ _ => rfl)⟩
      have hbr : Hid (∀ g, S g → g < wr.drew.heap.size) := fun g hg => Nat.lt_of_lt_of_le (hS g hg) HB.out.size
      have hbr' : Hid (∀ g, S' g → g < wr.drew.heap.size) := fun g hg => Nat.lt_of_lt_of_le (hS' g hg) HB.out.size
      have h0 : (0 : Int) ≤ (k : Int) := by omega
      have h1 : (k : Int) < (n : Int) := by omega
      generalize us.getD k default = uk at *
      go_wp2_with fail
      go_region_with (go_at_call 73; refine (eqReplica_any _ _ uk wr.drew S S' RA.out RB.out hbr.out hbr'.out).mono ?_; rintro e w1 ⟨rfl, b1⟩; have B1 : Hid (Below w.heap.size w w1) := chainD HB.out b1; clear b1)
      all_goals
        go_wp2
        go_roundw
        case rel => exact ⟨k + 1, by omega, by go_num, B1.out⟩
        case measure => simp [intOf]; omega
    · have : k = n := by omega
      subst this
      go_wp2
      go_ret
      exact ⟨rfl, HB.out⟩
theorem eqReplicaS_any (v v' : Value) (us : List Rpl) (w : World) (S S' : Nat → Prop) (hv : LAt 6 ERpl w S v us) (hv' : LAt 6 ERpl w S' v' us) (hS : ∀ g, S g → g < w.heap.size) (hS' : ∀ g, S' g → g < w.heap.size) :
    Calls Try.prog 44 #[v, v'] w fun e w' => e = .returned (.bool true) ∧ Below w.heap.size w w' := by
  obtain ⟨hn, A, c, rfl, h⟩ := hv
  obtain ⟨_, A', c', rfl, h'⟩ := hv'
  by_cases hz : us.length = 0
  · rw [hz]
    exact eqReplicaS_none A A' c c' w
  obtain ⟨g, o, F, rfl, hg, hc, hcell, hel⟩ := h.resolve_left hz
  obtain ⟨g', o', F', rfl, hg', hc', hcell', hel'⟩ := h'.resolve_left hz
  exact eqReplicaS_core g o g' o' us.length c c' us F F' w S S' hn hc hc' (hS g hg) (hS' g' hg') hS hS' hel hel' hcell hcell'
end Go.Proofs.Yticihnoekffelaa.Ls
namespace Go.Proofs.Yticihnoekffelaa.Ls
set_option maxRecDepth 8000
open Go.RowKit
open Recs
open SegW (Sg)
open LogW (Lg)
set_option linter.unusedVariables false
structure Prt where
  reps : List Rpl
  leader : Int
  epoch : Int
  insync : List Int
  known : List Int
  least : Int
  deriving Inhabited
def EPrt : Elt Prt := fun w S f u => LAt 6 ERpl w S (f 0) u.reps ∧ f 1 = .int .i64 u.leader ∧ f 2 = .int .i64 u.epoch ∧ IntsAt w S (f 3) u.insync ∧ IntsAt w S (f 4) u.known ∧ f 5 = .int .i64 u.least
theorem keepsPrt : Keeps 6 EPrt := fun w w' S f f' t h hk hf => by
  obtain ⟨h0, h1, h2, h3, h4, h5⟩ := h
  exact ⟨by rw [hf 0 (by omega)]; exact h0.keep keepsRpl hk, by rw [hf 1 (by omega)]; exact h1, by rw [hf 2 (by omega)]; exact h2, by rw [hf 3 (by omega)]; exact h3.keep keepsI hk, by rw [hf 4 (by omega)]; exact h4.keep keepsI hk, by rw [hf 5 (by omega)]; exact h5⟩
theorem growsPrt : Grows EPrt := fun w S S' f t h hs => by
  obtain ⟨h0, h1, h2, h3, h4, h5⟩ := h
  exact ⟨h0.mono growsRpl hs, h1, h2, h3.mono growsI hs, h4.mono growsI hs, h5⟩
def arrPrt (f : Nat → Value) : Array Value := #[f 0, f 1, f 2, f 3, f 4, f 5]
theorem onePrt {w : World} {S : Nat → Prop} {f : Nat → Value} {u : Prt} (h : EPrt w S f u) : (arrPrt f).all (·.oneCell') = true := by
  obtain ⟨h0, h1, h2, h3, h4, h5⟩ := h
  have o0 : (f 0).oneCell' = true := h0.one
  have o1 : (f 1).oneCell' = true := by rw [h1]; rfl
  have o2 : (f 2).oneCell' = true := by rw [h2]; rfl
  have o3 : (f 3).oneCell' = true := h3.one
  have o4 : (f 4).oneCell' = true := h4.one
  have o5 : (f 5).oneCell' = true := by rw [h5]; rfl
  simp [arrPrt, o0, o1, o2, o3, o4, o5]
def PrtAt (w : World) (S : Nat → Prop) (v : Value) (u : Prt) : Prop := ∃ f, v = .agg (arrPrt f) ∧ EPrt w S f u
abbrev PrtsAt := LAt 6 EPrt
theorem PrtAt.keep {w w' : World} {S : Nat → Prop} {v : Value} {u : Prt} (h : PrtAt w S v u) (hk : ∀ g, S g → w'.heap[g]? = w.heap[g]?) : PrtAt w' S v u := by
  obtain ⟨f, h1, h2⟩ := h
  exact ⟨f, h1, keepsPrt _ _ _ _ _ _ h2 hk (fun _ _ => rfl)⟩
theorem PrtAt.mono {w : World} {S S' : Nat → Prop} {v : Value} {u : Prt} (h : PrtAt w S v u) (hs : ∀ g, S g → S' g) : PrtAt w S' v u := by
  obtain ⟨f, h1, h2⟩ := h
  exact ⟨f, h1, growsPrt _ _ _ _ _ h2 hs⟩
theorem PrtAt.below {w w' : World} {B : Nat} {S : Nat → Prop} {v : Value} {u : Prt} (h : PrtAt w S v u) (hb : Below B w w') (hs : ∀ g, S g → g < B) : PrtAt w' S v u := h.keep fun g hg => hb.block g (hs g hg)
def szPrt (u : Prt) : Nat := szL szRpl (u.reps) + (u.insync).length + (u.known).length
def FinePrt (u : Prt) : Prop := FineL FineRpl u.reps ∧ I64 u.leader ∧ I64 u.epoch ∧ FineL I64 u.insync ∧ FineL I64 u.known ∧ I64 u.least
theorem infoPrt : (Try.prog.info? 44).map (·.size) = some 6 := by kernel_rfl
theorem infoLPrt : (Try.prog.info? 38).map (·.size) = some 6 := by kernel_rfl
theorem infoZPrt : (Try.prog.info? 44).map (fun i => (i.zero, i.size, i.bytes)) = some (some (.agg #[.slice none 0 0, .int .i64 0, .int .i64 0, .slice none 0 0, .slice none 0 0, .int .i64 0]), 6, 96) := by kernel_rfl
set_option maxHeartbeats 800000 in
theorem szPart_any (v : Value) (u : Prt) (l : Int) (w : World) (S : Nat → Prop) (h3 : -1 ≤ l) (h4 : l ≤ 1048576) (hv : PrtAt w S v u) (hS : ∀ g, S g → g < w.heap.size) (hf : FinePrt u) :
    Calls Try.prog 12 #[v, .int .i64 l] w fun e w' => ∃ q, e = .returned (.int .i64 q) ∧ -1 ≤ q ∧ q ≤ l ∧ Lf l (szPrt u) q ∧ Below w.heap.size w w' := by
  obtain ⟨f, rfl, y0, y1, y2, y3, y4, y5⟩ := hv
  try simp only [arrPrt]
  obtain ⟨A0, c0, g0⟩ := y0.form
  rw [g0] at y0 ⊢
  have H0 := Seg.hid y0
  clear y0 g0
  rw [show f 1 = _ from y1]
  clear y1
  rw [show f 2 = _ from y2]
  clear y2
  obtain ⟨A3, c3, g3⟩ := y3.form
  rw [g3] at y3 ⊢
  have H3 := Seg.hid y3
  clear y3 g3
  obtain ⟨A4, c4, g4⟩ := y4.form
  rw [g4] at y4 ⊢
  have H4 := Seg.hid y4
  clear y4 g4
  rw [show f 5 = _ from y5]
  clear y5
  obtain ⟨z0, z1, z2, z3, z4, z5⟩ := hf
  have Z0 := Seg.hid z0
  have Z3 := Seg.hid z3
  have Z4 := Seg.hid z4
  clear z0 z1 z2 z3 z4 z5
  go_enter Try.func12, Try.ntmps12
  go_wp2_with fail
  refine (szReplicaS_any _ u.reps _ (w.alloc _) S (by omega) (by omega) (H0.out.below keepsRpl (below1 w _) hS) (fun g hg => by rw [hsz]; have := hS g hg; omega) Z0.out).mono ?_
  rintro e w1 ⟨q1, rfl, a1, b1, L1', d1⟩
  have B1 := Seg.hid (chain (below1 w _) d1)
  have L1 := Seg.hid L1'
  have T1 : Hid (w1.heap[w.heap.size]? = some (.cells #[.slice A0 u.reps.length c0, .int .i64 u.leader, .int .i64 u.epoch, .slice A3 u.insync.length c3, .slice A4 u.known.length c4, .int .i64 u.least] 38 (0, 0))) := (d1.block w.heap.size (by rw [hsz]; omega)).trans (heap_alloc_new _ _)
  have s1 : w.heap.size < w1.heap.size := (Array.getElem?_eq_some_iff.1 T1.out).1
  have p13 : w1.cell? ⟨w.heap.size, 3, none⟩ = some (.slice A3 u.insync.length c3) := cell_of_row w1 _ 3 _ _ (0, 0) T1.out
  have p14 : w1.cell? ⟨w.heap.size, 4, none⟩ = some (.slice A4 u.known.length c4) := cell_of_row w1 _ 4 _ _ (0, 0) T1.out
  clear d1 L1'
  by_cases k0 : q1 < 0
  · go_wp2
    go_ret
    exact ⟨_, rfl, by omega, by omega, by have m0 := L1.out.2 (by omega); simp only [szPrt]; exact ⟨fun _ => by omega, fun _ => by omega⟩, B1.out⟩
  go_wp2_with fail
  refine (szIntS_any _ u.insync _ w1 S (by omega) (by omega) (H3.out.below keepsI B1.out hS)).mono ?_
  rintro e w2 ⟨q2, rfl, a2, b2, L2', d2⟩
  have B2 := Seg.hid (chain B1.out d2)
  have L2 := Seg.hid L2'
  have T2 : Hid (w2.heap[w.heap.size]? = some (.cells #[.slice A0 u.reps.length c0, .int .i64 u.leader, .int .i64 u.epoch, .slice A3 u.insync.length c3, .slice A4 u.known.length c4, .int .i64 u.least] 38 (0, 0))) := (d2.block w.heap.size s1).trans T1.out
  have s2 : w.heap.size < w2.heap.size := (Array.getElem?_eq_some_iff.1 T2.out).1
  have p24 : w2.cell? ⟨w.heap.size, 4, none⟩ = some (.slice A4 u.known.length c4) := cell_of_row w2 _ 4 _ _ (0, 0) T2.out
  clear d2 L2'
  by_cases k3 : q2 < 0
  · go_wp2
    go_ret
    exact ⟨_, rfl, by omega, by omega, by have m0 := L1.out.1 (by omega); have m1 := L2.out.2 (by omega); simp only [szPrt]; exact ⟨fun _ => by omega, fun _ => by omega⟩, B2.out⟩
  go_wp2_with fail
  refine (szIntS_any _ u.known _ w2 S (by omega) (by omega) (H4.out.below keepsI B2.out hS)).mono ?_
  rintro e w3 ⟨q3, rfl, a3, b3, L3', d3⟩
  have B3 := Seg.hid (chain B2.out d3)
  have L3 := Seg.hid L3'
  clear d3 L3'
  by_cases k4 : q3 < 0
  · go_wp2
    go_ret
    exact ⟨_, rfl, by omega, by omega, by have m0 := L1.out.1 (by omega); have m1 := L2.out.1 (by omega); have m2 := L3.out.2 (by omega); simp only [szPrt]; exact ⟨fun _ => by omega, fun _ => by omega⟩, B3.out⟩
  go_wp2
  go_ret
  exact ⟨_, rfl, by omega, by omega, by have m0 := L1.out.1 (by omega); have m1 := L2.out.1 (by omega); have m2 := L3.out.1 (by omega); simp only [szPrt]; exact ⟨fun _ => by omega, fun _ => by omega⟩, B3.out⟩
set_option maxHeartbeats 1600000 in
theorem toPart_any (v : Value) (u : Prt) (w : World) (S : Nat → Prop) (hv : PrtAt w S v u) (hS : ∀ g, S g → g < w.heap.size) (hf : szPrt u ≤ 1048576) :
    Calls Try.prog 14 #[v] w fun e w' => ∃ v', e = .returned v' ∧ PrtAt w' (seg w.heap.size w'.heap.size) v' u ∧ Below w.heap.size w w' := by
  obtain ⟨f, rfl, y0, y1, y2, y3, y4, y5⟩ := hv
  try simp only [arrPrt]
  obtain ⟨A0, c0, g0⟩ := y0.form
  rw [g0] at y0 ⊢
  have H0 := Seg.hid y0
  clear y0 g0
  rw [show f 1 = _ from y1]
  clear y1
  rw [show f 2 = _ from y2]
  clear y2
  obtain ⟨A3, c3, g3⟩ := y3.form
  rw [g3] at y3 ⊢
  have H3 := Seg.hid y3
  clear y3 g3
  obtain ⟨A4, c4, g4⟩ := y4.form
  rw [g4] at y4 ⊢
  have H4 := Seg.hid y4
  clear y4 g4
  rw [show f 5 = _ from y5]
  clear y5
  unfold szPrt at hf
  go_enter Try.func14, Try.ntmps14
  go_wp2_with fail
  refine (toReplicaS_any _ u.reps (((w.alloc _).alloc _).alloc _) S (H0.out.below keepsRpl (below3 w _ _ _) hS) (fun g hg => by rw [hsz, hsz, hsz]; have := hS g hg; omega) (by omega)).mono ?_
  rintro e w1 ⟨v1, rfl, l1, b1⟩
  have B1 := Seg.hid (chain (below3 w _ _ _) b1)
  have Ta1 : Hid (w1.heap[w.heap.size]? = some (.cells #[.slice A0 u.reps.length c0, .int .i64 u.leader, .int .i64 u.epoch, .slice A3 u.insync.length c3, .slice A4 u.known.length c4, .int .i64 u.least] 38 (0, 0))) := (b1.block w.heap.size (by rw [hsz, hsz, hsz]; omega)).trans (at3z w _ _ _)
  have Tr1 : Hid (w1.heap[w.heap.size + 1]? = some (.cells #[.slice none 0 0, .int .i64 0, .int .i64 0, .slice none 0 0, .slice none 0 0, .int .i64 0] 44 (0, 0))) := (b1.block (w.heap.size + 1) (by rw [hsz, hsz, hsz]; omega)).trans (at3 w _ _ _)
  have To1 : Hid (w1.heap[w.heap.size + 1 + 1]? = some (.cells #[.slice none 0 0, .int .i64 0, .int .i64 0, .slice none 0 0, .slice none 0 0, .int .i64 0] 44 (0, 0))) := (b1.block (w.heap.size + 1 + 1) (by rw [hsz, hsz, hsz]; omega)).trans (Cells.at3' w _ _ _)
  have s1 : w.heap.size + 3 ≤ w1.heap.size := by have := b1.size; rw [hsz, hsz, hsz] at this; omega
  have M1 : Hid (LAt 6 ERpl w1 (seg (w.heap.size + 3) w1.heap.size) v1 u.reps) := by
    rw [hsz, hsz, hsz] at l1
    exact l1
  obtain ⟨Y1, x1, r1⟩ := M1.out.form
  subst r1
  clear b1 l1
  have N11 := M1
  have pa11 : w1.cell? ⟨w.heap.size, 1, none⟩ = some (.int .i64 u.leader) := cell_of_row w1 _ 1 _ _ (0, 0) Ta1.out
  have pa12 : w1.cell? ⟨w.heap.size, 2, none⟩ = some (.int .i64 u.epoch) := cell_of_row w1 _ 2 _ _ (0, 0) Ta1.out
  have pa13 : w1.cell? ⟨w.heap.size, 3, none⟩ = some (.slice A3 u.insync.length c3) := cell_of_row w1 _ 3 _ _ (0, 0) Ta1.out
  have po10 : (w1).cell? ⟨w.heap.size + 1 + 1, 0, none⟩ = some (.slice none 0 0) := cell_of_row (w1) _ 0 _ _ (0, 0) (To1.out)
  have pf10 : (w1).frozen? ⟨w.heap.size + 1 + 1, 0, none⟩ = false := frozen_of_row (w1) _ 0 _ _ (To1.out)
  have qo10 : Hid (((w1.setCell ⟨w.heap.size + 1 + 1, 0, none⟩ (.slice Y1 u.reps.length x1))).heap[w.heap.size + 1 + 1]? = some (.cells #[.slice Y1 u.reps.length x1, .int .i64 0, .int .i64 0, .slice none 0 0, .slice none 0 0, .int .i64 0] 44 (0, 0))) := heap_setCell_same (w1) (w.heap.size + 1 + 1) 0 _ _ (.slice Y1 u.reps.length x1) (To1.out)
  have po11 : ((w1.setCell ⟨w.heap.size + 1 + 1, 0, none⟩ (.slice Y1 u.reps.length x1))).cell? ⟨w.heap.size + 1 + 1, 1, none⟩ = some (.int .i64 0) := cell_of_row ((w1.setCell ⟨w.heap.size + 1 + 1, 0, none⟩ (.slice Y1 u.reps.length x1))) _ 1 _ _ (0, 0) (qo10.out)
  have pf11 : ((w1.setCell ⟨w.heap.size + 1 + 1, 0, none⟩ (.slice Y1 u.reps.length x1))).frozen? ⟨w.heap.size + 1 + 1, 1, none⟩ = false := frozen_of_row ((w1.setCell ⟨w.heap.size + 1 + 1, 0, none⟩ (.slice Y1 u.reps.length x1))) _ 1 _ _ (qo10.out)
  have qo11 : Hid ((((w1.setCell ⟨w.heap.size + 1 + 1, 0, none⟩ (.slice Y1 u.reps.length x1)).setCell ⟨w.heap.size + 1 + 1, 1, none⟩ (.int .i64 u.leader))).heap[w.heap.size + 1 + 1]? = some (.cells #[.slice Y1 u.reps.length x1, .int .i64 u.leader, .int .i64 0, .slice none 0 0, .slice none 0 0, .int .i64 0] 44 (0, 0))) := heap_setCell_same ((w1.setCell ⟨w.heap.size + 1 + 1, 0, none⟩ (.slice Y1 u.reps.length x1))) (w.heap.size + 1 + 1) 1 _ _ (.int .i64 u.leader) (qo10.out)
  have po12 : (((w1.setCell ⟨w.heap.size + 1 + 1, 0, none⟩ (.slice Y1 u.reps.length x1)).setCell ⟨w.heap.size + 1 + 1, 1, none⟩ (.int .i64 u.leader))).cell? ⟨w.heap.size + 1 + 1, 2, none⟩ = some (.int .i64 0) := cell_of_row (((w1.setCell ⟨w.heap.size + 1 + 1, 0, none⟩ (.slice Y1 u.reps.length x1)).setCell ⟨w.heap.size + 1 + 1, 1, none⟩ (.int .i64 u.leader))) _ 2 _ _ (0, 0) (qo11.out)
  have pf12 : (((w1.setCell ⟨w.heap.size + 1 + 1, 0, none⟩ (.slice Y1 u.reps.length x1)).setCell ⟨w.heap.size + 1 + 1, 1, none⟩ (.int .i64 u.leader))).frozen? ⟨w.heap.size + 1 + 1, 2, none⟩ = false := frozen_of_row (((w1.setCell ⟨w.heap.size + 1 + 1, 0, none⟩ (.slice Y1 u.reps.length x1)).setCell ⟨w.heap.size + 1 + 1, 1, none⟩ (.int .i64 u.leader))) _ 2 _ _ (qo11.out)
  have qo12 : Hid (((((w1.setCell ⟨w.heap.size + 1 + 1, 0, none⟩ (.slice Y1 u.reps.length x1)).setCell ⟨w.heap.size + 1 + 1, 1, none⟩ (.int .i64 u.leader)).setCell ⟨w.heap.size + 1 + 1, 2, none⟩ (.int .i64 u.epoch))).heap[w.heap.size + 1 + 1]? = some (.cells #[.slice Y1 u.reps.length x1, .int .i64 u.leader, .int .i64 u.epoch, .slice none 0 0, .slice none 0 0, .int .i64 0] 44 (0, 0))) := heap_setCell_same (((w1.setCell ⟨w.heap.size + 1 + 1, 0, none⟩ (.slice Y1 u.reps.length x1)).setCell ⟨w.heap.size + 1 + 1, 1, none⟩ (.int .i64 u.leader))) (w.heap.size + 1 + 1) 2 _ _ (.int .i64 u.epoch) (qo11.out)
  have Uo1 := Seg.hid (qo12.out)
  have Ur1 := Seg.hid ((heap_setCell_other (((w1.setCell ⟨w.heap.size + 1 + 1, 0, none⟩ (.slice Y1 u.reps.length x1)).setCell ⟨w.heap.size + 1 + 1, 1, none⟩ (.int .i64 u.leader))) ⟨w.heap.size + 1 + 1, 2, none⟩ (w.heap.size + 1) (.int .i64 u.epoch) (by simp)).trans ((heap_setCell_other ((w1.setCell ⟨w.heap.size + 1 + 1, 0, none⟩ (.slice Y1 u.reps.length x1))) ⟨w.heap.size + 1 + 1, 1, none⟩ (w.heap.size + 1) (.int .i64 u.leader) (by simp)).trans ((heap_setCell_other (w1) ⟨w.heap.size + 1 + 1, 0, none⟩ (w.heap.size + 1) (.slice Y1 u.reps.length x1) (by simp)).trans (Tr1.out))))
  have Ua1 := Seg.hid ((heap_setCell_other (((w1.setCell ⟨w.heap.size + 1 + 1, 0, none⟩ (.slice Y1 u.reps.length x1)).setCell ⟨w.heap.size + 1 + 1, 1, none⟩ (.int .i64 u.leader))) ⟨w.heap.size + 1 + 1, 2, none⟩ w.heap.size (.int .i64 u.epoch) (by simp; omega)).trans ((heap_setCell_other ((w1.setCell ⟨w.heap.size + 1 + 1, 0, none⟩ (.slice Y1 u.reps.length x1))) ⟨w.heap.size + 1 + 1, 1, none⟩ w.heap.size (.int .i64 u.leader) (by simp; omega)).trans ((heap_setCell_other (w1) ⟨w.heap.size + 1 + 1, 0, none⟩ w.heap.size (.slice Y1 u.reps.length x1) (by simp; omega)).trans (Ta1.out))))
  have D1 : Hid (Below w.heap.size w (((w1.setCell ⟨w.heap.size + 1 + 1, 0, none⟩ (.slice Y1 u.reps.length x1)).setCell ⟨w.heap.size + 1 + 1, 1, none⟩ (.int .i64 u.leader)).setCell ⟨w.heap.size + 1 + 1, 2, none⟩ (.int .i64 u.epoch))) := (((B1.out).setCell (p := ⟨w.heap.size + 1 + 1, 0, none⟩) (by simp; omega) (.slice Y1 u.reps.length x1)).setCell (p := ⟨w.heap.size + 1 + 1, 1, none⟩) (by simp; omega) (.int .i64 u.leader)).setCell (p := ⟨w.heap.size + 1 + 1, 2, none⟩) (by simp; omega) (.int .i64 u.epoch)
  have N11' : Hid (LAt 6 ERpl (((w1.setCell ⟨w.heap.size + 1 + 1, 0, none⟩ (.slice Y1 u.reps.length x1)).setCell ⟨w.heap.size + 1 + 1, 1, none⟩ (.int .i64 u.leader)).setCell ⟨w.heap.size + 1 + 1, 2, none⟩ (.int .i64 u.epoch)) (seg (w.heap.size + 3) w1.heap.size) (.slice Y1 u.reps.length x1) u.reps) := N11.out.keep keepsRpl (fun g hg => by have := hg.1; rw [heap_setCell_other _ _ _ _ (by show _ ≠ w.heap.size + 1 + 1; omega), heap_setCell_other _ _ _ _ (by show _ ≠ w.heap.size + 1 + 1; omega), heap_setCell_other _ _ _ _ (by show _ ≠ w.heap.size + 1 + 1; omega)])
  go_wp2_with fail
  refine (toIntS_any _ u.insync (((w1.setCell ⟨w.heap.size + 1 + 1, 0, none⟩ (.slice Y1 u.reps.length x1)).setCell ⟨w.heap.size + 1 + 1, 1, none⟩ (.int .i64 u.leader)).setCell ⟨w.heap.size + 1 + 1, 2, none⟩ (.int .i64 u.epoch)) S (H3.out.below keepsI D1.out hS) (fun g hg => Nat.lt_of_lt_of_le (hS g hg) D1.out.size) (by omega)).mono ?_
  rintro e w2 ⟨v2, rfl, l2, b2⟩
  have B2 := Seg.hid (chain D1.out b2)
  have z2 : (((w1.setCell ⟨w.heap.size + 1 + 1, 0, none⟩ (.slice Y1 u.reps.length x1)).setCell ⟨w.heap.size + 1 + 1, 1, none⟩ (.int .i64 u.leader)).setCell ⟨w.heap.size + 1 + 1, 2, none⟩ (.int .i64 u.epoch)).heap.size = w1.heap.size := by simp
  have Ta2 := Seg.hid ((b2.block w.heap.size (by omega)).trans Ua1.out)
  have Tr2 := Seg.hid ((b2.block (w.heap.size + 1) (by omega)).trans Ur1.out)
  have To2 := Seg.hid ((b2.block (w.heap.size + 1 + 1) (by omega)).trans Uo1.out)
  have s2 : w.heap.size + 3 ≤ w2.heap.size := by have := b2.size; omega
  have M2 : Hid (IntsAt w2 (seg (w.heap.size + 3) w2.heap.size) v2 u.insync) := l2.mono growsI (fun g hg => ⟨by have := hg.1; omega, hg.2⟩)
  have N21 : Hid (LAt 6 ERpl w2 (seg (w.heap.size + 3) w2.heap.size) (.slice Y1 u.reps.length x1) u.reps) := ((N11'.out.keep keepsRpl (fun g hg => b2.block g (by have := hg.2; omega))).mono growsRpl (fun g hg => ⟨hg.1, by have := b2.size; have := hg.2; omega⟩))
  clear z2
  obtain ⟨Y2, x2, r2⟩ := M2.out.form
  subst r2
  clear b2 l2
  have N22 := M2
  have pa24 : w2.cell? ⟨w.heap.size, 4, none⟩ = some (.slice A4 u.known.length c4) := cell_of_row w2 _ 4 _ _ (0, 0) Ta2.out
  have po23 : (w2).cell? ⟨w.heap.size + 1 + 1, 3, none⟩ = some (.slice none 0 0) := cell_of_row (w2) _ 3 _ _ (0, 0) (To2.out)
  have pf23 : (w2).frozen? ⟨w.heap.size + 1 + 1, 3, none⟩ = false := frozen_of_row (w2) _ 3 _ _ (To2.out)
  have qo23 : Hid (((w2.setCell ⟨w.heap.size + 1 + 1, 3, none⟩ (.slice Y2 u.insync.length x2))).heap[w.heap.size + 1 + 1]? = some (.cells #[.slice Y1 u.reps.length x1, .int .i64 u.leader, .int .i64 u.epoch, .slice Y2 u.insync.length x2, .slice none 0 0, .int .i64 0] 44 (0, 0))) := heap_setCell_same (w2) (w.heap.size + 1 + 1) 3 _ _ (.slice Y2 u.insync.length x2) (To2.out)
  have Uo2 := Seg.hid (qo23.out)
  have Ur2 := Seg.hid ((heap_setCell_other (w2) ⟨w.heap.size + 1 + 1, 3, none⟩ (w.heap.size + 1) (.slice Y2 u.insync.length x2) (by simp)).trans (Tr2.out))
  have Ua2 := Seg.hid ((heap_setCell_other (w2) ⟨w.heap.size + 1 + 1, 3, none⟩ w.heap.size (.slice Y2 u.insync.length x2) (by simp; omega)).trans (Ta2.out))
  have D2 : Hid (Below w.heap.size w (w2.setCell ⟨w.heap.size + 1 + 1, 3, none⟩ (.slice Y2 u.insync.length x2))) := (B2.out).setCell (p := ⟨w.heap.size + 1 + 1, 3, none⟩) (by simp; omega) (.slice Y2 u.insync.length x2)
  have N21' : Hid (LAt 6 ERpl (w2.setCell ⟨w.heap.size + 1 + 1, 3, none⟩ (.slice Y2 u.insync.length x2)) (seg (w.heap.size + 3) w2.heap.size) (.slice Y1 u.reps.length x1) u.reps) := N21.out.keep keepsRpl (fun g hg => by have := hg.1; rw [heap_setCell_other _ _ _ _ (by show _ ≠ w.heap.size + 1 + 1; omega)])
  have N22' : Hid (IntsAt (w2.setCell ⟨w.heap.size + 1 + 1, 3, none⟩ (.slice Y2 u.insync.length x2)) (seg (w.heap.size + 3) w2.heap.size) (.slice Y2 u.insync.length x2) u.insync) := N22.out.keep keepsI (fun g hg => by have := hg.1; rw [heap_setCell_other _ _ _ _ (by show _ ≠ w.heap.size + 1 + 1; omega)])
  go_wp2_with fail
  refine (toIntS_any _ u.known (w2.setCell ⟨w.heap.size + 1 + 1, 3, none⟩ (.slice Y2 u.insync.length x2)) S (H4.out.below keepsI D2.out hS) (fun g hg => Nat.lt_of_lt_of_le (hS g hg) D2.out.size) (by omega)).mono ?_
  rintro e w3 ⟨v3, rfl, l3, b3⟩
  have B3 := Seg.hid (chain D2.out b3)
  have z3 : (w2.setCell ⟨w.heap.size + 1 + 1, 3, none⟩ (.slice Y2 u.insync.length x2)).heap.size = w2.heap.size := by simp
  have Ta3 := Seg.hid ((b3.block w.heap.size (by omega)).trans Ua2.out)
  have Tr3 := Seg.hid ((b3.block (w.heap.size + 1) (by omega)).trans Ur2.out)
  have To3 := Seg.hid ((b3.block (w.heap.size + 1 + 1) (by omega)).trans Uo2.out)
  have s3 : w.heap.size + 3 ≤ w3.heap.size := by have := b3.size; omega
  have M3 : Hid (IntsAt w3 (seg (w.heap.size + 3) w3.heap.size) v3 u.known) := l3.mono growsI (fun g hg => ⟨by have := hg.1; omega, hg.2⟩)
  have N31 : Hid (LAt 6 ERpl w3 (seg (w.heap.size + 3) w3.heap.size) (.slice Y1 u.reps.length x1) u.reps) := ((N21'.out.keep keepsRpl (fun g hg => b3.block g (by have := hg.2; omega))).mono growsRpl (fun g hg => ⟨hg.1, by have := b3.size; have := hg.2; omega⟩))
  have N32 : Hid (IntsAt w3 (seg (w.heap.size + 3) w3.heap.size) (.slice Y2 u.insync.length x2) u.insync) := ((N22'.out.keep keepsI (fun g hg => b3.block g (by have := hg.2; omega))).mono growsI (fun g hg => ⟨hg.1, by have := b3.size; have := hg.2; omega⟩))
  clear z3
  obtain ⟨Y3, x3, r3⟩ := M3.out.form
  subst r3
  clear b3 l3
  have N33 := M3
  have pa35 : w3.cell? ⟨w.heap.size, 5, none⟩ = some (.int .i64 u.least) := cell_of_row w3 _ 5 _ _ (0, 0) Ta3.out
  have po34 : (w3).cell? ⟨w.heap.size + 1 + 1, 4, none⟩ = some (.slice none 0 0) := cell_of_row (w3) _ 4 _ _ (0, 0) (To3.out)
  have pf34 : (w3).frozen? ⟨w.heap.size + 1 + 1, 4, none⟩ = false := frozen_of_row (w3) _ 4 _ _ (To3.out)
  have qo34 : Hid (((w3.setCell ⟨w.heap.size + 1 + 1, 4, none⟩ (.slice Y3 u.known.length x3))).heap[w.heap.size + 1 + 1]? = some (.cells #[.slice Y1 u.reps.length x1, .int .i64 u.leader, .int .i64 u.epoch, .slice Y2 u.insync.length x2, .slice Y3 u.known.length x3, .int .i64 0] 44 (0, 0))) := heap_setCell_same (w3) (w.heap.size + 1 + 1) 4 _ _ (.slice Y3 u.known.length x3) (To3.out)
  have po35 : ((w3.setCell ⟨w.heap.size + 1 + 1, 4, none⟩ (.slice Y3 u.known.length x3))).cell? ⟨w.heap.size + 1 + 1, 5, none⟩ = some (.int .i64 0) := cell_of_row ((w3.setCell ⟨w.heap.size + 1 + 1, 4, none⟩ (.slice Y3 u.known.length x3))) _ 5 _ _ (0, 0) (qo34.out)
  have pf35 : ((w3.setCell ⟨w.heap.size + 1 + 1, 4, none⟩ (.slice Y3 u.known.length x3))).frozen? ⟨w.heap.size + 1 + 1, 5, none⟩ = false := frozen_of_row ((w3.setCell ⟨w.heap.size + 1 + 1, 4, none⟩ (.slice Y3 u.known.length x3))) _ 5 _ _ (qo34.out)
  have qo35 : Hid ((((w3.setCell ⟨w.heap.size + 1 + 1, 4, none⟩ (.slice Y3 u.known.length x3)).setCell ⟨w.heap.size + 1 + 1, 5, none⟩ (.int .i64 u.least))).heap[w.heap.size + 1 + 1]? = some (.cells #[.slice Y1 u.reps.length x1, .int .i64 u.leader, .int .i64 u.epoch, .slice Y2 u.insync.length x2, .slice Y3 u.known.length x3, .int .i64 u.least] 44 (0, 0))) := heap_setCell_same ((w3.setCell ⟨w.heap.size + 1 + 1, 4, none⟩ (.slice Y3 u.known.length x3))) (w.heap.size + 1 + 1) 5 _ _ (.int .i64 u.least) (qo34.out)
  have Uo3 := Seg.hid (qo35.out)
  have Ur3 := Seg.hid ((heap_setCell_other ((w3.setCell ⟨w.heap.size + 1 + 1, 4, none⟩ (.slice Y3 u.known.length x3))) ⟨w.heap.size + 1 + 1, 5, none⟩ (w.heap.size + 1) (.int .i64 u.least) (by simp)).trans ((heap_setCell_other (w3) ⟨w.heap.size + 1 + 1, 4, none⟩ (w.heap.size + 1) (.slice Y3 u.known.length x3) (by simp)).trans (Tr3.out)))
  have Ua3 := Seg.hid ((heap_setCell_other ((w3.setCell ⟨w.heap.size + 1 + 1, 4, none⟩ (.slice Y3 u.known.length x3))) ⟨w.heap.size + 1 + 1, 5, none⟩ w.heap.size (.int .i64 u.least) (by simp; omega)).trans ((heap_setCell_other (w3) ⟨w.heap.size + 1 + 1, 4, none⟩ w.heap.size (.slice Y3 u.known.length x3) (by simp; omega)).trans (Ta3.out)))
  have D3 : Hid (Below w.heap.size w ((w3.setCell ⟨w.heap.size + 1 + 1, 4, none⟩ (.slice Y3 u.known.length x3)).setCell ⟨w.heap.size + 1 + 1, 5, none⟩ (.int .i64 u.least))) := ((B3.out).setCell (p := ⟨w.heap.size + 1 + 1, 4, none⟩) (by simp; omega) (.slice Y3 u.known.length x3)).setCell (p := ⟨w.heap.size + 1 + 1, 5, none⟩) (by simp; omega) (.int .i64 u.least)
  have N31' : Hid (LAt 6 ERpl ((w3.setCell ⟨w.heap.size + 1 + 1, 4, none⟩ (.slice Y3 u.known.length x3)).setCell ⟨w.heap.size + 1 + 1, 5, none⟩ (.int .i64 u.least)) (seg (w.heap.size + 3) w3.heap.size) (.slice Y1 u.reps.length x1) u.reps) := N31.out.keep keepsRpl (fun g hg => by have := hg.1; rw [heap_setCell_other _ _ _ _ (by show _ ≠ w.heap.size + 1 + 1; omega), heap_setCell_other _ _ _ _ (by show _ ≠ w.heap.size + 1 + 1; omega)])
  have N32' : Hid (IntsAt ((w3.setCell ⟨w.heap.size + 1 + 1, 4, none⟩ (.slice Y3 u.known.length x3)).setCell ⟨w.heap.size + 1 + 1, 5, none⟩ (.int .i64 u.least)) (seg (w.heap.size + 3) w3.heap.size) (.slice Y2 u.insync.length x2) u.insync) := N32.out.keep keepsI (fun g hg => by have := hg.1; rw [heap_setCell_other _ _ _ _ (by show _ ≠ w.heap.size + 1 + 1; omega), heap_setCell_other _ _ _ _ (by show _ ≠ w.heap.size + 1 + 1; omega)])
  have N33' : Hid (IntsAt ((w3.setCell ⟨w.heap.size + 1 + 1, 4, none⟩ (.slice Y3 u.known.length x3)).setCell ⟨w.heap.size + 1 + 1, 5, none⟩ (.int .i64 u.least)) (seg (w.heap.size + 3) w3.heap.size) (.slice Y3 u.known.length x3) u.known) := N33.out.keep keepsI (fun g hg => by have := hg.1; rw [heap_setCell_other _ _ _ _ (by show _ ≠ w.heap.size + 1 + 1; omega), heap_setCell_other _ _ _ _ (by show _ ≠ w.heap.size + 1 + 1; omega)])
  obtain ⟨fx, hfx⟩ : ∃ fx : Nat → Value, fx = (fun q => if q = 0 then .slice Y1 u.reps.length x1 else if q = 1 then .int .i64 u.leader else if q = 2 then .int .i64 u.epoch else if q = 3 then .slice Y2 u.insync.length x2 else if q = 4 then .slice Y3 u.known.length x3 else .int .i64 u.least) := ⟨_, rfl⟩
  have HX := Seg.hid hfx
  have Uz : Hid (((w3.setCell ⟨w.heap.size + 1 + 1, 4, none⟩ (.slice Y3 u.known.length x3)).setCell ⟨w.heap.size + 1 + 1, 5, none⟩ (.int .i64 u.least)).heap[w.heap.size + 1 + 1]? = some (.cells (arrPrt fx) 44 (0, 0))) := by
    show _ = _
    rw [hfx]
    exact Uo3.out
  clear hfx
  have H5a := Cells.there_of Ur3.out
  have H5 : Hid (((w3.setCell ⟨w.heap.size + 1 + 1, 4, none⟩ (.slice Y3 u.known.length x3)).setCell ⟨w.heap.size + 1 + 1, 5, none⟩ (.int .i64 u.least)).there (w.heap.size + 1) 0 (arrPrt fx).size) := H5a
  clear H5a
  have H4 := Seg.hid (Cells.whole (vs := arrPrt fx) Ur3.out rfl)
  have B9 := Seg.hid (Cells.below_setCells (g := w.heap.size + 1) (by omega) (arrPrt fx).toList 0 _ _ D3.out)
  have F1 : Hid (LAt 6 ERpl (((w3.setCell ⟨w.heap.size + 1 + 1, 4, none⟩ (.slice Y3 u.known.length x3)).setCell ⟨w.heap.size + 1 + 1, 5, none⟩ (.int .i64 u.least)).setCells (w.heap.size + 1) 0 (arrPrt fx).toList) (seg w.heap.size (((w3.setCell ⟨w.heap.size + 1 + 1, 4, none⟩ (.slice Y3 u.known.length x3)).setCell ⟨w.heap.size + 1 + 1, 5, none⟩ (.int .i64 u.least)).setCells (w.heap.size + 1) 0 (arrPrt fx).toList).heap.size) (fx 0) u.reps) := by
    show LAt 6 ERpl _ _ _ _
    rw [show fx 0 = .slice Y1 u.reps.length x1 by rw [HX.out]; rfl]
    refine (N31'.out.keep keepsRpl (fun g hg => ?_)).mono growsRpl (fun g hg => ⟨by have := hg.1; omega, ?_⟩)
    · have := hg.1
      rw [Cells.heap_setCells_other _ _ (by omega)]
    · rw [Cells.size_setCells]
      have := hg.2
      simpa using this
  have F2 : Hid (IntsAt (((w3.setCell ⟨w.heap.size + 1 + 1, 4, none⟩ (.slice Y3 u.known.length x3)).setCell ⟨w.heap.size + 1 + 1, 5, none⟩ (.int .i64 u.least)).setCells (w.heap.size + 1) 0 (arrPrt fx).toList) (seg w.heap.size (((w3.setCell ⟨w.heap.size + 1 + 1, 4, none⟩ (.slice Y3 u.known.length x3)).setCell ⟨w.heap.size + 1 + 1, 5, none⟩ (.int .i64 u.least)).setCells (w.heap.size + 1) 0 (arrPrt fx).toList).heap.size) (fx 3) u.insync) := by
    show IntsAt _ _ _ _
    rw [show fx 3 = .slice Y2 u.insync.length x2 by rw [HX.out]; rfl]
    refine (N32'.out.keep keepsI (fun g hg => ?_)).mono growsI (fun g hg => ⟨by have := hg.1; omega, ?_⟩)
    · have := hg.1
      rw [Cells.heap_setCells_other _ _ (by omega)]
    · rw [Cells.size_setCells]
      have := hg.2
      simpa using this
  have F3 : Hid (IntsAt (((w3.setCell ⟨w.heap.size + 1 + 1, 4, none⟩ (.slice Y3 u.known.length x3)).setCell ⟨w.heap.size + 1 + 1, 5, none⟩ (.int .i64 u.least)).setCells (w.heap.size + 1) 0 (arrPrt fx).toList) (seg w.heap.size (((w3.setCell ⟨w.heap.size + 1 + 1, 4, none⟩ (.slice Y3 u.known.length x3)).setCell ⟨w.heap.size + 1 + 1, 5, none⟩ (.int .i64 u.least)).setCells (w.heap.size + 1) 0 (arrPrt fx).toList).heap.size) (fx 4) u.known) := by
    show IntsAt _ _ _ _
    rw [show fx 4 = .slice Y3 u.known.length x3 by rw [HX.out]; rfl]
    refine (N33'.out.keep keepsI (fun g hg => ?_)).mono growsI (fun g hg => ⟨by have := hg.1; omega, ?_⟩)
    · have := hg.1
      rw [Cells.heap_setCells_other _ _ (by omega)]
    · rw [Cells.size_setCells]
      have := hg.2
      simpa using this
  have EX : Hid (EPrt (((w3.setCell ⟨w.heap.size + 1 + 1, 4, none⟩ (.slice Y3 u.known.length x3)).setCell ⟨w.heap.size + 1 + 1, 5, none⟩ (.int .i64 u.least)).setCells (w.heap.size + 1) 0 (arrPrt fx).toList) (seg w.heap.size (((w3.setCell ⟨w.heap.size + 1 + 1, 4, none⟩ (.slice Y3 u.known.length x3)).setCell ⟨w.heap.size + 1 + 1, 5, none⟩ (.int .i64 u.least)).setCells (w.heap.size + 1) 0 (arrPrt fx).toList).heap.size) fx u) := ⟨F1.out, by rw [HX.out]; rfl, by rw [HX.out]; rfl, F2.out, F3.out, by rw [HX.out]; rfl⟩
  have ON := Seg.hid (onePrt EX.out)
  clear Ta1 Tr1 To1 Ua1 M1 Ta2 Tr2 To2 Ua2 M2 Ta3 Tr3 To3 Ua3 M3
  go_upto_region 8 with fail
  clear po34 pf34 po35 pf35
  generalize ((w3.setCell ⟨w.heap.size + 1 + 1, 4, none⟩ (.slice Y3 u.known.length x3)).setCell ⟨w.heap.size + 1 + 1, 5, none⟩ (.int .i64 u.least)) = wz at *
  go_wp2_with (first | (refine wpList_load_row rfl 44 _ rfl (w.heap.size + 1 + 1) rfl _ _ _ _ Uz.out Try.underlying44 rfl infoPrt ?_) | (refine wpList_store_mid rfl 44 _ _ rfl (w.heap.size + 1) 0 (arrPrt fx) rfl rfl H5.out infoPrt ON.out ?_))
  exact bodyPost_ret (v := .agg (arrPrt fx)) (results_cell_row rfl _ _ (w.heap.size + 1) _ _ _ _ rfl H4.out Try.underlying44 rfl infoPrt) rfl ⟨_, rfl, ⟨fx, rfl, EX.out⟩, B9.out⟩
set_option maxHeartbeats 1600000 in
theorem eqPart_any (v v' : Value) (u : Prt) (w : World) (S S' : Nat → Prop) (hv : PrtAt w S v u) (hv' : PrtAt w S' v' u) (hS : ∀ g, S g → g < w.heap.size) (hS' : ∀ g, S' g → g < w.heap.size) :
    Calls Try.prog 17 #[v, v'] w fun e w' => e = .returned (.bool true) ∧ Below w.heap.size w w' := by
  obtain ⟨f, rfl, y0, y1, y2, y3, y4, y5⟩ := hv
  obtain ⟨f', rfl, y0', y1', y2', y3', y4', y5'⟩ := hv'
  try simp only [arrPrt]
  obtain ⟨A0, c0, g0⟩ := y0.form
  rw [g0] at y0 ⊢
  have H0 := Seg.hid y0
  clear y0 g0
  rw [show f 1 = _ from y1]
  clear y1
  rw [show f 2 = _ from y2]
  clear y2
  obtain ⟨A3, c3, g3⟩ := y3.form
  rw [g3] at y3 ⊢
  have H3 := Seg.hid y3
  clear y3 g3
  obtain ⟨A4, c4, g4⟩ := y4.form
  rw [g4] at y4 ⊢
  have H4 := Seg.hid y4
  clear y4 g4
  rw [show f 5 = _ from y5]
  clear y5
  try simp only [arrPrt]
  obtain ⟨A0', c0', g0'⟩ := y0'.form
  rw [g0'] at y0' ⊢
  have H0' := Seg.hid y0'
  clear y0' g0'
  rw [show f' 1 = _ from y1']
  clear y1'
  rw [show f' 2 = _ from y2']
  clear y2'
  obtain ⟨A3', c3', g3'⟩ := y3'.form
  rw [g3'] at y3' ⊢
  have H3' := Seg.hid y3'
  clear y3' g3'
  obtain ⟨A4', c4', g4'⟩ := y4'.form
  rw [g4'] at y4' ⊢
  have H4' := Seg.hid y4'
  clear y4' g4'
  rw [show f' 5 = _ from y5']
  clear y5'
  go_enter Try.func17, Try.ntmps17
  go_wp2_with fail
  refine (eqReplicaS_any _ _ u.reps ((w.alloc _).alloc _) S S' (H0.out.below keepsRpl (below2 w _ _) hS) (H0'.out.below keepsRpl (below2 w _ _) hS') (fun g hg => by rw [hsz, hsz]; have := hS g hg; omega) (fun g hg => by rw [hsz, hsz]; have := hS' g hg; omega)).mono ?_
  rintro e w1 ⟨rfl, b1⟩
  have B1 := Seg.hid (chain (below2 w _ _) b1)
  have Ta1 : Hid (w1.heap[w.heap.size]? = some (.cells #[.slice A0 u.reps.length c0, .int .i64 u.leader, .int .i64 u.epoch, .slice A3 u.insync.length c3, .slice A4 u.known.length c4, .int .i64 u.least] 44 (0, 0))) := (b1.block w.heap.size (by rw [hsz, hsz]; omega)).trans (at2z w _ _)
  have Tb1 : Hid (w1.heap[w.heap.size + 1]? = some (.cells #[.slice A0' u.reps.length c0', .int .i64 u.leader, .int .i64 u.epoch, .slice A3' u.insync.length c3', .slice A4' u.known.length c4', .int .i64 u.least] 44 (0, 0))) := (b1.block (w.heap.size + 1) (by rw [hsz, hsz]; omega)).trans (at2y w _ _)
  have s1 : w.heap.size + 1 < w1.heap.size := (Array.getElem?_eq_some_iff.1 Tb1.out).1
  have pa11 : w1.cell? ⟨w.heap.size, 1, none⟩ = some (.int .i64 u.leader) := cell_of_row w1 _ 1 _ _ (0, 0) Ta1.out
  have pb11 : w1.cell? ⟨w.heap.size + 1, 1, none⟩ = some (.int .i64 u.leader) := cell_of_row w1 _ 1 _ _ (0, 0) Tb1.out
  have pa12 : w1.cell? ⟨w.heap.size, 2, none⟩ = some (.int .i64 u.epoch) := cell_of_row w1 _ 2 _ _ (0, 0) Ta1.out
  have pb12 : w1.cell? ⟨w.heap.size + 1, 2, none⟩ = some (.int .i64 u.epoch) := cell_of_row w1 _ 2 _ _ (0, 0) Tb1.out
  have pa13 : w1.cell? ⟨w.heap.size, 3, none⟩ = some (.slice A3 u.insync.length c3) := cell_of_row w1 _ 3 _ _ (0, 0) Ta1.out
  have pb13 : w1.cell? ⟨w.heap.size + 1, 3, none⟩ = some (.slice A3' u.insync.length c3') := cell_of_row w1 _ 3 _ _ (0, 0) Tb1.out
  clear b1
  go_wp2_with fail
  refine (eqIntS_any _ _ u.insync w1 S S' (H3.out.below keepsI B1.out hS) (H3'.out.below keepsI B1.out hS') (fun g hg => Nat.lt_of_lt_of_le (hS g hg) B1.out.size) (fun g hg => Nat.lt_of_lt_of_le (hS' g hg) B1.out.size)).mono ?_
  rintro e w2 ⟨rfl, b2⟩
  have B2 := Seg.hid (chain B1.out b2)
  have Ta2 : Hid (w2.heap[w.heap.size]? = some (.cells #[.slice A0 u.reps.length c0, .int .i64 u.leader, .int .i64 u.epoch, .slice A3 u.insync.length c3, .slice A4 u.known.length c4, .int .i64 u.least] 44 (0, 0))) := (b2.block w.heap.size (by omega)).trans Ta1.out
  have Tb2 : Hid (w2.heap[w.heap.size + 1]? = some (.cells #[.slice A0' u.reps.length c0', .int .i64 u.leader, .int .i64 u.epoch, .slice A3' u.insync.length c3', .slice A4' u.known.length c4', .int .i64 u.least] 44 (0, 0))) := (b2.block (w.heap.size + 1) (by omega)).trans Tb1.out
  have s2 : w.heap.size + 1 < w2.heap.size := (Array.getElem?_eq_some_iff.1 Tb2.out).1
  have pa24 : w2.cell? ⟨w.heap.size, 4, none⟩ = some (.slice A4 u.known.length c4) := cell_of_row w2 _ 4 _ _ (0, 0) Ta2.out
  have pb24 : w2.cell? ⟨w.heap.size + 1, 4, none⟩ = some (.slice A4' u.known.length c4') := cell_of_row w2 _ 4 _ _ (0, 0) Tb2.out
  clear b2
  go_wp2_with fail
  refine (eqIntS_any _ _ u.known w2 S S' (H4.out.below keepsI B2.out hS) (H4'.out.below keepsI B2.out hS') (fun g hg => Nat.lt_of_lt_of_le (hS g hg) B2.out.size) (fun g hg => Nat.lt_of_lt_of_le (hS' g hg) B2.out.size)).mono ?_
  rintro e w3 ⟨rfl, b3⟩
  have B3 := Seg.hid (chain B2.out b3)
  have Ta3 : Hid (w3.heap[w.heap.size]? = some (.cells #[.slice A0 u.reps.length c0, .int .i64 u.leader, .int .i64 u.epoch, .slice A3 u.insync.length c3, .slice A4 u.known.length c4, .int .i64 u.least] 44 (0, 0))) := (b3.block w.heap.size (by omega)).trans Ta2.out
  have Tb3 : Hid (w3.heap[w.heap.size + 1]? = some (.cells #[.slice A0' u.reps.length c0', .int .i64 u.leader, .int .i64 u.epoch, .slice A3' u.insync.length c3', .slice A4' u.known.length c4', .int .i64 u.least] 44 (0, 0))) := (b3.block (w.heap.size + 1) (by omega)).trans Tb2.out
  have s3 : w.heap.size + 1 < w3.heap.size := (Array.getElem?_eq_some_iff.1 Tb3.out).1
  have pa35 : w3.cell? ⟨w.heap.size, 5, none⟩ = some (.int .i64 u.least) := cell_of_row w3 _ 5 _ _ (0, 0) Ta3.out
  have pb35 : w3.cell? ⟨w.heap.size + 1, 5, none⟩ = some (.int .i64 u.least) := cell_of_row w3 _ 5 _ _ (0, 0) Tb3.out
  clear b3
  go_wp2
  go_ret
  exact ⟨rfl, B3.out⟩
end Go.Proofs.Yticihnoekffelaa.Ls
namespace Go.Proofs.Yticihnoekffelaa.BOk
set_option maxRecDepth 8000
open Go.RowKit
open Recs
set_option linter.unusedVariables false

theorem seven {w : World} {g tp : Nat} {t : Bat} {hv : Value} (h : w.heap[g]? = some (.cells (BatW.batArr t hv) tp (0, 0))) : w.cell? ⟨g, 0, none⟩ = some (.int .i64 t.base) ∧ w.cell? ⟨g, 1, none⟩ = some (.int .i64 t.epoch) ∧ w.cell? ⟨g, 2, none⟩ = some (.int .i64 t.producer) ∧
    w.cell? ⟨g, 3, none⟩ = some (.int .i64 t.turn) ∧ w.cell? ⟨g, 4, none⟩ = some (.int .i64 t.seq) ∧ w.cell? ⟨g, 5, none⟩ = some (.int .i64 t.flags) ∧ w.cell? ⟨g, 6, none⟩ = some hv :=
  ⟨cell_of_row w g 0 _ tp (0, 0) h, cell_of_row w g 1 _ tp (0, 0) h, cell_of_row w g 2 _ tp (0, 0) h, cell_of_row w g 3 _ tp (0, 0) h, cell_of_row w g 4 _ tp (0, 0) h, cell_of_row w g 5 _ tp (0, 0) h, cell_of_row w g 6 _ tp (0, 0) h⟩
set_option maxHeartbeats 1600000 in
theorem impl_any (v : Value) (t : Bat) (w : World) (lo b : Nat) (hv : BatAt w lo b v t) (hb : b ≤ w.heap.size) :
    Calls Try.prog 55 #[v] w fun e w' => e = .returned (.bool (batOk t)) ∧ Below w.heap.size w w' := by
  rw [← same]
  obtain ⟨rv, rfl, hr⟩ := hv
  have HR := Seg.hid hr
  obtain ⟨H, ⟨hn, A, c, rfl, hcell⟩, hheads⟩ := hr
  have HC := Seg.hid hcell; have HH := Seg.hid hheads
  clear hcell hheads
  unfold batVal
  unfold batI
  go_enter Try.func55, Try.ntmps55
  go_wp2_with fail
  refine (records_any _ t.recs (w.alloc _) lo b (HR.out.below ((below1 w _).mono hb)) (by rw [hsz]; omega)).mono ?_
  rintro e w1 ⟨rfl, b1⟩
  have B1 := Seg.hid (chain (below1 w _) b1)
  have T1 : Hid (w1.heap[w.heap.size]? = some (.cells (BatW.batArr t (.slice A t.recs.length c)) 58 (0, 0))) := (b1.block w.heap.size (by rw [hsz]; omega)).trans (heap_alloc_new _ _)
  have z1 : w.heap.size < w1.heap.size := (Array.getElem?_eq_some_iff.1 T1.out).1
  clear b1
  generalize h1 : (inR (t.recs.length : Int) 1 40 && t.recs.all ROk.okR) = V1
  have RN : V1 = true → 1 ≤ (t.recs.length : Int) ∧ (t.recs.length : Int) ≤ 40 := fun h => by
    rw [h, Bool.and_eq_true] at h1
    simpa [inR] using h1.1
  cases V1 with
  | false =>
    have HV1 := Seg.hid h1
    clear h1
    clear RN
    go_wp2
    go_ret
    exact ⟨Seg.ret_bool (by rw [HV1.out]; simp), B1.out⟩
  | true =>
  have HV1 := Seg.hid h1
  clear h1
  have rn := RN rfl
  clear RN
  obtain ⟨c0, c1, c2, c3, c4, c5, c6⟩ := seven T1.out
  go_wp2_with fail
  clear c0 c1 c2 c3 c4 c5 c6
  refine (place_any t.base t.epoch t.producer t.turn t.seq t.flags A t.recs.length c w1 rn.2).mono ?_
  rintro e w2 ⟨rfl, b2⟩
  have B2 := Seg.hid (chain B1.out b2)
  have T2 := Seg.hid ((b2.block w.heap.size z1).trans T1.out)
  have z2 : w.heap.size < w2.heap.size := (Array.getElem?_eq_some_iff.1 T2.out).1
  clear b2
  generalize h2 : (inR t.base 0 (1000000001 - t.recs.length) && inR t.epoch 0 1000000) = V2
  cases V2 with
  | false =>
    have HV2 := Seg.hid h2
    clear h2
    go_wp2
    go_ret
    exact ⟨Seg.ret_bool (by rw [HV2.out]; simp), B2.out⟩
  | true =>
  have HV2 := Seg.hid h2
  clear h2
  obtain ⟨c0, c1, c2, c3, c4, c5, c6⟩ := seven T2.out
  go_wp2_with fail
  clear c0 c1 c2 c3 c4 c5 c6
  refine (producer_any t.base t.epoch t.producer t.turn t.seq t.flags A t.recs.length c w2 rn.2).mono ?_
  rintro e w3 ⟨rfl, b3⟩
  have B3 := Seg.hid (chain B2.out b3)
  have T3 := Seg.hid ((b3.block w.heap.size z2).trans T2.out)
  clear b3
  generalize h3 : prB t.producer t.turn t.seq t.recs.length = V3
  cases V3 with
  | false =>
    have HV3 := Seg.hid h3
    clear h3
    go_wp2
    go_ret
    exact ⟨Seg.ret_bool (by rw [HV3.out]; simp), B3.out⟩
  | true =>
  have HV3 := Seg.hid h3
  clear h3
  have HL : Hid (Lies w3 A t.recs.length c t.recs H lo b) := by
    obtain ⟨g, o, l1, l2, l3, l4, l5⟩ := HC.out.resolve_left (by omega)
    exact ⟨g, o, l1, Nat.lt_of_lt_of_le l2 (Nat.le_trans hb B3.out.size), l3, RecsW.six' l4 B3.out (by omega), fun i hi => (HH.out i hi).below (B3.out.mono hb), Nat.le_trans hb B3.out.size⟩
  obtain ⟨c0, c1, c2, c3, c4, c5, c6⟩ := seven T3.out
  go_wp2_with fail
  clear c0 c1 c2 c3 c4 c5 c6
  refine (flags_any t.base t.epoch t.producer t.turn t.seq t.flags A t.recs.length c t.recs H lo b w3 rn HL.out).mono ?_
  rintro e w4 ⟨rfl, b4⟩
  have B4 := Seg.hid (chain B3.out b4)
  clear b4
  go_wp2
  go_ret
  exact ⟨Seg.ret_bool (by rw [HV1.out, HV2.out, HV3.out]; simp), B4.out⟩
end Go.Proofs.Yticihnoekffelaa.BOk
