/- Lists of Arrival: what the law's helpers answer; Plain helpers for lists in memory: a number between two, a list opened where it has elements, a world that has only drawn. -/
import Derived.Test.YtkibaimemomjpaaJQ04
import Derived.Test.YtkibaimemomjpaaJQ03
namespace Go.Proofs.Ytkibaimemomjpaa.Ls
set_option maxRecDepth 8000
open Go.RowKit
open Recs
set_option linter.unusedVariables false
theorem szArrivalS_none (A : Option Addr) (c : Nat) (l : Int) (w : World) (h3 : -1 ≤ l) (h4 : l ≤ 1048576) :
    Calls Try.prog 52 #[.slice A 0 c, .int .i64 l] w fun e w' => ∃ q, e = .returned (.int .i64 q) ∧ -1 ≤ q ∧ q ≤ l ∧ Lf l 0 q ∧ Below w.heap.size w w' := by
  go_enter Try.func52, Try.ntmps52
  by_cases hlt : l < 0
  · go_wp2
    go_ret
    exact ⟨_, rfl, by omega, by omega, ⟨fun _ => by omega, fun _ => by omega⟩, Below.refl _ _⟩
  go_wp2
  go_loop [1, 5] (fun x i => i = .int .i64 0 ∧ x = .int .i64 l) (fun _ _ => 0)
  case atStart => exact ⟨rfl, by go_num⟩
  case round =>
    obtain ⟨rfl, rfl⟩ := hrel
    go_wp2
    go_ret
    exact ⟨_, rfl, by omega, by omega, ⟨fun _ => by omega, fun _ => by omega⟩, Below.refl _ _⟩

set_option maxHeartbeats 800000 in
theorem szArrivalS_core (g o n c : Nat) (us : List Arr) (F : Nat → Nat → Value) (l : Int) (w : World) (S : Nat → Prop) (h3 : -1 ≤ l) (h4 : l ≤ 1048576) (hn : n ≤ 9223372036854775807) (hc : n ≤ c) (hg : g < w.heap.size) (hS : ∀ g, S g → g < w.heap.size) (hnl : us.length = n)
    (hf : ∀ i, i < n → FineArr (us.getD i default)) (he : ∀ i, i < n → EArr w S (F i) (us.getD i default))
    (ha : ∀ i, i < n → ∀ j, j < 3 → w.cell? ⟨g, o + i * 3 + j, none⟩ = some (F i j)) :
    Calls Try.prog 52 #[.slice (some ⟨g, o, none⟩) n c, .int .i64 l] w fun e w' => ∃ q, e = .returned (.int .i64 q) ∧ -1 ≤ q ∧ q ≤ l ∧ Lf l (szL szArr us) q ∧ Below w.heap.size w w' := by
  have HA := Seg.hid ha
  have HK := Seg.hid hf
  have HH := Seg.hid he
  have HN := Seg.hid hnl
  clear ha hf he hnl
  go_enter Try.func52, Try.ntmps52
  by_cases hlt : l - (n : Int) < 0
  · go_wp2
    go_ret
    exact ⟨_, rfl, by omega, by omega, ⟨fun h => absurd h (by omega), fun _ => by unfold szL; rw [HN.out]; omega⟩, Below.refl _ _⟩
  go_wp2
  go_loopw [1, 5] (fun x i wr => ∃ (k : Nat) (r : Int), k ≤ n ∧ x = .int .i64 r ∧ i = .int .i64 k ∧ 0 ≤ r ∧ r ≤ l ∧ Hid (Below w.heap.size w wr ∧ r = l - n - tot szArr (us.take k))) (fun _ i _ => n - (intOf i).toNat)
  case atStart => exact ⟨0, l - n, Nat.zero_le _, rfl, rfl, by omega, by omega, Below.refl _ _, by simp [tot]⟩
  case round =>
    obtain ⟨k, r, hk, rfl, rfl, hr0, hr1, HB⟩ := hrel
    by_cases hlt2 : k < n
    · have CL := cells_later HA.out HB.out.1 hg
      have c0 : wr.cell? ⟨g, o + k * 3, none⟩ = some (F k 0) := CL k ‹k < n› 0 (by omega)
      have c1 : wr.cell? ⟨g, o + k * 3 + 1, none⟩ = some (F k 1) := CL k ‹k < n› 1 (by omega)
      have c2 : wr.cell? ⟨g, o + k * 3 + 2, none⟩ = some (F k 2) := CL k ‹k < n› 2 (by omega)
      clear CL
      have RA : Hid (ArrAt wr S (.agg (arrArr (F k))) (us.getD k default)) := ⟨_, rfl, keepsArr _ _ _ _ _ _ (HH.out k hlt2) (fun g hg => HB.out.1.block g (hS g hg)) (fun _ _ => rfl)⟩
      have h0 : (0 : Int) ≤ (k : Int) := by omega
      have h1 : (k : Int) < (n : Int) := by omega
      have hbr : Hid (∀ g, S g → g < wr.heap.size) := fun g hg => Nat.lt_of_lt_of_le (hS g hg) HB.out.1.size
      have TK := Seg.hid (tot_take szArr (ts := us) (j := k) (by rw [HN.out]; exact hlt2))
      have TL := Seg.hid (tot_le szArr us (k + 1))
      have FK := Seg.hid (HK.out k hlt2)
      generalize us.getD k default = uk at *
      go_wp2_with fail
      refine (szArrival_any _ uk r wr S (by omega) (by omega) RA.out hbr.out FK.out).mono ?_
      rintro e w1 ⟨r1, rfl, hr2, hr3, hlf, b1⟩
      have B1 := Seg.hid (chain HB.out.1 b1)
      have FW := Seg.hid hlf
      clear b1 hlf
      by_cases hneg : r1 < 0
      · go_wp2
        go_ret
        refine ⟨-1, rfl, by omega, by omega, ⟨fun h => absurd h (by omega), fun _ => ?_⟩, B1.out⟩
        have m1 := FW.out.2 hneg; have m2 := HB.out.2; have m3 := TK.out; have m4 := TL.out
        unfold szL; rw [HN.out]; omega
      · go_wp2
        go_roundw
        case rel =>
          refine ⟨k + 1, r1, by omega, rfl, by go_num, by omega, by omega, B1.out, ?_⟩
          have m1 := FW.out.1 (by omega); have m2 := HB.out.2; have m3 := TK.out
          omega
        case measure => simp [intOf]; omega
    · have : k = n := by omega
      subst this
      go_wp2
      go_ret
      refine ⟨r, rfl, by omega, by omega, ⟨fun _ => ?_, fun h => absurd h (by omega)⟩, HB.out.1⟩
      have m2 := HB.out.2
      rw [← HN.out, List.take_length, HN.out] at m2
      unfold szL; rw [HN.out]; omega
theorem szArrivalS_any (v : Value) (us : List Arr) (l : Int) (w : World) (S : Nat → Prop) (h3 : -1 ≤ l) (h4 : l ≤ 1048576) (hv : LAt 3 EArr w S v us) (hS : ∀ g, S g → g < w.heap.size) (hf : FineL FineArr us) :
    Calls Try.prog 52 #[v, .int .i64 l] w fun e w' => ∃ q, e = .returned (.int .i64 q) ∧ -1 ≤ q ∧ q ≤ l ∧ Lf l (szL szArr us) q ∧ Below w.heap.size w w' := by
  obtain ⟨hn, A, c, rfl, h⟩ := hv
  by_cases hz : us.length = 0
  · obtain rfl := List.length_eq_zero_iff.1 hz
    exact szArrivalS_none A c l w h3 h4
  obtain ⟨g, o, F, rfl, hg, hc, hcell, hel⟩ := h.resolve_left hz
  exact szArrivalS_core g o us.length c us F l w S h3 h4 hn hc (hS g hg) hS rfl hf.2 hel hcell
set_option maxHeartbeats 400000 in
theorem toArrivalS_none (A : Option Addr) (c : Nat) (w : World) :
    Calls Try.prog 58 #[.slice A 0 c] w fun e w' => ∃ v, e = .returned v ∧ (∃ A c, v = .slice A 0 c) ∧ Below w.heap.size w w' := by
  obtain ⟨i0, hi, hz0, hz1, hz2⟩ := info_parts infoZArr
  go_enter Try.func58, Try.ntmps58
  go_wp2_with (at_make; refine wpList_make_full _ rfl _ _ 85 rfl w.heap.size 88 i0 _ 3 Try.underlying85 hi hz0 hz1 .i64 .i64 _ _ 0 rfl rfl rfl rfl (by omega) (by unfold maxLen; omega) (Nat.le_refl _) ?_; intro w1 hown hgr)
  have hb1 := (Below.refl w.heap.size w).grown hgr (Nat.le_refl _) (fun k hk => by cases hk)
  have HB := Seg.hid hb1
  clear hown hgr hb1 hi hz0 hz1 hz2
  go_loop [4] (fun i => i = .int .i64 0) (fun i => 0)
  case atStart => rfl
  case round =>
    subst hrel
    go_wp2
    go_ret
    exact ⟨_, rfl, ⟨_, _, rfl⟩, HB.out⟩
set_option maxHeartbeats 800000 in
theorem toArrivalS_core (g o n c : Nat) (us : List Arr) (F0 : Nat → Nat → Value) (w : World) (S : Nat → Prop) (hn : n ≤ 1048576) (hc : n ≤ c) (hg : g < w.heap.size) (hS : ∀ g, S g → g < w.heap.size)
    (hf : ∀ i, i < n → szArr (us.getD i default) ≤ 1048576) (he : ∀ i, i < n → EArr w S (F0 i) (us.getD i default))
    (ha : ∀ i, i < n → ∀ j, j < 3 → w.cell? ⟨g, o + i * 3 + j, none⟩ = some (F0 i j)) :
    Calls Try.prog 58 #[.slice (some ⟨g, o, none⟩) n c] w fun e w' => ∃ F, e = .returned (.slice (some ⟨w.heap.size, 0, none⟩) n n) ∧ Done 88 3 EArr w w' us n n F := by
  obtain ⟨i0, hi, hz0, hz1, hz2⟩ := info_parts infoZArr
  have HA := Seg.hid ha; have HK := Seg.hid hf; have HH := Seg.hid he
  clear ha hf he
  go_enter Try.func58, Try.ntmps58
  go_wp2_with (at_make; refine wpList_make_full _ rfl _ _ 85 rfl w.heap.size 88 i0 _ 3 Try.underlying85 hi hz0 hz1 .i64 .i64 _ _ n rfl rfl rfl rfl (by rw [hz2]; omega) (by unfold maxLen; omega) (Nat.le_refl _) ?_; intro w1 hown hgr)
  have hb1 := (Below.refl w.heap.size w).grown hgr (Nat.le_refl _) (fun k hk => by cases hk)
  have HM := Seg.hid (Mine.of_made hown hown.1)
  have HB := Seg.hid hb1
  clear hown hgr hb1 hi hz0 hz1 hz2
  go_loopw [4] (fun i wr => ∃ (j : Nat) (F : Nat → Value), j ≤ n ∧ i = .int .i64 j ∧ Done 88 3 EArr w wr us n j F) (fun i _ => n - (intOf i).toNat)
  case atStart => exact ⟨0, _, Nat.zero_le _, rfl, HM.out, HB.out, fun i hi => absurd hi (by omega)⟩
  case round =>
    clear HM HB
    obtain ⟨j, F, hj, rfl, HR⟩ := hrel
    by_cases hlt : j < n
    · have CL := cells_later HA.out HR.bel hg
      have c0 : wr.cell? ⟨g, o + j * 3, none⟩ = some (F0 j 0) := CL j ‹j < n› 0 (by omega)
      have c1 : wr.cell? ⟨g, o + j * 3 + 1, none⟩ = some (F0 j 1) := CL j ‹j < n› 1 (by omega)
      have c2 : wr.cell? ⟨g, o + j * 3 + 2, none⟩ = some (F0 j 2) := CL j ‹j < n› 2 (by omega)
      clear CL
      have RA : Hid (ArrAt wr S (.agg (arrArr (F0 j))) (us.getD j default)) := ⟨_, rfl, keepsArr _ _ _ _ _ _ (HH.out j hlt) (fun g hg => HR.bel.block g (hS g hg)) (fun _ _ => rfl)⟩
      have FW := Seg.hid (HK.out j hlt)
      have hbr : Hid (∀ g, S g → g < wr.heap.size) := fun g hg => Nat.lt_of_lt_of_le (hS g hg) HR.bel.size
      have ST := Seg.hid (fun w1 vs hv b1 he => Done.step keepsArr growsArr (w1 := w1) HR vs hv b1 he)
      have HM := Seg.hid HR.mine
      have h0 : (0 : Int) ≤ (j : Int) := by omega
      have h1 : (j : Int) < (n : Int) := by omega
      clear HR
      generalize us.getD j default = uj at *
      go_wp2_with fail
      refine (toArrival_any _ uj wr S RA.out hbr.out FW.out).mono ?_
      rintro e w1 ⟨v1, rfl, ⟨f1, rfl, he1⟩, b1⟩
      have S1 := Seg.hid (ST.out w1 (arrArr f1).toList rfl b1 (keepsArr _ _ _ _ _ _ he1 (fun _ _ => rfl) (fun q hq => by
        match q, hq with
        | 0, _ => rfl
        | 1, _ => rfl
        | 2, _ => rfl
        )))
      have M1 : Hid (w1.there w.heap.size (j * 3) (arrArr f1).size) := Own.mine_there (o := j * 3) (m := 3) (HM.out.below b1 HM.out.lt) (by omega)
      have ON := Seg.hid (oneArr he1)
      clear b1 he1
      go_wp2_with (refine wpList_store_mid rfl 88 _ _ rfl w.heap.size (j * 3) (arrArr f1) rfl rfl ?ht infoArr ON.out ?_; case ht => exact M1.out)
      go_roundw
      case rel => exact ⟨j + 1, _, by omega, by go_num, S1.out⟩
      case measure => simp [intOf]; omega
    · have : j = n := by omega
      subst this
      go_wp2
      go_ret
      exact ⟨F, rfl, HR⟩
theorem toArrivalS_any (v : Value) (us : List Arr) (w : World) (S : Nat → Prop) (hv : LAt 3 EArr w S v us) (hS : ∀ g, S g → g < w.heap.size) (hf : szL szArr us ≤ 1048576) :
    Calls Try.prog 58 #[v] w fun e w' => ∃ v', e = .returned v' ∧ LAt 3 EArr w' (seg w.heap.size w'.heap.size) v' us ∧ Below w.heap.size w w' := by
  obtain ⟨hn, A, c, rfl, h⟩ := hv
  by_cases hz : us.length = 0
  · obtain rfl := List.length_eq_zero_iff.1 hz
    refine (toArrivalS_none A c w).mono fun e w' ⟨v', a1, ⟨A', c', a2⟩, a3⟩ => ⟨v', a1, ?_, a3⟩
    rw [a2]
    exact LAt.nil _ _ _ _
  obtain ⟨g, o, F, rfl, hg, hc, hcell, hel⟩ := h.resolve_left hz
  exact (toArrivalS_core g o us.length c us F w S (szL_len _ hf) hc (hS g hg) hS (fun i hi => szL_one _ hf hi) hel hcell).mono fun e w' ⟨F, a1, a2⟩ => ⟨_, a1, a2.all growsArr hn, a2.bel⟩
theorem eqArrivalS_none (A A' : Option Addr) (c c' : Nat) (w : World) :
    Calls Try.prog 66 #[.slice A 0 c, .slice A' 0 c'] w fun e w' => e = .returned (.bool true) ∧ Below w.heap.size w w' := by
  go_enter Try.func66, Try.ntmps66
  go_wp2
  go_loop [5] (fun i => i = .int .i64 0) (fun _ => 0)
  case atStart => rfl
  case round =>
    subst hrel
    go_wp2
    go_ret
    exact ⟨rfl, Below.refl _ _⟩
set_option maxHeartbeats 1600000 in
theorem eqArrivalS_core (g o g' o' n c c' : Nat) (us : List Arr) (F F' : Nat → Nat → Value) (w : World) (S S' : Nat → Prop) (hn : n ≤ 9223372036854775807) (hc : n ≤ c) (hc' : n ≤ c') (hg : g < w.heap.size) (hg' : g' < w.heap.size) (hS : ∀ g, S g → g < w.heap.size) (hS' : ∀ g, S' g → g < w.heap.size)
    (he : ∀ i, i < n → EArr w S (F i) (us.getD i default)) (he' : ∀ i, i < n → EArr w S' (F' i) (us.getD i default))
    (ha : ∀ i, i < n → ∀ j, j < 3 → w.cell? ⟨g, o + i * 3 + j, none⟩ = some (F i j)) (ha' : ∀ i, i < n → ∀ j, j < 3 → w.cell? ⟨g', o' + i * 3 + j, none⟩ = some (F' i j)) :
    Calls Try.prog 66 #[.slice (some ⟨g, o, none⟩) n c, .slice (some ⟨g', o', none⟩) n c'] w fun e w' => e = .returned (.bool true) ∧ Below w.heap.size w w' := by
  have HA := Seg.hid ha; have HA' := Seg.hid ha'; have HH := Seg.hid he; have HH' := Seg.hid he'
  clear ha ha' he he'
  go_enter Try.func66, Try.ntmps66
  go_wp2
  go_loopw [5] (fun i wr => ∃ (k : Nat), k ≤ n ∧ i = .int .i64 k ∧ Hid (Below w.heap.size w wr)) (fun i _ => n - (intOf i).toNat)
  case atStart => exact ⟨0, Nat.zero_le _, rfl, Below.refl _ _⟩
  case round =>
    obtain ⟨k, hk, rfl, HB⟩ := hrel
    by_cases hlt2 : k < n
    · have CL := cells_later HA.out HB.out hg
      have CL' := cells_later HA'.out HB.out hg'
      have c0 : wr.cell? ⟨g, o + k * 3, none⟩ = some (F k 0) := CL k ‹k < n› 0 (by omega)
      have c1 : wr.cell? ⟨g, o + k * 3 + 1, none⟩ = some (F k 1) := CL k ‹k < n› 1 (by omega)
      have c2 : wr.cell? ⟨g, o + k * 3 + 2, none⟩ = some (F k 2) := CL k ‹k < n› 2 (by omega)
      have d0 : wr.cell? ⟨g', o' + k * 3, none⟩ = some (F' k 0) := CL' k ‹k < n› 0 (by omega)
      have d1 : wr.cell? ⟨g', o' + k * 3 + 1, none⟩ = some (F' k 1) := CL' k ‹k < n› 1 (by omega)
      have d2 : wr.cell? ⟨g', o' + k * 3 + 2, none⟩ = some (F' k 2) := CL' k ‹k < n› 2 (by omega)
      clear CL CL'
      have RA : Hid (ArrAt wr.drew S (.agg (arrArr (F k))) (us.getD k default)) := ⟨_, rfl, keepsArr _ _ _ _ _ _ (HH.out k hlt2) (fun g hg => HB.out.drew.block g (hS g hg)) (fun _ _ => rfl)⟩
      have RB : Hid (ArrAt wr.drew S' (.agg (arrArr (F' k))) (us.getD k default)) := ⟨_, rfl, keepsArr _ _ _ _ _ _ (HH'.out k hlt2) (fun g hg => HB.out.drew.block g (hS' g hg)) (fun _ _ => rfl)⟩
      have hbr : Hid (∀ g, S g → g < wr.drew.heap.size) := fun g hg => Nat.lt_of_lt_of_le (hS g hg) HB.out.size
      have hbr' : Hid (∀ g, S' g → g < wr.drew.heap.size) := fun g hg => Nat.lt_of_lt_of_le (hS' g hg) HB.out.size
      have h0 : (0 : Int) ≤ (k : Int) := by omega
      have h1 : (k : Int) < (n : Int) := by omega
      generalize us.getD k default = uk at *
      go_wp2_with fail
      go_region_with (go_at_call 98; refine (eqArrival_any _ _ uk wr.drew S S' RA.out RB.out hbr.out hbr'.out).mono ?_; rintro e w1 ⟨rfl, b1⟩; have B1 : Hid (Below w.heap.size w w1) := chainD HB.out b1; clear b1)
      all_goals
        go_wp2
        go_roundw
        case rel => exact ⟨k + 1, by omega, by go_num, B1.out⟩
        case measure => simp [intOf]; omega
    · have : k = n := by omega
      subst this
      go_wp2
      go_ret
      exact ⟨rfl, HB.out⟩
theorem eqArrivalS_any (v v' : Value) (us : List Arr) (w : World) (S S' : Nat → Prop) (hv : LAt 3 EArr w S v us) (hv' : LAt 3 EArr w S' v' us) (hS : ∀ g, S g → g < w.heap.size) (hS' : ∀ g, S' g → g < w.heap.size) :
    Calls Try.prog 66 #[v, v'] w fun e w' => e = .returned (.bool true) ∧ Below w.heap.size w w' := by
  obtain ⟨hn, A, c, rfl, h⟩ := hv
  obtain ⟨_, A', c', rfl, h'⟩ := hv'
  by_cases hz : us.length = 0
  · rw [hz]
    exact eqArrivalS_none A A' c c' w
  obtain ⟨g, o, F, rfl, hg, hc, hcell, hel⟩ := h.resolve_left hz
  obtain ⟨g', o', F', rfl, hg', hc', hcell', hel'⟩ := h'.resolve_left hz
  exact eqArrivalS_core g o g' o' us.length c c' us F F' w S S' hn hc hc' (hS g hg) (hS' g' hg') hS hS' hel hel' hcell hcell'
end Go.Proofs.Ytkibaimemomjpaa.Ls
namespace Go.Proofs.Ytkibaimemomjpaa.Lp
set_option maxRecDepth 8000
open Go.RowKit
open Ls
open Recs (hsz below1 below2 chain)
set_option linter.unusedVariables false
def inR (lo x hi : Int) : Bool := decide (lo ≤ x) && decide (x ≤ hi)
theorem inR_true {lo x hi : Int} (h : inR lo x hi = true) : lo ≤ x ∧ x ≤ hi := by simpa [inR] using h
theorem drop_cons {T : Type} [Inhabited T] {l : List T} {k : Nat} (h : k < l.length) : l.drop k = l.getD k default :: l.drop (k + 1) := by
  rw [List.drop_eq_getElem_cons h]; simp [h]
/-- A list in memory, opened where it has elements. -/
structure Opn {T : Type} [Inhabited T] (nf : Nat) (E : Elt T) (w : World) (S : Nat → Prop) (A : Option Addr) (c : Nat) (us : List T) (g o : Nat) (F : Nat → Nat → Value) : Prop where
  addr : us.length = 0 ∨ (A = some ⟨g, o, none⟩ ∧ us.length ≤ c ∧ g < w.heap.size)
  cells : ∀ i, i < us.length → ∀ j, j < nf → w.cell? ⟨g, o + i * nf + j, none⟩ = some (F i j)
  el : ∀ i, i < us.length → E w S (F i) (us.getD i default)
theorem opn {T : Type} [Inhabited T] {nf : Nat} {E : Elt T} {w : World} {S : Nat → Prop} {v : Value} {us : List T} (h : LAt nf E w S v us) (hS : ∀ g, S g → g < w.heap.size) : ∃ A c g o F, v = .slice A us.length c ∧ Opn nf E w S A c us g o F ∧ us.length ≤ 9223372036854775807 := by
  obtain ⟨hn, A, c, rfl, h⟩ := h
  by_cases hz : us.length = 0
  · exact ⟨A, c, 0, 0, fun _ _ => default, rfl, ⟨.inl hz, fun i hi => absurd hi (by omega), fun i hi => absurd hi (by omega)⟩, hn⟩
  obtain ⟨g, o, F, rfl, hg, hc, hcell, hel⟩ := h.resolve_left hz
  exact ⟨_, c, g, o, F, rfl, ⟨.inr ⟨rfl, hc, hS g hg⟩, hcell, hel⟩, hn⟩
theorem Opn.later {T : Type} [Inhabited T] {nf : Nat} {E : Elt T} (hK : Keeps nf E) {w w' : World} {S : Nat → Prop} {A : Option Addr} {c : Nat} {us : List T} {g o : Nat} {F : Nat → Nat → Value} (h : Opn nf E w S A c us g o F) (hS : ∀ g, S g → g < w.heap.size) (hb : Below w.heap.size w w') : Opn nf E w' S A c us g o F := by
  refine ⟨h.addr.imp id (fun ⟨a, b, c⟩ => ⟨a, b, Nat.lt_of_lt_of_le c hb.size⟩), fun i hi j hj => ?_, fun i hi => hK _ _ _ _ _ _ (h.el i hi) (fun g hg => hb.block g (hS g hg)) (fun _ _ => rfl)⟩
  have hg : g < w.heap.size := by
    rcases h.addr with h0 | h0
    · omega
    · exact h0.2.2
  rw [hb.cell (p := ⟨g, o + i * nf + j, none⟩) hg]
  exact h.cells i hi j hj
/-- A world that has only drawn since. -/
structure Qt (a b : World) : Prop where
  heap : b.heap = a.heap
  os : b.os = a.os
  tape : b.tape = a.tape
  output : b.output = a.output
theorem Qt.refl (a : World) : Qt a a := ⟨rfl, rfl, rfl, rfl⟩
theorem Qt.drewN {a b : World} (h : Qt a b) (n : Nat) : Qt a (b.drewN n) := ⟨h.heap, h.os, h.tape, h.output⟩
theorem Qt.drew {a b : World} (h : Qt a b) : Qt a b.drew := ⟨h.heap, h.os, h.tape, h.output⟩
theorem Qt.cell {a b : World} (h : Qt a b) (p : Addr) : b.cell? p = a.cell? p := World.cell?_of_block (w := a) (a := p) (by rw [h.heap])
theorem Qt.bel {a b : World} (h : Qt a b) (B : Nat) : Below B a b := ⟨h.os, h.tape, h.output, by rw [h.heap]; exact Nat.le_refl _, fun k _ => by rw [h.heap]⟩
end Go.Proofs.Ytkibaimemomjpaa.Lp
