/- Step: how it lies in memory; what the law's measure and copier answer; Lists of Step: what the law's helpers answer. -/
import Derived.Test.YtkibaimemomjpaaJE03
namespace Go.Proofs.Ytkibaimemomjpaa.Ls
set_option maxRecDepth 8000
open Go.RowKit
open Recs
set_option linter.unusedVariables false
structure Stp where
  op : Int
  num : Int
  name : ByteArray
  deriving Inhabited
def EStp : Elt Stp := fun w S f u => f 0 = .int .i64 u.op ∧ f 1 = .int .i64 u.num ∧ f 2 = .string u.name
theorem keepsStp : Keeps 3 EStp := fun w w' S f f' t h hk hf => by
  obtain ⟨h0, h1, h2⟩ := h
  exact ⟨by rw [hf 0 (by omega)]; exact h0, by rw [hf 1 (by omega)]; exact h1, by rw [hf 2 (by omega)]; exact h2⟩
theorem growsStp : Grows EStp := fun w S S' f t h hs => by
  obtain ⟨h0, h1, h2⟩ := h
  exact ⟨h0, h1, h2⟩
def arrStp (f : Nat → Value) : Array Value := #[f 0, f 1, f 2]
theorem oneStp {w : World} {S : Nat → Prop} {f : Nat → Value} {u : Stp} (h : EStp w S f u) : (arrStp f).all (·.oneCell') = true := by
  obtain ⟨h0, h1, h2⟩ := h
  have o0 : (f 0).oneCell' = true := by rw [h0]; rfl
  have o1 : (f 1).oneCell' = true := by rw [h1]; rfl
  have o2 : (f 2).oneCell' = true := by rw [h2]; rfl
  simp [arrStp, o0, o1, o2]
def StpAt (w : World) (S : Nat → Prop) (v : Value) (u : Stp) : Prop := ∃ f, v = .agg (arrStp f) ∧ EStp w S f u
abbrev StpsAt := LAt 3 EStp
theorem StpAt.keep {w w' : World} {S : Nat → Prop} {v : Value} {u : Stp} (h : StpAt w S v u) (hk : ∀ g, S g → w'.heap[g]? = w.heap[g]?) : StpAt w' S v u := by
  obtain ⟨f, h1, h2⟩ := h
  exact ⟨f, h1, keepsStp _ _ _ _ _ _ h2 hk (fun _ _ => rfl)⟩
theorem StpAt.mono {w : World} {S S' : Nat → Prop} {v : Value} {u : Stp} (h : StpAt w S v u) (hs : ∀ g, S g → S' g) : StpAt w S' v u := by
  obtain ⟨f, h1, h2⟩ := h
  exact ⟨f, h1, growsStp _ _ _ _ _ h2 hs⟩
theorem StpAt.below {w w' : World} {B : Nat} {S : Nat → Prop} {v : Value} {u : Stp} (h : StpAt w S v u) (hb : Below B w w') (hs : ∀ g, S g → g < B) : StpAt w' S v u := h.keep fun g hg => hb.block g (hs g hg)
def szStp (u : Stp) : Nat := u.name.size
def FineStp (u : Stp) : Prop := I64 u.op ∧ I64 u.num ∧ u.name.size ≤ maxLen
theorem infoStp : (Try.prog.info? 118).map (·.size) = some 3 := by kernel_rfl
theorem infoLStp : (Try.prog.info? 109).map (·.size) = some 3 := by kernel_rfl
theorem infoZStp : (Try.prog.info? 118).map (fun i => (i.zero, i.size, i.bytes)) = some (some (.agg #[.int .i64 0, .int .i64 0, .string ByteArray.empty]), 3, 32) := by kernel_rfl
set_option maxHeartbeats 800000 in
theorem szStep_any (v : Value) (u : Stp) (l : Int) (w : World) (S : Nat → Prop) (h3 : -1 ≤ l) (h4 : l ≤ 1048576) (hv : StpAt w S v u) (hS : ∀ g, S g → g < w.heap.size) (hf : FineStp u) :
    Calls Try.prog 69 #[v, .int .i64 l] w fun e w' => ∃ q, e = .returned (.int .i64 q) ∧ -1 ≤ q ∧ q ≤ l ∧ Lf l (szStp u) q ∧ Below w.heap.size w w' := by
  obtain ⟨f, rfl, y0, y1, y2⟩ := hv
  try simp only [arrStp]
  rw [show f 0 = _ from y0]
  clear y0
  rw [show f 1 = _ from y1]
  clear y1
  rw [show f 2 = _ from y2]
  clear y2
  obtain ⟨z0, z1, z2⟩ := hf
  unfold maxLen at z2
  clear z0 z1
  go_enter Try.func69, Try.ntmps69
  by_cases k2 : l - (u.name.size : Int) < 0
  · go_wp2
    go_ret
    exact ⟨_, rfl, by omega, by omega, by simp only [szStp]; exact ⟨fun _ => by omega, fun _ => by omega⟩, below1 _ _⟩
  go_wp2
  go_ret
  exact ⟨_, rfl, by omega, by omega, by simp only [szStp]; exact ⟨fun _ => by omega, fun _ => by omega⟩, below1 _ _⟩
set_option maxHeartbeats 1600000 in
theorem toStep_any (v : Value) (u : Stp) (w : World) (S : Nat → Prop) (hv : StpAt w S v u) (hS : ∀ g, S g → g < w.heap.size) (hf : szStp u ≤ 1048576) :
    Calls Try.prog 74 #[v] w fun e w' => ∃ v', e = .returned v' ∧ StpAt w' (seg w.heap.size w'.heap.size) v' u ∧ Below w.heap.size w w' := by
  obtain ⟨f, rfl, y0, y1, y2⟩ := hv
  try simp only [arrStp]
  rw [show f 0 = _ from y0]
  clear y0
  rw [show f 1 = _ from y1]
  clear y1
  rw [show f 2 = _ from y2]
  clear y2
  go_enter Try.func74, Try.ntmps74
  go_wp2
  exact bodyPost_ret (v := .agg #[.int .i64 u.op, .int .i64 u.num, .string u.name]) (results_cell_row rfl _ _ (w.heap.size + 1) _ _ _ _ rfl (at3 _ _ _ _) Try.underlying118 rfl infoStp) rfl ⟨_, rfl, ⟨fun q => if q = 0 then .int .i64 u.op else if q = 1 then .int .i64 u.num else .string u.name, rfl, rfl, rfl, rfl⟩, below3 _ _ _ _⟩
set_option maxHeartbeats 1600000 in
theorem eqStep_any (v v' : Value) (u : Stp) (w : World) (S S' : Nat → Prop) (hv : StpAt w S v u) (hv' : StpAt w S' v' u) (hS : ∀ g, S g → g < w.heap.size) (hS' : ∀ g, S' g → g < w.heap.size) :
    Calls Try.prog 87 #[v, v'] w fun e w' => e = .returned (.bool true) ∧ Below w.heap.size w w' := by
  obtain ⟨f, rfl, y0, y1, y2⟩ := hv
  obtain ⟨f', rfl, y0', y1', y2'⟩ := hv'
  try simp only [arrStp]
  rw [show f 0 = _ from y0]
  clear y0
  rw [show f 1 = _ from y1]
  clear y1
  rw [show f 2 = _ from y2]
  clear y2
  try simp only [arrStp]
  rw [show f' 0 = _ from y0']
  clear y0'
  rw [show f' 1 = _ from y1']
  clear y1'
  rw [show f' 2 = _ from y2']
  clear y2'
  go_enter Try.func87, Try.ntmps87
  go_wp2
  go_ret
  exact ⟨rfl, below2 _ _ _⟩
end Go.Proofs.Ytkibaimemomjpaa.Ls
namespace Go.Proofs.Ytkibaimemomjpaa.Ls
set_option maxRecDepth 8000
open Go.RowKit
open Recs
set_option linter.unusedVariables false
theorem szStepS_none (A : Option Addr) (c : Nat) (l : Int) (w : World) (h3 : -1 ≤ l) (h4 : l ≤ 1048576) :
    Calls Try.prog 30 #[.slice A 0 c, .int .i64 l] w fun e w' => ∃ q, e = .returned (.int .i64 q) ∧ -1 ≤ q ∧ q ≤ l ∧ Lf l 0 q ∧ Below w.heap.size w w' := by
  go_enter Try.func30, Try.ntmps30
  by_cases hlt : l < 0
  · go_wp2
    go_ret
    exact ⟨_, rfl, by omega, by omega, ⟨fun _ => by omega, fun _ => by omega⟩, Below.refl _ _⟩
  go_wp2
  go_loop [1, 5] (fun x i => i = .int .i64 0 ∧ x = .int .i64 l) (fun _ _ => 0)
  case atStart => exact ⟨rfl, by go_num⟩
  case round =>
    obtain ⟨rfl, rfl⟩ := hrel
    go_wp2
    go_ret
    exact ⟨_, rfl, by omega, by omega, ⟨fun _ => by omega, fun _ => by omega⟩, Below.refl _ _⟩

set_option maxHeartbeats 800000 in
theorem szStepS_core (g o n c : Nat) (us : List Stp) (F : Nat → Nat → Value) (l : Int) (w : World) (S : Nat → Prop) (h3 : -1 ≤ l) (h4 : l ≤ 1048576) (hn : n ≤ 9223372036854775807) (hc : n ≤ c) (hg : g < w.heap.size) (hS : ∀ g, S g → g < w.heap.size) (hnl : us.length = n)
    (hf : ∀ i, i < n → FineStp (us.getD i default)) (he : ∀ i, i < n → EStp w S (F i) (us.getD i default))
    (ha : ∀ i, i < n → ∀ j, j < 3 → w.cell? ⟨g, o + i * 3 + j, none⟩ = some (F i j)) :
    Calls Try.prog 30 #[.slice (some ⟨g, o, none⟩) n c, .int .i64 l] w fun e w' => ∃ q, e = .returned (.int .i64 q) ∧ -1 ≤ q ∧ q ≤ l ∧ Lf l (szL szStp us) q ∧ Below w.heap.size w w' := by
  have HA := Seg.hid ha
  have HK := Seg.hid hf
  have HH := Seg.hid he
  have HN := Seg.hid hnl
  clear ha hf he hnl
  go_enter Try.func30, Try.ntmps30
  by_cases hlt : l - (n : Int) < 0
  · go_wp2
    go_ret
    exact ⟨_, rfl, by omega, by omega, ⟨fun h => absurd h (by omega), fun _ => by unfold szL; rw [HN.out]; omega⟩, Below.refl _ _⟩
  go_wp2
  go_loopw [1, 5] (fun x i wr => ∃ (k : Nat) (r : Int), k ≤ n ∧ x = .int .i64 r ∧ i = .int .i64 k ∧ 0 ≤ r ∧ r ≤ l ∧ Hid (Below w.heap.size w wr ∧ r = l - n - tot szStp (us.take k))) (fun _ i _ => n - (intOf i).toNat)
  case atStart => exact ⟨0, l - n, Nat.zero_le _, rfl, rfl, by omega, by omega, Below.refl _ _, by simp [tot]⟩
  case round =>
    obtain ⟨k, r, hk, rfl, rfl, hr0, hr1, HB⟩ := hrel
    by_cases hlt2 : k < n
    · have CL := cells_later HA.out HB.out.1 hg
      have c0 : wr.cell? ⟨g, o + k * 3, none⟩ = some (F k 0) := CL k ‹k < n› 0 (by omega)
      have c1 : wr.cell? ⟨g, o + k * 3 + 1, none⟩ = some (F k 1) := CL k ‹k < n› 1 (by omega)
      have c2 : wr.cell? ⟨g, o + k * 3 + 2, none⟩ = some (F k 2) := CL k ‹k < n› 2 (by omega)
      clear CL
      have RA : Hid (StpAt wr S (.agg (arrStp (F k))) (us.getD k default)) := ⟨_, rfl, keepsStp _ _ _ _ _ _ (HH.out k hlt2) (fun g hg => HB.out.1.block g (hS g hg)) (fun _ _ => rfl)⟩
      have h0 : (0 : Int) ≤ (k : Int) := by omega
      have h1 : (k : Int) < (n : Int) := by omega
      have hbr : Hid (∀ g, S g → g < wr.heap.size) := fun g hg => Nat.lt_of_lt_of_le (hS g hg) HB.out.1.size
      have TK := Seg.hid (tot_take szStp (ts := us) (j := k) (by rw [HN.out]; exact hlt2))
      have TL := Seg.hid (tot_le szStp us (k + 1))
      have FK := Seg.hid (HK.out k hlt2)
      generalize us.getD k default = uk at *
      go_wp2_with fail
      refine (szStep_any _ uk r wr S (by omega) (by omega) RA.out hbr.out FK.out).mono ?_
      rintro e w1 ⟨r1, rfl, hr2, hr3, hlf, b1⟩
      have B1 := Seg.hid (chain HB.out.1 b1)
      have FW := Seg.hid hlf
      clear b1 hlf
      by_cases hneg : r1 < 0
      · go_wp2
        go_ret
        refine ⟨-1, rfl, by omega, by omega, ⟨fun h => absurd h (by omega), fun _ => ?_⟩, B1.out⟩
        have m1 := FW.out.2 hneg; have m2 := HB.out.2; have m3 := TK.out; have m4 := TL.out
        unfold szL; rw [HN.out]; omega
      · go_wp2
        go_roundw
        case rel =>
          refine ⟨k + 1, r1, by omega, rfl, by go_num, by omega, by omega, B1.out, ?_⟩
          have m1 := FW.out.1 (by omega); have m2 := HB.out.2; have m3 := TK.out
          omega
        case measure => simp [intOf]; omega
    · have : k = n := by omega
      subst this
      go_wp2
      go_ret
      refine ⟨r, rfl, by omega, by omega, ⟨fun _ => ?_, fun h => absurd h (by omega)⟩, HB.out.1⟩
      have m2 := HB.out.2
      rw [← HN.out, List.take_length, HN.out] at m2
      unfold szL; rw [HN.out]; omega
theorem szStepS_any (v : Value) (us : List Stp) (l : Int) (w : World) (S : Nat → Prop) (h3 : -1 ≤ l) (h4 : l ≤ 1048576) (hv : LAt 3 EStp w S v us) (hS : ∀ g, S g → g < w.heap.size) (hf : FineL FineStp us) :
    Calls Try.prog 30 #[v, .int .i64 l] w fun e w' => ∃ q, e = .returned (.int .i64 q) ∧ -1 ≤ q ∧ q ≤ l ∧ Lf l (szL szStp us) q ∧ Below w.heap.size w w' := by
  obtain ⟨hn, A, c, rfl, h⟩ := hv
  by_cases hz : us.length = 0
  · obtain rfl := List.length_eq_zero_iff.1 hz
    exact szStepS_none A c l w h3 h4
  obtain ⟨g, o, F, rfl, hg, hc, hcell, hel⟩ := h.resolve_left hz
  exact szStepS_core g o us.length c us F l w S h3 h4 hn hc (hS g hg) hS rfl hf.2 hel hcell
set_option maxHeartbeats 400000 in
theorem toStepS_none (A : Option Addr) (c : Nat) (w : World) :
    Calls Try.prog 35 #[.slice A 0 c] w fun e w' => ∃ v, e = .returned v ∧ (∃ A c, v = .slice A 0 c) ∧ Below w.heap.size w w' := by
  obtain ⟨i0, hi, hz0, hz1, hz2⟩ := info_parts infoZStp
  go_enter Try.func35, Try.ntmps35
  go_wp2_with (at_make; refine wpList_make_full _ rfl _ _ 31 rfl w.heap.size 118 i0 _ 3 Try.underlying31 hi hz0 hz1 .i64 .i64 _ _ 0 rfl rfl rfl rfl (by omega) (by unfold maxLen; omega) (Nat.le_refl _) ?_; intro w1 hown hgr)
  have hb1 := (Below.refl w.heap.size w).grown hgr (Nat.le_refl _) (fun k hk => by cases hk)
  have HB := Seg.hid hb1
  clear hown hgr hb1 hi hz0 hz1 hz2
  go_loop [4] (fun i => i = .int .i64 0) (fun i => 0)
  case atStart => rfl
  case round =>
    subst hrel
    go_wp2
    go_ret
    exact ⟨_, rfl, ⟨_, _, rfl⟩, HB.out⟩
set_option maxHeartbeats 800000 in
theorem toStepS_core (g o n c : Nat) (us : List Stp) (F0 : Nat → Nat → Value) (w : World) (S : Nat → Prop) (hn : n ≤ 1048576) (hc : n ≤ c) (hg : g < w.heap.size) (hS : ∀ g, S g → g < w.heap.size)
    (hf : ∀ i, i < n → szStp (us.getD i default) ≤ 1048576) (he : ∀ i, i < n → EStp w S (F0 i) (us.getD i default))
    (ha : ∀ i, i < n → ∀ j, j < 3 → w.cell? ⟨g, o + i * 3 + j, none⟩ = some (F0 i j)) :
    Calls Try.prog 35 #[.slice (some ⟨g, o, none⟩) n c] w fun e w' => ∃ F, e = .returned (.slice (some ⟨w.heap.size, 0, none⟩) n n) ∧ Done 118 3 EStp w w' us n n F := by
  obtain ⟨i0, hi, hz0, hz1, hz2⟩ := info_parts infoZStp
  have HA := Seg.hid ha; have HK := Seg.hid hf; have HH := Seg.hid he
  clear ha hf he
  go_enter Try.func35, Try.ntmps35
  go_wp2_with (at_make; refine wpList_make_full _ rfl _ _ 31 rfl w.heap.size 118 i0 _ 3 Try.underlying31 hi hz0 hz1 .i64 .i64 _ _ n rfl rfl rfl rfl (by rw [hz2]; omega) (by unfold maxLen; omega) (Nat.le_refl _) ?_; intro w1 hown hgr)
  have hb1 := (Below.refl w.heap.size w).grown hgr (Nat.le_refl _) (fun k hk => by cases hk)
  have HM := Seg.hid (Mine.of_made hown hown.1)
  have HB := Seg.hid hb1
  clear hown hgr hb1 hi hz0 hz1 hz2
  go_loopw [4] (fun i wr => ∃ (j : Nat) (F : Nat → Value), j ≤ n ∧ i = .int .i64 j ∧ Done 118 3 EStp w wr us n j F) (fun i _ => n - (intOf i).toNat)
  case atStart => exact ⟨0, _, Nat.zero_le _, rfl, HM.out, HB.out, fun i hi => absurd hi (by omega)⟩
  case round =>
    clear HM HB
    obtain ⟨j, F, hj, rfl, HR⟩ := hrel
    by_cases hlt : j < n
    · have CL := cells_later HA.out HR.bel hg
      have c0 : wr.cell? ⟨g, o + j * 3, none⟩ = some (F0 j 0) := CL j ‹j < n› 0 (by omega)
      have c1 : wr.cell? ⟨g, o + j * 3 + 1, none⟩ = some (F0 j 1) := CL j ‹j < n› 1 (by omega)
      have c2 : wr.cell? ⟨g, o + j * 3 + 2, none⟩ = some (F0 j 2) := CL j ‹j < n› 2 (by omega)
      clear CL
      have RA : Hid (StpAt wr S (.agg (arrStp (F0 j))) (us.getD j default)) := ⟨_, rfl, keepsStp _ _ _ _ _ _ (HH.out j hlt) (fun g hg => HR.bel.block g (hS g hg)) (fun _ _ => rfl)⟩
      have FW := Seg.hid (HK.out j hlt)
      have hbr : Hid (∀ g, S g → g < wr.heap.size) := fun g hg => Nat.lt_of_lt_of_le (hS g hg) HR.bel.size
      have ST := Seg.hid (fun w1 vs hv b1 he => Done.step keepsStp growsStp (w1 := w1) HR vs hv b1 he)
      have HM := Seg.hid HR.mine
      have h0 : (0 : Int) ≤ (j : Int) := by omega
      have h1 : (j : Int) < (n : Int) := by omega
      clear HR
      generalize us.getD j default = uj at *
      go_wp2_with fail
      refine (toStep_any _ uj wr S RA.out hbr.out FW.out).mono ?_
      rintro e w1 ⟨v1, rfl, ⟨f1, rfl, he1⟩, b1⟩
      have S1 := Seg.hid (ST.out w1 (arrStp f1).toList rfl b1 (keepsStp _ _ _ _ _ _ he1 (fun _ _ => rfl) (fun q hq => by
        match q, hq with
        | 0, _ => rfl
        | 1, _ => rfl
        | 2, _ => rfl
        )))
      have M1 : Hid (w1.there w.heap.size (j * 3) (arrStp f1).size) := Own.mine_there (o := j * 3) (m := 3) (HM.out.below b1 HM.out.lt) (by omega)
      have ON := Seg.hid (oneStp he1)
      clear b1 he1
      go_wp2_with (refine wpList_store_mid rfl 118 _ _ rfl w.heap.size (j * 3) (arrStp f1) rfl rfl ?ht infoStp ON.out ?_; case ht => exact M1.out)
      go_roundw
      case rel => exact ⟨j + 1, _, by omega, by go_num, S1.out⟩
      case measure => simp [intOf]; omega
    · have : j = n := by omega
      subst this
      go_wp2
      go_ret
      exact ⟨F, rfl, HR⟩
theorem toStepS_any (v : Value) (us : List Stp) (w : World) (S : Nat → Prop) (hv : LAt 3 EStp w S v us) (hS : ∀ g, S g → g < w.heap.size) (hf : szL szStp us ≤ 1048576) :
    Calls Try.prog 35 #[v] w fun e w' => ∃ v', e = .returned v' ∧ LAt 3 EStp w' (seg w.heap.size w'.heap.size) v' us ∧ Below w.heap.size w w' := by
  obtain ⟨hn, A, c, rfl, h⟩ := hv
  by_cases hz : us.length = 0
  · obtain rfl := List.length_eq_zero_iff.1 hz
    refine (toStepS_none A c w).mono fun e w' ⟨v', a1, ⟨A', c', a2⟩, a3⟩ => ⟨v', a1, ?_, a3⟩
    rw [a2]
    exact LAt.nil _ _ _ _
  obtain ⟨g, o, F, rfl, hg, hc, hcell, hel⟩ := h.resolve_left hz
  exact (toStepS_core g o us.length c us F w S (szL_len _ hf) hc (hS g hg) hS (fun i hi => szL_one _ hf hi) hel hcell).mono fun e w' ⟨F, a1, a2⟩ => ⟨_, a1, a2.all growsStp hn, a2.bel⟩
theorem eqStepS_none (A A' : Option Addr) (c c' : Nat) (w : World) :
    Calls Try.prog 44 #[.slice A 0 c, .slice A' 0 c'] w fun e w' => e = .returned (.bool true) ∧ Below w.heap.size w w' := by
  go_enter Try.func44, Try.ntmps44
  go_wp2
  go_loop [5] (fun i => i = .int .i64 0) (fun _ => 0)
  case atStart => rfl
  case round =>
    subst hrel
    go_wp2
    go_ret
    exact ⟨rfl, Below.refl _ _⟩
set_option maxHeartbeats 1600000 in
theorem eqStepS_core (g o g' o' n c c' : Nat) (us : List Stp) (F F' : Nat → Nat → Value) (w : World) (S S' : Nat → Prop) (hn : n ≤ 9223372036854775807) (hc : n ≤ c) (hc' : n ≤ c') (hg : g < w.heap.size) (hg' : g' < w.heap.size) (hS : ∀ g, S g → g < w.heap.size) (hS' : ∀ g, S' g → g < w.heap.size)
    (he : ∀ i, i < n → EStp w S (F i) (us.getD i default)) (he' : ∀ i, i < n → EStp w S' (F' i) (us.getD i default))
    (ha : ∀ i, i < n → ∀ j, j < 3 → w.cell? ⟨g, o + i * 3 + j, none⟩ = some (F i j)) (ha' : ∀ i, i < n → ∀ j, j < 3 → w.cell? ⟨g', o' + i * 3 + j, none⟩ = some (F' i j)) :
    Calls Try.prog 44 #[.slice (some ⟨g, o, none⟩) n c, .slice (some ⟨g', o', none⟩) n c'] w fun e w' => e = .returned (.bool true) ∧ Below w.heap.size w w' := by
  have HA := Seg.hid ha; have HA' := Seg.hid ha'; have HH := Seg.hid he; have HH' := Seg.hid he'
  clear ha ha' he he'
  go_enter Try.func44, Try.ntmps44
  go_wp2
  go_loopw [5] (fun i wr => ∃ (k : Nat), k ≤ n ∧ i = .int .i64 k ∧ Hid (Below w.heap.size w wr)) (fun i _ => n - (intOf i).toNat)
  case atStart => exact ⟨0, Nat.zero_le _, rfl, Below.refl _ _⟩
  case round =>
    obtain ⟨k, hk, rfl, HB⟩ := hrel
    by_cases hlt2 : k < n
    · have CL := cells_later HA.out HB.out hg
      have CL' := cells_later HA'.out HB.out hg'
      have c0 : wr.cell? ⟨g, o + k * 3, none⟩ = some (F k 0) := CL k ‹k < n› 0 (by omega)
      have c1 : wr.cell? ⟨g, o + k * 3 + 1, none⟩ = some (F k 1) := CL k ‹k < n› 1 (by omega)
      have c2 : wr.cell? ⟨g, o + k * 3 + 2, none⟩ = some (F k 2) := CL k ‹k < n› 2 (by omega)
      have d0 : wr.cell? ⟨g', o' + k * 3, none⟩ = some (F' k 0) := CL' k ‹k < n› 0 (by omega)
      have d1 : wr.cell? ⟨g', o' + k * 3 + 1, none⟩ = some (F' k 1) := CL' k ‹k < n› 1 (by omega)
      have d2 : wr.cell? ⟨g', o' + k * 3 + 2, none⟩ = some (F' k 2) := CL' k ‹k < n› 2 (by omega)
      clear CL CL'
      have RA : Hid (StpAt wr.drew S (.agg (arrStp (F k))) (us.getD k default)) := ⟨_, rfl, keepsStp _ _ _ _ _ _ (HH.out k hlt2) (fun g hg => HB.out.drew.block g (hS g hg)) (fun _ _ => rfl)⟩
      have RB : Hid (StpAt wr.drew S' (.agg (arrStp (F' k))) (us.getD k default)) := ⟨_, rfl, keepsStp _ _ _ _ _ _ (HH'.out k hlt2) (fun g hg => HB.out.drew.block g (hS' g hg)) (fun _ _ => rfl)⟩
      have hbr : Hid (∀ g, S g → g < wr.drew.heap.size) := fun g hg => Nat.lt_of_lt_of_le (hS g hg) HB.out.size
      have hbr' : Hid (∀ g, S' g → g < wr.drew.heap.size) := fun g hg => Nat.lt_of_lt_of_le (hS' g hg) HB.out.size
      have h0 : (0 : Int) ≤ (k : Int) := by omega
      have h1 : (k : Int) < (n : Int) := by omega
      generalize us.getD k default = uk at *
      go_wp2_with fail
      go_region_with (go_at_call 87; refine (eqStep_any _ _ uk wr.drew S S' RA.out RB.out hbr.out hbr'.out).mono ?_; rintro e w1 ⟨rfl, b1⟩; have B1 : Hid (Below w.heap.size w w1) := chainD HB.out b1; clear b1)
      all_goals
        go_wp2
        go_roundw
        case rel => exact ⟨k + 1, by omega, by go_num, B1.out⟩
        case measure => simp [intOf]; omega
    · have : k = n := by omega
      subst this
      go_wp2
      go_ret
      exact ⟨rfl, HB.out⟩
theorem eqStepS_any (v v' : Value) (us : List Stp) (w : World) (S S' : Nat → Prop) (hv : LAt 3 EStp w S v us) (hv' : LAt 3 EStp w S' v' us) (hS : ∀ g, S g → g < w.heap.size) (hS' : ∀ g, S' g → g < w.heap.size) :
    Calls Try.prog 44 #[v, v'] w fun e w' => e = .returned (.bool true) ∧ Below w.heap.size w w' := by
  obtain ⟨hn, A, c, rfl, h⟩ := hv
  obtain ⟨_, A', c', rfl, h'⟩ := hv'
  by_cases hz : us.length = 0
  · rw [hz]
    exact eqStepS_none A A' c c' w
  obtain ⟨g, o, F, rfl, hg, hc, hcell, hel⟩ := h.resolve_left hz
  obtain ⟨g', o', F', rfl, hg', hc', hcell', hel'⟩ := h'.resolve_left hz
  exact eqStepS_core g o g' o' us.length c c' us F F' w S S' hn hc hc' (hS g hg) (hS' g' hg') hS hS' hel hel' hcell hcell'
end Go.Proofs.Ytkibaimemomjpaa.Ls
