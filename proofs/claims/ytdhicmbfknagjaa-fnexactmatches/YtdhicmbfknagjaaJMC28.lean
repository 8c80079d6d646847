/- Lists of numbers: what the law's helpers answer; The law's look at marks on numbers. -/
import Derived.Test.YtdhicmbfknagjaaJMC03
import Derived.Test.YtdhicmbfknagjaaJMC20
namespace Go.Proofs.Ytdhicmbfknagjaa.Ls
set_option maxRecDepth 8000
open Go.RowKit
open Recs
set_option linter.unusedVariables false
theorem szIntS_any (v : Value) (ns : List Int) (l : Int) (w : World) (S : Nat → Prop) (h3 : -1 ≤ l) (h4 : l ≤ 1048576) (hv : IntsAt w S v ns) :
    Calls Try.prog 104 #[v, .int .i64 l] w fun e w' => ∃ q, e = .returned (.int .i64 q) ∧ -1 ≤ q ∧ q ≤ l ∧ Lf l ns.length q ∧ Below w.heap.size w w' := by
  obtain ⟨hn, A, c, rfl, _⟩ := hv
  go_enter Try.func104, Try.ntmps104
  by_cases hlt : l - (ns.length : Int) < 0
  · go_wp2
    go_ret
    exact ⟨_, rfl, by omega, by omega, ⟨fun _ => by omega, fun _ => by omega⟩, Below.refl _ _⟩
  · go_wp2
    go_ret
    exact ⟨_, rfl, by omega, by omega, ⟨fun _ => by omega, fun _ => by omega⟩, Below.refl _ _⟩
theorem infoI : (Try.prog.info? 3).map (fun i => (i.zero, i.size, i.bytes)) = some (some (.int .i64 0), 1, 8) := by kernel_rfl
set_option maxHeartbeats 400000 in
theorem toIntS_core (g o n c : Nat) (ns : List Int) (w : World) (hn : n ≤ 1048576) (hc : n ≤ c) (hg : g < w.heap.size) (hnl : ns.length = n)
    (ha : ∀ i, i < n → w.cell? ⟨g, o + i, none⟩ = some (.int .i64 (ns.getD i default))) :
    Calls Try.prog 107 #[.slice (some ⟨g, o, none⟩) n c] w fun e w' => ∃ v, e = .returned v ∧ IntsAt w' (seg w.heap.size w'.heap.size) v ns ∧ Below w.heap.size w w' := by
  obtain ⟨i0, hi, hz0, hz1, hz2⟩ := info_parts infoI
  have HA := Seg.hid ha
  have HN := Seg.hid hnl
  clear ha hnl
  go_enter Try.func107, Try.ntmps107
  go_wp2_with (at_make; refine wpList_make_full _ rfl _ _ 39 rfl w.heap.size 3 i0 _ 1 Try.underlying39 hi hz0 hz1 .i64 .i64 _ _ n rfl rfl rfl rfl (by rw [hz2]; omega) (by unfold maxLen; omega) (Nat.le_refl _) ?_; intro w1 hown hgr)
  have hb1 := (Below.refl w.heap.size w).grown hgr (Nat.le_refl _) (fun k hk => by cases hk)
  have HM := Seg.hid (Mine.of_made hown hown.1)
  have HB := Seg.hid hb1
  clear hown hgr hb1 hi hz0 hz1 hz2
  go_loopw [4] (fun i wr => ∃ (j : Nat) (F : Nat → Value), j ≤ n ∧ i = .int .i64 j ∧ Hid (Mine wr 3 1 w.heap.size n F ∧ Below w.heap.size w wr ∧ ∀ i, i < j → F i = .int .i64 (ns.getD i default))) (fun i _ => n - (intOf i).toNat)
  case atStart => exact ⟨0, _, Nat.zero_le _, rfl, HM.out, HB.out, fun i hi => absurd hi (by omega)⟩
  case round =>
    clear HM HB
    obtain ⟨j, F, hj, rfl, HR⟩ := hrel
    by_cases hlt : j < n
    · have c1 : wr.cell? ⟨g, o + j, none⟩ = some (.int .i64 (ns.getD j default)) := by rw [HR.out.2.1.cell (p := ⟨g, o + j, none⟩) hg]; exact HA.out j hlt
      have h0 : (0 : Int) ≤ (j : Int) := by omega
      have h1 : (j : Int) < (n : Int) := by omega
      have d1 := HR.out.1.cell j (by omega)
      have f1 := HR.out.1.frozen j
      have M2 := Seg.hid (HR.out.1.set j (.int .i64 (ns.getD j default)))
      have B2 := Seg.hid (HR.out.2.1.setCell (p := ⟨w.heap.size, j, none⟩) (Nat.le_refl _) (.int .i64 (ns.getD j default)))
      have R2 : Hid (∀ i, i < j + 1 → (fun i => if i = j then (.int .i64 (ns.getD j default)) else F i) i = Value.int .i64 (ns.getD i default)) := fun i hi => by
        by_cases he : i = j
        · subst he; simp
        · simp [he]; simpa using HR.out.2.2 i (by omega)
      generalize ns.getD j default = nj at *
      go_wp2
      go_roundw
      case rel => exact ⟨j + 1, _, by omega, by go_num, M2.out, B2.out, R2.out⟩
      case measure => simp [intOf]; omega
    · have : j = n := by omega
      subst this
      go_wp2
      go_ret
      refine ⟨.slice (some ⟨w.heap.size, 0, none⟩) j j, rfl, ⟨by rw [HN.out]; omega, _, _, by rw [HN.out], .inr ⟨w.heap.size, 0, fun i q => F (i * 1 + q), rfl, ⟨Nat.le_refl _, HR.out.1.lt⟩, by rw [HN.out]; exact Nat.le_refl _, fun i hi q hq => ?_, fun i hi => ?_⟩⟩, HR.out.2.1⟩
      · rw [HN.out] at hi
        rw [Nat.zero_add]
        exact HR.out.1.cell _ (by omega)
      · rw [HN.out] at hi
        show F (i * 1 + 0) = _
        rw [Nat.mul_one, Nat.add_zero]
        exact HR.out.2.2 i hi
set_option maxHeartbeats 400000 in
theorem toIntS_none (A : Option Addr) (c : Nat) (w : World) :
    Calls Try.prog 107 #[.slice A 0 c] w fun e w' => ∃ v, e = .returned v ∧ (∃ A c, v = .slice A 0 c) ∧ Below w.heap.size w w' := by
  obtain ⟨i0, hi, hz0, hz1, hz2⟩ := info_parts infoI
  go_enter Try.func107, Try.ntmps107
  go_wp2_with (at_make; refine wpList_make_full _ rfl _ _ 39 rfl w.heap.size 3 i0 _ 1 Try.underlying39 hi hz0 hz1 .i64 .i64 _ _ 0 rfl rfl rfl rfl (by omega) (by unfold maxLen; omega) (Nat.le_refl _) ?_; intro w1 hown hgr)
  have hb1 := (Below.refl w.heap.size w).grown hgr (Nat.le_refl _) (fun k hk => by cases hk)
  have HB := Seg.hid hb1
  clear hown hgr hb1 hi hz0 hz1 hz2
  go_loop [4] (fun i => i = .int .i64 0) (fun i => 0)
  case atStart => rfl
  case round =>
    subst hrel
    go_wp2
    go_ret
    exact ⟨_, rfl, ⟨_, _, rfl⟩, HB.out⟩
theorem toIntS_any (v : Value) (ns : List Int) (w : World) (S : Nat → Prop) (hv : IntsAt w S v ns) (hS : ∀ g, S g → g < w.heap.size) (hl : ns.length ≤ 1048576) :
    Calls Try.prog 107 #[v] w fun e w' => ∃ v', e = .returned v' ∧ IntsAt w' (seg w.heap.size w'.heap.size) v' ns ∧ Below w.heap.size w w' := by
  obtain ⟨hn, A, c, rfl, h⟩ := hv
  by_cases hz : ns.length = 0
  · obtain rfl := List.length_eq_zero_iff.1 hz
    refine (toIntS_none A c w).mono fun e w' ⟨v', a1, ⟨A', c', a2⟩, a3⟩ => ⟨v', a1, ?_, a3⟩
    rw [a2]
    exact LAt.nil _ _ _ _
  obtain ⟨g, o, F, rfl, hg, hc, hcell, hel⟩ := h.resolve_left hz
  exact toIntS_core g o ns.length c ns w hl hc (hS g hg) rfl (int_cell hcell hel)
theorem eqIntS_none (A A' : Option Addr) (c c' : Nat) (w : World) :
    Calls Try.prog 16 #[.slice A 0 c, .slice A' 0 c'] w fun e w' => e = .returned (.bool true) ∧ Below w.heap.size w w' := by
  go_enter Try.func16, Try.ntmps16
  go_wp2
  go_loop [5] (fun i => i = .int .i64 0) (fun _ => 0)
  case atStart => rfl
  case round =>
    subst hrel
    go_wp2
    go_ret
    exact ⟨rfl, Below.refl _ _⟩
set_option maxHeartbeats 400000 in
theorem eqIntS_core (g o g' o' n c c' : Nat) (ns : List Int) (w : World) (hn : n ≤ 9223372036854775807) (hc : n ≤ c) (hc' : n ≤ c') (hg : g < w.heap.size) (hg' : g' < w.heap.size)
    (ha : ∀ i, i < n → w.cell? ⟨g, o + i, none⟩ = some (.int .i64 (ns.getD i default))) (ha' : ∀ i, i < n → w.cell? ⟨g', o' + i, none⟩ = some (.int .i64 (ns.getD i default))) :
    Calls Try.prog 16 #[.slice (some ⟨g, o, none⟩) n c, .slice (some ⟨g', o', none⟩) n c'] w fun e w' => e = .returned (.bool true) ∧ Below w.heap.size w w' := by
  have HA := Seg.hid ha; have HA' := Seg.hid ha'
  clear ha ha'
  go_enter Try.func16, Try.ntmps16
  go_wp2
  go_loopw [5] (fun i wr => ∃ k d : Nat, k ≤ n ∧ i = .int .i64 k ∧ wr = w.drewN d) (fun i _ => n - (intOf i).toNat)
  case atStart => exact ⟨0, 0, Nat.zero_le _, rfl, rfl⟩
  case round =>
    obtain ⟨k, d, hk, rfl, rfl⟩ := hrel
    by_cases hlt2 : k < n
    · have c1 := HA.out k hlt2
      have c2 := HA'.out k hlt2
      have h0 : (0 : Int) ≤ (k : Int) := by omega
      have h1 : (k : Int) < (n : Int) := by omega
      generalize ns.getD k default = nk at *
      have hne : (nk != nk) = false := by simp
      go_wp2
      go_region
      go_wp2
      go_roundw
      case rel => exact ⟨k + 1, d + 1, by omega, by go_num, rfl⟩
      case measure => simp [intOf]; omega
    · have : k = n := by omega
      subst this
      go_wp2
      go_ret
      exact ⟨rfl, ⟨rfl, rfl, rfl, Nat.le_refl _, fun _ _ => rfl⟩⟩
theorem eqIntS_any (v v' : Value) (ns : List Int) (w : World) (S S' : Nat → Prop) (hv : IntsAt w S v ns) (hv' : IntsAt w S' v' ns) (hS : ∀ g, S g → g < w.heap.size) (hS' : ∀ g, S' g → g < w.heap.size) :
    Calls Try.prog 16 #[v, v'] w fun e w' => e = .returned (.bool true) ∧ Below w.heap.size w w' := by
  obtain ⟨hn, A, c, rfl, h⟩ := hv
  obtain ⟨_, A', c', rfl, h'⟩ := hv'
  by_cases hz : ns.length = 0
  · rw [hz]
    exact eqIntS_none A A' c c' w
  obtain ⟨g, o, F, rfl, hg, hc, hcell, hel⟩ := h.resolve_left hz
  obtain ⟨g', o', F', rfl, hg', hc', hcell', hel'⟩ := h'.resolve_left hz
  exact eqIntS_core g o g' o' ns.length c c' ns w hn hc hc' (hS g hg) (hS' g' hg') (int_cell hcell hel) (int_cell hcell' hel')
end Go.Proofs.Ytdhicmbfknagjaa.Ls
namespace Go.Proofs.Ytdhicmbfknagjaa.Ow
set_option maxRecDepth 8000
open Go.RowKit
open Recs
open Ls
set_option linter.unusedVariables false
theorem heldIntS_none (A : Option Addr) (c : Nat) (k : Int) (w : World) : Calls Try.prog 20 #[.slice A 0 c, .int .i64 k] w fun e w' => e = .returned (.int .i64 k) ∧ Below w.heap.size w w' := by
  go_enter Try.func20, Try.ntmps20
  go_wp2
  go_loop [1, 5] (fun x i => i = .int .i64 0 ∧ x = .int .i64 k) (fun _ _ => 0)
  case atStart => exact ⟨rfl, rfl⟩
  case round =>
    obtain ⟨rfl, rfl⟩ := hrel
    go_wp2
    go_ret
    exact ⟨rfl, Below.refl _ _⟩
set_option maxHeartbeats 800000 in
theorem heldIntS_core (g o n c k : Nat) (w : World) (hc : n ≤ c) (hn : n ≤ 9223372036854775807) (hk1 : k + n ≤ 4000000000000000000)
    (ha : ∀ i, i < n → w.cell? ⟨g, o + i, none⟩ = some (.int .i64 ((k : Int) + i))) :
    Calls Try.prog 20 #[.slice (some ⟨g, o, none⟩) n c, .int .i64 k] w fun e w' => e = .returned (.int .i64 ((k : Int) + n)) ∧ Below w.heap.size w w' := by
  have HA := Seg.hid ha
  clear ha
  go_enter Try.func20, Try.ntmps20
  go_wp2
  go_loop [1, 5] (fun x i => ∃ (j : Nat), j ≤ n ∧ i = .int .i64 j ∧ x = .int .i64 ((k : Int) + j)) (fun _ i => n - (intOf i).toNat)
  case atStart => exact ⟨0, Nat.zero_le _, rfl, by simp⟩
  case round =>
    obtain ⟨j, hj, rfl, rfl⟩ := hrel
    by_cases hlt : j < n
    · have c1 := HA.out j hlt
      have h0 : (0 : Int) ≤ (j : Int) := by omega
      have h1 : (j : Int) < (n : Int) := by omega
      go_wp2
      go_round
      case rel => exact ⟨j + 1, by omega, by go_num, by go_num⟩
      case measure => simp [intOf]; omega
    · have : j = n := by omega
      subst this
      go_wp2
      go_ret
      exact ⟨rfl, Below.refl _ _⟩
theorem heldIntS_at (x : Int) (k : Nat) (hx : x = (k : Int)) (S : Nat → Prop) (ns : List Int) (w : World) {v : Value} (hk1 : k + tot nI ns ≤ 4000000000000000000) (hv : IntsAt w S v (mL mI nI k ns)) :
    Calls Try.prog 20 #[v, .int .i64 x] w fun e w' => e = .returned (.int .i64 ((k + tot nI ns : Nat) : Int)) ∧ Below w.heap.size w w' := by
  subst hx
  obtain ⟨hn, A, c, rfl, h⟩ := hv
  rw [mL_len] at hn h ⊢
  rw [nI_tot] at hk1 ⊢
  by_cases hz : ns.length = 0
  · rw [hz]
    exact heldIntS_none A c k w
  obtain ⟨g, o, F, rfl, hg, hc, hcell, hel⟩ := h.resolve_left hz
  refine (heldIntS_core g o ns.length c k w hc hn hk1 (fun i hi => ?_)).mono fun e w' ⟨h1, h2⟩ => ⟨by rw [h1]; simp, h2⟩
  have := int_cell hcell hel i hi
  rw [this, mL_get mI nI hi, nI_tot, List.length_take, Nat.min_eq_left (Nat.le_of_lt hi), mI]
  simp
end Go.Proofs.Ytdhicmbfknagjaa.Ow
