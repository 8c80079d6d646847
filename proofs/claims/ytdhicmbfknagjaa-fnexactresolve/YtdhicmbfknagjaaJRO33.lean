/- How many marks the answer of Resolve takes; Lists of Item with marks: the law's look at these. -/
import Derived.Test.YtdhicmbfknagjaaJRO32
import Derived.Test.YtdhicmbfknagjaaJRO23
import Derived.Test.YtdhicmbfknagjaaJRO19
import Derived.Test.YtdhicmbfknagjaaJRO06
namespace Go.Proofs.Ytdhicmbfknagjaa.FwR
set_option maxRecDepth 8000
open Go.RowKit
open Ls Lp VkP VkR ScP MaP CrP RoP RvP
theorem tot_le : ∀ {us : List Vlu}, (∀ u ∈ us, u.items.length ≤ 1048576) → tot Ow.nVlu us ≤ 3000000 * us.length
  | [], _ => by simp [tot]
  | u :: r, h => by
    have h1 := tot_le (us := r) (fun x hx => h x (List.mem_cons_of_mem _ hx))
    have h2 := h u List.mem_cons_self
    have h3 : Ow.nVlu u = 4 + 2 * u.items.length := by unfold Ow.nVlu; rw [FwS.itms]
    simp only [tot, List.length_cons]
    omega
theorem res_few (r s : Sch) (us : List Vlu) (hr : szSch r ≤ 1048576) (hu : szL szVlu us ≤ 1048576) : tot Ow.nVlu (resL r s us) ≤ 1000000000 := by
  unfold resL
  split
  · next h =>
    simp only [resOk, Bool.and_eq_true] at h
    obtain ⟨hor, hos⟩ := canR_sok h.1
    have hl := (MaP.sok_dst hor).2.1
    have hul : us.length = s.fields.length := by
      have := h.2
      simp only [rowOk, Bool.and_eq_true, decide_eq_true_eq] at this
      exact this.2.1
    have hm : ∀ u ∈ outL r.fields us (mtch r s) r.fields.length, u.items.length ≤ 1048576 := by
      intro u hu'
      simp only [outL, List.mem_map, List.mem_range] at hu'
      obtain ⟨k, hk, rfl⟩ := hu'
      refine res_items (szL_one szFld (ScI.sz_fields hr) hk) hu ?_
      rw [mtch_at hk]
      rcases plc_range s.fields (nms (r.fields.getD k default)) with h | ⟨h, h', _⟩
      · exact .inl h
      · exact .inr (by omega)
    have := tot_le hm
    rw [outL_len] at this
    omega
  · simp [tot]
end Go.Proofs.Ytdhicmbfknagjaa.FwR
namespace Go.Proofs.Ytdhicmbfknagjaa.Ow
set_option maxRecDepth 8000
open Go.RowKit
open Recs
open Ls
set_option linter.unusedVariables false
theorem heldItemS_none (A : Option Addr) (c : Nat) (k : Int) (w : World) : Calls Try.prog 69 #[.slice A 0 c, .int .i64 k] w fun e w' => e = .returned (.int .i64 k) ∧ Below w.heap.size w w' := by
  go_enter Try.func69, Try.ntmps69
  go_wp2
  go_loop [1, 5] (fun x i => i = .int .i64 0 ∧ x = .int .i64 k) (fun _ _ => 0)
  case atStart => exact ⟨rfl, rfl⟩
  case round =>
    obtain ⟨rfl, rfl⟩ := hrel
    go_wp2
    go_ret
    exact ⟨rfl, Below.refl _ _⟩
set_option maxHeartbeats 3200000 in
theorem heldItemS_core (g o n c k : Nat) (us : List Itm) (F : Nat → Nat → Value) (w : World) (S : Nat → Prop) (hn : n ≤ 9223372036854775807) (hc : n ≤ c) (hg : g < w.heap.size) (hS : ∀ g, S g → g < w.heap.size) (hnl : us.length = n) (hk : 0 < k) (hk1 : k + tot nItm us ≤ 4000000000000000000)
    (ha : ∀ i, i < n → ∀ j, j < 2 → w.cell? ⟨g, o + i * 2 + j, none⟩ = some (F i j)) (he : ∀ i, i < n → EItm w S (F i) (mItm (k + tot nItm (us.take i)) (us.getD i default))) :
    Calls Try.prog 69 #[.slice (some ⟨g, o, none⟩) n c, .int .i64 k] w fun e w' => e = .returned (.int .i64 ((k + tot nItm us : Nat) : Int)) ∧ Below w.heap.size w w' := by
  have HA := Seg.hid ha; have HE := Seg.hid he
  have HN := Seg.hid hnl
  have KL : Hid (∀ j, j < n → k + tot nItm (us.take j) + nItm (us.getD j default) ≤ 4000000000000000000) := fun j hj => by
    have a1 := tot_take nItm (ts := us) (j := j) (by rw [HN.out]; exact hj)
    have a2 := tot_le nItm us (j + 1)
    omega
  have KE : Hid (k + tot nItm (us.take n) = k + tot nItm us) := by show _ = _; rw [← HN.out, List.take_length]
  clear ha he hk1 hnl
  go_enter Try.func69, Try.ntmps69
  go_wp2
  go_loopw [1, 5] (fun x i wr => ∃ (j : Nat), j ≤ n ∧ i = .int .i64 j ∧ x = .int .i64 ((k + tot nItm (us.take j) : Nat) : Int) ∧ Hid (Below w.heap.size w wr)) (fun _ i _ => n - (intOf i).toNat)
  case atStart => exact ⟨0, Nat.zero_le _, rfl, rfl, Below.refl _ _⟩
  case round =>
    obtain ⟨j, hj, rfl, rfl, HR⟩ := hrel
    by_cases hlt : j < n
    · have h0 : (0 : Int) ≤ (j : Int) := by omega
      have h1 : (j : Int) < (n : Int) := by omega
      have EL := HE.out j hlt
      have TK := Seg.hid (tot_take nItm (ts := us) (j := j) (by rw [HN.out]; exact hlt))
      have hxb := KL.out j hlt
      have HC : Hid (∀ w', Below w.heap.size w w' → ∀ q, q < 2 → w'.cell? ⟨g, o + j * 2 + q, none⟩ = some (F j q)) := fun w' hb q hq => by rw [hb.cell (p := ⟨g, o + j * 2 + q, none⟩) hg]; exact HA.out j hlt q hq
      obtain ⟨x, hx⟩ : ∃ x, k + tot nItm (us.take j) = x := ⟨_, rfl⟩
      have HX := Seg.hid hx
      rw [hx] at hxb EL ⊢
      have hx0 : 0 < x := by omega
      clear hx
      generalize us.getD j default = u at *
      have HXB := Seg.hid hxb
      clear hxb
      obtain ⟨s0, s1⟩ := EL
      have HB_x : Hid (x + 2 ≤ 4000000000000000000) := by show _ ≤ _; have := HXB.out; simp only [nItm] at this; omega
      have hd_x : x + 2 ≤ 4000000000000000000 := by have := HB_x.out; omega
      have S0 := Seg.hid s0
      have S1 := Seg.hid s1
      clear s0 s1
      have c0 : wr.cell? ⟨g, o + j * 2, none⟩ = some (.int .i64 ((x : Int))) := (HC.out _ HR.out 0 (by omega)).trans (by rw [S0.out]; exact congrArg (fun z : Int => some (Value.int .i64 z)) (show (((x + 0) : Nat) : Int) = (x : Int) by omega))
      have c1 : wr.cell? ⟨g, o + j * 2 + 1, none⟩ = some (.string (mt (x + 1))) := (HC.out _ HR.out 1 (by omega)).trans (by rw [S1.out]; exact congrArg (fun z : Nat => some (Value.string (mt z))) (show (x + 1) = x + 1 by omega))
      have c1d : wr.drew.cell? ⟨g, o + j * 2 + 1, none⟩ = some (.string (mt (x + 1))) := c1
      go_wp2_with fail
      go_region_with (go_at_call 62; refine (markText_at _ (x + 1) (by omega) wr.drew (by omega) (by omega)).mono ?_; rintro e w1 ⟨rfl, b1⟩; have B1 : Hid (Below w.heap.size w w1) := chainD HR.out b1; clear b1; have c1e : w1.cell? ⟨g, o + j * 2 + 1, none⟩ = some (.string (mt (x + 1))) := (HC.out _ B1.out 1 (by omega)).trans ((HC.out _ HR.out 1 (by omega)).symm.trans c1))
      all_goals
        try clear c0
        try clear c1
        try clear c1d
        try clear c1e
        have HKK : Hid ((x : Int) + 1 + 1 = ((k + tot nItm (us.take (j + 1)) : Nat) : Int)) := by
          show _ = _
          have a1 := TK.out; have a2 := HX.out; simp only [nItm] at a1; omega
        go_wp2
        go_roundw
        case rel => exact ⟨j + 1, by omega, by go_num, congrArg (Value.int .i64) HKK.out, B1.out⟩
        case measure => simp [intOf]; omega
    · have : j = n := by omega
      subst this
      rw [KE.out]
      go_wp2
      go_ret
      exact ⟨rfl, HR.out⟩
theorem heldItemS_at (x : Int) (k : Nat) (hx : x = (k : Int)) (S : Nat → Prop) (us : List Itm) (w : World) {v : Value} (hk : 0 < k) (hk1 : k + tot nItm us ≤ 4000000000000000000) (hS : ∀ g, S g → g < w.heap.size) (hv : LAt 2 EItm w S v (mL mItm nItm k us)) :
    Calls Try.prog 69 #[v, .int .i64 x] w fun e w' => e = .returned (.int .i64 ((k + tot nItm us : Nat) : Int)) ∧ Below w.heap.size w w' := by
  subst hx
  obtain ⟨hn, A, c, rfl, h⟩ := hv
  rw [mL_len] at hn h ⊢
  by_cases hz : us.length = 0
  · obtain rfl := List.length_eq_zero_iff.1 hz
    exact heldItemS_none A c k w
  obtain ⟨g, o, F, rfl, hg, hc, hcell, hel⟩ := h.resolve_left hz
  exact heldItemS_core g o us.length c k us F w S hn hc (hS g hg) hS rfl hk hk1 hcell (fun i hi => by have := hel i hi; rw [mL_get mItm nItm hi] at this; exact this)
end Go.Proofs.Ytdhicmbfknagjaa.Ow
