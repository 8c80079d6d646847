/- QuorumOk of the model: what its askers over lists answer. -/
import Derived.Test.YtdkfhjcockkleaaQkK
import Derived.Deep.QuietTactic
import Derived.BigQuiet
namespace Go.Proofs.Ytdkfhjcockkleaa.QkS
set_option maxRecDepth 8000
open Go.RowKit
open Ls QkP QkI
open Recs (hsz below1 below2 chain)
set_option linter.unusedVariables false
theorem nums_zero (ns : List Int) (most : Int) : nums ns 0 most = decide (ns.length = 0) := by
  unfold nums
  cases ns with
  | nil => simp [allIn]
  | cons a r =>
    have h1 : decide (((a :: r).length : Int) = 0) = false := decide_eq_false (by simp; omega)
    rw [h1]; simp
theorem cm_eq (hi lo : Int) (cs : List Cmd) : (decide (cs.length ≤ 200) && both hi lo cs) = (cmds cs && terms hi lo cs) := by
  rw [both_eq]; unfold cmds
  cases decide (cs.length ≤ 200) <;> cases terms hi lo cs <;> cases texts cs <;> rfl
set_option maxHeartbeats 400000 in
theorem nums_core (g o c n : Nat) (ns : List Int) (most : Int) (t : Bool) (w : World) (hn : n ≤ 9223372036854775807) (hc : n ≤ c) (hnl : ns.length = n) (ht : allIn most ns = t)
    (ha : ∀ i, i < n → w.cell? ⟨g, o + i, none⟩ = some (.int .i64 (ns.getD i default))) :
    Calls Try.prog 21 #[.slice (some ⟨g, o, none⟩) n c, .int .i64 n, .int .i64 most] w fun e w' => e = .returned (.bool t) ∧ w = w' := by
  have HA := Seg.hid ha
  have HT := Seg.hid ht
  have HN := Seg.hid hnl
  clear ha ht hnl
  go_enter Try.func21, Try.ntmps21
  go_wp2
  go_loop [7] (fun i => ∃ (k : Nat), k ≤ n ∧ i = .int .i64 k ∧ Hid (allIn most (ns.drop k) = t)) (fun i => n - (intOf i).toNat)
  case atStart => exact ⟨0, Nat.zero_le _, rfl, HT⟩
  case round =>
    obtain ⟨k, hk, rfl, HB⟩ := hrel
    by_cases hlt : k < n
    · have c1 := HA.out k hlt
      have h0 : (0 : Int) ≤ (k : Int) := by omega
      have h1 : (k : Int) < (n : Int) := by omega
      have HD := HB.out
      rw [drop_cons (by rw [HN.out]; exact hlt)] at HD
      generalize ns.getD k default = nk at *
      have HD' := Seg.hid HD
      clear HD
      go_wp2_with fail
      cases hb : inR 0 nk most with
      | false =>
        refine (InB.l1In_b _ _ _ false hb _).mono ?_
        rintro e w1 ⟨rfl, rfl⟩
        go_wp2
        go_ret
        exact ⟨Seg.ret_bool (by have := HD'.out; simp only [allIn, hb, Bool.false_and] at this; exact this), rfl⟩
      | true =>
        refine (InB.l1In_b _ _ _ true hb _).mono ?_
        rintro e w1 ⟨rfl, rfl⟩
        go_wp2
        go_round
        case rel => exact ⟨k + 1, by omega, by go_num, by have := HD'.out; simp only [allIn, hb, Bool.true_and] at this; exact this⟩
        case measure => simp [intOf]; omega
    · have hk' : k = n := by omega
      have HE := HB.out
      rw [List.drop_eq_nil_of_le (by rw [HN.out]; omega)] at HE
      have HE' := Seg.hid HE
      clear HE
      go_wp2
      go_ret
      exact ⟨Seg.ret_bool HE'.out, rfl⟩
theorem nums_not (A : Option Addr) (c n : Nat) (m most : Int) (w : World) (h : (((n : Nat) : Int) != m) = true) : Calls Try.prog 21 #[.slice A n c, .int .i64 m, .int .i64 most] w fun e w' => e = .returned (.bool false) ∧ w = w' := by
  go_enter Try.func21, Try.ntmps21
  go_wp2
  go_ret
  exact ⟨rfl, rfl⟩
theorem nums_none (A : Option Addr) (c : Nat) (most : Int) (w : World) : Calls Try.prog 21 #[.slice A 0 c, .int .i64 0, .int .i64 most] w fun e w' => e = .returned (.bool true) ∧ w = w' := by
  go_enter Try.func21, Try.ntmps21
  go_wp2
  go_loop [7] (fun i => i = .int .i64 0) (fun _ => 0)
  case atStart => rfl
  case round =>
    subst hrel
    go_wp2
    go_ret
    exact ⟨rfl, rfl⟩
theorem nums_any (v : Value) (ns : List Int) (m most : Int) (t : Bool) (w : World) (S : Nat → Prop) (hv : IntsAt w S v ns) (ht : nums ns m most = t) :
    Calls Try.prog 21 #[v, .int .i64 m, .int .i64 most] w fun e w' => e = .returned (.bool t) ∧ w = w' := by
  obtain ⟨hn, A, c, rfl, h⟩ := hv
  by_cases hm : (ns.length : Int) = m
  · by_cases hz : ns.length = 0
    · obtain rfl := List.length_eq_zero_iff.1 hz
      subst ht hm
      exact nums_none A c most w
    · obtain ⟨g, o, F, rfl, hg, hc, hcell, hel⟩ := h.resolve_left hz
      subst hm
      exact nums_core g o c ns.length ns most t w hn hc rfl (by rw [← ht]; simp [nums]) (int_cell hcell hel)
  · have : t = false := by rw [← ht]; simp [nums, hm]
    subst this
    exact nums_not A c ns.length m most w (by simpa using hm)
set_option maxHeartbeats 400000 in
theorem cmds_core (g o c n : Nat) (cs : List Cmd) (lo hi : Int) (t : Bool) (w : World) (hc : n ≤ c) (hnl : cs.length = n) (hn2 : n ≤ 200) (ht : both hi lo cs = t) (hf : ∀ i, i < n → (cs.getD i default).text.size ≤ maxLen)
    (ha : ∀ i, i < n → w.cell? ⟨g, o + i * 2, none⟩ = some (.int .i64 (cs.getD i default).term) ∧ w.cell? ⟨g, o + i * 2 + 1, none⟩ = some (.string (cs.getD i default).text)) :
    Calls Try.prog 20 #[.slice (some ⟨g, o, none⟩) n c, .int .i64 lo, .int .i64 hi] w fun e w' => e = .returned (.bool t) ∧ w = w' := by
  have HA := Seg.hid ha
  have HF := Seg.hid hf
  have HT := Seg.hid ht
  have HN := Seg.hid hnl
  clear ha ht hnl hf
  go_enter Try.func20, Try.ntmps20
  go_wp2
  go_loop [1, 7] (fun a i => ∃ (k : Nat) (x : Int), k ≤ n ∧ a = .int .i64 x ∧ i = .int .i64 k ∧ Hid (both hi x (cs.drop k) = t)) (fun _ i => n - (intOf i).toNat)
  case atStart => exact ⟨0, lo, Nat.zero_le _, rfl, rfl, HT⟩
  case round =>
    obtain ⟨k, x, hk, rfl, rfl, HB⟩ := hrel
    by_cases hlt : k < n
    · obtain ⟨c0, c1⟩ := HA.out k hlt
      have h0 : (0 : Int) ≤ (k : Int) := by omega
      have h1 : (k : Int) < (n : Int) := by omega
      have HD := HB.out
      have FK := HF.out k hlt
      rw [drop_cons (by rw [HN.out]; exact hlt)] at HD
      generalize cs.getD k default = ck at *
      have HD' := Seg.hid HD
      unfold maxLen at FK
      clear HD
      go_wp2_with fail
      cases hb : inR x ck.term hi with
      | false =>
        refine (InB.l1In_b _ _ _ false hb _).mono ?_
        rintro e w1 ⟨rfl, rfl⟩
        go_wp2
        go_ret
        exact ⟨Seg.ret_bool (by have := HD'.out; simp only [both, hb, Bool.false_and] at this; exact this), rfl⟩
      | true =>
        refine (InB.l1In_b _ _ _ true hb _).mono ?_
        rintro e w1 ⟨rfl, rfl⟩
        have KB := Seg.hid hb
        clear hb
        by_cases ht : ck.text.size ≤ 100
        · have HE : Hid (both hi ck.term (cs.drop (k + 1)) = t) := by show _ = _; have := HD'.out; simp only [both, KB.out, decide_eq_true ht, Bool.true_and] at this; exact this
          go_wp2
          go_round
          case rel => exact ⟨k + 1, ck.term, by omega, rfl, by go_num, HE⟩
          case measure => simp [intOf]; omega
        · have HE : Hid (false = t) := by show _ = _; have := HD'.out; simp only [both, KB.out, decide_eq_false ht, Bool.and_false, Bool.false_and] at this; exact this
          go_wp2
          go_ret
          exact ⟨Seg.ret_bool HE.out, rfl⟩
    · have hk' : k = n := by omega
      have HE := HB.out
      rw [List.drop_eq_nil_of_le (by rw [HN.out]; omega)] at HE
      have HE' := Seg.hid HE
      clear HE
      go_wp2
      go_ret
      exact ⟨Seg.ret_bool HE'.out, rfl⟩
theorem cmds_none (A : Option Addr) (c : Nat) (lo hi : Int) (w : World) : Calls Try.prog 20 #[.slice A 0 c, .int .i64 lo, .int .i64 hi] w fun e w' => e = .returned (.bool true) ∧ w = w' := by
  go_enter Try.func20, Try.ntmps20
  go_wp2
  go_loop [1, 7] (fun a i => a = .int .i64 lo ∧ i = .int .i64 0) (fun _ _ => 0)
  case atStart => exact ⟨rfl, rfl⟩
  case round =>
    obtain ⟨rfl, rfl⟩ := hrel
    go_wp2
    go_ret
    exact ⟨rfl, rfl⟩
theorem cmds_many (A : Option Addr) (c n : Nat) (lo hi : Int) (w : World) (h : ¬ n ≤ 200) (hn : n ≤ 9223372036854775807) : Calls Try.prog 20 #[.slice A n c, .int .i64 lo, .int .i64 hi] w fun e w' => e = .returned (.bool false) ∧ w = w' := by
  go_enter Try.func20, Try.ntmps20
  go_wp2
  go_ret
  exact ⟨rfl, rfl⟩
theorem cmds_any (v : Value) (cs : List Cmd) (lo hi : Int) (t : Bool) (w : World) (S : Nat → Prop) (hv : LAt 2 ECmd w S v cs) (hf : szL szCmd cs ≤ 1048576) (ht : (cmds cs && terms hi lo cs) = t) :
    Calls Try.prog 20 #[v, .int .i64 lo, .int .i64 hi] w fun e w' => e = .returned (.bool t) ∧ w = w' := by
  rw [← cm_eq] at ht
  obtain ⟨hn, A, c, rfl, h⟩ := hv
  by_cases hz : cs.length = 0
  · obtain rfl := List.length_eq_zero_iff.1 hz
    subst ht
    exact cmds_none A c lo hi w
  obtain ⟨g, o, F, rfl, hg, hc, hcell, hel⟩ := h.resolve_left hz
  by_cases h2 : cs.length ≤ 200
  · exact cmds_core g o c cs.length cs lo hi t w hc rfl h2 (by rw [← ht]; simp [h2]) (fun i hi => by have := szL_one _ hf hi; unfold szCmd at this; unfold maxLen; omega) (cmd_cells hcell hel)
  · have : t = false := by rw [← ht]; simp [h2]
    subst this
    exact cmds_many _ c cs.length lo hi w h2 hn
end Go.Proofs.Ytdkfhjcockkleaa.QkS
