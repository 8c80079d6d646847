/- QuorumOk of the program: what its askers over lists of numbers and of commands answer. -/
import Derived.Test.YtdkfhjcockkleaaQkP
import Derived.Test.YtdkfhjcockkleaaInB
namespace Go.Proofs.Ytdkfhjcockkleaa.QkI
set_option maxRecDepth 8000
open Go.RowKit
open Ls QkP
open Recs (hsz below1 below2 chain)
set_option linter.unusedVariables false
theorem textOk_any (s : ByteArray) (w : World) (hs : s.size ≤ maxLen) : Calls Try.prog 41 #[.string s] w fun e w' => e = .returned (.bool (decide (s.size ≤ 100))) ∧ w = w' := by
  unfold maxLen at hs
  go_enter Try.func41, Try.ntmps41
  go_wp2
  go_ret
  exact ⟨Seg.ret_bool (by rw [Bool.eq_iff_iff]; simp; omega), rfl⟩
set_option maxHeartbeats 400000 in
theorem asc_core (g o c n : Nat) (ns : List Int) (most : Int) (t : Bool) (w : World) (hn : n ≤ 9223372036854775807) (hc : n ≤ c) (hm : most ≤ 1048576) (hnl : ns.length = n) (ht : asc most (-1) ns = t)
    (ha : ∀ i, i < n → w.cell? ⟨g, o + i, none⟩ = some (.int .i64 (ns.getD i default))) :
    Calls Try.prog 38 #[.slice (some ⟨g, o, none⟩) n c, .int .i64 most] w fun e w' => e = .returned (.bool t) ∧ w = w' := by
  have HA := Seg.hid ha
  have HT := Seg.hid ht
  have HN := Seg.hid hnl
  clear ha ht hnl
  go_enter Try.func38, Try.ntmps38
  go_wp2
  go_loop [5, 10] (fun a i => ∃ (k : Nat) (x : Int), k ≤ n ∧ a = .int .i64 x ∧ i = .int .i64 k ∧ -1 ≤ x ∧ x ≤ 1048576 ∧ Hid (asc most x (ns.drop k) = t)) (fun _ i => n - (intOf i).toNat)
  case atStart => exact ⟨0, -1, Nat.zero_le _, rfl, rfl, by omega, by omega, HT⟩
  case round =>
    obtain ⟨k, x, hk, rfl, rfl, hx0, hx1, HB⟩ := hrel
    by_cases hlt : k < n
    · have c1 := HA.out k hlt
      have h0 : (0 : Int) ≤ (k : Int) := by omega
      have h1 : (k : Int) < (n : Int) := by omega
      have HD := HB.out
      rw [drop_cons (by rw [HN.out]; exact hlt)] at HD
      generalize ns.getD k default = nk at *
      have HD' := Seg.hid HD
      clear HD
      go_wp2_with fail
      cases hb : inR (x + 1) nk most with
      | false =>
        refine (InB.within_b _ _ _ false hb _).mono ?_
        rintro e w1 ⟨rfl, rfl⟩
        go_wp2
        go_ret
        exact ⟨Seg.ret_bool (by have := HD'.out; simp only [asc, hb, Bool.false_and] at this; exact this), rfl⟩
      | true =>
        refine (InB.within_b _ _ _ true hb _).mono ?_
        rintro e w1 ⟨rfl, rfl⟩
        have hy : x + 1 ≤ nk ∧ nk ≤ most := by simpa [inR] using hb
        go_wp2
        go_round
        case rel => exact ⟨k + 1, nk, by omega, rfl, by go_num, by omega, by omega, by have := HD'.out; simp only [asc, hb, Bool.true_and] at this; exact this⟩
        case measure => simp [intOf]; omega
    · have hk' : k = n := by omega
      have HE := HB.out
      rw [List.drop_eq_nil_of_le (by rw [HN.out]; omega)] at HE
      have HE' := Seg.hid HE
      clear HE
      go_wp2
      go_ret
      exact ⟨Seg.ret_bool HE'.out, rfl⟩
theorem asc_none (A : Option Addr) (c : Nat) (most : Int) (w : World) : Calls Try.prog 38 #[.slice A 0 c, .int .i64 most] w fun e w' => e = .returned (.bool true) ∧ w = w' := by
  go_enter Try.func38, Try.ntmps38
  go_wp2
  go_loop [5, 10] (fun a i => a = .int .i64 (-1) ∧ i = .int .i64 0) (fun _ _ => 0)
  case atStart => exact ⟨rfl, rfl⟩
  case round =>
    obtain ⟨rfl, rfl⟩ := hrel
    go_wp2
    go_ret
    exact ⟨rfl, rfl⟩
theorem asc_any (v : Value) (ns : List Int) (most : Int) (t : Bool) (w : World) (S : Nat → Prop) (hv : IntsAt w S v ns) (hm : most ≤ 1048576) (ht : asc most (-1) ns = t) :
    Calls Try.prog 38 #[v, .int .i64 most] w fun e w' => e = .returned (.bool t) ∧ w = w' := by
  obtain ⟨hn, A, c, rfl, h⟩ := hv
  by_cases hz : ns.length = 0
  · obtain rfl := List.length_eq_zero_iff.1 hz
    subst ht
    exact asc_none A c most w
  obtain ⟨g, o, F, rfl, hg, hc, hcell, hel⟩ := h.resolve_left hz
  exact asc_core g o c ns.length ns most t w hn hc hm rfl ht (int_cell hcell hel)
set_option maxHeartbeats 400000 in
theorem all_core (g o c n : Nat) (ns : List Int) (m most : Int) (t : Bool) (w : World) (hn : n ≤ 9223372036854775807) (hc : n ≤ c) (hnl : ns.length = n) (ht : nums ns m most = t)
    (ha : ∀ i, i < n → w.cell? ⟨g, o + i, none⟩ = some (.int .i64 (ns.getD i default))) :
    Calls Try.prog 40 #[.slice (some ⟨g, o, none⟩) n c, .int .i64 m, .int .i64 most] w fun e w' => e = .returned (.bool t) ∧ w = w' := by
  have HA := Seg.hid ha
  have HT : Hid ((allIn most (ns.drop 0) && decide ((n : Int) = m)) = t) := by show _ = _; rw [← ht, nums, hnl]; rfl
  have HN := Seg.hid hnl
  clear ha ht hnl
  go_enter Try.func40, Try.ntmps40
  go_wp2
  go_loop [11] (fun i => ∃ (k : Nat), k ≤ n ∧ i = .int .i64 k ∧ Hid ((allIn most (ns.drop k) && decide ((n : Int) = m)) = t)) (fun i => n - (intOf i).toNat)
  case atStart => exact ⟨0, Nat.zero_le _, rfl, HT⟩
  case round =>
    obtain ⟨k, hk, rfl, HB⟩ := hrel
    by_cases hlt : k < n
    · have c1 := HA.out k hlt
      have h0 : (0 : Int) ≤ (k : Int) := by omega
      have h1 : (k : Int) < (n : Int) := by omega
      have HD := HB.out
      rw [drop_cons (by rw [HN.out]; exact hlt)] at HD
      generalize ns.getD k default = nk at *
      have HD' := Seg.hid HD
      clear HD
      go_wp2_with fail
      cases hb : inR 0 nk most with
      | false =>
        refine (InB.within_b _ _ _ false hb _).mono ?_
        rintro e w1 ⟨rfl, rfl⟩
        go_wp2
        go_ret
        exact ⟨Seg.ret_bool (by have := HD'.out; simp only [allIn, hb, Bool.false_and] at this; exact this), rfl⟩
      | true =>
        refine (InB.within_b _ _ _ true hb _).mono ?_
        rintro e w1 ⟨rfl, rfl⟩
        go_wp2
        go_round
        case rel => exact ⟨k + 1, by omega, by go_num, by have := HD'.out; simp only [allIn, hb, Bool.true_and] at this; exact this⟩
        case measure => simp [intOf]; omega
    · have hk' : k = n := by omega
      have HE := HB.out
      rw [List.drop_eq_nil_of_le (by rw [HN.out]; omega)] at HE
      have HE' := Seg.hid HE
      clear HE
      go_wp2
      go_ret
      exact ⟨Seg.ret_bool (by have := HE'.out; simp only [allIn, Bool.true_and] at this; rw [← this, Bool.eq_iff_iff]; simp), rfl⟩
theorem all_none (A : Option Addr) (c : Nat) (m most : Int) (w : World) : Calls Try.prog 40 #[.slice A 0 c, .int .i64 m, .int .i64 most] w fun e w' => e = .returned (.bool (decide ((0 : Int) = m))) ∧ w = w' := by
  go_enter Try.func40, Try.ntmps40
  go_wp2
  go_loop [11] (fun i => i = .int .i64 0) (fun _ => 0)
  case atStart => rfl
  case round =>
    subst hrel
    go_wp2
    go_ret
    exact ⟨Seg.ret_bool (by rw [Bool.eq_iff_iff]; simp), rfl⟩
theorem all_any (v : Value) (ns : List Int) (m most : Int) (t : Bool) (w : World) (S : Nat → Prop) (hv : IntsAt w S v ns) (ht : nums ns m most = t) :
    Calls Try.prog 40 #[v, .int .i64 m, .int .i64 most] w fun e w' => e = .returned (.bool t) ∧ w = w' := by
  obtain ⟨hn, A, c, rfl, h⟩ := hv
  by_cases hz : ns.length = 0
  · obtain rfl := List.length_eq_zero_iff.1 hz
    subst ht
    exact (all_none A c m most w).mono fun e w' ⟨h1, h2⟩ => ⟨by rw [h1]; simp [nums, allIn], h2⟩
  obtain ⟨g, o, F, rfl, hg, hc, hcell, hel⟩ := h.resolve_left hz
  exact all_core g o c ns.length ns m most t w hn hc rfl ht (int_cell hcell hel)
/-- The two cells of a command in a list. -/
theorem cmd_cells {w : World} {S : Nat → Prop} {g o n : Nat} {cs : List Cmd} {F : Nat → Nat → Value} (h : ∀ i, i < n → ∀ j, j < 2 → w.cell? ⟨g, o + i * 2 + j, none⟩ = some (F i j)) (he : ∀ i, i < n → ECmd w S (F i) (cs.getD i default)) : ∀ i, i < n → w.cell? ⟨g, o + i * 2, none⟩ = some (.int .i64 (cs.getD i default).term) ∧ w.cell? ⟨g, o + i * 2 + 1, none⟩ = some (.string (cs.getD i default).text) := fun i hi => by
  obtain ⟨e0, e1⟩ := he i hi
  exact ⟨by have := h i hi 0 (by omega); rw [e0] at this; simpa using this, by have := h i hi 1 (by omega); rw [e1] at this; exact this⟩
set_option maxHeartbeats 400000 in
theorem cmds_core (g o c n : Nat) (cs : List Cmd) (t : Bool) (w : World) (hn : n ≤ 9223372036854775807) (hc : n ≤ c) (hg : g < w.heap.size) (hnl : cs.length = n) (ht : cmds cs = t) (hf : ∀ i, i < n → (cs.getD i default).text.size ≤ maxLen)
    (ha : ∀ i, i < n → w.cell? ⟨g, o + i * 2, none⟩ = some (.int .i64 (cs.getD i default).term) ∧ w.cell? ⟨g, o + i * 2 + 1, none⟩ = some (.string (cs.getD i default).text)) :
    Calls Try.prog 26 #[.slice (some ⟨g, o, none⟩) n c] w fun e w' => e = .returned (.bool t) ∧ Below w.heap.size w w' := by
  have HA := Seg.hid ha
  have HF := Seg.hid hf
  have HT : Hid ((texts (cs.drop 0) && decide (n ≤ 200)) = t) := by show _ = _; rw [← ht, cmds, hnl]; rfl
  have HN := Seg.hid hnl
  clear ha ht hnl hf
  go_enter Try.func26, Try.ntmps26
  go_wp2
  go_loopw [7] (fun i wr => ∃ (k : Nat), k ≤ n ∧ i = .int .i64 k ∧ Hid ((texts (cs.drop k) && decide (n ≤ 200)) = t ∧ Below w.heap.size w wr)) (fun i _ => n - (intOf i).toNat)
  case atStart => exact ⟨0, Nat.zero_le _, rfl, HT.out, Below.refl _ _⟩
  case round =>
    obtain ⟨k, hk, rfl, HB⟩ := hrel
    by_cases hlt : k < n
    · have c0 : wr.cell? ⟨g, o + k * 2, none⟩ = some (.int .i64 (cs.getD k default).term) := by rw [HB.out.2.cell (p := ⟨g, o + k * 2, none⟩) hg]; exact (HA.out k hlt).1
      have c1 : wr.cell? ⟨g, o + k * 2 + 1, none⟩ = some (.string (cs.getD k default).text) := by rw [HB.out.2.cell (p := ⟨g, o + k * 2 + 1, none⟩) hg]; exact (HA.out k hlt).2
      have h0 : (0 : Int) ≤ (k : Int) := by omega
      have h1 : (k : Int) < (n : Int) := by omega
      have HD := HB.out.1
      have FK := Seg.hid (HF.out k hlt)
      rw [drop_cons (by rw [HN.out]; exact hlt)] at HD
      generalize cs.getD k default = ck at *
      have HD' := Seg.hid HD
      clear HD
      go_wp2_with fail
      cases hb : decide (ck.text.size ≤ 100) with
      | false =>
        refine (textOk_any _ _ FK.out).mono ?_
        rintro e w1 ⟨rfl, rfl⟩
        rw [hb]
        have HB2 := Seg.hid hb
        clear hb
        go_wp2
        go_ret
        exact ⟨Seg.ret_bool (by have := HD'.out; simp only [texts, HB2.out, Bool.false_and] at this; exact this), HB.out.2.alloc HB.out.2.size _⟩
      | true =>
        refine (textOk_any _ _ FK.out).mono ?_
        rintro e w1 ⟨rfl, rfl⟩
        rw [hb]
        have HB2 := Seg.hid hb
        clear hb
        go_wp2
        go_roundw
        case rel => exact ⟨k + 1, by omega, by go_num, by have := HD'.out; simp only [texts, HB2.out, Bool.true_and] at this; exact this, HB.out.2.alloc HB.out.2.size _⟩
        case measure => simp [intOf]; omega
    · have hk' : k = n := by omega
      have HE := HB.out.1
      rw [List.drop_eq_nil_of_le (by rw [HN.out]; omega)] at HE
      have HE' := Seg.hid HE
      clear HE
      go_wp2
      go_ret
      exact ⟨Seg.ret_bool (by have := HE'.out; simp only [texts, Bool.true_and] at this; rw [← this, Bool.eq_iff_iff]; simp; omega), HB.out.2⟩
theorem cmds_none (A : Option Addr) (c : Nat) (w : World) : Calls Try.prog 26 #[.slice A 0 c] w fun e w' => e = .returned (.bool true) ∧ Below w.heap.size w w' := by
  go_enter Try.func26, Try.ntmps26
  go_wp2
  go_loop [7] (fun i => i = .int .i64 0) (fun _ => 0)
  case atStart => rfl
  case round =>
    subst hrel
    go_wp2
    go_ret
    exact ⟨rfl, Below.refl _ _⟩
theorem cmds_any (v : Value) (cs : List Cmd) (t : Bool) (w : World) (S : Nat → Prop) (hv : LAt 2 ECmd w S v cs) (hS : ∀ g, S g → g < w.heap.size) (hf : szL szCmd cs ≤ 1048576) (ht : cmds cs = t) :
    Calls Try.prog 26 #[v] w fun e w' => e = .returned (.bool t) ∧ Below w.heap.size w w' := by
  obtain ⟨hn, A, c, rfl, h⟩ := hv
  by_cases hz : cs.length = 0
  · obtain rfl := List.length_eq_zero_iff.1 hz
    subst ht
    exact cmds_none A c w
  obtain ⟨g, o, F, rfl, hg, hc, hcell, hel⟩ := h.resolve_left hz
  exact cmds_core g o c cs.length cs t w hn hc (hS g hg) rfl ht (fun i hi => by have := szL_one _ hf hi; unfold szCmd at this; unfold maxLen; omega) (cmd_cells hcell hel)
set_option maxHeartbeats 400000 in
theorem terms_core (g o c n : Nat) (cs : List Cmd) (lo hi : Int) (t : Bool) (w : World) (hn : n ≤ 9223372036854775807) (hc : n ≤ c) (hg : g < w.heap.size) (hnl : cs.length = n) (ht : terms hi lo cs = t)
    (ha : ∀ i, i < n → w.cell? ⟨g, o + i * 2, none⟩ = some (.int .i64 (cs.getD i default).term) ∧ w.cell? ⟨g, o + i * 2 + 1, none⟩ = some (.string (cs.getD i default).text)) :
    Calls Try.prog 39 #[.slice (some ⟨g, o, none⟩) n c, .int .i64 lo, .int .i64 hi] w fun e w' => e = .returned (.bool t) ∧ Below w.heap.size w w' := by
  have HA := Seg.hid ha
  have HT := Seg.hid ht
  have HN := Seg.hid hnl
  clear ha ht hnl
  go_enter Try.func39, Try.ntmps39
  go_wp2
  go_loopw [1, 11] (fun a i wr => ∃ (k : Nat) (x : Int), k ≤ n ∧ a = .int .i64 x ∧ i = .int .i64 k ∧ Hid (terms hi x (cs.drop k) = t ∧ Below w.heap.size w wr)) (fun _ i _ => n - (intOf i).toNat)
  case atStart => exact ⟨0, lo, Nat.zero_le _, rfl, rfl, HT.out, Below.refl _ _⟩
  case round =>
    obtain ⟨k, x, hk, rfl, rfl, HB⟩ := hrel
    by_cases hlt : k < n
    · have c0 : wr.cell? ⟨g, o + k * 2, none⟩ = some (.int .i64 (cs.getD k default).term) := by rw [HB.out.2.cell (p := ⟨g, o + k * 2, none⟩) hg]; exact (HA.out k hlt).1
      have c1 : wr.cell? ⟨g, o + k * 2 + 1, none⟩ = some (.string (cs.getD k default).text) := by rw [HB.out.2.cell (p := ⟨g, o + k * 2 + 1, none⟩) hg]; exact (HA.out k hlt).2
      have h0 : (0 : Int) ≤ (k : Int) := by omega
      have h1 : (k : Int) < (n : Int) := by omega
      have HD := HB.out.1
      rw [drop_cons (by rw [HN.out]; exact hlt)] at HD
      generalize cs.getD k default = ck at *
      have HD' := Seg.hid HD
      clear HD
      go_wp2_with fail
      cases hb : inR x ck.term hi with
      | false =>
        refine (InB.within_b _ _ _ false hb _).mono ?_
        rintro e w1 ⟨rfl, rfl⟩
        go_wp2
        go_ret
        exact ⟨Seg.ret_bool (by have := HD'.out; simp only [terms, hb, Bool.false_and] at this; exact this), HB.out.2.alloc HB.out.2.size _⟩
      | true =>
        refine (InB.within_b _ _ _ true hb _).mono ?_
        rintro e w1 ⟨rfl, rfl⟩
        go_wp2
        go_roundw
        case rel => exact ⟨k + 1, ck.term, by omega, rfl, by go_num, by have := HD'.out; simp only [terms, hb, Bool.true_and] at this; exact this, HB.out.2.alloc HB.out.2.size _⟩
        case measure => simp [intOf]; omega
    · have hk' : k = n := by omega
      have HE := HB.out.1
      rw [List.drop_eq_nil_of_le (by rw [HN.out]; omega)] at HE
      have HE' := Seg.hid HE
      clear HE
      go_wp2
      go_ret
      exact ⟨Seg.ret_bool HE'.out, HB.out.2⟩
theorem terms_none (A : Option Addr) (c : Nat) (lo hi : Int) (w : World) : Calls Try.prog 39 #[.slice A 0 c, .int .i64 lo, .int .i64 hi] w fun e w' => e = .returned (.bool true) ∧ Below w.heap.size w w' := by
  go_enter Try.func39, Try.ntmps39
  go_wp2
  go_loop [1, 11] (fun a i => a = .int .i64 lo ∧ i = .int .i64 0) (fun _ _ => 0)
  case atStart => exact ⟨rfl, rfl⟩
  case round =>
    obtain ⟨rfl, rfl⟩ := hrel
    go_wp2
    go_ret
    exact ⟨rfl, Below.refl _ _⟩
theorem terms_any (v : Value) (cs : List Cmd) (lo hi : Int) (t : Bool) (w : World) (S : Nat → Prop) (hv : LAt 2 ECmd w S v cs) (hS : ∀ g, S g → g < w.heap.size) (ht : terms hi lo cs = t) :
    Calls Try.prog 39 #[v, .int .i64 lo, .int .i64 hi] w fun e w' => e = .returned (.bool t) ∧ Below w.heap.size w w' := by
  obtain ⟨hn, A, c, rfl, h⟩ := hv
  by_cases hz : cs.length = 0
  · obtain rfl := List.length_eq_zero_iff.1 hz
    subst ht
    exact terms_none A c lo hi w
  obtain ⟨g, o, F, rfl, hg, hc, hcell, hel⟩ := h.resolve_left hz
  exact terms_core g o c cs.length cs lo hi t w hn hc (hS g hg) rfl ht (cmd_cells hcell hel)
end Go.Proofs.Ytdkfhjcockkleaa.QkI
