/- Charge of the model. -/
import Derived.Test.YtmkkdladgoilmaaChP
import Derived.Test.YtmkkdladgoilmaaInB
import Derived.Test.YtmkkdladgoilmaaR3
namespace Go.Proofs.Ytmkkdladgoilmaa.ChS
set_option maxRecDepth 8000
open Go.RowKit
open Ls Lp ChP
open Recs (hsz below1 below2 chain)
set_option linter.unusedVariables false
theorem least_any (a b : Int) (w : World) : Calls Try.prog 17 #[.int .i64 a, .int .i64 b] w fun e w' => e = .returned (.int .i64 (least a b)) ∧ w = w' := by
  by_cases h : a < b
  · have Z : Hid (least a b = a) := by show _ = _; simp [least, h]
    go_enter Try.func17, Try.ntmps17
    go_wp2
    go_ret
    exact ⟨by rw [Z.out]; rfl, rfl⟩
  · have Z : Hid (least a b = b) := by show _ = _; simp [least, h]
    go_enter Try.func17, Try.ntmps17
    go_wp2
    go_ret
    exact ⟨by rw [Z.out]; rfl, rfl⟩
theorem two (w : World) (a b : Obj) : ((w.alloc a).alloc b).heap[w.heap.size + 1]? = some b := by
  have := heap_alloc_new (w.alloc a) b
  rwa [hsz] at this
set_option maxHeartbeats 6400000 in
theorem spec_any (b : Bkt) (now units : Int) (w : World) :
    Calls Try.prog 7 #[.agg #[.int .i64 b.rate, .int .i64 b.burst, .int .i64 b.level, .int .i64 b.time], .int .i64 now, .int .i64 units] w fun e w' => e = .returned (ans b now units) ∧ Below w.heap.size w w' := by
  cases h0 : inR 1 b.rate 1000000 with
  | false =>
    have Z : Hid (fine b now units = false) := by show _ = _; simp [fine, ok, h0]
    have K0 : Hid (∀ wx, Calls Try.prog 16 #[.int .i64 b.rate, .int .i64 1, .int .i64 1000000] wx fun e w' => e = .returned (.bool false) ∧ wx = w') := fun wx => InB.l1In_b _ _ _ _ h0 wx
    clear h0
    go_enter Try.func7, Try.ntmps7
    go_wp2_with (first | (go_at_call 16; (with_reducible refine (K0.out _).mono ?_); rintro e w' ⟨rfl, rfl⟩))
    exact bodyPost_ret (v := .tuple #[.agg #[.int .i64 0, .int .i64 0, .int .i64 0, .int .i64 0], .int .i64 0, .bool false]) (R3.results_row_tmp2 rfl _ _ (w.heap.size + 1) 25 #[.int .i64 0, .int .i64 0, .int .i64 0, .int .i64 0] (0, 0) _ _ _ rfl rfl rfl (two _ _ _) Try.underlying25 rfl infoBkt) rfl ⟨by rw [ans_no Z.out], below2 _ _ _⟩
  | true =>
  cases h1 : inR 0 b.burst 1000000 with
  | false =>
    have Z : Hid (fine b now units = false) := by show _ = _; simp [fine, ok, h0, h1]
    have K0 : Hid (∀ wx, Calls Try.prog 16 #[.int .i64 b.rate, .int .i64 1, .int .i64 1000000] wx fun e w' => e = .returned (.bool true) ∧ wx = w') := fun wx => InB.l1In_b _ _ _ _ h0 wx
    have K1 : Hid (∀ wx, Calls Try.prog 16 #[.int .i64 b.burst, .int .i64 0, .int .i64 1000000] wx fun e w' => e = .returned (.bool false) ∧ wx = w') := fun wx => InB.l1In_b _ _ _ _ h1 wx
    clear h0 h1
    go_enter Try.func7, Try.ntmps7
    go_wp2_with (first | (go_at_call 16; (with_reducible refine (K0.out _).mono ?_); rintro e w' ⟨rfl, rfl⟩) | (go_at_call 16; (with_reducible refine (K1.out _).mono ?_); rintro e w' ⟨rfl, rfl⟩))
    exact bodyPost_ret (v := .tuple #[.agg #[.int .i64 0, .int .i64 0, .int .i64 0, .int .i64 0], .int .i64 0, .bool false]) (R3.results_row_tmp2 rfl _ _ (w.heap.size + 1) 25 #[.int .i64 0, .int .i64 0, .int .i64 0, .int .i64 0] (0, 0) _ _ _ rfl rfl rfl (two _ _ _) Try.underlying25 rfl infoBkt) rfl ⟨by rw [ans_no Z.out], below2 _ _ _⟩
  | true =>
  cases h2 : inR (-1000000000000) b.level b.burst with
  | false =>
    have Z : Hid (fine b now units = false) := by show _ = _; simp [fine, ok, h0, h1, h2]
    have K0 : Hid (∀ wx, Calls Try.prog 16 #[.int .i64 b.rate, .int .i64 1, .int .i64 1000000] wx fun e w' => e = .returned (.bool true) ∧ wx = w') := fun wx => InB.l1In_b _ _ _ _ h0 wx
    have K1 : Hid (∀ wx, Calls Try.prog 16 #[.int .i64 b.burst, .int .i64 0, .int .i64 1000000] wx fun e w' => e = .returned (.bool true) ∧ wx = w') := fun wx => InB.l1In_b _ _ _ _ h1 wx
    have K2 : Hid (∀ wx, Calls Try.prog 16 #[.int .i64 b.level, .int .i64 (-1000000000000), .int .i64 b.burst] wx fun e w' => e = .returned (.bool false) ∧ wx = w') := fun wx => InB.l1In_b _ _ _ _ h2 wx
    clear h0 h1 h2
    go_enter Try.func7, Try.ntmps7
    go_wp2_with (first | (go_at_call 16; (with_reducible refine (K0.out _).mono ?_); rintro e w' ⟨rfl, rfl⟩) | (go_at_call 16; (with_reducible refine (K1.out _).mono ?_); rintro e w' ⟨rfl, rfl⟩) | (go_at_call 16; (with_reducible refine (K2.out _).mono ?_); rintro e w' ⟨rfl, rfl⟩))
    exact bodyPost_ret (v := .tuple #[.agg #[.int .i64 0, .int .i64 0, .int .i64 0, .int .i64 0], .int .i64 0, .bool false]) (R3.results_row_tmp2 rfl _ _ (w.heap.size + 1) 25 #[.int .i64 0, .int .i64 0, .int .i64 0, .int .i64 0] (0, 0) _ _ _ rfl rfl rfl (two _ _ _) Try.underlying25 rfl infoBkt) rfl ⟨by rw [ans_no Z.out], below2 _ _ _⟩
  | true =>
  cases h3 : inR 0 b.time 1000000000000 with
  | false =>
    have Z : Hid (fine b now units = false) := by show _ = _; simp [fine, ok, h0, h1, h2, h3]
    have K0 : Hid (∀ wx, Calls Try.prog 16 #[.int .i64 b.rate, .int .i64 1, .int .i64 1000000] wx fun e w' => e = .returned (.bool true) ∧ wx = w') := fun wx => InB.l1In_b _ _ _ _ h0 wx
    have K1 : Hid (∀ wx, Calls Try.prog 16 #[.int .i64 b.burst, .int .i64 0, .int .i64 1000000] wx fun e w' => e = .returned (.bool true) ∧ wx = w') := fun wx => InB.l1In_b _ _ _ _ h1 wx
    have K2 : Hid (∀ wx, Calls Try.prog 16 #[.int .i64 b.level, .int .i64 (-1000000000000), .int .i64 b.burst] wx fun e w' => e = .returned (.bool true) ∧ wx = w') := fun wx => InB.l1In_b _ _ _ _ h2 wx
    have K3 : Hid (∀ wx, Calls Try.prog 16 #[.int .i64 b.time, .int .i64 0, .int .i64 1000000000000] wx fun e w' => e = .returned (.bool false) ∧ wx = w') := fun wx => InB.l1In_b _ _ _ _ h3 wx
    clear h0 h1 h2 h3
    go_enter Try.func7, Try.ntmps7
    go_wp2_with (first | (go_at_call 16; (with_reducible refine (K0.out _).mono ?_); rintro e w' ⟨rfl, rfl⟩) | (go_at_call 16; (with_reducible refine (K1.out _).mono ?_); rintro e w' ⟨rfl, rfl⟩) | (go_at_call 16; (with_reducible refine (K2.out _).mono ?_); rintro e w' ⟨rfl, rfl⟩) | (go_at_call 16; (with_reducible refine (K3.out _).mono ?_); rintro e w' ⟨rfl, rfl⟩))
    exact bodyPost_ret (v := .tuple #[.agg #[.int .i64 0, .int .i64 0, .int .i64 0, .int .i64 0], .int .i64 0, .bool false]) (R3.results_row_tmp2 rfl _ _ (w.heap.size + 1) 25 #[.int .i64 0, .int .i64 0, .int .i64 0, .int .i64 0] (0, 0) _ _ _ rfl rfl rfl (two _ _ _) Try.underlying25 rfl infoBkt) rfl ⟨by rw [ans_no Z.out], below2 _ _ _⟩
  | true =>
  cases h4 : inR b.time now 1000000000000 with
  | false =>
    have Z : Hid (fine b now units = false) := by show _ = _; simp [fine, ok, h0, h1, h2, h3, h4]
    have K0 : Hid (∀ wx, Calls Try.prog 16 #[.int .i64 b.rate, .int .i64 1, .int .i64 1000000] wx fun e w' => e = .returned (.bool true) ∧ wx = w') := fun wx => InB.l1In_b _ _ _ _ h0 wx
    have K1 : Hid (∀ wx, Calls Try.prog 16 #[.int .i64 b.burst, .int .i64 0, .int .i64 1000000] wx fun e w' => e = .returned (.bool true) ∧ wx = w') := fun wx => InB.l1In_b _ _ _ _ h1 wx
    have K2 : Hid (∀ wx, Calls Try.prog 16 #[.int .i64 b.level, .int .i64 (-1000000000000), .int .i64 b.burst] wx fun e w' => e = .returned (.bool true) ∧ wx = w') := fun wx => InB.l1In_b _ _ _ _ h2 wx
    have K3 : Hid (∀ wx, Calls Try.prog 16 #[.int .i64 b.time, .int .i64 0, .int .i64 1000000000000] wx fun e w' => e = .returned (.bool true) ∧ wx = w') := fun wx => InB.l1In_b _ _ _ _ h3 wx
    have K4 : Hid (∀ wx, Calls Try.prog 16 #[.int .i64 now, .int .i64 b.time, .int .i64 1000000000000] wx fun e w' => e = .returned (.bool false) ∧ wx = w') := fun wx => InB.l1In_b _ _ _ _ h4 wx
    clear h0 h1 h2 h3 h4
    go_enter Try.func7, Try.ntmps7
    go_wp2_with (first | (go_at_call 16; (with_reducible refine (K0.out _).mono ?_); rintro e w' ⟨rfl, rfl⟩) | (go_at_call 16; (with_reducible refine (K1.out _).mono ?_); rintro e w' ⟨rfl, rfl⟩) | (go_at_call 16; (with_reducible refine (K2.out _).mono ?_); rintro e w' ⟨rfl, rfl⟩) | (go_at_call 16; (with_reducible refine (K3.out _).mono ?_); rintro e w' ⟨rfl, rfl⟩) | (go_at_call 16; (with_reducible refine (K4.out _).mono ?_); rintro e w' ⟨rfl, rfl⟩))
    exact bodyPost_ret (v := .tuple #[.agg #[.int .i64 0, .int .i64 0, .int .i64 0, .int .i64 0], .int .i64 0, .bool false]) (R3.results_row_tmp2 rfl _ _ (w.heap.size + 1) 25 #[.int .i64 0, .int .i64 0, .int .i64 0, .int .i64 0] (0, 0) _ _ _ rfl rfl rfl (two _ _ _) Try.underlying25 rfl infoBkt) rfl ⟨by rw [ans_no Z.out], below2 _ _ _⟩
  | true =>
  cases h5 : inR 0 units 1000000 with
  | false =>
    have Z : Hid (fine b now units = false) := by show _ = _; simp [fine, ok, h0, h1, h2, h3, h4, h5]
    have K0 : Hid (∀ wx, Calls Try.prog 16 #[.int .i64 b.rate, .int .i64 1, .int .i64 1000000] wx fun e w' => e = .returned (.bool true) ∧ wx = w') := fun wx => InB.l1In_b _ _ _ _ h0 wx
    have K1 : Hid (∀ wx, Calls Try.prog 16 #[.int .i64 b.burst, .int .i64 0, .int .i64 1000000] wx fun e w' => e = .returned (.bool true) ∧ wx = w') := fun wx => InB.l1In_b _ _ _ _ h1 wx
    have K2 : Hid (∀ wx, Calls Try.prog 16 #[.int .i64 b.level, .int .i64 (-1000000000000), .int .i64 b.burst] wx fun e w' => e = .returned (.bool true) ∧ wx = w') := fun wx => InB.l1In_b _ _ _ _ h2 wx
    have K3 : Hid (∀ wx, Calls Try.prog 16 #[.int .i64 b.time, .int .i64 0, .int .i64 1000000000000] wx fun e w' => e = .returned (.bool true) ∧ wx = w') := fun wx => InB.l1In_b _ _ _ _ h3 wx
    have K4 : Hid (∀ wx, Calls Try.prog 16 #[.int .i64 now, .int .i64 b.time, .int .i64 1000000000000] wx fun e w' => e = .returned (.bool true) ∧ wx = w') := fun wx => InB.l1In_b _ _ _ _ h4 wx
    have K5 : Hid (∀ wx, Calls Try.prog 16 #[.int .i64 units, .int .i64 0, .int .i64 1000000] wx fun e w' => e = .returned (.bool false) ∧ wx = w') := fun wx => InB.l1In_b _ _ _ _ h5 wx
    clear h0 h1 h2 h3 h4 h5
    go_enter Try.func7, Try.ntmps7
    go_wp2_with (first | (go_at_call 16; (with_reducible refine (K0.out _).mono ?_); rintro e w' ⟨rfl, rfl⟩) | (go_at_call 16; (with_reducible refine (K1.out _).mono ?_); rintro e w' ⟨rfl, rfl⟩) | (go_at_call 16; (with_reducible refine (K2.out _).mono ?_); rintro e w' ⟨rfl, rfl⟩) | (go_at_call 16; (with_reducible refine (K3.out _).mono ?_); rintro e w' ⟨rfl, rfl⟩) | (go_at_call 16; (with_reducible refine (K4.out _).mono ?_); rintro e w' ⟨rfl, rfl⟩) | (go_at_call 16; (with_reducible refine (K5.out _).mono ?_); rintro e w' ⟨rfl, rfl⟩))
    exact bodyPost_ret (v := .tuple #[.agg #[.int .i64 0, .int .i64 0, .int .i64 0, .int .i64 0], .int .i64 0, .bool false]) (R3.results_row_tmp2 rfl _ _ (w.heap.size + 1) 25 #[.int .i64 0, .int .i64 0, .int .i64 0, .int .i64 0] (0, 0) _ _ _ rfl rfl rfl (two _ _ _) Try.underlying25 rfl infoBkt) rfl ⟨by rw [ans_no Z.out], below2 _ _ _⟩
  | true =>
  have OK : Hid (ok b now units = true) := by show _ = _; simp [ok, h0, h1, h2, h3, h4, h5]
  have K0 : Hid (∀ wx, Calls Try.prog 16 #[.int .i64 b.rate, .int .i64 1, .int .i64 1000000] wx fun e w' => e = .returned (.bool true) ∧ wx = w') := fun wx => InB.l1In_b _ _ _ _ h0 wx
  have K1 : Hid (∀ wx, Calls Try.prog 16 #[.int .i64 b.burst, .int .i64 0, .int .i64 1000000] wx fun e w' => e = .returned (.bool true) ∧ wx = w') := fun wx => InB.l1In_b _ _ _ _ h1 wx
  have K2 : Hid (∀ wx, Calls Try.prog 16 #[.int .i64 b.level, .int .i64 (-1000000000000), .int .i64 b.burst] wx fun e w' => e = .returned (.bool true) ∧ wx = w') := fun wx => InB.l1In_b _ _ _ _ h2 wx
  have K3 : Hid (∀ wx, Calls Try.prog 16 #[.int .i64 b.time, .int .i64 0, .int .i64 1000000000000] wx fun e w' => e = .returned (.bool true) ∧ wx = w') := fun wx => InB.l1In_b _ _ _ _ h3 wx
  have K4 : Hid (∀ wx, Calls Try.prog 16 #[.int .i64 now, .int .i64 b.time, .int .i64 1000000000000] wx fun e w' => e = .returned (.bool true) ∧ wx = w') := fun wx => InB.l1In_b _ _ _ _ h4 wx
  have K5 : Hid (∀ wx, Calls Try.prog 16 #[.int .i64 units, .int .i64 0, .int .i64 1000000] wx fun e w' => e = .returned (.bool true) ∧ wx = w') := fun wx => InB.l1In_b _ _ _ _ h5 wx
  clear h0 h1 h2 h3 h4 h5
  obtain ⟨d, N⟩ := nu OK.out
  have NU := Seg.hid N
  have r0 := N.r0; have r1 := N.r1
  have w1 : IntKind.i64.wrap (now - b.time) = now - b.time := by have := N.t0; have := N.n0; have := N.n1; rw [IntKind.wrap_i64] <;> omega
  have hd := N.hd
  have w2 : IntKind.i64.wrap d = d := by have := N.d0; have := N.d1; rw [IntKind.wrap_i64] <;> omega
  have w3 : IntKind.i64.wrap (b.level + d) = b.level + d := by have := N.d0; have := N.d1; have := N.l0; have := N.l1; have := N.u1; rw [IntKind.wrap_i64] <;> omega
  obtain ⟨q, hq⟩ : ∃ q, least (b.level + d) b.burst = q := ⟨_, rfl⟩
  have q0 : -1000000000000 ≤ q ∧ q ≤ 1000000 := by have := N.d0; have := N.l0; have := N.u0; have := N.u1; have := N.l1; rw [← hq]; unfold least; split <;> omega
  have w4 : IntKind.i64.wrap (q - units) = q - units := by have := N.s0; have := N.s1; rw [IntKind.wrap_i64] <;> omega
  have LV : Hid (lev b now units = q - units) := by show _ = _; unfold lev; rw [hd, hq]
  have HQ := Seg.hid hq
  have s01 : 0 ≤ units ∧ units ≤ 1000000 := ⟨N.s0, N.s1⟩
  clear N hq
  go_enter Try.func7, Try.ntmps7
  go_upto_region 4 with (first | (go_at_call 16; (with_reducible refine (K0.out _).mono ?_); rintro e w' ⟨rfl, rfl⟩) | (go_at_call 16; (with_reducible refine (K1.out _).mono ?_); rintro e w' ⟨rfl, rfl⟩) | (go_at_call 16; (with_reducible refine (K2.out _).mono ?_); rintro e w' ⟨rfl, rfl⟩) | (go_at_call 16; (with_reducible refine (K3.out _).mono ?_); rintro e w' ⟨rfl, rfl⟩) | (go_at_call 16; (with_reducible refine (K4.out _).mono ?_); rintro e w' ⟨rfl, rfl⟩) | (go_at_call 16; (with_reducible refine (K5.out _).mono ?_); rintro e w' ⟨rfl, rfl⟩) | (go_at_call 17; refine (least_any _ _ _).mono ?_; rintro e w' ⟨rfl, rfl⟩))
  obtain ⟨lv, hlv⟩ : ∃ lv, q - units = lv := ⟨_, rfl⟩
  rw [HQ.out, show wrap64 (q - units) = lv by unfold wrap64; omega]
  have hL : Hid (lev b now units = lv) := LV.out.trans hlv
  have b0 : -1000001000000 ≤ lv ∧ lv ≤ 1000000 := by omega
  clear w1 w2 w3 w4 hd LV HQ hlv q0 s01
  by_cases c1 : lv < -1000000000000
  · have Z : Hid (fine b now units = false) := by show _ = _; simp only [fine, hL.out, Bool.and_eq_false_iff]; exact .inr (decide_eq_false (by omega))
    go_wp2
    exact bodyPost_ret (v := .tuple #[.agg #[.int .i64 0, .int .i64 0, .int .i64 0, .int .i64 0], .int .i64 0, .bool false]) (R3.results_row_tmp2 rfl _ _ (w.heap.size + 1) 25 #[.int .i64 0, .int .i64 0, .int .i64 0, .int .i64 0] (0, 0) _ _ _ rfl rfl rfl (two _ _ _) Try.underlying25 rfl infoBkt) rfl ⟨by rw [ans_no Z.out], below2 _ _ _⟩
  have Z : Hid (fine b now units = true) := by show _ = _; simp only [fine, hL.out, OK.out, Bool.true_and]; exact decide_eq_true (by omega)
  by_cases c2 : lv < 0
  · have x1 : IntKind.i64.wrap (-lv) = -lv := by rw [IntKind.wrap_i64] <;> omega
    have x2 : IntKind.i64.wrap (-lv + b.rate) = -lv + b.rate := by rw [IntKind.wrap_i64] <;> omega
    have x3 : IntKind.i64.wrap (-lv + b.rate - 1) = -lv + b.rate - 1 := by rw [IntKind.wrap_i64] <;> omega
    have x4 : ¬ b.rate = 0 := by omega
    have x5 : (b.rate == 0) = false := by simp [x4]
    have WT : Hid (wait lv b.rate = (-lv + b.rate - 1) / b.rate) := by show _ = _; simp [wait, c2]
    go_wp2
    exact bodyPost_ret (v := .tuple #[.agg #[.int .i64 b.rate, .int .i64 b.burst, .int .i64 lv, .int .i64 now], .int .i64 ((-lv + b.rate - 1) / b.rate), .bool true]) (R3.results_row_tmp2 rfl _ _ (w.heap.size + 1) 25 #[.int .i64 b.rate, .int .i64 b.burst, .int .i64 lv, .int .i64 now] (0, 0) _ _ _ rfl rfl rfl (two _ _ _) Try.underlying25 rfl infoBkt) rfl ⟨by rw [ans_yes Z.out, hL.out, WT.out], below2 _ _ _⟩
  · have WT : Hid (wait lv b.rate = 0) := by show _ = _; simp [wait, c2]
    go_wp2
    exact bodyPost_ret (v := .tuple #[.agg #[.int .i64 b.rate, .int .i64 b.burst, .int .i64 lv, .int .i64 now], .int .i64 0, .bool true]) (R3.results_row_tmp2 rfl _ _ (w.heap.size + 1) 25 #[.int .i64 b.rate, .int .i64 b.burst, .int .i64 lv, .int .i64 now] (0, 0) _ _ _ rfl rfl rfl (two _ _ _) Try.underlying25 rfl infoBkt) rfl ⟨by rw [ans_yes Z.out, hL.out, WT.out], below2 _ _ _⟩
end Go.Proofs.Ytmkkdladgoilmaa.ChS
