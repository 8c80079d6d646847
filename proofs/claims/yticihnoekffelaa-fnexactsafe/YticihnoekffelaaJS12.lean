/- The program's askers of a log's numbers; The program's search for an offset among Segments and among Batches; The search by halves. -/
import Derived.BigQuiet
import Derived.Laws.BitsLemmas
import Derived.Deep.RegionHeld3
import Derived.Test.YticihnoekffelaaJS10
import Derived.Test.YticihnoekffelaaJS11
namespace Go.Proofs.Yticihnoekffelaa.LgI
set_option maxRecDepth 8000
open Go.RowKit
open InB (l1In_b within_b)
open LgP (inR)
open Recs (hsz below1 below2 BatAt RecsAt batVal Bat chain)
set_option linter.unusedVariables false
/-- A log's three numbers, as the program asks them. -/
theorem bounds_any (a b c : Int) (v : Value) (t : Bool) (ht : (inR b 0 1000000000 && (inR a 0 b && inR c 1 20000)) = t) (w : World) : Calls Try.prog 53 #[.agg #[.int .i64 a, .int .i64 b, .int .i64 c, v]] w fun e w' => e = .returned (.bool t) ∧ Below w.heap.size w w' := by
  subst ht
  cases h1 : inR b 0 1000000000 with
  | false =>
    have H1 := Seg.hid h1
    go_enter Try.func53, Try.ntmps53
    go_wp2_with fail
    refine (within_b b 0 1000000000 false H1.out _).mono ?_
    rintro _ _ ⟨rfl, rfl⟩
    go_wp2
    go_ret
    exact ⟨rfl, Recs.below1 _ _⟩
  | true =>
    cases h2 : inR a 0 b with
    | false =>
      have H1 := Seg.hid h1
      have H2 := Seg.hid h2
      go_enter Try.func53, Try.ntmps53
      go_wp2_with fail
      refine (within_b b 0 1000000000 true H1.out _).mono ?_
      rintro _ _ ⟨rfl, rfl⟩
      go_wp2_with fail
      refine (within_b a 0 b false H2.out _).mono ?_
      rintro _ _ ⟨rfl, rfl⟩
      go_wp2
      go_ret
      exact ⟨rfl, Recs.below1 _ _⟩
    | true =>
      have H1 := Seg.hid h1
      have H2 := Seg.hid h2
      go_enter Try.func53, Try.ntmps53
      go_wp2_with fail
      refine (within_b b 0 1000000000 true H1.out _).mono ?_
      rintro _ _ ⟨rfl, rfl⟩
      go_wp2_with fail
      refine (within_b a 0 b true H2.out _).mono ?_
      rintro _ _ ⟨rfl, rfl⟩
      go_wp2_with fail
      refine (within_b c 1 20000 (inR c 1 20000) rfl _).mono ?_
      rintro _ _ ⟨rfl, rfl⟩
      go_wp2
      go_ret
      exact ⟨rfl, Recs.below1 _ _⟩

theorem behind_any (v : Value) (t : Bat) (w : World) (lo b : Nat) (hv : BatAt w lo b v t) (hok : BOk.batOk t = true) :
    Calls Try.prog 56 #[v] w fun e w' => e = .returned (.int .i64 (t.base + t.recs.length)) ∧ Below w.heap.size w w' := by
  obtain ⟨rv, rfl, H, ⟨hn, A, c, rfl, hx1⟩, hx2⟩ := hv
  have hl := LgP.okLen hok
  clear hx1 hx2
  unfold batVal
  go_enter Try.func56, Try.ntmps56
  go_wp2
  go_ret
  exact ⟨rfl, below1 _ _⟩
end Go.Proofs.Yticihnoekffelaa.LgI
namespace Go.Proofs.Yticihnoekffelaa.SrW
set_option maxRecDepth 8000
open Go.RowKit
open Recs (hsz below1 below2 chain chainD BatAt RecsAt)
open Bats SegW Segs LogW SrP
set_option linter.unusedVariables false
set_option maxHeartbeats 800000 in
theorem ask_seg (A : Option Addr) (c h1 h2 i : Nat) (x : Int) (ss : List Sg) (w : World) (lo b : Nat) (hv : SegsAt w lo b (.slice A ss.length c) ss) (hb : b ≤ w.heap.size) (hi : i < ss.length) (hl : (ss.getD i default).bats.length ≤ 1048576) (hok : ∀ k, k < (ss.getD i default).bats.length → BOk.batOk ((ss.getD i default).bats.getD k default) = true)
    (hn : ss.length ≤ 1048576) (c1 : w.cell? ⟨h1, 0, none⟩ = some (.slice A ss.length c)) (c2 : w.cell? ⟨h2, 0, none⟩ = some (.int .i64 x)) (l1 : h1 < w.heap.size) (l2 : h2 < w.heap.size) :
    Calls Try.prog 58 #[.int .i64 i, .pointer (some ⟨h1, 0, none⟩), .pointer (some ⟨h2, 0, none⟩)] w fun e w' => e = .returned (.bool (pS x (ss.getD i default))) ∧ Below w.heap.size w w' := by
  obtain ⟨H, ⟨_, A', c', hsl, hrow⟩, hh⟩ := hv
  simp only [Value.slice.injEq] at hsl
  obtain ⟨rfl, _, rfl⟩ := hsl
  obtain ⟨g, o, rfl, hg, hc, hcell, _⟩ := hrow.resolve_left (by omega)
  obtain ⟨e0, e1⟩ := Segs.six hcell i hi
  have HI := Seg.hid (hh i hi)
  have HOK := Seg.hid hok
  clear hcell hh hrow hok
  have q0 : (0 : Int) ≤ (i : Int) := by omega
  have q1 : (i : Int) < (ss.length : Int) := by omega
  generalize ss.getD i default = s at *
  obtain ⟨K, ⟨_, Ah, ch, hHj, hrow2⟩, hk⟩ := HI.out
  rw [hHj] at e1
  have HR2 := Seg.hid hrow2; have HK := Seg.hid hk
  clear hHj hrow2 hk
  by_cases hz : s.bats.length = 0
  · rw [hz] at e1
    have HP : Hid (pS x s = true) := by show _ = _; simp [pS, hz]
    clear hz
    go_enter Try.func58, Try.ntmps58
    go_wp2_with fail
    go_quiet (fail)
    go_wp2
    go_ret
    exact ⟨by rw [HP.out]; rfl, below_drewN (Below.refl _ _) _⟩
  · obtain ⟨g2, o2, rfl, hg2, hc2, hcell2, _⟩ := HR2.out.resolve_left hz
    have hz1 : decide ((s.bats.length : Int) = 0) = false := decide_eq_false (by omega)
    have hz2 : ((s.bats.length : Int) == 0) = false := beq_false_of_ne (by omega)
    have z0 : (0 : Int) ≤ (s.bats.length : Int) - 1 := by omega
    have z1 : (s.bats.length : Int) - 1 < (s.bats.length : Int) := by omega
    have z2 : (1 : Int) ≤ (s.bats.length : Int) := by omega
    have z3 : 0 < s.bats.length := by omega
    have z4 : s.bats.length - 1 < s.bats.length := by omega
    have zw : IntKind.i64.wrap ((s.bats.length : Int) - 1) = (s.bats.length : Int) - 1 := by rw [IntKind.wrap_i64]; omega
    have DD := Bats.six hcell2 (s.bats.length - 1) (by omega)
    have HP : Hid (pS x s = decide (x < (s.bats.getD (s.bats.length - 1) default).base + (s.bats.getD (s.bats.length - 1) default).recs.length)) := by show _ = _; simp [pS, hz, sEnd, bEnd]
    have BA : Hid (BatAt w lo b (.agg (BatW.batArr (s.bats.getD (s.bats.length - 1) default) (K (s.bats.length - 1)))) (s.bats.getD (s.bats.length - 1) default)) := ⟨_, rfl, HK.out _ (by omega)⟩
    have OK1 := Seg.hid (HOK.out (s.bats.length - 1) (by omega))
    obtain ⟨_, ⟨_, A3, c3, hK3, _⟩, _⟩ := HK.out (s.bats.length - 1) (by omega)
    obtain ⟨d0, d1, d2, d3, d4, d5, d6⟩ := DD
    rw [hK3] at d6 BA
    clear hK3 hcell2
    generalize s.bats.getD (s.bats.length - 1) default = t at *
    go_enter Try.func58, Try.ntmps58
    go_wp2_with fail
    have KW : Hid (∀ w', Below w.heap.size w w' → w'.cell? ⟨h2, 0, none⟩ = some (.int .i64 x) ∧ w'.cell? ⟨g2, o2 + (s.bats.length - 1) * 7, none⟩ = some (.int .i64 t.base) ∧ w'.cell? ⟨g2, o2 + (s.bats.length - 1) * 7 + 1, none⟩ = some (.int .i64 t.epoch) ∧ w'.cell? ⟨g2, o2 + (s.bats.length - 1) * 7 + 2, none⟩ = some (.int .i64 t.producer) ∧ w'.cell? ⟨g2, o2 + (s.bats.length - 1) * 7 + 3, none⟩ = some (.int .i64 t.turn) ∧ w'.cell? ⟨g2, o2 + (s.bats.length - 1) * 7 + 4, none⟩ = some (.int .i64 t.seq) ∧ w'.cell? ⟨g2, o2 + (s.bats.length - 1) * 7 + 5, none⟩ = some (.int .i64 t.flags) ∧ w'.cell? ⟨g2, o2 + (s.bats.length - 1) * 7 + 6, none⟩ = some (.slice A3 t.recs.length c3)) := fun w' bl => ⟨(bl.cell (p := ⟨h2, 0, none⟩) l2).trans c2, (bl.cell (p := ⟨g2, _, none⟩) (by show g2 < _; omega)).trans d0, (bl.cell (p := ⟨g2, _, none⟩) (by show g2 < _; omega)).trans d1, (bl.cell (p := ⟨g2, _, none⟩) (by show g2 < _; omega)).trans d2, (bl.cell (p := ⟨g2, _, none⟩) (by show g2 < _; omega)).trans d3, (bl.cell (p := ⟨g2, _, none⟩) (by show g2 < _; omega)).trans d4, (bl.cell (p := ⟨g2, _, none⟩) (by show g2 < _; omega)).trans d5, (bl.cell (p := ⟨g2, _, none⟩) (by show g2 < _; omega)).trans d6⟩
    go_region_held3 (fun w' => w'.cell? ⟨h2, 0, none⟩ = some (.int .i64 x) ∧ w'.cell? ⟨g2, o2 + (s.bats.length - 1) * 7, none⟩ = some (.int .i64 t.base) ∧ w'.cell? ⟨g2, o2 + (s.bats.length - 1) * 7 + 1, none⟩ = some (.int .i64 t.epoch) ∧ w'.cell? ⟨g2, o2 + (s.bats.length - 1) * 7 + 2, none⟩ = some (.int .i64 t.producer) ∧ w'.cell? ⟨g2, o2 + (s.bats.length - 1) * 7 + 3, none⟩ = some (.int .i64 t.turn) ∧ w'.cell? ⟨g2, o2 + (s.bats.length - 1) * 7 + 4, none⟩ = some (.int .i64 t.seq) ∧ w'.cell? ⟨g2, o2 + (s.bats.length - 1) * 7 + 5, none⟩ = some (.int .i64 t.flags) ∧ w'.cell? ⟨g2, o2 + (s.bats.length - 1) * 7 + 6, none⟩ = some (.slice A3 t.recs.length c3)) (first | go_keep | exact K1.out | exact KW.out _ (Below.refl _ _).drew)
      (first | (go_at_call 56; refine (LgI.behind_any _ t w.drew lo b BA.out OK1.out).mono ?_; rintro e w1 ⟨rfl, b1⟩; have B1 : Hid (Below w.heap.size w w1) := ⟨b1.os, b1.tape, b1.output, b1.size, b1.block⟩; have K1 := Seg.hid (KW.out w1 B1.out); clear b1))
    go_wp2
    go_ret
    exact ⟨by rw [HP.out]; rfl, B1.out⟩
set_option maxHeartbeats 800000 in
theorem ask_bat (A : Option Addr) (c h1 h2 i : Nat) (x : Int) (ts : List Recs.Bat) (w : World) (lo b : Nat) (hv : BatsAt w lo b (.slice A ts.length c) ts) (hb : b ≤ w.heap.size) (hi : i < ts.length) (hok : BOk.batOk (ts.getD i default) = true)
    (hn : ts.length ≤ 1048576) (c1 : w.cell? ⟨h1, 0, none⟩ = some (.slice A ts.length c)) (c2 : w.cell? ⟨h2, 0, none⟩ = some (.int .i64 x)) (l1 : h1 < w.heap.size) (l2 : h2 < w.heap.size) :
    Calls Try.prog 85 #[.int .i64 i, .pointer (some ⟨h1, 0, none⟩), .pointer (some ⟨h2, 0, none⟩)] w fun e w' => e = .returned (.bool (pB x (ts.getD i default))) ∧ Below w.heap.size w w' := by
  obtain ⟨H, ⟨_, A', c', hsl, hrow⟩, hh⟩ := hv
  simp only [Value.slice.injEq] at hsl
  obtain ⟨rfl, _, rfl⟩ := hsl
  obtain ⟨g, o, rfl, hg, hc, hcell, _⟩ := hrow.resolve_left (by omega)
  obtain ⟨d0, d1, d2, d3, d4, d5, d6⟩ := Bats.six hcell i hi
  have BA : Hid (BatAt w lo b (.agg (BatW.batArr (ts.getD i default) (H i))) (ts.getD i default)) := ⟨_, rfl, hh i hi⟩
  have OK1 := Seg.hid hok
  obtain ⟨_, ⟨_, A3, c3, hK3, _⟩, _⟩ := hh i hi
  rw [hK3] at d6 BA
  have HP : Hid (pB x (ts.getD i default) = decide (x < (ts.getD i default).base + (ts.getD i default).recs.length)) := rfl
  clear hcell hh hrow hok hK3
  have q0 : (0 : Int) ≤ (i : Int) := by omega
  have q1 : (i : Int) < (ts.length : Int) := by omega
  generalize ts.getD i default = t at *
  go_enter Try.func85, Try.ntmps85
  go_wp2_with fail
  go_region_with (go_at_call 56; refine (LgI.behind_any _ t w.drew lo b BA.out OK1.out).mono ?_; rintro e w1 ⟨rfl, b1⟩; have B1 : Hid (Below w.heap.size w w1) := ⟨b1.os, b1.tape, b1.output, b1.size, b1.block⟩; have c2' : w1.cell? ⟨h2, 0, none⟩ = some (.int .i64 x) := (B1.out.cell (p := ⟨h2, 0, none⟩) l2).trans c2; clear b1)
  all_goals
    go_wp2
    go_ret
    exact ⟨by rw [HP.out]; rfl, B1.out⟩

end Go.Proofs.Yticihnoekffelaa.SrW
namespace Go.Proofs.Yticihnoekffelaa.SrW
set_option maxRecDepth 8000
open Go.RowKit
open Recs (hsz below1 below2 chain chainD BatAt RecsAt)
open Bats SegW Segs LogW SrP
set_option linter.unusedVariables false
/-- The search by halves, over a question that stays yes once it is. -/
theorem found_step {p : Nat → Bool} {n i j : Nat} (h : i = j) (hj : j ≤ n) (h1 : ∀ x, x < i → p x = false) (h2 : ∀ x, j ≤ x → x < n → p x = true) : Fnd p n i := ⟨by omega, h1, fun hi => h2 i (by omega) hi⟩
set_option maxHeartbeats 800000 in
theorem search_seg (A : Option Addr) (c h1 h2 : Nat) (x : Int) (ss : List Sg) (w : World) (lo b : Nat) (hv : SegsAt w lo b (.slice A ss.length c) ss) (hb : b ≤ w.heap.size) (hl : ∀ i, i < ss.length → (ss.getD i default).bats.length ≤ 1048576) (hok : ∀ i, i < ss.length → ∀ k, k < (ss.getD i default).bats.length → BOk.batOk ((ss.getD i default).bats.getD k default) = true)
    (hm : ∀ i j, i ≤ j → j < ss.length → pS x (ss.getD i default) = true → pS x (ss.getD j default) = true)
    (hn : ss.length ≤ 1048576) (c1 : w.cell? ⟨h1, 0, none⟩ = some (.slice A ss.length c)) (c2 : w.cell? ⟨h2, 0, none⟩ = some (.int .i64 x)) (l1 : h1 < w.heap.size) (l2 : h2 < w.heap.size) :
    Calls Try.prog 57 #[.int .i64 ss.length, .func (.func 58) #[] #[.pointer (some ⟨h1, 0, none⟩), .pointer (some ⟨h2, 0, none⟩)]] w fun e w' => ∃ r : Nat, e = .returned (.int .i64 r) ∧ Fnd (fun i => pS x (ss.getD i default)) ss.length r ∧ Below w.heap.size w w' := by
  have ASK : Hid (∀ wr (i : Nat), Below w.heap.size w wr → i < ss.length → Calls Try.prog 58 #[.int .i64 i, .pointer (some ⟨h1, 0, none⟩), .pointer (some ⟨h2, 0, none⟩)] wr fun e w' => e = .returned (.bool (pS x (ss.getD i default))) ∧ Below wr.heap.size wr w') := fun wr i bl hi =>
    ask_seg A c h1 h2 i x ss wr lo b (hv.below (bl.mono hb)) (Nat.le_trans hb bl.size) hi (hl i hi) (hok i hi) hn ((bl.cell (p := ⟨h1, 0, none⟩) l1).trans c1) ((bl.cell (p := ⟨h2, 0, none⟩) l2).trans c2) (Nat.lt_of_lt_of_le l1 bl.size) (Nat.lt_of_lt_of_le l2 bl.size)
  have HM := Seg.hid hm
  clear hv hl hok hm c1 c2
  go_enter Try.func57, Try.ntmps57
  go_wp2_with fail
  go_loopw [5, 6] (fun vi vj wr => ∃ (i j : Nat), i ≤ j ∧ j ≤ ss.length ∧ vi = .int .i64 i ∧ vj = .int .i64 j ∧ Hid ((∀ y, y < i → pS x (ss.getD y default) = false) ∧ (∀ y, j ≤ y → y < ss.length → pS x (ss.getD y default) = true) ∧ Below w.heap.size w wr)) (fun vi vj _ => (intOf vj).toNat - (intOf vi).toNat)
  case atStart => exact ⟨0, ss.length, Nat.zero_le _, Nat.le_refl _, rfl, rfl, fun y hy => absurd hy (by omega), fun y hy hy2 => absurd hy (by omega), Below.refl _ _⟩
  case round =>
    obtain ⟨i, j, hij, hjn, rfl, rfl, HW⟩ := hrel
    by_cases hlt : i < j
    · have q0 : (i : Int) < (j : Int) := by omega
      go_wp2_with fail
      obtain ⟨m, hmd⟩ : ∃ m : Nat, ((i : Int) + (j : Int)) / 2 = (m : Int) := ⟨(i + j) / 2, by omega⟩
      have m1 : i ≤ m := by omega
      have m2 : m < j := by omega
      rw [hmd]
      clear hmd
      refine (ASK.out wr m HW.out.2.2 (by omega)).mono ?_
      rintro e w1 ⟨rfl, b1⟩
      have B1 := Seg.hid (chain HW.out.2.2 b1)
      clear b1
      cases hp : pS x (ss.getD m default) with
      | false =>
        have N1 : Hid (∀ y, y < m + 1 → pS x (ss.getD y default) = false) := fun y hy => by
          cases hq : pS x (ss.getD y default) with
          | false => rfl
          | true => rw [HM.out y m (by omega) (by omega) hq] at hp; cases hp
        clear hp
        go_wp2_with fail
        go_roundw
        case rel => exact ⟨m + 1, j, by omega, hjn, by go_num, rfl, N1.out, HW.out.2.1, B1.out⟩
        case measure => simp [intOf]; omega
      | true =>
        have N1 : Hid (∀ y, m ≤ y → y < ss.length → pS x (ss.getD y default) = true) := fun y hy hy2 => HM.out m y hy hy2 hp
        clear hp
        go_wp2_with fail
        go_roundw
        case rel => exact ⟨i, m, by omega, by omega, rfl, rfl, HW.out.1, N1.out, B1.out⟩
        case measure => simp [intOf]; omega
    · have hij' : i = j := by omega
      have FD := Seg.hid (found_step hij' hjn HW.out.1 HW.out.2.1)
      have BL := Seg.hid HW.out.2.2
      have q0 : ¬ (i : Int) < (j : Int) := by omega
      clear HW hij'
      go_wp2_with fail
      go_ret
      exact ⟨i, rfl, FD.out, BL.out⟩
set_option maxHeartbeats 800000 in
theorem search_bat (A : Option Addr) (c h1 h2 : Nat) (x : Int) (ss : List Recs.Bat) (w : World) (lo b : Nat) (hv : BatsAt w lo b (.slice A ss.length c) ss) (hb : b ≤ w.heap.size) (hok : ∀ i, i < ss.length → BOk.batOk (ss.getD i default) = true)
    (hm : ∀ i j, i ≤ j → j < ss.length → pB x (ss.getD i default) = true → pB x (ss.getD j default) = true)
    (hn : ss.length ≤ 1048576) (c1 : w.cell? ⟨h1, 0, none⟩ = some (.slice A ss.length c)) (c2 : w.cell? ⟨h2, 0, none⟩ = some (.int .i64 x)) (l1 : h1 < w.heap.size) (l2 : h2 < w.heap.size) :
    Calls Try.prog 57 #[.int .i64 ss.length, .func (.func 85) #[] #[.pointer (some ⟨h1, 0, none⟩), .pointer (some ⟨h2, 0, none⟩)]] w fun e w' => ∃ r : Nat, e = .returned (.int .i64 r) ∧ Fnd (fun i => pB x (ss.getD i default)) ss.length r ∧ Below w.heap.size w w' := by
  have ASK : Hid (∀ wr (i : Nat), Below w.heap.size w wr → i < ss.length → Calls Try.prog 85 #[.int .i64 i, .pointer (some ⟨h1, 0, none⟩), .pointer (some ⟨h2, 0, none⟩)] wr fun e w' => e = .returned (.bool (pB x (ss.getD i default))) ∧ Below wr.heap.size wr w') := fun wr i bl hi =>
    ask_bat A c h1 h2 i x ss wr lo b (hv.below (bl.mono hb)) (Nat.le_trans hb bl.size) hi (hok i hi) hn ((bl.cell (p := ⟨h1, 0, none⟩) l1).trans c1) ((bl.cell (p := ⟨h2, 0, none⟩) l2).trans c2) (Nat.lt_of_lt_of_le l1 bl.size) (Nat.lt_of_lt_of_le l2 bl.size)
  have HM := Seg.hid hm
  clear hv hok hm c1 c2
  go_enter Try.func57, Try.ntmps57
  go_wp2_with fail
  go_loopw [5, 6] (fun vi vj wr => ∃ (i j : Nat), i ≤ j ∧ j ≤ ss.length ∧ vi = .int .i64 i ∧ vj = .int .i64 j ∧ Hid ((∀ y, y < i → pB x (ss.getD y default) = false) ∧ (∀ y, j ≤ y → y < ss.length → pB x (ss.getD y default) = true) ∧ Below w.heap.size w wr)) (fun vi vj _ => (intOf vj).toNat - (intOf vi).toNat)
  case atStart => exact ⟨0, ss.length, Nat.zero_le _, Nat.le_refl _, rfl, rfl, fun y hy => absurd hy (by omega), fun y hy hy2 => absurd hy (by omega), Below.refl _ _⟩
  case round =>
    obtain ⟨i, j, hij, hjn, rfl, rfl, HW⟩ := hrel
    by_cases hlt : i < j
    · have q0 : (i : Int) < (j : Int) := by omega
      go_wp2_with fail
      obtain ⟨m, hmd⟩ : ∃ m : Nat, ((i : Int) + (j : Int)) / 2 = (m : Int) := ⟨(i + j) / 2, by omega⟩
      have m1 : i ≤ m := by omega
      have m2 : m < j := by omega
      rw [hmd]
      clear hmd
      refine (ASK.out wr m HW.out.2.2 (by omega)).mono ?_
      rintro e w1 ⟨rfl, b1⟩
      have B1 := Seg.hid (chain HW.out.2.2 b1)
      clear b1
      cases hp : pB x (ss.getD m default) with
      | false =>
        have N1 : Hid (∀ y, y < m + 1 → pB x (ss.getD y default) = false) := fun y hy => by
          cases hq : pB x (ss.getD y default) with
          | false => rfl
          | true => rw [HM.out y m (by omega) (by omega) hq] at hp; cases hp
        clear hp
        go_wp2_with fail
        go_roundw
        case rel => exact ⟨m + 1, j, by omega, hjn, by go_num, rfl, N1.out, HW.out.2.1, B1.out⟩
        case measure => simp [intOf]; omega
      | true =>
        have N1 : Hid (∀ y, m ≤ y → y < ss.length → pB x (ss.getD y default) = true) := fun y hy hy2 => HM.out m y hy hy2 hp
        clear hp
        go_wp2_with fail
        go_roundw
        case rel => exact ⟨i, m, by omega, by omega, rfl, rfl, HW.out.1, N1.out, B1.out⟩
        case measure => simp [intOf]; omega
    · have hij' : i = j := by omega
      have FD := Seg.hid (found_step hij' hjn HW.out.1 HW.out.2.1)
      have BL := Seg.hid HW.out.2.2
      have q0 : ¬ (i : Int) < (j : Int) := by omega
      clear HW hij'
      go_wp2_with fail
      go_ret
      exact ⟨i, rfl, FD.out, BL.out⟩

set_option maxHeartbeats 800000 in
theorem segmentAt_any (v : Value) (x : Int) (ss : List Sg) (w : World) (lo b : Nat) (hv : SegsAt w lo b v ss) (hb : b ≤ w.heap.size) (hl : ∀ i, i < ss.length → (ss.getD i default).bats.length ≤ 1048576) (hok : ∀ i, i < ss.length → ∀ k, k < (ss.getD i default).bats.length → BOk.batOk ((ss.getD i default).bats.getD k default) = true)
    (hm : ∀ i j, i ≤ j → j < ss.length → pS x (ss.getD i default) = true → pS x (ss.getD j default) = true) (hn : ss.length ≤ 1048576) :
    Calls Try.prog 28 #[v, .int .i64 x] w fun e w' => ∃ r : Nat, e = .returned (.int .i64 r) ∧ Fnd (fun i => pS x (ss.getD i default)) ss.length r ∧ Below w.heap.size w w' := by
  have HV := Seg.hid hv; have HL := Seg.hid hl; have HO := Seg.hid hok; have HM := Seg.hid hm
  obtain ⟨_, ⟨_, A, c, rfl, _⟩, _⟩ := id hv
  clear hv hl hok hm
  go_enter Try.func28, Try.ntmps28
  go_wp2_with fail
  refine (search_seg A c w.heap.size (w.heap.size + 1) x ss ((w.alloc _).alloc _) lo b (HV.out.below ((below2 w _ _).mono hb)) (by rw [hsz, hsz]; omega) HL.out HO.out HM.out hn (cell_of_row _ w.heap.size 0 #[.slice A ss.length c] _ (0, 0) ((heap_alloc_old _ _ (by rw [hsz]; omega)).trans (heap_alloc_new _ _))) (cell_of_row _ (w.heap.size + 1) 0 #[.int .i64 x] _ (0, 0) (by have := heap_alloc_new (w.alloc (.cells #[.slice A ss.length c] 26 (0, 0))) (.cells #[.int .i64 x] 3 (0, 0)); rw [hsz] at this; exact this)) (by rw [hsz, hsz]; omega) (by rw [hsz, hsz]; omega)).mono ?_
  rintro e w1 ⟨r, rfl, hF, b1⟩
  have F1 := Seg.hid hF
  have B1 := Seg.hid (chain (below2 w _ _) b1)
  clear hF b1
  go_wp2_with fail
  go_ret
  exact ⟨r, rfl, F1.out, B1.out⟩
set_option maxHeartbeats 800000 in
theorem batchAt_any (v : Value) (x : Int) (ss : List Recs.Bat) (w : World) (lo b : Nat) (hv : BatsAt w lo b v ss) (hb : b ≤ w.heap.size) (hok : ∀ i, i < ss.length → BOk.batOk (ss.getD i default) = true)
    (hm : ∀ i j, i ≤ j → j < ss.length → pB x (ss.getD i default) = true → pB x (ss.getD j default) = true) (hn : ss.length ≤ 1048576) :
    Calls Try.prog 60 #[v, .int .i64 x] w fun e w' => ∃ r : Nat, e = .returned (.int .i64 r) ∧ Fnd (fun i => pB x (ss.getD i default)) ss.length r ∧ Below w.heap.size w w' := by
  have HV := Seg.hid hv; have HO := Seg.hid hok; have HM := Seg.hid hm
  obtain ⟨_, ⟨_, A, c, rfl, _⟩, _⟩ := id hv
  clear hv hok hm
  go_enter Try.func60, Try.ntmps60
  go_wp2_with fail
  refine (search_bat A c w.heap.size (w.heap.size + 1) x ss ((w.alloc _).alloc _) lo b (HV.out.below ((below2 w _ _).mono hb)) (by rw [hsz, hsz]; omega) HO.out HM.out hn (cell_of_row _ w.heap.size 0 #[.slice A ss.length c] _ (0, 0) ((heap_alloc_old _ _ (by rw [hsz]; omega)).trans (heap_alloc_new _ _))) (cell_of_row _ (w.heap.size + 1) 0 #[.int .i64 x] _ (0, 0) (by have := heap_alloc_new (w.alloc (.cells #[.slice A ss.length c] 40 (0, 0))) (.cells #[.int .i64 x] 3 (0, 0)); rw [hsz] at this; exact this)) (by rw [hsz, hsz]; omega) (by rw [hsz, hsz]; omega)).mono ?_
  rintro e w1 ⟨r, rfl, hF, b1⟩
  have F1 := Seg.hid hF
  have B1 := Seg.hid (chain (below2 w _ _) b1)
  clear hF b1
  go_wp2_with fail
  go_ret
  exact ⟨r, rfl, F1.out, B1.out⟩
end Go.Proofs.Yticihnoekffelaa.SrW
