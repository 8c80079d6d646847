/- The program's ValueOk and ValueOf: kinds behind an interface; The program's ValueOk and ValueOf. -/
import Derived.Deep.RegionHeld3
import Derived.Deep.RegionLaw
import Derived.BigQuiet
import Derived.WalkLawsBesides
import Derived.Laws.StructEq
import Derived.Test.YtdhicmbfknagjaaJMC08
namespace Go.Proofs.Ytdhicmbfknagjaa.VkI
set_option maxRecDepth 8000
open Go.RowKit
open Ls Lp VkP VkR
open Recs (hsz below1 below2 below3 chain chainD)
set_option linter.unusedVariables false
set_option maxHeartbeats 800000 in
theorem flag_any (n : Int) (t : ByteArray) (w : World) : Calls Try.prog 179 #[.agg #[], .agg #[.int .i64 n, .string t]] w fun e w' => e = .returned (.bool (hasN 0 1 n t)) ∧ Below w.heap.size w w' := by
  go_enter Try.func179, Try.ntmps179
  obtain ⟨b, hb⟩ : ∃ b, inR 0 n 1 = b := ⟨_, rfl⟩
  obtain ⟨e, he⟩ : ∃ e, (t.toList == []) = e := ⟨_, rfl⟩
  have R : Hid (hasN 0 1 n t = (b && e)) := by show _ = _; unfold hasN em; rw [hb, he]
  have HB := Seg.hid hb
  clear hb
  cases b <;> cases e
  all_goals
    go_wp2_with (go_at_call 41; refine (InB.within_b _ _ _ _ HB.out _).mono ?_; rintro e w5 ⟨rfl, rfl⟩)
    go_ret
    exact ⟨by rw [R.out]; rfl, below2 _ _ _⟩
set_option maxHeartbeats 800000 in
theorem num_any (lo hi n : Int) (t : ByteArray) (w : World) : Calls Try.prog 174 #[.agg #[.int .i64 lo, .int .i64 hi], .agg #[.int .i64 n, .string t]] w fun e w' => e = .returned (.bool (hasN lo hi n t)) ∧ Below w.heap.size w w' := by
  go_enter Try.func174, Try.ntmps174
  obtain ⟨b, hb⟩ : ∃ b, inR lo n hi = b := ⟨_, rfl⟩
  obtain ⟨e, he⟩ : ∃ e, (t.toList == []) = e := ⟨_, rfl⟩
  have R : Hid (hasN lo hi n t = (b && e)) := by show _ = _; unfold hasN em; rw [hb, he]
  have HB := Seg.hid hb
  clear hb
  cases b <;> cases e
  all_goals
    go_wp2_with (go_at_call 41; refine (InB.within_b _ _ _ _ HB.out _).mono ?_; rintro e w5 ⟨rfl, rfl⟩)
    go_ret
    exact ⟨by rw [R.out]; rfl, below2 _ _ _⟩
theorem wrap_b (b : UInt8) : wrap64 (b.toNat : Int) = b.toNat := by
  have := b.toNat_lt
  unfold wrap64
  omega
theorem textOk_any (t : ByteArray) (w : World) (b : Bool) (hb : decide (t.size ≤ 100) = b) : Calls Try.prog 144 #[.string t] w fun e w' => e = .returned (.bool b) ∧ w = w' := by
  subst hb
  go_enter Try.func144, Try.ntmps144
  go_wp2
  go_ret
  exact ⟨Seg.ret_bool (by rw [Bool.eq_iff_iff]; simp; try omega), rfl⟩
set_option maxHeartbeats 800000 in
theorem text_any (n : Int) (t : ByteArray) (w : World) (ht : t.size ≤ maxLen) : Calls Try.prog 184 #[.agg #[], .agg #[.int .i64 n, .string t]] w fun e w' => e = .returned (.bool (hasT n t)) ∧ Below w.heap.size w w' := by
  unfold maxLen at ht
  go_enter Try.func184, Try.ntmps184
  by_cases h0 : n = 0
  · subst h0
    cases hz : decide (t.size ≤ 100) with
    | false =>
      have R : Hid (hasT 0 t = false) := by show _ = _; unfold hasT; rw [hz]; rfl
      have HZ := Seg.hid hz
      clear hz
      go_wp2_with (go_at_call 144; refine (textOk_any _ _ _ HZ.out).mono ?_; rintro e w5 ⟨rfl, rfl⟩)
      go_ret
      exact ⟨by rw [R.out]; rfl, below2 _ _ _⟩
    | true =>
      have HZ := Seg.hid hz
      have R : Hid (hasT 0 t = ltrs t t.size) := by show _ = _; unfold hasT; rw [hz]; rfl
      clear hz
      go_wp2_with (go_at_call 144; refine (textOk_any _ _ _ HZ.out).mono ?_; rintro e w5 ⟨rfl, rfl⟩)
      go_loop [18, 5] (fun i j => ∃ k : Nat, k ≤ t.size ∧ i = .int .i64 k ∧ Hid (ltrs t k = true)) (fun i j => t.size - (intOf i).toNat)
      case atStart => exact ⟨0, Nat.zero_le _, rfl, ltrs_zero t⟩
      case round =>
        obtain ⟨k, hk, rfl, HG⟩ := hrel
        by_cases hlt : k < t.size
        · have h0 : (0 : Int) ≤ (k : Int) := by omega
          have h1 : (k : Int) < (t.size : Int) := by omega
          cases hy : ltr t k with
          | true =>
            have HY : Hid (inR 32 (t[k].toNat : Int) 126 = true) := by show _ = _; rw [← ltr_at t k hlt]; exact hy
            have HL := Seg.hid hy
            clear hy
            go_wp2_with (go_at_call 41; refine (InB.within_b _ _ _ true (by rw [wrap_b]; exact HY.out) _).mono ?_; rintro e w5 ⟨rfl, rfl⟩)
            go_round
            case rel => exact ⟨k + 1, by omega, by go_num, (by show ltrs t (k + 1) = true; rw [ltrs_succ, HG.out, HL.out]; rfl)⟩
            case measure => simp [intOf]; omega
          | false =>
            have HY : Hid (inR 32 (t[k].toNat : Int) 126 = false) := by show _ = _; rw [← ltr_at t k hlt]; exact hy
            have HL : Hid (ltrs t t.size = false) := ltrs_bad t k _ hlt hy
            clear hy
            go_wp2_with (go_at_call 41; refine (InB.within_b _ _ _ false (by rw [wrap_b]; exact HY.out) _).mono ?_; rintro e w5 ⟨rfl, rfl⟩)
            go_ret
            exact ⟨by rw [R.out, HL.out]; rfl, below2 _ _ _⟩
        · obtain rfl : k = t.size := by omega
          go_wp2
          go_ret
          exact ⟨by rw [R.out, HG.out]; rfl, below2 _ _ _⟩
  · have R : Hid (hasT n t = false) := by show _ = _; simp [hasT, h0]
    have h1 : (n != 0) = true := by simp [h0]
    go_wp2
    go_ret
    exact ⟨by rw [R.out]; rfl, below2 _ _ _⟩
/-- What kindOf makes of a kind. -/
def ifc (k : Int) : Value := if k = 1 then .iface 179 (.agg #[]) else if k = 4 then .iface 180 (.agg #[]) else .iface 178 (.agg #[.int .i64 (loK k), .int .i64 (hiK k)])
set_option maxHeartbeats 1600000 in
theorem kind_yes (k : Int) (w : World) (h : kOk k = true) : Calls Try.prog 98 #[.int .i64 k] w fun e w' => e = .returned (.tuple #[ifc k, .bool true]) ∧ Below w.heap.size w w' := by
  rcases kOk_cases h with rfl | rfl | rfl | rfl
  all_goals
    clear h
    go_enter Try.func98, Try.ntmps98
    go_wp2
    go_ret2
    exact ⟨rfl, below1 _ _⟩
set_option maxHeartbeats 1600000 in
theorem kind_no (k : Int) (w : World) (h : kOk k = false) : Calls Try.prog 98 #[.int .i64 k] w fun e w' => e = .returned (.tuple #[.nilIface, .bool false]) ∧ Below w.heap.size w w' := by
  obtain ⟨a, b, c, d⟩ := kOk_not h
  clear h
  go_enter Try.func98, Try.ntmps98
  go_wp2
  go_ret2
  exact ⟨rfl, below1 _ _⟩
set_option maxHeartbeats 800000 in
theorem only_any (k n : Int) (t : ByteArray) (l v : Value) (w : World) : Calls Try.prog 99 #[.agg #[.int .i64 k, .int .i64 n, .string t, l, v]] w fun e w' => e = .returned (.agg #[.int .i64 n, .string t]) ∧ Below w.heap.size w w' := by
  go_enter Try.func99, Try.ntmps99
  go_wp2
  exact bodyPost_ret (v := .agg #[.int .i64 n, .string t]) (results_cell_row rfl _ _ (w.heap.size + 1) _ _ _ _ rfl (at2y _ _ _) Try.underlying99 rfl infoItm) rfl ⟨rfl, below2 _ _ _⟩
set_option maxHeartbeats 1600000 in
theorem zero_any (u : Vlu) (A : Option Addr) (c : Nat) (w : World) : Calls Try.prog 120 #[.agg (vrow u A c)] w fun e w' => e = .returned (.bool (zero u)) ∧ Below w.heap.size w w' := by
  go_enter Try.func120, Try.ntmps120
  by_cases h0 : u.kind = 0
  · cases hl : u.lst with
    | true =>
      have R : Hid (zero u = false) := by show _ = _; simp [zero, hl]
      go_wp2
      go_ret
      exact ⟨by rw [R.out]; rfl, below1 _ _⟩
    | false =>
      obtain ⟨e, he⟩ : ∃ e, (u.text.toList == []) = e := ⟨_, rfl⟩
      obtain ⟨m, hm⟩ : ∃ m, decide (u.items.length = 0) = m := ⟨_, rfl⟩
      by_cases h1 : u.num = 0
      · have R : Hid (zero u = (e && m)) := by show _ = _; simp [zero, nil0, em, he, h0, hl, h1, ← hm]
        cases m with
        | true =>
          have hm0 : u.items.length = 0 := by simpa using hm
          clear hm
          cases e
          all_goals
            go_wp2_with fail
            refine (only_any _ _ _ _ _ _).mono ?_
            rintro e w1 ⟨rfl, b1⟩
            have B1 := Seg.hid (chain (below1 w _) b1)
            have c4 : w1.cell? ⟨w.heap.size, 4, none⟩ = some (.slice A u.items.length c) := cell_of_row w1 _ 4 _ _ (0, 0) ((b1.block w.heap.size (by rw [hsz]; omega)).trans (heap_alloc_new w _))
            clear b1
            go_wp2
            go_ret
            exact ⟨by rw [R.out]; rfl, B1.out⟩
        | false =>
          have hm0 : ¬ u.items.length = 0 := by simpa using hm
          clear hm
          have hm1 : ((u.items.length : Int) == 0) = false := by
            have : ¬ (u.items.length : Int) = 0 := by omega
            simpa using this
          cases e
          all_goals
            go_wp2_with fail
            refine (only_any _ _ _ _ _ _).mono ?_
            rintro e w1 ⟨rfl, b1⟩
            have B1 := Seg.hid (chain (below1 w _) b1)
            have c4 : w1.cell? ⟨w.heap.size, 4, none⟩ = some (.slice A u.items.length c) := cell_of_row w1 _ 4 _ _ (0, 0) ((b1.block w.heap.size (by rw [hsz]; omega)).trans (heap_alloc_new w _))
            clear b1
            go_wp2
            go_ret
            exact ⟨by rw [R.out]; rfl, B1.out⟩
      · have R : Hid (zero u = false) := by show _ = _; simp [zero, nil0, h1]
        go_wp2_with fail
        refine (only_any _ _ _ _ _ _).mono ?_
        rintro e w1 ⟨rfl, b1⟩
        have B1 := Seg.hid (chain (below1 w _) b1)
        clear b1
        go_wp2
        go_ret
        exact ⟨by rw [R.out]; rfl, B1.out⟩
  · have R : Hid (zero u = false) := by show _ = _; simp [zero, h0]
    go_wp2
    go_ret
    exact ⟨by rw [R.out]; rfl, below1 _ _⟩
/-- What the walk knows of a kind behind the interface. -/
structure Kn (k : Int) (ty K : Nat) (x : Value) : Prop where
  num : K = 179 ∨ K = 174 ∨ K = 184
  ifc : ifc k = .iface ty x
  nil : ∀ w : World, (nilAhead 343 ty x "loop.example/g00035/impl.has").run Try.prog w = .ok (some false) w
  meth : ∀ w : World, (method 343 ty x "loop.example/g00035/impl.has").run Try.prog w = .ok (K, x) w
  calls : ∀ (n : Int) (t : ByteArray) (wx : World), t.size ≤ maxLen → Calls Try.prog K #[x, .agg #[.int .i64 n, .string t]] wx fun e w' => e = .returned (.bool (has k n t)) ∧ Below wx.heap.size wx w'
theorem kn_any (k : Int) (h : kOk k = true) : ∃ ty K x, Kn k ty K x := by
  rcases kOk_cases h with rfl | rfl | rfl | rfl
  · exact ⟨179, 179, .agg #[], by decide, rfl, fun _ => by kernel_rfl, fun _ => by kernel_rfl, fun n t wx _ => flag_any n t wx⟩
  · exact ⟨178, 174, _, by decide, rfl, fun _ => by kernel_rfl, fun _ => by kernel_rfl, fun n t wx _ => num_any _ _ n t wx⟩
  · exact ⟨178, 174, _, by decide, rfl, fun _ => by kernel_rfl, fun _ => by kernel_rfl, fun n t wx _ => num_any _ _ n t wx⟩
  · exact ⟨180, 184, .agg #[], by decide, rfl, fun _ => by kernel_rfl, fun _ => by kernel_rfl, fun n t wx ht => text_any n t wx ht⟩
end Go.Proofs.Ytdhicmbfknagjaa.VkI
namespace Go.Proofs.Ytdhicmbfknagjaa.VkI
set_option maxRecDepth 8000
open Go.RowKit
open Ls Lp VkP VkR
open Recs (hsz below1 below2 below3 chain chainD)
set_option linter.unusedVariables false
set_option maxHeartbeats 3200000 in
theorem value_any (v : Value) (u : Vlu) (w : World) (S : Nat → Prop) (hv : VluAt w S v u) (hS : ∀ g, S g → g < w.heap.size) (hf : szVlu u ≤ 1048576) : Calls Try.prog 124 #[v] w fun e w' => e = .returned (.bool (vok u)) ∧ Below w.heap.size w w' := by
  obtain ⟨f, rfl, y0, y1, y2, y3, y4⟩ := hv
  have hz : u.text.size ≤ 1048576 ∧ szL szItm u.items ≤ 1048576 := by unfold szVlu at hf; omega
  obtain ⟨hz1, hz2⟩ := hz
  obtain ⟨A, c, g, o, F, e4, OP, hn⟩ := opn y4 hS
  have ha : arrVlu f = vrow u A c := by simp only [arrVlu, vrow]; rw [y0, y1, y2, y3, e4]
  rw [ha]
  clear ha y0 y1 y2 y3 y4 e4 hf
  have HO := Seg.hid OP
  have HZ := Seg.hid hz2
  clear OP hz2
  cases hk : kOk u.kind with
  | false =>
    have R : Hid (vok u = zero u) := by show _ = _; simp [vok, hk]
    have HK := Seg.hid hk
    clear hk
    go_enter Try.func124, Try.ntmps124
    go_wp2_with fail
    refine (kind_no _ _ HK.out).mono ?_
    rintro e w1 ⟨rfl, b1⟩
    have B1 := Seg.hid (chain (below1 w _) b1)
    obtain ⟨c0, c1, c2, c3, c4⟩ := five b1
    clear b1
    go_wp2_with (go_at_call 120; refine (zero_any u A c w1).mono ?_; rintro e w2 ⟨rfl, b2⟩)
    go_ret
    exact ⟨by rw [R.out]; rfl, chain B1.out b2⟩
  | true =>
  obtain ⟨ty, K, x, KN⟩ := kn_any _ hk
  have hif := KN.ifc
  have hnum := KN.num
  have hni := KN.nil
  have hme := KN.meth
  have CH : Hid (∀ (n : Int) (t : ByteArray) (wx : World), t.size ≤ maxLen → Calls Try.prog K #[x, .agg #[.int .i64 n, .string t]] wx fun e w' => e = .returned (.bool (has u.kind n t)) ∧ Below wx.heap.size wx w') := KN.calls
  clear KN
  have HK := Seg.hid hk
  have VK : Hid (vok u = if u.lst = false then decide (u.items.length = 0) && has u.kind u.num u.text else nil0 u.num u.text && decide (u.items.length ≤ 30) && u.items.all (hasI u.kind)) := by show _ = _; simp [vok, hk]
  clear hk
  go_enter Try.func124, Try.ntmps124
  go_wp2_with fail
  refine (kind_yes _ _ HK.out).mono ?_
  rintro e w1 ⟨rfl, b1⟩
  have B1 := Seg.hid (chain (below1 w _) b1)
  have FV1 : Hid (w.heap.size < w1.heap.size) := by show _ < _; have := b1.size; rw [hsz] at this; omega
  obtain ⟨c0, c1, c2, c3, c4⟩ := five b1
  clear b1
  rw [hif]
  clear hif
  cases hl : u.lst with
  | false =>
    by_cases hz : u.items.length = 0
    · have R : Hid (vok u = has u.kind u.num u.text) := by show _ = _; rw [VK.out]; simp [hl, hz]
      have hg1 : w.heap.size < w1.heap.size := FV1.out
      rcases hnum with rfl | rfl | rfl
      all_goals
        go_wp2_with fail
        go_region_held3 (fun w' => w'.cell? ⟨w.heap.size, 0, none⟩ = some (.int .i64 u.kind) ∧ w'.cell? ⟨w.heap.size, 1, none⟩ = some (.int .i64 u.num) ∧ w'.cell? ⟨w.heap.size, 2, none⟩ = some (.string u.text) ∧ w'.cell? ⟨w.heap.size, 3, none⟩ = some (.bool u.lst) ∧ w'.cell? ⟨w.heap.size, 4, none⟩ = some (.slice A u.items.length c)) (first | exact ⟨c0, c1, c2, c3, c4⟩ | exact ⟨r0, r1, r2, r3, r4⟩ | exact ⟨s0, s1, s2, s3, s4⟩ | go_keep) (first | (go_at_call 99; refine (only_any _ _ _ _ _ _).mono ?_; rintro e w2 ⟨rfl, b2⟩; have B2 : Hid (Below w1.heap.size w1 w2) := ⟨b2.os, b2.tape, b2.output, b2.size, b2.block⟩; have hg2 : w.heap.size < w2.heap.size := Nat.lt_of_lt_of_le hg1 B2.out.size; clear b2; have r0 := (B2.out.cell (p := ⟨w.heap.size, 0, none⟩) hg1).trans c0; have r1 := (B2.out.cell (p := ⟨w.heap.size, 1, none⟩) hg1).trans c1; have r2 := (B2.out.cell (p := ⟨w.heap.size, 2, none⟩) hg1).trans c2; have r3 := (B2.out.cell (p := ⟨w.heap.size, 3, none⟩) hg1).trans c3; have r4 := (B2.out.cell (p := ⟨w.heap.size, 4, none⟩) hg1).trans c4) | ((first | go_at_call 179 | go_at_call 174 | go_at_call 184); refine (CH.out _ _ _ (by unfold maxLen; omega)).mono ?_; rintro e w3 ⟨rfl, b3⟩; have B3 : Hid (Below w2.heap.size w2 w3) := ⟨b3.os, b3.tape, b3.output, b3.size, b3.block⟩; clear b3; have s0 := (B3.out.cell (p := ⟨w.heap.size, 0, none⟩) hg2).trans r0; have s1 := (B3.out.cell (p := ⟨w.heap.size, 1, none⟩) hg2).trans r1; have s2 := (B3.out.cell (p := ⟨w.heap.size, 2, none⟩) hg2).trans r2; have s3 := (B3.out.cell (p := ⟨w.heap.size, 3, none⟩) hg2).trans r3; have s4 := (B3.out.cell (p := ⟨w.heap.size, 4, none⟩) hg2).trans r4))
        all_goals
          go_wp2
          go_ret
          exact ⟨by rw [R.out]; rfl, chain B1.out (chain B2.out B3.out)⟩
    · have R : Hid (vok u = false) := by show _ = _; rw [VK.out]; simp [hl, hz]
      have hz0 : ((u.items.length : Int) == 0) = false := by
        have : ¬ (u.items.length : Int) = 0 := by omega
        simpa using this
      go_wp2_with fail
      go_quiet (fail)
      all_goals
        go_wp2
        go_ret
        exact ⟨by rw [R.out]; rfl, chain B1.out (((Qt.refl w1).drewN _).bel _)⟩
  | true =>
    have hg1 : w.heap.size < w1.heap.size := FV1.out
    obtain ⟨e, he⟩ : ∃ e, (u.text.toList == []) = e := ⟨_, rfl⟩
    by_cases hm : u.num = 0
    · cases e with
      | false =>
        have R : Hid (vok u = false) := by show _ = _; rw [VK.out]; simp [hl, nil0, em, he]
        go_wp2_with (go_at_call 99; refine (only_any _ _ _ _ _ _).mono ?_; rintro e w2 ⟨rfl, b2⟩; have B2 := Seg.hid (chain B1.out b2); clear b2)
        go_ret
        exact ⟨by rw [R.out]; rfl, B2.out⟩
      | true =>
        have R : Hid (vok u = (decide (u.items.length ≤ 30) && u.items.all (hasI u.kind))) := by show _ = _; rw [VK.out]; simp [hl, nil0, em, he, hm]
        by_cases h30 : 30 < u.items.length
        · have R2 : Hid (vok u = false) := by show _ = _; rw [R.out]; simp; omega
          have q30 : (30 : Int) < (u.items.length : Int) := by omega
          go_wp2_with (go_at_call 99; refine (only_any _ _ _ _ _ _).mono ?_; rintro e w2 ⟨rfl, b2⟩; have B2 := Seg.hid (chain B1.out b2); have r4 := (b2.cell (p := ⟨w.heap.size, 4, none⟩) hg1).trans c4; clear b2)
          go_ret
          exact ⟨by rw [R2.out]; rfl, B2.out⟩
        · have R2 : Hid (vok u = u.items.all (hasI u.kind)) := by show _ = _; rw [R.out]; simp; omega
          have q30 : ¬ (30 : Int) < (u.items.length : Int) := by omega
          go_wp2_with (go_at_call 99; refine (only_any _ _ _ _ _ _).mono ?_; rintro e w2 ⟨rfl, b2⟩; have B2 := Seg.hid (chain B1.out b2); have r4 := (b2.cell (p := ⟨w.heap.size, 4, none⟩) hg1).trans c4; clear b2)
          rcases hnum with rfl | rfl | rfl
          all_goals
            go_loopw [49] (fun i wr => ∃ k : Nat, k ≤ u.items.length ∧ i = .int .i64 k ∧ Hid (Below w.heap.size w wr ∧ (u.items.take k).all (hasI u.kind) = true)) (fun i _ => u.items.length - (intOf i).toNat)
            case atStart => exact ⟨0, Nat.zero_le _, rfl, B2.out, by simp⟩
            case round =>
              obtain ⟨k, hk, rfl, HG⟩ := hrel
              by_cases hlt : k < u.items.length
              · obtain ⟨d0, d1⟩ := itm_at HO.out hS HG.out.1 hlt
                have h0 : (0 : Int) ≤ (k : Int) := by omega
                have h1 : (k : Int) < (u.items.length : Int) := by omega
                have ON := HO.out.addr.resolve_left (by omega)
                obtain ⟨ea, hc, hgw⟩ := ON
                subst ea
                have TX := Seg.hid (one_text HZ.out hlt)
                have NX := Seg.hid (all_next (hasI u.kind) u.items k hlt HG.out.2)
                have BX := Seg.hid (all_bad (hasI u.kind) u.items k hlt)
                unfold hasI at NX BX
                generalize u.items.getD k default = it at *
                cases hy : has u.kind it.num it.text with
                | true =>
                  have HY : Hid ((u.items.take (k + 1)).all (hasI u.kind) = true) := NX.out hy
                  have CQ := Seg.hid (fun wx => CH.out it.num it.text wx (by have := TX.out; unfold maxLen; omega))
                  rw [hy] at CQ
                  clear hy NX BX
                  go_wp2_with ((first | go_at_call 179 | go_at_call 174 | go_at_call 184); refine (CQ.out _).mono ?_; rintro e w3 ⟨rfl, b3⟩; have B3 : Hid (Below w.heap.size w w3) := chain HG.out.1 (chain (below1 wr _) b3); clear b3)
                  go_roundw
                  case rel => exact ⟨k + 1, by omega, by go_num, B3.out, HY.out⟩
                  case measure => simp [intOf]; omega
                | false =>
                  have HY : Hid (u.items.all (hasI u.kind) = false) := BX.out hy
                  have CQ := Seg.hid (fun wx => CH.out it.num it.text wx (by have := TX.out; unfold maxLen; omega))
                  rw [hy] at CQ
                  clear hy NX BX
                  go_wp2_with ((first | go_at_call 179 | go_at_call 174 | go_at_call 184); refine (CQ.out _).mono ?_; rintro e w3 ⟨rfl, b3⟩; have B3 : Hid (Below w.heap.size w w3) := chain HG.out.1 (chain (below1 wr _) b3); clear b3)
                  go_ret
                  exact ⟨by rw [R2.out, HY.out]; rfl, B3.out⟩
              · obtain rfl : k = u.items.length := by omega
                have HY : Hid (u.items.all (hasI u.kind) = true) := by show _ = _; have := HG.out.2; rwa [List.take_length] at this
                go_wp2
                go_ret
                exact ⟨by rw [R2.out, HY.out]; rfl, HG.out.1⟩
    · have R : Hid (vok u = false) := by show _ = _; rw [VK.out]; simp [hl, nil0, hm]
      go_wp2_with (go_at_call 99; refine (only_any _ _ _ _ _ _).mono ?_; rintro e w2 ⟨rfl, b2⟩; have B2 := Seg.hid (chain B1.out b2); clear b2)
      go_ret
      exact ⟨by rw [R.out]; rfl, B2.out⟩
end Go.Proofs.Ytdhicmbfknagjaa.VkI
