/- The program's ValueOk and ValueOf: kinds behind an interface. -/
import Derived.Test.YtfdfhhiaalbfiaaVkR
import Derived.Deep.RegionHeld3
import Derived.Deep.RegionLaw
import Derived.BigQuiet
import Derived.WalkLawsBesides
import Derived.Laws.StructEq
namespace Go.Proofs.Ytfdfhhiaalbfiaa.VkI
set_option maxRecDepth 8000
open Go.RowKit
open Ls Lp VkP VkR
open Recs (hsz below1 below2 below3 chain chainD)
set_option linter.unusedVariables false
set_option maxHeartbeats 800000 in
theorem flag_any (n : Int) (t : ByteArray) (w : World) : Calls Try.prog 169 #[.agg #[], .agg #[.int .i64 n, .string t]] w fun e w' => e = .returned (.bool (hasN 0 1 n t)) ∧ Below w.heap.size w w' := by
  go_enter Try.func169, Try.ntmps169
  obtain ⟨b, hb⟩ : ∃ b, inR 0 n 1 = b := ⟨_, rfl⟩
  obtain ⟨e, he⟩ : ∃ e, (t.toList == []) = e := ⟨_, rfl⟩
  have R : Hid (hasN 0 1 n t = (b && e)) := by show _ = _; unfold hasN em; rw [hb, he]
  have HB := Seg.hid hb
  clear hb
  cases b <;> cases e
  all_goals
    go_wp2_with (go_at_call 40; refine (InB.within_b _ _ _ _ HB.out _).mono ?_; rintro e w5 ⟨rfl, rfl⟩)
    go_ret
    exact ⟨by rw [R.out]; rfl, below2 _ _ _⟩
set_option maxHeartbeats 800000 in
theorem num_any (lo hi n : Int) (t : ByteArray) (w : World) : Calls Try.prog 164 #[.agg #[.int .i64 lo, .int .i64 hi], .agg #[.int .i64 n, .string t]] w fun e w' => e = .returned (.bool (hasN lo hi n t)) ∧ Below w.heap.size w w' := by
  go_enter Try.func164, Try.ntmps164
  obtain ⟨b, hb⟩ : ∃ b, inR lo n hi = b := ⟨_, rfl⟩
  obtain ⟨e, he⟩ : ∃ e, (t.toList == []) = e := ⟨_, rfl⟩
  have R : Hid (hasN lo hi n t = (b && e)) := by show _ = _; unfold hasN em; rw [hb, he]
  have HB := Seg.hid hb
  clear hb
  cases b <;> cases e
  all_goals
    go_wp2_with (go_at_call 40; refine (InB.within_b _ _ _ _ HB.out _).mono ?_; rintro e w5 ⟨rfl, rfl⟩)
    go_ret
    exact ⟨by rw [R.out]; rfl, below2 _ _ _⟩
theorem wrap_b (b : UInt8) : wrap64 (b.toNat : Int) = b.toNat := by
  have := b.toNat_lt
  unfold wrap64
  omega
theorem textOk_any (t : ByteArray) (w : World) (b : Bool) (hb : decide (t.size ≤ 100) = b) : Calls Try.prog 179 #[.string t] w fun e w' => e = .returned (.bool b) ∧ w = w' := by
  subst hb
  go_enter Try.func179, Try.ntmps179
  go_wp2
  go_ret
  exact ⟨Seg.ret_bool (by rw [Bool.eq_iff_iff]; simp; try omega), rfl⟩
set_option maxHeartbeats 800000 in
theorem text_any (n : Int) (t : ByteArray) (w : World) (ht : t.size ≤ maxLen) : Calls Try.prog 174 #[.agg #[], .agg #[.int .i64 n, .string t]] w fun e w' => e = .returned (.bool (hasT n t)) ∧ Below w.heap.size w w' := by
  unfold maxLen at ht
  go_enter Try.func174, Try.ntmps174
  by_cases h0 : n = 0
  · subst h0
    cases hz : decide (t.size ≤ 100) with
    | false =>
      have R : Hid (hasT 0 t = false) := by show _ = _; unfold hasT; rw [hz]; rfl
      have HZ := Seg.hid hz
      clear hz
      go_wp2_with (go_at_call 179; refine (textOk_any _ _ _ HZ.out).mono ?_; rintro e w5 ⟨rfl, rfl⟩)
      go_ret
      exact ⟨by rw [R.out]; rfl, below2 _ _ _⟩
    | true =>
      have HZ := Seg.hid hz
      have R : Hid (hasT 0 t = ltrs t t.size) := by show _ = _; unfold hasT; rw [hz]; rfl
      clear hz
      go_wp2_with (go_at_call 179; refine (textOk_any _ _ _ HZ.out).mono ?_; rintro e w5 ⟨rfl, rfl⟩)
      go_loop [18, 5] (fun i j => ∃ k : Nat, k ≤ t.size ∧ i = .int .i64 k ∧ Hid (ltrs t k = true)) (fun i j => t.size - (intOf i).toNat)
      case atStart => exact ⟨0, Nat.zero_le _, rfl, ltrs_zero t⟩
      case round =>
        obtain ⟨k, hk, rfl, HG⟩ := hrel
        by_cases hlt : k < t.size
        · have h0 : (0 : Int) ≤ (k : Int) := by omega
          have h1 : (k : Int) < (t.size : Int) := by omega
          cases hy : ltr t k with
          | true =>
            have HY : Hid (inR 32 (t[k].toNat : Int) 126 = true) := by show _ = _; rw [← ltr_at t k hlt]; exact hy
            have HL := Seg.hid hy
            clear hy
            go_wp2_with (go_at_call 40; refine (InB.within_b _ _ _ true (by rw [wrap_b]; exact HY.out) _).mono ?_; rintro e w5 ⟨rfl, rfl⟩)
            go_round
            case rel => exact ⟨k + 1, by omega, by go_num, (by show ltrs t (k + 1) = true; rw [ltrs_succ, HG.out, HL.out]; rfl)⟩
            case measure => simp [intOf]; omega
          | false =>
            have HY : Hid (inR 32 (t[k].toNat : Int) 126 = false) := by show _ = _; rw [← ltr_at t k hlt]; exact hy
            have HL : Hid (ltrs t t.size = false) := ltrs_bad t k _ hlt hy
            clear hy
            go_wp2_with (go_at_call 40; refine (InB.within_b _ _ _ false (by rw [wrap_b]; exact HY.out) _).mono ?_; rintro e w5 ⟨rfl, rfl⟩)
            go_ret
            exact ⟨by rw [R.out, HL.out]; rfl, below2 _ _ _⟩
        · obtain rfl : k = t.size := by omega
          go_wp2
          go_ret
          exact ⟨by rw [R.out, HG.out]; rfl, below2 _ _ _⟩
  · have R : Hid (hasT n t = false) := by show _ = _; simp [hasT, h0]
    have h1 : (n != 0) = true := by simp [h0]
    go_wp2
    go_ret
    exact ⟨by rw [R.out]; rfl, below2 _ _ _⟩
/-- What kindOf makes of a kind. -/
def ifc (k : Int) : Value := if k = 1 then .iface 186 (.agg #[]) else if k = 4 then .iface 187 (.agg #[]) else .iface 185 (.agg #[.int .i64 (loK k), .int .i64 (hiK k)])
set_option maxHeartbeats 1600000 in
theorem kind_yes (k : Int) (w : World) (h : kOk k = true) : Calls Try.prog 98 #[.int .i64 k] w fun e w' => e = .returned (.tuple #[ifc k, .bool true]) ∧ Below w.heap.size w w' := by
  rcases kOk_cases h with rfl | rfl | rfl | rfl
  all_goals
    clear h
    go_enter Try.func98, Try.ntmps98
    go_wp2
    go_ret2
    exact ⟨rfl, below1 _ _⟩
set_option maxHeartbeats 1600000 in
theorem kind_no (k : Int) (w : World) (h : kOk k = false) : Calls Try.prog 98 #[.int .i64 k] w fun e w' => e = .returned (.tuple #[.nilIface, .bool false]) ∧ Below w.heap.size w w' := by
  obtain ⟨a, b, c, d⟩ := kOk_not h
  clear h
  go_enter Try.func98, Try.ntmps98
  go_wp2
  go_ret2
  exact ⟨rfl, below1 _ _⟩
set_option maxHeartbeats 800000 in
theorem only_any (k n : Int) (t : ByteArray) (l v : Value) (w : World) : Calls Try.prog 130 #[.agg #[.int .i64 k, .int .i64 n, .string t, l, v]] w fun e w' => e = .returned (.agg #[.int .i64 n, .string t]) ∧ Below w.heap.size w w' := by
  go_enter Try.func130, Try.ntmps130
  go_wp2
  exact bodyPost_ret (v := .agg #[.int .i64 n, .string t]) (results_cell_row rfl _ _ (w.heap.size + 1) _ _ _ _ rfl (at2y _ _ _) Try.underlying179 rfl infoItm) rfl ⟨rfl, below2 _ _ _⟩
set_option maxHeartbeats 1600000 in
theorem zero_any (u : Vlu) (A : Option Addr) (c : Nat) (w : World) : Calls Try.prog 129 #[.agg (vrow u A c)] w fun e w' => e = .returned (.bool (zero u)) ∧ Below w.heap.size w w' := by
  go_enter Try.func129, Try.ntmps129
  by_cases h0 : u.kind = 0
  · cases hl : u.lst with
    | true =>
      have R : Hid (zero u = false) := by show _ = _; simp [zero, hl]
      go_wp2
      go_ret
      exact ⟨by rw [R.out]; rfl, below1 _ _⟩
    | false =>
      obtain ⟨e, he⟩ : ∃ e, (u.text.toList == []) = e := ⟨_, rfl⟩
      obtain ⟨m, hm⟩ : ∃ m, decide (u.items.length = 0) = m := ⟨_, rfl⟩
      by_cases h1 : u.num = 0
      · have R : Hid (zero u = (e && m)) := by show _ = _; simp [zero, nil0, em, he, h0, hl, h1, ← hm]
        cases m with
        | true =>
          have hm0 : u.items.length = 0 := by simpa using hm
          clear hm
          cases e
          all_goals
            go_wp2_with fail
            refine (only_any _ _ _ _ _ _).mono ?_
            rintro e w1 ⟨rfl, b1⟩
            have B1 := Seg.hid (chain (below1 w _) b1)
            have c4 : w1.cell? ⟨w.heap.size, 4, none⟩ = some (.slice A u.items.length c) := cell_of_row w1 _ 4 _ _ (0, 0) ((b1.block w.heap.size (by rw [hsz]; omega)).trans (heap_alloc_new w _))
            clear b1
            go_wp2
            go_ret
            exact ⟨by rw [R.out]; rfl, B1.out⟩
        | false =>
          have hm0 : ¬ u.items.length = 0 := by simpa using hm
          clear hm
          have hm1 : ((u.items.length : Int) == 0) = false := by
            have : ¬ (u.items.length : Int) = 0 := by omega
            simpa using this
          cases e
          all_goals
            go_wp2_with fail
            refine (only_any _ _ _ _ _ _).mono ?_
            rintro e w1 ⟨rfl, b1⟩
            have B1 := Seg.hid (chain (below1 w _) b1)
            have c4 : w1.cell? ⟨w.heap.size, 4, none⟩ = some (.slice A u.items.length c) := cell_of_row w1 _ 4 _ _ (0, 0) ((b1.block w.heap.size (by rw [hsz]; omega)).trans (heap_alloc_new w _))
            clear b1
            go_wp2
            go_ret
            exact ⟨by rw [R.out]; rfl, B1.out⟩
      · have R : Hid (zero u = false) := by show _ = _; simp [zero, nil0, h1]
        go_wp2_with fail
        refine (only_any _ _ _ _ _ _).mono ?_
        rintro e w1 ⟨rfl, b1⟩
        have B1 := Seg.hid (chain (below1 w _) b1)
        clear b1
        go_wp2
        go_ret
        exact ⟨by rw [R.out]; rfl, B1.out⟩
  · have R : Hid (zero u = false) := by show _ = _; simp [zero, h0]
    go_wp2
    go_ret
    exact ⟨by rw [R.out]; rfl, below1 _ _⟩
/-- What the walk knows of a kind behind the interface. -/
structure Kn (k : Int) (ty K : Nat) (x : Value) : Prop where
  num : K = 169 ∨ K = 164 ∨ K = 174
  ifc : ifc k = .iface ty x
  nil : ∀ w : World, (nilAhead 326 ty x "loop.example/g00035/impl.has").run Try.prog w = .ok (some false) w
  meth : ∀ w : World, (method 326 ty x "loop.example/g00035/impl.has").run Try.prog w = .ok (K, x) w
  calls : ∀ (n : Int) (t : ByteArray) (wx : World), t.size ≤ maxLen → Calls Try.prog K #[x, .agg #[.int .i64 n, .string t]] wx fun e w' => e = .returned (.bool (has k n t)) ∧ Below wx.heap.size wx w'
theorem kn_any (k : Int) (h : kOk k = true) : ∃ ty K x, Kn k ty K x := by
  rcases kOk_cases h with rfl | rfl | rfl | rfl
  · exact ⟨186, 169, .agg #[], by decide, rfl, fun _ => by kernel_rfl, fun _ => by kernel_rfl, fun n t wx _ => flag_any n t wx⟩
  · exact ⟨185, 164, _, by decide, rfl, fun _ => by kernel_rfl, fun _ => by kernel_rfl, fun n t wx _ => num_any _ _ n t wx⟩
  · exact ⟨185, 164, _, by decide, rfl, fun _ => by kernel_rfl, fun _ => by kernel_rfl, fun n t wx _ => num_any _ _ n t wx⟩
  · exact ⟨187, 174, .agg #[], by decide, rfl, fun _ => by kernel_rfl, fun _ => by kernel_rfl, fun n t wx ht => text_any n t wx ht⟩
end Go.Proofs.Ytfdfhhiaalbfiaa.VkI
