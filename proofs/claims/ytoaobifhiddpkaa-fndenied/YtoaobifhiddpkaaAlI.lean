/- Allowed of the program. -/
import Derived.Test.YtoaobifhiddpkaaAlF
import Derived.Test.YtoaobifhiddpkaaRuT
namespace Go.Proofs.Ytoaobifhiddpkaa.AlI
set_option maxRecDepth 8000
open Go.RowKit
open Ls Lp RuP AlP
open Recs (hsz below1 below2 chain)
set_option linter.unusedVariables false
theorem line_pos (r : Rul) : 0 < (line r).size := by
  unfold line
  split <;> (rw [ByteArray.size_append, s10]; omega)
theorem shows_ask (l : List Rul) : (decide (l.length = 0) || !((text l).toList == [])) = shows l := by
  cases h : shows l with
  | false =>
    rw [text_no h]
    have hz : ¬ l.length = 0 := fun e => by
      rw [List.length_eq_zero_iff.1 e] at h
      have : shows [] = true := by decide
      rw [this] at h
      cases h
    rw [decide_eq_false hz]
    have e : ((⟨#[]⟩ : ByteArray).toList == []) = true := by
      rw [beq_iff_eq]
      exact List.length_eq_zero_iff.1 (list_size ⟨#[]⟩)
    rw [e]
    rfl
  | true =>
    cases l with
    | nil => rfl
    | cons r l =>
      rw [text_yes h, RuI.texts_cat]
      have : ((RuI.cat ((r :: l).map line)).toList == []) = false := by
        rw [beq_eq_false_iff_ne]
        intro e
        have h1 := list_size (RuI.cat ((r :: l).map line))
        rw [e, List.map_cons, RuI.cat, ByteArray.size_append] at h1
        have := line_pos r
        simp at h1
        omega
      rw [this]
      simp
set_option maxHeartbeats 6400000 in
theorem impl_any (x : Value) (l : List Rul) (who : ByteArray) (may on : Int) (name : ByteArray) (w : World) (S : Nat → Prop) (hv : LAt 6 ERul w S x l) (hS : ∀ g, S g → g < w.heap.size) (hf : szL szRul l ≤ 1048576) (hw : who.size ≤ maxLen) (hm : name.size ≤ maxLen) :
    Calls Try.prog 8 #[x, .string who, .int .i64 may, .int .i64 on, .string name] w fun e w' => e = .returned (.bool (allowed l who may on name)) ∧ Below w.heap.size w w' := by
  have CT : Hid (Calls Try.prog 22 #[x] w fun e w' => e = .returned (.tuple #[.string (text l), .bool (shows l)]) ∧ Below w.heap.size w w') := RuI.text_any x l w S hv hS hf
  obtain ⟨A, c, g, o, F, rfl, OA, n3⟩ := opn hv hS
  have HA := Seg.hid OA
  have HL : Hid (∀ i, i < l.length → szRul (l.getD i default) ≤ 1048576) := fun i hi => szL_one _ hf hi
  have hn : l.length ≤ 1048576 := szL_len _ hf
  clear hv OA hf n3
  have AE : Hid (allowed l who may on name = ((shows l && (Nm.nameOk who && (Nm.nameOk name && (inR 1 may 3 && inR 1 on 2)))) && run who may on name l false)) := by show _ = _; rw [allowed, askOk, shows_ask]
  obtain ⟨b1, x1⟩ : ∃ b1, Nm.nameOk who = b1 := ⟨_, rfl⟩
  obtain ⟨b2, x2⟩ : ∃ b2, Nm.nameOk name = b2 := ⟨_, rfl⟩
  obtain ⟨b3, x3⟩ : ∃ b3, inR 1 may 3 = b3 := ⟨_, rfl⟩
  obtain ⟨b4, x4⟩ : ∃ b4, inR 1 on 2 = b4 := ⟨_, rfl⟩
  have C1 : Hid (∀ wx, Calls Try.prog 20 #[.string who] wx fun e w' => e = .returned (.bool b1) ∧ wx = w') := fun wx => Nm.impl_q _ _ x1 wx hw
  have C2 : Hid (∀ wx, Calls Try.prog 20 #[.string name] wx fun e w' => e = .returned (.bool b2) ∧ wx = w') := fun wx => Nm.impl_q _ _ x2 wx hm
  have C3 : Hid (∀ wx, Calls Try.prog 21 #[.int .i64 may, .int .i64 1, .int .i64 3] wx fun e w' => e = .returned (.bool b3) ∧ wx = w') := fun wx => InB.within_b _ _ _ _ x3 wx
  have C4 : Hid (∀ wx, Calls Try.prog 21 #[.int .i64 on, .int .i64 1, .int .i64 2] wx fun e w' => e = .returned (.bool b4) ∧ wx = w') := fun wx => InB.within_b _ _ _ _ x4 wx
  rw [x1, x2, x3, x4] at AE
  clear x1 x2 x3 x4
  go_enter Try.func8, Try.ntmps8
  cases hq : (b1 && (b2 && (b3 && b4))) with
  | false =>
    have Z : Hid (allowed l who may on name = false) := by show _ = _; rw [AE.out, hq]; simp
    clear AE
    cases b1
    all_goals cases b2
    all_goals cases b3
    all_goals cases b4
    all_goals first
      | (exfalso; simp at hq; done)
      | skip
    all_goals
      clear hq
      go_wp2_with (first | (go_at_call_of 20 (Value.string who); refine (C1.out _).mono ?_; rintro e w5 ⟨rfl, rfl⟩) | (go_at_call_of 20 (Value.string name); refine (C2.out _).mono ?_; rintro e w5 ⟨rfl, rfl⟩) | (go_at_call_of 21 (Value.int IntKind.i64 may); refine (C3.out _).mono ?_; rintro e w5 ⟨rfl, rfl⟩) | (go_at_call_of 21 (Value.int IntKind.i64 on); refine (C4.out _).mono ?_; rintro e w5 ⟨rfl, rfl⟩))
      go_ret
      exact ⟨by rw [Z.out]; rfl, Below.refl _ _⟩
  | true =>
  simp only [Bool.and_eq_true] at hq
  obtain ⟨rfl, rfl, rfl, rfl⟩ := hq
  go_upto_region 3 with (first | (go_at_call_of 20 (Value.string who); refine (C1.out _).mono ?_; rintro e w5 ⟨rfl, rfl⟩) | (go_at_call_of 20 (Value.string name); refine (C2.out _).mono ?_; rintro e w5 ⟨rfl, rfl⟩) | (go_at_call_of 21 (Value.int IntKind.i64 may); refine (C3.out _).mono ?_; rintro e w5 ⟨rfl, rfl⟩) | (go_at_call_of 21 (Value.int IntKind.i64 on); refine (C4.out _).mono ?_; rintro e w5 ⟨rfl, rfl⟩))
  cases hs : shows l with
  | false =>
    have Z : Hid (allowed l who may on name = false) := by show _ = _; rw [AE.out, hs]; rfl
    rw [hs] at CT
    clear AE hs
    go_wp2_with (go_at_call 22; refine CT.out.mono ?_; rintro e w9 ⟨rfl, b9⟩; have B9 := Seg.hid b9; clear b9)
    go_ret
    exact ⟨by rw [Z.out]; rfl, B9.out⟩
  | true =>
  have Z : Hid (allowed l who may on name = run who may on name l false) := by show _ = _; rw [AE.out, hs]; simp
  rw [hs] at CT
  clear AE hs
  go_wp2_with (go_at_call 22; refine CT.out.mono ?_; rintro e w9 ⟨rfl, b9⟩; have B9 := Seg.hid b9; clear b9)
  go_loopw [13, 43] (fun v i wr => ∃ (k : Nat) (y : Bool), k ≤ l.length ∧ v = .bool y ∧ i = .int .i64 k ∧ Hid (run who may on name (l.drop k) y = allowed l who may on name ∧ Below w.heap.size w wr)) (fun _ i _ => l.length - (intOf i).toNat)
  case atStart => exact ⟨0, false, Nat.zero_le _, rfl, rfl, Z.out.symm, B9.out⟩
  case round =>
    clear Z B9 CT
    obtain ⟨k, y, hk, rfl, rfl, HR⟩ := hrel
    by_cases hlt : k < l.length
    · obtain ⟨ea, hc, hga⟩ := HA.out.addr.resolve_left (by omega)
      have OL := HA.out.later keepsRul hS HR.out.2
      obtain ⟨e0, e1, e2, e3, e4, e5⟩ := rul_cells (i := k) (fun j hj => OL.cells k hlt j hj) (OL.el k hlt)
      have h0 : (0 : Int) ≤ (k : Int) := by omega
      have h1' : (k : Int) < (l.length : Int) := by omega
      have hgr : g < wr.heap.size := Nat.lt_of_lt_of_le hga HR.out.2.size
      have hz := HL.out k hlt
      have A1 := HR.out.1
      rw [run_step hlt] at A1
      have A2 := Seg.hid A1
      have BR := Seg.hid HR.out.2
      clear OL HR A1
      generalize l.getD k default = r at *
      subst ea
      have n2 : r.name.size ≤ maxLen := by unfold szRul at hz; unfold maxLen; omega
      clear hz
      have CF : Hid (∀ wx, Calls Try.prog 23 #[.agg (rrow r), .string who, .int .i64 may, .int .i64 on, .string name] wx fun e w' => e = .returned (.bool (fits r who may on name)) ∧ Below wx.heap.size wx w') := fun wx => isFor_any r who may on name wx n2 hm
      go_upto_region 10 with fail
      obtain ⟨w7, hw7⟩ : ∃ w7, wr.alloc (.cells (rrow r) 30 (0, 0)) = w7 := ⟨_, rfl⟩
      rw [hw7]
      have R7 : Hid (w7.heap[wr.heap.size]? = some (.cells (rrow r) 30 (0, 0))) := by show _ = _; rw [← hw7]; exact heap_alloc_new _ _
      have B7 : Hid (Below w.heap.size w w7) := by show Below _ _ _; rw [← hw7]; exact chain BR.out (below1 _ _)
      clear hw7 BR e0 e1 e2 e3 e4 e5
      have l7 : wr.heap.size < w7.heap.size := (Array.getElem?_eq_some_iff.1 R7.out).1
      have e0 : w7.cell? ⟨wr.heap.size, 0, none⟩ = some (.bool r.deny) := cell_of_row w7 _ 0 _ _ (0, 0) R7.out
      have e1 : w7.cell? ⟨wr.heap.size, 1, none⟩ = some (.string r.who) := cell_of_row w7 _ 1 _ _ (0, 0) R7.out
      have e2 : w7.cell? ⟨wr.heap.size, 2, none⟩ = some (.int .i64 r.may) := cell_of_row w7 _ 2 _ _ (0, 0) R7.out
      have e3 : w7.cell? ⟨wr.heap.size, 3, none⟩ = some (.int .i64 r.on) := cell_of_row w7 _ 3 _ _ (0, 0) R7.out
      have e4 : w7.cell? ⟨wr.heap.size, 4, none⟩ = some (.string r.name) := cell_of_row w7 _ 4 _ _ (0, 0) R7.out
      have e5 : w7.cell? ⟨wr.heap.size, 5, none⟩ = some (.bool r.begins) := cell_of_row w7 _ 5 _ _ (0, 0) R7.out
      cases hb : fits r who may on name with
      | false =>
        have NX : Hid (run who may on name (l.drop (k + 1)) y = allowed l who may on name) := by show _ = _; rw [← A2.out, hb]; rfl
        rw [hb] at CF
        clear hb A2
        go_wp2_with (go_at_call 23; refine (CF.out _).mono ?_; rintro e w2 ⟨rfl, b2⟩; have B2 := Seg.hid b2; clear b2)
        go_roundw
        case rel => exact ⟨k + 1, y, by omega, rfl, by go_num, NX.out, chain B7.out B2.out⟩
        case measure => simp [intOf]; omega
      | true =>
        rw [hb] at CF
        cases hd : r.deny with
        | false =>
          have NX : Hid (run who may on name (l.drop (k + 1)) true = allowed l who may on name) := by show _ = _; rw [← A2.out, hb, hd]; rfl
          unfold rrow at CF
          rw [hd] at e0 CF
          clear hb A2
          go_wp2_with (go_at_call 23; refine (CF.out _).mono ?_; rintro e w2 ⟨rfl, b2⟩; have B2 := Seg.hid b2; have f0 := (b2.cell (p := ⟨wr.heap.size, 0, none⟩) l7).trans e0; have l8 := Nat.lt_of_lt_of_le l7 b2.size; clear b2)
          go_roundw
          case rel => exact ⟨k + 1, true, by omega, rfl, by go_num, NX.out, chain B7.out B2.out⟩
          case measure => simp [intOf]; omega
        | true =>
          have NX : Hid (allowed l who may on name = false) := by show _ = _; rw [← A2.out, hb, hd]; rfl
          unfold rrow at CF
          rw [hd] at e0 CF
          clear hb A2
          go_wp2_with (go_at_call 23; refine (CF.out _).mono ?_; rintro e w2 ⟨rfl, b2⟩; have B2 := Seg.hid b2; have f0 := (b2.cell (p := ⟨wr.heap.size, 0, none⟩) l7).trans e0; have l8 := Nat.lt_of_lt_of_le l7 b2.size; clear b2)
          go_ret
          exact ⟨by rw [NX.out]; rfl, chain B7.out B2.out⟩
    · have HE := HR.out.1
      rw [List.drop_eq_nil_of_le (by omega), run] at HE
      have HE' := Seg.hid HE
      have BL := Seg.hid HR.out.2
      clear HE HR
      go_wp2
      go_ret
      exact ⟨Seg.ret_bool HE'.out, BL.out⟩
end Go.Proofs.Ytoaobifhiddpkaa.AlI
