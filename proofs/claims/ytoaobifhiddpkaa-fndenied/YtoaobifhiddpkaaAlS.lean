/- What rules allow, as the model asks. -/
import Derived.Test.YtoaobifhiddpkaaAlP
import Derived.Test.YtoaobifhiddpkaaRuL
namespace Go.Proofs.Ytoaobifhiddpkaa.AlS
set_option maxRecDepth 8000
open Go.RowKit
open Ls Lp RuP AlP
open Recs (hsz below1 below2 chain)
set_option linter.unusedVariables false
set_option maxHeartbeats 12800000 in
theorem spec_any (x : Value) (l : List Rul) (who : ByteArray) (may on : Int) (name : ByteArray) (w : World) (S : Nat → Prop) (hv : LAt 6 ERul w S x l) (hS : ∀ g, S g → g < w.heap.size) (hf : szL szRul l ≤ 1048576) (hw : who.size ≤ maxLen) (hm : name.size ≤ maxLen) :
    Calls Try.prog 9 #[x, .string who, .int .i64 may, .int .i64 on, .string name] w fun e w' => e = .returned (.bool (allowed l who may on name)) ∧ Below w.heap.size w w' := by
  have CT : Hid (Calls Try.prog 7 #[x] w fun e w' => e = .returned (.string (text l)) ∧ Below w.heap.size w w') := RuS.show_any x l w S hv hS hf
  obtain ⟨A, c, g, o, F, rfl, OA, n3⟩ := opn hv hS
  have HA := Seg.hid OA
  have hn : l.length ≤ 1048576 := szL_len _ hf
  clear hv OA hf n3
  have no : ∀ (w' : World), allowed l who may on name = false → Below w.heap.size w w' → (Ending.returned (.bool false) = .returned (.bool (allowed l who may on name)) ∧ Below w.heap.size w w') := fun w' h b => ⟨by rw [h], b⟩
  have NO := Seg.hid no
  clear no
  obtain ⟨bz, hbz⟩ : ∃ bz, (decide (l.length = 0) || !((text l).toList == [])) = bz := ⟨_, rfl⟩
  have AL : Hid (allowed l who may on name = ((bz && (Nm.nameOk who && (Nm.nameOk name && (inR 1 may 3 && inR 1 on 2)))) && run who may on name l false)) := by show _ = _; unfold allowed askOk; rw [hbz]
  go_enter Try.func9, Try.ntmps9
  have GO : ∀ (wx : World), Hid (Below w.heap.size w wx) → (bz = false → ∀ Q : Prop, Q → Q) := fun _ _ _ _ h => h
  clear GO
  obtain ⟨tx, htx⟩ : ∃ tx, text l = tx := ⟨_, rfl⟩
  rw [htx] at CT hbz
  clear htx
  by_cases hz : l.length = 0
  · have hb1 : bz = true := by rw [← hbz]; simp [hz]
    subst hb1
    clear hbz
    have hl : ¬ (0 : Int) < (l.length : Int) := by omega
    have hl' : ¬ 0 < l.length := by omega
    cases k1 : Nm.nameOk who with
    | false =>
      have Z : Hid (allowed l who may on name = false) := by show _ = _; rw [AL.out, k1]; simp
      have K1 := Seg.hid k1
      clear k1
      go_wp2_with (first | (go_at_call_of 24 (Value.string who); refine (Nm.spec_q _ _ K1.out _ hw).mono ?_; rintro e w5 ⟨rfl, rfl⟩))
      go_ret
      exact NO.out _ Z.out (Below.refl _ _)
    | true =>
    have K1 := Seg.hid k1
    cases k2 : Nm.nameOk name with
    | false =>
      have Z : Hid (allowed l who may on name = false) := by show _ = _; rw [AL.out, k2]; simp
      have K2 := Seg.hid k2
      clear k1 k2
      go_wp2_with (first | (go_at_call_of 24 (Value.string who); refine (Nm.spec_q _ _ K1.out _ hw).mono ?_; rintro e w5 ⟨rfl, rfl⟩) | (go_at_call_of 24 (Value.string name); refine (Nm.spec_q _ _ K2.out _ hm).mono ?_; rintro e w5 ⟨rfl, rfl⟩))
      go_ret
      exact NO.out _ Z.out (Below.refl _ _)
    | true =>
    have K2 := Seg.hid k2
    cases k3 : inR 1 may 3 with
    | false =>
      have Z : Hid (allowed l who may on name = false) := by show _ = _; rw [AL.out, k3]; simp
      have K3 := Seg.hid k3
      clear k1 k2 k3
      go_wp2_with (first | (go_at_call_of 24 (Value.string who); refine (Nm.spec_q _ _ K1.out _ hw).mono ?_; rintro e w5 ⟨rfl, rfl⟩) | (go_at_call_of 24 (Value.string name); refine (Nm.spec_q _ _ K2.out _ hm).mono ?_; rintro e w5 ⟨rfl, rfl⟩) | (go_at_call_of 25 (Value.int IntKind.i64 may); refine (InB.l1In_b _ _ _ false K3.out _).mono ?_; rintro e w5 ⟨rfl, rfl⟩))
      go_ret
      exact NO.out _ Z.out (Below.refl _ _)
    | true =>
    have K3 := Seg.hid k3
    cases k4 : inR 1 on 2 with
    | false =>
      have Z : Hid (allowed l who may on name = false) := by show _ = _; rw [AL.out, k4]; simp
      have K4 := Seg.hid k4
      clear k1 k2 k3 k4
      go_wp2_with (first | (go_at_call_of 24 (Value.string who); refine (Nm.spec_q _ _ K1.out _ hw).mono ?_; rintro e w5 ⟨rfl, rfl⟩) | (go_at_call_of 24 (Value.string name); refine (Nm.spec_q _ _ K2.out _ hm).mono ?_; rintro e w5 ⟨rfl, rfl⟩) | (go_at_call_of 25 (Value.int IntKind.i64 may); refine (InB.l1In_b _ _ _ true K3.out _).mono ?_; rintro e w5 ⟨rfl, rfl⟩) | (go_at_call_of 25 (Value.int IntKind.i64 on); refine (InB.l1In_b _ _ _ false K4.out _).mono ?_; rintro e w5 ⟨rfl, rfl⟩))
      go_ret
      exact NO.out _ Z.out (Below.refl _ _)
    | true =>
    have K4 := Seg.hid k4
    have AR : Hid (allowed l who may on name = run who may on name l false) := by show _ = _; rw [AL.out, k1, k2, k3, k4]; simp
    clear k1 k2 k3 k4 AL
    go_upto_region 3 with (first | (go_at_call_of 24 (Value.string who); refine (Nm.spec_q _ _ K1.out _ hw).mono ?_; rintro e w5 ⟨rfl, rfl⟩) | (go_at_call_of 24 (Value.string name); refine (Nm.spec_q _ _ K2.out _ hm).mono ?_; rintro e w5 ⟨rfl, rfl⟩) | (go_at_call_of 25 (Value.int IntKind.i64 may); refine (InB.l1In_b _ _ _ true K3.out _).mono ?_; rintro e w5 ⟨rfl, rfl⟩) | (go_at_call_of 25 (Value.int IntKind.i64 on); refine (InB.l1In_b _ _ _ true K4.out _).mono ?_; rintro e w5 ⟨rfl, rfl⟩))
    have Z : Hid (allowed l who may on name = false) := by
      show _ = _
      rw [AR.out]
      cases l with
      | nil => rfl
      | cons a t => exact absurd hz (by simp)
    go_wp2_with fail
    go_loop [11, 12] (fun y i => y = .bool false ∧ i = .int .i64 0) (fun _ _ => 0)
    case atStart => exact ⟨rfl, rfl⟩
    case round =>
      obtain ⟨rfl, rfl⟩ := hrel
      go_wp2
      go_ret
      exact NO.out _ Z.out (Below.refl _ _)
  · have hl : (0 : Int) < (l.length : Int) := by omega
    have hl' : 0 < l.length := by omega
    cases ht : (tx.toList == []) with
    | true =>
      have hb1 : bz = false := by rw [← hbz, ht]; simp [hz]
      have Z : Hid (allowed l who may on name = false) := by show _ = _; rw [AL.out, hb1]; rfl
      clear hbz
      go_wp2_with (go_at_call 7; refine CT.out.mono ?_; rintro e w2 ⟨rfl, b2⟩; have B2 := Seg.hid b2; clear b2)
      go_ret
      exact NO.out _ Z.out B2.out
    | false =>
    have hb1 : bz = true := by rw [← hbz, ht]; simp [hz]
    subst hb1
    clear hbz
    cases k1 : Nm.nameOk who with
    | false =>
      have Z : Hid (allowed l who may on name = false) := by show _ = _; rw [AL.out, k1]; simp
      have K1 := Seg.hid k1
      clear k1
      go_wp2_with (first | (go_at_call 7; refine CT.out.mono ?_; rintro e w2 ⟨rfl, b2⟩; have B2 := Seg.hid b2; clear b2) | (go_at_call_of 24 (Value.string who); refine (Nm.spec_q _ _ K1.out _ hw).mono ?_; rintro e w5 ⟨rfl, rfl⟩))
      go_ret
      exact NO.out _ Z.out B2.out
    | true =>
    have K1 := Seg.hid k1
    cases k2 : Nm.nameOk name with
    | false =>
      have Z : Hid (allowed l who may on name = false) := by show _ = _; rw [AL.out, k2]; simp
      have K2 := Seg.hid k2
      clear k1 k2
      go_wp2_with (first | (go_at_call 7; refine CT.out.mono ?_; rintro e w2 ⟨rfl, b2⟩; have B2 := Seg.hid b2; clear b2) | (go_at_call_of 24 (Value.string who); refine (Nm.spec_q _ _ K1.out _ hw).mono ?_; rintro e w5 ⟨rfl, rfl⟩) | (go_at_call_of 24 (Value.string name); refine (Nm.spec_q _ _ K2.out _ hm).mono ?_; rintro e w5 ⟨rfl, rfl⟩))
      go_ret
      exact NO.out _ Z.out B2.out
    | true =>
    have K2 := Seg.hid k2
    cases k3 : inR 1 may 3 with
    | false =>
      have Z : Hid (allowed l who may on name = false) := by show _ = _; rw [AL.out, k3]; simp
      have K3 := Seg.hid k3
      clear k1 k2 k3
      go_wp2_with (first | (go_at_call 7; refine CT.out.mono ?_; rintro e w2 ⟨rfl, b2⟩; have B2 := Seg.hid b2; clear b2) | (go_at_call_of 24 (Value.string who); refine (Nm.spec_q _ _ K1.out _ hw).mono ?_; rintro e w5 ⟨rfl, rfl⟩) | (go_at_call_of 24 (Value.string name); refine (Nm.spec_q _ _ K2.out _ hm).mono ?_; rintro e w5 ⟨rfl, rfl⟩) | (go_at_call_of 25 (Value.int IntKind.i64 may); refine (InB.l1In_b _ _ _ false K3.out _).mono ?_; rintro e w5 ⟨rfl, rfl⟩))
      go_ret
      exact NO.out _ Z.out B2.out
    | true =>
    have K3 := Seg.hid k3
    cases k4 : inR 1 on 2 with
    | false =>
      have Z : Hid (allowed l who may on name = false) := by show _ = _; rw [AL.out, k4]; simp
      have K4 := Seg.hid k4
      clear k1 k2 k3 k4
      go_wp2_with (first | (go_at_call 7; refine CT.out.mono ?_; rintro e w2 ⟨rfl, b2⟩; have B2 := Seg.hid b2; clear b2) | (go_at_call_of 24 (Value.string who); refine (Nm.spec_q _ _ K1.out _ hw).mono ?_; rintro e w5 ⟨rfl, rfl⟩) | (go_at_call_of 24 (Value.string name); refine (Nm.spec_q _ _ K2.out _ hm).mono ?_; rintro e w5 ⟨rfl, rfl⟩) | (go_at_call_of 25 (Value.int IntKind.i64 may); refine (InB.l1In_b _ _ _ true K3.out _).mono ?_; rintro e w5 ⟨rfl, rfl⟩) | (go_at_call_of 25 (Value.int IntKind.i64 on); refine (InB.l1In_b _ _ _ false K4.out _).mono ?_; rintro e w5 ⟨rfl, rfl⟩))
      go_ret
      exact NO.out _ Z.out B2.out
    | true =>
    have K4 := Seg.hid k4
    have AR : Hid (allowed l who may on name = run who may on name l false) := by show _ = _; rw [AL.out, k1, k2, k3, k4]; simp
    clear k1 k2 k3 k4 AL
    go_upto_region 3 with (first | (go_at_call 7; refine CT.out.mono ?_; rintro e w2 ⟨rfl, b2⟩; have B2 := Seg.hid b2; clear b2) | (go_at_call_of 24 (Value.string who); refine (Nm.spec_q _ _ K1.out _ hw).mono ?_; rintro e w5 ⟨rfl, rfl⟩) | (go_at_call_of 24 (Value.string name); refine (Nm.spec_q _ _ K2.out _ hm).mono ?_; rintro e w5 ⟨rfl, rfl⟩) | (go_at_call_of 25 (Value.int IntKind.i64 may); refine (InB.l1In_b _ _ _ true K3.out _).mono ?_; rintro e w5 ⟨rfl, rfl⟩) | (go_at_call_of 25 (Value.int IntKind.i64 on); refine (InB.l1In_b _ _ _ true K4.out _).mono ?_; rintro e w5 ⟨rfl, rfl⟩))
    go_wp2_with fail
    go_loopw [11, 12] (fun y i wr => ∃ (k : Nat) (b : Bool), k ≤ l.length ∧ y = .bool b ∧ i = .int .i64 k ∧ Hid (run who may on name (l.drop k) b = allowed l who may on name ∧ Below w.heap.size w wr)) (fun _ i _ => l.length - (intOf i).toNat)
    case atStart => exact ⟨0, false, Nat.zero_le _, rfl, rfl, AR.out.symm, B2.out⟩
    case round =>
      obtain ⟨k, b, hk, rfl, rfl, HR⟩ := hrel
      by_cases hlt : k < l.length
      · obtain ⟨ea, hc, hga⟩ := HA.out.addr.resolve_left (by omega)
        have OL := HA.out.later keepsRul hS HR.out.2
        obtain ⟨e0, e1, e2, e3, e4, e5⟩ := rul_cells (i := k) (fun j hj => OL.cells k hlt j hj) (OL.el k hlt)
        have h0 : (0 : Int) ≤ (k : Int) := by omega
        have h1' : (k : Int) < (l.length : Int) := by omega
        have hgr : g < wr.heap.size := Nat.lt_of_lt_of_le hga HR.out.2.size
        have HD : Hid ((if fits (l.getD k default) who may on name = true then (if (l.getD k default).deny = true then false else run who may on name (l.drop (k + 1)) true) else run who may on name (l.drop (k + 1)) b) = allowed l who may on name) := by
          have := HR.out.1
          rw [run_step hlt] at this
          exact this
        have BR := Seg.hid HR.out.2
        clear OL HR
        generalize l.getD k default = r at *
        subst ea
        go_upto_region 8 with fail
        obtain ⟨wz, hwz⟩ : ∃ wz, wr.alloc (.cells (rrow r) 30 (0, 0)) = wz := ⟨_, rfl⟩
        rw [hwz]
        have RZ : Hid (wz.heap[wr.heap.size]? = some (.cells (rrow r) 30 (0, 0))) := by show _ = _; rw [← hwz]; exact heap_alloc_new _ _
        have BZ : Hid (Below w.heap.size w wz) := by show Below _ _ _; rw [← hwz]; exact chain BR.out (below1 wr _)
        have hlz : wr.heap.size < wz.heap.size := (Array.getElem?_eq_some_iff.1 RZ.out).1
        clear hwz e0 e1 e2 e3 e4 e5 BR
        have c0 : wz.cell? ⟨wr.heap.size, 0, none⟩ = some (.bool r.deny) := cell_of_row wz _ 0 _ _ (0, 0) RZ.out
        have c1 : wz.cell? ⟨wr.heap.size, 1, none⟩ = some (.string r.who) := cell_of_row wz _ 1 _ _ (0, 0) RZ.out
        have c2 : wz.cell? ⟨wr.heap.size, 2, none⟩ = some (.int .i64 r.may) := cell_of_row wz _ 2 _ _ (0, 0) RZ.out
        have c3 : wz.cell? ⟨wr.heap.size, 3, none⟩ = some (.int .i64 r.on) := cell_of_row wz _ 3 _ _ (0, 0) RZ.out
        have c4 : wz.cell? ⟨wr.heap.size, 4, none⟩ = some (.string r.name) := cell_of_row wz _ 4 _ _ (0, 0) RZ.out
        have c5 : wz.cell? ⟨wr.heap.size, 5, none⟩ = some (.bool r.begins) := cell_of_row wz _ 5 _ _ (0, 0) RZ.out
        obtain ⟨b1, hb1⟩ : ∃ b1, (r.who.toList == [42]) = b1 := ⟨_, rfl⟩
        obtain ⟨b2, hb2⟩ : ∃ b2, (r.who.toList == who.toList) = b2 := ⟨_, rfl⟩
        obtain ⟨b3, hb3⟩ : ∃ b3, (r.may == 4) = b3 := ⟨_, rfl⟩
        obtain ⟨b4, hb4⟩ : ∃ b4, (r.may == may) = b4 := ⟨_, rfl⟩
        obtain ⟨b5, hb5⟩ : ∃ b5, (r.on == on) = b5 := ⟨_, rfl⟩
        have FT : Hid (fits r who may on name = (((b1 || b2) && ((b3 || b4) && b5)) && forName r name)) := by show _ = _; unfold fits forWho forMay; rw [hb1, hb2, hb3, hb4, hb5]
        cases hq : ((b1 || b2) && ((b3 || b4) && b5)) with
        | false =>
          have Z : Hid (run who may on name (l.drop (k + 1)) b = allowed l who may on name) := by show _ = _; rw [← HD.out, if_neg (by rw [FT.out, hq]; simp)]
          clear HD FT
          cases b1 <;> cases b2 <;> cases b3 <;> cases b4 <;> cases b5 <;> simp at hq
          all_goals
            go_wp2
            all_goals exact ⟨⟨k + 1, b, by omega, rfl, by go_num, Z.out, BZ.out⟩, by simp [intOf]; omega⟩
        | true =>
          have F2 : Hid (fits r who may on name = forName r name) := by show _ = _; rw [FT.out, hq]; simp
          clear FT
          have J8 : (b1 = true ∨ (b1 = false ∧ b2 = true)) ∧ (b3 = true ∨ (b3 = false ∧ b4 = true)) ∧ b5 = true := by
            cases b1 <;> cases b2 <;> cases b3 <;> cases b4 <;> cases b5 <;> simp_all
          clear hq
          obtain ⟨q1, q3, q5⟩ := J8
          subst q5
          have m5 : (r.on != on) = false := by simp [bne, hb5]
          rcases q1 with rfl | ⟨rfl, rfl⟩
          · have m1 : (r.who.toList != [42]) = false := by simp [bne, hb1]
            rcases q3 with rfl | ⟨rfl, rfl⟩
            · have m3 : (r.may != 4) = false := by simp [bne, hb3]
              go_upto_region 9 with fail
              by_cases hn1 : r.name.toList = name.toList
              · have v1 : (r.name.toList == name.toList) = true := by simp [hn1]
                have v2 : (r.name.toList != name.toList) = false := by simp [bne, v1]
                have FY : Hid (fits r who may on name = true) := by show _ = _; rw [F2.out]; simp [forName, v1]
                clear hn1
                go_quiet (fail)
                cases hd : r.deny with
                | true =>
                  have Z : Hid (allowed l who may on name = false) := by show _ = _; rw [← HD.out, if_pos FY.out, if_pos hd]
                  rw [hd] at c0
                  go_wp2
                  go_ret
                  exact NO.out _ Z.out (chain BZ.out ((Qt.refl _).drewN _ |>.bel _))
                | false =>
                  have Z : Hid (run who may on name (l.drop (k + 1)) true = allowed l who may on name) := by show _ = _; rw [← HD.out, if_pos FY.out, if_neg (by rw [hd]; simp)]
                  rw [hd] at c0
                  go_wp2
                  go_roundw
                  case rel => exact ⟨k + 1, true, by omega, rfl, by go_num, Z.out, (chain BZ.out ((Qt.refl _).drewN _ |>.bel _))⟩
                  case measure => simp [intOf]; omega
              · have v1 : (r.name.toList == name.toList) = false := by simp [hn1]
                have v2 : (r.name.toList != name.toList) = true := by simp [bne, v1]
                cases hbg : r.begins with
                | false =>
                  rw [hbg] at c5
                  have FN : Hid (fits r who may on name = false) := by show _ = _; rw [F2.out]; simp [forName, v1, hbg]
                  clear hn1
                  have Z : Hid (run who may on name (l.drop (k + 1)) b = allowed l who may on name) := by show _ = _; rw [← HD.out, if_neg (by rw [FN.out]; simp)]
                  go_quiet (fail)
                  go_wp2
                  go_roundw
                  case rel => exact ⟨k + 1, b, by omega, rfl, by go_num, Z.out, (chain BZ.out ((Qt.refl _).drewN _ |>.bel _))⟩
                  case measure => simp [intOf]; omega
                | true =>
                  rw [hbg] at c5
                  have v6 : r.name.size ≤ 9223372036854775807 ∨ 9223372036854775807 < r.name.size := by omega
                  by_cases hle : r.name.size ≤ name.size
                  · have v3 : (r.name.size : Int) ≤ (name.size : Int) := by omega
                    have v4 : ¬ (name.size : Int) < (r.name.size : Int) := by omega
                    have v5 : decide ((r.name.size : Int) ≤ (name.size : Int)) = true := by simp [hle]
                    have v6 : r.name.size ≤ 9223372036854775807 := by unfold maxLen at hm; omega
                    have v7 : name.size ≤ 9223372036854775807 := by unfold maxLen at hm; omega
                    have v8 : (0 : Int) ≤ (r.name.size : Int) := by omega
                    cases hx : ((name.extract 0 r.name.size).toList == r.name.toList) with
                    | true =>
                      have FY : Hid (fits r who may on name = true) := by show _ = _; rw [F2.out]; simp only [forName, pre, v1, hbg, hx]; simp [hle]
                      clear hn1
                      go_quiet (fail)
                      cases hd : r.deny with
                      | true =>
                        have Z : Hid (allowed l who may on name = false) := by show _ = _; rw [← HD.out, if_pos FY.out, if_pos hd]
                        rw [hd] at c0
                        go_wp2
                        go_ret
                        exact NO.out _ Z.out (chain BZ.out ((Qt.refl _).drewN _ |>.bel _))
                      | false =>
                        have Z : Hid (run who may on name (l.drop (k + 1)) true = allowed l who may on name) := by show _ = _; rw [← HD.out, if_pos FY.out, if_neg (by rw [hd]; simp)]
                        rw [hd] at c0
                        go_wp2
                        go_roundw
                        case rel => exact ⟨k + 1, true, by omega, rfl, by go_num, Z.out, (chain BZ.out ((Qt.refl _).drewN _ |>.bel _))⟩
                        case measure => simp [intOf]; omega
                    | false =>
                      have FN : Hid (fits r who may on name = false) := by show _ = _; rw [F2.out]; simp only [forName, pre, v1, hbg, hx]; simp
                      clear hn1
                      have Z : Hid (run who may on name (l.drop (k + 1)) b = allowed l who may on name) := by show _ = _; rw [← HD.out, if_neg (by rw [FN.out]; simp)]
                      go_quiet (fail)
                      go_wp2
                      go_roundw
                      case rel => exact ⟨k + 1, b, by omega, rfl, by go_num, Z.out, (chain BZ.out ((Qt.refl _).drewN _ |>.bel _))⟩
                      case measure => simp [intOf]; omega
                  · have v3 : ¬ (r.name.size : Int) ≤ (name.size : Int) := by omega
                    have v4 : (name.size : Int) < (r.name.size : Int) := by omega
                    have v5 : decide ((r.name.size : Int) ≤ (name.size : Int)) = false := by simp [hle]
                    have FN : Hid (fits r who may on name = false) := by show _ = _; rw [F2.out]; simp only [forName, pre, v1, hbg]; simp [hle]
                    clear hn1 hle
                    have Z : Hid (run who may on name (l.drop (k + 1)) b = allowed l who may on name) := by show _ = _; rw [← HD.out, if_neg (by rw [FN.out]; simp)]
                    go_quiet (fail)
                    go_wp2
                    go_roundw
                    case rel => exact ⟨k + 1, b, by omega, rfl, by go_num, Z.out, (chain BZ.out ((Qt.refl _).drewN _ |>.bel _))⟩
                    case measure => simp [intOf]; omega
            · have m3 : (r.may != 4) = true := by simp [bne, hb3]
              have m4 : (r.may != may) = false := by simp [bne, hb4]
              go_upto_region 9 with fail
              by_cases hn1 : r.name.toList = name.toList
              · have v1 : (r.name.toList == name.toList) = true := by simp [hn1]
                have v2 : (r.name.toList != name.toList) = false := by simp [bne, v1]
                have FY : Hid (fits r who may on name = true) := by show _ = _; rw [F2.out]; simp [forName, v1]
                clear hn1
                go_quiet (fail)
                cases hd : r.deny with
                | true =>
                  have Z : Hid (allowed l who may on name = false) := by show _ = _; rw [← HD.out, if_pos FY.out, if_pos hd]
                  rw [hd] at c0
                  go_wp2
                  go_ret
                  exact NO.out _ Z.out (chain BZ.out ((Qt.refl _).drewN _ |>.bel _))
                | false =>
                  have Z : Hid (run who may on name (l.drop (k + 1)) true = allowed l who may on name) := by show _ = _; rw [← HD.out, if_pos FY.out, if_neg (by rw [hd]; simp)]
                  rw [hd] at c0
                  go_wp2
                  go_roundw
                  case rel => exact ⟨k + 1, true, by omega, rfl, by go_num, Z.out, (chain BZ.out ((Qt.refl _).drewN _ |>.bel _))⟩
                  case measure => simp [intOf]; omega
              · have v1 : (r.name.toList == name.toList) = false := by simp [hn1]
                have v2 : (r.name.toList != name.toList) = true := by simp [bne, v1]
                cases hbg : r.begins with
                | false =>
                  rw [hbg] at c5
                  have FN : Hid (fits r who may on name = false) := by show _ = _; rw [F2.out]; simp [forName, v1, hbg]
                  clear hn1
                  have Z : Hid (run who may on name (l.drop (k + 1)) b = allowed l who may on name) := by show _ = _; rw [← HD.out, if_neg (by rw [FN.out]; simp)]
                  go_quiet (fail)
                  go_wp2
                  go_roundw
                  case rel => exact ⟨k + 1, b, by omega, rfl, by go_num, Z.out, (chain BZ.out ((Qt.refl _).drewN _ |>.bel _))⟩
                  case measure => simp [intOf]; omega
                | true =>
                  rw [hbg] at c5
                  have v6 : r.name.size ≤ 9223372036854775807 ∨ 9223372036854775807 < r.name.size := by omega
                  by_cases hle : r.name.size ≤ name.size
                  · have v3 : (r.name.size : Int) ≤ (name.size : Int) := by omega
                    have v4 : ¬ (name.size : Int) < (r.name.size : Int) := by omega
                    have v5 : decide ((r.name.size : Int) ≤ (name.size : Int)) = true := by simp [hle]
                    have v6 : r.name.size ≤ 9223372036854775807 := by unfold maxLen at hm; omega
                    have v7 : name.size ≤ 9223372036854775807 := by unfold maxLen at hm; omega
                    have v8 : (0 : Int) ≤ (r.name.size : Int) := by omega
                    cases hx : ((name.extract 0 r.name.size).toList == r.name.toList) with
                    | true =>
                      have FY : Hid (fits r who may on name = true) := by show _ = _; rw [F2.out]; simp only [forName, pre, v1, hbg, hx]; simp [hle]
                      clear hn1
                      go_quiet (fail)
                      cases hd : r.deny with
                      | true =>
                        have Z : Hid (allowed l who may on name = false) := by show _ = _; rw [← HD.out, if_pos FY.out, if_pos hd]
                        rw [hd] at c0
                        go_wp2
                        go_ret
                        exact NO.out _ Z.out (chain BZ.out ((Qt.refl _).drewN _ |>.bel _))
                      | false =>
                        have Z : Hid (run who may on name (l.drop (k + 1)) true = allowed l who may on name) := by show _ = _; rw [← HD.out, if_pos FY.out, if_neg (by rw [hd]; simp)]
                        rw [hd] at c0
                        go_wp2
                        go_roundw
                        case rel => exact ⟨k + 1, true, by omega, rfl, by go_num, Z.out, (chain BZ.out ((Qt.refl _).drewN _ |>.bel _))⟩
                        case measure => simp [intOf]; omega
                    | false =>
                      have FN : Hid (fits r who may on name = false) := by show _ = _; rw [F2.out]; simp only [forName, pre, v1, hbg, hx]; simp
                      clear hn1
                      have Z : Hid (run who may on name (l.drop (k + 1)) b = allowed l who may on name) := by show _ = _; rw [← HD.out, if_neg (by rw [FN.out]; simp)]
                      go_quiet (fail)
                      go_wp2
                      go_roundw
                      case rel => exact ⟨k + 1, b, by omega, rfl, by go_num, Z.out, (chain BZ.out ((Qt.refl _).drewN _ |>.bel _))⟩
                      case measure => simp [intOf]; omega
                  · have v3 : ¬ (r.name.size : Int) ≤ (name.size : Int) := by omega
                    have v4 : (name.size : Int) < (r.name.size : Int) := by omega
                    have v5 : decide ((r.name.size : Int) ≤ (name.size : Int)) = false := by simp [hle]
                    have FN : Hid (fits r who may on name = false) := by show _ = _; rw [F2.out]; simp only [forName, pre, v1, hbg]; simp [hle]
                    clear hn1 hle
                    have Z : Hid (run who may on name (l.drop (k + 1)) b = allowed l who may on name) := by show _ = _; rw [← HD.out, if_neg (by rw [FN.out]; simp)]
                    go_quiet (fail)
                    go_wp2
                    go_roundw
                    case rel => exact ⟨k + 1, b, by omega, rfl, by go_num, Z.out, (chain BZ.out ((Qt.refl _).drewN _ |>.bel _))⟩
                    case measure => simp [intOf]; omega
          · have m1 : (r.who.toList != [42]) = true := by simp [bne, hb1]
            have m2 : (r.who.toList != who.toList) = false := by simp [bne, hb2]
            rcases q3 with rfl | ⟨rfl, rfl⟩
            · have m3 : (r.may != 4) = false := by simp [bne, hb3]
              go_upto_region 9 with fail
              by_cases hn1 : r.name.toList = name.toList
              · have v1 : (r.name.toList == name.toList) = true := by simp [hn1]
                have v2 : (r.name.toList != name.toList) = false := by simp [bne, v1]
                have FY : Hid (fits r who may on name = true) := by show _ = _; rw [F2.out]; simp [forName, v1]
                clear hn1
                go_quiet (fail)
                cases hd : r.deny with
                | true =>
                  have Z : Hid (allowed l who may on name = false) := by show _ = _; rw [← HD.out, if_pos FY.out, if_pos hd]
                  rw [hd] at c0
                  go_wp2
                  go_ret
                  exact NO.out _ Z.out (chain BZ.out ((Qt.refl _).drewN _ |>.bel _))
                | false =>
                  have Z : Hid (run who may on name (l.drop (k + 1)) true = allowed l who may on name) := by show _ = _; rw [← HD.out, if_pos FY.out, if_neg (by rw [hd]; simp)]
                  rw [hd] at c0
                  go_wp2
                  go_roundw
                  case rel => exact ⟨k + 1, true, by omega, rfl, by go_num, Z.out, (chain BZ.out ((Qt.refl _).drewN _ |>.bel _))⟩
                  case measure => simp [intOf]; omega
              · have v1 : (r.name.toList == name.toList) = false := by simp [hn1]
                have v2 : (r.name.toList != name.toList) = true := by simp [bne, v1]
                cases hbg : r.begins with
                | false =>
                  rw [hbg] at c5
                  have FN : Hid (fits r who may on name = false) := by show _ = _; rw [F2.out]; simp [forName, v1, hbg]
                  clear hn1
                  have Z : Hid (run who may on name (l.drop (k + 1)) b = allowed l who may on name) := by show _ = _; rw [← HD.out, if_neg (by rw [FN.out]; simp)]
                  go_quiet (fail)
                  go_wp2
                  go_roundw
                  case rel => exact ⟨k + 1, b, by omega, rfl, by go_num, Z.out, (chain BZ.out ((Qt.refl _).drewN _ |>.bel _))⟩
                  case measure => simp [intOf]; omega
                | true =>
                  rw [hbg] at c5
                  have v6 : r.name.size ≤ 9223372036854775807 ∨ 9223372036854775807 < r.name.size := by omega
                  by_cases hle : r.name.size ≤ name.size
                  · have v3 : (r.name.size : Int) ≤ (name.size : Int) := by omega
                    have v4 : ¬ (name.size : Int) < (r.name.size : Int) := by omega
                    have v5 : decide ((r.name.size : Int) ≤ (name.size : Int)) = true := by simp [hle]
                    have v6 : r.name.size ≤ 9223372036854775807 := by unfold maxLen at hm; omega
                    have v7 : name.size ≤ 9223372036854775807 := by unfold maxLen at hm; omega
                    have v8 : (0 : Int) ≤ (r.name.size : Int) := by omega
                    cases hx : ((name.extract 0 r.name.size).toList == r.name.toList) with
                    | true =>
                      have FY : Hid (fits r who may on name = true) := by show _ = _; rw [F2.out]; simp only [forName, pre, v1, hbg, hx]; simp [hle]
                      clear hn1
                      go_quiet (fail)
                      cases hd : r.deny with
                      | true =>
                        have Z : Hid (allowed l who may on name = false) := by show _ = _; rw [← HD.out, if_pos FY.out, if_pos hd]
                        rw [hd] at c0
                        go_wp2
                        go_ret
                        exact NO.out _ Z.out (chain BZ.out ((Qt.refl _).drewN _ |>.bel _))
                      | false =>
                        have Z : Hid (run who may on name (l.drop (k + 1)) true = allowed l who may on name) := by show _ = _; rw [← HD.out, if_pos FY.out, if_neg (by rw [hd]; simp)]
                        rw [hd] at c0
                        go_wp2
                        go_roundw
                        case rel => exact ⟨k + 1, true, by omega, rfl, by go_num, Z.out, (chain BZ.out ((Qt.refl _).drewN _ |>.bel _))⟩
                        case measure => simp [intOf]; omega
                    | false =>
                      have FN : Hid (fits r who may on name = false) := by show _ = _; rw [F2.out]; simp only [forName, pre, v1, hbg, hx]; simp
                      clear hn1
                      have Z : Hid (run who may on name (l.drop (k + 1)) b = allowed l who may on name) := by show _ = _; rw [← HD.out, if_neg (by rw [FN.out]; simp)]
                      go_quiet (fail)
                      go_wp2
                      go_roundw
                      case rel => exact ⟨k + 1, b, by omega, rfl, by go_num, Z.out, (chain BZ.out ((Qt.refl _).drewN _ |>.bel _))⟩
                      case measure => simp [intOf]; omega
                  · have v3 : ¬ (r.name.size : Int) ≤ (name.size : Int) := by omega
                    have v4 : (name.size : Int) < (r.name.size : Int) := by omega
                    have v5 : decide ((r.name.size : Int) ≤ (name.size : Int)) = false := by simp [hle]
                    have FN : Hid (fits r who may on name = false) := by show _ = _; rw [F2.out]; simp only [forName, pre, v1, hbg]; simp [hle]
                    clear hn1 hle
                    have Z : Hid (run who may on name (l.drop (k + 1)) b = allowed l who may on name) := by show _ = _; rw [← HD.out, if_neg (by rw [FN.out]; simp)]
                    go_quiet (fail)
                    go_wp2
                    go_roundw
                    case rel => exact ⟨k + 1, b, by omega, rfl, by go_num, Z.out, (chain BZ.out ((Qt.refl _).drewN _ |>.bel _))⟩
                    case measure => simp [intOf]; omega
            · have m3 : (r.may != 4) = true := by simp [bne, hb3]
              have m4 : (r.may != may) = false := by simp [bne, hb4]
              go_upto_region 9 with fail
              by_cases hn1 : r.name.toList = name.toList
              · have v1 : (r.name.toList == name.toList) = true := by simp [hn1]
                have v2 : (r.name.toList != name.toList) = false := by simp [bne, v1]
                have FY : Hid (fits r who may on name = true) := by show _ = _; rw [F2.out]; simp [forName, v1]
                clear hn1
                go_quiet (fail)
                cases hd : r.deny with
                | true =>
                  have Z : Hid (allowed l who may on name = false) := by show _ = _; rw [← HD.out, if_pos FY.out, if_pos hd]
                  rw [hd] at c0
                  go_wp2
                  go_ret
                  exact NO.out _ Z.out (chain BZ.out ((Qt.refl _).drewN _ |>.bel _))
                | false =>
                  have Z : Hid (run who may on name (l.drop (k + 1)) true = allowed l who may on name) := by show _ = _; rw [← HD.out, if_pos FY.out, if_neg (by rw [hd]; simp)]
                  rw [hd] at c0
                  go_wp2
                  go_roundw
                  case rel => exact ⟨k + 1, true, by omega, rfl, by go_num, Z.out, (chain BZ.out ((Qt.refl _).drewN _ |>.bel _))⟩
                  case measure => simp [intOf]; omega
              · have v1 : (r.name.toList == name.toList) = false := by simp [hn1]
                have v2 : (r.name.toList != name.toList) = true := by simp [bne, v1]
                cases hbg : r.begins with
                | false =>
                  rw [hbg] at c5
                  have FN : Hid (fits r who may on name = false) := by show _ = _; rw [F2.out]; simp [forName, v1, hbg]
                  clear hn1
                  have Z : Hid (run who may on name (l.drop (k + 1)) b = allowed l who may on name) := by show _ = _; rw [← HD.out, if_neg (by rw [FN.out]; simp)]
                  go_quiet (fail)
                  go_wp2
                  go_roundw
                  case rel => exact ⟨k + 1, b, by omega, rfl, by go_num, Z.out, (chain BZ.out ((Qt.refl _).drewN _ |>.bel _))⟩
                  case measure => simp [intOf]; omega
                | true =>
                  rw [hbg] at c5
                  have v6 : r.name.size ≤ 9223372036854775807 ∨ 9223372036854775807 < r.name.size := by omega
                  by_cases hle : r.name.size ≤ name.size
                  · have v3 : (r.name.size : Int) ≤ (name.size : Int) := by omega
                    have v4 : ¬ (name.size : Int) < (r.name.size : Int) := by omega
                    have v5 : decide ((r.name.size : Int) ≤ (name.size : Int)) = true := by simp [hle]
                    have v6 : r.name.size ≤ 9223372036854775807 := by unfold maxLen at hm; omega
                    have v7 : name.size ≤ 9223372036854775807 := by unfold maxLen at hm; omega
                    have v8 : (0 : Int) ≤ (r.name.size : Int) := by omega
                    cases hx : ((name.extract 0 r.name.size).toList == r.name.toList) with
                    | true =>
                      have FY : Hid (fits r who may on name = true) := by show _ = _; rw [F2.out]; simp only [forName, pre, v1, hbg, hx]; simp [hle]
                      clear hn1
                      go_quiet (fail)
                      cases hd : r.deny with
                      | true =>
                        have Z : Hid (allowed l who may on name = false) := by show _ = _; rw [← HD.out, if_pos FY.out, if_pos hd]
                        rw [hd] at c0
                        go_wp2
                        go_ret
                        exact NO.out _ Z.out (chain BZ.out ((Qt.refl _).drewN _ |>.bel _))
                      | false =>
                        have Z : Hid (run who may on name (l.drop (k + 1)) true = allowed l who may on name) := by show _ = _; rw [← HD.out, if_pos FY.out, if_neg (by rw [hd]; simp)]
                        rw [hd] at c0
                        go_wp2
                        go_roundw
                        case rel => exact ⟨k + 1, true, by omega, rfl, by go_num, Z.out, (chain BZ.out ((Qt.refl _).drewN _ |>.bel _))⟩
                        case measure => simp [intOf]; omega
                    | false =>
                      have FN : Hid (fits r who may on name = false) := by show _ = _; rw [F2.out]; simp only [forName, pre, v1, hbg, hx]; simp
                      clear hn1
                      have Z : Hid (run who may on name (l.drop (k + 1)) b = allowed l who may on name) := by show _ = _; rw [← HD.out, if_neg (by rw [FN.out]; simp)]
                      go_quiet (fail)
                      go_wp2
                      go_roundw
                      case rel => exact ⟨k + 1, b, by omega, rfl, by go_num, Z.out, (chain BZ.out ((Qt.refl _).drewN _ |>.bel _))⟩
                      case measure => simp [intOf]; omega
                  · have v3 : ¬ (r.name.size : Int) ≤ (name.size : Int) := by omega
                    have v4 : (name.size : Int) < (r.name.size : Int) := by omega
                    have v5 : decide ((r.name.size : Int) ≤ (name.size : Int)) = false := by simp [hle]
                    have FN : Hid (fits r who may on name = false) := by show _ = _; rw [F2.out]; simp only [forName, pre, v1, hbg]; simp [hle]
                    clear hn1 hle
                    have Z : Hid (run who may on name (l.drop (k + 1)) b = allowed l who may on name) := by show _ = _; rw [← HD.out, if_neg (by rw [FN.out]; simp)]
                    go_quiet (fail)
                    go_wp2
                    go_roundw
                    case rel => exact ⟨k + 1, b, by omega, rfl, by go_num, Z.out, (chain BZ.out ((Qt.refl _).drewN _ |>.bel _))⟩
                    case measure => simp [intOf]; omega
      · have Z : Hid (b = allowed l who may on name) := by
          have := HR.out.1
          rw [List.drop_eq_nil_of_le (by omega)] at this
          exact this
        have BR := Seg.hid HR.out.2
        clear HR
        go_wp2
        go_ret
        exact ⟨by rw [← Z.out]; rfl, BR.out⟩
end Go.Proofs.Ytoaobifhiddpkaa.AlS
