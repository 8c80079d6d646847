/- Still of the model. -/
import Derived.Test.YtfdfhhiaalbfiaaStlP
import Derived.Test.YtfdfhhiaalbfiaaGpS
import Derived.Deep.RegionHeld3
import Derived.BigQuiet
namespace Go.Proofs.Ytfdfhhiaalbfiaa.StlS
set_option maxRecDepth 8000
open Go.RowKit
open Ls Lp WnP GpP StlP
open Recs (hsz below1 below2 chain)
set_option linter.unusedVariables false
set_option maxHeartbeats 3200000 in
theorem same_any (x y : Value) (a b : List Slt) (w : World) (S : Nat → Prop) (hx : LAt 2 ESlt w S x a) (hy : LAt 2 ESlt w S y b) (hS : ∀ g, S g → g < w.heap.size) :
    Calls Try.prog 45 #[x, y] w fun e w' => e = .returned (.bool (sameL a b)) ∧ Below w.heap.size w w' := by
  obtain ⟨A, c, g, o, F, rfl, OA, n3⟩ := opn hx hS
  obtain ⟨A2, c2, g2, o2, F2, rfl, OB, n4⟩ := opn hy hS
  have HA := Seg.hid OA
  have HB := Seg.hid OB
  clear hx hy OA OB
  go_enter Try.func45, Try.ntmps45
  by_cases hl : a.length = b.length
  case neg =>
    have Z := Seg.hid (sameL_len a b hl)
    have hq : ((a.length : Int) == (b.length : Int)) = false := by simp; omega
    go_wp2
    go_ret
    exact ⟨Seg.ret_bool Z.out.symm, Below.refl _ _⟩
  have HL := Seg.hid hl
  have hq : ((a.length : Int) == (b.length : Int)) = true := by simp; omega
  clear hl
  go_wp2_with fail
  go_loopw [5] (fun i wr => ∃ (k : Nat), k ≤ a.length ∧ i = .int .i64 k ∧ Hid (sameL (a.drop k) (b.drop k) = sameL a b ∧ Below w.heap.size w wr)) (fun i _ => a.length - (intOf i).toNat)
  case atStart => exact ⟨0, Nat.zero_le _, rfl, rfl, Below.refl _ _⟩
  case round =>
    obtain ⟨k, hk, rfl, HR⟩ := hrel
    by_cases hlt : k < a.length
    · have hlb : k < b.length := by rw [← HL.out]; exact hlt
      obtain ⟨ea, hc, hga⟩ := HA.out.addr.resolve_left (by omega)
      obtain ⟨eb, hcb, hgb⟩ := HB.out.addr.resolve_left (by omega)
      have OL := HA.out.later keepsSlt hS HR.out.2
      have OM := HB.out.later keepsSlt hS HR.out.2
      obtain ⟨d0, d1⟩ := slt_cells (i := k) (fun j hj => OL.cells k hlt j hj) (OL.el k hlt)
      obtain ⟨e0, e1⟩ := slt_cells (i := k) (fun j hj => OM.cells k hlb j hj) (OM.el k hlb)
      have h0 : (0 : Int) ≤ (k : Int) := by omega
      have h1 : (k : Int) < (a.length : Int) := by omega
      have h2 : (k : Int) < (b.length : Int) := by omega
      have HD := HR.out.1
      rw [sameL_step hlt hlb] at HD
      have HD' := Seg.hid HD
      clear OL OM HD
      generalize a.getD k default = p at *
      generalize b.getD k default = r at *
      subst ea
      subst eb
      by_cases q1 : p.topic.toList = r.topic.toList
      · have q2 : (p.topic.toList == r.topic.toList) = true := by simp [q1]
        by_cases q3 : p.part = r.part
        · have q4 : (p.part == r.part) = true := by simp [q3]
          have Z : Hid (sameL (a.drop (k + 1)) (b.drop (k + 1)) = sameL a b) := by show _ = _; rw [← HD'.out]; simp [sameS, q1, q3]
          clear q1 q3
          go_wp2_with fail
          go_quiet (fail)
          go_wp2
          go_roundw
          case rel => exact ⟨k + 1, by omega, by go_num, Z.out, chain HR.out.2 ((Qt.refl _).drewN _ |>.bel _)⟩
          case measure => simp [intOf]; omega
        · have q4 : (p.part == r.part) = false := by simp [q3]
          have Z : Hid (sameL a b = false) := by show _ = _; rw [← HD'.out]; simp [sameS, q3]
          clear q1
          go_wp2_with fail
          go_quiet (fail)
          go_wp2
          go_ret
          exact ⟨Seg.ret_bool Z.out.symm, chain HR.out.2 ((Qt.refl _).drewN _ |>.bel _)⟩
      · have q2 : (p.topic.toList == r.topic.toList) = false := beq_false_of_ne q1
        have Z : Hid (sameL a b = false) := by show _ = _; rw [← HD'.out]; simp [sameS, q1]
        go_wp2_with fail
        go_quiet (fail)
        go_wp2
        go_ret
        exact ⟨Seg.ret_bool Z.out.symm, chain HR.out.2 ((Qt.refl _).drewN _ |>.bel _)⟩
    · have HE := HR.out.1
      rw [List.drop_eq_nil_of_le (by omega), List.drop_eq_nil_of_le (by have := HL.out; omega)] at HE
      have HE' := Seg.hid HE
      clear HE
      go_wp2
      go_ret
      exact ⟨Seg.ret_bool HE'.out, HR.out.2⟩
set_option maxHeartbeats 6400000 in
theorem spec_any (x : Value) (t : Grp) (w : World) (S : Nat → Prop) (hv : GrpAt w S x t) (hS : ∀ g, S g → g < w.heap.size) (hf : szGrp t ≤ 1048576) :
    Calls Try.prog 13 #[x] w fun e w' => e = .returned (.bool (still t)) ∧ Below w.heap.size w w' := by
  have GK : Hid (∀ wx, Below w.heap.size w wx → Calls Try.prog 9 #[x] wx fun e w' => e = .returned (.bool (groupOk t)) ∧ Below wx.heap.size wx w') := fun wx b => GpS.spec_any x t wx S (hv.below b hS) (fun g hg => Nat.lt_of_lt_of_le (hS g hg) b.size) hf
  obtain ⟨A4, c4, A5, c5, rfl, HT, HM⟩ := grp_form hv
  obtain ⟨A, c, g, o, F, ev, OA, n3⟩ := opn HM hS
  cases ev
  have HA := Seg.hid OA
  clear hv HT HM OA
  go_enter Try.func13, Try.ntmps13
  have R0 : Hid ((w.alloc (.cells #[.int .i64 t.kind, .int .i64 t.timeout, .int .i64 t.now, .int .i64 t.round, .slice A4 t.topics.length c4, .slice A5 t.members.length c5] 31 (0, 0))).heap[w.heap.size]? = some (.cells #[.int .i64 t.kind, .int .i64 t.timeout, .int .i64 t.now, .int .i64 t.round, .slice A4 t.topics.length c4, .slice A5 t.members.length c5] 31 (0, 0))) := heap_alloc_new _ _
  have B0 : Hid (Below w.heap.size w (w.alloc (.cells #[.int .i64 t.kind, .int .i64 t.timeout, .int .i64 t.now, .int .i64 t.round, .slice A4 t.topics.length c4, .slice A5 t.members.length c5] 31 (0, 0)))) := below1 _ _
  go_upto_region 1 with fail
  generalize w.alloc (.cells #[.int .i64 t.kind, .int .i64 t.timeout, .int .i64 t.now, .int .i64 t.round, .slice A4 t.topics.length c4, .slice A5 t.members.length c5] 31 (0, 0)) = w1 at *
  have l1 : w.heap.size < w1.heap.size := (Array.getElem?_eq_some_iff.1 R0.out).1
  have c0 := cell_of_row w1 w.heap.size 0 _ _ (0, 0) R0.out
  have c1 := cell_of_row w1 w.heap.size 1 _ _ (0, 0) R0.out
  have c2 := cell_of_row w1 w.heap.size 2 _ _ (0, 0) R0.out
  have c3 := cell_of_row w1 w.heap.size 3 _ _ (0, 0) R0.out
  have c4' := cell_of_row w1 w.heap.size 4 _ _ (0, 0) R0.out
  have c5' := cell_of_row w1 w.heap.size 5 _ _ (0, 0) R0.out
  cases hg : groupOk t with
  | false =>
    have Z : Hid (still t = false) := by show _ = _; simp [still, hg]
    rw [hg] at GK
    go_wp2_with (first | (go_at_call 9; refine (GK.out _ B0.out).mono ?_; rintro e w2 ⟨rfl, b2⟩; have B2 := Seg.hid b2; clear b2))
    go_ret
    exact ⟨Seg.ret_bool Z.out.symm, chain B0.out B2.out⟩
  | true =>
  have Z : Hid (still t = t.members.all stm) := by show _ = _; simp [still, hg]
  rw [hg] at GK
  clear hg
  go_wp2_with (first | (go_at_call 9; refine (GK.out _ B0.out).mono ?_; rintro e w2 ⟨rfl, b2⟩; have B2 := Seg.hid b2; clear b2))
  clear GK
  go_loopw [3] (fun i wr => ∃ (k : Nat), k ≤ t.members.length ∧ i = .int .i64 k ∧ Hid ((t.members.drop k).all stm = still t ∧ Below w1.heap.size w1 wr)) (fun i _ => t.members.length - (intOf i).toNat)
  case atStart => exact ⟨0, Nat.zero_le _, rfl, Z.out.symm, B2.out⟩
  case round =>
    clear Z c0 c1 c2 c3 c4'
    obtain ⟨k, hk, rfl, HR⟩ := hrel
    have f5 : wr.cell? ⟨w.heap.size, 5, none⟩ = some (.slice A5 t.members.length c5) := (HR.out.2.cell (p := ⟨w.heap.size, 5, none⟩) l1).trans c5'
    have hwr : w.heap.size < wr.heap.size := Nat.lt_of_lt_of_le l1 HR.out.2.size
    by_cases hlt : k < t.members.length
    · obtain ⟨ea, hc, hga⟩ := HA.out.addr.resolve_left (by omega)
      have hbw := chain B0.out HR.out.2
      have OL := HA.out.later keepsMbr hS hbw
      obtain ⟨B2', d2, B5, d5, B6, d6, ⟨_, _, _, _, _, m5, m6⟩, _, LO, LT⟩ := mbr_cells (i := k) (fun j hj => OL.cells k hlt j hj) (OL.el k hlt)
      have CS : Hid (∀ wx, Below wr.heap.size wr wx → Calls Try.prog 45 #[.slice B5 (t.members.getD k default).owns.length d5, .slice B6 (t.members.getD k default).target.length d6] wx fun e w' => e = .returned (.bool (stm (t.members.getD k default))) ∧ Below wx.heap.size wx w') := fun wx b => same_any _ _ _ _ wx S (LAt.below keepsSlt LO b (fun g hg => Nat.lt_of_lt_of_le (hS g hg) hbw.size)) (LAt.below keepsSlt LT b (fun g hg => Nat.lt_of_lt_of_le (hS g hg) hbw.size)) (fun g hg => Nat.lt_of_lt_of_le (Nat.lt_of_lt_of_le (hS g hg) hbw.size) b.size)
      have hgr : g < wr.heap.size := Nat.lt_of_lt_of_le hga hbw.size
      have h0 : (0 : Int) ≤ (k : Int) := by omega
      have h1 : (k : Int) < (t.members.length : Int) := by omega
      have HD := HR.out.1
      rw [all_step stm hlt] at HD
      have HD' := Seg.hid HD
      have BR := Seg.hid hbw
      have B1R := Seg.hid HR.out.2
      clear OL HD LO LT hbw HR
      generalize t.members.getD k default = tk at *
      subst ea
      obtain ⟨b, hb⟩ : ∃ b, stm tk = b := ⟨_, rfl⟩
      rw [hb] at CS
      go_wp2_with fail
      go_region_held3 (fun w' => w'.cell? ⟨w.heap.size, 5, none⟩ = some (.slice (some ⟨g, o, none⟩) t.members.length c5) ∧ w'.cell? ⟨g, o + k * 7 + 5, none⟩ = some (.slice B5 tk.owns.length d5) ∧ w'.cell? ⟨g, o + k * 7 + 6, none⟩ = some (.slice B6 tk.target.length d6)) (first | exact ⟨f5, m5, m6⟩ | exact ⟨r0, r1, r2⟩ | go_keep)
        (first | (go_at_call 45; refine (CS.out _ ((Below.refl _ _).drew)).mono ?_; rintro e w8 ⟨rfl, b8⟩; have B8 : Hid (Below wr.heap.size wr w8) := ⟨b8.os, b8.tape, b8.output, b8.size, b8.block⟩; clear b8; have r0 := (B8.out.cell (p := ⟨w.heap.size, 5, none⟩) hwr).trans f5; have r1 := (B8.out.cell (p := ⟨g, o + k * 7 + 5, none⟩) hgr).trans m5; have r2 := (B8.out.cell (p := ⟨g, o + k * 7 + 6, none⟩) hgr).trans m6))
      cases b with
      | false =>
        have Z : Hid (still t = false) := by show _ = _; rw [← HD'.out, hb]; rfl
        go_wp2
        go_ret
        exact ⟨Seg.ret_bool Z.out.symm, chain BR.out B8.out⟩
      | true =>
        have Z : Hid ((t.members.drop (k + 1)).all stm = still t) := by show _ = _; rw [← HD'.out, hb]; rfl
        clear r0 r1 r2
        go_wp2
        go_roundw
        case rel => exact ⟨k + 1, by omega, by go_num, Z.out, chain B1R.out B8.out⟩
        case measure => simp [intOf]; omega
    · have HE := HR.out.1
      rw [List.drop_eq_nil_of_le (by omega)] at HE
      have HE' := Seg.hid HE
      clear HE
      go_wp2
      go_ret
      exact ⟨Seg.ret_bool HE'.out, chain B0.out HR.out.2⟩
end Go.Proofs.Ytfdfhhiaalbfiaa.StlS
