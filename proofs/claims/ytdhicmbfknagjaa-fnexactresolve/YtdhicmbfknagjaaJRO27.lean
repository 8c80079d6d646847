/- The program's canRead and CanRead; A region that draws its order, walked operation by operation with S held: one operation taken first, one passed over. -/
import Derived.Deep.RegionHeld3
import Derived.Deep.RegionLaw
import Derived.BigQuiet
import Derived.WalkKit
import Derived.RegionTactic
import Derived.Deep.MidRow
import Derived.Test.YtdhicmbfknagjaaRows
import Derived.Test.YtdhicmbfknagjaaJRO22
namespace Go.Proofs.Ytdhicmbfknagjaa.CrI
set_option maxRecDepth 8000
open Go.RowKit
open Ls Lp VkP VkR ScP ScM ScN ScI ScS MaP MaI CrP
open Recs (hsz below1 below2 below3 chain chainD)
set_option linter.unusedVariables false
theorem kinds (a b : Int) : a = b ∨ (¬ a = b ∧ a = 3 ∧ b = 2) ∨ (¬ a = b ∧ a = 3 ∧ ¬ b = 2) ∨ (¬ a = b ∧ ¬ a = 3) := by omega
set_option maxHeartbeats 6400000 in
theorem takes_any (f h : Fld) (A B A4 B4 : Option Addr) (c d c4 d4 : Nat) (w : World) : Calls Try.prog 126 #[.agg (frow f A c B d), .agg (frow h A4 c4 B4 d4)] w fun e w' => e = .returned (.bool (takes f h)) ∧ Below w.heap.size w w' := by
  obtain ⟨a1, e1⟩ : ∃ b, f.lst = b := ⟨_, rfl⟩
  obtain ⟨a2, e2⟩ : ∃ b, h.lst = b := ⟨_, rfl⟩
  obtain ⟨a3, e3⟩ : ∃ b, f.may = b := ⟨_, rfl⟩
  obtain ⟨a4, e4⟩ : ∃ b, h.may = b := ⟨_, rfl⟩
  obtain ⟨kf, e5⟩ : ∃ b, f.kind = b := ⟨_, rfl⟩
  obtain ⟨kh, e6⟩ : ∃ b, h.kind = b := ⟨_, rfl⟩
  have R : Hid (takes f h = ((a1 == a2) && (!a4 || a3) && (decide (kf = kh) || (decide (kf = 3) && decide (kh = 2))))) := by show _ = _; rw [takes, e1, e2, e3, e4, e5, e6]
  have hr : frow f A c B d = #[.string f.name, .int .i64 kf, .bool a1, .bool a3, .slice A f.was.length c, .bool f.fixd, .int .i64 f.vk, .int .i64 f.vn, .string f.vt, .bool f.vl, .slice B f.vi.length d] := by rw [frow, e1, e3, e5]
  have hr2 : frow h A4 c4 B4 d4 = #[.string h.name, .int .i64 kh, .bool a2, .bool a4, .slice A4 h.was.length c4, .bool h.fixd, .int .i64 h.vk, .int .i64 h.vn, .string h.vt, .bool h.vl, .slice B4 h.vi.length d4] := by rw [frow, e2, e4, e6]
  rw [hr, hr2]
  clear hr hr2 e1 e2 e3 e4 e5 e6
  go_enter Try.func126, Try.ntmps126
  rcases kinds kf kh with hk | ⟨hk, hk1, hk2⟩ | ⟨hk, hk1, hk2⟩ | ⟨hk, hk1⟩
  · subst hk
    have R2 : Hid (takes f h = ((a1 == a2) && (!a4 || a3))) := by show _ = _; rw [R.out]; simp
    clear R
    cases a1 <;> cases a2 <;> cases a3 <;> cases a4
    all_goals
      go_wp2
      go_ret
      exact ⟨by rw [R2.out]; rfl, below2 _ _ _⟩
  · subst hk1 hk2
    have R2 : Hid (takes f h = ((a1 == a2) && (!a4 || a3))) := by show _ = _; rw [R.out]; simp
    clear R
    cases a1 <;> cases a2 <;> cases a3 <;> cases a4
    all_goals
      go_wp2
      go_ret
      exact ⟨by rw [R2.out]; rfl, below2 _ _ _⟩
  · subst hk1
    have R2 : Hid (takes f h = false) := by show _ = _; rw [R.out]; simp [hk, hk2]
    have q1 : ((3 : Int) == kh) = false := by simpa using hk
    have q2 : (kh == 2) = false := by simpa using hk2
    clear R
    cases a1 <;> cases a2 <;> cases a3 <;> cases a4
    all_goals
      go_wp2
      go_ret
      exact ⟨by rw [R2.out]; rfl, below2 _ _ _⟩
  · have R2 : Hid (takes f h = false) := by show _ = _; rw [R.out]; simp [hk, hk1]
    have q1 : (kf == kh) = false := by simpa using hk
    have q2 : (kf == 3) = false := by simpa using hk1
    clear R
    cases a1 <;> cases a2 <;> cases a3 <;> cases a4
    all_goals
      go_wp2
      go_ret
      exact ⟨by rw [R2.out]; rfl, below2 _ _ _⟩
set_option maxHeartbeats 6400000 in
theorem can_any (x y : Value) (r s : Sch) (w : World) (S : Nat → Prop) (hx : SchAt w S x r) (hy : SchAt w S y s) (hS : ∀ g, S g → g < w.heap.size) (hfr : szSch r ≤ 1048576) (hfs : szSch s ≤ 1048576) (hor : sok r = true) (hos : sok s = true) :
    Calls Try.prog 102 #[x, y] w fun e w' => e = .returned (.bool (crd r s)) ∧ Below w.heap.size w w' := by
  have HX := Seg.hid hx
  have HY := Seg.hid hy
  obtain ⟨A0, c0, rfl, hl⟩ := formS hx
  obtain ⟨A, c, g, o, F, e, OP, hn⟩ := opn hl hS
  cases e
  obtain ⟨A2, c2, rfl, hl2⟩ := formS hy
  obtain ⟨A3, c3, g2, o2, F2, e, OP2, hn2⟩ := opn hl2 hS
  cases e
  have HO := Seg.hid OP
  have HO2 := Seg.hid OP2
  have h20 := (sok_dst hor).2.1
  have h202 := (sok_dst hos).2.1
  clear hx hy hl hl2 OP OP2
  have CM : Hid (∀ wx, Below w.heap.size w wx → Calls Try.prog 50 #[.agg (srow r A0 c0), .agg (srow s A2 c2)] wx fun e w' => ∃ v, e = .returned v ∧ IRow w' wx.heap.size v (mtch r s) ∧ Below wx.heap.size wx w') := fun wx b => matches_any _ _ r s wx S (HX.out.below b hS) (HY.out.below b hS) (fun g hg => Nat.lt_of_lt_of_le (hS g hg) b.size) hfr hfs hor hos
  clear hfr hfs hor hos
  obtain ⟨be, hbe⟩ : ∃ b, (r.name.toList == s.name.toList) = b := ⟨_, rfl⟩
  have R0 : Hid (crd r s = (be && r.fields.all (one s.fields))) := by show _ = _; rw [crd, hbe]
  go_enter Try.func102, Try.ntmps102
  cases be with
  | false =>
    have R : Hid (crd r s = false) := by show _ = _; rw [R0.out]; rfl
    go_wp2
    go_ret
    exact ⟨by rw [R.out]; rfl, below2 _ _ _⟩
  | true =>
    have R : Hid (crd r s = r.fields.all (one s.fields)) := by show _ = _; rw [R0.out]; rfl
    go_wp2_with fail
    refine (CM.out _ (below2 w _ _)).mono ?_
    rintro e w1 ⟨v, rfl, hv, b1⟩
    have B1 := Seg.hid (chain (below2 w _ _) b1)
    have P1 : Hid (w1.heap[w.heap.size]? = some (.cells (srow r A0 c0) 43 (0, 0))) := (b1.block w.heap.size (by rw [hsz, hsz]; omega)).trans (at2z w _ _)
    have P2 : Hid (w1.heap[w.heap.size + 1]? = some (.cells (srow s A2 c2) 43 (0, 0))) := (b1.block (w.heap.size + 1) (by rw [hsz, hsz]; omega)).trans (at2y w _ _)
    have s1 : w.heap.size + 1 < w1.heap.size := (Array.getElem?_eq_some_iff.1 P2.out).1
    have hml : (mtch r s).length = r.fields.length := mtch_len r s
    obtain ⟨Am, cm, gm, om, Fm, rfl, OM, hnm⟩ := opn (ints_row hv (by omega)) (fun g hg => hg.2)
    have HM := Seg.hid OM
    clear b1 OM hv hbe
    have MA : Hid (∀ k, k < r.fields.length → (mtch r s).getD k default = plc s.fields (nms (r.fields.getD k default))) := fun k h => mtch_at h
    generalize mtch r s = ms at *
    go_wp2
    go_loopw [17] (fun i wr => ∃ k : Nat, k ≤ r.fields.length ∧ i = .int .i64 k ∧ Hid (Below w1.heap.size w1 wr ∧ (r.fields.take k).all (one s.fields) = true)) (fun i _ => r.fields.length - (intOf i).toNat)
    case atStart => exact ⟨0, Nat.zero_le _, rfl, Below.refl _ _, by simp⟩
    case round =>
      obtain ⟨k, hk, rfl, HG⟩ := hrel
      by_cases hlt : k < r.fields.length
      · obtain ⟨em, hcm, hgm⟩ := HM.out.addr.resolve_left (by omega)
        subst em
        obtain ⟨ea, hc, hgw⟩ := HO.out.addr.resolve_left (by omega)
        subst ea
        have BW : Hid (Below w.heap.size w wr) := chain B1.out HG.out.1
        have mc := int_cell HM.out (HG.out.1.block _ hgm) (show k < ms.length by omega)
        obtain ⟨A', c', B', d', hfl, d0, d1, d2, d3, d4, d5, d6, d7, d8, d9, d10⟩ := fld_at HO.out hS BW.out hlt
        have h0 : (0 : Int) ≤ (k : Int) := by omega
        have h1 : (k : Int) < (r.fields.length : Int) := by omega
        have h1m : (k : Int) < (ms.length : Int) := by omega
        have NX := Seg.hid (all_next (one s.fields) r.fields k hlt HG.out.2)
        have BX := Seg.hid (all_bad (one s.fields) r.fields k hlt)
        have N1 := Seg.hid HG.out.1
        have p0 : wr.cell? ⟨w.heap.size, 1, none⟩ = some (.slice (some ⟨g, o, none⟩) r.fields.length c0) := cell_of_row wr _ 1 _ _ (0, 0) ((N1.out.block _ (by omega)).trans P1.out)
        have p1 : wr.cell? ⟨w.heap.size + 1, 1, none⟩ = some (.slice A2 s.fields.length c2) := cell_of_row wr _ 1 _ _ (0, 0) ((N1.out.block _ s1).trans P2.out)
        have hz : w.heap.size + 1 < wr.heap.size := Nat.lt_of_lt_of_le s1 N1.out.size
        have PR := Seg.hid (plc_range s.fields (nms (r.fields.getD k default)))
        have OD : Hid (one s.fields (r.fields.getD k default) = if plc s.fields (nms (r.fields.getD k default)) = -1 then (r.fields.getD k default).fixd || (r.fields.getD k default).may else takes (r.fields.getD k default) (s.fields.getD (plc s.fields (nms (r.fields.getD k default))).toNat default)) := rfl
        rw [MA.out k hlt] at mc
        clear HG hfl
        generalize r.fields.getD k default = f at *
        obtain ⟨p, hp⟩ : ∃ p, plc s.fields (nms f) = p := ⟨_, rfl⟩
        rw [hp] at mc OD PR
        clear hp
        obtain ⟨w5, hw5⟩ : ∃ w5, wr.alloc (.cells #[.string f.name, .int .i64 f.kind, .bool f.lst, .bool f.may, .slice A' f.was.length c', .bool f.fixd, .int .i64 f.vk, .int .i64 f.vn, .string f.vt, .bool f.vl, .slice B' f.vi.length d'] 86 (0, 0)) = w5 := ⟨_, rfl⟩
        have T5 : Hid (w5.heap[wr.heap.size]? = some (.cells (frow f A' c' B' d') 86 (0, 0))) := by show _ = _; rw [← hw5]; exact heap_alloc_new _ _
        have N5 : Hid (Below wr.heap.size wr w5) := by show Below _ _ _; rw [← hw5]; exact below1 _ _
        have s5 : wr.heap.size < w5.heap.size := (Array.getElem?_eq_some_iff.1 T5.out).1
        have B5 := Seg.hid (chain N1.out N5.out)
        go_upto_region 7 with fail
        try rw [hw5]
        clear hw5 d0 d1 d2 d3 d4 d5 d6 d7 d8 d9 d10 mc
        obtain ⟨q0, q1, q2, q3, q4, q5, q6, q7, q8, q9, q10⟩ := cells11 T5.out
        have q11 : w5.cell? ⟨w.heap.size + 1, 1, none⟩ = some (.slice A2 s.fields.length c2) := (N5.out.cell (p := ⟨w.heap.size + 1, 1, none⟩) hz).trans p1
        by_cases hpm : p = -1
        · subst hpm
          obtain ⟨bf, ef⟩ : ∃ b, f.fixd = b := ⟨_, rfl⟩
          obtain ⟨bm, em⟩ : ∃ b, f.may = b := ⟨_, rfl⟩
          have O1 : Hid (one s.fields f = (bf || bm)) := by show _ = _; rw [OD.out, if_pos rfl, ef, em]
          rw [O1.out] at NX BX
          clear OD PR O1
          have hq : ((-1 : Int) != -1) = false := by simp
          cases bf <;> cases bm
          · go_wp2
            go_ret
            exact ⟨by rw [R.out, BX.out (by simp)]; rfl, chain BW.out N5.out⟩
          all_goals
            go_wp2_with fail
            go_quiet (fail)
            go_wp2
            go_roundw
            case rel => exact ⟨k + 1, by omega, by go_num, chain B5.out (((Qt.refl w5).drewN _).bel _), NX.out (by simp)⟩
            case measure => simp [intOf]; omega
        · obtain ⟨j, hj⟩ : ∃ j : Nat, p = j := ⟨p.toNat, by rcases PR.out with h | ⟨h, _, _⟩ <;> omega⟩
          subst hj
          have hjl : j < s.fields.length := by rcases PR.out with h | ⟨_, h, _⟩ <;> omega
          obtain ⟨ea, hc2, hgw2⟩ := HO2.out.addr.resolve_left (by omega)
          subst ea
          obtain ⟨A4, c4, B4, d4, hfl2, q12, q13, q14, q15, q16, q17, q18, q19, q20, q21, q22⟩ := fld_at HO2.out hS (chain BW.out N5.out) hjl
          have O1 : Hid (one s.fields f = takes f (s.fields.getD j default)) := by show _ = _; rw [OD.out, if_neg hpm]; rfl
          clear hfl2 OD PR
          generalize s.fields.getD j default = h at *
          have CT := Seg.hid (fun wx => takes_any f h A' B' A4 B4 c' d' c4 d4 wx)
          rw [O1.out] at NX BX
          obtain ⟨bt, hbt⟩ : ∃ b, takes f h = b := ⟨_, rfl⟩
          rw [hbt] at CT NX BX
          clear hbt O1
          have hq : ((j : Int) == -1) = false := by simp
          have hq2 : ((j : Int) != -1) = true := by simp
          have j0 : (0 : Int) ≤ (j : Int) := by omega
          have j1 : (j : Int) < (s.fields.length : Int) := by omega
          have z5 : w.heap.size + 1 < w5.heap.size := by omega
          have y5 : g2 < w5.heap.size := by have := BW.out.size; omega
          go_wp2_with fail
          go_region_held3 (fun w' => w'.cell? ⟨wr.heap.size, 0, none⟩ = some (.string f.name) ∧ w'.cell? ⟨wr.heap.size, 1, none⟩ = some (.int .i64 f.kind) ∧ w'.cell? ⟨wr.heap.size, 2, none⟩ = some (.bool f.lst) ∧ w'.cell? ⟨wr.heap.size, 3, none⟩ = some (.bool f.may) ∧ w'.cell? ⟨wr.heap.size, 4, none⟩ = some (.slice A' f.was.length c') ∧ w'.cell? ⟨wr.heap.size, 5, none⟩ = some (.bool f.fixd) ∧ w'.cell? ⟨wr.heap.size, 6, none⟩ = some (.int .i64 f.vk) ∧ w'.cell? ⟨wr.heap.size, 7, none⟩ = some (.int .i64 f.vn) ∧ w'.cell? ⟨wr.heap.size, 8, none⟩ = some (.string f.vt) ∧ w'.cell? ⟨wr.heap.size, 9, none⟩ = some (.bool f.vl) ∧ w'.cell? ⟨wr.heap.size, 10, none⟩ = some (.slice B' f.vi.length d') ∧ w'.cell? ⟨w.heap.size + 1, 1, none⟩ = some (.slice (some ⟨g2, o2, none⟩) s.fields.length c2) ∧ w'.cell? ⟨g2, o2 + j * 11, none⟩ = some (.string h.name) ∧ w'.cell? ⟨g2, o2 + j * 11 + 1, none⟩ = some (.int .i64 h.kind) ∧ w'.cell? ⟨g2, o2 + j * 11 + 2, none⟩ = some (.bool h.lst) ∧ w'.cell? ⟨g2, o2 + j * 11 + 3, none⟩ = some (.bool h.may) ∧ w'.cell? ⟨g2, o2 + j * 11 + 4, none⟩ = some (.slice A4 h.was.length c4) ∧ w'.cell? ⟨g2, o2 + j * 11 + 5, none⟩ = some (.bool h.fixd) ∧ w'.cell? ⟨g2, o2 + j * 11 + 6, none⟩ = some (.int .i64 h.vk) ∧ w'.cell? ⟨g2, o2 + j * 11 + 7, none⟩ = some (.int .i64 h.vn) ∧ w'.cell? ⟨g2, o2 + j * 11 + 8, none⟩ = some (.string h.vt) ∧ w'.cell? ⟨g2, o2 + j * 11 + 9, none⟩ = some (.bool h.vl) ∧ w'.cell? ⟨g2, o2 + j * 11 + 10, none⟩ = some (.slice B4 h.vi.length d4)) (first | exact ⟨q0, q1, q2, q3, q4, q5, q6, q7, q8, q9, q10, q11, q12, q13, q14, q15, q16, q17, q18, q19, q20, q21, q22⟩ | exact ⟨r0, r1, r2, r3, r4, r5, r6, r7, r8, r9, r10, r11, r12, r13, r14, r15, r16, r17, r18, r19, r20, r21, r22⟩ | go_keep) (first | (go_at_call 126; refine (CT.out _).mono ?_; rintro e w8 ⟨rfl, b8⟩; have B8 : Hid (Below w5.heap.size w5 w8) := ⟨b8.os, b8.tape, b8.output, b8.size, b8.block⟩; clear b8; have r0 := (B8.out.cell (p := ⟨wr.heap.size, 0, none⟩) s5).trans q0; have r1 := (B8.out.cell (p := ⟨wr.heap.size, 1, none⟩) s5).trans q1; have r2 := (B8.out.cell (p := ⟨wr.heap.size, 2, none⟩) s5).trans q2; have r3 := (B8.out.cell (p := ⟨wr.heap.size, 3, none⟩) s5).trans q3; have r4 := (B8.out.cell (p := ⟨wr.heap.size, 4, none⟩) s5).trans q4; have r5 := (B8.out.cell (p := ⟨wr.heap.size, 5, none⟩) s5).trans q5; have r6 := (B8.out.cell (p := ⟨wr.heap.size, 6, none⟩) s5).trans q6; have r7 := (B8.out.cell (p := ⟨wr.heap.size, 7, none⟩) s5).trans q7; have r8 := (B8.out.cell (p := ⟨wr.heap.size, 8, none⟩) s5).trans q8; have r9 := (B8.out.cell (p := ⟨wr.heap.size, 9, none⟩) s5).trans q9; have r10 := (B8.out.cell (p := ⟨wr.heap.size, 10, none⟩) s5).trans q10; have r11 := (B8.out.cell (p := ⟨w.heap.size + 1, 1, none⟩) z5).trans q11; have r12 := (B8.out.cell (p := ⟨g2, o2 + j * 11, none⟩) y5).trans q12; have r13 := (B8.out.cell (p := ⟨g2, o2 + j * 11 + 1, none⟩) y5).trans q13; have r14 := (B8.out.cell (p := ⟨g2, o2 + j * 11 + 2, none⟩) y5).trans q14; have r15 := (B8.out.cell (p := ⟨g2, o2 + j * 11 + 3, none⟩) y5).trans q15; have r16 := (B8.out.cell (p := ⟨g2, o2 + j * 11 + 4, none⟩) y5).trans q16; have r17 := (B8.out.cell (p := ⟨g2, o2 + j * 11 + 5, none⟩) y5).trans q17; have r18 := (B8.out.cell (p := ⟨g2, o2 + j * 11 + 6, none⟩) y5).trans q18; have r19 := (B8.out.cell (p := ⟨g2, o2 + j * 11 + 7, none⟩) y5).trans q19; have r20 := (B8.out.cell (p := ⟨g2, o2 + j * 11 + 8, none⟩) y5).trans q20; have r21 := (B8.out.cell (p := ⟨g2, o2 + j * 11 + 9, none⟩) y5).trans q21; have r22 := (B8.out.cell (p := ⟨g2, o2 + j * 11 + 10, none⟩) y5).trans q22))
          clear r0 r1 r2 r3 r4 r5 r6 r7 r8 r9 r10 r11 r12 r13 r14 r15 r16 r17 r18 r19 r20 r21 r22
          cases bt with
          | true =>
            go_wp2
            go_roundw
            case rel => exact ⟨k + 1, by omega, by go_num, chain B5.out B8.out, NX.out (by simp)⟩
            case measure => simp [intOf]; omega
          | false =>
            go_wp2
            go_ret
            exact ⟨by rw [R.out, BX.out (by simp)]; rfl, chain (chain BW.out N5.out) B8.out⟩
      · obtain rfl : k = r.fields.length := by omega
        have RF : Hid (r.fields.all (one s.fields) = true) := by show _ = _; have := HG.out.2; rwa [List.take_length] at this
        go_wp2
        go_ret
        exact ⟨by rw [R.out, RF.out]; rfl, chain B1.out HG.out.1⟩
set_option maxHeartbeats 1600000 in
theorem impl_any (x y : Value) (r s : Sch) (w : World) (S : Nat → Prop) (hx : SchAt w S x r) (hy : SchAt w S y s) (hS : ∀ g, S g → g < w.heap.size) (hfr : szSch r ≤ 1048576) (hfs : szSch s ≤ 1048576) :
    Calls Try.prog 66 #[x, y] w fun e w' => e = .returned (.bool (canR r s)) ∧ Below w.heap.size w w' := by
  have HX := Seg.hid hx
  have HY := Seg.hid hy
  obtain ⟨A0, c0, rfl, -⟩ := formS hx
  obtain ⟨A2, c2, rfl, -⟩ := formS hy
  clear hx hy
  have C1 : Hid (∀ wx, Below w.heap.size w wx → Calls Try.prog 49 #[.agg (srow r A0 c0)] wx fun e w' => e = .returned (.bool (sok r)) ∧ Below wx.heap.size wx w') := fun wx b => ScI.impl_any _ r wx S (HX.out.below b hS) (fun g hg => Nat.lt_of_lt_of_le (hS g hg) b.size) hfr
  have C2 : Hid (∀ wx, Below w.heap.size w wx → Calls Try.prog 49 #[.agg (srow s A2 c2)] wx fun e w' => e = .returned (.bool (sok s)) ∧ Below wx.heap.size wx w') := fun wx b => ScI.impl_any _ s wx S (HY.out.below b hS) (fun g hg => Nat.lt_of_lt_of_le (hS g hg) b.size) hfs
  have C3 : Hid (sok r = true → sok s = true → ∀ wx, Below w.heap.size w wx → Calls Try.prog 102 #[.agg (srow r A0 c0), .agg (srow s A2 c2)] wx fun e w' => e = .returned (.bool (crd r s)) ∧ Below wx.heap.size wx w') := fun h1 h2 wx b => can_any _ _ r s wx S (HX.out.below b hS) (HY.out.below b hS) (fun g hg => Nat.lt_of_lt_of_le (hS g hg) b.size) hfr hfs h1 h2
  have R0 : Hid (canR r s = (sok r && sok s && crd r s)) := rfl
  go_enter Try.func66, Try.ntmps66
  go_wp2_with fail
  refine (C1.out _ (below2 w _ _)).mono ?_
  rintro e w1 ⟨rfl, b1⟩
  have B1 := Seg.hid (chain (below2 w _ _) b1)
  have P1 : Hid (w1.heap[w.heap.size]? = some (.cells (srow r A0 c0) 43 (0, 0))) := (b1.block w.heap.size (by rw [hsz, hsz]; omega)).trans (at2z w _ _)
  have P2 : Hid (w1.heap[w.heap.size + 1]? = some (.cells (srow s A2 c2) 43 (0, 0))) := (b1.block (w.heap.size + 1) (by rw [hsz, hsz]; omega)).trans (at2y w _ _)
  have s1 : w.heap.size + 1 < w1.heap.size := (Array.getElem?_eq_some_iff.1 P2.out).1
  have p2 : w1.cell? ⟨w.heap.size + 1, 0, none⟩ = some (.string s.name) := cell_of_row w1 _ 0 _ _ (0, 0) P2.out
  have p3 : w1.cell? ⟨w.heap.size + 1, 1, none⟩ = some (.slice A2 s.fields.length c2) := cell_of_row w1 _ 1 _ _ (0, 0) P2.out
  clear b1
  cases h1 : sok r with
  | false =>
    have R : Hid (canR r s = false) := by show _ = _; rw [R0.out, h1]; rfl
    clear h1
    go_wp2
    go_ret
    exact ⟨by rw [R.out]; rfl, B1.out⟩
  | true =>
    have C4 := Seg.hid (C3.out h1)
    have R1 : Hid (canR r s = (sok s && crd r s)) := by show _ = _; rw [R0.out, h1]; rfl
    clear h1
    go_wp2_with fail
    refine (C2.out _ B1.out).mono ?_
    rintro e w2 ⟨rfl, b2⟩
    have B2 := Seg.hid (chain B1.out b2)
    have q0 : w2.cell? ⟨w.heap.size, 0, none⟩ = some (.string r.name) := cell_of_row w2 _ 0 _ _ (0, 0) ((b2.block _ (by omega)).trans P1.out)
    have q1 : w2.cell? ⟨w.heap.size, 1, none⟩ = some (.slice A0 r.fields.length c0) := cell_of_row w2 _ 1 _ _ (0, 0) ((b2.block _ (by omega)).trans P1.out)
    have q2 := (b2.cell (p := ⟨w.heap.size + 1, 0, none⟩) s1).trans p2
    have q3 := (b2.cell (p := ⟨w.heap.size + 1, 1, none⟩) s1).trans p3
    clear b2 p2 p3
    cases h2 : sok s with
    | false =>
      have R : Hid (canR r s = false) := by show _ = _; rw [R1.out, h2]; rfl
      clear h2
      go_wp2
      go_ret
      exact ⟨by rw [R.out]; rfl, B2.out⟩
    | true =>
      have C5 := Seg.hid (C4.out h2)
      have R : Hid (canR r s = crd r s) := by show _ = _; rw [R1.out, h2]; rfl
      clear h2
      go_wp2_with (go_at_call 102; refine (C5.out _ B2.out).mono ?_; rintro e w3 ⟨rfl, b3⟩; have B3 := Seg.hid (chain B2.out b3); clear b3)
      go_ret
      exact ⟨by rw [R.out]; rfl, B3.out⟩
end Go.Proofs.Ytdhicmbfknagjaa.CrI
namespace Go.Proofs.Ytdhicmbfknagjaa.HdK
set_option maxRecDepth 8000
open Go.RowKit
section
variable {P : Program} {ops : Array Oper} {Q : Exit → Act → World → Prop} {md : Region.Mode} {S : World → Prop}
theorem skp (i : Nat) (d : Option Tmp) {oi : Oper} {fuel : Nat} {listed : Array Bool} {a : Act} {w : World} (hi : ops[i]? = some oi) (hd : oi.dst = d)
    (h : wpAnyH P md ops Q S fuel (listed.setIfInBounds i true) (a.put d undef) w)
    (hs : Region.noSelect ops = true := by kernel_rfl) (hf : Region.free md ops listed i = true := by kernel_rfl) (hr : (Region.ready md ops listed).contains i = true := by kernel_rfl)
    (hQ : ∀ c a w, Q (.panic c) (a.put d undef) w → Q (.panic c) a w := by exact fun _ _ _ h => h) (hw : Region.wanted oi (yielded ops a.tmps) = false := by rfl) (hS : S w := by assumption) :
    wpAnyH P md ops Q S (fuel + 1) listed a w := by
  subst hd; exact wpAnyH_take hi hs hf hr hQ (Or.inr ⟨hw, rfl⟩) hS h
theorem tke (i : Nat) (d : Option Tmp) (v : Value) {oi : Oper} {fuel : Nat} {listed : Array Bool} {a : Act} {w : World} (hi : ops[i]? = some oi) (hd : oi.dst = d)
    (h : wpAnyH P md ops Q S fuel (listed.setIfInBounds i true) (a.put d v) w)
    (hs : Region.noSelect ops = true := by kernel_rfl) (hf : Region.free md ops listed i = true := by kernel_rfl) (hr : (Region.ready md ops listed).contains i = true := by kernel_rfl)
    (hQ : ∀ c a w, Q (.panic c) (a.put d v) w → Q (.panic c) a w := by exact fun _ _ _ h => h) (hw : Region.wanted oi (yielded ops a.tmps) = true := by rfl) (hy : ∀ w, S w → (execOp a.eval oi).run P w = .ok (.value v) w := by intro w hSw; (try dsimp only at hSw); go_simp) (hS : S w := by assumption) :
    wpAnyH P md ops Q S (fuel + 1) listed a w := by
  subst hd; exact wpAnyH_take hi hs hf hr hQ (Or.inl ⟨hw, hy⟩) hS h
end
theorem step_store_mid {P : Program} {ops : Array Oper} {op : Oper} {a : Act} {w : World} {K : Act → World → Prop} {Q : Exit → Act → World → Prop} {E : Prop} (hgd : op.guard = none) (ty : TypeId) (x y : Operand) (ho : op.op = .store ty x y) (b o : Nat) (cells : Array Value)
    (hx : a.eval x = .pointer (some ⟨b, o, none⟩)) (hy : a.eval y = .agg cells) (ht : w.there b o cells.size) (hi : (P.info? ty).map (·.size) = some cells.size) (h1 : cells.all (·.oneCell') = true) (h : K (a.put op.dst undef) (w.setCells b o cells.toList)) :
    if Region.wanted op (yielded ops a.tmps) = true then Oper.wp P op a w K Q else E := by
  have hw : Region.wanted op (yielded ops a.tmps) = true := by simp [Region.wanted, hgd]
  rw [if_pos hw]
  exact wp_store_mid ty x y ho b o cells hx hy ht hi h1 h
end Go.Proofs.Ytdhicmbfknagjaa.HdK
