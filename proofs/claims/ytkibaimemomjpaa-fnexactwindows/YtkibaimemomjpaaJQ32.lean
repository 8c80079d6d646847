/- The program's Get.ok and Query.getsOk. -/
import Derived.Deep.RegionHeld3
import Derived.Test.YtkibaimemomjpaaJQ30
import Derived.Test.YtkibaimemomjpaaJQ31
namespace Go.Proofs.Ytkibaimemomjpaa.XgI
set_option maxRecDepth 8000
open Go.RowKit
open Ls Lp QtP XsP XqP XbI
open Recs (hsz below1 below2 chain)
set_option linter.unusedVariables false
theorem gt_zero {gr : Bool} {g : Gqt} (h : g.kind = 0) : gtP gr g = (Nm.nameOk g.nm && (!gr && stepsOk g.steps)) := by
  unfold gtP
  rw [h]
  cases gr <;> simp [inR]
theorem gt_one {gr : Bool} {g : Gqt} (h : g.kind = 1) : gtP gr g = (Nm.nameOk g.nm && (gr && decide (g.steps.length = 0))) := by
  unfold gtP
  rw [h]
  cases gr <;> simp [inR]
theorem gt_more {gr : Bool} {g : Gqt} (h0 : ¬ g.kind = 0) (h1 : ¬ g.kind = 1) : gtP gr g = (Nm.nameOk g.nm && (inR 0 g.kind 4 && (gr && stepsOk g.steps))) := by
  unfold gtP
  rw [decide_eq_false h0, if_neg h1]
  cases gr <;> simp
set_option maxHeartbeats 6400000 in
theorem get_any (g : Gqt) (A : Option Addr) (c : Nat) (gr : Bool) (w : World) (S : Nat → Prop) (hl : LAt 3 EStp w S (.slice A g.steps.length c) g.steps) (hS : ∀ g, S g → g < w.heap.size) (hz : szGqt g ≤ 1048576) : Calls Try.prog 105 #[.agg #[.int .i64 g.kind, .slice A g.steps.length c, .string g.nm], .bool gr] w fun e w' => e = .returned (.bool (gtP gr g)) ∧ Below w.heap.size w w' := by
  obtain ⟨R, hR⟩ : ∃ R, gtP gr g = R := ⟨_, rfl⟩
  rw [hR]
  have TN : Hid (g.nm.size ≤ maxLen) := by show _ ≤ _; unfold szGqt at hz; unfold maxLen; omega
  have CE : Hid (∀ wx, Below w.heap.size w wx → Calls Try.prog 80 #[.slice A g.steps.length c] wx fun e w' => e = .returned (.bool (stepsOk g.steps)) ∧ Below wx.heap.size wx w') := fun wx b => XsI.exp_any _ _ wx S (LAt.below keepsStp hl b hS) (fun y hy => Nat.lt_of_lt_of_le (hS y hy) b.size) (by unfold szGqt at hz; omega)
  clear hl hz
  have Z0 := @gt_zero gr g
  have Z1 := @gt_one gr g
  have Z2 := @gt_more gr g
  obtain ⟨ki, hki⟩ : ∃ ki, g.kind = ki := ⟨_, rfl⟩
  rw [hki] at Z0 Z1 Z2 ⊢
  rw [hR] at Z0 Z1 Z2
  have ZZ := Seg.hid (And.intro Z0 (And.intro Z1 Z2))
  clear Z0 Z1 Z2 hR hki
  go_enter Try.func105, Try.ntmps105
  by_cases k0 : ki = 0
  · subst k0
    have H2 : Hid (inR 0 0 4 = true) := rfl
    cases n1 : Nm.nameOk g.nm with
    | false =>
      have H1 := Seg.hid n1
      clear n1
      have RF : Hid (R = false) := by show _ = _; rw [ZZ.out.1 rfl, H1.out]; rfl
      go_wp2_with (first | (go_at_call 76; refine (Nm.impl_q _ _ H1.out _ TN.out).mono ?_; rintro e7 w6 ⟨rfl, rfl⟩))
      go_ret
      exact ⟨by rw [RF.out]; rfl, below1 _ _⟩
    | true =>
      have H1 := Seg.hid n1
      clear n1
      cases gr
      · have RF : Hid (R = stepsOk g.steps) := by show _ = _; rw [ZZ.out.1 rfl, H1.out]; rfl
        go_wp2_with (first | (go_at_call 76; refine (Nm.impl_q _ _ H1.out _ TN.out).mono ?_; rintro e7 w6 ⟨rfl, rfl⟩) | (go_at_call 82; refine (InB.within_b _ _ _ _ H2.out _).mono ?_; rintro e7 w6 ⟨rfl, rfl⟩) | (go_at_call 80; refine (CE.out _ (below1 w _)).mono ?_; rintro e7 w6 ⟨rfl, b6⟩; have B6 := Seg.hid (chain (below1 w _) b6); clear b6))
        go_ret
        exact ⟨by rw [RF.out]; rfl, B6.out⟩
      · have RF : Hid (R = false) := by show _ = _; rw [ZZ.out.1 rfl, H1.out]; rfl
        go_wp2_with (first | (go_at_call 76; refine (Nm.impl_q _ _ H1.out _ TN.out).mono ?_; rintro e7 w6 ⟨rfl, rfl⟩) | (go_at_call 82; refine (InB.within_b _ _ _ _ H2.out _).mono ?_; rintro e7 w6 ⟨rfl, rfl⟩))
        go_ret
        exact ⟨by rw [RF.out]; rfl, below1 _ _⟩
  by_cases k1 : ki = 1
  · subst k1
    have H2 : Hid (inR 0 1 4 = true) := rfl
    cases n1 : Nm.nameOk g.nm with
    | false =>
      have H1 := Seg.hid n1
      clear n1
      have RF : Hid (R = false) := by show _ = _; rw [ZZ.out.2.1 rfl, H1.out]; rfl
      go_wp2_with (first | (go_at_call 76; refine (Nm.impl_q _ _ H1.out _ TN.out).mono ?_; rintro e7 w6 ⟨rfl, rfl⟩))
      go_ret
      exact ⟨by rw [RF.out]; rfl, below1 _ _⟩
    | true =>
      have H1 := Seg.hid n1
      clear n1
      cases gr
      · have RF : Hid (R = false) := by show _ = _; rw [ZZ.out.2.1 rfl, H1.out]; rfl
        go_wp2_with (first | (go_at_call 76; refine (Nm.impl_q _ _ H1.out _ TN.out).mono ?_; rintro e7 w6 ⟨rfl, rfl⟩) | (go_at_call 82; refine (InB.within_b _ _ _ _ H2.out _).mono ?_; rintro e7 w6 ⟨rfl, rfl⟩))
        go_ret
        exact ⟨by rw [RF.out]; rfl, below1 _ _⟩
      · by_cases hl0 : g.steps.length = 0
        · have hl1 : ((g.steps.length : Int) == 0) = true := by simpa using hl0
          have RF : Hid (R = true) := by show _ = _; rw [ZZ.out.2.1 rfl, H1.out, decide_eq_true hl0]; rfl
          go_wp2_with (first | (go_at_call 76; refine (Nm.impl_q _ _ H1.out _ TN.out).mono ?_; rintro e7 w6 ⟨rfl, rfl⟩) | (go_at_call 82; refine (InB.within_b _ _ _ _ H2.out _).mono ?_; rintro e7 w6 ⟨rfl, rfl⟩))
          go_ret
          exact ⟨by rw [RF.out]; rfl, below1 _ _⟩
        · have hl1 : ((g.steps.length : Int) == 0) = false := by simpa using hl0
          have RF : Hid (R = false) := by show _ = _; rw [ZZ.out.2.1 rfl, H1.out, decide_eq_false hl0]; rfl
          go_wp2_with (first | (go_at_call 76; refine (Nm.impl_q _ _ H1.out _ TN.out).mono ?_; rintro e7 w6 ⟨rfl, rfl⟩) | (go_at_call 82; refine (InB.within_b _ _ _ _ H2.out _).mono ?_; rintro e7 w6 ⟨rfl, rfl⟩))
          go_ret
          exact ⟨by rw [RF.out]; rfl, below1 _ _⟩
  have p0 : (ki == 0) = false := by simpa using k0
  have p1 : (ki == 1) = false := by simpa using k1
  have Z := Seg.hid (ZZ.out.2.2 k0 k1)
  clear ZZ k0 k1
  cases n1 : Nm.nameOk g.nm with
  | false =>
    have H1 := Seg.hid n1
    clear n1
    have RF : Hid (R = false) := by show _ = _; rw [Z.out, H1.out]; rfl
    go_wp2_with (first | (go_at_call 76; refine (Nm.impl_q _ _ H1.out _ TN.out).mono ?_; rintro e7 w6 ⟨rfl, rfl⟩))
    go_ret
    exact ⟨by rw [RF.out]; rfl, below1 _ _⟩
  | true =>
    have H1 := Seg.hid n1
    clear n1
    cases n2 : inR 0 ki 4 with
    | false =>
      have H2 := Seg.hid n2
      clear n2
      have RF : Hid (R = false) := by show _ = _; rw [Z.out, H1.out, H2.out]; rfl
      go_wp2_with (first | (go_at_call 76; refine (Nm.impl_q _ _ H1.out _ TN.out).mono ?_; rintro e7 w6 ⟨rfl, rfl⟩) | (go_at_call 82; refine (InB.within_b _ _ _ _ H2.out _).mono ?_; rintro e7 w6 ⟨rfl, rfl⟩))
      go_ret
      exact ⟨by rw [RF.out]; rfl, below1 _ _⟩
    | true =>
      have H2 := Seg.hid n2
      clear n2
      cases gr
      · have RF : Hid (R = false) := by show _ = _; rw [Z.out, H1.out, H2.out]; rfl
        go_wp2_with (first | (go_at_call 76; refine (Nm.impl_q _ _ H1.out _ TN.out).mono ?_; rintro e7 w6 ⟨rfl, rfl⟩) | (go_at_call 82; refine (InB.within_b _ _ _ _ H2.out _).mono ?_; rintro e7 w6 ⟨rfl, rfl⟩))
        go_ret
        exact ⟨by rw [RF.out]; rfl, below1 _ _⟩
      · have RF : Hid (R = stepsOk g.steps) := by show _ = _; rw [Z.out, H1.out, H2.out]; rfl
        go_wp2_with (first | (go_at_call 76; refine (Nm.impl_q _ _ H1.out _ TN.out).mono ?_; rintro e7 w6 ⟨rfl, rfl⟩) | (go_at_call 82; refine (InB.within_b _ _ _ _ H2.out _).mono ?_; rintro e7 w6 ⟨rfl, rfl⟩) | (go_at_call 80; refine (CE.out _ (below1 w _)).mono ?_; rintro e7 w6 ⟨rfl, b6⟩; have B6 := Seg.hid (chain (below1 w _) b6); clear b6))
        go_ret
        exact ⟨by rw [RF.out]; rfl, B6.out⟩
set_option maxHeartbeats 12800000 in
theorem gets_any (q : Qry) (A5 : Option Addr) (c5 : Nat) (A6 : Option Addr) (c6 : Nat) (A10 : Option Addr) (c10 : Nat) (w : World) (S : Nat → Prop) (hl : LAt 3 EGqt w S (.slice A10 q.gets.length c10) q.gets) (hS : ∀ g, S g → g < w.heap.size) (hz : szQry q ≤ 1048576) : Calls Try.prog 81 #[.agg (qrow q A5 c5 A6 c6 A10 c10)] w fun e w' => e = .returned (.bool (inR 1 q.gets.length 8 && q.gets.all (gtP (decide (0 < q.gps.length))))) ∧ Below w.heap.size w w' := by
  obtain ⟨A, c, g0, o, F, e0, OP, hn⟩ := opn hl hS
  cases e0
  have HO := Seg.hid OP
  have HZ := Seg.hid (sz_gets hz)
  clear hl OP hz
  obtain ⟨gr, hgr⟩ : ∃ gr, decide (0 < q.gps.length) = gr := ⟨_, rfl⟩
  rw [hgr]
  obtain ⟨R, hR⟩ : ∃ R, (inR 1 q.gets.length 8 && q.gets.all (gtP gr)) = R := ⟨_, rfl⟩
  rw [hR]
  have HR := Seg.hid hR
  clear hR
  have CG : Hid (∀ wx, Calls Try.prog 39 #[.agg (qrow q A5 c5 A6 c6 A10 c10)] wx fun e w' => e = .returned (.bool gr) ∧ Below wx.heap.size wx w') := fun wx => grp_any q A5 c5 A6 c6 A10 c10 wx gr hgr
  clear hgr
  obtain ⟨W0, hW0⟩ : ∃ W0, w.alloc (.cells (qrow q A5 c5 A6 c6 A10 c10) 34 (0, 0)) = W0 := ⟨_, rfl⟩
  have T0 : Hid (W0.heap[w.heap.size]? = some (.cells (qrow q A5 c5 A6 c6 A10 c10) 34 (0, 0))) := by show _ = _; rw [← hW0]; exact heap_alloc_new _ _
  have N0 : Hid (Below w.heap.size w W0) := by show Below _ _ _; rw [← hW0]; exact below1 _ _
  obtain ⟨q0, q1, q2, q3, q4, q5, q6, q7, q8, q9, q10⟩ := qcells T0.out
  go_enter Try.func81, Try.ntmps81
  cases n1 : inR 1 q.gets.length 8 with
  | false =>
    have H1 := Seg.hid n1
    have RF : Hid (R = false) := by show _ = _; rw [← HR.out, n1]; rfl
    clear n1
    go_wp2_with (go_at_call 82; refine (InB.within_b _ _ _ _ H1.out _).mono ?_; rintro e7 w6 ⟨rfl, rfl⟩)
    go_ret
    exact ⟨by rw [RF.out]; rfl, N0.out⟩
  | true =>
    have H1 := Seg.hid n1
    have h8 := inR_true n1
    have R1 : Hid (R = q.gets.all (gtP gr)) := by show _ = _; rw [← HR.out, n1]; rfl
    clear n1 HR
    go_wp2_with (go_at_call 82; refine (InB.within_b _ _ _ _ H1.out _).mono ?_; rintro e7 w6 ⟨rfl, rfl⟩)
    clear hW0 q0 q1 q2 q3 q4 q5 q6 q7 q8 q9 q10
    go_loopw [13] (fun i wr => ∃ k : Nat, k ≤ q.gets.length ∧ i = .int .i64 k ∧ Hid ((q.gets.take k).all (gtP gr) = true ∧ Below w.heap.size w wr ∧ wr.heap[w.heap.size]? = some (.cells (qrow q A5 c5 A6 c6 A10 c10) 34 (0, 0)))) (fun i _ => q.gets.length - (intOf i).toNat)
    case atStart => exact ⟨0, Nat.zero_le _, rfl, by simp, N0.out, T0.out⟩
    case round =>
      clear N0 T0
      obtain ⟨k, hk, rfl, HG⟩ := hrel
      have BW : Hid (Below w.heap.size w wr) := HG.out.2.1
      have TW : Hid (wr.heap[w.heap.size]? = some (.cells (qrow q A5 c5 A6 c6 A10 c10) 34 (0, 0))) := HG.out.2.2
      have AW := Seg.hid HG.out.1
      clear HG
      by_cases hlt : k < q.gets.length
      · obtain ⟨ea, hc, hgw⟩ := HO.out.addr.resolve_left (by omega)
        subst ea
        obtain ⟨A', c', hcl, d0, d1, d2⟩ := gqt_at HO.out hS BW.out hlt
        have h0 : (0 : Int) ≤ (k : Int) := by omega
        have h1 : (k : Int) < (q.gets.length : Int) := by omega
        have SU : Hid (szGqt (q.gets.getD k default) ≤ 1048576) := szL_one szGqt HZ.out hlt
        have NX : Hid (gtP gr (q.gets.getD k default) = true → (q.gets.take (k + 1)).all (gtP gr) = true) := QsP.all_next (gtP gr) q.gets k hlt AW.out
        have BX : Hid (gtP gr (q.gets.getD k default) = false → q.gets.all (gtP gr) = false) := QsP.all_bad (gtP gr) q.gets k hlt
        have HC := Seg.hid hcl
        clear hcl AW
        generalize q.gets.getD k default = g at *
        have hSr : ∀ y, S y → y < wr.heap.size := fun y hy => Nat.lt_of_lt_of_le (hS y hy) BW.out.size
        have CO : Hid (∀ wx, Below wr.heap.size wr wx → Calls Try.prog 105 #[.agg #[.int .i64 g.kind, .slice A' g.steps.length c', .string g.nm], .bool gr] wx fun e w' => e = .returned (.bool (gtP gr g)) ∧ Below wx.heap.size wx w') := fun wx b => get_any g A' c' gr wx S (LAt.below keepsStp HC.out b hSr) (fun y hy => Nat.lt_of_lt_of_le (hSr y hy) b.size) SU.out
        obtain ⟨w5, hw5⟩ : ∃ w5, wr.alloc (.cells #[.int .i64 g.kind, .slice A' g.steps.length c', .string g.nm] 117 (0, 0)) = w5 := ⟨_, rfl⟩
        have T5 : Hid (w5.heap[wr.heap.size]? = some (.cells #[.int .i64 g.kind, .slice A' g.steps.length c', .string g.nm] 117 (0, 0))) := by show _ = _; rw [← hw5]; exact heap_alloc_new _ _
        have N5 : Hid (Below wr.heap.size wr w5) := by show Below _ _ _; rw [← hw5]; exact below1 _ _
        have Q5 : Hid (w5.heap[w.heap.size]? = some (.cells (qrow q A5 c5 A6 c6 (some ⟨g0, o, none⟩) c10) 34 (0, 0))) := (N5.out.block _ (Array.getElem?_eq_some_iff.1 TW.out).1).trans TW.out
        go_upto_region 6 with fail
        try rw [hw5]
        clear hw5 d0 d1 d2
        obtain ⟨q0, q1, q2, q3, q4, q5, q6, q7, q8, q9, q10⟩ := qcells Q5.out
        obtain ⟨p0, p1, p2⟩ := gcells T5.out
        obtain ⟨K, hK⟩ : ∃ K, gtP gr g = K := ⟨_, rfl⟩
        rw [hK] at NX BX CO
        clear hK
        go_region_held3 (fun w' => w'.cell? ⟨wr.heap.size, 0, none⟩ = some (.int .i64 g.kind) ∧ w'.cell? ⟨wr.heap.size, 1, none⟩ = some (.slice A' g.steps.length c') ∧ w'.cell? ⟨wr.heap.size, 2, none⟩ = some (.string g.nm) ∧ w'.cell? ⟨w.heap.size, 0, none⟩ = some (.string q.fr) ∧ w'.cell? ⟨w.heap.size, 1, none⟩ = some (.string q.jn) ∧ w'.cell? ⟨w.heap.size, 2, none⟩ = some (.int .i64 q.wn) ∧ w'.cell? ⟨w.heap.size, 3, none⟩ = some (.string q.on) ∧ w'.cell? ⟨w.heap.size, 4, none⟩ = some (.string q.lk) ∧ w'.cell? ⟨w.heap.size, 5, none⟩ = some (.slice A5 q.wh.length c5) ∧ w'.cell? ⟨w.heap.size, 6, none⟩ = some (.slice A6 q.gps.length c6) ∧ w'.cell? ⟨w.heap.size, 7, none⟩ = some (.int .i64 q.win) ∧ w'.cell? ⟨w.heap.size, 8, none⟩ = some (.int .i64 q.size) ∧ w'.cell? ⟨w.heap.size, 9, none⟩ = some (.int .i64 q.every) ∧ w'.cell? ⟨w.heap.size, 10, none⟩ = some (.slice (some ⟨g0, o, none⟩) q.gets.length c10)) (first | exact ⟨p0, p1, p2, q0, q1, q2, q3, q4, q5, q6, q7, q8, q9, q10⟩ | exact ⟨m0, m1, m2, r0, r1, r2, r3, r4, r5, r6, r7, r8, r9, r10⟩ | go_keep) (first | (go_at_call 39; refine (CG.out _).mono ?_; rintro e6 w6 ⟨rfl, b6⟩; have B6 := Seg.hid (chain N5.out.drew b6); obtain ⟨r0, r1, r2, r3, r4, r5, r6, r7, r8, r9, r10⟩ := qcells ((b6.block _ (Array.getElem?_eq_some_iff.1 Q5.out).1).trans Q5.out); obtain ⟨m0, m1, m2⟩ := gcells ((b6.block _ (Array.getElem?_eq_some_iff.1 T5.out).1).trans T5.out); have M6 := Seg.hid ((b6.block _ (Array.getElem?_eq_some_iff.1 T5.out).1).trans T5.out); clear b6) | (go_at_call 105; refine (CO.out _ B6.out).mono ?_; rintro e7 w7 ⟨rfl, b7⟩; have B7 := Seg.hid (chain B6.out b7); have Q7 := Seg.hid ((B7.out.block _ (Array.getElem?_eq_some_iff.1 TW.out).1).trans TW.out); obtain ⟨r0, r1, r2, r3, r4, r5, r6, r7, r8, r9, r10⟩ := qcells Q7.out; obtain ⟨m0, m1, m2⟩ := gcells ((b7.block _ (Array.getElem?_eq_some_iff.1 M6.out).1).trans M6.out); clear b7))
        all_goals
          clear m0 m1 m2 r0 r1 r2 r3 r4 r5 r6 r7 r8 r9 r10
          cases K with
          | false =>
            have RF : Hid (R = false) := by show _ = _; rw [R1.out, BX.out rfl]
            clear NX BX CO
            go_wp2
            go_ret
            exact ⟨by rw [RF.out]; rfl, chain BW.out B7.out⟩
          | true =>
            have NY := Seg.hid (NX.out rfl)
            clear NX BX CO
            go_wp2
            go_roundw
            case rel => exact ⟨k + 1, by omega, by go_num, NY.out, chain BW.out B7.out, Q7.out⟩
            case measure => simp [intOf]; omega
      · have hkl : k = q.gets.length := by omega
        have RT : Hid (R = true) := by show _ = _; have := AW.out; rw [hkl, List.take_length] at this; rw [R1.out, this]
        have hx1 : ¬ (k : Int) < (q.gets.length : Int) := by omega
        clear hkl
        go_wp2
        go_ret
        exact ⟨by rw [RT.out]; rfl, BW.out⟩
end Go.Proofs.Ytkibaimemomjpaa.XgI
