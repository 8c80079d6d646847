/- The model's Inside. -/
import Derived.Deep.Cut
import Derived.Deep.CutRange
import Derived.Test.YtboooabjeidmfaaJO33
import Derived.Test.YtboooabjeidmfaaJO36
import Derived.Test.YtboooabjeidmfaaJO37
import Derived.Test.YtboooabjeidmfaaJO38
import Derived.Test.YtboooabjeidmfaaJO21
import Derived.Test.YtboooabjeidmfaaJO22
namespace Go.Proofs.Ytboooabjeidmfaa.IsS
set_option maxRecDepth 8000
open Go.RowKit
open Ls Lp QyP QsP QtP QuP YcP YsP YtP QsI XqP YtI YvP YzP IsP
open Recs (hsz below1 below2 below3 chain)
set_option linter.unusedVariables false
theorem row_form {w : World} {B : Nat} {v : Value} {ns : List ByteArray} (h : Row w B v ns) : ∃ A c, v = .slice A ns.length c := by
  rcases h.2 with ⟨h1, h2⟩ | ⟨g, cap, cur, h1, -⟩
  · exact ⟨none, 0, by rw [h1, h2]⟩
  · exact ⟨_, cap, h1⟩
theorem bs_ok {q : Qry} {l : List Src} (hl : srcsOk l = true) (h : bsB q l = true) : srcOk (bsR q l) = true := by
  unfold bsB at h
  unfold bsR
  by_cases hj : em q.jn = true
  · rw [if_pos hj] at h ⊢
    simp only [Bool.and_eq_true] at h
    exact b_ok hl h.1
  · rw [if_neg hj] at h ⊢
    simp only [Bool.and_eq_true] at h
    exact b_ok hl h.1
theorem jn_zero (on : ByteArray) (a b : List ByteArray) : jnL on a (b.take 0) = a := by simp [jnL]
set_option maxHeartbeats 51200000 in
theorem spec_any (x v : Value) (q : Qry) (l : List Src) (w : World) (S : Nat → Prop) (hx : QryAt w S x q) (hv : LAt 3 ESrc w S v l) (hS : ∀ g, S g → g < w.heap.size) (hz : szQry q ≤ 1048576) (hf : szL szSrc l ≤ 1048576) :
    Calls Try.prog 28 #[x, v] w fun e w' => ∃ v', e = .returned v' ∧ Row w' w.heap.size v' (inside q l) ∧ Below w.heap.size w w' := by
  have HX := Seg.hid hx
  obtain ⟨A5, c5, A6, c6, A10, c10, rfl, hl5, hl6, hl10⟩ := qform hx
  have H5 := Seg.hid hl5
  have H6 := Seg.hid hl6
  have H10 := Seg.hid hl10
  have HV := Seg.hid hv
  obtain ⟨A0, c0, g, o, F, rfl, OP, hn⟩ := opn hv hS
  have HO := Seg.hid OP
  clear hv hx hl5 hl6 hl10 OP
  have CQ : Hid (∀ wx, Below w.heap.size w wx → Calls Try.prog 14 #[.agg (qrow q A5 c5 A6 c6 A10 c10)] wx fun e w' => e = .returned (.bool (qOk q)) ∧ Below wx.heap.size wx w') := fun wx b => XqS.spec_any _ q wx S (HX.out.below b hS) (fun y hy => Nat.lt_of_lt_of_le (hS y hy) b.size) hz
  have CS : Hid (∀ wx, Below w.heap.size w wx → Calls Try.prog 9 #[.slice A0 l.length c0] wx fun e w' => e = .returned (.bool (srcsOk l)) ∧ Below wx.heap.size wx w') := fun wx b => QsS.spec_any _ l wx S (LAt.below keepsSrc HV.out b hS) (fun y hy => Nat.lt_of_lt_of_le (hS y hy) b.size) hf
  have CF : Hid (∀ n wx, Below w.heap.size w wx → Calls Try.prog 63 #[.slice A0 l.length c0, .string n] wx fun e w' => e = .returned (.int .i64 (srcAt l n)) ∧ wx = w') := fun n wx b => QuS.source_any _ l n wx S (LAt.below keepsSrc HV.out b hS) (fun y hy => Nat.lt_of_lt_of_le (hS y hy) b.size)
  obtain ⟨i0, hi, hz0, hz1, hz2⟩ := info_parts infoStr
  obtain ⟨RR, hRR⟩ : ∃ R, inside q l = R := ⟨_, rfl⟩
  rw [hRR]
  have HRR := Seg.hid hRR
  have jlz : q.jn.size + q.lk.size ≤ 9223372036854775807 := by unfold szQry at hz; omega
  clear hRR hz hf
  obtain ⟨W0, hW0⟩ : ∃ W0, (w.alloc (.cells (qrow q A5 c5 A6 c6 A10 c10) 39 (0, 0))).alloc (.cells #[] 9 (0, 0)) = W0 := ⟨_, rfl⟩
  have T0 : Hid (W0.heap[w.heap.size]? = some (.cells (qrow q A5 c5 A6 c6 A10 c10) 39 (0, 0))) := by
    show _ = _
    rw [← hW0, (below1 _ _).block _ (by rw [hsz]; omega)]
    exact heap_alloc_new _ _
  have N0 : Hid (Below w.heap.size w W0) := by show Below _ _ _; rw [← hW0]; exact below2 _ _ _
  have E0 : Hid (Row W0 (w.heap.size + 1) (.slice (some ⟨w.heap.size + 1, 0, none⟩) 0 0) []) := by
    show Row _ _ _ _
    rw [← hW0]
    have := empty_row (w.alloc (.cells (qrow q A5 c5 A6 c6 A10 c10) 39 (0, 0)))
    rwa [hsz] at this
  have z0 : w.heap.size + 1 < W0.heap.size := by rw [← hW0, hsz, hsz]; omega
  go_enter Try.func28, Try.ntmps28
  go_upto_region 2 with fail
  try rw [hW0]
  clear hW0
  obtain ⟨p0, p1, p2, p3, p4, p5, p6, p7, p8, p9, p10⟩ := qcells T0.out
  go_wp2_with fail
  refine (CQ.out _ N0.out).mono ?_
  rintro e w1 ⟨rfl, b1⟩
  have B1 := Seg.hid (chain N0.out b1)
  have T1 := Seg.hid ((b1.block _ (Array.getElem?_eq_some_iff.1 T0.out).1).trans T0.out)
  have E1 := Seg.hid (Row.keep E0.out b1)
  have z1 := b1.size
  clear b1 p0 p1 p2 p3 p4 p5 p6 p7 p8 p9 p10
  cases hq : qOk q with
  | false =>
    have RN : Hid (RR = []) := by show _ = _; rw [← HRR.out, inside, hq]; rfl
    clear hq
    go_wp2
    go_ret
    exact ⟨_, rfl, by rw [RN.out]; exact row_weak E1.out (by omega), B1.out⟩
  | true =>
  go_wp2_with fail
  refine (CS.out _ B1.out).mono ?_
  rintro e w2 ⟨rfl, b2⟩
  have B2 := Seg.hid (chain B1.out b2)
  have T2 := Seg.hid ((b2.block _ (Array.getElem?_eq_some_iff.1 T1.out).1).trans T1.out)
  have E2 := Seg.hid (Row.keep E1.out b2)
  have z2 := b2.size
  clear b2
  cases hl : srcsOk l with
  | false =>
    have RN : Hid (RR = []) := by show _ = _; rw [← HRR.out, inside, hl, Bool.and_false]; rfl
    clear hq hl
    go_wp2
    go_ret
    exact ⟨_, rfl, by rw [RN.out]; exact row_weak E2.out (by omega), B2.out⟩
  | true =>
  have HQ := Seg.hid hq
  have HL := Seg.hid hl
  clear hq hl
  obtain ⟨q0, q1, q2, q3, q4, q5, q6, q7, q8, q9, q10⟩ := qcells T2.out
  have AT := at_or l q.fr
  go_upto_region 5 with (go_at_call 63; refine (CF.out q.fr w2 B2.out).mono ?_; rintro e w3 ⟨rfl, rfl⟩)
  rcases AT with ⟨ha, hf⟩ | ⟨k, hk, ha, hf⟩
  · have RN : Hid (RR = []) := by show _ = _; rw [← HRR.out]; exact in_nil (se_nil (by rw [srcB, hf]))
    have hneg : srcAt l q.fr < 0 := by omega
    rw [ha]
    clear ha hf hneg
    go_wp2
    go_ret
    exact ⟨_, rfl, by rw [RN.out]; exact row_weak E2.out (by omega), B2.out⟩
  rw [ha]
  obtain ⟨ea, hc, hgw⟩ := HO.out.addr.resolve_left (by omega)
  subst ea
  obtain ⟨A', c', hcl, d0, d1, d2⟩ := src_at HO.out hS B2.out hk
  have h0 : (0 : Int) ≤ (k : Int) := by omega
  have h1 : (k : Int) < (l.length : Int) := by omega
  have SR : Hid (srcR l q.fr = l.getD k default) := by show _ = _; rw [srcR, hf]
  have SB : Hid (srcB l q.fr false = ((l.getD k default).tab == false)) := by show _ = _; rw [srcB, hf]
  have HC := Seg.hid hcl
  clear hcl hf ha d0
  generalize l.getD k default = s at *
  obtain ⟨tb, htb⟩ : ∃ t, s.tab = t := ⟨_, rfl⟩
  rw [htb] at d1 SB
  clear htb
  cases tb with
  | true =>
    have RN : Hid (RR = []) := by show _ = _; rw [← HRR.out]; exact in_nil (se_nil SB.out)
    go_wp2
    go_ret
    exact ⟨_, rfl, by rw [RN.out]; exact row_weak E2.out (by omega), B2.out⟩
  | false =>
  have SOK : Hid (srcOk s = true) := by show _ = _; rw [← SR.out]; exact b_ok HL.out SB.out
  have sl := (ok_cols SOK.out).2
  obtain ⟨wa, hwa⟩ : ∃ wa, w2.alloc (.cells #[] 9 (0, 0)) = wa := ⟨_, rfl⟩
  have BA : Hid (Below w2.heap.size w2 wa) := by show Below _ _ _; rw [← hwa]; exact below1 _ _
  have NW : Hid (s.cols.length ≠ 0 → ∃ ad, A' = some ad ∧ ∀ j u, (s.cols.map Value.string)[j]? = some u → wa.cell? (ad.add j) = some u) := news_of HC.out (fun y hy => BA.out.block y (Nat.lt_of_lt_of_le (hS y hy) B2.out.size))
  have OW : Hid (wa.ownsRow w2.heap.size 9 1 (.slice (some ⟨w2.heap.size, 0, none⟩) 0 0) 0 []) := by show World.ownsRow _ _ _ _ _ _ _; rw [← hwa]; exact empty_row w2
  have d2a : wa.cell? ⟨g, o + k * 3 + 2, none⟩ = some (.slice A' s.cols.length c') := cell_later d2 (Nat.lt_of_lt_of_le hgw B2.out.size) BA.out
  have za : w2.heap.size ≤ wa.heap.size := BA.out.size
  clear q0 q1 q2 q3 q4 q5 q6 q7 q8 q9 q10
  go_upto_region 8 with (at_builtin; refine AppW.wpList_append_all _ rfl _ _ 30 rfl w2.heap.size 9 i0 _ 1 16 Try.underlying30 hi hz0 hz1 hz2 rfl (by decide) (.slice (some ⟨w2.heap.size, 0, none⟩) 0 0) 0 [] rfl OW.out A' s.cols.length c' (s.cols.map Value.string) rfl (by simp) NW.out (by simp [Value.oneCell']) (by unfold maxLen; omega) (by omega) za ?_; intro v3 w3 hown hgr hvb; have R3 := Seg.hid (row_all hown); have B3 : Hid (Below w2.heap.size w2 w3) := BA.out.grown hgr za (fun y hy => by simp only [Value.ownBlock, Option.some.injEq] at hy; omega); clear hown hgr hvb)
  clear d1 d2 d2a NW OW hwa
  have C3 := Seg.hid (chain B2.out B3.out)
  have T3 := Seg.hid ((B3.out.block _ (Array.getElem?_eq_some_iff.1 T2.out).1).trans T2.out)
  have E3 := Seg.hid (Row.keep E2.out B3.out)
  have z3 := B3.out.size
  obtain ⟨CC, hCC⟩ : ∃ C, CCq q l = C := ⟨_, rfl⟩
  have HCC := Seg.hid hCC
  clear hCC
  have EON := on_em HQ.out
  obtain ⟨eo, heo⟩ : ∃ e, (q.on.toList == []) = e := ⟨_, rfl⟩
  have EO : Hid (em q.on = eo) := heo
  obtain ⟨q0, q1, q2, q3, q4, q5, q6, q7, q8, q9, q10⟩ := qcells T3.out
  have f1 := q1
  have f3 := q3
  have f4 := q4
  clear q0 q1 q2 q3 q4 q5 q6 q7 q8 q9 q10
  have hsr := SR.out
  go_upto_if 45 with fail
  go_cut [7, 8, 9] from 46 to 133 (fun v7 v8 v9 wx => Row wx w2.heap.size v7 CC ∧ Below w2.heap.size w2 wx ∧ (em q.on = true ∨ (bsB q l = true ∧ hasT (srcR l q.fr).cols q.on = true)))
  case first =>
    cases eo with
    | true =>
      have RC : Hid (CC = s.cols) := by show _ = _; rw [← HCC.out, CCq, EO.out, if_pos rfl, SR.out]
      have EOT := Seg.hid EO.out
      clear EON hsr
      go_wp2
      go_meet
      exact ⟨by rw [RC.out]; exact R3.out, B3.out, .inl EOT.out⟩
    | false =>
      have HJL : Hid ((em q.jn && em q.lk) = false) := by show _ = _; rw [← EON.1]; exact EO.out
      have RC : Hid (CC = jnL q.on s.cols (bsR q l).cols) := by show _ = _; rw [← HCC.out, CCq, EO.out, if_neg (by decide), SR.out]
      have OEQ : Hid (srcAt l (q.jn ++ q.lk) = srcAt l (nnq q)) := at_congr (nn_list HQ.out)
      have BE : Hid (bsB q l = (srcB l (nnq q) (!em q.lk) && (hasT (bsR q l).cols q.on && (em q.lk || hd (bsR q l).cols q.on)))) := (bsB_eq HQ.out HL.out).resolve_right (by rw [HJL.out]; decide)
      have AT2 := Seg.hid (at_or l (nnq q))
      obtain ⟨el, hel⟩ : ∃ e, (q.lk.toList == []) = e := ⟨_, rfl⟩
      have EL : Hid (em q.lk = el) := hel
      have SRH := Seg.hid hsr
      clear EON hsr
      go_upto_region 10 with (go_at_call 63; refine (CF.out _ w3 C3.out).mono ?_; rintro e w4 ⟨rfl, rfl⟩)
      try rw [OEQ.out]
      rcases AT2.out with ⟨ha, hf⟩ | ⟨j, hj, ha, hf⟩
      · have BF : Hid (bsB q l = false) := by show _ = _; rw [BE.out, srcB, hf]; rfl
        rw [ha]
        clear ha hf
        refine wp_region_held_drew (S := (fun w' => w'.cell? ⟨w.heap.size, 3, none⟩ = some (.string q.on) ∧ w'.cell? ⟨w.heap.size, 4, none⟩ = some (.string q.lk))) (by kernel_rfl) ⟨f3, f4⟩ (fun hHeld => ?_)
        refine HdK.tke 0 (some 53) (.int .i64 (-1)) rfl rfl ?_
        try simp only [Act.put, List.setIfInBounds_toArray, List.set_cons_zero, List.set_cons_succ]
        refine HdK.tke 1 (some 54) (.bool true) rfl rfl ?_
        try simp only [Act.put, List.setIfInBounds_toArray, List.set_cons_zero, List.set_cons_succ]
        refine HdK.tke 2 (some 55) (.bool true) rfl rfl ?_
        try simp only [Act.put, List.setIfInBounds_toArray, List.set_cons_zero, List.set_cons_succ]
        refine HdK.skp 3 (some 56) rfl rfl ?_
        try simp only [Act.put, List.setIfInBounds_toArray, List.set_cons_zero, List.set_cons_succ]
        refine HdK.skp 4 (some 57) rfl rfl ?_
        try simp only [Act.put, List.setIfInBounds_toArray, List.set_cons_zero, List.set_cons_succ]
        refine HdK.skp 5 (some 58) rfl rfl ?_
        try simp only [Act.put, List.setIfInBounds_toArray, List.set_cons_zero, List.set_cons_succ]
        refine HdK.skp 6 (some 59) rfl rfl ?_
        try simp only [Act.put, List.setIfInBounds_toArray, List.set_cons_zero, List.set_cons_succ]
        refine HdK.skp 7 (some 60) rfl rfl ?_
        try simp only [Act.put, List.setIfInBounds_toArray, List.set_cons_zero, List.set_cons_succ]
        refine HdK.skp 8 (some 61) rfl rfl ?_
        try simp only [Act.put, List.setIfInBounds_toArray, List.set_cons_zero, List.set_cons_succ]
        refine HdK.skp 9 (some 62) rfl rfl ?_
        try simp only [Act.put, List.setIfInBounds_toArray, List.set_cons_zero, List.set_cons_succ]
        refine HdK.skp 10 (some 63) rfl rfl ?_
        try simp only [Act.put, List.setIfInBounds_toArray, List.set_cons_zero, List.set_cons_succ]
        refine HdK.skp 11 (some 64) rfl rfl ?_
        try simp only [Act.put, List.setIfInBounds_toArray, List.set_cons_zero, List.set_cons_succ]
        refine HdK.tke 12 (some 65) (.bool true) rfl rfl ?_
        try simp only [Act.put, List.setIfInBounds_toArray, List.set_cons_zero, List.set_cons_succ]
        refine HdK.tke 13 (some 66) (.bool true) rfl rfl ?_
        try simp only [Act.put, List.setIfInBounds_toArray, List.set_cons_zero, List.set_cons_succ]
        refine HdK.skp 14 (some 67) rfl rfl ?_
        try simp only [Act.put, List.setIfInBounds_toArray, List.set_cons_zero, List.set_cons_succ]
        refine HdK.skp 15 (some 68) rfl rfl ?_
        try simp only [Act.put, List.setIfInBounds_toArray, List.set_cons_zero, List.set_cons_succ]
        refine HdK.skp 16 (some 69) rfl rfl ?_
        try simp only [Act.put, List.setIfInBounds_toArray, List.set_cons_zero, List.set_cons_succ]
        refine HdK.skp 17 (some 70) rfl rfl ?_
        try simp only [Act.put, List.setIfInBounds_toArray, List.set_cons_zero, List.set_cons_succ]
        refine HdK.skp 18 (some 71) rfl rfl ?_
        try simp only [Act.put, List.setIfInBounds_toArray, List.set_cons_zero, List.set_cons_succ]
        refine HdK.tke 19 (some 72) (.bool true) rfl rfl ?_
        try simp only [Act.put, List.setIfInBounds_toArray, List.set_cons_zero, List.set_cons_succ]
        refine HdK.tke 20 (some 73) (.bool true) rfl rfl ?_
        try simp only [Act.put, List.setIfInBounds_toArray, List.set_cons_zero, List.set_cons_succ]
        refine HdK.skp 21 (some 74) rfl rfl ?_
        try simp only [Act.put, List.setIfInBounds_toArray, List.set_cons_zero, List.set_cons_succ]
        refine HdK.skp 22 (some 75) rfl rfl ?_
        try simp only [Act.put, List.setIfInBounds_toArray, List.set_cons_zero, List.set_cons_succ]
        refine HdK.skp 23 (some 76) rfl rfl ?_
        try simp only [Act.put, List.setIfInBounds_toArray, List.set_cons_zero, List.set_cons_succ]
        refine HdK.skp 24 (some 77) rfl rfl ?_
        try simp only [Act.put, List.setIfInBounds_toArray, List.set_cons_zero, List.set_cons_succ]
        refine HdK.skp 25 (some 78) rfl rfl ?_
        try simp only [Act.put, List.setIfInBounds_toArray, List.set_cons_zero, List.set_cons_succ]
        refine HdK.skp 26 (some 79) rfl rfl ?_
        try simp only [Act.put, List.setIfInBounds_toArray, List.set_cons_zero, List.set_cons_succ]
        refine HdK.skp 27 (some 80) rfl rfl ?_
        try simp only [Act.put, List.setIfInBounds_toArray, List.set_cons_zero, List.set_cons_succ]
        refine HdK.skp 28 (some 81) rfl rfl ?_
        try simp only [Act.put, List.setIfInBounds_toArray, List.set_cons_zero, List.set_cons_succ]
        refine HdK.skp 29 (some 82) rfl rfl ?_
        try simp only [Act.put, List.setIfInBounds_toArray, List.set_cons_zero, List.set_cons_succ]
        refine HdK.tke 30 (some 83) (.bool true) rfl rfl ?_
        try simp only [Act.put, List.setIfInBounds_toArray, List.set_cons_zero, List.set_cons_succ]
        refine HdK.tke 31 (some 84) (.bool true) rfl rfl ?_
        try simp only [Act.put, List.setIfInBounds_toArray, List.set_cons_zero, List.set_cons_succ]
        refine HdK.skp 32 (some 85) rfl rfl ?_
        try simp only [Act.put, List.setIfInBounds_toArray, List.set_cons_zero, List.set_cons_succ]
        refine HdK.skp 33 (some 86) rfl rfl ?_
        try simp only [Act.put, List.setIfInBounds_toArray, List.set_cons_zero, List.set_cons_succ]
        refine HdK.skp 34 (some 87) rfl rfl ?_
        try simp only [Act.put, List.setIfInBounds_toArray, List.set_cons_zero, List.set_cons_succ]
        refine HdK.skp 35 (some 88) rfl rfl ?_
        try simp only [Act.put, List.setIfInBounds_toArray, List.set_cons_zero, List.set_cons_succ]
        refine HdK.skp 36 (some 89) rfl rfl ?_
        try simp only [Act.put, List.setIfInBounds_toArray, List.set_cons_zero, List.set_cons_succ]
        refine HdK.skp 37 (some 90) rfl rfl ?_
        try simp only [Act.put, List.setIfInBounds_toArray, List.set_cons_zero, List.set_cons_succ]
        refine HdK.skp 38 (some 91) rfl rfl ?_
        try simp only [Act.put, List.setIfInBounds_toArray, List.set_cons_zero, List.set_cons_succ]
        refine HdK.skp 39 (some 92) rfl rfl ?_
        try simp only [Act.put, List.setIfInBounds_toArray, List.set_cons_zero, List.set_cons_succ]
        refine HdK.skp 40 (some 93) rfl rfl ?_
        try simp only [Act.put, List.setIfInBounds_toArray, List.set_cons_zero, List.set_cons_succ]
        refine HdK.skp 41 (some 94) rfl rfl ?_
        try simp only [Act.put, List.setIfInBounds_toArray, List.set_cons_zero, List.set_cons_succ]
        refine HdK.skp 42 (some 95) rfl rfl ?_
        try simp only [Act.put, List.setIfInBounds_toArray, List.set_cons_zero, List.set_cons_succ]
        refine HdK.skp 43 (some 96) rfl rfl ?_
        try simp only [Act.put, List.setIfInBounds_toArray, List.set_cons_zero, List.set_cons_succ]
        refine HdK.skp 44 (some 97) rfl rfl ?_
        try simp only [Act.put, List.setIfInBounds_toArray, List.set_cons_zero, List.set_cons_succ]
        refine HdK.skp 45 (some 98) rfl rfl ?_
        try simp only [Act.put, List.setIfInBounds_toArray, List.set_cons_zero, List.set_cons_succ]
        refine HdK.skp 46 (some 99) rfl rfl ?_
        try simp only [Act.put, List.setIfInBounds_toArray, List.set_cons_zero, List.set_cons_succ]
        refine HdK.tke 47 (some 100) (.bool true) rfl rfl ?_
        try simp only [Act.put, List.setIfInBounds_toArray, List.set_cons_zero, List.set_cons_succ]
        refine wpAnyH_done (by kernel_rfl) ?_ _
        have RN : Hid (RR = []) := by show _ = _; rw [← HRR.out]; exact in_nil (se_nil2 HJL.out BF.out)
        clear HRR
        go_wp2
        go_ret
        exact ⟨_, rfl, by rw [RN.out]; exact row_weak (Row.keep E3.out ⟨rfl, rfl, rfl, Nat.le_refl _, fun _ _ => rfl⟩) (by omega), C3.out.drew⟩
      rw [ha]
      obtain ⟨A2, c2, hcl2, -, y1, y2⟩ := src_at HO.out hS B2.out hj
      have hg2w : g < w2.heap.size := Nat.lt_of_lt_of_le hgw B2.out.size
      have x1 := cell_later y1 hg2w B3.out
      have x2 := cell_later y2 hg2w B3.out
      clear y1 y2
      have hj0 : (0 : Int) ≤ (j : Int) := by omega
      have hj1 : (j : Int) < (l.length : Int) := by omega
      have hj2 : ¬ (j : Int) < 0 := by omega
      have BR : Hid (bsR q l = l.getD j default) := by show _ = _; rw [bsR_nn, srcR, hf]
      have SB2 : Hid (srcB l (nnq q) (!em q.lk) = ((l.getD j default).tab == !em q.lk)) := by show _ = _; rw [srcB, hf]
      have OKO : Hid (((l.getD j default).tab == !em q.lk) = true → srcOk (l.getD j default) = true) := fun h => by
        have h3 := b_ok (n := nnq q) (t := !em q.lk) HL.out (by rw [SB2.out]; exact h)
        rw [← bsR_nn, BR.out] at h3
        exact h3
      have HC2 := Seg.hid hcl2
      clear hcl2 hf ha
      rw [BR.out] at RC BE
      rw [SB2.out, EL.out] at BE
      generalize l.getD j default = o2 at *
      obtain ⟨tb, htb⟩ : ∃ t, o2.tab = t := ⟨_, rfl⟩
      rw [htb] at x1 BE
      rw [htb, EL.out] at OKO
      clear htb
      obtain ⟨A3, c3, g2, p2, F2, e3, OP2, hn2⟩ := opn HC2.out (fun y hy => Nat.lt_of_lt_of_le (hS y hy) B2.out.size)
      cases e3
      have HOP2 := Seg.hid OP2
      clear OP2
      have CHS : Hid (Calls Try.prog 64 #[v3, .string q.on] w3.drew fun e w' => e = .returned (.bool (hasT s.cols q.on)) ∧ w3.drew = w') := QyS.has_any v3 s.cols q.on w3.drew _ (Row.lat (B := w2.heap.size) R3.out (by omega)) (fun y hy => hy.2)
      have CHO : Hid (Calls Try.prog 64 #[.slice A2 o2.cols.length c2, .string q.on] w3.drew fun e w' => e = .returned (.bool (hasT o2.cols q.on)) ∧ w3.drew = w') := QyS.has_any _ o2.cols q.on w3.drew S (LAt.below keepsStr HC2.out B3.out.drew (fun y hy => Nat.lt_of_lt_of_le (hS y hy) B2.out.size)) (fun y hy => Nat.lt_of_lt_of_le (hS y hy) C3.out.size)
      obtain ⟨hs, hhs⟩ : ∃ b, hasT s.cols q.on = b := ⟨_, rfl⟩
      obtain ⟨ho, hho⟩ : ∃ b, hasT o2.cols q.on = b := ⟨_, rfl⟩
      have HHS : Hid (hasT (srcR l q.fr).cols q.on = hs) := by show _ = _; rw [SRH.out]; exact hhs
      rw [hhs] at CHS
      rw [hho] at CHO BE
      clear hhs hho
      cases tb with
      | false =>
        cases el with
        | false =>
          have BF : Hid (bsB q l = false) := by show _ = _; rw [BE.out]; rfl
          refine wp_region_held_drew (S := (fun w' => w'.cell? ⟨w.heap.size, 3, none⟩ = some (.string q.on) ∧ w'.cell? ⟨w.heap.size, 4, none⟩ = some (.string q.lk) ∧ w'.cell? ⟨g, o + j * 3 + 1, none⟩ = some (.bool false) ∧ w'.cell? ⟨g, o + j * 3 + 2, none⟩ = some (.slice A2 o2.cols.length c2))) (by kernel_rfl) ⟨f3, f4, x1, x2⟩ (fun hHeld => ?_)
          refine HdK.tke 0 (some 53) (.int .i64 (j : Int)) rfl rfl ?_
          try simp only [Act.put, List.setIfInBounds_toArray, List.set_cons_zero, List.set_cons_succ]
          refine HdK.tke 1 (some 54) (.bool false) rfl rfl ?_
          try simp only [Act.put, List.setIfInBounds_toArray, List.set_cons_zero, List.set_cons_succ]
          refine HdK.tke 2 (some 55) (.bool false) rfl rfl ?_
          try simp only [Act.put, List.setIfInBounds_toArray, List.set_cons_zero, List.set_cons_succ]
          refine HdK.tke 3 (some 56) (.slice (some ⟨g, o, none⟩) l.length c0) rfl rfl ?_
          try simp only [Act.put, List.setIfInBounds_toArray, List.set_cons_zero, List.set_cons_succ]
          refine HdK.tke 4 (some 57) (.int .i64 (j : Int)) rfl rfl ?_
          try simp only [Act.put, List.setIfInBounds_toArray, List.set_cons_zero, List.set_cons_succ]
          refine HdK.tke 5 (some 58) (.pointer (some ⟨g, o + j * 3, none⟩)) rfl rfl ?_
          try simp only [Act.put, List.setIfInBounds_toArray, List.set_cons_zero, List.set_cons_succ]
          refine HdK.tke 6 (some 59) (.pointer (some ⟨g, o + j * 3 + 1, none⟩)) rfl rfl ?_
          try simp only [Act.put, List.setIfInBounds_toArray, List.set_cons_zero, List.set_cons_succ]
          refine HdK.tke 7 (some 60) (.bool false) rfl rfl ?_
          try simp only [Act.put, List.setIfInBounds_toArray, List.set_cons_zero, List.set_cons_succ]
          refine HdK.tke 8 (some 61) (.pointer (some ⟨w.heap.size, 4, none⟩)) rfl rfl ?_
          try simp only [Act.put, List.setIfInBounds_toArray, List.set_cons_zero, List.set_cons_succ]
          refine HdK.tke 9 (some 62) (.string q.lk) rfl rfl ?_
          try simp only [Act.put, List.setIfInBounds_toArray, List.set_cons_zero, List.set_cons_succ]
          refine HdK.tke 10 (some 63) (.bool true) rfl rfl ?_
          try simp only [Act.put, List.setIfInBounds_toArray, List.set_cons_zero, List.set_cons_succ]
          refine HdK.tke 11 (some 64) (.bool true) rfl rfl ?_
          try simp only [Act.put, List.setIfInBounds_toArray, List.set_cons_zero, List.set_cons_succ]
          refine HdK.tke 12 (some 65) (.bool true) rfl rfl ?_
          try simp only [Act.put, List.setIfInBounds_toArray, List.set_cons_zero, List.set_cons_succ]
          refine HdK.tke 13 (some 66) (.bool true) rfl rfl ?_
          try simp only [Act.put, List.setIfInBounds_toArray, List.set_cons_zero, List.set_cons_succ]
          refine HdK.skp 14 (some 67) rfl rfl ?_
          try simp only [Act.put, List.setIfInBounds_toArray, List.set_cons_zero, List.set_cons_succ]
          refine HdK.skp 15 (some 68) rfl rfl ?_
          try simp only [Act.put, List.setIfInBounds_toArray, List.set_cons_zero, List.set_cons_succ]
          refine HdK.skp 16 (some 69) rfl rfl ?_
          try simp only [Act.put, List.setIfInBounds_toArray, List.set_cons_zero, List.set_cons_succ]
          refine HdK.skp 17 (some 70) rfl rfl ?_
          try simp only [Act.put, List.setIfInBounds_toArray, List.set_cons_zero, List.set_cons_succ]
          refine HdK.skp 18 (some 71) rfl rfl ?_
          try simp only [Act.put, List.setIfInBounds_toArray, List.set_cons_zero, List.set_cons_succ]
          refine HdK.tke 19 (some 72) (.bool true) rfl rfl ?_
          try simp only [Act.put, List.setIfInBounds_toArray, List.set_cons_zero, List.set_cons_succ]
          refine HdK.tke 20 (some 73) (.bool true) rfl rfl ?_
          try simp only [Act.put, List.setIfInBounds_toArray, List.set_cons_zero, List.set_cons_succ]
          refine HdK.skp 21 (some 74) rfl rfl ?_
          try simp only [Act.put, List.setIfInBounds_toArray, List.set_cons_zero, List.set_cons_succ]
          refine HdK.skp 22 (some 75) rfl rfl ?_
          try simp only [Act.put, List.setIfInBounds_toArray, List.set_cons_zero, List.set_cons_succ]
          refine HdK.skp 23 (some 76) rfl rfl ?_
          try simp only [Act.put, List.setIfInBounds_toArray, List.set_cons_zero, List.set_cons_succ]
          refine HdK.skp 24 (some 77) rfl rfl ?_
          try simp only [Act.put, List.setIfInBounds_toArray, List.set_cons_zero, List.set_cons_succ]
          refine HdK.skp 25 (some 78) rfl rfl ?_
          try simp only [Act.put, List.setIfInBounds_toArray, List.set_cons_zero, List.set_cons_succ]
          refine HdK.skp 26 (some 79) rfl rfl ?_
          try simp only [Act.put, List.setIfInBounds_toArray, List.set_cons_zero, List.set_cons_succ]
          refine HdK.skp 27 (some 80) rfl rfl ?_
          try simp only [Act.put, List.setIfInBounds_toArray, List.set_cons_zero, List.set_cons_succ]
          refine HdK.skp 28 (some 81) rfl rfl ?_
          try simp only [Act.put, List.setIfInBounds_toArray, List.set_cons_zero, List.set_cons_succ]
          refine HdK.skp 29 (some 82) rfl rfl ?_
          try simp only [Act.put, List.setIfInBounds_toArray, List.set_cons_zero, List.set_cons_succ]
          refine HdK.tke 30 (some 83) (.bool true) rfl rfl ?_
          try simp only [Act.put, List.setIfInBounds_toArray, List.set_cons_zero, List.set_cons_succ]
          refine HdK.tke 31 (some 84) (.bool true) rfl rfl ?_
          try simp only [Act.put, List.setIfInBounds_toArray, List.set_cons_zero, List.set_cons_succ]
          refine HdK.skp 32 (some 85) rfl rfl ?_
          try simp only [Act.put, List.setIfInBounds_toArray, List.set_cons_zero, List.set_cons_succ]
          refine HdK.skp 33 (some 86) rfl rfl ?_
          try simp only [Act.put, List.setIfInBounds_toArray, List.set_cons_zero, List.set_cons_succ]
          refine HdK.skp 34 (some 87) rfl rfl ?_
          try simp only [Act.put, List.setIfInBounds_toArray, List.set_cons_zero, List.set_cons_succ]
          refine HdK.skp 35 (some 88) rfl rfl ?_
          try simp only [Act.put, List.setIfInBounds_toArray, List.set_cons_zero, List.set_cons_succ]
          refine HdK.skp 36 (some 89) rfl rfl ?_
          try simp only [Act.put, List.setIfInBounds_toArray, List.set_cons_zero, List.set_cons_succ]
          refine HdK.skp 37 (some 90) rfl rfl ?_
          try simp only [Act.put, List.setIfInBounds_toArray, List.set_cons_zero, List.set_cons_succ]
          refine HdK.skp 38 (some 91) rfl rfl ?_
          try simp only [Act.put, List.setIfInBounds_toArray, List.set_cons_zero, List.set_cons_succ]
          refine HdK.skp 39 (some 92) rfl rfl ?_
          try simp only [Act.put, List.setIfInBounds_toArray, List.set_cons_zero, List.set_cons_succ]
          refine HdK.skp 40 (some 93) rfl rfl ?_
          try simp only [Act.put, List.setIfInBounds_toArray, List.set_cons_zero, List.set_cons_succ]
          refine HdK.skp 41 (some 94) rfl rfl ?_
          try simp only [Act.put, List.setIfInBounds_toArray, List.set_cons_zero, List.set_cons_succ]
          refine HdK.skp 42 (some 95) rfl rfl ?_
          try simp only [Act.put, List.setIfInBounds_toArray, List.set_cons_zero, List.set_cons_succ]
          refine HdK.skp 43 (some 96) rfl rfl ?_
          try simp only [Act.put, List.setIfInBounds_toArray, List.set_cons_zero, List.set_cons_succ]
          refine HdK.skp 44 (some 97) rfl rfl ?_
          try simp only [Act.put, List.setIfInBounds_toArray, List.set_cons_zero, List.set_cons_succ]
          refine HdK.skp 45 (some 98) rfl rfl ?_
          try simp only [Act.put, List.setIfInBounds_toArray, List.set_cons_zero, List.set_cons_succ]
          refine HdK.skp 46 (some 99) rfl rfl ?_
          try simp only [Act.put, List.setIfInBounds_toArray, List.set_cons_zero, List.set_cons_succ]
          refine HdK.tke 47 (some 100) (.bool true) rfl rfl ?_
          try simp only [Act.put, List.setIfInBounds_toArray, List.set_cons_zero, List.set_cons_succ]
          refine wpAnyH_done (by kernel_rfl) ?_ _
          have RN : Hid (RR = []) := by show _ = _; rw [← HRR.out]; exact in_nil (se_nil2 HJL.out BF.out)
          clear HRR
          go_wp2
          go_ret
          exact ⟨_, rfl, by rw [RN.out]; exact row_weak (Row.keep E3.out ⟨rfl, rfl, rfl, Nat.le_refl _, fun _ _ => rfl⟩) (by omega), C3.out.drew⟩
        | true =>
          cases hs with
          | false =>
            refine wp_region_held_drew (S := (fun w' => w'.cell? ⟨w.heap.size, 3, none⟩ = some (.string q.on) ∧ w'.cell? ⟨w.heap.size, 4, none⟩ = some (.string q.lk) ∧ w'.cell? ⟨g, o + j * 3 + 1, none⟩ = some (.bool false) ∧ w'.cell? ⟨g, o + j * 3 + 2, none⟩ = some (.slice A2 o2.cols.length c2))) (by kernel_rfl) ⟨f3, f4, x1, x2⟩ (fun hHeld => ?_)
            refine HdK.tke 0 (some 53) (.int .i64 (j : Int)) rfl rfl ?_
            try simp only [Act.put, List.setIfInBounds_toArray, List.set_cons_zero, List.set_cons_succ]
            refine HdK.tke 1 (some 54) (.bool false) rfl rfl ?_
            try simp only [Act.put, List.setIfInBounds_toArray, List.set_cons_zero, List.set_cons_succ]
            refine HdK.tke 2 (some 55) (.bool false) rfl rfl ?_
            try simp only [Act.put, List.setIfInBounds_toArray, List.set_cons_zero, List.set_cons_succ]
            refine HdK.tke 3 (some 56) (.slice (some ⟨g, o, none⟩) l.length c0) rfl rfl ?_
            try simp only [Act.put, List.setIfInBounds_toArray, List.set_cons_zero, List.set_cons_succ]
            refine HdK.tke 4 (some 57) (.int .i64 (j : Int)) rfl rfl ?_
            try simp only [Act.put, List.setIfInBounds_toArray, List.set_cons_zero, List.set_cons_succ]
            refine HdK.tke 5 (some 58) (.pointer (some ⟨g, o + j * 3, none⟩)) rfl rfl ?_
            try simp only [Act.put, List.setIfInBounds_toArray, List.set_cons_zero, List.set_cons_succ]
            refine HdK.tke 6 (some 59) (.pointer (some ⟨g, o + j * 3 + 1, none⟩)) rfl rfl ?_
            try simp only [Act.put, List.setIfInBounds_toArray, List.set_cons_zero, List.set_cons_succ]
            refine HdK.tke 7 (some 60) (.bool false) rfl rfl ?_
            try simp only [Act.put, List.setIfInBounds_toArray, List.set_cons_zero, List.set_cons_succ]
            refine HdK.tke 8 (some 61) (.pointer (some ⟨w.heap.size, 4, none⟩)) rfl rfl ?_
            try simp only [Act.put, List.setIfInBounds_toArray, List.set_cons_zero, List.set_cons_succ]
            refine HdK.tke 9 (some 62) (.string q.lk) rfl rfl ?_
            try simp only [Act.put, List.setIfInBounds_toArray, List.set_cons_zero, List.set_cons_succ]
            refine HdK.tke 10 (some 63) (.bool false) rfl rfl ?_
            try simp only [Act.put, List.setIfInBounds_toArray, List.set_cons_zero, List.set_cons_succ]
            refine HdK.tke 11 (some 64) (.bool false) rfl rfl ?_
            try simp only [Act.put, List.setIfInBounds_toArray, List.set_cons_zero, List.set_cons_succ]
            refine HdK.tke 12 (some 65) (.bool false) rfl rfl ?_
            try simp only [Act.put, List.setIfInBounds_toArray, List.set_cons_zero, List.set_cons_succ]
            refine HdK.tke 13 (some 66) (.bool false) rfl rfl ?_
            try simp only [Act.put, List.setIfInBounds_toArray, List.set_cons_zero, List.set_cons_succ]
            refine HdK.tke 14 (some 67) (v3) rfl rfl ?_
            try simp only [Act.put, List.setIfInBounds_toArray, List.set_cons_zero, List.set_cons_succ]
            refine HdK.tke 15 (some 68) (.pointer (some ⟨w.heap.size, 3, none⟩)) rfl rfl ?_
            try simp only [Act.put, List.setIfInBounds_toArray, List.set_cons_zero, List.set_cons_succ]
            refine HdK.tke 16 (some 69) (.string q.on) rfl rfl ?_
            try simp only [Act.put, List.setIfInBounds_toArray, List.set_cons_zero, List.set_cons_succ]
            refine wpAnyH_ready (rs := [17]) (by kernel_rfl) (by simp) ?_
            refine AllReadyH.cons rfl (fun K hK => ?_) AllReadyH.nil
            (go_simp; go_at_call 64; refine (CHS.out).mono ?_; rintro e w8 ⟨rfl, rfl⟩; try (go_wp2_with fail))
            refine hK.out _ _ ⟨f3, f4, x1, x2⟩ (fun hHeld => ?_)
            clear hK K
            try simp only [Act.put, List.setIfInBounds_toArray, List.set_cons_zero, List.set_cons_succ]
            refine HdK.tke 18 (some 71) (.bool true) rfl rfl ?_
            try simp only [Act.put, List.setIfInBounds_toArray, List.set_cons_zero, List.set_cons_succ]
            refine HdK.tke 19 (some 72) (.bool true) rfl rfl ?_
            try simp only [Act.put, List.setIfInBounds_toArray, List.set_cons_zero, List.set_cons_succ]
            refine HdK.tke 20 (some 73) (.bool true) rfl rfl ?_
            try simp only [Act.put, List.setIfInBounds_toArray, List.set_cons_zero, List.set_cons_succ]
            refine HdK.skp 21 (some 74) rfl rfl ?_
            try simp only [Act.put, List.setIfInBounds_toArray, List.set_cons_zero, List.set_cons_succ]
            refine HdK.skp 22 (some 75) rfl rfl ?_
            try simp only [Act.put, List.setIfInBounds_toArray, List.set_cons_zero, List.set_cons_succ]
            refine HdK.skp 23 (some 76) rfl rfl ?_
            try simp only [Act.put, List.setIfInBounds_toArray, List.set_cons_zero, List.set_cons_succ]
            refine HdK.skp 24 (some 77) rfl rfl ?_
            try simp only [Act.put, List.setIfInBounds_toArray, List.set_cons_zero, List.set_cons_succ]
            refine HdK.skp 25 (some 78) rfl rfl ?_
            try simp only [Act.put, List.setIfInBounds_toArray, List.set_cons_zero, List.set_cons_succ]
            refine HdK.skp 26 (some 79) rfl rfl ?_
            try simp only [Act.put, List.setIfInBounds_toArray, List.set_cons_zero, List.set_cons_succ]
            refine HdK.skp 27 (some 80) rfl rfl ?_
            try simp only [Act.put, List.setIfInBounds_toArray, List.set_cons_zero, List.set_cons_succ]
            refine HdK.skp 28 (some 81) rfl rfl ?_
            try simp only [Act.put, List.setIfInBounds_toArray, List.set_cons_zero, List.set_cons_succ]
            refine HdK.skp 29 (some 82) rfl rfl ?_
            try simp only [Act.put, List.setIfInBounds_toArray, List.set_cons_zero, List.set_cons_succ]
            refine HdK.tke 30 (some 83) (.bool true) rfl rfl ?_
            try simp only [Act.put, List.setIfInBounds_toArray, List.set_cons_zero, List.set_cons_succ]
            refine HdK.tke 31 (some 84) (.bool true) rfl rfl ?_
            try simp only [Act.put, List.setIfInBounds_toArray, List.set_cons_zero, List.set_cons_succ]
            refine HdK.skp 32 (some 85) rfl rfl ?_
            try simp only [Act.put, List.setIfInBounds_toArray, List.set_cons_zero, List.set_cons_succ]
            refine HdK.skp 33 (some 86) rfl rfl ?_
            try simp only [Act.put, List.setIfInBounds_toArray, List.set_cons_zero, List.set_cons_succ]
            refine HdK.skp 34 (some 87) rfl rfl ?_
            try simp only [Act.put, List.setIfInBounds_toArray, List.set_cons_zero, List.set_cons_succ]
            refine HdK.skp 35 (some 88) rfl rfl ?_
            try simp only [Act.put, List.setIfInBounds_toArray, List.set_cons_zero, List.set_cons_succ]
            refine HdK.skp 36 (some 89) rfl rfl ?_
            try simp only [Act.put, List.setIfInBounds_toArray, List.set_cons_zero, List.set_cons_succ]
            refine HdK.skp 37 (some 90) rfl rfl ?_
            try simp only [Act.put, List.setIfInBounds_toArray, List.set_cons_zero, List.set_cons_succ]
            refine HdK.skp 38 (some 91) rfl rfl ?_
            try simp only [Act.put, List.setIfInBounds_toArray, List.set_cons_zero, List.set_cons_succ]
            refine HdK.skp 39 (some 92) rfl rfl ?_
            try simp only [Act.put, List.setIfInBounds_toArray, List.set_cons_zero, List.set_cons_succ]
            refine HdK.skp 40 (some 93) rfl rfl ?_
            try simp only [Act.put, List.setIfInBounds_toArray, List.set_cons_zero, List.set_cons_succ]
            refine HdK.skp 41 (some 94) rfl rfl ?_
            try simp only [Act.put, List.setIfInBounds_toArray, List.set_cons_zero, List.set_cons_succ]
            refine HdK.skp 42 (some 95) rfl rfl ?_
            try simp only [Act.put, List.setIfInBounds_toArray, List.set_cons_zero, List.set_cons_succ]
            refine HdK.skp 43 (some 96) rfl rfl ?_
            try simp only [Act.put, List.setIfInBounds_toArray, List.set_cons_zero, List.set_cons_succ]
            refine HdK.skp 44 (some 97) rfl rfl ?_
            try simp only [Act.put, List.setIfInBounds_toArray, List.set_cons_zero, List.set_cons_succ]
            refine HdK.skp 45 (some 98) rfl rfl ?_
            try simp only [Act.put, List.setIfInBounds_toArray, List.set_cons_zero, List.set_cons_succ]
            refine HdK.skp 46 (some 99) rfl rfl ?_
            try simp only [Act.put, List.setIfInBounds_toArray, List.set_cons_zero, List.set_cons_succ]
            refine HdK.tke 47 (some 100) (.bool true) rfl rfl ?_
            try simp only [Act.put, List.setIfInBounds_toArray, List.set_cons_zero, List.set_cons_succ]
            refine wpAnyH_done (by kernel_rfl) ?_ _
            have RN : Hid (RR = []) := by show _ = _; rw [← HRR.out]; exact in_nil (se_nil3 HJL.out HHS.out)
            clear HRR
            go_wp2
            go_ret
            exact ⟨_, rfl, by rw [RN.out]; exact row_weak (Row.keep E3.out ⟨rfl, rfl, rfl, Nat.le_refl _, fun _ _ => rfl⟩) (by omega), C3.out.drew⟩
          | true =>
            cases ho with
            | false =>
              have BF : Hid (bsB q l = false) := by show _ = _; rw [BE.out]; rfl
              refine wp_region_held_drew (S := (fun w' => w'.cell? ⟨w.heap.size, 3, none⟩ = some (.string q.on) ∧ w'.cell? ⟨w.heap.size, 4, none⟩ = some (.string q.lk) ∧ w'.cell? ⟨g, o + j * 3 + 1, none⟩ = some (.bool false) ∧ w'.cell? ⟨g, o + j * 3 + 2, none⟩ = some (.slice A2 o2.cols.length c2))) (by kernel_rfl) ⟨f3, f4, x1, x2⟩ (fun hHeld => ?_)
              refine HdK.tke 0 (some 53) (.int .i64 (j : Int)) rfl rfl ?_
              try simp only [Act.put, List.setIfInBounds_toArray, List.set_cons_zero, List.set_cons_succ]
              refine HdK.tke 1 (some 54) (.bool false) rfl rfl ?_
              try simp only [Act.put, List.setIfInBounds_toArray, List.set_cons_zero, List.set_cons_succ]
              refine HdK.tke 2 (some 55) (.bool false) rfl rfl ?_
              try simp only [Act.put, List.setIfInBounds_toArray, List.set_cons_zero, List.set_cons_succ]
              refine HdK.tke 3 (some 56) (.slice (some ⟨g, o, none⟩) l.length c0) rfl rfl ?_
              try simp only [Act.put, List.setIfInBounds_toArray, List.set_cons_zero, List.set_cons_succ]
              refine HdK.tke 4 (some 57) (.int .i64 (j : Int)) rfl rfl ?_
              try simp only [Act.put, List.setIfInBounds_toArray, List.set_cons_zero, List.set_cons_succ]
              refine HdK.tke 5 (some 58) (.pointer (some ⟨g, o + j * 3, none⟩)) rfl rfl ?_
              try simp only [Act.put, List.setIfInBounds_toArray, List.set_cons_zero, List.set_cons_succ]
              refine HdK.tke 6 (some 59) (.pointer (some ⟨g, o + j * 3 + 1, none⟩)) rfl rfl ?_
              try simp only [Act.put, List.setIfInBounds_toArray, List.set_cons_zero, List.set_cons_succ]
              refine HdK.tke 7 (some 60) (.bool false) rfl rfl ?_
              try simp only [Act.put, List.setIfInBounds_toArray, List.set_cons_zero, List.set_cons_succ]
              refine HdK.tke 8 (some 61) (.pointer (some ⟨w.heap.size, 4, none⟩)) rfl rfl ?_
              try simp only [Act.put, List.setIfInBounds_toArray, List.set_cons_zero, List.set_cons_succ]
              refine HdK.tke 9 (some 62) (.string q.lk) rfl rfl ?_
              try simp only [Act.put, List.setIfInBounds_toArray, List.set_cons_zero, List.set_cons_succ]
              refine HdK.tke 10 (some 63) (.bool false) rfl rfl ?_
              try simp only [Act.put, List.setIfInBounds_toArray, List.set_cons_zero, List.set_cons_succ]
              refine HdK.tke 11 (some 64) (.bool false) rfl rfl ?_
              try simp only [Act.put, List.setIfInBounds_toArray, List.set_cons_zero, List.set_cons_succ]
              refine HdK.tke 12 (some 65) (.bool false) rfl rfl ?_
              try simp only [Act.put, List.setIfInBounds_toArray, List.set_cons_zero, List.set_cons_succ]
              refine HdK.tke 13 (some 66) (.bool false) rfl rfl ?_
              try simp only [Act.put, List.setIfInBounds_toArray, List.set_cons_zero, List.set_cons_succ]
              refine HdK.tke 14 (some 67) (v3) rfl rfl ?_
              try simp only [Act.put, List.setIfInBounds_toArray, List.set_cons_zero, List.set_cons_succ]
              refine HdK.tke 15 (some 68) (.pointer (some ⟨w.heap.size, 3, none⟩)) rfl rfl ?_
              try simp only [Act.put, List.setIfInBounds_toArray, List.set_cons_zero, List.set_cons_succ]
              refine HdK.tke 16 (some 69) (.string q.on) rfl rfl ?_
              try simp only [Act.put, List.setIfInBounds_toArray, List.set_cons_zero, List.set_cons_succ]
              refine wpAnyH_ready (rs := [17]) (by kernel_rfl) (by simp) ?_
              refine AllReadyH.cons rfl (fun K hK => ?_) AllReadyH.nil
              (go_simp; go_at_call 64; refine (CHS.out).mono ?_; rintro e w8 ⟨rfl, rfl⟩; try (go_wp2_with fail))
              refine hK.out _ _ ⟨f3, f4, x1, x2⟩ (fun hHeld => ?_)
              clear hK K
              try simp only [Act.put, List.setIfInBounds_toArray, List.set_cons_zero, List.set_cons_succ]
              refine HdK.tke 18 (some 71) (.bool false) rfl rfl ?_
              try simp only [Act.put, List.setIfInBounds_toArray, List.set_cons_zero, List.set_cons_succ]
              refine HdK.tke 19 (some 72) (.bool false) rfl rfl ?_
              try simp only [Act.put, List.setIfInBounds_toArray, List.set_cons_zero, List.set_cons_succ]
              refine HdK.tke 20 (some 73) (.bool false) rfl rfl ?_
              try simp only [Act.put, List.setIfInBounds_toArray, List.set_cons_zero, List.set_cons_succ]
              refine HdK.tke 21 (some 74) (.slice (some ⟨g, o, none⟩) l.length c0) rfl rfl ?_
              try simp only [Act.put, List.setIfInBounds_toArray, List.set_cons_zero, List.set_cons_succ]
              refine HdK.tke 22 (some 75) (.int .i64 (j : Int)) rfl rfl ?_
              try simp only [Act.put, List.setIfInBounds_toArray, List.set_cons_zero, List.set_cons_succ]
              refine HdK.tke 23 (some 76) (.pointer (some ⟨g, o + j * 3, none⟩)) rfl rfl ?_
              try simp only [Act.put, List.setIfInBounds_toArray, List.set_cons_zero, List.set_cons_succ]
              refine HdK.tke 24 (some 77) (.pointer (some ⟨g, o + j * 3 + 2, none⟩)) rfl rfl ?_
              try simp only [Act.put, List.setIfInBounds_toArray, List.set_cons_zero, List.set_cons_succ]
              refine HdK.tke 25 (some 78) (.slice A2 o2.cols.length c2) rfl rfl ?_
              try simp only [Act.put, List.setIfInBounds_toArray, List.set_cons_zero, List.set_cons_succ]
              refine HdK.tke 26 (some 79) (.pointer (some ⟨w.heap.size, 3, none⟩)) rfl rfl ?_
              try simp only [Act.put, List.setIfInBounds_toArray, List.set_cons_zero, List.set_cons_succ]
              refine HdK.tke 27 (some 80) (.string q.on) rfl rfl ?_
              try simp only [Act.put, List.setIfInBounds_toArray, List.set_cons_zero, List.set_cons_succ]
              refine wpAnyH_ready (rs := [28]) (by kernel_rfl) (by simp) ?_
              refine AllReadyH.cons rfl (fun K hK => ?_) AllReadyH.nil
              (go_simp; go_at_call 64; refine (CHO.out).mono ?_; rintro e w8 ⟨rfl, rfl⟩; try (go_wp2_with fail))
              refine hK.out _ _ ⟨f3, f4, x1, x2⟩ (fun hHeld => ?_)
              clear hK K
              try simp only [Act.put, List.setIfInBounds_toArray, List.set_cons_zero, List.set_cons_succ]
              refine HdK.tke 29 (some 82) (.bool true) rfl rfl ?_
              try simp only [Act.put, List.setIfInBounds_toArray, List.set_cons_zero, List.set_cons_succ]
              refine HdK.tke 30 (some 83) (.bool true) rfl rfl ?_
              try simp only [Act.put, List.setIfInBounds_toArray, List.set_cons_zero, List.set_cons_succ]
              refine HdK.tke 31 (some 84) (.bool true) rfl rfl ?_
              try simp only [Act.put, List.setIfInBounds_toArray, List.set_cons_zero, List.set_cons_succ]
              refine HdK.skp 32 (some 85) rfl rfl ?_
              try simp only [Act.put, List.setIfInBounds_toArray, List.set_cons_zero, List.set_cons_succ]
              refine HdK.skp 33 (some 86) rfl rfl ?_
              try simp only [Act.put, List.setIfInBounds_toArray, List.set_cons_zero, List.set_cons_succ]
              refine HdK.skp 34 (some 87) rfl rfl ?_
              try simp only [Act.put, List.setIfInBounds_toArray, List.set_cons_zero, List.set_cons_succ]
              refine HdK.skp 35 (some 88) rfl rfl ?_
              try simp only [Act.put, List.setIfInBounds_toArray, List.set_cons_zero, List.set_cons_succ]
              refine HdK.skp 36 (some 89) rfl rfl ?_
              try simp only [Act.put, List.setIfInBounds_toArray, List.set_cons_zero, List.set_cons_succ]
              refine HdK.skp 37 (some 90) rfl rfl ?_
              try simp only [Act.put, List.setIfInBounds_toArray, List.set_cons_zero, List.set_cons_succ]
              refine HdK.skp 38 (some 91) rfl rfl ?_
              try simp only [Act.put, List.setIfInBounds_toArray, List.set_cons_zero, List.set_cons_succ]
              refine HdK.skp 39 (some 92) rfl rfl ?_
              try simp only [Act.put, List.setIfInBounds_toArray, List.set_cons_zero, List.set_cons_succ]
              refine HdK.skp 40 (some 93) rfl rfl ?_
              try simp only [Act.put, List.setIfInBounds_toArray, List.set_cons_zero, List.set_cons_succ]
              refine HdK.skp 41 (some 94) rfl rfl ?_
              try simp only [Act.put, List.setIfInBounds_toArray, List.set_cons_zero, List.set_cons_succ]
              refine HdK.skp 42 (some 95) rfl rfl ?_
              try simp only [Act.put, List.setIfInBounds_toArray, List.set_cons_zero, List.set_cons_succ]
              refine HdK.skp 43 (some 96) rfl rfl ?_
              try simp only [Act.put, List.setIfInBounds_toArray, List.set_cons_zero, List.set_cons_succ]
              refine HdK.skp 44 (some 97) rfl rfl ?_
              try simp only [Act.put, List.setIfInBounds_toArray, List.set_cons_zero, List.set_cons_succ]
              refine HdK.skp 45 (some 98) rfl rfl ?_
              try simp only [Act.put, List.setIfInBounds_toArray, List.set_cons_zero, List.set_cons_succ]
              refine HdK.skp 46 (some 99) rfl rfl ?_
              try simp only [Act.put, List.setIfInBounds_toArray, List.set_cons_zero, List.set_cons_succ]
              refine HdK.tke 47 (some 100) (.bool true) rfl rfl ?_
              try simp only [Act.put, List.setIfInBounds_toArray, List.set_cons_zero, List.set_cons_succ]
              refine wpAnyH_done (by kernel_rfl) ?_ _
              have RN : Hid (RR = []) := by show _ = _; rw [← HRR.out]; exact in_nil (se_nil2 HJL.out BF.out)
              clear HRR
              go_wp2
              go_ret
              exact ⟨_, rfl, by rw [RN.out]; exact row_weak (Row.keep E3.out ⟨rfl, rfl, rfl, Nat.le_refl _, fun _ _ => rfl⟩) (by omega), C3.out.drew⟩
            | true =>
              have SO2 := OKO.out rfl
              have ol := ok_cols SO2
              obtain ⟨ea2, hc2, hg2⟩ := HOP2.out.addr.resolve_left (by omega)
              subst ea2
              have ol1 := ol.1
              have ol2 := ol.2
              have BT : Hid (bsB q l = true) := by show _ = _; rw [BE.out]; rfl
              refine wp_region_held_drew (S := (fun w' => w'.cell? ⟨w.heap.size, 3, none⟩ = some (.string q.on) ∧ w'.cell? ⟨w.heap.size, 4, none⟩ = some (.string q.lk) ∧ w'.cell? ⟨g, o + j * 3 + 1, none⟩ = some (.bool false) ∧ w'.cell? ⟨g, o + j * 3 + 2, none⟩ = some (.slice (some ⟨g2, p2, none⟩) o2.cols.length c2))) (by kernel_rfl) ⟨f3, f4, x1, x2⟩ (fun hHeld => ?_)
              refine HdK.tke 0 (some 53) (.int .i64 (j : Int)) rfl rfl ?_
              try simp only [Act.put, List.setIfInBounds_toArray, List.set_cons_zero, List.set_cons_succ]
              refine HdK.tke 1 (some 54) (.bool false) rfl rfl ?_
              try simp only [Act.put, List.setIfInBounds_toArray, List.set_cons_zero, List.set_cons_succ]
              refine HdK.tke 2 (some 55) (.bool false) rfl rfl ?_
              try simp only [Act.put, List.setIfInBounds_toArray, List.set_cons_zero, List.set_cons_succ]
              refine HdK.tke 3 (some 56) (.slice (some ⟨g, o, none⟩) l.length c0) rfl rfl ?_
              try simp only [Act.put, List.setIfInBounds_toArray, List.set_cons_zero, List.set_cons_succ]
              refine HdK.tke 4 (some 57) (.int .i64 (j : Int)) rfl rfl ?_
              try simp only [Act.put, List.setIfInBounds_toArray, List.set_cons_zero, List.set_cons_succ]
              refine HdK.tke 5 (some 58) (.pointer (some ⟨g, o + j * 3, none⟩)) rfl rfl ?_
              try simp only [Act.put, List.setIfInBounds_toArray, List.set_cons_zero, List.set_cons_succ]
              refine HdK.tke 6 (some 59) (.pointer (some ⟨g, o + j * 3 + 1, none⟩)) rfl rfl ?_
              try simp only [Act.put, List.setIfInBounds_toArray, List.set_cons_zero, List.set_cons_succ]
              refine HdK.tke 7 (some 60) (.bool false) rfl rfl ?_
              try simp only [Act.put, List.setIfInBounds_toArray, List.set_cons_zero, List.set_cons_succ]
              refine HdK.tke 8 (some 61) (.pointer (some ⟨w.heap.size, 4, none⟩)) rfl rfl ?_
              try simp only [Act.put, List.setIfInBounds_toArray, List.set_cons_zero, List.set_cons_succ]
              refine HdK.tke 9 (some 62) (.string q.lk) rfl rfl ?_
              try simp only [Act.put, List.setIfInBounds_toArray, List.set_cons_zero, List.set_cons_succ]
              refine HdK.tke 10 (some 63) (.bool false) rfl rfl ?_
              try simp only [Act.put, List.setIfInBounds_toArray, List.set_cons_zero, List.set_cons_succ]
              refine HdK.tke 11 (some 64) (.bool false) rfl rfl ?_
              try simp only [Act.put, List.setIfInBounds_toArray, List.set_cons_zero, List.set_cons_succ]
              refine HdK.tke 12 (some 65) (.bool false) rfl rfl ?_
              try simp only [Act.put, List.setIfInBounds_toArray, List.set_cons_zero, List.set_cons_succ]
              refine HdK.tke 13 (some 66) (.bool false) rfl rfl ?_
              try simp only [Act.put, List.setIfInBounds_toArray, List.set_cons_zero, List.set_cons_succ]
              refine HdK.tke 14 (some 67) (v3) rfl rfl ?_
              try simp only [Act.put, List.setIfInBounds_toArray, List.set_cons_zero, List.set_cons_succ]
              refine HdK.tke 15 (some 68) (.pointer (some ⟨w.heap.size, 3, none⟩)) rfl rfl ?_
              try simp only [Act.put, List.setIfInBounds_toArray, List.set_cons_zero, List.set_cons_succ]
              refine HdK.tke 16 (some 69) (.string q.on) rfl rfl ?_
              try simp only [Act.put, List.setIfInBounds_toArray, List.set_cons_zero, List.set_cons_succ]
              refine wpAnyH_ready (rs := [17]) (by kernel_rfl) (by simp) ?_
              refine AllReadyH.cons rfl (fun K hK => ?_) AllReadyH.nil
              (go_simp; go_at_call 64; refine (CHS.out).mono ?_; rintro e w8 ⟨rfl, rfl⟩; try (go_wp2_with fail))
              refine hK.out _ _ ⟨f3, f4, x1, x2⟩ (fun hHeld => ?_)
              clear hK K
              try simp only [Act.put, List.setIfInBounds_toArray, List.set_cons_zero, List.set_cons_succ]
              refine HdK.tke 18 (some 71) (.bool false) rfl rfl ?_
              try simp only [Act.put, List.setIfInBounds_toArray, List.set_cons_zero, List.set_cons_succ]
              refine HdK.tke 19 (some 72) (.bool false) rfl rfl ?_
              try simp only [Act.put, List.setIfInBounds_toArray, List.set_cons_zero, List.set_cons_succ]
              refine HdK.tke 20 (some 73) (.bool false) rfl rfl ?_
              try simp only [Act.put, List.setIfInBounds_toArray, List.set_cons_zero, List.set_cons_succ]
              refine HdK.tke 21 (some 74) (.slice (some ⟨g, o, none⟩) l.length c0) rfl rfl ?_
              try simp only [Act.put, List.setIfInBounds_toArray, List.set_cons_zero, List.set_cons_succ]
              refine HdK.tke 22 (some 75) (.int .i64 (j : Int)) rfl rfl ?_
              try simp only [Act.put, List.setIfInBounds_toArray, List.set_cons_zero, List.set_cons_succ]
              refine HdK.tke 23 (some 76) (.pointer (some ⟨g, o + j * 3, none⟩)) rfl rfl ?_
              try simp only [Act.put, List.setIfInBounds_toArray, List.set_cons_zero, List.set_cons_succ]
              refine HdK.tke 24 (some 77) (.pointer (some ⟨g, o + j * 3 + 2, none⟩)) rfl rfl ?_
              try simp only [Act.put, List.setIfInBounds_toArray, List.set_cons_zero, List.set_cons_succ]
              refine HdK.tke 25 (some 78) (.slice (some ⟨g2, p2, none⟩) o2.cols.length c2) rfl rfl ?_
              try simp only [Act.put, List.setIfInBounds_toArray, List.set_cons_zero, List.set_cons_succ]
              refine HdK.tke 26 (some 79) (.pointer (some ⟨w.heap.size, 3, none⟩)) rfl rfl ?_
              try simp only [Act.put, List.setIfInBounds_toArray, List.set_cons_zero, List.set_cons_succ]
              refine HdK.tke 27 (some 80) (.string q.on) rfl rfl ?_
              try simp only [Act.put, List.setIfInBounds_toArray, List.set_cons_zero, List.set_cons_succ]
              refine wpAnyH_ready (rs := [28]) (by kernel_rfl) (by simp) ?_
              refine AllReadyH.cons rfl (fun K hK => ?_) AllReadyH.nil
              (go_simp; go_at_call 64; refine (CHO.out).mono ?_; rintro e w8 ⟨rfl, rfl⟩; try (go_wp2_with fail))
              refine hK.out _ _ ⟨f3, f4, x1, x2⟩ (fun hHeld => ?_)
              clear hK K
              try simp only [Act.put, List.setIfInBounds_toArray, List.set_cons_zero, List.set_cons_succ]
              refine HdK.tke 29 (some 82) (.bool false) rfl rfl ?_
              try simp only [Act.put, List.setIfInBounds_toArray, List.set_cons_zero, List.set_cons_succ]
              refine HdK.tke 30 (some 83) (.bool false) rfl rfl ?_
              try simp only [Act.put, List.setIfInBounds_toArray, List.set_cons_zero, List.set_cons_succ]
              refine HdK.tke 31 (some 84) (.bool false) rfl rfl ?_
              try simp only [Act.put, List.setIfInBounds_toArray, List.set_cons_zero, List.set_cons_succ]
              refine HdK.tke 32 (some 85) (.pointer (some ⟨w.heap.size, 4, none⟩)) rfl rfl ?_
              try simp only [Act.put, List.setIfInBounds_toArray, List.set_cons_zero, List.set_cons_succ]
              refine HdK.tke 33 (some 86) (.string q.lk) rfl rfl ?_
              try simp only [Act.put, List.setIfInBounds_toArray, List.set_cons_zero, List.set_cons_succ]
              refine HdK.tke 34 (some 87) (.bool false) rfl rfl ?_
              try simp only [Act.put, List.setIfInBounds_toArray, List.set_cons_zero, List.set_cons_succ]
              refine HdK.tke 35 (some 88) (.bool false) rfl rfl ?_
              try simp only [Act.put, List.setIfInBounds_toArray, List.set_cons_zero, List.set_cons_succ]
              refine HdK.skp 36 (some 89) rfl rfl ?_
              try simp only [Act.put, List.setIfInBounds_toArray, List.set_cons_zero, List.set_cons_succ]
              refine HdK.skp 37 (some 90) rfl rfl ?_
              try simp only [Act.put, List.setIfInBounds_toArray, List.set_cons_zero, List.set_cons_succ]
              refine HdK.skp 38 (some 91) rfl rfl ?_
              try simp only [Act.put, List.setIfInBounds_toArray, List.set_cons_zero, List.set_cons_succ]
              refine HdK.skp 39 (some 92) rfl rfl ?_
              try simp only [Act.put, List.setIfInBounds_toArray, List.set_cons_zero, List.set_cons_succ]
              refine HdK.skp 40 (some 93) rfl rfl ?_
              try simp only [Act.put, List.setIfInBounds_toArray, List.set_cons_zero, List.set_cons_succ]
              refine HdK.skp 41 (some 94) rfl rfl ?_
              try simp only [Act.put, List.setIfInBounds_toArray, List.set_cons_zero, List.set_cons_succ]
              refine HdK.skp 42 (some 95) rfl rfl ?_
              try simp only [Act.put, List.setIfInBounds_toArray, List.set_cons_zero, List.set_cons_succ]
              refine HdK.skp 43 (some 96) rfl rfl ?_
              try simp only [Act.put, List.setIfInBounds_toArray, List.set_cons_zero, List.set_cons_succ]
              refine HdK.skp 44 (some 97) rfl rfl ?_
              try simp only [Act.put, List.setIfInBounds_toArray, List.set_cons_zero, List.set_cons_succ]
              refine HdK.skp 45 (some 98) rfl rfl ?_
              try simp only [Act.put, List.setIfInBounds_toArray, List.set_cons_zero, List.set_cons_succ]
              refine HdK.tke 46 (some 99) (.bool false) rfl rfl ?_
              try simp only [Act.put, List.setIfInBounds_toArray, List.set_cons_zero, List.set_cons_succ]
              refine HdK.tke 47 (some 100) (.bool false) rfl rfl ?_
              try simp only [Act.put, List.setIfInBounds_toArray, List.set_cons_zero, List.set_cons_succ]
              refine wpAnyH_done (by kernel_rfl) ?_ _
              clear x1 f4 f1
              have HOLD : Hid (∀ (wx : World) (a : Addr) (u : Value), Below w2.heap.size w2 wx → a.block < w2.heap.size → w3.cell? a = some u → wx.cell? a = some u) := fun wx a u b ha h => by
                rw [World.cell?_of_block (w := w3) (a := a) ((b.block _ ha).trans (B3.out.block _ ha).symm)]
                exact h
              have X2 := Seg.hid x2
              have F3 := Seg.hid f3
              clear x2 f3
              have zq : w.heap.size < w2.heap.size := (Array.getElem?_eq_some_iff.1 T2.out).1
              go_wp2
              go_loopw [7, 9] (fun u i wr => ∃ n : Nat, n ≤ o2.cols.length ∧ i = .int .i64 n ∧ Hid (Row wr w2.heap.size u (jnL q.on s.cols (o2.cols.take n)) ∧ Below w2.heap.size w2 wr)) (fun _ i _ => o2.cols.length - (intOf i).toNat)
              case atStart => exact ⟨0, Nat.zero_le _, rfl, by rw [jn_zero]; exact R3.out, B3.out.drew⟩
              case round =>
                obtain ⟨n, hn9, rfl, HG⟩ := hrel
                obtain ⟨v, hv3⟩ : ∃ v, v = u7 := ⟨_, rfl⟩
                rw [← hv3] at HG ⊢
                clear hv3
                have RW := Seg.hid HG.out.1
                have BW := Seg.hid HG.out.2
                clear HG
                have k2 : wr.cell? ⟨g, o + j * 3 + 2, none⟩ = some (.slice (some ⟨g2, p2, none⟩) o2.cols.length c2) := HOLD.out wr _ _ BW.out hg2w X2.out
                have k3 : wr.cell? ⟨w.heap.size, 3, none⟩ = some (.string q.on) := HOLD.out wr _ _ BW.out zq F3.out
                by_cases hlt : n < o2.cols.length
                · have m1 := strs_cell HOP2.out (BW.out.block g2 hg2) hlt
                  have hn0 : (0 : Int) ≤ (n : Int) := by omega
                  have hn1 : (n : Int) < (o2.cols.length : Int) := by omega
                  have NN := Seg.hid (jn_next (on := q.on) (a := s.cols) hlt)
                  have NL : Hid ((jnL q.on s.cols (o2.cols.take n)).length ≤ 24) := by show _ ≤ _; have := jn_len q.on s.cols o2.cols n; omega
                  generalize o2.cols.getD n default = m at *
                  go_wp2_with fail
                  cases hb : (m.toList == q.on.toList) with
                  | true =>
                    have NY : Hid (jnL q.on s.cols (o2.cols.take (n + 1)) = jnL q.on s.cols (o2.cols.take n)) := by show _ = _; rw [NN.out, if_neg (by rw [keepN, hb]; decide)]
                    clear NN
                    go_region_held3 (fun w' => w'.cell? ⟨g, o + j * 3 + 2, none⟩ = some (.slice (some ⟨g2, p2, none⟩) o2.cols.length c2) ∧ w'.cell? ⟨w.heap.size, 3, none⟩ = some (.string q.on) ∧ w'.cell? ⟨g2, p2 + n, none⟩ = some (.string m)) (first | exact ⟨k2, k3, m1⟩ | go_keep) (fail)
                    all_goals
                      go_wp2
                      go_roundw
                      case rel => exact ⟨n + 1, by omega, by go_num, by rw [NY.out]; exact RW.out, BW.out.drew⟩
                      case measure => simp [intOf]; omega
                  | false =>
                    have NY : Hid (jnL q.on s.cols (o2.cols.take (n + 1)) = jnL q.on s.cols (o2.cols.take n) ++ [m]) := by show _ = _; rw [NN.out, if_pos (by rw [keepN, hb]; decide)]
                    clear NN
                    have nl := NL.out
                    go_region_held3 (fun w' => w'.cell? ⟨g, o + j * 3 + 2, none⟩ = some (.slice (some ⟨g2, p2, none⟩) o2.cols.length c2) ∧ w'.cell? ⟨w.heap.size, 3, none⟩ = some (.string q.on) ∧ w'.cell? ⟨g2, p2 + n, none⟩ = some (.string m)) (first | exact ⟨k2, k3, m1⟩ | go_keep) (fail)
                    all_goals
                      have RD : Hid (Row wr.drew w2.heap.size v (jnL q.on s.cols (o2.cols.take n))) := RW.out
                      have BD : Hid (Below w2.heap.size w2 wr.drew) := BW.out.drew
                      have e2 : wr.drew.cell? ⟨g, o + j * 3 + 2, none⟩ = some (.slice (some ⟨g2, p2, none⟩) o2.cols.length c2) := k2
                      have e1 : wr.drew.cell? ⟨g2, p2 + n, none⟩ = some (.string m) := m1
                      generalize wr.drew = wd at *
                      have OW : Hid (∀ ob, (wd.alloc ob).ownsRow w2.heap.size 9 1 v (jnL q.on s.cols (o2.cols.take n)).length ((jnL q.on s.cols (o2.cols.take n)).map Value.string)) := fun ob => Row.keep RD.out (below1 wd ob)
                      have sd := BD.out.size
                      go_wp2_with (at_builtin; (refine wpList_append_lies _ rfl _ _ 30 rfl w2.heap.size 9 i0 _ 1 16 Try.underlying30 hi hz0 hz1 hz2 rfl (by decide) v (jnL q.on s.cols (o2.cols.take n)).length ((jnL q.on s.cols (o2.cols.take n)).map Value.string) rfl (OW.out _) ⟨wd.heap.size, 0, none⟩ 1 1 [.string m] rfl rfl (World.news_of_block (cs := #[.string m]) (heap_alloc_new _ _)) (by simp [Value.oneCell']) (by decide) (by unfold maxLen; omega) (by omega) (by rw [hsz]; omega) (wd.heap.size + 1) (by rw [hsz]) ?_; intro g9 cap9 w9 hown9 gr9 hat9 hlt9; have RN := Seg.hid (row_put hown9); have B9 : Hid (Below w2.heap.size w2 w9) := (BD.out.alloc sd _).grown gr9 (by rw [hsz]; omega) (fun y hy => (World.ownsRow.lt RD.out y hy).1); clear hown9 gr9 hat9 hlt9))
                      go_roundw
                      case rel => exact ⟨n + 1, by omega, by go_num, by rw [NY.out]; exact RN.out, B9.out⟩
                      case measure => simp [intOf]; omega
                · have hnl : n = o2.cols.length := by omega
                  have RL : Hid (Row wr w2.heap.size v CC) := by
                    have := RW.out
                    rw [hnl, List.take_length] at this
                    rw [RC.out]
                    exact this
                  have hx1 : ¬ (n : Int) < (o2.cols.length : Int) := by omega
                  clear hnl RW
                  go_wp2
                  go_meet
                  exact ⟨RL.out, BW.out, .inr ⟨BT.out, HHS.out⟩⟩
      | true =>
        cases el with
        | false =>
          cases hs with
          | false =>
            refine wp_region_held_drew (S := (fun w' => w'.cell? ⟨w.heap.size, 3, none⟩ = some (.string q.on) ∧ w'.cell? ⟨w.heap.size, 4, none⟩ = some (.string q.lk) ∧ w'.cell? ⟨g, o + j * 3 + 1, none⟩ = some (.bool true) ∧ w'.cell? ⟨g, o + j * 3 + 2, none⟩ = some (.slice A2 o2.cols.length c2))) (by kernel_rfl) ⟨f3, f4, x1, x2⟩ (fun hHeld => ?_)
            refine HdK.tke 0 (some 53) (.int .i64 (j : Int)) rfl rfl ?_
            try simp only [Act.put, List.setIfInBounds_toArray, List.set_cons_zero, List.set_cons_succ]
            refine HdK.tke 1 (some 54) (.bool false) rfl rfl ?_
            try simp only [Act.put, List.setIfInBounds_toArray, List.set_cons_zero, List.set_cons_succ]
            refine HdK.tke 2 (some 55) (.bool false) rfl rfl ?_
            try simp only [Act.put, List.setIfInBounds_toArray, List.set_cons_zero, List.set_cons_succ]
            refine HdK.tke 3 (some 56) (.slice (some ⟨g, o, none⟩) l.length c0) rfl rfl ?_
            try simp only [Act.put, List.setIfInBounds_toArray, List.set_cons_zero, List.set_cons_succ]
            refine HdK.tke 4 (some 57) (.int .i64 (j : Int)) rfl rfl ?_
            try simp only [Act.put, List.setIfInBounds_toArray, List.set_cons_zero, List.set_cons_succ]
            refine HdK.tke 5 (some 58) (.pointer (some ⟨g, o + j * 3, none⟩)) rfl rfl ?_
            try simp only [Act.put, List.setIfInBounds_toArray, List.set_cons_zero, List.set_cons_succ]
            refine HdK.tke 6 (some 59) (.pointer (some ⟨g, o + j * 3 + 1, none⟩)) rfl rfl ?_
            try simp only [Act.put, List.setIfInBounds_toArray, List.set_cons_zero, List.set_cons_succ]
            refine HdK.tke 7 (some 60) (.bool true) rfl rfl ?_
            try simp only [Act.put, List.setIfInBounds_toArray, List.set_cons_zero, List.set_cons_succ]
            refine HdK.tke 8 (some 61) (.pointer (some ⟨w.heap.size, 4, none⟩)) rfl rfl ?_
            try simp only [Act.put, List.setIfInBounds_toArray, List.set_cons_zero, List.set_cons_succ]
            refine HdK.tke 9 (some 62) (.string q.lk) rfl rfl ?_
            try simp only [Act.put, List.setIfInBounds_toArray, List.set_cons_zero, List.set_cons_succ]
            refine HdK.tke 10 (some 63) (.bool true) rfl rfl ?_
            try simp only [Act.put, List.setIfInBounds_toArray, List.set_cons_zero, List.set_cons_succ]
            refine HdK.tke 11 (some 64) (.bool false) rfl rfl ?_
            try simp only [Act.put, List.setIfInBounds_toArray, List.set_cons_zero, List.set_cons_succ]
            refine HdK.tke 12 (some 65) (.bool false) rfl rfl ?_
            try simp only [Act.put, List.setIfInBounds_toArray, List.set_cons_zero, List.set_cons_succ]
            refine HdK.tke 13 (some 66) (.bool false) rfl rfl ?_
            try simp only [Act.put, List.setIfInBounds_toArray, List.set_cons_zero, List.set_cons_succ]
            refine HdK.tke 14 (some 67) (v3) rfl rfl ?_
            try simp only [Act.put, List.setIfInBounds_toArray, List.set_cons_zero, List.set_cons_succ]
            refine HdK.tke 15 (some 68) (.pointer (some ⟨w.heap.size, 3, none⟩)) rfl rfl ?_
            try simp only [Act.put, List.setIfInBounds_toArray, List.set_cons_zero, List.set_cons_succ]
            refine HdK.tke 16 (some 69) (.string q.on) rfl rfl ?_
            try simp only [Act.put, List.setIfInBounds_toArray, List.set_cons_zero, List.set_cons_succ]
            refine wpAnyH_ready (rs := [17]) (by kernel_rfl) (by simp) ?_
            refine AllReadyH.cons rfl (fun K hK => ?_) AllReadyH.nil
            (go_simp; go_at_call 64; refine (CHS.out).mono ?_; rintro e w8 ⟨rfl, rfl⟩; try (go_wp2_with fail))
            refine hK.out _ _ ⟨f3, f4, x1, x2⟩ (fun hHeld => ?_)
            clear hK K
            try simp only [Act.put, List.setIfInBounds_toArray, List.set_cons_zero, List.set_cons_succ]
            refine HdK.tke 18 (some 71) (.bool true) rfl rfl ?_
            try simp only [Act.put, List.setIfInBounds_toArray, List.set_cons_zero, List.set_cons_succ]
            refine HdK.tke 19 (some 72) (.bool true) rfl rfl ?_
            try simp only [Act.put, List.setIfInBounds_toArray, List.set_cons_zero, List.set_cons_succ]
            refine HdK.tke 20 (some 73) (.bool true) rfl rfl ?_
            try simp only [Act.put, List.setIfInBounds_toArray, List.set_cons_zero, List.set_cons_succ]
            refine HdK.skp 21 (some 74) rfl rfl ?_
            try simp only [Act.put, List.setIfInBounds_toArray, List.set_cons_zero, List.set_cons_succ]
            refine HdK.skp 22 (some 75) rfl rfl ?_
            try simp only [Act.put, List.setIfInBounds_toArray, List.set_cons_zero, List.set_cons_succ]
            refine HdK.skp 23 (some 76) rfl rfl ?_
            try simp only [Act.put, List.setIfInBounds_toArray, List.set_cons_zero, List.set_cons_succ]
            refine HdK.skp 24 (some 77) rfl rfl ?_
            try simp only [Act.put, List.setIfInBounds_toArray, List.set_cons_zero, List.set_cons_succ]
            refine HdK.skp 25 (some 78) rfl rfl ?_
            try simp only [Act.put, List.setIfInBounds_toArray, List.set_cons_zero, List.set_cons_succ]
            refine HdK.skp 26 (some 79) rfl rfl ?_
            try simp only [Act.put, List.setIfInBounds_toArray, List.set_cons_zero, List.set_cons_succ]
            refine HdK.skp 27 (some 80) rfl rfl ?_
            try simp only [Act.put, List.setIfInBounds_toArray, List.set_cons_zero, List.set_cons_succ]
            refine HdK.skp 28 (some 81) rfl rfl ?_
            try simp only [Act.put, List.setIfInBounds_toArray, List.set_cons_zero, List.set_cons_succ]
            refine HdK.skp 29 (some 82) rfl rfl ?_
            try simp only [Act.put, List.setIfInBounds_toArray, List.set_cons_zero, List.set_cons_succ]
            refine HdK.tke 30 (some 83) (.bool true) rfl rfl ?_
            try simp only [Act.put, List.setIfInBounds_toArray, List.set_cons_zero, List.set_cons_succ]
            refine HdK.tke 31 (some 84) (.bool true) rfl rfl ?_
            try simp only [Act.put, List.setIfInBounds_toArray, List.set_cons_zero, List.set_cons_succ]
            refine HdK.skp 32 (some 85) rfl rfl ?_
            try simp only [Act.put, List.setIfInBounds_toArray, List.set_cons_zero, List.set_cons_succ]
            refine HdK.skp 33 (some 86) rfl rfl ?_
            try simp only [Act.put, List.setIfInBounds_toArray, List.set_cons_zero, List.set_cons_succ]
            refine HdK.skp 34 (some 87) rfl rfl ?_
            try simp only [Act.put, List.setIfInBounds_toArray, List.set_cons_zero, List.set_cons_succ]
            refine HdK.skp 35 (some 88) rfl rfl ?_
            try simp only [Act.put, List.setIfInBounds_toArray, List.set_cons_zero, List.set_cons_succ]
            refine HdK.skp 36 (some 89) rfl rfl ?_
            try simp only [Act.put, List.setIfInBounds_toArray, List.set_cons_zero, List.set_cons_succ]
            refine HdK.skp 37 (some 90) rfl rfl ?_
            try simp only [Act.put, List.setIfInBounds_toArray, List.set_cons_zero, List.set_cons_succ]
            refine HdK.skp 38 (some 91) rfl rfl ?_
            try simp only [Act.put, List.setIfInBounds_toArray, List.set_cons_zero, List.set_cons_succ]
            refine HdK.skp 39 (some 92) rfl rfl ?_
            try simp only [Act.put, List.setIfInBounds_toArray, List.set_cons_zero, List.set_cons_succ]
            refine HdK.skp 40 (some 93) rfl rfl ?_
            try simp only [Act.put, List.setIfInBounds_toArray, List.set_cons_zero, List.set_cons_succ]
            refine HdK.skp 41 (some 94) rfl rfl ?_
            try simp only [Act.put, List.setIfInBounds_toArray, List.set_cons_zero, List.set_cons_succ]
            refine HdK.skp 42 (some 95) rfl rfl ?_
            try simp only [Act.put, List.setIfInBounds_toArray, List.set_cons_zero, List.set_cons_succ]
            refine HdK.skp 43 (some 96) rfl rfl ?_
            try simp only [Act.put, List.setIfInBounds_toArray, List.set_cons_zero, List.set_cons_succ]
            refine HdK.skp 44 (some 97) rfl rfl ?_
            try simp only [Act.put, List.setIfInBounds_toArray, List.set_cons_zero, List.set_cons_succ]
            refine HdK.skp 45 (some 98) rfl rfl ?_
            try simp only [Act.put, List.setIfInBounds_toArray, List.set_cons_zero, List.set_cons_succ]
            refine HdK.skp 46 (some 99) rfl rfl ?_
            try simp only [Act.put, List.setIfInBounds_toArray, List.set_cons_zero, List.set_cons_succ]
            refine HdK.tke 47 (some 100) (.bool true) rfl rfl ?_
            try simp only [Act.put, List.setIfInBounds_toArray, List.set_cons_zero, List.set_cons_succ]
            refine wpAnyH_done (by kernel_rfl) ?_ _
            have RN : Hid (RR = []) := by show _ = _; rw [← HRR.out]; exact in_nil (se_nil3 HJL.out HHS.out)
            clear HRR
            go_wp2
            go_ret
            exact ⟨_, rfl, by rw [RN.out]; exact row_weak (Row.keep E3.out ⟨rfl, rfl, rfl, Nat.le_refl _, fun _ _ => rfl⟩) (by omega), C3.out.drew⟩
          | true =>
            cases ho with
            | false =>
              have BF : Hid (bsB q l = false) := by show _ = _; rw [BE.out]; rfl
              refine wp_region_held_drew (S := (fun w' => w'.cell? ⟨w.heap.size, 3, none⟩ = some (.string q.on) ∧ w'.cell? ⟨w.heap.size, 4, none⟩ = some (.string q.lk) ∧ w'.cell? ⟨g, o + j * 3 + 1, none⟩ = some (.bool true) ∧ w'.cell? ⟨g, o + j * 3 + 2, none⟩ = some (.slice A2 o2.cols.length c2))) (by kernel_rfl) ⟨f3, f4, x1, x2⟩ (fun hHeld => ?_)
              refine HdK.tke 0 (some 53) (.int .i64 (j : Int)) rfl rfl ?_
              try simp only [Act.put, List.setIfInBounds_toArray, List.set_cons_zero, List.set_cons_succ]
              refine HdK.tke 1 (some 54) (.bool false) rfl rfl ?_
              try simp only [Act.put, List.setIfInBounds_toArray, List.set_cons_zero, List.set_cons_succ]
              refine HdK.tke 2 (some 55) (.bool false) rfl rfl ?_
              try simp only [Act.put, List.setIfInBounds_toArray, List.set_cons_zero, List.set_cons_succ]
              refine HdK.tke 3 (some 56) (.slice (some ⟨g, o, none⟩) l.length c0) rfl rfl ?_
              try simp only [Act.put, List.setIfInBounds_toArray, List.set_cons_zero, List.set_cons_succ]
              refine HdK.tke 4 (some 57) (.int .i64 (j : Int)) rfl rfl ?_
              try simp only [Act.put, List.setIfInBounds_toArray, List.set_cons_zero, List.set_cons_succ]
              refine HdK.tke 5 (some 58) (.pointer (some ⟨g, o + j * 3, none⟩)) rfl rfl ?_
              try simp only [Act.put, List.setIfInBounds_toArray, List.set_cons_zero, List.set_cons_succ]
              refine HdK.tke 6 (some 59) (.pointer (some ⟨g, o + j * 3 + 1, none⟩)) rfl rfl ?_
              try simp only [Act.put, List.setIfInBounds_toArray, List.set_cons_zero, List.set_cons_succ]
              refine HdK.tke 7 (some 60) (.bool true) rfl rfl ?_
              try simp only [Act.put, List.setIfInBounds_toArray, List.set_cons_zero, List.set_cons_succ]
              refine HdK.tke 8 (some 61) (.pointer (some ⟨w.heap.size, 4, none⟩)) rfl rfl ?_
              try simp only [Act.put, List.setIfInBounds_toArray, List.set_cons_zero, List.set_cons_succ]
              refine HdK.tke 9 (some 62) (.string q.lk) rfl rfl ?_
              try simp only [Act.put, List.setIfInBounds_toArray, List.set_cons_zero, List.set_cons_succ]
              refine HdK.tke 10 (some 63) (.bool true) rfl rfl ?_
              try simp only [Act.put, List.setIfInBounds_toArray, List.set_cons_zero, List.set_cons_succ]
              refine HdK.tke 11 (some 64) (.bool false) rfl rfl ?_
              try simp only [Act.put, List.setIfInBounds_toArray, List.set_cons_zero, List.set_cons_succ]
              refine HdK.tke 12 (some 65) (.bool false) rfl rfl ?_
              try simp only [Act.put, List.setIfInBounds_toArray, List.set_cons_zero, List.set_cons_succ]
              refine HdK.tke 13 (some 66) (.bool false) rfl rfl ?_
              try simp only [Act.put, List.setIfInBounds_toArray, List.set_cons_zero, List.set_cons_succ]
              refine HdK.tke 14 (some 67) (v3) rfl rfl ?_
              try simp only [Act.put, List.setIfInBounds_toArray, List.set_cons_zero, List.set_cons_succ]
              refine HdK.tke 15 (some 68) (.pointer (some ⟨w.heap.size, 3, none⟩)) rfl rfl ?_
              try simp only [Act.put, List.setIfInBounds_toArray, List.set_cons_zero, List.set_cons_succ]
              refine HdK.tke 16 (some 69) (.string q.on) rfl rfl ?_
              try simp only [Act.put, List.setIfInBounds_toArray, List.set_cons_zero, List.set_cons_succ]
              refine wpAnyH_ready (rs := [17]) (by kernel_rfl) (by simp) ?_
              refine AllReadyH.cons rfl (fun K hK => ?_) AllReadyH.nil
              (go_simp; go_at_call 64; refine (CHS.out).mono ?_; rintro e w8 ⟨rfl, rfl⟩; try (go_wp2_with fail))
              refine hK.out _ _ ⟨f3, f4, x1, x2⟩ (fun hHeld => ?_)
              clear hK K
              try simp only [Act.put, List.setIfInBounds_toArray, List.set_cons_zero, List.set_cons_succ]
              refine HdK.tke 18 (some 71) (.bool false) rfl rfl ?_
              try simp only [Act.put, List.setIfInBounds_toArray, List.set_cons_zero, List.set_cons_succ]
              refine HdK.tke 19 (some 72) (.bool false) rfl rfl ?_
              try simp only [Act.put, List.setIfInBounds_toArray, List.set_cons_zero, List.set_cons_succ]
              refine HdK.tke 20 (some 73) (.bool false) rfl rfl ?_
              try simp only [Act.put, List.setIfInBounds_toArray, List.set_cons_zero, List.set_cons_succ]
              refine HdK.tke 21 (some 74) (.slice (some ⟨g, o, none⟩) l.length c0) rfl rfl ?_
              try simp only [Act.put, List.setIfInBounds_toArray, List.set_cons_zero, List.set_cons_succ]
              refine HdK.tke 22 (some 75) (.int .i64 (j : Int)) rfl rfl ?_
              try simp only [Act.put, List.setIfInBounds_toArray, List.set_cons_zero, List.set_cons_succ]
              refine HdK.tke 23 (some 76) (.pointer (some ⟨g, o + j * 3, none⟩)) rfl rfl ?_
              try simp only [Act.put, List.setIfInBounds_toArray, List.set_cons_zero, List.set_cons_succ]
              refine HdK.tke 24 (some 77) (.pointer (some ⟨g, o + j * 3 + 2, none⟩)) rfl rfl ?_
              try simp only [Act.put, List.setIfInBounds_toArray, List.set_cons_zero, List.set_cons_succ]
              refine HdK.tke 25 (some 78) (.slice A2 o2.cols.length c2) rfl rfl ?_
              try simp only [Act.put, List.setIfInBounds_toArray, List.set_cons_zero, List.set_cons_succ]
              refine HdK.tke 26 (some 79) (.pointer (some ⟨w.heap.size, 3, none⟩)) rfl rfl ?_
              try simp only [Act.put, List.setIfInBounds_toArray, List.set_cons_zero, List.set_cons_succ]
              refine HdK.tke 27 (some 80) (.string q.on) rfl rfl ?_
              try simp only [Act.put, List.setIfInBounds_toArray, List.set_cons_zero, List.set_cons_succ]
              refine wpAnyH_ready (rs := [28]) (by kernel_rfl) (by simp) ?_
              refine AllReadyH.cons rfl (fun K hK => ?_) AllReadyH.nil
              (go_simp; go_at_call 64; refine (CHO.out).mono ?_; rintro e w8 ⟨rfl, rfl⟩; try (go_wp2_with fail))
              refine hK.out _ _ ⟨f3, f4, x1, x2⟩ (fun hHeld => ?_)
              clear hK K
              try simp only [Act.put, List.setIfInBounds_toArray, List.set_cons_zero, List.set_cons_succ]
              refine HdK.tke 29 (some 82) (.bool true) rfl rfl ?_
              try simp only [Act.put, List.setIfInBounds_toArray, List.set_cons_zero, List.set_cons_succ]
              refine HdK.tke 30 (some 83) (.bool true) rfl rfl ?_
              try simp only [Act.put, List.setIfInBounds_toArray, List.set_cons_zero, List.set_cons_succ]
              refine HdK.tke 31 (some 84) (.bool true) rfl rfl ?_
              try simp only [Act.put, List.setIfInBounds_toArray, List.set_cons_zero, List.set_cons_succ]
              refine HdK.skp 32 (some 85) rfl rfl ?_
              try simp only [Act.put, List.setIfInBounds_toArray, List.set_cons_zero, List.set_cons_succ]
              refine HdK.skp 33 (some 86) rfl rfl ?_
              try simp only [Act.put, List.setIfInBounds_toArray, List.set_cons_zero, List.set_cons_succ]
              refine HdK.skp 34 (some 87) rfl rfl ?_
              try simp only [Act.put, List.setIfInBounds_toArray, List.set_cons_zero, List.set_cons_succ]
              refine HdK.skp 35 (some 88) rfl rfl ?_
              try simp only [Act.put, List.setIfInBounds_toArray, List.set_cons_zero, List.set_cons_succ]
              refine HdK.skp 36 (some 89) rfl rfl ?_
              try simp only [Act.put, List.setIfInBounds_toArray, List.set_cons_zero, List.set_cons_succ]
              refine HdK.skp 37 (some 90) rfl rfl ?_
              try simp only [Act.put, List.setIfInBounds_toArray, List.set_cons_zero, List.set_cons_succ]
              refine HdK.skp 38 (some 91) rfl rfl ?_
              try simp only [Act.put, List.setIfInBounds_toArray, List.set_cons_zero, List.set_cons_succ]
              refine HdK.skp 39 (some 92) rfl rfl ?_
              try simp only [Act.put, List.setIfInBounds_toArray, List.set_cons_zero, List.set_cons_succ]
              refine HdK.skp 40 (some 93) rfl rfl ?_
              try simp only [Act.put, List.setIfInBounds_toArray, List.set_cons_zero, List.set_cons_succ]
              refine HdK.skp 41 (some 94) rfl rfl ?_
              try simp only [Act.put, List.setIfInBounds_toArray, List.set_cons_zero, List.set_cons_succ]
              refine HdK.skp 42 (some 95) rfl rfl ?_
              try simp only [Act.put, List.setIfInBounds_toArray, List.set_cons_zero, List.set_cons_succ]
              refine HdK.skp 43 (some 96) rfl rfl ?_
              try simp only [Act.put, List.setIfInBounds_toArray, List.set_cons_zero, List.set_cons_succ]
              refine HdK.skp 44 (some 97) rfl rfl ?_
              try simp only [Act.put, List.setIfInBounds_toArray, List.set_cons_zero, List.set_cons_succ]
              refine HdK.skp 45 (some 98) rfl rfl ?_
              try simp only [Act.put, List.setIfInBounds_toArray, List.set_cons_zero, List.set_cons_succ]
              refine HdK.skp 46 (some 99) rfl rfl ?_
              try simp only [Act.put, List.setIfInBounds_toArray, List.set_cons_zero, List.set_cons_succ]
              refine HdK.tke 47 (some 100) (.bool true) rfl rfl ?_
              try simp only [Act.put, List.setIfInBounds_toArray, List.set_cons_zero, List.set_cons_succ]
              refine wpAnyH_done (by kernel_rfl) ?_ _
              have RN : Hid (RR = []) := by show _ = _; rw [← HRR.out]; exact in_nil (se_nil2 HJL.out BF.out)
              clear HRR
              go_wp2
              go_ret
              exact ⟨_, rfl, by rw [RN.out]; exact row_weak (Row.keep E3.out ⟨rfl, rfl, rfl, Nat.le_refl _, fun _ _ => rfl⟩) (by omega), C3.out.drew⟩
            | true =>
              have SO2 := OKO.out rfl
              have ol := ok_cols SO2
              obtain ⟨ea2, hc2, hg2⟩ := HOP2.out.addr.resolve_left (by omega)
              subst ea2
              have ol1 := ol.1
              have ol2 := ol.2
              have xm : w3.cell? ⟨g2, p2, none⟩ = some (.string (o2.cols.getD 0 default)) := by
                have h := strs_cell HOP2.out (B3.out.block g2 hg2) ol1
                simpa using h
              have BE2 : Hid (bsB q l = hd o2.cols q.on) := by show _ = _; rw [BE.out]; simp
              have BE3 : Hid (hd o2.cols q.on = ((o2.cols.getD 0 default).toList == q.on.toList)) := rfl
              have MG : Hid (∀ b, ((o2.cols.getD 0 default).toList == q.on.toList) = b → bsB q l = b) := fun b h => by rw [BE2.out, BE3.out, h]
              clear BE2 BE3
              generalize o2.cols.getD 0 default = m0 at *
              have hl0 : (0 : Int) < (o2.cols.length : Int) := by omega
              have hl9 : (0 : Int) ≤ 0 := by omega
              cases hm : (m0.toList == q.on.toList) with
              | false =>
                have BF : Hid (bsB q l = false) := MG.out _ hm
                refine wp_region_held_drew (S := (fun w' => w'.cell? ⟨w.heap.size, 3, none⟩ = some (.string q.on) ∧ w'.cell? ⟨w.heap.size, 4, none⟩ = some (.string q.lk) ∧ w'.cell? ⟨g, o + j * 3 + 1, none⟩ = some (.bool true) ∧ w'.cell? ⟨g, o + j * 3 + 2, none⟩ = some (.slice (some ⟨g2, p2, none⟩) o2.cols.length c2) ∧ w'.cell? ⟨g2, p2, none⟩ = some (.string m0))) (by kernel_rfl) ⟨f3, f4, x1, x2, xm⟩ (fun hHeld => ?_)
                refine HdK.tke 0 (some 53) (.int .i64 (j : Int)) rfl rfl ?_
                try simp only [Act.put, List.setIfInBounds_toArray, List.set_cons_zero, List.set_cons_succ]
                refine HdK.tke 1 (some 54) (.bool false) rfl rfl ?_
                try simp only [Act.put, List.setIfInBounds_toArray, List.set_cons_zero, List.set_cons_succ]
                refine HdK.tke 2 (some 55) (.bool false) rfl rfl ?_
                try simp only [Act.put, List.setIfInBounds_toArray, List.set_cons_zero, List.set_cons_succ]
                refine HdK.tke 3 (some 56) (.slice (some ⟨g, o, none⟩) l.length c0) rfl rfl ?_
                try simp only [Act.put, List.setIfInBounds_toArray, List.set_cons_zero, List.set_cons_succ]
                refine HdK.tke 4 (some 57) (.int .i64 (j : Int)) rfl rfl ?_
                try simp only [Act.put, List.setIfInBounds_toArray, List.set_cons_zero, List.set_cons_succ]
                refine HdK.tke 5 (some 58) (.pointer (some ⟨g, o + j * 3, none⟩)) rfl rfl ?_
                try simp only [Act.put, List.setIfInBounds_toArray, List.set_cons_zero, List.set_cons_succ]
                refine HdK.tke 6 (some 59) (.pointer (some ⟨g, o + j * 3 + 1, none⟩)) rfl rfl ?_
                try simp only [Act.put, List.setIfInBounds_toArray, List.set_cons_zero, List.set_cons_succ]
                refine HdK.tke 7 (some 60) (.bool true) rfl rfl ?_
                try simp only [Act.put, List.setIfInBounds_toArray, List.set_cons_zero, List.set_cons_succ]
                refine HdK.tke 8 (some 61) (.pointer (some ⟨w.heap.size, 4, none⟩)) rfl rfl ?_
                try simp only [Act.put, List.setIfInBounds_toArray, List.set_cons_zero, List.set_cons_succ]
                refine HdK.tke 9 (some 62) (.string q.lk) rfl rfl ?_
                try simp only [Act.put, List.setIfInBounds_toArray, List.set_cons_zero, List.set_cons_succ]
                refine HdK.tke 10 (some 63) (.bool true) rfl rfl ?_
                try simp only [Act.put, List.setIfInBounds_toArray, List.set_cons_zero, List.set_cons_succ]
                refine HdK.tke 11 (some 64) (.bool false) rfl rfl ?_
                try simp only [Act.put, List.setIfInBounds_toArray, List.set_cons_zero, List.set_cons_succ]
                refine HdK.tke 12 (some 65) (.bool false) rfl rfl ?_
                try simp only [Act.put, List.setIfInBounds_toArray, List.set_cons_zero, List.set_cons_succ]
                refine HdK.tke 13 (some 66) (.bool false) rfl rfl ?_
                try simp only [Act.put, List.setIfInBounds_toArray, List.set_cons_zero, List.set_cons_succ]
                refine HdK.tke 14 (some 67) (v3) rfl rfl ?_
                try simp only [Act.put, List.setIfInBounds_toArray, List.set_cons_zero, List.set_cons_succ]
                refine HdK.tke 15 (some 68) (.pointer (some ⟨w.heap.size, 3, none⟩)) rfl rfl ?_
                try simp only [Act.put, List.setIfInBounds_toArray, List.set_cons_zero, List.set_cons_succ]
                refine HdK.tke 16 (some 69) (.string q.on) rfl rfl ?_
                try simp only [Act.put, List.setIfInBounds_toArray, List.set_cons_zero, List.set_cons_succ]
                refine wpAnyH_ready (rs := [17]) (by kernel_rfl) (by simp) ?_
                refine AllReadyH.cons rfl (fun K hK => ?_) AllReadyH.nil
                (go_simp; go_at_call 64; refine (CHS.out).mono ?_; rintro e w8 ⟨rfl, rfl⟩; try (go_wp2_with fail))
                refine hK.out _ _ ⟨f3, f4, x1, x2, xm⟩ (fun hHeld => ?_)
                clear hK K
                try simp only [Act.put, List.setIfInBounds_toArray, List.set_cons_zero, List.set_cons_succ]
                refine HdK.tke 18 (some 71) (.bool false) rfl rfl ?_
                try simp only [Act.put, List.setIfInBounds_toArray, List.set_cons_zero, List.set_cons_succ]
                refine HdK.tke 19 (some 72) (.bool false) rfl rfl ?_
                try simp only [Act.put, List.setIfInBounds_toArray, List.set_cons_zero, List.set_cons_succ]
                refine HdK.tke 20 (some 73) (.bool false) rfl rfl ?_
                try simp only [Act.put, List.setIfInBounds_toArray, List.set_cons_zero, List.set_cons_succ]
                refine HdK.tke 21 (some 74) (.slice (some ⟨g, o, none⟩) l.length c0) rfl rfl ?_
                try simp only [Act.put, List.setIfInBounds_toArray, List.set_cons_zero, List.set_cons_succ]
                refine HdK.tke 22 (some 75) (.int .i64 (j : Int)) rfl rfl ?_
                try simp only [Act.put, List.setIfInBounds_toArray, List.set_cons_zero, List.set_cons_succ]
                refine HdK.tke 23 (some 76) (.pointer (some ⟨g, o + j * 3, none⟩)) rfl rfl ?_
                try simp only [Act.put, List.setIfInBounds_toArray, List.set_cons_zero, List.set_cons_succ]
                refine HdK.tke 24 (some 77) (.pointer (some ⟨g, o + j * 3 + 2, none⟩)) rfl rfl ?_
                try simp only [Act.put, List.setIfInBounds_toArray, List.set_cons_zero, List.set_cons_succ]
                refine HdK.tke 25 (some 78) (.slice (some ⟨g2, p2, none⟩) o2.cols.length c2) rfl rfl ?_
                try simp only [Act.put, List.setIfInBounds_toArray, List.set_cons_zero, List.set_cons_succ]
                refine HdK.tke 26 (some 79) (.pointer (some ⟨w.heap.size, 3, none⟩)) rfl rfl ?_
                try simp only [Act.put, List.setIfInBounds_toArray, List.set_cons_zero, List.set_cons_succ]
                refine HdK.tke 27 (some 80) (.string q.on) rfl rfl ?_
                try simp only [Act.put, List.setIfInBounds_toArray, List.set_cons_zero, List.set_cons_succ]
                refine wpAnyH_ready (rs := [28]) (by kernel_rfl) (by simp) ?_
                refine AllReadyH.cons rfl (fun K hK => ?_) AllReadyH.nil
                (go_simp; go_at_call 64; refine (CHO.out).mono ?_; rintro e w8 ⟨rfl, rfl⟩; try (go_wp2_with fail))
                refine hK.out _ _ ⟨f3, f4, x1, x2, xm⟩ (fun hHeld => ?_)
                clear hK K
                try simp only [Act.put, List.setIfInBounds_toArray, List.set_cons_zero, List.set_cons_succ]
                refine HdK.tke 29 (some 82) (.bool false) rfl rfl ?_
                try simp only [Act.put, List.setIfInBounds_toArray, List.set_cons_zero, List.set_cons_succ]
                refine HdK.tke 30 (some 83) (.bool false) rfl rfl ?_
                try simp only [Act.put, List.setIfInBounds_toArray, List.set_cons_zero, List.set_cons_succ]
                refine HdK.tke 31 (some 84) (.bool false) rfl rfl ?_
                try simp only [Act.put, List.setIfInBounds_toArray, List.set_cons_zero, List.set_cons_succ]
                refine HdK.tke 32 (some 85) (.pointer (some ⟨w.heap.size, 4, none⟩)) rfl rfl ?_
                try simp only [Act.put, List.setIfInBounds_toArray, List.set_cons_zero, List.set_cons_succ]
                refine HdK.tke 33 (some 86) (.string q.lk) rfl rfl ?_
                try simp only [Act.put, List.setIfInBounds_toArray, List.set_cons_zero, List.set_cons_succ]
                refine HdK.tke 34 (some 87) (.bool true) rfl rfl ?_
                try simp only [Act.put, List.setIfInBounds_toArray, List.set_cons_zero, List.set_cons_succ]
                refine HdK.tke 35 (some 88) (.bool true) rfl rfl ?_
                try simp only [Act.put, List.setIfInBounds_toArray, List.set_cons_zero, List.set_cons_succ]
                refine HdK.tke 36 (some 89) (.slice (some ⟨g, o, none⟩) l.length c0) rfl rfl ?_
                try simp only [Act.put, List.setIfInBounds_toArray, List.set_cons_zero, List.set_cons_succ]
                refine HdK.tke 37 (some 90) (.int .i64 (j : Int)) rfl rfl ?_
                try simp only [Act.put, List.setIfInBounds_toArray, List.set_cons_zero, List.set_cons_succ]
                refine HdK.tke 38 (some 91) (.pointer (some ⟨g, o + j * 3, none⟩)) rfl rfl ?_
                try simp only [Act.put, List.setIfInBounds_toArray, List.set_cons_zero, List.set_cons_succ]
                refine HdK.tke 39 (some 92) (.pointer (some ⟨g, o + j * 3 + 2, none⟩)) rfl rfl ?_
                try simp only [Act.put, List.setIfInBounds_toArray, List.set_cons_zero, List.set_cons_succ]
                refine HdK.tke 40 (some 93) (.slice (some ⟨g2, p2, none⟩) o2.cols.length c2) rfl rfl ?_
                try simp only [Act.put, List.setIfInBounds_toArray, List.set_cons_zero, List.set_cons_succ]
                refine HdK.tke 41 (some 94) (.pointer (some ⟨g2, p2, none⟩)) rfl rfl ?_
                try simp only [Act.put, List.setIfInBounds_toArray, List.set_cons_zero, List.set_cons_succ]
                refine HdK.tke 42 (some 95) (.string m0) rfl rfl ?_
                try simp only [Act.put, List.setIfInBounds_toArray, List.set_cons_zero, List.set_cons_succ]
                refine HdK.tke 43 (some 96) (.pointer (some ⟨w.heap.size, 3, none⟩)) rfl rfl ?_
                try simp only [Act.put, List.setIfInBounds_toArray, List.set_cons_zero, List.set_cons_succ]
                refine HdK.tke 44 (some 97) (.string q.on) rfl rfl ?_
                try simp only [Act.put, List.setIfInBounds_toArray, List.set_cons_zero, List.set_cons_succ]
                refine HdK.tke 45 (some 98) (.bool true) rfl rfl ?_
                try simp only [Act.put, List.setIfInBounds_toArray, List.set_cons_zero, List.set_cons_succ]
                refine HdK.tke 46 (some 99) (.bool true) rfl rfl ?_
                try simp only [Act.put, List.setIfInBounds_toArray, List.set_cons_zero, List.set_cons_succ]
                refine HdK.tke 47 (some 100) (.bool true) rfl rfl ?_
                try simp only [Act.put, List.setIfInBounds_toArray, List.set_cons_zero, List.set_cons_succ]
                refine wpAnyH_done (by kernel_rfl) ?_ _
                have RN : Hid (RR = []) := by show _ = _; rw [← HRR.out]; exact in_nil (se_nil2 HJL.out BF.out)
                clear HRR
                go_wp2
                go_ret
                exact ⟨_, rfl, by rw [RN.out]; exact row_weak (Row.keep E3.out ⟨rfl, rfl, rfl, Nat.le_refl _, fun _ _ => rfl⟩) (by omega), C3.out.drew⟩
              | true =>
                have BT : Hid (bsB q l = true) := MG.out _ hm
                refine wp_region_held_drew (S := (fun w' => w'.cell? ⟨w.heap.size, 3, none⟩ = some (.string q.on) ∧ w'.cell? ⟨w.heap.size, 4, none⟩ = some (.string q.lk) ∧ w'.cell? ⟨g, o + j * 3 + 1, none⟩ = some (.bool true) ∧ w'.cell? ⟨g, o + j * 3 + 2, none⟩ = some (.slice (some ⟨g2, p2, none⟩) o2.cols.length c2) ∧ w'.cell? ⟨g2, p2, none⟩ = some (.string m0))) (by kernel_rfl) ⟨f3, f4, x1, x2, xm⟩ (fun hHeld => ?_)
                refine HdK.tke 0 (some 53) (.int .i64 (j : Int)) rfl rfl ?_
                try simp only [Act.put, List.setIfInBounds_toArray, List.set_cons_zero, List.set_cons_succ]
                refine HdK.tke 1 (some 54) (.bool false) rfl rfl ?_
                try simp only [Act.put, List.setIfInBounds_toArray, List.set_cons_zero, List.set_cons_succ]
                refine HdK.tke 2 (some 55) (.bool false) rfl rfl ?_
                try simp only [Act.put, List.setIfInBounds_toArray, List.set_cons_zero, List.set_cons_succ]
                refine HdK.tke 3 (some 56) (.slice (some ⟨g, o, none⟩) l.length c0) rfl rfl ?_
                try simp only [Act.put, List.setIfInBounds_toArray, List.set_cons_zero, List.set_cons_succ]
                refine HdK.tke 4 (some 57) (.int .i64 (j : Int)) rfl rfl ?_
                try simp only [Act.put, List.setIfInBounds_toArray, List.set_cons_zero, List.set_cons_succ]
                refine HdK.tke 5 (some 58) (.pointer (some ⟨g, o + j * 3, none⟩)) rfl rfl ?_
                try simp only [Act.put, List.setIfInBounds_toArray, List.set_cons_zero, List.set_cons_succ]
                refine HdK.tke 6 (some 59) (.pointer (some ⟨g, o + j * 3 + 1, none⟩)) rfl rfl ?_
                try simp only [Act.put, List.setIfInBounds_toArray, List.set_cons_zero, List.set_cons_succ]
                refine HdK.tke 7 (some 60) (.bool true) rfl rfl ?_
                try simp only [Act.put, List.setIfInBounds_toArray, List.set_cons_zero, List.set_cons_succ]
                refine HdK.tke 8 (some 61) (.pointer (some ⟨w.heap.size, 4, none⟩)) rfl rfl ?_
                try simp only [Act.put, List.setIfInBounds_toArray, List.set_cons_zero, List.set_cons_succ]
                refine HdK.tke 9 (some 62) (.string q.lk) rfl rfl ?_
                try simp only [Act.put, List.setIfInBounds_toArray, List.set_cons_zero, List.set_cons_succ]
                refine HdK.tke 10 (some 63) (.bool true) rfl rfl ?_
                try simp only [Act.put, List.setIfInBounds_toArray, List.set_cons_zero, List.set_cons_succ]
                refine HdK.tke 11 (some 64) (.bool false) rfl rfl ?_
                try simp only [Act.put, List.setIfInBounds_toArray, List.set_cons_zero, List.set_cons_succ]
                refine HdK.tke 12 (some 65) (.bool false) rfl rfl ?_
                try simp only [Act.put, List.setIfInBounds_toArray, List.set_cons_zero, List.set_cons_succ]
                refine HdK.tke 13 (some 66) (.bool false) rfl rfl ?_
                try simp only [Act.put, List.setIfInBounds_toArray, List.set_cons_zero, List.set_cons_succ]
                refine HdK.tke 14 (some 67) (v3) rfl rfl ?_
                try simp only [Act.put, List.setIfInBounds_toArray, List.set_cons_zero, List.set_cons_succ]
                refine HdK.tke 15 (some 68) (.pointer (some ⟨w.heap.size, 3, none⟩)) rfl rfl ?_
                try simp only [Act.put, List.setIfInBounds_toArray, List.set_cons_zero, List.set_cons_succ]
                refine HdK.tke 16 (some 69) (.string q.on) rfl rfl ?_
                try simp only [Act.put, List.setIfInBounds_toArray, List.set_cons_zero, List.set_cons_succ]
                refine wpAnyH_ready (rs := [17]) (by kernel_rfl) (by simp) ?_
                refine AllReadyH.cons rfl (fun K hK => ?_) AllReadyH.nil
                (go_simp; go_at_call 64; refine (CHS.out).mono ?_; rintro e w8 ⟨rfl, rfl⟩; try (go_wp2_with fail))
                refine hK.out _ _ ⟨f3, f4, x1, x2, xm⟩ (fun hHeld => ?_)
                clear hK K
                try simp only [Act.put, List.setIfInBounds_toArray, List.set_cons_zero, List.set_cons_succ]
                refine HdK.tke 18 (some 71) (.bool false) rfl rfl ?_
                try simp only [Act.put, List.setIfInBounds_toArray, List.set_cons_zero, List.set_cons_succ]
                refine HdK.tke 19 (some 72) (.bool false) rfl rfl ?_
                try simp only [Act.put, List.setIfInBounds_toArray, List.set_cons_zero, List.set_cons_succ]
                refine HdK.tke 20 (some 73) (.bool false) rfl rfl ?_
                try simp only [Act.put, List.setIfInBounds_toArray, List.set_cons_zero, List.set_cons_succ]
                refine HdK.tke 21 (some 74) (.slice (some ⟨g, o, none⟩) l.length c0) rfl rfl ?_
                try simp only [Act.put, List.setIfInBounds_toArray, List.set_cons_zero, List.set_cons_succ]
                refine HdK.tke 22 (some 75) (.int .i64 (j : Int)) rfl rfl ?_
                try simp only [Act.put, List.setIfInBounds_toArray, List.set_cons_zero, List.set_cons_succ]
                refine HdK.tke 23 (some 76) (.pointer (some ⟨g, o + j * 3, none⟩)) rfl rfl ?_
                try simp only [Act.put, List.setIfInBounds_toArray, List.set_cons_zero, List.set_cons_succ]
                refine HdK.tke 24 (some 77) (.pointer (some ⟨g, o + j * 3 + 2, none⟩)) rfl rfl ?_
                try simp only [Act.put, List.setIfInBounds_toArray, List.set_cons_zero, List.set_cons_succ]
                refine HdK.tke 25 (some 78) (.slice (some ⟨g2, p2, none⟩) o2.cols.length c2) rfl rfl ?_
                try simp only [Act.put, List.setIfInBounds_toArray, List.set_cons_zero, List.set_cons_succ]
                refine HdK.tke 26 (some 79) (.pointer (some ⟨w.heap.size, 3, none⟩)) rfl rfl ?_
                try simp only [Act.put, List.setIfInBounds_toArray, List.set_cons_zero, List.set_cons_succ]
                refine HdK.tke 27 (some 80) (.string q.on) rfl rfl ?_
                try simp only [Act.put, List.setIfInBounds_toArray, List.set_cons_zero, List.set_cons_succ]
                refine wpAnyH_ready (rs := [28]) (by kernel_rfl) (by simp) ?_
                refine AllReadyH.cons rfl (fun K hK => ?_) AllReadyH.nil
                (go_simp; go_at_call 64; refine (CHO.out).mono ?_; rintro e w8 ⟨rfl, rfl⟩; try (go_wp2_with fail))
                refine hK.out _ _ ⟨f3, f4, x1, x2, xm⟩ (fun hHeld => ?_)
                clear hK K
                try simp only [Act.put, List.setIfInBounds_toArray, List.set_cons_zero, List.set_cons_succ]
                refine HdK.tke 29 (some 82) (.bool false) rfl rfl ?_
                try simp only [Act.put, List.setIfInBounds_toArray, List.set_cons_zero, List.set_cons_succ]
                refine HdK.tke 30 (some 83) (.bool false) rfl rfl ?_
                try simp only [Act.put, List.setIfInBounds_toArray, List.set_cons_zero, List.set_cons_succ]
                refine HdK.tke 31 (some 84) (.bool false) rfl rfl ?_
                try simp only [Act.put, List.setIfInBounds_toArray, List.set_cons_zero, List.set_cons_succ]
                refine HdK.tke 32 (some 85) (.pointer (some ⟨w.heap.size, 4, none⟩)) rfl rfl ?_
                try simp only [Act.put, List.setIfInBounds_toArray, List.set_cons_zero, List.set_cons_succ]
                refine HdK.tke 33 (some 86) (.string q.lk) rfl rfl ?_
                try simp only [Act.put, List.setIfInBounds_toArray, List.set_cons_zero, List.set_cons_succ]
                refine HdK.tke 34 (some 87) (.bool true) rfl rfl ?_
                try simp only [Act.put, List.setIfInBounds_toArray, List.set_cons_zero, List.set_cons_succ]
                refine HdK.tke 35 (some 88) (.bool true) rfl rfl ?_
                try simp only [Act.put, List.setIfInBounds_toArray, List.set_cons_zero, List.set_cons_succ]
                refine HdK.tke 36 (some 89) (.slice (some ⟨g, o, none⟩) l.length c0) rfl rfl ?_
                try simp only [Act.put, List.setIfInBounds_toArray, List.set_cons_zero, List.set_cons_succ]
                refine HdK.tke 37 (some 90) (.int .i64 (j : Int)) rfl rfl ?_
                try simp only [Act.put, List.setIfInBounds_toArray, List.set_cons_zero, List.set_cons_succ]
                refine HdK.tke 38 (some 91) (.pointer (some ⟨g, o + j * 3, none⟩)) rfl rfl ?_
                try simp only [Act.put, List.setIfInBounds_toArray, List.set_cons_zero, List.set_cons_succ]
                refine HdK.tke 39 (some 92) (.pointer (some ⟨g, o + j * 3 + 2, none⟩)) rfl rfl ?_
                try simp only [Act.put, List.setIfInBounds_toArray, List.set_cons_zero, List.set_cons_succ]
                refine HdK.tke 40 (some 93) (.slice (some ⟨g2, p2, none⟩) o2.cols.length c2) rfl rfl ?_
                try simp only [Act.put, List.setIfInBounds_toArray, List.set_cons_zero, List.set_cons_succ]
                refine HdK.tke 41 (some 94) (.pointer (some ⟨g2, p2, none⟩)) rfl rfl ?_
                try simp only [Act.put, List.setIfInBounds_toArray, List.set_cons_zero, List.set_cons_succ]
                refine HdK.tke 42 (some 95) (.string m0) rfl rfl ?_
                try simp only [Act.put, List.setIfInBounds_toArray, List.set_cons_zero, List.set_cons_succ]
                refine HdK.tke 43 (some 96) (.pointer (some ⟨w.heap.size, 3, none⟩)) rfl rfl ?_
                try simp only [Act.put, List.setIfInBounds_toArray, List.set_cons_zero, List.set_cons_succ]
                refine HdK.tke 44 (some 97) (.string q.on) rfl rfl ?_
                try simp only [Act.put, List.setIfInBounds_toArray, List.set_cons_zero, List.set_cons_succ]
                refine HdK.tke 45 (some 98) (.bool false) rfl rfl ?_
                try simp only [Act.put, List.setIfInBounds_toArray, List.set_cons_zero, List.set_cons_succ]
                refine HdK.tke 46 (some 99) (.bool false) rfl rfl ?_
                try simp only [Act.put, List.setIfInBounds_toArray, List.set_cons_zero, List.set_cons_succ]
                refine HdK.tke 47 (some 100) (.bool false) rfl rfl ?_
                try simp only [Act.put, List.setIfInBounds_toArray, List.set_cons_zero, List.set_cons_succ]
                refine wpAnyH_done (by kernel_rfl) ?_ _
                clear x1 f4 f1
                have HOLD : Hid (∀ (wx : World) (a : Addr) (u : Value), Below w2.heap.size w2 wx → a.block < w2.heap.size → w3.cell? a = some u → wx.cell? a = some u) := fun wx a u b ha h => by
                  rw [World.cell?_of_block (w := w3) (a := a) ((b.block _ ha).trans (B3.out.block _ ha).symm)]
                  exact h
                have X2 := Seg.hid x2
                have F3 := Seg.hid f3
                clear x2 f3
                have zq : w.heap.size < w2.heap.size := (Array.getElem?_eq_some_iff.1 T2.out).1
                go_wp2
                go_loopw [7, 9] (fun u i wr => ∃ n : Nat, n ≤ o2.cols.length ∧ i = .int .i64 n ∧ Hid (Row wr w2.heap.size u (jnL q.on s.cols (o2.cols.take n)) ∧ Below w2.heap.size w2 wr)) (fun _ i _ => o2.cols.length - (intOf i).toNat)
                case atStart => exact ⟨0, Nat.zero_le _, rfl, by rw [jn_zero]; exact R3.out, B3.out.drew⟩
                case round =>
                  obtain ⟨n, hn9, rfl, HG⟩ := hrel
                  obtain ⟨v, hv3⟩ : ∃ v, v = u7 := ⟨_, rfl⟩
                  rw [← hv3] at HG ⊢
                  clear hv3
                  have RW := Seg.hid HG.out.1
                  have BW := Seg.hid HG.out.2
                  clear HG
                  have k2 : wr.cell? ⟨g, o + j * 3 + 2, none⟩ = some (.slice (some ⟨g2, p2, none⟩) o2.cols.length c2) := HOLD.out wr _ _ BW.out hg2w X2.out
                  have k3 : wr.cell? ⟨w.heap.size, 3, none⟩ = some (.string q.on) := HOLD.out wr _ _ BW.out zq F3.out
                  by_cases hlt : n < o2.cols.length
                  · have m1 := strs_cell HOP2.out (BW.out.block g2 hg2) hlt
                    have hn0 : (0 : Int) ≤ (n : Int) := by omega
                    have hn1 : (n : Int) < (o2.cols.length : Int) := by omega
                    have NN := Seg.hid (jn_next (on := q.on) (a := s.cols) hlt)
                    have NL : Hid ((jnL q.on s.cols (o2.cols.take n)).length ≤ 24) := by show _ ≤ _; have := jn_len q.on s.cols o2.cols n; omega
                    generalize o2.cols.getD n default = m at *
                    go_wp2_with fail
                    cases hb : (m.toList == q.on.toList) with
                    | true =>
                      have NY : Hid (jnL q.on s.cols (o2.cols.take (n + 1)) = jnL q.on s.cols (o2.cols.take n)) := by show _ = _; rw [NN.out, if_neg (by rw [keepN, hb]; decide)]
                      clear NN
                      go_region_held3 (fun w' => w'.cell? ⟨g, o + j * 3 + 2, none⟩ = some (.slice (some ⟨g2, p2, none⟩) o2.cols.length c2) ∧ w'.cell? ⟨w.heap.size, 3, none⟩ = some (.string q.on) ∧ w'.cell? ⟨g2, p2 + n, none⟩ = some (.string m)) (first | exact ⟨k2, k3, m1⟩ | go_keep) (fail)
                      all_goals
                        go_wp2
                        go_roundw
                        case rel => exact ⟨n + 1, by omega, by go_num, by rw [NY.out]; exact RW.out, BW.out.drew⟩
                        case measure => simp [intOf]; omega
                    | false =>
                      have NY : Hid (jnL q.on s.cols (o2.cols.take (n + 1)) = jnL q.on s.cols (o2.cols.take n) ++ [m]) := by show _ = _; rw [NN.out, if_pos (by rw [keepN, hb]; decide)]
                      clear NN
                      have nl := NL.out
                      go_region_held3 (fun w' => w'.cell? ⟨g, o + j * 3 + 2, none⟩ = some (.slice (some ⟨g2, p2, none⟩) o2.cols.length c2) ∧ w'.cell? ⟨w.heap.size, 3, none⟩ = some (.string q.on) ∧ w'.cell? ⟨g2, p2 + n, none⟩ = some (.string m)) (first | exact ⟨k2, k3, m1⟩ | go_keep) (fail)
                      all_goals
                        have RD : Hid (Row wr.drew w2.heap.size v (jnL q.on s.cols (o2.cols.take n))) := RW.out
                        have BD : Hid (Below w2.heap.size w2 wr.drew) := BW.out.drew
                        have e2 : wr.drew.cell? ⟨g, o + j * 3 + 2, none⟩ = some (.slice (some ⟨g2, p2, none⟩) o2.cols.length c2) := k2
                        have e1 : wr.drew.cell? ⟨g2, p2 + n, none⟩ = some (.string m) := m1
                        generalize wr.drew = wd at *
                        have OW : Hid (∀ ob, (wd.alloc ob).ownsRow w2.heap.size 9 1 v (jnL q.on s.cols (o2.cols.take n)).length ((jnL q.on s.cols (o2.cols.take n)).map Value.string)) := fun ob => Row.keep RD.out (below1 wd ob)
                        have sd := BD.out.size
                        go_wp2_with (at_builtin; (refine wpList_append_lies _ rfl _ _ 30 rfl w2.heap.size 9 i0 _ 1 16 Try.underlying30 hi hz0 hz1 hz2 rfl (by decide) v (jnL q.on s.cols (o2.cols.take n)).length ((jnL q.on s.cols (o2.cols.take n)).map Value.string) rfl (OW.out _) ⟨wd.heap.size, 0, none⟩ 1 1 [.string m] rfl rfl (World.news_of_block (cs := #[.string m]) (heap_alloc_new _ _)) (by simp [Value.oneCell']) (by decide) (by unfold maxLen; omega) (by omega) (by rw [hsz]; omega) (wd.heap.size + 1) (by rw [hsz]) ?_; intro g9 cap9 w9 hown9 gr9 hat9 hlt9; have RN := Seg.hid (row_put hown9); have B9 : Hid (Below w2.heap.size w2 w9) := (BD.out.alloc sd _).grown gr9 (by rw [hsz]; omega) (fun y hy => (World.ownsRow.lt RD.out y hy).1); clear hown9 gr9 hat9 hlt9))
                        go_roundw
                        case rel => exact ⟨n + 1, by omega, by go_num, by rw [NY.out]; exact RN.out, B9.out⟩
                        case measure => simp [intOf]; omega
                  · have hnl : n = o2.cols.length := by omega
                    have RL : Hid (Row wr w2.heap.size v CC) := by
                      have := RW.out
                      rw [hnl, List.take_length] at this
                      rw [RC.out]
                      exact this
                    have hx1 : ¬ (n : Int) < (o2.cols.length : Int) := by omega
                    clear hnl RW
                    go_wp2
                    go_meet
                    exact ⟨RL.out, BW.out, .inr ⟨BT.out, HHS.out⟩⟩
        | true =>
          have BF : Hid (bsB q l = false) := by show _ = _; rw [BE.out]; rfl
          refine wp_region_held_drew (S := (fun w' => w'.cell? ⟨w.heap.size, 3, none⟩ = some (.string q.on) ∧ w'.cell? ⟨w.heap.size, 4, none⟩ = some (.string q.lk) ∧ w'.cell? ⟨g, o + j * 3 + 1, none⟩ = some (.bool true) ∧ w'.cell? ⟨g, o + j * 3 + 2, none⟩ = some (.slice A2 o2.cols.length c2))) (by kernel_rfl) ⟨f3, f4, x1, x2⟩ (fun hHeld => ?_)
          refine HdK.tke 0 (some 53) (.int .i64 (j : Int)) rfl rfl ?_
          try simp only [Act.put, List.setIfInBounds_toArray, List.set_cons_zero, List.set_cons_succ]
          refine HdK.tke 1 (some 54) (.bool false) rfl rfl ?_
          try simp only [Act.put, List.setIfInBounds_toArray, List.set_cons_zero, List.set_cons_succ]
          refine HdK.tke 2 (some 55) (.bool false) rfl rfl ?_
          try simp only [Act.put, List.setIfInBounds_toArray, List.set_cons_zero, List.set_cons_succ]
          refine HdK.tke 3 (some 56) (.slice (some ⟨g, o, none⟩) l.length c0) rfl rfl ?_
          try simp only [Act.put, List.setIfInBounds_toArray, List.set_cons_zero, List.set_cons_succ]
          refine HdK.tke 4 (some 57) (.int .i64 (j : Int)) rfl rfl ?_
          try simp only [Act.put, List.setIfInBounds_toArray, List.set_cons_zero, List.set_cons_succ]
          refine HdK.tke 5 (some 58) (.pointer (some ⟨g, o + j * 3, none⟩)) rfl rfl ?_
          try simp only [Act.put, List.setIfInBounds_toArray, List.set_cons_zero, List.set_cons_succ]
          refine HdK.tke 6 (some 59) (.pointer (some ⟨g, o + j * 3 + 1, none⟩)) rfl rfl ?_
          try simp only [Act.put, List.setIfInBounds_toArray, List.set_cons_zero, List.set_cons_succ]
          refine HdK.tke 7 (some 60) (.bool true) rfl rfl ?_
          try simp only [Act.put, List.setIfInBounds_toArray, List.set_cons_zero, List.set_cons_succ]
          refine HdK.tke 8 (some 61) (.pointer (some ⟨w.heap.size, 4, none⟩)) rfl rfl ?_
          try simp only [Act.put, List.setIfInBounds_toArray, List.set_cons_zero, List.set_cons_succ]
          refine HdK.tke 9 (some 62) (.string q.lk) rfl rfl ?_
          try simp only [Act.put, List.setIfInBounds_toArray, List.set_cons_zero, List.set_cons_succ]
          refine HdK.tke 10 (some 63) (.bool false) rfl rfl ?_
          try simp only [Act.put, List.setIfInBounds_toArray, List.set_cons_zero, List.set_cons_succ]
          refine HdK.tke 11 (some 64) (.bool true) rfl rfl ?_
          try simp only [Act.put, List.setIfInBounds_toArray, List.set_cons_zero, List.set_cons_succ]
          refine HdK.tke 12 (some 65) (.bool true) rfl rfl ?_
          try simp only [Act.put, List.setIfInBounds_toArray, List.set_cons_zero, List.set_cons_succ]
          refine HdK.tke 13 (some 66) (.bool true) rfl rfl ?_
          try simp only [Act.put, List.setIfInBounds_toArray, List.set_cons_zero, List.set_cons_succ]
          refine HdK.skp 14 (some 67) rfl rfl ?_
          try simp only [Act.put, List.setIfInBounds_toArray, List.set_cons_zero, List.set_cons_succ]
          refine HdK.skp 15 (some 68) rfl rfl ?_
          try simp only [Act.put, List.setIfInBounds_toArray, List.set_cons_zero, List.set_cons_succ]
          refine HdK.skp 16 (some 69) rfl rfl ?_
          try simp only [Act.put, List.setIfInBounds_toArray, List.set_cons_zero, List.set_cons_succ]
          refine HdK.skp 17 (some 70) rfl rfl ?_
          try simp only [Act.put, List.setIfInBounds_toArray, List.set_cons_zero, List.set_cons_succ]
          refine HdK.skp 18 (some 71) rfl rfl ?_
          try simp only [Act.put, List.setIfInBounds_toArray, List.set_cons_zero, List.set_cons_succ]
          refine HdK.tke 19 (some 72) (.bool true) rfl rfl ?_
          try simp only [Act.put, List.setIfInBounds_toArray, List.set_cons_zero, List.set_cons_succ]
          refine HdK.tke 20 (some 73) (.bool true) rfl rfl ?_
          try simp only [Act.put, List.setIfInBounds_toArray, List.set_cons_zero, List.set_cons_succ]
          refine HdK.skp 21 (some 74) rfl rfl ?_
          try simp only [Act.put, List.setIfInBounds_toArray, List.set_cons_zero, List.set_cons_succ]
          refine HdK.skp 22 (some 75) rfl rfl ?_
          try simp only [Act.put, List.setIfInBounds_toArray, List.set_cons_zero, List.set_cons_succ]
          refine HdK.skp 23 (some 76) rfl rfl ?_
          try simp only [Act.put, List.setIfInBounds_toArray, List.set_cons_zero, List.set_cons_succ]
          refine HdK.skp 24 (some 77) rfl rfl ?_
          try simp only [Act.put, List.setIfInBounds_toArray, List.set_cons_zero, List.set_cons_succ]
          refine HdK.skp 25 (some 78) rfl rfl ?_
          try simp only [Act.put, List.setIfInBounds_toArray, List.set_cons_zero, List.set_cons_succ]
          refine HdK.skp 26 (some 79) rfl rfl ?_
          try simp only [Act.put, List.setIfInBounds_toArray, List.set_cons_zero, List.set_cons_succ]
          refine HdK.skp 27 (some 80) rfl rfl ?_
          try simp only [Act.put, List.setIfInBounds_toArray, List.set_cons_zero, List.set_cons_succ]
          refine HdK.skp 28 (some 81) rfl rfl ?_
          try simp only [Act.put, List.setIfInBounds_toArray, List.set_cons_zero, List.set_cons_succ]
          refine HdK.skp 29 (some 82) rfl rfl ?_
          try simp only [Act.put, List.setIfInBounds_toArray, List.set_cons_zero, List.set_cons_succ]
          refine HdK.tke 30 (some 83) (.bool true) rfl rfl ?_
          try simp only [Act.put, List.setIfInBounds_toArray, List.set_cons_zero, List.set_cons_succ]
          refine HdK.tke 31 (some 84) (.bool true) rfl rfl ?_
          try simp only [Act.put, List.setIfInBounds_toArray, List.set_cons_zero, List.set_cons_succ]
          refine HdK.skp 32 (some 85) rfl rfl ?_
          try simp only [Act.put, List.setIfInBounds_toArray, List.set_cons_zero, List.set_cons_succ]
          refine HdK.skp 33 (some 86) rfl rfl ?_
          try simp only [Act.put, List.setIfInBounds_toArray, List.set_cons_zero, List.set_cons_succ]
          refine HdK.skp 34 (some 87) rfl rfl ?_
          try simp only [Act.put, List.setIfInBounds_toArray, List.set_cons_zero, List.set_cons_succ]
          refine HdK.skp 35 (some 88) rfl rfl ?_
          try simp only [Act.put, List.setIfInBounds_toArray, List.set_cons_zero, List.set_cons_succ]
          refine HdK.skp 36 (some 89) rfl rfl ?_
          try simp only [Act.put, List.setIfInBounds_toArray, List.set_cons_zero, List.set_cons_succ]
          refine HdK.skp 37 (some 90) rfl rfl ?_
          try simp only [Act.put, List.setIfInBounds_toArray, List.set_cons_zero, List.set_cons_succ]
          refine HdK.skp 38 (some 91) rfl rfl ?_
          try simp only [Act.put, List.setIfInBounds_toArray, List.set_cons_zero, List.set_cons_succ]
          refine HdK.skp 39 (some 92) rfl rfl ?_
          try simp only [Act.put, List.setIfInBounds_toArray, List.set_cons_zero, List.set_cons_succ]
          refine HdK.skp 40 (some 93) rfl rfl ?_
          try simp only [Act.put, List.setIfInBounds_toArray, List.set_cons_zero, List.set_cons_succ]
          refine HdK.skp 41 (some 94) rfl rfl ?_
          try simp only [Act.put, List.setIfInBounds_toArray, List.set_cons_zero, List.set_cons_succ]
          refine HdK.skp 42 (some 95) rfl rfl ?_
          try simp only [Act.put, List.setIfInBounds_toArray, List.set_cons_zero, List.set_cons_succ]
          refine HdK.skp 43 (some 96) rfl rfl ?_
          try simp only [Act.put, List.setIfInBounds_toArray, List.set_cons_zero, List.set_cons_succ]
          refine HdK.skp 44 (some 97) rfl rfl ?_
          try simp only [Act.put, List.setIfInBounds_toArray, List.set_cons_zero, List.set_cons_succ]
          refine HdK.skp 45 (some 98) rfl rfl ?_
          try simp only [Act.put, List.setIfInBounds_toArray, List.set_cons_zero, List.set_cons_succ]
          refine HdK.skp 46 (some 99) rfl rfl ?_
          try simp only [Act.put, List.setIfInBounds_toArray, List.set_cons_zero, List.set_cons_succ]
          refine HdK.tke 47 (some 100) (.bool true) rfl rfl ?_
          try simp only [Act.put, List.setIfInBounds_toArray, List.set_cons_zero, List.set_cons_succ]
          refine wpAnyH_done (by kernel_rfl) ?_ _
          have RN : Hid (RR = []) := by show _ = _; rw [← HRR.out]; exact in_nil (se_nil2 HJL.out BF.out)
          clear HRR
          go_wp2
          go_ret
          exact ⟨_, rfl, by rw [RN.out]; exact row_weak (Row.keep E3.out ⟨rfl, rfl, rfl, Nat.le_refl _, fun _ _ => rfl⟩) (by omega), C3.out.drew⟩
  case rest =>
    clear f1 f3 f4 hsr EON
    obtain ⟨hR, hB, hor⟩ := hcut
    rename World => w4
    obtain ⟨vc, hvc⟩ : ∃ v, v = u7 := ⟨_, rfl⟩
    rw [← hvc] at hR ⊢
    clear hvc
    have R4 := Seg.hid hR
    have B4 := Seg.hid hB
    have C4 := Seg.hid (chain B2.out hB)
    have T4 := Seg.hid ((hB.block _ (Array.getElem?_eq_some_iff.1 T2.out).1).trans T2.out)
    have E4 := Seg.hid (Row.keep E2.out hB)
    have z4 := hB.size
    have RE : Hid (RR = if endB q CC = true then CC else []) := by show _ = _; rw [← HRR.out, ← HCC.out]; exact in_end HQ.out HL.out SB.out hor
    have LC : Hid (CC.length ≤ 24) := by
      show _ ≤ _
      have hs1 := (ok_cols SOK.out).2
      rw [← HCC.out]
      unfold CCq
      split
      · rw [SR.out]; omega
      · next ho =>
        have hb1 := (hor.resolve_left ho).1
        have s2 : srcOk (bsR q l) = true := bs_ok HL.out hb1
        have h2 := (ok_cols s2).2
        have h3 := jn_len q.on (srcR l q.fr).cols (bsR q l).cols (bsR q l).cols.length
        rw [List.take_length] at h3
        rw [SR.out] at h3 ⊢
        omega
    have EB : Hid (endB q CC = (diff CC && (decide (CC.length ≤ 12) && (sees q.wh CC && (q.gps.all (hasT CC) && q.gets.all (fun g => sees g.steps CC)))))) := rfl
    clear hR hB hor HRR HCC SR SB SOK EO R3 B3 C3 T3 E3 z3
    have lc := LC.out
    go_upto_region 17 with fail
    go_wp2_with fail
    refine (QyS.diff_any vc CC w4 _ (Row.lat R4.out (by omega)) (fun y hy => hy.2)).mono ?_
    rintro e w5 ⟨rfl, b5⟩
    have B5 := Seg.hid (chain C4.out b5)
    have T5 := Seg.hid ((b5.block _ (Array.getElem?_eq_some_iff.1 T4.out).1).trans T4.out)
    have E5 := Seg.hid (Row.keep E4.out b5)
    have R5 := Seg.hid (Row.keep R4.out b5)
    have z5 := b5.size
    clear b5 R4 T4 E4
    obtain ⟨-, -, -, -, -, p5, p6, -, -, -, p10⟩ := qcells T5.out
    obtain ⟨A9, c9, rfl⟩ := row_form R5.out
    have CSW : Hid (Calls Try.prog 54 #[.slice A5 q.wh.length c5, .slice A9 CC.length c9] w5 fun e w' => e = .returned (.bool (sees q.wh CC)) ∧ w5 = w') := QuS.sees_any _ _ q.wh CC w5 (fun y => y < w5.heap.size) (LAt.mono growsStp (LAt.below keepsStp H5.out B5.out hS) (fun y hy => Nat.lt_of_lt_of_le (hS y hy) B5.out.size)) (LAt.mono growsStr (Row.lat R5.out (by omega)) (fun y hy => hy.2)) (fun y hy => hy)
    have CHG : Hid (∀ m, Calls Try.prog 64 #[.slice A9 CC.length c9, .string m] w5 fun e w' => e = .returned (.bool (hasT CC m)) ∧ w5 = w') := fun m => QyS.has_any _ CC m w5 _ (Row.lat R5.out (by omega)) (fun y hy => hy.2)
    cases kd : diff CC with
    | false =>
      have RN : Hid (RR = []) := by show _ = _; rw [RE.out, EB.out, kd]; rfl
      clear kd RE EB
      go_wp2
      go_ret
      exact ⟨_, rfl, by rw [RN.out]; exact row_weak E5.out (by omega), B5.out⟩
    | true =>
    by_cases h12 : 12 < CC.length
    · have i12 : (12 : Int) < (CC.length : Int) := by omega
      have RN : Hid (RR = []) := by show _ = _; rw [RE.out, EB.out, decide_eq_false (show ¬ CC.length ≤ 12 by omega)]; simp
      clear kd RE EB
      go_wp2
      go_ret
      exact ⟨_, rfl, by rw [RN.out]; exact row_weak E5.out (by omega), B5.out⟩
    have i12 : ¬ (12 : Int) < (CC.length : Int) := by omega
    have EB2 : Hid (endB q CC = (sees q.wh CC && (q.gps.all (hasT CC) && q.gets.all (fun g => sees g.steps CC)))) := by show _ = _; rw [EB.out, kd, decide_eq_true (show CC.length ≤ 12 by omega)]; rfl
    clear EB kd
    cases ks : sees q.wh CC with
    | false =>
      have RN : Hid (RR = []) := by show _ = _; rw [RE.out, EB2.out, ks]; rfl
      rw [ks] at CSW
      clear ks RE EB2
      go_wp2_with (first | (go_at_call 54; refine CSW.out.mono ?_; rintro e w6 ⟨rfl, rfl⟩))
      go_ret
      exact ⟨_, rfl, by rw [RN.out]; exact row_weak E5.out (by omega), B5.out⟩
    | true =>
    have EB3 : Hid (endB q CC = (q.gps.all (hasT CC) && q.gets.all (fun g => sees g.steps CC))) := by show _ = _; rw [EB2.out, ks]; rfl
    rw [ks] at CSW
    clear EB2 ks
    have GQ := Seg.hid (LAt.below keepsStr H6.out B5.out hS)
    obtain ⟨A7, c7, g7, o7, F7, e7, OP7, hn7⟩ := opn GQ.out (fun y hy => Nat.lt_of_lt_of_le (hS y hy) B5.out.size)
    cases e7
    have HO7 := Seg.hid OP7
    clear OP7
    go_wp2_with (first | (go_at_call 54; refine CSW.out.mono ?_; rintro e w6 ⟨rfl, rfl⟩))
    go_loop [10] (fun i => ∃ k : Nat, k ≤ q.gps.length ∧ i = .int .i64 k ∧ Hid ((q.gps.take k).all (hasT CC) = true)) (fun i => q.gps.length - (intOf i).toNat)
    case atStart => exact ⟨0, Nat.zero_le _, rfl, by show _ = _; simp⟩
    case round =>
    obtain ⟨k5, hk5, rfl, HG⟩ := hrel
    by_cases hlt : k5 < q.gps.length
    · obtain ⟨ea, hc, hgw7⟩ := HO7.out.addr.resolve_left (by omega)
      subst ea
      have d0 := strs_cell HO7.out rfl hlt
      have h0' : (0 : Int) ≤ (k5 : Int) := by omega
      have h1' : (k5 : Int) < (q.gps.length : Int) := by omega
      have NX := Seg.hid (all_next (hasT CC) q.gps k5 hlt HG.out)
      have BX := Seg.hid (all_bad (hasT CC) q.gps k5 hlt)
      generalize q.gps.getD k5 default = nk at *
      have CM : Hid (Calls Try.prog 64 #[.slice A9 CC.length c9, .string nk] w5 fun e w' => e = .returned (.bool (hasT CC nk)) ∧ w5 = w') := CHG.out nk
      cases hy : hasT CC nk with
      | true =>
        have NY := Seg.hid (NX.out hy)
        rw [hy] at CM
        clear hy NX BX
        go_wp2_with (go_at_call 64; refine CM.out.mono ?_; rintro e w6 ⟨rfl, rfl⟩)
        go_round
        case rel => exact ⟨k5 + 1, by omega, by go_num, NY.out⟩
        case measure => simp [intOf]; omega
      | false =>
        have RN : Hid (RR = []) := by show _ = _; rw [RE.out, EB3.out, BX.out hy]; rfl
        rw [hy] at CM
        clear hy NX BX RE EB3
        go_wp2_with (go_at_call 64; refine CM.out.mono ?_; rintro e w6 ⟨rfl, rfl⟩)
        go_ret
        exact ⟨_, rfl, by rw [RN.out]; exact row_weak E5.out (by omega), B5.out⟩
    have hkl : k5 = q.gps.length := by omega
    have EB4 : Hid (endB q CC = q.gets.all (fun g => sees g.steps CC)) := by show _ = _; have := HG.out; rw [hkl, List.take_length] at this; rw [EB3.out, this]; rfl
    have hx1 : ¬ (k5 : Int) < (q.gps.length : Int) := by omega
    clear hkl HG hlt EB3
    have GT := Seg.hid (LAt.below keepsGqt H10.out B5.out hS)
    obtain ⟨A8, c8, g8, o8, F8, e8, OP8, hn8⟩ := opn GT.out (fun y hy => Nat.lt_of_lt_of_le (hS y hy) B5.out.size)
    cases e8
    have HO8 := Seg.hid OP8
    clear OP8
    go_wp2
    go_loop [11] (fun i => ∃ k : Nat, k ≤ q.gets.length ∧ i = .int .i64 k ∧ Hid ((q.gets.take k).all (fun g => sees g.steps CC) = true)) (fun i => q.gets.length - (intOf i).toNat)
    case atStart => exact ⟨0, Nat.zero_le _, rfl, by show _ = _; simp⟩
    case round =>
    obtain ⟨k6, hk6, rfl, HG⟩ := hrel
    by_cases hlt : k6 < q.gets.length
    · obtain ⟨ea, hc, hgw8⟩ := HO8.out.addr.resolve_left (by omega)
      subst ea
      obtain ⟨A11, c11, hcl, d0, d1, d2⟩ := gqt_at HO8.out (fun y hy => Nat.lt_of_lt_of_le (hS y hy) B5.out.size) (Below.refl _ _) hlt
      have h0' : (0 : Int) ≤ (k6 : Int) := by omega
      have h1' : (k6 : Int) < (q.gets.length : Int) := by omega
      have NX := Seg.hid (all_next (fun g => sees g.steps CC) q.gets k6 hlt HG.out)
      have BX := Seg.hid (all_bad (fun g => sees g.steps CC) q.gets k6 hlt)
      generalize q.gets.getD k6 default = g9 at *
      have CM : Hid (Calls Try.prog 54 #[.slice A11 g9.steps.length c11, .slice A9 CC.length c9] w5 fun e w' => e = .returned (.bool (sees g9.steps CC)) ∧ w5 = w') := QuS.sees_any _ _ g9.steps CC w5 (fun y => y < w5.heap.size) (LAt.mono growsStp hcl (fun y hy => Nat.lt_of_lt_of_le (hS y hy) B5.out.size)) (LAt.mono growsStr (Row.lat R5.out (by omega)) (fun y hy => hy.2)) (fun y hy => hy)
      cases hy : sees g9.steps CC with
      | true =>
        have NY := Seg.hid (NX.out hy)
        rw [hy] at CM
        clear hy NX BX hcl
        go_wp2_with (go_at_call 54; refine CM.out.mono ?_; rintro e w6 ⟨rfl, rfl⟩)
        go_round
        case rel => exact ⟨k6 + 1, by omega, by go_num, NY.out⟩
        case measure => simp [intOf]; omega
      | false =>
        have RN : Hid (RR = []) := by show _ = _; rw [RE.out, EB4.out, BX.out hy]; rfl
        rw [hy] at CM
        clear hy NX BX hcl RE EB4
        go_wp2_with (go_at_call 54; refine CM.out.mono ?_; rintro e w6 ⟨rfl, rfl⟩)
        go_ret
        exact ⟨_, rfl, by rw [RN.out]; exact row_weak E5.out (by omega), B5.out⟩
    have hkl : k6 = q.gets.length := by omega
    have RN : Hid (RR = CC) := by show _ = _; have := HG.out; rw [hkl, List.take_length] at this; rw [RE.out, EB4.out, this]; rfl
    have hx2 : ¬ (k6 : Int) < (q.gets.length : Int) := by omega
    clear hkl HG hlt EB4 RE
    go_wp2
    go_ret
    exact ⟨_, rfl, by rw [RN.out]; exact row_weak R5.out (by have := B2.out.size; omega), B5.out⟩
end Go.Proofs.Ytboooabjeidmfaa.IsS
