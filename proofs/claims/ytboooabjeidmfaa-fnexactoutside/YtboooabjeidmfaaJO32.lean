/- The program's Inside; The program's Outside. -/
import Derived.Deep.Cut
import Derived.Deep.CutRange
import Derived.Test.YtboooabjeidmfaaJO25
import Derived.Test.YtboooabjeidmfaaJO26
import Derived.Test.YtboooabjeidmfaaJO31
import Derived.Test.YtboooabjeidmfaaJO19
import Derived.Test.YtboooabjeidmfaaJO12
import Derived.Test.YtboooabjeidmfaaJO21
namespace Go.Proofs.Ytboooabjeidmfaa.IsI
set_option maxRecDepth 8000
open Go.RowKit
open Ls Lp QyP QsP QtP QuP YcP YsP YtP QsI XqP YtI YvP YzP
open Recs (hsz below1 below2 below3 chain)
set_option linter.unusedVariables false
theorem jn_few {on : ByteArray} {a b : List ByteArray} (ha : a.length ≤ 12) (hb : b.length ≤ 12) : (jnL on a b).length ≤ 24 := by
  have := jn_len on a b b.length
  rw [List.take_length] at this
  omega
theorem se_few {q : Qry} {l : List Src} (hl : srcsOk l = true) : (seR q l).length ≤ 24 := by
  unfold seR
  split
  · next h =>
    have h1 := (ok_cols (b_ok hl h)).2
    split
    · omega
    · split
      · next h3 =>
        have h2 := (ok_cols (YxI.bs_ok hl h3)).2
        unfold jnR
        split
        · exact jn_few h1 h2
        · simp
      · simp
  · simp
theorem in_few (q : Qry) (l : List Src) : (inside q l).length ≤ 24 := by
  unfold inside
  split
  · next h =>
    simp only [Bool.and_eq_true] at h
    split
    · exact se_few h.2
    · simp
  · simp
theorem colsQ_len {q : Qry} (hq : qOk q = true) : (colsQ q).length ≤ 1048576 := by
  obtain ⟨l5, l6, l10, lg⟩ := q_len hq
  have h1 := gc_take lg l10 q.gets.length
  rw [List.take_length] at h1
  have h2 := colsL_len q.wh
  rw [cols_q, List.length_append, List.length_append]
  omega
set_option maxHeartbeats 12800000 in
theorem impl_any (x v : Value) (q : Qry) (l : List Src) (w : World) (S : Nat → Prop) (hx : QryAt w S x q) (hv : LAt 3 ESrc w S v l) (hS : ∀ g, S g → g < w.heap.size) (hz : szQry q ≤ 1048576) (hf : szL szSrc l ≤ 1048576) :
    Calls Try.prog 29 #[x, v] w fun e w' => ∃ v', e = .returned v' ∧ Row w' w.heap.size v' (inside q l) ∧ Below w.heap.size w w' := by
  have HX := Seg.hid hx
  obtain ⟨A5, c5, A6, c6, A10, c10, rfl, hl5, hl6, hl10⟩ := qform hx
  have H5 := Seg.hid hl5
  have H6 := Seg.hid hl6
  have H10 := Seg.hid hl10
  have HV := Seg.hid hv
  obtain ⟨A0, c0, rfl⟩ := hv.form
  clear hv hx hl5 hl6 hl10
  have CQ : Hid (∀ wx, Below w.heap.size w wx → Calls Try.prog 16 #[.agg (qrow q A5 c5 A6 c6 A10 c10)] wx fun e w' => e = .returned (.bool (qOk q)) ∧ Below wx.heap.size wx w') := fun wx b => XqI.impl_any _ q wx S (HX.out.below b hS) (fun y hy => Nat.lt_of_lt_of_le (hS y hy) b.size) hz
  have CS : Hid (∀ wx, Below w.heap.size w wx → Calls Try.prog 11 #[.slice A0 l.length c0] wx fun e w' => e = .returned (.bool (srcsOk l)) ∧ Below wx.heap.size wx w') := fun wx b => QsI.impl_any _ l wx S (LAt.below keepsSrc HV.out b hS) (fun y hy => Nat.lt_of_lt_of_le (hS y hy) b.size) hf
  have CE : Hid (srcsOk l = true → ∀ wx, Below w.heap.size w wx → Calls Try.prog 65 #[.agg (qrow q A5 c5 A6 c6 A10 c10), .slice A0 l.length c0] wx fun e w' => ∃ v', e = .returned (.tuple #[v', .bool (seB q l)]) ∧ Row w' wx.heap.size v' (seR q l) ∧ Below wx.heap.size wx w') := fun h wx b => YxI.sees_any q A5 c5 A6 c6 A10 c10 _ l wx S (LAt.below keepsSrc HV.out b hS) (fun y hy => Nat.lt_of_lt_of_le (hS y hy) b.size) h
  have CC : Hid (qOk q = true → ∀ wx, Below w.heap.size w wx → Calls Try.prog 66 #[.agg (qrow q A5 c5 A6 c6 A10 c10)] wx fun e w' => ∃ v', e = .returned v' ∧ Row w' wx.heap.size v' (colsQ q) ∧ Below wx.heap.size wx w') := fun h wx b => YzI.cols_any q A5 c5 A6 c6 A10 c10 wx S (LAt.below keepsStp H5.out b hS) (LAt.below keepsStr H6.out b hS) (LAt.below keepsGqt H10.out b hS) (fun y hy => Nat.lt_of_lt_of_le (hS y hy) b.size) h
  obtain ⟨W0, hW0⟩ : ∃ W0, w.alloc (.cells (qrow q A5 c5 A6 c6 A10 c10) 39 (0, 0)) = W0 := ⟨_, rfl⟩
  have T0 : Hid (W0.heap[w.heap.size]? = some (.cells (qrow q A5 c5 A6 c6 A10 c10) 39 (0, 0))) := by show _ = _; rw [← hW0]; exact heap_alloc_new _ _
  have N0 : Hid (Below w.heap.size w W0) := by show Below _ _ _; rw [← hW0]; exact below1 _ _
  obtain ⟨p0, p1, p2, p3, p4, p5, p6, p7, p8, p9, p10⟩ := qcells T0.out
  obtain ⟨RR, hRR⟩ : ∃ R, inside q l = R := ⟨_, rfl⟩
  rw [hRR]
  unfold inside at hRR
  have FW : Hid (srcsOk l = true → (seR q l).length ≤ 24) := se_few
  have FC : Hid (qOk q = true → (colsQ q).length ≤ 1048576) := colsQ_len
  obtain ⟨K1, hK1⟩ : ∃ K, qOk q = K := ⟨_, rfl⟩
  obtain ⟨K2, hK2⟩ : ∃ K, srcsOk l = K := ⟨_, rfl⟩
  obtain ⟨K3, hK3⟩ : ∃ K, seB q l = K := ⟨_, rfl⟩
  obtain ⟨SR, hSR⟩ : ∃ K, seR q l = K := ⟨_, rfl⟩
  obtain ⟨CL, hCL⟩ : ∃ K, colsQ q = K := ⟨_, rfl⟩
  rw [hK1] at CQ CC FC hRR
  rw [hK2] at CS CE FW hRR
  rw [hK3] at CE hRR
  rw [hSR] at CE FW hRR
  rw [hCL] at CC FC hRR
  have HRR := Seg.hid hRR
  clear hRR hK1 hK2 hK3 hSR hCL hz hf
  go_enter Try.func29, Try.ntmps29
  go_wp2_with fail
  refine (CQ.out _ N0.out).mono ?_
  rintro e w1 ⟨rfl, b1⟩
  have B1 := Seg.hid (chain N0.out b1)
  have T1 := Seg.hid ((b1.block _ (Array.getElem?_eq_some_iff.1 T0.out).1).trans T0.out)
  clear b1 p0 p1 p2 p3 p4 p5 p6 p7 p8 p9 p10 hW0
  cases K1 with
  | false =>
    have RN : Hid (RR = []) := by show _ = _; rw [← HRR.out]; rfl
    go_wp2
    go_ret
    exact ⟨_, rfl, by rw [RN.out]; exact row_weak (empty_row w1) B1.out.size, chain B1.out (below1 _ _)⟩
  | true =>
  go_wp2_with fail
  refine (CS.out _ B1.out).mono ?_
  rintro e w2 ⟨rfl, b2⟩
  have B2 := Seg.hid (chain B1.out b2)
  have T2 := Seg.hid ((b2.block _ (Array.getElem?_eq_some_iff.1 T1.out).1).trans T1.out)
  clear b2
  obtain ⟨q0, q1, q2, q3, q4, q5, q6, q7, q8, q9, q10⟩ := qcells T2.out
  cases K2 with
  | false =>
    have RN : Hid (RR = []) := by show _ = _; rw [← HRR.out]; rfl
    go_wp2
    go_ret
    exact ⟨_, rfl, by rw [RN.out]; exact row_weak (empty_row w2) B2.out.size, chain B2.out (below1 _ _)⟩
  | true =>
  have CE2 := Seg.hid (CE.out (by first | rfl | trivial))
  have CC2 := Seg.hid (CC.out (by first | rfl | trivial))
  have fw := FW.out (by first | rfl | trivial)
  have fc := FC.out (by first | rfl | trivial)
  clear CE CC FW FC
  go_wp2_with fail
  refine (CE2.out _ B2.out).mono ?_
  rintro e w3 ⟨v3, rfl, r3, b3⟩
  have R3 := Seg.hid r3
  have B3 := Seg.hid (chain B2.out b3)
  have T3 := Seg.hid ((b3.block _ (Array.getElem?_eq_some_iff.1 T2.out).1).trans T2.out)
  clear b3 r3 q0 q1 q2 q3 q4 q5 q6 q7 q8 q9 q10
  obtain ⟨q0, q1, q2, q3, q4, q5, q6, q7, q8, q9, q10⟩ := qcells T3.out
  cases K3 with
  | false =>
    have RN : Hid (RR = []) := by show _ = _; rw [← HRR.out]; simp
    go_wp2
    go_ret
    exact ⟨_, rfl, by rw [RN.out]; exact row_weak (empty_row w3) B3.out.size, chain B3.out (below1 _ _)⟩
  | true =>
  go_wp2_with fail
  refine (CC2.out _ B3.out).mono ?_
  rintro e w4 ⟨v4, rfl, r4, b4⟩
  have CA : Hid (Calls Try.prog 58 #[v3, v4] w4 fun e w' => e = .returned (.bool (allT SR CL)) ∧ w4 = w') := YcI.all_any v3 v4 SR CL w4 _ _ (Row.lat (Row.keep R3.out b4) (by omega)) (Row.lat r4 fc) (fun y hy => hy.2) (fun y hy => hy.2)
  have R4 := Seg.hid (Row.keep R3.out b4)
  have B4 := Seg.hid (chain B3.out b4)
  clear b4 r4 q0 q1 q2 q3 q4 q5 q6 q7 q8 q9 q10
  go_wp2_with fail
  refine CA.out.mono ?_
  rintro e w5 ⟨rfl, rfl⟩
  cases hA : allT SR CL with
  | false =>
    have RN : Hid (RR = []) := by show _ = _; rw [← HRR.out, hA]; rfl
    clear hA
    go_wp2
    go_ret
    exact ⟨_, rfl, by rw [RN.out]; exact row_weak (empty_row w4) B4.out.size, chain B4.out (below1 _ _)⟩
  | true =>
    have RN : Hid (RR = SR) := by show _ = _; rw [← HRR.out, hA]; rfl
    clear hA
    go_wp2
    go_ret
    exact ⟨_, rfl, by rw [RN.out]; exact row_weak R4.out B2.out.size, B4.out⟩
end Go.Proofs.Ytboooabjeidmfaa.IsI
namespace Go.Proofs.Ytboooabjeidmfaa.OuI
set_option maxRecDepth 8000
open Go.RowKit
open Ls Lp QyP QsP QtP QuP YcP YsP YtP QsI XqP YtI YvP YzP OuP HsP HsM
open Recs (hsz below1 below2 below3 chain)
set_option linter.unusedVariables false
theorem row_form {w : World} {B : Nat} {v : Value} {ns : List ByteArray} (h : Row w B v ns) : ∃ A c, v = .slice A ns.length c := by
  rcases h.2 with ⟨h1, h2⟩ | ⟨g, cap, cur, h1, -⟩
  · exact ⟨none, 0, by rw [h1, h2]⟩
  · exact ⟨_, cap, h1⟩
theorem row_put2 {w : World} {B : Nat} {v : Value} {ns : List ByteArray} {a b : ByteArray} (h : w.ownsRow B 9 1 v (ns.length + 2) (ns.map Value.string ++ [Value.string a, Value.string b])) : Row w B v (ns ++ [a, b]) := by
  unfold Row
  rw [List.length_append, List.map_append]
  exact h
structure Os (w1 wr : World) (q : Qry) (k : Nat) (v : Value) : Prop where
  le : k ≤ q.gets.length
  row : Row wr w1.heap.size v (headL q ++ (q.gets.take k).map Gqt.nm)
  bel : Below w1.heap.size w1 wr
set_option maxHeartbeats 12800000 in
theorem impl_any (x v : Value) (q : Qry) (l : List Src) (w : World) (S : Nat → Prop) (hx : QryAt w S x q) (hv : LAt 3 ESrc w S v l) (hS : ∀ g, S g → g < w.heap.size) (hz : szQry q ≤ 1048576) (hf : szL szSrc l ≤ 1048576) :
    Calls Try.prog 35 #[x, v] w fun e w' => ∃ v', e = .returned v' ∧ Row w' w.heap.size v' (outside q l) ∧ Below w.heap.size w w' := by
  have HX := Seg.hid hx
  obtain ⟨A5, c5, A6, c6, A10, c10, rfl, hl5, hl6, hl10⟩ := qform hx
  have H6 := Seg.hid hl6
  have H10 := Seg.hid hl10
  have HV := Seg.hid hv
  obtain ⟨A0, c0, rfl⟩ := hv.form
  clear hv hx hl5 hl6 hl10
  have CI : Hid (∀ wx, Below w.heap.size w wx → Calls Try.prog 29 #[.agg (qrow q A5 c5 A6 c6 A10 c10), .slice A0 l.length c0] wx fun e w' => ∃ v', e = .returned v' ∧ Row w' wx.heap.size v' (inside q l) ∧ Below wx.heap.size wx w') := fun wx b => IsI.impl_any _ _ q l wx S (HX.out.below b hS) (LAt.below keepsSrc HV.out b hS) (fun y hy => Nat.lt_of_lt_of_le (hS y hy) b.size) hz hf
  have MZ := Seg.hid (mem_sz hz)
  have QK : Hid (¬ (inside q l).length = 0 → qOk q = true) := in_ok
  have OL : Hid (qOk q = true → (outL q).length ≤ 22) := out_len
  obtain ⟨i0, hi, hz0, hz1, hz2⟩ := info_parts infoStr
  obtain ⟨RR, hRR⟩ : ∃ R, outside q l = R := ⟨_, rfl⟩
  rw [hRR]
  unfold outside at hRR
  obtain ⟨IN, hIN⟩ : ∃ L, inside q l = L := ⟨_, rfl⟩
  rw [hIN] at CI QK hRR
  have HRR := Seg.hid hRR
  clear hRR hz hf hIN
  obtain ⟨W0, hW0⟩ : ∃ W0, w.alloc (.cells (qrow q A5 c5 A6 c6 A10 c10) 39 (0, 0)) = W0 := ⟨_, rfl⟩
  have T0 : Hid (W0.heap[w.heap.size]? = some (.cells (qrow q A5 c5 A6 c6 A10 c10) 39 (0, 0))) := by show _ = _; rw [← hW0]; exact heap_alloc_new _ _
  have N0 : Hid (Below w.heap.size w W0) := by show Below _ _ _; rw [← hW0]; exact below1 _ _
  obtain ⟨p0, p1, p2, p3, p4, p5, p6, p7, p8, p9, p10⟩ := qcells T0.out
  have hmm := @run_makeMap Try.prog
  go_enter Try.func35, Try.ntmps35
  go_wp2_with fail
  refine (CI.out _ N0.out).mono ?_
  rintro e w1 ⟨v1, rfl, r1, b1⟩
  obtain ⟨A1, c1, rfl⟩ := row_form r1
  have B1 := Seg.hid (chain N0.out b1)
  have T1 := Seg.hid ((b1.block _ (Array.getElem?_eq_some_iff.1 T0.out).1).trans T0.out)
  clear b1 r1 hW0 p0 p1 p2 p3 p4 p5 p6 p7 p8 p9 p10
  obtain ⟨q0, q1, q2, q3, q4, q5, q6, q7, q8, q9, q10⟩ := qcells T1.out
  by_cases h0 : IN.length = 0
  · have RN : Hid (RR = []) := by show _ = _; rw [← HRR.out, if_pos h0]
    have b0 : ((IN.length : Int) == 0) = true := by simpa using h0
    clear h0
    go_wp2
    go_ret
    exact ⟨_, rfl, by rw [RN.out]; exact row_weak (empty_row w1) B1.out.size, chain B1.out (below1 _ _)⟩
  have HQ := Seg.hid (QK.out h0)
  have RM : Hid (RR = if diff (outL q) = true then outL q else []) := by show _ = _; rw [← HRR.out, if_neg h0]
  have b0 : ((IN.length : Int) == 0) = false := by simpa using h0
  clear h0 HRR QK
  have ol := OL.out HQ.out
  have hl14 := head_len HQ.out
  have g8 := (q_len HQ.out).2.2.1
  have g12 := (q_len HQ.out).2.1
  clear OL
  have hs1 : w.heap.size < w1.heap.size := (Array.getElem?_eq_some_iff.1 T1.out).1
  have CL : Hid (Calls Try.prog 70 #[.slice A6 q.gps.length c6] w1 fun e w' => ∃ v, e = .returned v ∧ Row w' w1.heap.size v q.gps ∧ Below w1.heap.size w1 w') := clone_any A6 c6 q.gps w1 S (LAt.below keepsStr H6.out B1.out hS) (fun y hy => Nat.lt_of_lt_of_le (hS y hy) B1.out.size) (by omega)
  go_upto_region 4 with (first | (go_at_call 70; refine CL.out.mono ?_; rintro e w2 ⟨v2, rfl, r2, b2⟩; have R2 := Seg.hid r2; have B2 := Seg.hid b2; clear r2 b2))
  clear q0 q1 q2 q3 q4 q5 q6 q7 q8 q9 q10
  have T2 := Seg.hid ((B2.out.block _ hs1).trans T1.out)
  obtain ⟨q0, q1, q2, q3, q4, q5, q6, q7, q8, q9, q10⟩ := qcells T2.out
  clear q0 q1 q2 q3 q4 q5 q6 q8 q9 q10
  go_upto_if 19 with fail
  go_cut [5] from 19 to 22 (fun v wx => Row wx w1.heap.size v (headL q) ∧ Below w1.heap.size w1 wx)
  case first =>
    by_cases hw : q.win = 0
    · have bw : (q.win != 0) = false := by simpa using hw
      have RC : Hid (headL q = q.gps) := by show _ = _; rw [headL, if_pos hw]
      clear hw
      go_wp2
      go_meet
      exact ⟨by rw [RC.out]; exact R2.out, B2.out⟩
    · have bw : (q.win != 0) = true := by simpa using hw
      have RC : Hid (headL q = q.gps ++ [sT, eT]) := by show _ = _; rw [headL, if_neg hw]
      clear hw
      have OW : Hid (∀ ob, (w2.alloc ob).ownsRow w1.heap.size 9 1 v2 q.gps.length (q.gps.map Value.string)) := fun ob => Row.keep R2.out (below1 w2 ob)
      have s2 := B2.out.size
      go_wp2_with (at_builtin; (refine wpList_append_lies _ rfl _ _ 30 rfl w1.heap.size 9 i0 _ 1 16 Try.underlying30 hi hz0 hz1 hz2 rfl (by decide) v2 q.gps.length (q.gps.map Value.string) rfl (OW.out _) ⟨w2.heap.size, 0, none⟩ 2 2 [.string sT, .string eT] rfl rfl (World.news_of_block (cs := #[.string sT, .string eT]) (heap_alloc_new _ _)) (by simp [Value.oneCell']) (by decide) (by unfold maxLen; omega) (by omega) (by rw [hsz]; omega) (w2.heap.size + 1) (by rw [hsz]) ?_; intro g9 cap9 w9 hown9 gr9 hat9 hlt9; have RN := Seg.hid (row_put2 hown9); have B9 : Hid (Below w1.heap.size w1 w9) := (B2.out.alloc s2 _).grown gr9 (by rw [hsz]; omega) (fun y hy => (World.ownsRow.lt R2.out y hy).1); clear hown9 gr9 hat9 hlt9))
      go_meet
      exact ⟨by rw [RC.out]; exact RN.out, B9.out⟩
  case rest =>
  obtain ⟨hR, hB⟩ := hcut
  rename World => w3
  obtain ⟨vc, hvc⟩ : ∃ v, v = u5 := ⟨_, rfl⟩
  rw [← hvc] at hR ⊢
  clear hvc q7
  have R3 := Seg.hid hR
  have B3 := Seg.hid hB
  have T3 := Seg.hid ((hB.block _ hs1).trans T1.out)
  clear hR hB R2 B2 T2
  obtain ⟨q0, q1, q2, q3, q4, q5, q6, q7, q8, q9, q10⟩ := qcells T3.out
  clear q0 q1 q2 q3 q4 q5 q6 q7 q8 q9
  obtain ⟨A9, c9, g, o, F, e9, OP, hn⟩ := opn H10.out hS
  cases e9
  have HO := Seg.hid OP
  clear OP
  go_wp2
  go_loopw [5, 26] (fun v i wr => ∃ k : Nat, i = .int .i64 k ∧ Os w1 wr q k v) (fun _ i _ => q.gets.length - (intOf i).toNat)
  case atStart => exact ⟨0, rfl, Nat.zero_le _, by have := R3.out; simpa using this, B3.out⟩
  case round =>
    clear R3 B3 T3 q10
    obtain ⟨k, rfl, SS⟩ := hrel
    obtain ⟨v, hv3⟩ : ∃ v, v = u5 := ⟨_, rfl⟩
    rw [← hv3] at SS ⊢
    clear hv3
    have hk := SS.le
    have BW := Seg.hid SS.bel
    have RW := Seg.hid SS.row
    clear SS
    have CW := Seg.hid (chain B1.out BW.out)
    have TW := Seg.hid ((BW.out.block _ hs1).trans T1.out)
    have p10 : wr.cell? ⟨w.heap.size, 10, none⟩ = some (.slice A10 q.gets.length c10) := (qcells TW.out).2.2.2.2.2.2.2.2.2.2
    by_cases hlt : k < q.gets.length
    · obtain ⟨ea, hc, hgw⟩ := HO.out.addr.resolve_left (by omega)
      subst ea
      obtain ⟨A', c', hcl, d0, d1, d2⟩ := gqt_at HO.out hS CW.out hlt
      have h0 : (0 : Int) ≤ (k : Int) := by omega
      have h1 : (k : Int) < (q.gets.length : Int) := by omega
      have NN := Seg.hid (nm_next hlt)
      have NL : Hid ((headL q ++ (q.gets.take k).map Gqt.nm).length ≤ 22) := by show _ ≤ _; rw [List.length_append, List.length_map, List.length_take]; omega
      clear hcl
      obtain ⟨PL, hPL⟩ : ∃ L, headL q ++ (q.gets.take k).map Gqt.nm = L := ⟨_, rfl⟩
      rw [hPL] at RW NL
      have HPL := Seg.hid hPL
      clear hPL
      generalize q.gets.getD k default = g1 at *
      have nl := NL.out
      have sw := BW.out.size
      obtain ⟨w5, hw5⟩ : ∃ w5, wr.alloc (.cells #[.int .i64 g1.kind, .slice A' g1.steps.length c', .string g1.nm] 74 (0, 0)) = w5 := ⟨_, rfl⟩
      have T5 : Hid (w5.heap[wr.heap.size]? = some (.cells #[.int .i64 g1.kind, .slice A' g1.steps.length c', .string g1.nm] 74 (0, 0))) := by show _ = _; rw [← hw5]; exact heap_alloc_new _ _
      have N5 : Hid (Below wr.heap.size wr w5) := by show Below _ _ _; rw [← hw5]; exact below1 _ _
      have s5 := N5.out.size
      go_upto_region 9 with fail
      try rw [hw5]
      clear hw5 d0 d1 d2
      obtain ⟨q0, q1, q2⟩ := gcells T5.out
      have OW : Hid (∀ ob, (w5.alloc ob).ownsRow w1.heap.size 9 1 v PL.length (PL.map Value.string)) := fun ob => Row.keep RW.out (chain N5.out (below1 w5 _))
      go_wp2_with (at_builtin; (refine wpList_append_lies _ rfl _ _ 30 rfl w1.heap.size 9 i0 _ 1 16 Try.underlying30 hi hz0 hz1 hz2 rfl (by decide) v PL.length (PL.map Value.string) rfl (OW.out _) ⟨w5.heap.size, 0, none⟩ 1 1 [.string g1.nm] rfl rfl (World.news_of_block (cs := #[.string g1.nm]) (heap_alloc_new _ _)) (by simp [Value.oneCell']) (by decide) (by unfold maxLen; omega) (by omega) (by rw [hsz]; omega) (w5.heap.size + 1) (by rw [hsz]) ?_; intro g9 cap9 w9 hown9 gr9 hat9 hlt9; have RN := Seg.hid (row_put hown9); have B9 : Hid (Below w1.heap.size w1 w9) := (chain BW.out (chain N5.out (below1 w5 _))).grown gr9 (by rw [hsz]; omega) (fun y hy => (World.ownsRow.lt RW.out y hy).1); clear hown9 gr9 hat9 hlt9))
      go_roundw
      case rel => exact ⟨k + 1, by go_num, by omega, by rw [NN.out, ← List.append_assoc, HPL.out]; exact RN.out, B9.out⟩
      case measure => simp [intOf]; omega
    · have hkl : k = q.gets.length := by omega
      have RL : Hid (Row wr w1.heap.size v (outL q)) := by
        have := RW.out
        rw [hkl, List.take_length] at this
        exact this
      have hx1 : ¬ (k : Int) < (q.gets.length : Int) := by omega
      clear hkl RW p10
      obtain ⟨A7, c7, rfl⟩ := row_form RL.out
      have hs3 := B1.out.size
      cases hd : diff (outL q) with
      | false =>
        have RN : Hid (RR = []) := by show _ = _; rw [RM.out, hd]; rfl
        have HD := Seg.hid hd
        clear hd
        go_wp2_with (first | (go_at_call 43; refine (add_any wr.heap.size 0 wr.heap.size _ (outL q) [] _ (seg w1.heap.size wr.heap.size) (Set.made wr) (Nat.le_refl _) (LAt.below keepsStr (Row.lat RL.out (by omega)) (below1 wr _) (fun g hg => hg.2)) (fun g hg => by rw [hsz]; have := hg.2; omega) (fun g hg => by have := hg.2; omega) (fun k hk => MZ.out _ (mem_getD hk)) (by omega)).mono ?_; rintro e w5 ⟨rfl, b5, -⟩; rw [dst_diff, HD.out]; have B5 : Hid (Below wr.heap.size wr w5) := (below1 wr _).trans b5; clear b5))
        go_ret
        exact ⟨_, rfl, by rw [RN.out]; exact row_weak (empty_row w5) (by have := CW.out.size; have := B5.out.size; omega), chain CW.out (chain B5.out (below1 _ _))⟩
      | true =>
        have RN : Hid (RR = outL q) := by show _ = _; rw [RM.out, hd]; rfl
        have HD := Seg.hid hd
        clear hd
        go_wp2_with (first | (go_at_call 43; refine (add_any wr.heap.size 0 wr.heap.size _ (outL q) [] _ (seg w1.heap.size wr.heap.size) (Set.made wr) (Nat.le_refl _) (LAt.below keepsStr (Row.lat RL.out (by omega)) (below1 wr _) (fun g hg => hg.2)) (fun g hg => by rw [hsz]; have := hg.2; omega) (fun g hg => by have := hg.2; omega) (fun k hk => MZ.out _ (mem_getD hk)) (by omega)).mono ?_; rintro e w5 ⟨rfl, b5, -⟩; rw [dst_diff, HD.out]; have B5 : Hid (Below wr.heap.size wr w5) := (below1 wr _).trans b5; clear b5))
        go_ret
        exact ⟨_, rfl, by rw [RN.out]; exact row_weak (Row.keep RL.out B5.out) hs3, chain CW.out B5.out⟩
end Go.Proofs.Ytboooabjeidmfaa.OuI
