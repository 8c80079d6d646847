/- The program's Query.sees. -/
import Derived.Test.YtboooabjeidmfaaJO23
import Derived.Test.YtboooabjeidmfaaJO24
namespace Go.Proofs.Ytboooabjeidmfaa.YxI
set_option maxRecDepth 8000
open Go.RowKit
open Ls Lp QyP QsP QtP QuP YcP YsP YtP QsI XqP YtI YvP YsI
open Recs (hsz below1 below2 below3 chain)
set_option linter.unusedVariables false
theorem bs_ok {q : Qry} {l : List Src} (hl : srcsOk l = true) (h : bsB q l = true) : srcOk (bsR q l) = true := by
  unfold bsB at h
  unfold bsR
  by_cases hj : em q.jn = true
  · rw [if_pos hj] at h ⊢
    simp only [Bool.and_eq_true] at h
    exact b_ok hl h.1
  · rw [if_neg hj] at h ⊢
    simp only [Bool.and_eq_true] at h
    exact b_ok hl h.1
set_option maxHeartbeats 12800000 in
theorem sees_any (q : Qry) (A5 : Option Addr) (c5 : Nat) (A6 : Option Addr) (c6 : Nat) (A10 : Option Addr) (c10 : Nat) (v : Value) (l : List Src) (w : World) (S : Nat → Prop) (hv : LAt 3 ESrc w S v l) (hS : ∀ g, S g → g < w.heap.size) (hl : srcsOk l = true) :
    Calls Try.prog 65 #[.agg (qrow q A5 c5 A6 c6 A10 c10), v] w fun e w' => ∃ v', e = .returned (.tuple #[v', .bool (seB q l)]) ∧ Row w' w.heap.size v' (seR q l) ∧ Below w.heap.size w w' := by
  have HV := Seg.hid hv
  have HL := Seg.hid hl
  obtain ⟨A0, c0, rfl⟩ := hv.form
  clear hv hl
  obtain ⟨W1, hW1⟩ : ∃ W1, w.alloc (.cells (qrow q A5 c5 A6 c6 A10 c10) 39 (0, 0)) = W1 := ⟨_, rfl⟩
  have N1 : Hid (Below w.heap.size w W1) := by show Below _ _ _; rw [← hW1]; exact below1 _ _
  have T1 : Hid (W1.heap[w.heap.size]? = some (.cells (qrow q A5 c5 A6 c6 A10 c10) 39 (0, 0))) := by show _ = _; rw [← hW1]; exact heap_alloc_new _ _
  have CS : Hid (∀ wx, Below w.heap.size w wx → Calls Try.prog 85 #[.slice A0 l.length c0, .string q.fr, .bool false] wx fun e w' => ∃ A c, e = .returned (.tuple #[sv (srcR l q.fr) A c, .bool (srcB l q.fr false)]) ∧ LAt 1 EStr w' S (.slice A (srcR l q.fr).cols.length c) (srcR l q.fr).cols ∧ Below wx.heap.size wx w') := fun wx b => src_any _ l q.fr false wx S (LAt.below keepsSrc HV.out b hS) (fun y hy => Nat.lt_of_lt_of_le (hS y hy) b.size)
  have CB : Hid (∀ wx, Below w.heap.size w wx → Calls Try.prog 86 #[.agg (qrow q A5 c5 A6 c6 A10 c10), .slice A0 l.length c0] wx fun e w' => ∃ A c, e = .returned (.tuple #[sv (bsR q l) A c, .bool (bsB q l)]) ∧ LAt 1 EStr w' S (.slice A (bsR q l).cols.length c) (bsR q l).cols ∧ Below wx.heap.size wx w') := fun wx b => YwI.be_any q A5 c5 A6 c6 A10 c10 _ l wx S (LAt.below keepsSrc HV.out b hS) (fun y hy => Nat.lt_of_lt_of_le (hS y hy) b.size) HL.out
  obtain ⟨p0, p1, p2, p3, p4, p5, p6, p7, p8, p9, p10⟩ := qcells T1.out
  obtain ⟨ej, hej⟩ : ∃ e, (q.jn.toList == []) = e := ⟨_, rfl⟩
  have EJ : Hid (em q.jn = ej) := hej
  obtain ⟨el, hel⟩ : ∃ e, (q.lk.toList == []) = e := ⟨_, rfl⟩
  have EL : Hid (em q.lk = el) := hel
  have OKS : Hid (srcB l q.fr false = true → srcOk (srcR l q.fr) = true) := fun h => b_ok HL.out h
  have OKB : Hid (bsB q l = true → srcOk (bsR q l) = true) := fun h => bs_ok HL.out h
  obtain ⟨RB, hRB⟩ : ∃ R, seB q l = R := ⟨_, rfl⟩
  obtain ⟨RR, hRR⟩ : ∃ R, seR q l = R := ⟨_, rfl⟩
  rw [hRB, hRR]
  unfold seB at hRB
  unfold seR at hRR
  rw [EJ.out, EL.out] at hRB hRR
  go_enter Try.func65, Try.ntmps65
  go_wp2_with fail
  refine (CS.out _ N1.out).mono ?_
  rintro e w2 ⟨A', c', rfl, hl2, b2⟩
  obtain ⟨s, hs⟩ : ∃ s, srcR l q.fr = s := ⟨_, rfl⟩
  rw [hs] at hl2 OKS hRB hRR ⊢
  obtain ⟨K, hK⟩ : ∃ K, srcB l q.fr false = K := ⟨_, rfl⟩
  rw [hK] at OKS hRB hRR ⊢
  have B2 := Seg.hid (chain N1.out b2)
  have Q2 := Seg.hid ((b2.block _ (Array.getElem?_eq_some_iff.1 T1.out).1).trans T1.out)
  have L2 := Seg.hid hl2
  have HRB := Seg.hid hRB
  have HRR := Seg.hid hRR
  have z2 : w.heap.size < w2.heap.size := (Array.getElem?_eq_some_iff.1 Q2.out).1
  clear hl2 b2 hs hK hRB hRR p0 p1 p2 p3 p4 p5 p6 p7 p8 p9 p10 hW1
  obtain ⟨w3, hw3⟩ : ∃ w3, w2.alloc (.cells #[.string s.name, .bool s.tab, .slice A' s.cols.length c'] 62 (0, 0)) = w3 := ⟨_, rfl⟩
  have T3 : Hid (w3.heap[w2.heap.size]? = some (.cells #[.string s.name, .bool s.tab, .slice A' s.cols.length c'] 62 (0, 0))) := by show _ = _; rw [← hw3]; exact heap_alloc_new _ _
  have N3 : Hid (Below w2.heap.size w2 w3) := by show Below _ _ _; rw [← hw3]; exact below1 _ _
  go_upto_region 2 with fail
  try rw [hw3]
  clear hw3
  have B3 := Seg.hid (chain B2.out N3.out)
  have Q3 := Seg.hid ((N3.out.block _ z2).trans Q2.out)
  have L3 := Seg.hid (LAt.below keepsStr L2.out N3.out (fun y hy => Nat.lt_of_lt_of_le (hS y hy) B2.out.size))
  obtain ⟨q0, q1, q2, q3, q4, q5, q6, q7, q8, q9, q10⟩ := qcells Q3.out
  obtain ⟨m0, m1, m2⟩ := gcells T3.out
  cases K with
  | false =>
    have R1 : Hid (RB = false) := by show _ = _; rw [← HRB.out]; rfl
    have R2 : Hid (RR = []) := by show _ = _; rw [← HRR.out]; rfl
    go_wp2
    go_ret2
    exact ⟨_, by rw [R1.out]; rfl, by rw [R2.out]; exact row_weak (empty_row w3) B3.out.size, chain B3.out (below1 _ _)⟩
  | true =>
  have SO := OKS.out rfl
  have LN := Seg.hid (src_names SO).1
  have both : (ej = true ∧ el = true) ∨ (ej && el) = false := by cases ej <;> cases el <;> simp
  rcases both with ⟨rfl, rfl⟩ | hne
  · have R1 : Hid (RB = true) := by show _ = _; rw [← HRB.out]; rfl
    have R2 : Hid (RR = s.cols) := by show _ = _; rw [← HRR.out]; rfl
    go_wp2_with (first | (go_at_call 70; refine (clone_any A' c' s.cols w3 S L3.out (fun y hy => Nat.lt_of_lt_of_le (hS y hy) B3.out.size) (by have := LN.out; omega)).mono ?_; rintro e w4 ⟨v4, rfl, r4, b4⟩; have R4 := Seg.hid r4; have B4 := Seg.hid b4; clear r4 b4))
    go_ret2
    exact ⟨_, by rw [R1.out]; rfl, by rw [R2.out]; exact row_weak R4.out B3.out.size, chain B3.out B4.out⟩
  · have R1 : Hid (RB = (bsB q l && jnB q.on s.cols (bsR q l).cols)) := by show _ = _; rw [← HRB.out, hne]; rfl
    have R2 : Hid (RR = if bsB q l = true then jnR q.on s.cols (bsR q l).cols else []) := by show _ = _; rw [← HRR.out, hne]; rfl
    clear HRB HRR
    have SOH := Seg.hid SO
    clear SO
    cases ej <;> cases el
    case true.true => cases hne
    all_goals
      clear hne
      go_wp2_with fail
      refine (CB.out _ B3.out).mono ?_
      rintro e w4 ⟨A2, c2, rfl, hl4, b4⟩
      obtain ⟨o, ho⟩ : ∃ o, bsR q l = o := ⟨_, rfl⟩
      rw [ho] at hl4 OKB R1 R2 ⊢
      obtain ⟨KB, hKB⟩ : ∃ K, bsB q l = K := ⟨_, rfl⟩
      rw [hKB] at OKB R1 R2 ⊢
      have B4 := Seg.hid (chain B3.out b4)
      have Q4 := Seg.hid ((b4.block _ (Array.getElem?_eq_some_iff.1 Q3.out).1).trans Q3.out)
      have T4 := Seg.hid ((b4.block _ (Array.getElem?_eq_some_iff.1 T3.out).1).trans T3.out)
      have L4 := Seg.hid hl4
      have M4 := Seg.hid (LAt.below keepsStr L3.out b4 (fun y hy => Nat.lt_of_lt_of_le (hS y hy) B3.out.size))
      have z4 : w.heap.size < w4.heap.size := (Array.getElem?_eq_some_iff.1 Q4.out).1
      have z5 : w2.heap.size < w4.heap.size := (Array.getElem?_eq_some_iff.1 T4.out).1
      clear hl4 b4 ho hKB q0 q1 q2 q3 q4 q5 q6 q7 q8 q9 q10 m0 m1 m2
      obtain ⟨w5, hw5⟩ : ∃ w5, w4.alloc (.cells #[.string o.name, .bool o.tab, .slice A2 o.cols.length c2] 62 (0, 0)) = w5 := ⟨_, rfl⟩
      have T5 : Hid (w5.heap[w4.heap.size]? = some (.cells #[.string o.name, .bool o.tab, .slice A2 o.cols.length c2] 62 (0, 0))) := by show _ = _; rw [← hw5]; exact heap_alloc_new _ _
      have N5 : Hid (Below w4.heap.size w4 w5) := by show Below _ _ _; rw [← hw5]; exact below1 _ _
      go_upto_region 7 with fail
      try rw [hw5]
      clear hw5
      have B5 := Seg.hid (chain B4.out N5.out)
      have Q5 := Seg.hid ((N5.out.block _ z4).trans Q4.out)
      have U5 := Seg.hid ((N5.out.block _ z5).trans T4.out)
      have L5 := Seg.hid (LAt.below keepsStr L4.out N5.out (fun y hy => Nat.lt_of_lt_of_le (hS y hy) B4.out.size))
      have M5 := Seg.hid (LAt.below keepsStr M4.out N5.out (fun y hy => Nat.lt_of_lt_of_le (hS y hy) B4.out.size))
      obtain ⟨n0, n1, n2, n3, n4, n5, n6, n7, n8, n9, n10⟩ := qcells Q5.out
      obtain ⟨k0, k1, k2⟩ := gcells U5.out
      obtain ⟨j0, j1, j2⟩ := gcells T5.out
      cases KB with
      | false =>
        have R3 : Hid (RB = false) := by show _ = _; rw [R1.out]; rfl
        have R4 : Hid (RR = []) := by show _ = _; rw [R2.out]; rfl
        go_wp2
        go_ret2
        exact ⟨_, by rw [R3.out]; rfl, by rw [R4.out]; exact row_weak (empty_row w5) B5.out.size, chain B5.out (below1 _ _)⟩
      | true =>
        have R3 : Hid (RB = jnB q.on s.cols o.cols) := by show _ = _; rw [R1.out]; rfl
        have R4 : Hid (RR = jnR q.on s.cols o.cols) := by show _ = _; rw [R2.out]; rfl
        go_wp2_with fail
        refine (YuI.join_any q A5 c5 A6 c6 A10 c10 s o A' A2 c' c2 w5 S M5.out L5.out (fun y hy => Nat.lt_of_lt_of_le (hS y hy) B5.out.size) SOH.out (OKB.out (by first | rfl | trivial))).mono ?_
        rintro e w6 ⟨v6, rfl, r6, b6⟩
        have R6 := Seg.hid r6
        have B6 := Seg.hid b6
        clear r6 b6
        go_wp2
        go_ret2
        exact ⟨_, by rw [R3.out]; rfl, by rw [R4.out]; exact row_weak R6.out B5.out.size, chain B5.out B6.out⟩
end Go.Proofs.Ytboooabjeidmfaa.YxI
