/- The walk of the law on FnExactNewPart out of the contracts. -/
import Derived.Test.YtafgakddhoabjaaNpS
import Derived.Test.YtafgakddhoabjaaHPrt
namespace Go.Proofs.Ytafgakddhoabjaa.ExNp
set_option maxRecDepth 8000
open Go.RowKit
open Ls Ow NpP
open Recs (hsz below1 below2 chain)
set_option linter.unusedVariables false
theorem form {w : World} {S : Nat → Prop} {v : Value} {u : Prt} (h : PrtAt w S v u) : ∃ A0 c0 A3 c3 A4 c4, v = .agg #[.slice A0 u.reps.length c0, .int .i64 u.leader, .int .i64 u.epoch, .slice A3 u.insync.length c3, .slice A4 u.known.length c4, .int .i64 u.least] := by
  obtain ⟨f, rfl, y0, y1, y2, y3, y4, y5⟩ := h
  obtain ⟨A0, c0, g0⟩ := y0.form
  obtain ⟨A3, c3, g3⟩ := y3.form
  obtain ⟨A4, c4, g4⟩ := y4.form
  exact ⟨A0, c0, A3, c3, A4, c4, by rw [← g0, ← (show f 1 = .int .i64 u.leader from y1), ← (show f 2 = .int .i64 u.epoch from y2), ← g3, ← g4, ← (show f 5 = .int .i64 u.least from y5)]; rfl⟩
theorem tot_rep (roll : Int) : ∀ k, tot nRpl (List.replicate k (nr roll)) = 5 * k
  | 0 => rfl
  | k + 1 => by
    rw [List.replicate_succ, tot, tot_rep roll k]
    have : nRpl (nr roll) = 5 := rfl
    omega
theorem few (r l roll : Int) : nPrt (newP r l roll) ≤ 100 := by
  unfold newP
  split
  · rename_i h
    have h5 : r.toNat ≤ 5 := by simp [good, inR] at h; omega
    show tot nRpl (List.replicate r.toNat (nr roll)) + tot nI (numL r.toNat) + tot nI (zerL r.toNat) ≤ 100
    rw [tot_rep, nI_tot, nI_tot, numL_len, zerL_len]
    omega
  · show tot nRpl [] + tot nI [] + tot nI [] ≤ 100
    decide
/-- What stands beside the calls: the model's answer in block p1, the program's in block p2. -/
structure St (wx : World) (S1 : Nat → Prop) (S2 : Nat → Prop) (p1 p2 : Nat) (R1 R2 : Array Value) (u u2 : Prt) : Prop where
  r1 : wx.heap[p1]? = some (.cells R1 25 (0, 0))
  r2 : wx.heap[p2]? = some (.cells R2 25 (0, 0))
  v1 : PrtAt wx S1 (.agg R1) u
  v2 : PrtOwn wx S2 (.agg R2) u2
  l1 : ∀ y, S1 y → y < wx.heap.size
  l2 : ∀ y, S2 y → y < wx.heap.size
theorem St.next {wx w' : World} {S1 S2 : Nat → Prop} {p1 p2 : Nat} {R1 R2 : Array Value} {u u2 : Prt} (h : St wx S1 S2 p1 p2 R1 R2 u u2) (b : Below wx.heap.size wx w') : St w' S1 S2 p1 p2 R1 R2 u u2 :=
  ⟨(b.block p1 (Array.getElem?_eq_some_iff.1 h.r1).1).trans h.r1, (b.block p2 (Array.getElem?_eq_some_iff.1 h.r2).1).trans h.r2, h.v1.below b h.l1, h.v2.keep b.size (fun g hg => b.block g (h.l2 g hg)), fun y hy => Nat.lt_of_lt_of_le (h.l1 y hy) b.size, fun y hy => Nat.lt_of_lt_of_le (h.l2 y hy) b.size⟩
theorem St.mark {wx w' : World} {S1 S2 : Nat → Prop} {p1 p2 : Nat} {R1 R2 : Array Value} {u u2 u3 : Prt} (h : St wx S1 S2 p1 p2 R1 R2 u u2) (f : Foot wx w' S2) (o : PrtOwn w' S2 (.agg R2) u3) (h1 : ¬ S2 p1) (h2 : ¬ S2 p2) (h3 : ∀ y, S1 y → ¬ S2 y) : St w' S1 S2 p1 p2 R1 R2 u u3 :=
  ⟨(f.block p1 (Array.getElem?_eq_some_iff.1 h.r1).1 h1).trans h.r1, (f.block p2 (Array.getElem?_eq_some_iff.1 h.r2).1 h2).trans h.r2, h.v1.keep (fun g hg => f.block g (h.l1 g hg) (h3 g hg)), o, fun y hy => Nat.lt_of_lt_of_le (h.l1 y hy) f.size, fun y hy => Nat.lt_of_lt_of_le (h.l2 y hy) f.size⟩
set_option maxHeartbeats 3200000 in
theorem walk (r l roll : Int) (w : World) : Calls Try.prog 3 #[.int .i64 r, .int .i64 l, .int .i64 roll] w fun e w' => e = .returned (.bool true) ∧ Below w.heap.size w w' := by
  have hfew := few r l roll
  obtain ⟨u, hu⟩ : ∃ u, newP r l roll = u := ⟨_, rfl⟩
  rw [hu] at hfew
  have HU := Seg.hid hu
  have HF := Seg.hid hfew
  clear hu hfew
  go_enter Try.func3, Try.ntmps3
  go_wp2_with fail
  refine (spec_any r l roll w).mono ?_
  rintro e w1 ⟨v1, rfl, o1, b1⟩
  rw [HU.out] at o1
  obtain ⟨Aa0, ca0, Aa3, ca3, Aa4, ca4, hv1⟩ := form o1.at
  subst hv1
  have O1 := Seg.hid o1.at
  have B1 := Seg.hid b1
  clear o1 b1
  go_wp2_with fail
  refine (impl_any r l roll (w1.alloc _)).mono ?_
  rintro e w2 ⟨v2, rfl, o2, b2⟩
  rw [HU.out, hsz] at o2
  have s1 := B1.out.size
  have s2 := b2.size
  rw [hsz] at s2
  obtain ⟨Ab0, cb0, Ab3, cb3, Ab4, cb4, hv2⟩ := form o2.at
  subst hv2
  have ST : Hid (St (w2.alloc (.cells #[.slice Ab0 u.reps.length cb0, .int .i64 u.leader, .int .i64 u.epoch, .slice Ab3 u.insync.length cb3, .slice Ab4 u.known.length cb4, .int .i64 u.least] 25 (0, 0))) (seg w.heap.size w1.heap.size) (seg (w1.heap.size + 1) w2.heap.size) w1.heap.size w2.heap.size #[.slice Aa0 u.reps.length ca0, .int .i64 u.leader, .int .i64 u.epoch, .slice Aa3 u.insync.length ca3, .slice Aa4 u.known.length ca4, .int .i64 u.least] #[.slice Ab0 u.reps.length cb0, .int .i64 u.leader, .int .i64 u.epoch, .slice Ab3 u.insync.length cb3, .slice Ab4 u.known.length cb4, .int .i64 u.least] u u) :=
    ⟨((below1 w2 _).block w1.heap.size (by omega)).trans ((b2.block w1.heap.size (by rw [hsz]; omega)).trans (heap_alloc_new _ _)), heap_alloc_new _ _, (O1.out.below (chain (below1 w1 _) b2) (fun g hg => hg.2)).below (below1 w2 _) (fun g hg => Nat.lt_of_lt_of_le hg.2 (by omega)), o2.keep (by rw [hsz]; omega) (fun g hg => (below1 w2 _).block g hg.2), fun y hy => by rw [hsz]; have := hy.2; omega, fun y hy => by rw [hsz]; have := hy.2; omega⟩
  have B2 : Hid (Below w.heap.size w (w2.alloc (.cells #[.slice Ab0 u.reps.length cb0, .int .i64 u.leader, .int .i64 u.epoch, .slice Ab3 u.insync.length cb3, .slice Ab4 u.known.length cb4, .int .i64 u.least] 25 (0, 0)))) := chain (chain B1.out (chain (below1 w1 _) b2)) (below1 w2 _)
  clear o2 b2
  go_upto_region 3 with fail
  generalize w2.alloc (.cells #[.slice Ab0 u.reps.length cb0, .int .i64 u.leader, .int .i64 u.epoch, .slice Ab3 u.insync.length cb3, .slice Ab4 u.known.length cb4, .int .i64 u.least] 25 (0, 0)) = wa at *
  have x0 : wa.cell? ⟨w1.heap.size, 0, none⟩ = some (.slice Aa0 u.reps.length ca0) := cell_of_row wa _ 0 _ _ (0, 0) ST.out.r1
  have x1 : wa.cell? ⟨w1.heap.size, 1, none⟩ = some (.int .i64 u.leader) := cell_of_row wa _ 1 _ _ (0, 0) ST.out.r1
  have x2 : wa.cell? ⟨w1.heap.size, 2, none⟩ = some (.int .i64 u.epoch) := cell_of_row wa _ 2 _ _ (0, 0) ST.out.r1
  have x3 : wa.cell? ⟨w1.heap.size, 3, none⟩ = some (.slice Aa3 u.insync.length ca3) := cell_of_row wa _ 3 _ _ (0, 0) ST.out.r1
  have x4 : wa.cell? ⟨w1.heap.size, 4, none⟩ = some (.slice Aa4 u.known.length ca4) := cell_of_row wa _ 4 _ _ (0, 0) ST.out.r1
  have x5 : wa.cell? ⟨w1.heap.size, 5, none⟩ = some (.int .i64 u.least) := cell_of_row wa _ 5 _ _ (0, 0) ST.out.r1
  have y0 : wa.cell? ⟨w2.heap.size, 0, none⟩ = some (.slice Ab0 u.reps.length cb0) := cell_of_row wa _ 0 _ _ (0, 0) ST.out.r2
  have y1 : wa.cell? ⟨w2.heap.size, 1, none⟩ = some (.int .i64 u.leader) := cell_of_row wa _ 1 _ _ (0, 0) ST.out.r2
  have y2 : wa.cell? ⟨w2.heap.size, 2, none⟩ = some (.int .i64 u.epoch) := cell_of_row wa _ 2 _ _ (0, 0) ST.out.r2
  have y3 : wa.cell? ⟨w2.heap.size, 3, none⟩ = some (.slice Ab3 u.insync.length cb3) := cell_of_row wa _ 3 _ _ (0, 0) ST.out.r2
  have y4 : wa.cell? ⟨w2.heap.size, 4, none⟩ = some (.slice Ab4 u.known.length cb4) := cell_of_row wa _ 4 _ _ (0, 0) ST.out.r2
  have y5 : wa.cell? ⟨w2.heap.size, 5, none⟩ = some (.int .i64 u.least) := cell_of_row wa _ 5 _ _ (0, 0) ST.out.r2
  go_wp2_with fail
  refine (eqPart_any _ _ u wa _ _ ST.out.v2.at ST.out.v1 ST.out.l2 ST.out.l1).mono ?_
  rintro e w3 ⟨rfl, b3⟩
  have S3 := Seg.hid (ST.out.next b3)
  have B3 := Seg.hid (chain B2.out b3)
  clear b3 ST x0 x1 x2 x3 x4 x5 y0 y1 y2 y3 y4 y5
  have y0 : w3.cell? ⟨w2.heap.size, 0, none⟩ = some (.slice Ab0 u.reps.length cb0) := cell_of_row w3 _ 0 _ _ (0, 0) S3.out.r2
  have y1 : w3.cell? ⟨w2.heap.size, 1, none⟩ = some (.int .i64 u.leader) := cell_of_row w3 _ 1 _ _ (0, 0) S3.out.r2
  have y2 : w3.cell? ⟨w2.heap.size, 2, none⟩ = some (.int .i64 u.epoch) := cell_of_row w3 _ 2 _ _ (0, 0) S3.out.r2
  have y3 : w3.cell? ⟨w2.heap.size, 3, none⟩ = some (.slice Ab3 u.insync.length cb3) := cell_of_row w3 _ 3 _ _ (0, 0) S3.out.r2
  have y4 : w3.cell? ⟨w2.heap.size, 4, none⟩ = some (.slice Ab4 u.known.length cb4) := cell_of_row w3 _ 4 _ _ (0, 0) S3.out.r2
  have y5 : w3.cell? ⟨w2.heap.size, 5, none⟩ = some (.int .i64 u.least) := cell_of_row w3 _ 5 _ _ (0, 0) S3.out.r2
  go_wp2_with fail
  refine (markPart_own 1 1 rfl _ u w3 (by omega) (by have := HF.out; omega) S3.out.l2 S3.out.v2).mono ?_
  rintro e w4 ⟨rfl, o4, f4⟩
  have S4 := Seg.hid (S3.out.mark f4 o4 (fun h => by have := h.1; omega) (fun h => by have := h.2; omega) (fun y h1 h2 => by have := h1.2; have := h2.1; omega))
  have B4 : Hid (Below w.heap.size w w4) := B3.out.trans (f4.toBelow (lo := w.heap.size) (fun y hy => by have := hy.1; omega) B3.out.size)
  clear o4 f4 S3 y0 y1 y2 y3 y4 y5
  obtain ⟨mk, hmk⟩ : ∃ mk, 1 + nPrt u = mk := ⟨_, rfl⟩
  rw [hmk]
  have HMK := Seg.hid hmk
  have hm0 : ¬ (mk : Int) < 0 := by omega
  have hm1 : ((mk : Int) != (mk : Int)) = false := by simp
  have hm2 : mk ≤ 1000000 := by have := HF.out; omega
  clear hmk
  have y0 : w4.cell? ⟨w2.heap.size, 0, none⟩ = some (.slice Ab0 u.reps.length cb0) := cell_of_row w4 _ 0 _ _ (0, 0) S4.out.r2
  have y1 : w4.cell? ⟨w2.heap.size, 1, none⟩ = some (.int .i64 u.leader) := cell_of_row w4 _ 1 _ _ (0, 0) S4.out.r2
  have y2 : w4.cell? ⟨w2.heap.size, 2, none⟩ = some (.int .i64 u.epoch) := cell_of_row w4 _ 2 _ _ (0, 0) S4.out.r2
  have y3 : w4.cell? ⟨w2.heap.size, 3, none⟩ = some (.slice Ab3 u.insync.length cb3) := cell_of_row w4 _ 3 _ _ (0, 0) S4.out.r2
  have y4 : w4.cell? ⟨w2.heap.size, 4, none⟩ = some (.slice Ab4 u.known.length cb4) := cell_of_row w4 _ 4 _ _ (0, 0) S4.out.r2
  have y5 : w4.cell? ⟨w2.heap.size, 5, none⟩ = some (.int .i64 u.least) := cell_of_row w4 _ 5 _ _ (0, 0) S4.out.r2
  go_wp2_with fail
  refine (heldPart_at 1 1 rfl _ u w4 (by omega) (by have := HF.out; omega) S4.out.l2 S4.out.v2.at).mono ?_
  rintro e w5 ⟨rfl, b5⟩
  have S5 := Seg.hid (S4.out.next b5)
  have B5 := Seg.hid (chain B4.out b5)
  clear b5 S4 y0 y1 y2 y3 y4 y5
  rw [HMK.out]
  go_wp2_with fail
  refine (impl_any r l roll w5).mono ?_
  rintro e w6 ⟨v6, rfl, o6, b6⟩
  rw [HU.out] at o6
  obtain ⟨Ad0, cd0, Ad3, cd3, Ad4, cd4, hv6⟩ := form o6.at
  subst hv6
  have O6 : Hid (PrtAt (w6.alloc (.cells #[.slice Ad0 u.reps.length cd0, .int .i64 u.leader, .int .i64 u.epoch, .slice Ad3 u.insync.length cd3, .slice Ad4 u.known.length cd4, .int .i64 u.least] 25 (0, 0))) (seg w5.heap.size w6.heap.size) (.agg #[.slice Ad0 u.reps.length cd0, .int .i64 u.leader, .int .i64 u.epoch, .slice Ad3 u.insync.length cd3, .slice Ad4 u.known.length cd4, .int .i64 u.least]) u) := o6.at.below (below1 w6 _) (fun g hg => hg.2)
  have R6 : Hid ((w6.alloc (.cells #[.slice Ad0 u.reps.length cd0, .int .i64 u.leader, .int .i64 u.epoch, .slice Ad3 u.insync.length cd3, .slice Ad4 u.known.length cd4, .int .i64 u.least] 25 (0, 0))).heap[w6.heap.size]? = some (.cells #[.slice Ad0 u.reps.length cd0, .int .i64 u.leader, .int .i64 u.epoch, .slice Ad3 u.insync.length cd3, .slice Ad4 u.known.length cd4, .int .i64 u.least] 25 (0, 0))) := heap_alloc_new _ _
  have S6 := Seg.hid ((S5.out.next b6).next (below1 w6 (.cells #[.slice Ad0 u.reps.length cd0, .int .i64 u.leader, .int .i64 u.epoch, .slice Ad3 u.insync.length cd3, .slice Ad4 u.known.length cd4, .int .i64 u.least] 25 (0, 0))))
  have B6 : Hid (Below w.heap.size w (w6.alloc (.cells #[.slice Ad0 u.reps.length cd0, .int .i64 u.leader, .int .i64 u.epoch, .slice Ad3 u.insync.length cd3, .slice Ad4 u.known.length cd4, .int .i64 u.least] 25 (0, 0)))) := chain (chain B5.out b6) (below1 w6 _)
  have Z6 : Hid (∀ y, seg w5.heap.size w6.heap.size y → y < (w6.alloc (.cells #[.slice Ad0 u.reps.length cd0, .int .i64 u.leader, .int .i64 u.epoch, .slice Ad3 u.insync.length cd3, .slice Ad4 u.known.length cd4, .int .i64 u.least] 25 (0, 0))).heap.size) := fun y hy => by rw [hsz]; have := hy.2; omega
  clear o6 b6 S5
  go_upto_region 14 with fail
  generalize w6.alloc (.cells #[.slice Ad0 u.reps.length cd0, .int .i64 u.leader, .int .i64 u.epoch, .slice Ad3 u.insync.length cd3, .slice Ad4 u.known.length cd4, .int .i64 u.least] 25 (0, 0)) = wb at *
  have x0 : wb.cell? ⟨w1.heap.size, 0, none⟩ = some (.slice Aa0 u.reps.length ca0) := cell_of_row wb _ 0 _ _ (0, 0) S6.out.r1
  have x1 : wb.cell? ⟨w1.heap.size, 1, none⟩ = some (.int .i64 u.leader) := cell_of_row wb _ 1 _ _ (0, 0) S6.out.r1
  have x2 : wb.cell? ⟨w1.heap.size, 2, none⟩ = some (.int .i64 u.epoch) := cell_of_row wb _ 2 _ _ (0, 0) S6.out.r1
  have x3 : wb.cell? ⟨w1.heap.size, 3, none⟩ = some (.slice Aa3 u.insync.length ca3) := cell_of_row wb _ 3 _ _ (0, 0) S6.out.r1
  have x4 : wb.cell? ⟨w1.heap.size, 4, none⟩ = some (.slice Aa4 u.known.length ca4) := cell_of_row wb _ 4 _ _ (0, 0) S6.out.r1
  have x5 : wb.cell? ⟨w1.heap.size, 5, none⟩ = some (.int .i64 u.least) := cell_of_row wb _ 5 _ _ (0, 0) S6.out.r1
  have z0 : wb.cell? ⟨w6.heap.size, 0, none⟩ = some (.slice Ad0 u.reps.length cd0) := cell_of_row wb _ 0 _ _ (0, 0) R6.out
  have z1 : wb.cell? ⟨w6.heap.size, 1, none⟩ = some (.int .i64 u.leader) := cell_of_row wb _ 1 _ _ (0, 0) R6.out
  have z2 : wb.cell? ⟨w6.heap.size, 2, none⟩ = some (.int .i64 u.epoch) := cell_of_row wb _ 2 _ _ (0, 0) R6.out
  have z3 : wb.cell? ⟨w6.heap.size, 3, none⟩ = some (.slice Ad3 u.insync.length cd3) := cell_of_row wb _ 3 _ _ (0, 0) R6.out
  have z4 : wb.cell? ⟨w6.heap.size, 4, none⟩ = some (.slice Ad4 u.known.length cd4) := cell_of_row wb _ 4 _ _ (0, 0) R6.out
  have z5 : wb.cell? ⟨w6.heap.size, 5, none⟩ = some (.int .i64 u.least) := cell_of_row wb _ 5 _ _ (0, 0) R6.out
  go_wp2_with fail
  refine (eqPart_any _ _ u wb _ _ O6.out S6.out.v1 Z6.out S6.out.l1).mono ?_
  rintro e w7 ⟨rfl, b7⟩
  have S7 := Seg.hid (S6.out.next b7)
  have B7 := Seg.hid (chain B6.out b7)
  clear b7 S6 x0 x1 x2 x3 x4 x5 z0 z1 z2 z3 z4 z5
  have y0 : w7.cell? ⟨w2.heap.size, 0, none⟩ = some (.slice Ab0 u.reps.length cb0) := cell_of_row w7 _ 0 _ _ (0, 0) S7.out.r2
  have y1 : w7.cell? ⟨w2.heap.size, 1, none⟩ = some (.int .i64 u.leader) := cell_of_row w7 _ 1 _ _ (0, 0) S7.out.r2
  have y2 : w7.cell? ⟨w2.heap.size, 2, none⟩ = some (.int .i64 u.epoch) := cell_of_row w7 _ 2 _ _ (0, 0) S7.out.r2
  have y3 : w7.cell? ⟨w2.heap.size, 3, none⟩ = some (.slice Ab3 u.insync.length cb3) := cell_of_row w7 _ 3 _ _ (0, 0) S7.out.r2
  have y4 : w7.cell? ⟨w2.heap.size, 4, none⟩ = some (.slice Ab4 u.known.length cb4) := cell_of_row w7 _ 4 _ _ (0, 0) S7.out.r2
  have y5 : w7.cell? ⟨w2.heap.size, 5, none⟩ = some (.int .i64 u.least) := cell_of_row w7 _ 5 _ _ (0, 0) S7.out.r2
  go_wp2_with fail
  refine (heldPart_at 1 1 rfl _ u w7 (by omega) (by have := HF.out; omega) S7.out.l2 S7.out.v2.at).mono ?_
  rintro e w8 ⟨rfl, b8⟩
  have B8 := Seg.hid (chain B7.out b8)
  clear b8 y0 y1 y2 y3 y4 y5
  rw [HMK.out]
  go_wp2
  go_ret
  exact ⟨rfl, B8.out⟩
end Go.Proofs.Ytafgakddhoabjaa.ExNp
