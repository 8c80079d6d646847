/- The walk of the law on NewQuorum out of the contracts. -/
import Derived.Test.YtdkfhjcockkleaaNqI
namespace Go.Proofs.Ytdkfhjcockkleaa.ExNq
set_option maxRecDepth 8000
open Go.RowKit
open Ls Ow QkP NqP
open Recs (hsz below1 below2 chain)
set_option linter.unusedVariables false
theorem form {w : World} {S : Nat → Prop} {v : Value} {t : Qrm} (h : QrmAt w S v t) : ∃ A0 c0 A1 c1, v = .agg #[.slice A0 t.voters.length c0, .slice A1 t.net.length c1] := by
  obtain ⟨f, rfl, y0, y1⟩ := h
  obtain ⟨A0, c0, g0⟩ := y0.form
  obtain ⟨A1, c1, g1⟩ := y1.form
  exact ⟨A0, c0, A1, c1, by rw [← g0, ← g1]; rfl⟩
theorem tot_rep : ∀ k, tot nVtr (List.replicate k nv) = 4 * k
  | 0 => rfl
  | k + 1 => by
    rw [List.replicate_succ, tot, tot_rep k]
    have : nVtr nv = 4 := rfl
    omega
theorem few (n : Int) : nQrm (newQ n) ≤ 20 := by
  unfold newQ
  split
  · rename_i h
    have h5 : n.toNat ≤ 5 := by simp [inR] at h; omega
    show tot nVtr (List.replicate n.toNat nv) + tot nMsg [] ≤ 20
    rw [tot_rep]
    show 4 * n.toNat + 0 ≤ 20
    omega
  · show tot nVtr [] + tot nMsg [] ≤ 20
    decide
/-- What stands beside the calls: the model's answer in block p1, the program's in block p2. -/
structure St (wx : World) (S1 : Nat → Prop) (S2 : Nat → Prop) (p1 p2 : Nat) (a1 b1 a2 b2 : Value) (u u2 : Qrm) : Prop where
  r1 : wx.heap[p1]? = some (.cells #[a1, b1] 31 (0, 0))
  r2 : wx.heap[p2]? = some (.cells #[a2, b2] 31 (0, 0))
  v1 : QrmAt wx S1 (.agg #[a1, b1]) u
  v2 : QrmOwn wx S2 (.agg #[a2, b2]) u2
  l1 : ∀ y, S1 y → y < wx.heap.size
  l2 : ∀ y, S2 y → y < wx.heap.size
theorem St.next {wx w' : World} {S1 S2 : Nat → Prop} {p1 p2 : Nat} {a1 b1 a2 b2 : Value} {u u2 : Qrm} (h : St wx S1 S2 p1 p2 a1 b1 a2 b2 u u2) (b : Below wx.heap.size wx w') : St w' S1 S2 p1 p2 a1 b1 a2 b2 u u2 :=
  ⟨(b.block p1 (Array.getElem?_eq_some_iff.1 h.r1).1).trans h.r1, (b.block p2 (Array.getElem?_eq_some_iff.1 h.r2).1).trans h.r2, h.v1.below b h.l1, h.v2.keep b.size (fun g hg => b.block g (h.l2 g hg)), fun y hy => Nat.lt_of_lt_of_le (h.l1 y hy) b.size, fun y hy => Nat.lt_of_lt_of_le (h.l2 y hy) b.size⟩
theorem St.mark {wx w' : World} {S1 S2 : Nat → Prop} {p1 p2 : Nat} {a1 b1 a2 b2 : Value} {u u2 u3 : Qrm} (h : St wx S1 S2 p1 p2 a1 b1 a2 b2 u u2) (f : Foot wx w' S2) (o : QrmOwn w' S2 (.agg #[a2, b2]) u3) (h1 : ¬ S2 p1) (h2 : ¬ S2 p2) (h3 : ∀ y, S1 y → ¬ S2 y) : St w' S1 S2 p1 p2 a1 b1 a2 b2 u u3 :=
  ⟨(f.block p1 (Array.getElem?_eq_some_iff.1 h.r1).1 h1).trans h.r1, (f.block p2 (Array.getElem?_eq_some_iff.1 h.r2).1 h2).trans h.r2, h.v1.keep (fun g hg => f.block g (h.l1 g hg) (h3 g hg)), o, fun y hy => Nat.lt_of_lt_of_le (h.l1 y hy) f.size, fun y hy => Nat.lt_of_lt_of_le (h.l2 y hy) f.size⟩
theorem two {w : World} {g ty : Nat} {a b : Value} (h : w.heap[g]? = some (.cells #[a, b] ty (0, 0))) : w.cell? ⟨g, 0, none⟩ = some a ∧ w.cell? ⟨g, 1, none⟩ = some b :=
  ⟨cell_of_row w g 0 _ _ (0, 0) h, cell_of_row w g 1 _ _ (0, 0) h⟩
set_option maxHeartbeats 1600000 in
theorem walk (n : Int) (w : World) : Calls Try.prog 4 #[.int .i64 n] w fun e w' => e = .returned (.bool true) ∧ Below w.heap.size w w' := by
  have hfew := few n
  obtain ⟨u, hu⟩ : ∃ u, newQ n = u := ⟨_, rfl⟩
  rw [hu] at hfew
  have HU := Seg.hid hu
  have HF := Seg.hid hfew
  clear hu hfew
  go_enter Try.func4, Try.ntmps4
  go_wp2_with fail
  refine (spec_any n w).mono ?_
  rintro e w1 ⟨v1, rfl, o1, b1⟩
  rw [HU.out] at o1
  obtain ⟨A0, c0, A1, c1, hv1⟩ := form o1.at
  subst hv1
  have O1 := Seg.hid o1.at
  have B1 := Seg.hid b1
  clear o1 b1
  go_wp2_with fail
  refine (impl_any n (w1.alloc _)).mono ?_
  rintro e w2 ⟨v2, rfl, o2, b2⟩
  rw [HU.out, hsz] at o2
  have s1 := B1.out.size
  have s2 := b2.size
  rw [hsz] at s2
  obtain ⟨A2, c2, A3, c3, hv2⟩ := form o2.at
  subst hv2
  have ST : Hid (St (w2.alloc (.cells #[.slice A2 u.voters.length c2, .slice A3 u.net.length c3] 31 (0, 0))) (seg w.heap.size w1.heap.size) (seg (w1.heap.size + 1) w2.heap.size) w1.heap.size w2.heap.size (.slice A0 u.voters.length c0) (.slice A1 u.net.length c1) (.slice A2 u.voters.length c2) (.slice A3 u.net.length c3) u u) :=
    ⟨((below1 w2 _).block w1.heap.size (by omega)).trans ((b2.block w1.heap.size (by rw [hsz]; omega)).trans (heap_alloc_new _ _)), heap_alloc_new _ _, (O1.out.below (chain (below1 w1 _) b2) (fun g hg => hg.2)).below (below1 w2 _) (fun g hg => Nat.lt_of_lt_of_le hg.2 (by omega)), o2.keep (by rw [hsz]; omega) (fun g hg => (below1 w2 _).block g hg.2), fun y hy => by rw [hsz]; have := hy.2; omega, fun y hy => by rw [hsz]; have := hy.2; omega⟩
  have B2 : Hid (Below w.heap.size w (w2.alloc (.cells #[.slice A2 u.voters.length c2, .slice A3 u.net.length c3] 31 (0, 0)))) := chain (chain B1.out (chain (below1 w1 _) b2)) (below1 w2 _)
  clear o2 b2
  go_upto_region 3 with fail
  generalize w2.alloc (.cells #[.slice A2 u.voters.length c2, .slice A3 u.net.length c3] 31 (0, 0)) = wa at *
  obtain ⟨x0, x1⟩ := two ST.out.r1
  obtain ⟨y0, y1⟩ := two ST.out.r2
  go_wp2_with fail
  refine (eqQuorum_any _ _ u wa _ _ ST.out.v2.at ST.out.v1 ST.out.l2 ST.out.l1).mono ?_
  rintro e w3 ⟨rfl, b3⟩
  have S3 := Seg.hid (ST.out.next b3)
  have B3 := Seg.hid (chain B2.out b3)
  clear b3 ST x0 x1 y0 y1
  obtain ⟨y0, y1⟩ := two S3.out.r2
  go_wp2_with fail
  refine (markQuorum_own 1 1 rfl _ u w3 (by omega) (by have := HF.out; omega) S3.out.l2 S3.out.v2).mono ?_
  rintro e w4 ⟨rfl, o4, f4⟩
  have S4 := Seg.hid (S3.out.mark f4 o4 (fun h => by have := h.1; omega) (fun h => by have := h.2; omega) (fun y h1 h2 => by have := h1.2; have := h2.1; omega))
  have B4 : Hid (Below w.heap.size w w4) := B3.out.trans (f4.toBelow (lo := w.heap.size) (fun y hy => by have := hy.1; omega) B3.out.size)
  clear o4 f4 S3 y0 y1
  obtain ⟨mk, hmk⟩ : ∃ mk, 1 + nQrm u = mk := ⟨_, rfl⟩
  rw [hmk]
  have HMK := Seg.hid hmk
  have hm0 : ¬ (mk : Int) < 0 := by omega
  have hm1 : ((mk : Int) != (mk : Int)) = false := by simp
  have hm2 : mk ≤ 21 := by have := HF.out; omega
  clear hmk
  obtain ⟨y0, y1⟩ := two S4.out.r2
  go_wp2_with fail
  refine (heldQuorum_at 1 1 rfl _ u w4 (by omega) (by have := HF.out; omega) S4.out.l2 S4.out.v2.at).mono ?_
  rintro e w5 ⟨rfl, b5⟩
  have S5 := Seg.hid (S4.out.next b5)
  have B5 := Seg.hid (chain B4.out b5)
  clear b5 S4 y0 y1
  rw [HMK.out]
  go_wp2_with fail
  refine (impl_any n w5).mono ?_
  rintro e w6 ⟨v6, rfl, o6, b6⟩
  rw [HU.out] at o6
  obtain ⟨A6, c6, A7, c7, hv6⟩ := form o6.at
  subst hv6
  have O6 : Hid (QrmAt (w6.alloc (.cells #[.slice A6 u.voters.length c6, .slice A7 u.net.length c7] 31 (0, 0))) (seg w5.heap.size w6.heap.size) (.agg #[.slice A6 u.voters.length c6, .slice A7 u.net.length c7]) u) := o6.at.below (below1 w6 _) (fun g hg => hg.2)
  have R6 : Hid ((w6.alloc (.cells #[.slice A6 u.voters.length c6, .slice A7 u.net.length c7] 31 (0, 0))).heap[w6.heap.size]? = some (.cells #[.slice A6 u.voters.length c6, .slice A7 u.net.length c7] 31 (0, 0))) := heap_alloc_new _ _
  have S6 := Seg.hid ((S5.out.next b6).next (below1 w6 (.cells #[.slice A6 u.voters.length c6, .slice A7 u.net.length c7] 31 (0, 0))))
  have B6 : Hid (Below w.heap.size w (w6.alloc (.cells #[.slice A6 u.voters.length c6, .slice A7 u.net.length c7] 31 (0, 0)))) := chain (chain B5.out b6) (below1 w6 _)
  have Z6 : Hid (∀ y, seg w5.heap.size w6.heap.size y → y < (w6.alloc (.cells #[.slice A6 u.voters.length c6, .slice A7 u.net.length c7] 31 (0, 0))).heap.size) := fun y hy => by rw [hsz]; have := hy.2; omega
  clear o6 b6 S5
  go_upto_region 14 with fail
  generalize w6.alloc (.cells #[.slice A6 u.voters.length c6, .slice A7 u.net.length c7] 31 (0, 0)) = wb at *
  obtain ⟨x0, x1⟩ := two S6.out.r1
  obtain ⟨z0, z1⟩ := two R6.out
  go_wp2_with fail
  refine (eqQuorum_any _ _ u wb _ _ O6.out S6.out.v1 Z6.out S6.out.l1).mono ?_
  rintro e w7 ⟨rfl, b7⟩
  have S7 := Seg.hid (S6.out.next b7)
  have B7 := Seg.hid (chain B6.out b7)
  clear b7 S6 x0 x1 z0 z1
  obtain ⟨y0, y1⟩ := two S7.out.r2
  go_wp2_with fail
  refine (heldQuorum_at 1 1 rfl _ u w7 (by omega) (by have := HF.out; omega) S7.out.l2 S7.out.v2.at).mono ?_
  rintro e w8 ⟨rfl, b8⟩
  have B8 := Seg.hid (chain B7.out b8)
  clear b8 y0 y1
  rw [HMK.out]
  go_wp2
  go_ret
  exact ⟨rfl, B8.out⟩
end Go.Proofs.Ytdkfhjcockkleaa.ExNq
