/- The law's marks on lists of Heads, Records, Batches of the call's own. -/
import Derived.Test.YtidggillganafaaJMkH
import Derived.Test.YtidggillganafaaJS30
namespace Go.Proofs.Ytidggillganafaa.Ft
set_option maxRecDepth 8000
open Go.RowKit
open Recs
open ToO (MineC)
open Mk (mt markText_at)
open SegW
set_option linter.unusedVariables false
def mH1 (k : Nat) (_ : Hd) : Hd := ⟨mt k, mt (k + 1)⟩
def nH1 (_ : Hd) : Nat := 2
def mR1 (k : Nat) (r : Rec) : Rec := ⟨(k : Int), ((k : Int) + 1) % 3 == 0, mt (k + 2), ((k : Int) + 1 + 1 + 1) % 3 == 0, mt (k + 4), mL mH1 nH1 (k + 5) r.heads⟩
def nR1 (r : Rec) : Nat := 5 + nL nH1 r.heads
def mB1 (k : Nat) (t : Bat) : Bat := ⟨(k : Int), (k : Int) + 1, (k : Int) + 1 + 1, (k : Int) + 1 + 1 + 1, (k : Int) + 1 + 1 + 1 + 1, (k : Int) + 1 + 1 + 1 + 1 + 1, mL mR1 nR1 (k + 6) t.recs⟩
def nB1 (t : Bat) : Nat := 6 + nL nR1 t.recs
theorem nH_eq : ∀ hs : List Hd, nL nH1 hs = 2 * hs.length
  | [] => rfl
  | h :: t => by simp only [nL, nH_eq t, nH1, List.length_cons]; omega
theorem markHeadS_own (v : Value) (k : Nat) (S : Nat → Prop) (hs : List Hd) (w : World) (hk : 0 < k) (hk1 : k ≤ 4000000000000000000) (hv : OwnH w S v hs) :
    Calls Try.prog 64 #[v, .int .i64 k] w fun e w' => e = .returned (.int .i64 ((k + nL nH1 hs : Nat) : Int)) ∧ OwnH w' S v (mL mH1 nH1 k hs) ∧ Foot w w' S := by
  obtain ⟨h0, A, c, rfl, h⟩ := hv
  by_cases hz : hs.length = 0
  · have : hs = [] := List.length_eq_zero_iff.1 hz
    subst this
    exact (Mk.markHeadS_none A c k w).mono fun e w' ⟨h1, h2⟩ => by
      subst h2
      exact ⟨by rw [h1]; rfl, LOwn.nil _ _ _ _, Foot.refl _ _⟩
  obtain ⟨g, F, P, rfl, h3, h4, h5⟩ := h.resolve_left hz
  refine (Mk.markHeadS_core g hs.length c k F w h0 hk hk1 h5.mine).mono fun e w' ⟨F', h6, h7⟩ => ⟨by rw [h6, nH_eq], ⟨by rw [mL_len]; exact h0, _, c, by rw [mL_len], .inr ⟨g, F', P, rfl, h3, fun i hi => h4 i (by rw [mL_len] at hi; exact hi), ?_⟩⟩, ⟨h7.gr.os, h7.gr.tape, h7.gr.output, h7.gr.size, fun q hq hw => h7.gr.block q hq (fun e => hw (by simp at e; rw [e]; exact h3))⟩⟩
  rw [mL_len]
  refine ⟨h7.mine, mL_len _ _ _ _, fun i hi => ?_, fun i hi x hx => ⟨(h5.apart i hi x hx).1, Nat.lt_of_lt_of_le (h5.apart i hi x hx).2 h7.gr.size⟩, h5.disj⟩
  rw [mL_get mH1 nH1 hi, nH_eq, List.length_take, Nat.min_eq_left (Nat.le_of_lt hi)]
  exact h7.marks i hi

theorem markRecordS_none (A : Option Addr) (c : Nat) (k : Int) (w : World) : Calls Try.prog 54 #[.slice A 0 c, .int .i64 k] w fun e w' => e = .returned (.int .i64 k) ∧ w = w' := by
  go_enter Try.func54, Try.ntmps54
  go_wp2
  go_loop [1, 5] (fun x i => i = .int .i64 0 ∧ x = .int .i64 k) (fun _ _ => 0)
  case atStart => exact ⟨rfl, rfl⟩
  case round =>
    obtain ⟨rfl, rfl⟩ := hrel
    go_wp2
    go_ret
    exact ⟨rfl, rfl⟩

set_option maxHeartbeats 1600000 in
theorem markRecordS_core (g n c k : Nat) (S : Nat → Prop) (P : Nat → Nat → Prop) (F0 : Nat → Value) (rs : List Rec) (w : World) (hn : n ≤ 1048576) (hk : 0 < k) (hk1 : k + nL nR1 rs ≤ 4000000000000000000) (hSg : S g) (hSP : ∀ i, i < n → ∀ x, P i x → S x) (ho : LOpen 67 6 ER w g n c F0 P rs) :
    Calls Try.prog 54 #[.slice (some ⟨g, 0, none⟩) n c, .int .i64 k] w fun e w' => ∃ F, e = .returned (.int .i64 ((k + nL nR1 rs : Nat) : Int)) ∧ LOpen 67 6 ER w' g n c F P (mL mR1 nR1 k rs) ∧ Foot w w' S := by
  have hc := ho.mine.le
  have hlen := Seg.hid ho.len
  have HM : Hid (LOpen 67 6 ER w g n c F0 P (mid mR1 nR1 k 0 rs) ∧ Foot w w S) := ⟨by rw [mid_zero]; exact ho, Foot.refl _ _⟩
  have HSG := Seg.hid hSg; have HSP := Seg.hid hSP
  have KL : Hid (∀ j, j < n → k + nL nR1 (rs.take j) + 5 + nL nH1 (rs.getD j default).heads ≤ 4000000000000000000) := fun j hj => by
    have a1 := nL_take nR1 (ts := rs) (j := j) (by rw [hlen.out]; exact hj)
    have a2 := nL_le nR1 rs (j + 1)
    have a3 : nR1 (rs.getD j default) = 5 + nL nH1 (rs.getD j default).heads := rfl
    omega
  have KE : Hid (k + nL nR1 (rs.take n) = k + nL nR1 rs) := by show _ = _; rw [← hlen.out, List.take_length]
  clear ho hSg hSP hk1
  go_enter Try.func54, Try.ntmps54
  go_wp2
  go_loopw [1, 5] (fun x i wr => ∃ (j : Nat) (F : Nat → Value), j ≤ n ∧ i = .int .i64 j ∧ x = .int .i64 ((k + nL nR1 (rs.take j) : Nat) : Int) ∧ Hid (LOpen 67 6 ER wr g n c F P (mid mR1 nR1 k j rs) ∧ Foot w wr S)) (fun _ i _ => n - (intOf i).toNat)
  case atStart => exact ⟨0, F0, Nat.zero_le _, rfl, rfl, HM.out⟩
  case round =>
    clear HM
    obtain ⟨j, F, hj, rfl, rfl, HR⟩ := hrel
    by_cases hlt : j < n
    · have h0 : (0 : Int) ≤ (j : Int) := by omega
      have h1 : (j : Int) < (n : Int) := by omega
      obtain ⟨x, hx⟩ : ∃ x, k + nL nR1 (rs.take j) = x := ⟨_, rfl⟩
      have hxb := KL.out j hlt
      have hx0 : 0 < x := by omega
      have HX := Seg.hid hx
      rw [hx] at hxb ⊢
      clear hx
      have hgr := HR.out.1.mine.lt
      have d0 := HR.out.1.mine.cell (j * 6) (by omega)
      have f0 := HR.out.1.mine.frozen (j * 6)
      have d1 := (HR.out.1.mine.set (j * 6) (.int .i64 (x : Int))).cell (j * 6 + 1) (by omega)
      have f1 := (HR.out.1.mine.set (j * 6) (.int .i64 (x : Int))).frozen (j * 6 + 1)
      have NB : Hid (nL nH1 (rs.getD j default).heads ≤ 4000000000000000000) := by show _ ≤ _; omega
      have hxc : x + 5 ≤ 4000000000000000000 := by omega
      have HXB := Seg.hid hxb
      clear hxb
      go_wp2_with fail
      have M1 := Seg.hid ((HR.out.1.mine.set (j * 6) (.int .i64 (x : Int))).set (j * 6 + 1) (.bool (((x : Int) + 1) % 3 == 0)))
      have B1 := Seg.hid ((HR.out.2.set (q := j * 6) HSG.out (.int .i64 (x : Int))).set (q := j * 6 + 1) HSG.out (.bool (((x : Int) + 1) % 3 == 0)))
      have K1 : Hid (∀ q, q ≠ g → ((wr.setCell ⟨g, j * 6, none⟩ (.int .i64 (x : Int))).setCell ⟨g, j * 6 + 1, none⟩ (.bool (((x : Int) + 1) % 3 == 0))).heap[q]? = wr.heap[q]?) := fun q hq => by rw [heap_setCell_other _ _ _ _ hq, heap_setCell_other _ _ _ _ hq]
      clear d0 f0 d1 f1
      refine (markText_at _ (x + 2) (by omega) _ (by omega) (by omega)).mono ?_
      rintro e w1 ⟨rfl, b1⟩
      have z1 := b1.size
      simp only [World.size_setCell] at z1
      have M2 := Seg.hid (M1.out.keep (b1.block g M1.out.lt))
      have B2 := Seg.hid (B1.out.below b1)
      have K2 : Hid (∀ q, q ≠ g → q < wr.heap.size → w1.heap[q]? = wr.heap[q]?) := fun q hq hl => (b1.block q (by simpa using hl)).trans (K1.out q hq)
      clear b1
      have d2 := M2.out.cell (j * 6 + 2) (by omega)
      have f2 := M2.out.frozen (j * 6 + 2)
      have d3 := (M2.out.set (j * 6 + 2) (.string (mt (x + 2)))).cell (j * 6 + 3) (by omega)
      have f3 := (M2.out.set (j * 6 + 2) (.string (mt (x + 2)))).frozen (j * 6 + 3)
      go_wp2_with fail
      have M3 := Seg.hid ((M2.out.set (j * 6 + 2) (.string (mt (x + 2)))).set (j * 6 + 3) (.bool (((x : Int) + 1 + 1 + 1) % 3 == 0)))
      have B3 := Seg.hid ((B2.out.set (q := j * 6 + 2) HSG.out (.string (mt (x + 2)))).set (q := j * 6 + 3) HSG.out (.bool (((x : Int) + 1 + 1 + 1) % 3 == 0)))
      have K3 : Hid (∀ q, q ≠ g → q < wr.heap.size → ((w1.setCell ⟨g, j * 6 + 2, none⟩ (.string (mt (x + 2)))).setCell ⟨g, j * 6 + 3, none⟩ (.bool (((x : Int) + 1 + 1 + 1) % 3 == 0))).heap[q]? = wr.heap[q]?) := fun q hq hl => by rw [heap_setCell_other _ _ _ _ hq, heap_setCell_other _ _ _ _ hq]; exact K2.out q hq hl
      clear d2 f2 d3 f3
      refine (markText_at _ (x + 4) (by omega) _ (by omega) (by omega)).mono ?_
      rintro e w2 ⟨rfl, b2⟩
      have z2 := b2.size
      simp only [World.size_setCell] at z2
      have M4 := Seg.hid (M3.out.keep (b2.block g M3.out.lt))
      have B4 := Seg.hid (B3.out.below b2)
      have K4 : Hid (∀ q, q ≠ g → q < wr.heap.size → w2.heap[q]? = wr.heap[q]?) := fun q hq hl => (b2.block q (by simp; omega)).trans (K3.out q hq hl)
      clear b2
      have d4 := M4.out.cell (j * 6 + 4) (by omega)
      have f4 := M4.out.frozen (j * 6 + 4)
      have M5 := Seg.hid (M4.out.set (j * 6 + 4) (.string (mt (x + 4))))
      have B5 := Seg.hid (B4.out.set (q := j * 6 + 4) HSG.out (.string (mt (x + 4))))
      have K5 : Hid (∀ q, q ≠ g → q < wr.heap.size → (w2.setCell ⟨g, j * 6 + 4, none⟩ (.string (mt (x + 4)))).heap[q]? = wr.heap[q]?) := fun q hq hl => by rw [heap_setCell_other _ _ _ _ hq]; exact K4.out q hq hl
      have Z5 : Hid (wr.heap.size ≤ (w2.setCell ⟨g, j * 6 + 4, none⟩ (.string (mt (x + 4)))).heap.size) := by show _ ≤ _; simp; omega
      have E5 : Hid (OwnH wr (P j) (F (j * 6 + 5)) (rs.getD j default).heads) := by
        have := (HR.out.1.el j hlt).2
        rw [mid_get mR1 nR1 (by rw [hlen.out]; exact hlt)] at this
        exact this
      have d5 : (w2.setCell ⟨g, j * 6 + 4, none⟩ (.string (mt (x + 4)))).cell? ⟨g, j * 6 + 5, none⟩ = some (F (j * 6 + 5)) := by
        have := M5.out.cell (j * 6 + 5) (by omega)
        simp only [show ¬ j * 6 + 5 = j * 6 + 4 by omega, show ¬ j * 6 + 5 = j * 6 + 3 by omega, show ¬ j * 6 + 5 = j * 6 + 2 by omega, show ¬ j * 6 + 5 = j * 6 + 1 by omega, show ¬ j * 6 + 5 = j * 6 by omega, if_false] at this
        exact this
      have OW : Hid (OwnH (w2.setCell ⟨g, j * 6 + 4, none⟩ (.string (mt (x + 4)))) (P j) (F (j * 6 + 5)) (rs.getD j default).heads) :=
        LOwn.keep keepsH E5.out Z5.out fun q hq => K5.out q (HR.out.1.apart j hlt q hq).1 (HR.out.1.apart j hlt q hq).2
      have ST : Hid (∀ w3, OwnH w3 (P j) (F (j * 6 + 5)) (mL mH1 nH1 (x + 5) (rs.getD j default).heads) → Foot (w2.setCell ⟨g, j * 6 + 4, none⟩ (.string (mt (x + 4)))) w3 (P j) → LOpen 67 6 ER w3 g n c _ P (mid mR1 nR1 k (j + 1) rs) ∧ Foot w w3 S) := fun w3 H W => by
        rw [← mid_step mR1 nR1 (by rw [hlen.out]; exact hlt), HX.out]
        refine ⟨LOpen.step keepsR (j := j) HR.out.1 hlt (M5.out.keep (W.block g M5.out.lt (fun e => (HR.out.1.apart j hlt g e).1 rfl))) (fun i hi hij q hq => ?_) (Nat.le_trans Z5.out W.size) (fun _ _ _ => rfl) (fun y hy => ⟨(HR.out.1.apart j hlt y hy).1, Nat.lt_of_lt_of_le (HR.out.1.apart j hlt y hy).2 (Nat.le_trans Z5.out W.size)⟩) (fun i hi hij y hy => HR.out.1.disj j i hlt hi (Ne.symm hij) y hy) (fun i hi hij y hy => ?_) ⟨⟨?_, ?_, ?_, ?_, ?_⟩, ?_⟩, B5.out.trans W (HSP.out j hlt)⟩
        · rw [if_neg (by omega), if_neg (by omega), if_neg (by omega), if_neg (by omega), if_neg (by omega)]
        · have a1 := HR.out.1.apart i hi y hy
          exact (W.block y (Nat.lt_of_lt_of_le a1.2 Z5.out) (HR.out.1.disj i j hi hlt hij y hy)).trans (K5.out y a1.1 a1.2)
        · simp [mR1]
        · simp [mR1]
        · simp [mR1]
        · simp [mR1]
        · simp [mR1]
        · simp only [show ¬ j * 6 + 5 = j * 6 + 4 by omega, show ¬ j * 6 + 5 = j * 6 + 3 by omega, show ¬ j * 6 + 5 = j * 6 + 2 by omega, show ¬ j * 6 + 5 = j * 6 + 1 by omega, show ¬ j * 6 + 5 = j * 6 by omega, if_false]
          exact H
      have HKK : Hid (((x + 5 + nL nH1 (rs.getD j default).heads : Nat) : Int) = ((k + nL nR1 (rs.take (j + 1)) : Nat) : Int)) := by
        show _ = _
        rw [nL_take nR1 (by rw [hlen.out]; exact hlt), ← HX.out]
        have a3 : nR1 (rs.getD j default) = 5 + nL nH1 (rs.getD j default).heads := rfl
        omega
      obtain ⟨_, Ah, ch, hsl, _⟩ := OW.out
      have HSL := Seg.hid hsl
      rw [hsl] at d5
      clear hsl
      go_wp2_with fail
      refine (markHeadS_own _ (x + 5) (P j) (rs.getD j default).heads _ (by omega) (by omega) (HSL.out ▸ OW.out)).mono ?_
      rintro e w3 ⟨rfl, hH, hW⟩
      have S3 := Seg.hid (ST.out w3 (by rw [HSL.out]; exact hH) hW)
      rw [HKK.out]
      clear hH hW d5 d4 f4
      go_wp2
      go_roundw
      case rel => exact ⟨j + 1, _, by omega, by go_num, rfl, S3.out⟩
      case measure => simp [intOf]; omega
    · have : j = n := by omega
      subst this
      have E := HR.out
      rw [show mid mR1 nR1 k j rs = mL mR1 nR1 k rs by rw [← hlen.out]; exact mid_all _ _ _ _] at E
      have EH' := Seg.hid E
      clear E
      rw [KE.out]
      go_wp2
      go_ret
      exact ⟨F, rfl, EH'.out⟩

theorem markRecordS_own (v : Value) (k : Nat) (S : Nat → Prop) (rs : List Rec) (w : World) (hk : 0 < k) (hk1 : k + nL nR1 rs ≤ 4000000000000000000) (hv : OwnR w S v rs) :
    Calls Try.prog 54 #[v, .int .i64 k] w fun e w' => e = .returned (.int .i64 ((k + nL nR1 rs : Nat) : Int)) ∧ OwnR w' S v (mL mR1 nR1 k rs) ∧ Foot w w' S := by
  obtain ⟨h0, A, c, rfl, h⟩ := hv
  by_cases hz : rs.length = 0
  · have : rs = [] := List.length_eq_zero_iff.1 hz
    subst this
    exact (markRecordS_none A c k w).mono fun e w' ⟨h1, h2⟩ => by
      subst h2
      exact ⟨by rw [h1]; rfl, LOwn.nil _ _ _ _, Foot.refl _ _⟩
  obtain ⟨g, F, P, rfl, h3, h4, h5⟩ := h.resolve_left hz
  refine (markRecordS_core g rs.length c k S P F rs w h0 hk hk1 h3 h4 h5).mono fun e w' ⟨F', a1, a2, a3⟩ => ⟨a1, ⟨by rw [mL_len]; exact h0, _, c, by rw [mL_len], .inr ⟨g, F', P, rfl, h3, fun i hi => h4 i (by rw [mL_len] at hi; exact hi), ?_⟩⟩, a3⟩
  rw [mL_len]
  exact a2
end Go.Proofs.Ytidggillganafaa.Ft
