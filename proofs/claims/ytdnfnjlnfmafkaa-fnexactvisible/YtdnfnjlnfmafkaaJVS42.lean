/- The law's marks on lists of Segments of the call's own (written by gen_mark.py); The law's marks on a Log; how many they are; Lists of Head with marks: the law's look at these. -/
import Derived.Test.YtdnfnjlnfmafkaaJVS41
import Derived.Test.YtdnfnjlnfmafkaaJVS18
import Derived.Test.YtdnfnjlnfmafkaaJVS16
namespace Go.Proofs.Ytdnfnjlnfmafkaa.Ft
set_option maxRecDepth 8000
open Go.RowKit
open Recs
open ToO (MineC)
open Mk (mt markText_at)
open SegW
set_option linter.unusedVariables false
def mS1 (k : Nat) (t : Sg) : Sg := ⟨(k : Int), mL mB1 nB1 (k + 1) t.bats⟩
def nS1 (t : Sg) : Nat := 1 + nL nB1 t.bats
theorem markSegmentS_none (A : Option Addr) (c : Nat) (k : Int) (w : World) : Calls Try.prog 28 #[.slice A 0 c, .int .i64 k] w fun e w' => e = .returned (.int .i64 k) ∧ w = w' := by
  go_enter Try.func28, Try.ntmps28
  go_wp2
  go_loop [1, 5] (fun x i => i = .int .i64 0 ∧ x = .int .i64 k) (fun _ _ => 0)
  case atStart => exact ⟨rfl, rfl⟩
  case round =>
    obtain ⟨rfl, rfl⟩ := hrel
    go_wp2
    go_ret
    exact ⟨rfl, rfl⟩

set_option maxHeartbeats 1600000 in
theorem markSegmentS_core (g n c k : Nat) (S : Nat → Prop) (P : Nat → Nat → Prop) (F0 : Nat → Value) (ts : List Sg) (w : World) (hn : n ≤ 1048576) (hk : 0 < k) (hk1 : k + nL nS1 ts ≤ 4000000000000000000) (hSg : S g) (hSP : ∀ i, i < n → ∀ x, P i x → S x) (ho : LOpen 73 2 ES w g n c F0 P ts) :
    Calls Try.prog 28 #[.slice (some ⟨g, 0, none⟩) n c, .int .i64 k] w fun e w' => ∃ F, e = .returned (.int .i64 ((k + nL nS1 ts : Nat) : Int)) ∧ LOpen 73 2 ES w' g n c F P (mL mS1 nS1 k ts) ∧ Foot w w' S := by
  have hc := ho.mine.le
  have hlen := Seg.hid ho.len
  have HM : Hid (LOpen 73 2 ES w g n c F0 P (mid mS1 nS1 k 0 ts) ∧ Foot w w S) := ⟨by rw [mid_zero]; exact ho, Foot.refl _ _⟩
  have HSG := Seg.hid hSg; have HSP := Seg.hid hSP
  have KL : Hid (∀ j, j < n → k + nL nS1 (ts.take j) + 1 + nL nB1 (ts.getD j default).bats ≤ 4000000000000000000) := fun j hj => by
    have a1 := nL_take nS1 (ts := ts) (j := j) (by rw [hlen.out]; exact hj)
    have a2 := nL_le nS1 ts (j + 1)
    have a3 : nS1 (ts.getD j default) = 1 + nL nB1 (ts.getD j default).bats := rfl
    omega
  have KE : Hid (k + nL nS1 (ts.take n) = k + nL nS1 ts) := by show _ = _; rw [← hlen.out, List.take_length]
  clear ho hSg hSP hk1
  go_enter Try.func28, Try.ntmps28
  go_wp2
  go_loopw [1, 5] (fun x i wr => ∃ (j : Nat) (F : Nat → Value), j ≤ n ∧ i = .int .i64 j ∧ x = .int .i64 ((k + nL nS1 (ts.take j) : Nat) : Int) ∧ Hid (LOpen 73 2 ES wr g n c F P (mid mS1 nS1 k j ts) ∧ Foot w wr S)) (fun _ i _ => n - (intOf i).toNat)
  case atStart => exact ⟨0, F0, Nat.zero_le _, rfl, rfl, HM.out⟩
  case round =>
    clear HM
    obtain ⟨j, F, hj, rfl, rfl, HR⟩ := hrel
    by_cases hlt : j < n
    · have h0 : (0 : Int) ≤ (j : Int) := by omega
      have h1 : (j : Int) < (n : Int) := by omega
      obtain ⟨x, hx⟩ : ∃ x, k + nL nS1 (ts.take j) = x := ⟨_, rfl⟩
      have hxb := KL.out j hlt
      have hx0 : 0 < x := by omega
      have HX := Seg.hid hx
      rw [hx] at hxb ⊢
      clear hx
      have hgr := HR.out.1.mine.lt
      have hxc : x + 1 ≤ 4000000000000000000 := by omega
      have HXB := Seg.hid hxb
      clear hxb
      have d0 := (HR.out.1.mine).cell (j * 2) (by omega)
      have f0 := (HR.out.1.mine).frozen (j * 2)
      have M5 := Seg.hid ((HR.out.1.mine).set (j * 2) (.int .i64 ((x : Int))))
      have B5 := Seg.hid ((HR.out.2).set (q := j * 2) HSG.out (.int .i64 ((x : Int))))
      have K5 : Hid (∀ q, q ≠ g → (wr.setCell ⟨g, j * 2, none⟩ (.int .i64 ((x : Int)))).heap[q]? = wr.heap[q]?) := fun q hq => by rw [heap_setCell_other _ _ _ _ hq]
      have Z5 : Hid (wr.heap.size ≤ (wr.setCell ⟨g, j * 2, none⟩ (.int .i64 ((x : Int)))).heap.size) := by show _ ≤ _; simp
      have E5 : Hid (OwnB wr (P j) (F (j * 2 + 1)) (ts.getD j default).bats) := by
        have := (HR.out.1.el j hlt).2
        rw [mid_get mS1 nS1 (by rw [hlen.out]; exact hlt)] at this
        exact this
      have d1 : (wr.setCell ⟨g, j * 2, none⟩ (.int .i64 ((x : Int)))).cell? ⟨g, j * 2 + 1, none⟩ = some (F (j * 2 + 1)) := by
        have := M5.out.cell (j * 2 + 1) (by omega)
        simp only [show ¬ j * 2 + 1 = j * 2 by omega, if_false] at this
        exact this
      have OW : Hid (OwnB (wr.setCell ⟨g, j * 2, none⟩ (.int .i64 ((x : Int)))) (P j) (F (j * 2 + 1)) (ts.getD j default).bats) :=
        LOwn.keep keepsB E5.out Z5.out fun q hq => K5.out q (HR.out.1.apart j hlt q hq).1
      have ST : Hid (∀ w3, OwnB w3 (P j) (F (j * 2 + 1)) (mL mB1 nB1 (x + 1) (ts.getD j default).bats) → Foot (wr.setCell ⟨g, j * 2, none⟩ (.int .i64 ((x : Int)))) w3 (P j) → LOpen 73 2 ES w3 g n c _ P (mid mS1 nS1 k (j + 1) ts) ∧ Foot w w3 S) := fun w3 H W => by
        rw [← mid_step mS1 nS1 (by rw [hlen.out]; exact hlt), HX.out]
        refine ⟨LOpen.step keepsS (j := j) HR.out.1 hlt (M5.out.keep (W.block g M5.out.lt (fun e => (HR.out.1.apart j hlt g e).1 rfl))) (fun i hi hij q hq => ?_) (Nat.le_trans Z5.out W.size) (fun _ _ _ => rfl) (fun y hy => ⟨(HR.out.1.apart j hlt y hy).1, Nat.lt_of_lt_of_le (HR.out.1.apart j hlt y hy).2 (Nat.le_trans Z5.out W.size)⟩) (fun i hi hij y hy => HR.out.1.disj j i hlt hi (Ne.symm hij) y hy) (fun i hi hij y hy => ?_) ⟨?_, ?_⟩, B5.out.trans W (HSP.out j hlt)⟩
        · rw [if_neg (by omega)]
        · have a1 := HR.out.1.apart i hi y hy
          exact (W.block y (Nat.lt_of_lt_of_le a1.2 Z5.out) (HR.out.1.disj i j hi hlt hij y hy)).trans (K5.out y a1.1)
        · simp [mS1]
        · simp only [show ¬ j * 2 + 1 = j * 2 by omega, if_false]
          exact H
      have HKK : Hid (((x + 1 + nL nB1 (ts.getD j default).bats : Nat) : Int) = ((k + nL nS1 (ts.take (j + 1)) : Nat) : Int)) := by
        show _ = _
        rw [nL_take nS1 (by rw [hlen.out]; exact hlt), ← HX.out]
        have a3 : nS1 (ts.getD j default) = 1 + nL nB1 (ts.getD j default).bats := rfl
        omega
      have IB : Hid (x + 1 + nL nB1 (ts.getD j default).bats ≤ 4000000000000000000) := HXB.out
      obtain ⟨_, Ah, ch, hsl, _⟩ := OW.out
      have HSL := Seg.hid hsl
      rw [hsl] at d1
      clear hsl
      go_wp2_with fail
      refine (markBatchS_at _ (x + 1) (by omega) (P j) (ts.getD j default).bats _ (by omega) IB.out (HSL.out ▸ OW.out)).mono ?_
      rintro e w3 ⟨rfl, hH, hW⟩
      have S3 := Seg.hid (ST.out w3 (by rw [HSL.out]; exact hH) hW)
      rw [HKK.out]
      clear hH hW d0 d1 f0
      go_wp2
      go_roundw
      case rel => exact ⟨j + 1, _, by omega, by go_num, rfl, S3.out⟩
      case measure => simp [intOf]; omega
    · have : j = n := by omega
      subst this
      have E := HR.out
      rw [show mid mS1 nS1 k j ts = mL mS1 nS1 k ts by rw [← hlen.out]; exact mid_all _ _ _ _] at E
      have EH' := Seg.hid E
      clear E
      rw [KE.out]
      go_wp2
      go_ret
      exact ⟨F, rfl, EH'.out⟩

theorem markSegmentS_own (v : Value) (k : Nat) (S : Nat → Prop) (ts : List Sg) (w : World) (hk : 0 < k) (hk1 : k + nL nS1 ts ≤ 4000000000000000000) (hv : OwnS w S v ts) :
    Calls Try.prog 28 #[v, .int .i64 k] w fun e w' => e = .returned (.int .i64 ((k + nL nS1 ts : Nat) : Int)) ∧ OwnS w' S v (mL mS1 nS1 k ts) ∧ Foot w w' S := by
  obtain ⟨h0, A, c, rfl, h⟩ := hv
  by_cases hz : ts.length = 0
  · have : ts = [] := List.length_eq_zero_iff.1 hz
    subst this
    exact (markSegmentS_none A c k w).mono fun e w' ⟨h1, h2⟩ => by
      subst h2
      exact ⟨by rw [h1]; rfl, LOwn.nil _ _ _ _, Foot.refl _ _⟩
  obtain ⟨g, F, P, rfl, h3, h4, h5⟩ := h.resolve_left hz
  refine (markSegmentS_core g ts.length c k S P F ts w h0 hk hk1 h3 h4 h5).mono fun e w' ⟨F', a1, a2, a3⟩ => ⟨a1, ⟨by rw [mL_len]; exact h0, _, c, by rw [mL_len], .inr ⟨g, F', P, rfl, h3, fun i hi => h4 i (by rw [mL_len] at hi; exact hi), ?_⟩⟩, a3⟩
  rw [mL_len]
  exact a2
theorem markSegmentS_at (y : Int) (k : Nat) (hy : y = (k : Int)) (S : Nat → Prop) (ts : List Sg) (w : World) {v : Value} (hk : 0 < k) (hk1 : k + nL nS1 ts ≤ 4000000000000000000) (hv : OwnS w S v ts) :
    Calls Try.prog 28 #[v, .int .i64 y] w fun e w' => e = .returned (.int .i64 ((k + nL nS1 ts : Nat) : Int)) ∧ OwnS w' S v (mL mS1 nS1 k ts) ∧ Foot w w' S := by
  subst hy
  exact markSegmentS_own v k S ts w hk hk1 hv
end Go.Proofs.Ytdnfnjlnfmafkaa.Ft
namespace Go.Proofs.Ytdnfnjlnfmafkaa.Ft
set_option maxRecDepth 8000
open Go.RowKit
open Recs
open SegW
open LogW
open Segs (tot)
set_option linter.unusedVariables false
theorem nL_bound {T : Type} [Inhabited T] (n1 : T → Nat) (M : Nat) : ∀ (ts : List T), (∀ i, i < ts.length → n1 (ts.getD i default) ≤ M) → nL n1 ts ≤ ts.length * M
  | [], _ => by simp [nL]
  | t :: r, h => by
    have h0 := h 0 (by simp)
    have hr := nL_bound n1 M r (fun i hi => by have := h (i + 1) (by simpa using hi); simpa using this)
    simp only [List.getD_cons_zero] at h0
    simp only [nL, List.length_cons, Nat.succ_mul]
    omega
theorem nB_few {b : Bat} (hb : FewB b) : nB1 b ≤ 2199028498438 := by
  have a1 := nL_bound nR1 2097157 b.recs (fun i hi => by
    have := hb.2 i hi
    unfold FewR at this
    show 5 + nL nH1 _ ≤ _
    rw [nH_eq]; omega)
  have := hb.1
  unfold nB1
  have : b.recs.length * 2097157 ≤ 1048576 * 2097157 := Nat.mul_le_mul_right _ this
  omega
theorem nS_tot (ts : List Sg) (h : ∀ i, i < ts.length → FewS (ts.getD i default)) : ∀ k, k ≤ ts.length → nL nS1 (ts.take k) ≤ k + tot ts k * 2199028498438
  | 0, _ => by simp [nL, tot]
  | k + 1, hk => by
    have ih := nS_tot ts h k (by omega)
    have a1 := nL_take nS1 (ts := ts) (j := k) (by omega)
    have a2 := nL_bound nB1 2199028498438 (ts.getD k default).bats (fun i hi => nB_few ((h k (by omega)).2 i hi))
    have a3 : nS1 (ts.getD k default) = 1 + nL nB1 (ts.getD k default).bats := rfl
    have a4 : tot ts (k + 1) = tot ts k + (ts.getD k default).bats.length := rfl
    rw [a4, Nat.add_mul]
    omega
theorem log_few {t : Lg} (h : FewL t) : 1 + nL nS1 t.segs ≤ 4000000000000000000 := by
  have a1 := nS_tot t.segs h.1.2 t.segs.length (Nat.le_refl _)
  rw [List.take_length] at a1
  have a2 := h.1.1
  have a3 : tot t.segs t.segs.length * 2199028498438 ≤ 1048576 * 2199028498438 := Nat.mul_le_mul_right _ h.2
  omega
set_option maxHeartbeats 400000 in
theorem markLog_own (t : Lg) (sv : Value) (k : Nat) (S : Nat → Prop) (w : World) (hk : 0 < k) (hk1 : k + nL nS1 t.segs ≤ 4000000000000000000) (h : OwnS w S sv t.segs) (hS : ∀ x, S x → x < w.heap.size) :
    Calls Try.prog 10 #[logVal t sv, .int .i64 k] w fun e w' => e = .returned (.int .i64 ((k + nL nS1 t.segs : Nat) : Int)) ∧ OwnS w' S sv (mL mS1 nS1 k t.segs) ∧ Foot w w' S := by
  have HW := Seg.hid h
  obtain ⟨A, c, rfl⟩ := LOwn.form h
  clear h
  unfold logVal
  go_enter Try.func10, Try.ntmps10
  go_wp2_with fail
  refine (markSegmentS_own _ k S t.segs (w.alloc _) hk hk1 (LOwn.keep keepsS HW.out (by rw [hsz]; omega) (fun g hg => heap_alloc_old w _ (hS g hg)))).mono ?_
  rintro e w1 ⟨rfl, hR, b1⟩
  have HR1 := Seg.hid hR
  have B1 : Hid (Foot w w1 S) := (Foot.below (Foot.refl w S) (below1 w _)).trans b1 (fun _ hx => hx)
  clear hR b1
  go_wp2
  go_ret
  exact ⟨rfl, HR1.out, B1.out⟩
end Go.Proofs.Ytdnfnjlnfmafkaa.Ft
namespace Go.Proofs.Ytdnfnjlnfmafkaa.Ow
set_option maxRecDepth 8000
open Go.RowKit
open Recs
open Ls
set_option linter.unusedVariables false
theorem heldHeadS_none (A : Option Addr) (c : Nat) (k : Int) (w : World) : Calls Try.prog 31 #[.slice A 0 c, .int .i64 k] w fun e w' => e = .returned (.int .i64 k) ∧ Below w.heap.size w w' := by
  go_enter Try.func31, Try.ntmps31
  go_wp2
  go_loop [1, 5] (fun x i => i = .int .i64 0 ∧ x = .int .i64 k) (fun _ _ => 0)
  case atStart => exact ⟨rfl, rfl⟩
  case round =>
    obtain ⟨rfl, rfl⟩ := hrel
    go_wp2
    go_ret
    exact ⟨rfl, Below.refl _ _⟩
set_option maxHeartbeats 3200000 in
theorem heldHeadS_core (g o n c k : Nat) (us : List Hd) (F : Nat → Nat → Value) (w : World) (S : Nat → Prop) (hn : n ≤ 9223372036854775807) (hc : n ≤ c) (hg : g < w.heap.size) (hS : ∀ g, S g → g < w.heap.size) (hnl : us.length = n) (hk : 0 < k) (hk1 : k + tot nHd us ≤ 4000000000000000000)
    (ha : ∀ i, i < n → ∀ j, j < 2 → w.cell? ⟨g, o + i * 2 + j, none⟩ = some (F i j)) (he : ∀ i, i < n → EHd w S (F i) (mHd (k + tot nHd (us.take i)) (us.getD i default))) :
    Calls Try.prog 31 #[.slice (some ⟨g, o, none⟩) n c, .int .i64 k] w fun e w' => e = .returned (.int .i64 ((k + tot nHd us : Nat) : Int)) ∧ Below w.heap.size w w' := by
  have HA := Seg.hid ha; have HE := Seg.hid he
  have HN := Seg.hid hnl
  have KL : Hid (∀ j, j < n → k + tot nHd (us.take j) + nHd (us.getD j default) ≤ 4000000000000000000) := fun j hj => by
    have a1 := tot_take nHd (ts := us) (j := j) (by rw [HN.out]; exact hj)
    have a2 := tot_le nHd us (j + 1)
    omega
  have KE : Hid (k + tot nHd (us.take n) = k + tot nHd us) := by show _ = _; rw [← HN.out, List.take_length]
  clear ha he hk1 hnl
  go_enter Try.func31, Try.ntmps31
  go_wp2
  go_loopw [1, 5] (fun x i wr => ∃ (j : Nat), j ≤ n ∧ i = .int .i64 j ∧ x = .int .i64 ((k + tot nHd (us.take j) : Nat) : Int) ∧ Hid (Below w.heap.size w wr)) (fun _ i _ => n - (intOf i).toNat)
  case atStart => exact ⟨0, Nat.zero_le _, rfl, rfl, Below.refl _ _⟩
  case round =>
    obtain ⟨j, hj, rfl, rfl, HR⟩ := hrel
    by_cases hlt : j < n
    · have h0 : (0 : Int) ≤ (j : Int) := by omega
      have h1 : (j : Int) < (n : Int) := by omega
      have EL := HE.out j hlt
      have TK := Seg.hid (tot_take nHd (ts := us) (j := j) (by rw [HN.out]; exact hlt))
      have hxb := KL.out j hlt
      have HC : Hid (∀ w', Below w.heap.size w w' → ∀ q, q < 2 → w'.cell? ⟨g, o + j * 2 + q, none⟩ = some (F j q)) := fun w' hb q hq => by rw [hb.cell (p := ⟨g, o + j * 2 + q, none⟩) hg]; exact HA.out j hlt q hq
      obtain ⟨x, hx⟩ : ∃ x, k + tot nHd (us.take j) = x := ⟨_, rfl⟩
      have HX := Seg.hid hx
      rw [hx] at hxb EL ⊢
      have hx0 : 0 < x := by omega
      clear hx
      generalize us.getD j default = u at *
      have HXB := Seg.hid hxb
      clear hxb
      obtain ⟨s0, s1⟩ := EL
      have HB_x : Hid (x + 2 ≤ 4000000000000000000) := by show _ ≤ _; have := HXB.out; simp only [nHd] at this; omega
      have hd_x : x + 2 ≤ 4000000000000000000 := by have := HB_x.out; omega
      have S0 := Seg.hid s0
      have S1 := Seg.hid s1
      clear s0 s1
      have c0 : wr.cell? ⟨g, o + j * 2, none⟩ = some (.string (mt (x + 0))) := (HC.out _ HR.out 0 (by omega)).trans (by rw [S0.out]; exact congrArg (fun z : Nat => some (Value.string (mt z))) (show (x + 0) = x + 0 by omega))
      have c0d : wr.drew.cell? ⟨g, o + j * 2, none⟩ = some (.string (mt (x + 0))) := c0
      go_wp2_with fail
      go_region_with (go_at_call 29; refine (markText_at _ (x + 0) (by omega) wr.drew (by omega) (by omega)).mono ?_; rintro e w1 ⟨rfl, b1⟩; have B1 : Hid (Below w.heap.size w w1) := chainD HR.out b1; clear b1; have c0e : w1.cell? ⟨g, o + j * 2, none⟩ = some (.string (mt (x + 0))) := (HC.out _ B1.out 0 (by omega)).trans ((HC.out _ HR.out 0 (by omega)).symm.trans c0))
      all_goals
        try clear c0
        try clear c0d
        try clear c0e
        have c1 : w1.cell? ⟨g, o + j * 2 + 1, none⟩ = some (.string (mt (x + 1))) := (HC.out _ B1.out 1 (by omega)).trans (by rw [S1.out]; exact congrArg (fun z : Nat => some (Value.string (mt z))) (show (x + 1) = x + 1 by omega))
        have c1d : w1.drew.cell? ⟨g, o + j * 2 + 1, none⟩ = some (.string (mt (x + 1))) := c1
        go_wp2_with fail
        go_region_with (go_at_call 29; refine (markText_at _ (x + 1) (by omega) w1.drew (by omega) (by omega)).mono ?_; rintro e w2 ⟨rfl, b2⟩; have B2 : Hid (Below w.heap.size w w2) := chainD B1.out b2; clear b2; have c1e : w2.cell? ⟨g, o + j * 2 + 1, none⟩ = some (.string (mt (x + 1))) := (HC.out _ B2.out 1 (by omega)).trans ((HC.out _ B1.out 1 (by omega)).symm.trans c1))
        all_goals
          try clear c1
          try clear c1d
          try clear c1e
          have HKK : Hid ((x : Int) + 1 + 1 = ((k + tot nHd (us.take (j + 1)) : Nat) : Int)) := by
            show _ = _
            have a1 := TK.out; have a2 := HX.out; simp only [nHd] at a1; omega
          go_wp2
          go_roundw
          case rel => exact ⟨j + 1, by omega, by go_num, congrArg (Value.int .i64) HKK.out, B2.out⟩
          case measure => simp [intOf]; omega
    · have : j = n := by omega
      subst this
      rw [KE.out]
      go_wp2
      go_ret
      exact ⟨rfl, HR.out⟩
theorem heldHeadS_at (x : Int) (k : Nat) (hx : x = (k : Int)) (S : Nat → Prop) (us : List Hd) (w : World) {v : Value} (hk : 0 < k) (hk1 : k + tot nHd us ≤ 4000000000000000000) (hS : ∀ g, S g → g < w.heap.size) (hv : LAt 2 EHd w S v (mL mHd nHd k us)) :
    Calls Try.prog 31 #[v, .int .i64 x] w fun e w' => e = .returned (.int .i64 ((k + tot nHd us : Nat) : Int)) ∧ Below w.heap.size w w' := by
  subst hx
  obtain ⟨hn, A, c, rfl, h⟩ := hv
  rw [mL_len] at hn h ⊢
  by_cases hz : us.length = 0
  · obtain rfl := List.length_eq_zero_iff.1 hz
    exact heldHeadS_none A c k w
  obtain ⟨g, o, F, rfl, hg, hc, hcell, hel⟩ := h.resolve_left hz
  exact heldHeadS_core g o us.length c k us F w S hn hc (hS g hg) hS rfl hk hk1 hcell (fun i hi => by have := hel i hi; rw [mL_get mHd nHd hi] at this; exact this)
end Go.Proofs.Ytdnfnjlnfmafkaa.Ow
