/- Lists of Get of the call's own; the law's marks on them; One Query of the call's own; the law's marks on it. -/
import Derived.Test.YtkibaimemomjpaaJQ41
import Derived.Test.YtkibaimemomjpaaJQ29
namespace Go.Proofs.Ytkibaimemomjpaa.Ow
set_option maxRecDepth 8000
open Go.RowKit
open Recs
open Ls
set_option linter.unusedVariables false
def EOGqt : Elt Gqt := fun w S f u => (f 0 = .int .i64 u.kind ∧ f 2 = .string u.nm) ∧ ∃ Q : Nat → Nat → Prop, (∀ i y, Q i y → S y) ∧ (∀ i j, i ≠ j → ∀ y, Q i y → ¬ Q j y) ∧ StpsOwn w (Q 1) (f 1) u.steps
theorem keepsOGqt : KeepsO 3 EOGqt := fun w w' S f f' t h hs hk hf => by
  obtain ⟨⟨s0, s2⟩, Q, q1, q2, l1⟩ := h
  exact ⟨⟨by rw [hf 0 (by omega)]; exact s0, by rw [hf 2 (by omega)]; exact s2⟩, Q, q1, q2, by rw [hf 1 (by omega)]; exact l1.keep keepsOStp hs (fun g hg => hk g (q1 _ g hg))⟩
theorem atOGqt (w : World) (S : Nat → Prop) (f : Nat → Value) (u : Gqt) (h : EOGqt w S f u) : EGqt w S f u := by
  obtain ⟨⟨s0, s2⟩, Q, q1, q2, l1⟩ := h
  exact ⟨s0, (LOwn.lat growsStp atOStp l1).mono growsStp (q1 1), s2⟩
abbrev GqtsOwn := LOwn 117 3 EOGqt
def mGqt (k : Nat) (u : Gqt) : Gqt := ⟨(((k + 0) : Nat) : Int), mL mStp nStp (k + 1) u.steps, mt (k + 1 + tot nStp u.steps)⟩
def nGqt (u : Gqt) : Nat := 2 + tot nStp u.steps
theorem markGetS_none (A : Option Addr) (c : Nat) (k : Int) (w : World) : Calls Try.prog 49 #[.slice A 0 c, .int .i64 k] w fun e w' => e = .returned (.int .i64 k) ∧ w = w' := by
  go_enter Try.func49, Try.ntmps49
  go_wp2
  go_loop [1, 5] (fun x i => i = .int .i64 0 ∧ x = .int .i64 k) (fun _ _ => 0)
  case atStart => exact ⟨rfl, rfl⟩
  case round =>
    obtain ⟨rfl, rfl⟩ := hrel
    go_wp2
    go_ret
    exact ⟨rfl, rfl⟩
set_option maxHeartbeats 3200000 in
theorem markGetS_core (g n c k : Nat) (S : Nat → Prop) (P : Nat → Nat → Prop) (F0 : Nat → Value) (us : List Gqt) (w : World) (hn : n ≤ 1048576) (hk : 0 < k) (hk1 : k + tot nGqt us ≤ 4000000000000000000) (hSg : S g) (hSP : ∀ i, i < n → ∀ y, P i y → S y) (ho : LOpen 117 3 EOGqt w g n c F0 P us) :
    Calls Try.prog 49 #[.slice (some ⟨g, 0, none⟩) n c, .int .i64 k] w fun e w' => ∃ F, e = .returned (.int .i64 ((k + tot nGqt us : Nat) : Int)) ∧ LOpen 117 3 EOGqt w' g n c F P (mL mGqt nGqt k us) ∧ Foot w w' S := by
  have hc := ho.mine.le
  have hlen := Seg.hid ho.len
  have HM : Hid (LOpen 117 3 EOGqt w g n c F0 P (mid mGqt nGqt k 0 us) ∧ Foot w w S) := ⟨by rw [mid_zero]; exact ho, Foot.refl _ _⟩
  have HSG := Seg.hid hSg; have HSP := Seg.hid hSP
  have KL : Hid (∀ j, j < n → k + tot nGqt (us.take j) + nGqt (us.getD j default) ≤ 4000000000000000000) := fun j hj => by
    have a1 := tot_take nGqt (ts := us) (j := j) (by rw [hlen.out]; exact hj)
    have a2 := tot_le nGqt us (j + 1)
    omega
  have KE : Hid (k + tot nGqt (us.take n) = k + tot nGqt us) := by show _ = _; rw [← hlen.out, List.take_length]
  clear ho hSg hSP hk1
  go_enter Try.func49, Try.ntmps49
  go_wp2
  go_loopw [1, 5] (fun x i wr => ∃ (j : Nat) (F : Nat → Value), j ≤ n ∧ i = .int .i64 j ∧ x = .int .i64 ((k + tot nGqt (us.take j) : Nat) : Int) ∧ Hid (LOpen 117 3 EOGqt wr g n c F P (mid mGqt nGqt k j us) ∧ Foot w wr S)) (fun _ i _ => n - (intOf i).toNat)
  case atStart => exact ⟨0, F0, Nat.zero_le _, rfl, rfl, HM.out⟩
  case round =>
    clear HM
    obtain ⟨j, F, hj, rfl, rfl, HR⟩ := hrel
    by_cases hlt : j < n
    · have h0 : (0 : Int) ≤ (j : Int) := by omega
      have h1 : (j : Int) < (n : Int) := by omega
      have EL := HR.out.1.el j hlt
      rw [mid_get mGqt nGqt (by rw [hlen.out]; exact hlt)] at EL
      have MS := mid_step mGqt nGqt (k := k) (ts := us) (j := j) (by rw [hlen.out]; exact hlt)
      have TK := Seg.hid (tot_take nGqt (ts := us) (j := j) (by rw [hlen.out]; exact hlt))
      have hxb := KL.out j hlt
      have HAP := Seg.hid (HR.out.1.apart j hlt)
      obtain ⟨x, hx⟩ : ∃ x, k + tot nGqt (us.take j) = x := ⟨_, rfl⟩
      have HX := Seg.hid hx
      rw [hx] at hxb MS ⊢
      have hx0 : 0 < x := by omega
      clear hx
      have MS' := Seg.hid MS
      clear MS
      generalize us.getD j default = u at *
      have HXB := Seg.hid hxb
      clear hxb
      obtain ⟨⟨s0, s2⟩, Q, q1, q2, l1⟩ := EL
      obtain ⟨A1, c1, g1⟩ := l1.form
      have O0_1 : Hid (StpsOwn wr (Q 1) (.slice A1 u.steps.length c1) u.steps) := by
        have := l1
        rw [g1] at this
        exact this
      have QP := Seg.hid q1
      have QD := Seg.hid q2
      have R0 : Hid (Rnd 117 3 g n c (P j) w wr wr S F j [.int .i64 u.kind, .slice A1 u.steps.length c1, .string u.nm]) := Rnd.start HR.out.1.mine HR.out.2 rfl (fun q hq => by
        match q, hq with
        | 0, _ => exact s0
        | 1, _ => exact g1
        | 2, _ => exact s2)
      clear s0 s2 l1 g1 q1 q2
      have QG : Hid (∀ i y, Q i y → y ≠ g) := fun i y hy => (HAP.out y (QP.out i y hy)).1
      have QL : Hid (∀ i y, Q i y → y < wr.heap.size) := fun i y hy => (HAP.out y (QP.out i y hy)).2
      have HB_x : Hid (x + 2 + tot nStp u.steps ≤ 4000000000000000000) := by show _ ≤ _; have := HXB.out; simp only [nGqt] at this; omega
      have hc_x : x + 2 ≤ 4000000000000000000 + 2 := by have := HB_x.out; omega
      have hd_x : x + 1 ≤ 4000000000000000000 := by have := HB_x.out; omega
      have d0 : (wr).cell? ⟨g, j * 3, none⟩ = some (.int .i64 u.kind) := R0.out.cell hlt 0 (by omega)
      have f0 : (wr).frozen? ⟨g, j * 3, none⟩ = false := R0.out.frozen _
      have R1 : Hid (Rnd 117 3 g n c (P j) w wr (wr.setCell ⟨g, j * 3, none⟩ (.int .i64 ((x : Int)))) S F j [.int .i64 ((x : Int)), .slice A1 u.steps.length c1, .string u.nm]) := R0.out.set HSG.out 0 (by omega) (.int .i64 ((x : Int)))
      have O1_1 : Hid (StpsOwn (wr.setCell ⟨g, j * 3, none⟩ (.int .i64 ((x : Int)))) (Q 1) (.slice A1 u.steps.length c1) (u.steps)) := O0_1.out.set keepsOStp _ (QG.out 1) _
      have d1 : ((wr.setCell ⟨g, j * 3, none⟩ (.int .i64 ((x : Int))))).cell? ⟨g, j * 3 + 1, none⟩ = some (.slice A1 u.steps.length c1) := R1.out.cell hlt 1 (by omega)
      go_wp2_with fail
      clear d0 f0 d1
      refine (markStepS_own _ (x + 1) (by omega) (Q 1) u.steps (wr.setCell ⟨g, j * 3, none⟩ (.int .i64 ((x : Int)))) (by omega) (by have := HB_x.out; omega) O1_1.out).mono ?_
      rintro e w1 ⟨rfl, o1, t1⟩
      have R2 : Hid (Rnd 117 3 g n c (P j) w wr w1 S F j [.int .i64 ((x : Int)), .slice A1 u.steps.length c1, .string u.nm]) := R1.out.foot t1 (QP.out 1) (fun h => (HAP.out g h).1 rfl) (HSP.out j hlt)
      have O2_1 : Hid (StpsOwn w1 (Q 1) (.slice A1 u.steps.length c1) (mL mStp nStp (x + 1) u.steps)) := o1
      clear o1 t1
      obtain ⟨y1, hy1⟩ : ∃ y1, x + 1 + tot nStp u.steps = y1 := ⟨_, rfl⟩
      rw [hy1]
      have Hy1 := Seg.hid hy1
      have HB_y1 : Hid (y1 + 1 ≤ 4000000000000000000) := by show _ ≤ _; have := HB_x.out; omega
      have hd_y1 : y1 + 1 ≤ 4000000000000000000 := by have := HB_y1.out; omega
      have hp_y1 : 0 < y1 := by omega
      clear hy1
      go_wp2_with fail
      refine (markText_at _ (y1) (by omega) w1 (by omega) (by omega)).mono ?_
      rintro e w2 ⟨rfl, b2⟩
      have R3 : Hid (Rnd 117 3 g n c (P j) w wr w2 S F j [.int .i64 ((x : Int)), .slice A1 u.steps.length c1, .string u.nm]) := R2.out.below b2
      have O3_1 : Hid (StpsOwn w2 (Q 1) (.slice A1 u.steps.length c1) (mL mStp nStp (x + 1) u.steps)) := O2_1.out.belowO keepsOStp b2 (fun y hy => Nat.lt_of_lt_of_le (QL.out 1 y hy) R2.out.le)
      clear b2
      have d2 : (w2).cell? ⟨g, j * 3 + 2, none⟩ = some (.string u.nm) := R3.out.cell hlt 2 (by omega)
      have f2 : (w2).frozen? ⟨g, j * 3 + 2, none⟩ = false := R3.out.frozen _
      have R4 : Hid (Rnd 117 3 g n c (P j) w wr (w2.setCell ⟨g, j * 3 + 2, none⟩ (.string (mt (y1)))) S F j [.int .i64 ((x : Int)), .slice A1 u.steps.length c1, .string (mt (y1))]) := R3.out.set HSG.out 2 (by omega) (.string (mt (y1)))
      have O4_1 : Hid (StpsOwn (w2.setCell ⟨g, j * 3 + 2, none⟩ (.string (mt (y1)))) (Q 1) (.slice A1 u.steps.length c1) (mL mStp nStp (x + 1) u.steps)) := O3_1.out.set keepsOStp _ (QG.out 1) _
      have EE : Hid (EOGqt (w2.setCell ⟨g, j * 3 + 2, none⟩ (.string (mt (y1)))) (P j) (fun q => [.int .i64 ((x : Int)), .slice A1 u.steps.length c1, .string (mt (y1))].getD q default) (mGqt x u)) := by
        refine ⟨⟨?_, ?_⟩, Q, QP.out, QD.out, ?_⟩
        · exact congrArg (Value.int .i64) (show (x : Int) = (((x + 0) : Nat) : Int) by have z0 := Hy1.out; omega)
        · exact congrArg (fun z : Nat => Value.string (mt z)) (show y1 = (x + 1 + tot nStp u.steps) by have z0 := Hy1.out; omega)
        · have hz : x + 1 = (x + 1) := by (have z0 := Hy1.out; omega)
          have ho := O4_1.out
          rw [hz] at ho
          exact ho
      obtain ⟨F', L', F2⟩ := Rnd.done keepsOGqt (t := mGqt x u) HR.out.1 hlt R4.out EE.out
      rw [MS'.out] at L'
      have L2 := Seg.hid L'
      have F3 := Seg.hid F2
      clear L' F2
      have HKK : Hid ((y1 : Int) + 1 = ((k + tot nGqt (us.take (j + 1)) : Nat) : Int)) := by
        show _ = _
        have z0 := Hy1.out; have a1 := TK.out; have a2 := HX.out; simp only [nGqt] at a1; omega
      go_wp2
      clear d2 f2
      go_roundw
      case rel => exact ⟨j + 1, F', by omega, by go_num, congrArg (Value.int .i64) HKK.out, L2.out, F3.out⟩
      case measure => simp [intOf]; omega
    · have : j = n := by omega
      subst this
      have E := HR.out
      rw [show mid mGqt nGqt k j us = mL mGqt nGqt k us by rw [← hlen.out]; exact mid_all _ _ _ _] at E
      have EH' := Seg.hid E
      clear E
      rw [KE.out]
      go_wp2
      go_ret
      exact ⟨F, rfl, EH'.out⟩
theorem markGetS_own (x : Int) (k : Nat) (hx : x = (k : Int)) (S : Nat → Prop) (us : List Gqt) (w : World) {v : Value} (hk : 0 < k) (hk1 : k + tot nGqt us ≤ 4000000000000000000) (hv : GqtsOwn w S v us) :
    Calls Try.prog 49 #[v, .int .i64 x] w fun e w' => e = .returned (.int .i64 ((k + tot nGqt us : Nat) : Int)) ∧ GqtsOwn w' S v (mL mGqt nGqt k us) ∧ Foot w w' S := by
  subst hx
  obtain ⟨h0, A, c, rfl, h⟩ := hv
  by_cases hz : us.length = 0
  · obtain rfl := List.length_eq_zero_iff.1 hz
    exact (markGetS_none A c k w).mono fun e w' ⟨h1, h2⟩ => by
      subst h2
      exact ⟨by rw [h1]; rfl, LOwn.nil _ _ _ _, Foot.refl _ _⟩
  obtain ⟨g, F, P, rfl, h3, h4, h5⟩ := h.resolve_left hz
  refine (markGetS_core g us.length c k S P F us w h0 hk hk1 h3 h4 h5).mono fun e w' ⟨F', a1, a2, a3⟩ => ⟨a1, ⟨by rw [mL_len]; exact h0, _, c, by rw [mL_len], .inr ⟨g, F', P, rfl, h3, fun i hi => h4 i (by rw [mL_len] at hi; exact hi), ?_⟩⟩, a3⟩
  rw [mL_len]
  exact a2
end Go.Proofs.Ytkibaimemomjpaa.Ow
namespace Go.Proofs.Ytkibaimemomjpaa.Ow
set_option maxRecDepth 8000
open Go.RowKit
open Recs
open Ls
set_option linter.unusedVariables false
def EOQry : Elt Qry := fun w S f u => (f 0 = .string u.fr ∧ f 1 = .string u.jn ∧ f 2 = .int .i64 u.wn ∧ f 3 = .string u.on ∧ f 4 = .string u.lk ∧ f 7 = .int .i64 u.win ∧ f 8 = .int .i64 u.size ∧ f 9 = .int .i64 u.every) ∧ ∃ Q : Nat → Nat → Prop, (∀ i y, Q i y → S y) ∧ (∀ i j, i ≠ j → ∀ y, Q i y → ¬ Q j y) ∧ StpsOwn w (Q 5) (f 5) u.wh ∧ StrsOwn w (Q 6) (f 6) u.gps ∧ GqtsOwn w (Q 10) (f 10) u.gets
theorem keepsOQry : KeepsO 11 EOQry := fun w w' S f f' t h hs hk hf => by
  obtain ⟨⟨s0, s1, s2, s3, s4, s7, s8, s9⟩, Q, q1, q2, l5, l6, l10⟩ := h
  exact ⟨⟨by rw [hf 0 (by omega)]; exact s0, by rw [hf 1 (by omega)]; exact s1, by rw [hf 2 (by omega)]; exact s2, by rw [hf 3 (by omega)]; exact s3, by rw [hf 4 (by omega)]; exact s4, by rw [hf 7 (by omega)]; exact s7, by rw [hf 8 (by omega)]; exact s8, by rw [hf 9 (by omega)]; exact s9⟩, Q, q1, q2, by rw [hf 5 (by omega)]; exact l5.keep keepsOStp hs (fun g hg => hk g (q1 _ g hg)), by rw [hf 6 (by omega)]; exact l6.keep keepsOStr hs (fun g hg => hk g (q1 _ g hg)), by rw [hf 10 (by omega)]; exact l10.keep keepsOGqt hs (fun g hg => hk g (q1 _ g hg))⟩
theorem atOQry (w : World) (S : Nat → Prop) (f : Nat → Value) (u : Qry) (h : EOQry w S f u) : EQry w S f u := by
  obtain ⟨⟨s0, s1, s2, s3, s4, s7, s8, s9⟩, Q, q1, q2, l5, l6, l10⟩ := h
  exact ⟨s0, s1, s2, s3, s4, (LOwn.lat growsStp atOStp l5).mono growsStp (q1 5), (LOwn.lat growsStr (fun _ _ _ _ h => h) l6).mono growsStr (q1 6), s7, s8, s9, (LOwn.lat growsGqt atOGqt l10).mono growsGqt (q1 10)⟩
def QryOwn (w : World) (S : Nat → Prop) (v : Value) (u : Qry) : Prop := ∃ f, v = .agg (arrQry f) ∧ EOQry w S f u
theorem QryOwn.at {w : World} {S : Nat → Prop} {v : Value} {u : Qry} (h : QryOwn w S v u) : QryAt w S v u := by
  obtain ⟨f, h1, h2⟩ := h
  exact ⟨f, h1, atOQry _ _ _ _ h2⟩
theorem QryOwn.keep {w w' : World} {S : Nat → Prop} {v : Value} {u : Qry} (h : QryOwn w S v u) (hs : w.heap.size ≤ w'.heap.size) (hk : ∀ g, S g → w'.heap[g]? = w.heap[g]?) : QryOwn w' S v u := by
  obtain ⟨f, h1, h2⟩ := h
  exact ⟨f, h1, keepsOQry _ _ _ _ _ _ h2 hs hk (fun _ _ => rfl)⟩
def mQry (k : Nat) (u : Qry) : Qry := ⟨u.fr, u.jn, u.wn, u.on, u.lk, mL mStp nStp (k) u.wh, mL mX nX (k + tot nStp u.wh) u.gps, u.win, u.size, u.every, mL mGqt nGqt (k + tot nStp u.wh + tot nX u.gps) u.gets⟩
def nQry (u : Qry) : Nat := tot nStp u.wh + tot nX u.gps + tot nGqt u.gets
set_option maxHeartbeats 1600000 in
theorem markQuery_own (x : Int) (k : Nat) (hx : x = (k : Int)) (S : Nat → Prop) (u : Qry) (w : World) {v : Value} (hk : 0 < k) (hk1 : k + nQry u ≤ 4000000000000000000) (hS : ∀ y, S y → y < w.heap.size) (hv : QryOwn w S v u) :
    Calls Try.prog 13 #[v, .int .i64 x] w fun e w' => e = .returned (.int .i64 ((k + nQry u : Nat) : Int)) ∧ QryOwn w' S v (mQry k u) ∧ Foot w w' S := by
  subst hx
  obtain ⟨f, rfl, ⟨s0, s1, s2, s3, s4, s7, s8, s9⟩, Q, q1, q2, l5, l6, l10⟩ := hv
  obtain ⟨A5, c5, g5⟩ := l5.form
  have O0_5 : Hid (StpsOwn w (Q 5) (.slice A5 u.wh.length c5) u.wh) := by rw [← g5]; exact l5
  obtain ⟨A6, c6, g6⟩ := l6.form
  have O0_6 : Hid (StrsOwn w (Q 6) (.slice A6 u.gps.length c6) u.gps) := by rw [← g6]; exact l6
  obtain ⟨A10, c10, g10⟩ := l10.form
  have O0_10 : Hid (GqtsOwn w (Q 10) (.slice A10 u.gets.length c10) u.gets) := by rw [← g10]; exact l10
  have ER : arrQry f = #[.string u.fr, .string u.jn, .int .i64 u.wn, .string u.on, .string u.lk, .slice A5 u.wh.length c5, .slice A6 u.gps.length c6, .int .i64 u.win, .int .i64 u.size, .int .i64 u.every, .slice A10 u.gets.length c10] := by unfold arrQry; rw [s0, s1, s2, s3, s4, g5, g6, s7, s8, s9, g10]
  have K0 := Seg.hid s0
  have K1 := Seg.hid s1
  have K2 := Seg.hid s2
  have K3 := Seg.hid s3
  have K4 := Seg.hid s4
  have K7 := Seg.hid s7
  have K8 := Seg.hid s8
  have K9 := Seg.hid s9
  have G5 := Seg.hid g5
  have G6 := Seg.hid g6
  have G10 := Seg.hid g10
  have QP := Seg.hid q1
  have QD := Seg.hid q2
  have QL : Hid (∀ i y, Q i y → y < w.heap.size) := fun i y hy => hS y (QP.out i y hy)
  rw [ER]
  have ER' := Seg.hid ER
  clear ER q1 q2 s0 s1 s2 s3 s4 s7 s8 s9 l5 g5 l6 g6 l10 g10
  have HB : Hid (k + nQry u ≤ 4000000000000000000) := hk1
  unfold nQry at hk1
  have hk2 : k ≤ 4000000000000000000 := by omega
  have HK := Seg.hid hk1
  clear hk1
  go_enter Try.func13, Try.ntmps13
  go_wp2_with fail
  refine (markStepS_own _ k (by omega) (Q 5) u.wh (w.alloc _) (by omega) (by have := HK.out; omega) (O0_5.out.belowO keepsOStp (below1 w _) (QL.out 5))).mono ?_
  rintro e w1 ⟨rfl, o1, t1⟩
  have O1_5 : Hid (StpsOwn w1 (Q 5) (.slice A5 u.wh.length c5) (mL mStp nStp (k) u.wh)) := o1
  have O1_6 : Hid (StrsOwn w1 (Q 6) (.slice A6 u.gps.length c6) (u.gps)) := LOwn.footO keepsOStr (O0_6.out.belowO keepsOStr (below1 w _) (QL.out 6)) t1 (fun y hy => by rw [hsz]; have := QL.out 6 y hy; omega) (QD.out 6 5 (by omega))
  have O1_10 : Hid (GqtsOwn w1 (Q 10) (.slice A10 u.gets.length c10) (u.gets)) := LOwn.footO keepsOGqt (O0_10.out.belowO keepsOGqt (below1 w _) (QL.out 10)) t1 (fun y hy => by rw [hsz]; have := QL.out 10 y hy; omega) (QD.out 10 5 (by omega))
  have F1 := Seg.hid ((Foot.of_below (below1 w _) S).trans t1 (QP.out 5))
  have T1 : Hid (w1.heap[w.heap.size]? = some (.cells #[.string u.fr, .string u.jn, .int .i64 u.wn, .string u.on, .string u.lk, .slice A5 u.wh.length c5, .slice A6 u.gps.length c6, .int .i64 u.win, .int .i64 u.size, .int .i64 u.every, .slice A10 u.gets.length c10] 34 (0, 0))) := (t1.block w.heap.size (by rw [hsz]; omega) (fun h => by have := QL.out 5 _ h; omega)).trans (heap_alloc_new _ _)
  have p1 : w1.cell? ⟨w.heap.size, 6, none⟩ = some (.slice A6 u.gps.length c6) := cell_of_row w1 _ 6 _ _ (0, 0) T1.out
  clear o1 t1
  obtain ⟨y1, hy1⟩ : ∃ y1, k + tot nStp u.wh = y1 := ⟨_, rfl⟩
  rw [hy1]
  have Hy1 := Seg.hid hy1
  have hp_y1 : 0 < y1 := by omega
  have hd_y1 : y1 ≤ 4000000000000000000 := by have z0 := Hy1.out; have := HK.out; omega
  clear hy1
  go_wp2_with fail
  refine (markStringS_own _ y1 (by omega) (Q 6) u.gps w1 (by omega) (by have z0 := Hy1.out; have := HK.out; omega) O1_6.out).mono ?_
  rintro e w2 ⟨rfl, o2, t2⟩
  have O2_5 : Hid (StpsOwn w2 (Q 5) (.slice A5 u.wh.length c5) (mL mStp nStp (k) u.wh)) := LOwn.footO keepsOStp O1_5.out t2 (fun y hy => Nat.lt_of_lt_of_le (QL.out 5 y hy) F1.out.size) (QD.out 5 6 (by omega))
  have O2_6 : Hid (StrsOwn w2 (Q 6) (.slice A6 u.gps.length c6) (mL mX nX (y1) u.gps)) := o2
  have O2_10 : Hid (GqtsOwn w2 (Q 10) (.slice A10 u.gets.length c10) (u.gets)) := LOwn.footO keepsOGqt O1_10.out t2 (fun y hy => Nat.lt_of_lt_of_le (QL.out 10 y hy) F1.out.size) (QD.out 10 6 (by omega))
  have F2 := Seg.hid (F1.out.trans t2 (QP.out 6))
  have T2 : Hid (w2.heap[w.heap.size]? = some (.cells #[.string u.fr, .string u.jn, .int .i64 u.wn, .string u.on, .string u.lk, .slice A5 u.wh.length c5, .slice A6 u.gps.length c6, .int .i64 u.win, .int .i64 u.size, .int .i64 u.every, .slice A10 u.gets.length c10] 34 (0, 0))) := (t2.block w.heap.size (Array.getElem?_eq_some_iff.1 T1.out).1 (fun h => by have := QL.out 6 _ h; omega)).trans T1.out
  have p2 : w2.cell? ⟨w.heap.size, 10, none⟩ = some (.slice A10 u.gets.length c10) := cell_of_row w2 _ 10 _ _ (0, 0) T2.out
  clear o2 t2
  obtain ⟨y2, hy2⟩ : ∃ y2, y1 + tot nX u.gps = y2 := ⟨_, rfl⟩
  rw [hy2]
  have Hy2 := Seg.hid hy2
  have hp_y2 : 0 < y2 := by omega
  have hd_y2 : y2 ≤ 4000000000000000000 := by have z0 := Hy1.out; have z1 := Hy2.out; have := HK.out; omega
  clear hy2
  go_wp2_with fail
  refine (markGetS_own _ y2 (by omega) (Q 10) u.gets w2 (by omega) (by have z0 := Hy1.out; have z1 := Hy2.out; have := HK.out; omega) O2_10.out).mono ?_
  rintro e w3 ⟨rfl, o3, t3⟩
  have O3_5 : Hid (StpsOwn w3 (Q 5) (.slice A5 u.wh.length c5) (mL mStp nStp (k) u.wh)) := LOwn.footO keepsOStp O2_5.out t3 (fun y hy => Nat.lt_of_lt_of_le (QL.out 5 y hy) F2.out.size) (QD.out 5 10 (by omega))
  have O3_6 : Hid (StrsOwn w3 (Q 6) (.slice A6 u.gps.length c6) (mL mX nX (y1) u.gps)) := LOwn.footO keepsOStr O2_6.out t3 (fun y hy => Nat.lt_of_lt_of_le (QL.out 6 y hy) F2.out.size) (QD.out 6 10 (by omega))
  have O3_10 : Hid (GqtsOwn w3 (Q 10) (.slice A10 u.gets.length c10) (mL mGqt nGqt (y2) u.gets)) := o3
  have F3 := Seg.hid (F2.out.trans t3 (QP.out 10))
  clear o3 t3
  obtain ⟨y3, hy3⟩ : ∃ y3, y2 + tot nGqt u.gets = y3 := ⟨_, rfl⟩
  rw [hy3]
  have Hy3 := Seg.hid hy3
  have hp_y3 : 0 < y3 := by omega
  have hd_y3 : y3 ≤ 4000000000000000000 := by have z0 := Hy1.out; have z1 := Hy2.out; have z2 := Hy3.out; have := HK.out; omega
  clear hy3
  go_wp2
  go_ret
  exact ⟨Seg.ret_int (by have z0 := Hy1.out; have z1 := Hy2.out; have z2 := Hy3.out; unfold nQry; omega), ⟨f, by rw [ER'.out], ⟨K0.out, K1.out, K2.out, K3.out, K4.out, K7.out, K8.out, K9.out⟩, Q, QP.out, QD.out, (by have ho := O3_5.out; rw [← G5.out] at ho; exact ho), (by have ho := O3_6.out; rw [← G6.out] at ho; rw [show y1 = k + tot nStp u.wh by have z0 := Hy1.out; have z1 := Hy2.out; have z2 := Hy3.out; omega] at ho; exact ho), (by have ho := O3_10.out; rw [← G10.out] at ho; rw [show y2 = k + tot nStp u.wh + tot nX u.gps by have z0 := Hy1.out; have z1 := Hy2.out; have z2 := Hy3.out; omega] at ho; exact ho)⟩, F3.out⟩
end Go.Proofs.Ytkibaimemomjpaa.Ow
