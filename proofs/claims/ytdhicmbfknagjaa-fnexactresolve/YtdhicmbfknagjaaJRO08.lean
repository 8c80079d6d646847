/- Lists of Value of the call's own; the law's marks on them; A copier's list of its own, filled one by one, by sets. -/
import Derived.Test.YtdhicmbfknagjaaJRO06
import Derived.Test.YtdhicmbfknagjaaJRO07
import Derived.Test.YtdhicmbfknagjaaJRO03
namespace Go.Proofs.Ytdhicmbfknagjaa.Ow
set_option maxRecDepth 8000
open Go.RowKit
open Recs
open Ls
set_option linter.unusedVariables false
def EOVlu : Elt Vlu := fun w S f u => (f 0 = .int .i64 u.kind ∧ f 1 = .int .i64 u.num ∧ f 2 = .string u.text ∧ f 3 = .bool u.lst) ∧ ∃ Q : Nat → Nat → Prop, (∀ i y, Q i y → S y) ∧ (∀ i j, i ≠ j → ∀ y, Q i y → ¬ Q j y) ∧ ItmsOwn w (Q 4) (f 4) u.items
theorem keepsOVlu : KeepsO 5 EOVlu := fun w w' S f f' t h hs hk hf => by
  obtain ⟨⟨s0, s1, s2, s3⟩, Q, q1, q2, l4⟩ := h
  exact ⟨⟨by rw [hf 0 (by omega)]; exact s0, by rw [hf 1 (by omega)]; exact s1, by rw [hf 2 (by omega)]; exact s2, by rw [hf 3 (by omega)]; exact s3⟩, Q, q1, q2, by rw [hf 4 (by omega)]; exact l4.keep keepsOItm hs (fun g hg => hk g (q1 _ g hg))⟩
theorem atOVlu (w : World) (S : Nat → Prop) (f : Nat → Value) (u : Vlu) (h : EOVlu w S f u) : EVlu w S f u := by
  obtain ⟨⟨s0, s1, s2, s3⟩, Q, q1, q2, l4⟩ := h
  exact ⟨s0, s1, s2, s3, (LOwn.lat growsItm atOItm l4).mono growsItm (q1 4)⟩
abbrev VlusOwn := LOwn 84 5 EOVlu
def mVlu (k : Nat) (u : Vlu) : Vlu := ⟨(((k + 0) : Nat) : Int), (((k + 1) : Nat) : Int), mt (k + 2), ((((k + 3) : Nat) : Int) % 3 == 0), mL mItm nItm (k + 4) u.items⟩
def nVlu (u : Vlu) : Nat := 4 + tot nItm u.items
theorem markValueS_none (A : Option Addr) (c : Nat) (k : Int) (w : World) : Calls Try.prog 27 #[.slice A 0 c, .int .i64 k] w fun e w' => e = .returned (.int .i64 k) ∧ w = w' := by
  go_enter Try.func27, Try.ntmps27
  go_wp2
  go_loop [1, 5] (fun x i => i = .int .i64 0 ∧ x = .int .i64 k) (fun _ _ => 0)
  case atStart => exact ⟨rfl, rfl⟩
  case round =>
    obtain ⟨rfl, rfl⟩ := hrel
    go_wp2
    go_ret
    exact ⟨rfl, rfl⟩
set_option maxHeartbeats 3200000 in
theorem markValueS_core (g n c k : Nat) (S : Nat → Prop) (P : Nat → Nat → Prop) (F0 : Nat → Value) (us : List Vlu) (w : World) (hn : n ≤ 1048576) (hk : 0 < k) (hk1 : k + tot nVlu us ≤ 4000000000000000000) (hSg : S g) (hSP : ∀ i, i < n → ∀ y, P i y → S y) (ho : LOpen 84 5 EOVlu w g n c F0 P us) :
    Calls Try.prog 27 #[.slice (some ⟨g, 0, none⟩) n c, .int .i64 k] w fun e w' => ∃ F, e = .returned (.int .i64 ((k + tot nVlu us : Nat) : Int)) ∧ LOpen 84 5 EOVlu w' g n c F P (mL mVlu nVlu k us) ∧ Foot w w' S := by
  have hc := ho.mine.le
  have hlen := Seg.hid ho.len
  have HM : Hid (LOpen 84 5 EOVlu w g n c F0 P (mid mVlu nVlu k 0 us) ∧ Foot w w S) := ⟨by rw [mid_zero]; exact ho, Foot.refl _ _⟩
  have HSG := Seg.hid hSg; have HSP := Seg.hid hSP
  have KL : Hid (∀ j, j < n → k + tot nVlu (us.take j) + nVlu (us.getD j default) ≤ 4000000000000000000) := fun j hj => by
    have a1 := tot_take nVlu (ts := us) (j := j) (by rw [hlen.out]; exact hj)
    have a2 := tot_le nVlu us (j + 1)
    omega
  have KE : Hid (k + tot nVlu (us.take n) = k + tot nVlu us) := by show _ = _; rw [← hlen.out, List.take_length]
  clear ho hSg hSP hk1
  go_enter Try.func27, Try.ntmps27
  go_wp2
  go_loopw [1, 5] (fun x i wr => ∃ (j : Nat) (F : Nat → Value), j ≤ n ∧ i = .int .i64 j ∧ x = .int .i64 ((k + tot nVlu (us.take j) : Nat) : Int) ∧ Hid (LOpen 84 5 EOVlu wr g n c F P (mid mVlu nVlu k j us) ∧ Foot w wr S)) (fun _ i _ => n - (intOf i).toNat)
  case atStart => exact ⟨0, F0, Nat.zero_le _, rfl, rfl, HM.out⟩
  case round =>
    clear HM
    obtain ⟨j, F, hj, rfl, rfl, HR⟩ := hrel
    by_cases hlt : j < n
    · have h0 : (0 : Int) ≤ (j : Int) := by omega
      have h1 : (j : Int) < (n : Int) := by omega
      have EL := HR.out.1.el j hlt
      rw [mid_get mVlu nVlu (by rw [hlen.out]; exact hlt)] at EL
      have MS := mid_step mVlu nVlu (k := k) (ts := us) (j := j) (by rw [hlen.out]; exact hlt)
      have TK := Seg.hid (tot_take nVlu (ts := us) (j := j) (by rw [hlen.out]; exact hlt))
      have hxb := KL.out j hlt
      have HAP := Seg.hid (HR.out.1.apart j hlt)
      obtain ⟨x, hx⟩ : ∃ x, k + tot nVlu (us.take j) = x := ⟨_, rfl⟩
      have HX := Seg.hid hx
      rw [hx] at hxb MS ⊢
      have hx0 : 0 < x := by omega
      clear hx
      have MS' := Seg.hid MS
      clear MS
      generalize us.getD j default = u at *
      have HXB := Seg.hid hxb
      clear hxb
      obtain ⟨⟨s0, s1, s2, s3⟩, Q, q1, q2, l4⟩ := EL
      obtain ⟨A4, c4, g4⟩ := l4.form
      have O0_4 : Hid (ItmsOwn wr (Q 4) (.slice A4 u.items.length c4) u.items) := by
        have := l4
        rw [g4] at this
        exact this
      have QP := Seg.hid q1
      have QD := Seg.hid q2
      have R0 : Hid (Rnd 84 5 g n c (P j) w wr wr S F j [.int .i64 u.kind, .int .i64 u.num, .string u.text, .bool u.lst, .slice A4 u.items.length c4]) := Rnd.start HR.out.1.mine HR.out.2 rfl (fun q hq => by
        match q, hq with
        | 0, _ => exact s0
        | 1, _ => exact s1
        | 2, _ => exact s2
        | 3, _ => exact s3
        | 4, _ => exact g4)
      clear s0 s1 s2 s3 l4 g4 q1 q2
      have QG : Hid (∀ i y, Q i y → y ≠ g) := fun i y hy => (HAP.out y (QP.out i y hy)).1
      have QL : Hid (∀ i y, Q i y → y < wr.heap.size) := fun i y hy => (HAP.out y (QP.out i y hy)).2
      have HB_x : Hid (x + 4 + tot nItm u.items ≤ 4000000000000000000) := by show _ ≤ _; have := HXB.out; simp only [nVlu] at this; omega
      have hc_x : x + 5 ≤ 4000000000000000000 + 5 := by have := HB_x.out; omega
      have hd_x : x + 4 ≤ 4000000000000000000 := by have := HB_x.out; omega
      have d0 : (wr).cell? ⟨g, j * 5, none⟩ = some (.int .i64 u.kind) := R0.out.cell hlt 0 (by omega)
      have f0 : (wr).frozen? ⟨g, j * 5, none⟩ = false := R0.out.frozen _
      have R1 : Hid (Rnd 84 5 g n c (P j) w wr (wr.setCell ⟨g, j * 5, none⟩ (.int .i64 ((x : Int)))) S F j [.int .i64 ((x : Int)), .int .i64 u.num, .string u.text, .bool u.lst, .slice A4 u.items.length c4]) := R0.out.set HSG.out 0 (by omega) (.int .i64 ((x : Int)))
      have O1_4 : Hid (ItmsOwn (wr.setCell ⟨g, j * 5, none⟩ (.int .i64 ((x : Int)))) (Q 4) (.slice A4 u.items.length c4) (u.items)) := O0_4.out.set keepsOItm _ (QG.out 4) _
      have d1 : ((wr.setCell ⟨g, j * 5, none⟩ (.int .i64 ((x : Int))))).cell? ⟨g, j * 5 + 1, none⟩ = some (.int .i64 u.num) := R1.out.cell hlt 1 (by omega)
      have f1 : ((wr.setCell ⟨g, j * 5, none⟩ (.int .i64 ((x : Int))))).frozen? ⟨g, j * 5 + 1, none⟩ = false := R1.out.frozen _
      have R2 : Hid (Rnd 84 5 g n c (P j) w wr ((wr.setCell ⟨g, j * 5, none⟩ (.int .i64 ((x : Int)))).setCell ⟨g, j * 5 + 1, none⟩ (.int .i64 ((x : Int) + 1))) S F j [.int .i64 ((x : Int)), .int .i64 ((x : Int) + 1), .string u.text, .bool u.lst, .slice A4 u.items.length c4]) := R1.out.set HSG.out 1 (by omega) (.int .i64 ((x : Int) + 1))
      have O2_4 : Hid (ItmsOwn ((wr.setCell ⟨g, j * 5, none⟩ (.int .i64 ((x : Int)))).setCell ⟨g, j * 5 + 1, none⟩ (.int .i64 ((x : Int) + 1))) (Q 4) (.slice A4 u.items.length c4) (u.items)) := O1_4.out.set keepsOItm _ (QG.out 4) _
      go_wp2_with fail
      clear d0 f0 d1 f1
      refine (markText_at _ (x + 2) (by omega) ((wr.setCell ⟨g, j * 5, none⟩ (.int .i64 ((x : Int)))).setCell ⟨g, j * 5 + 1, none⟩ (.int .i64 ((x : Int) + 1))) (by omega) (by omega)).mono ?_
      rintro e w1 ⟨rfl, b1⟩
      have R3 : Hid (Rnd 84 5 g n c (P j) w wr w1 S F j [.int .i64 ((x : Int)), .int .i64 ((x : Int) + 1), .string u.text, .bool u.lst, .slice A4 u.items.length c4]) := R2.out.below b1
      have O3_4 : Hid (ItmsOwn w1 (Q 4) (.slice A4 u.items.length c4) (u.items)) := O2_4.out.belowO keepsOItm b1 (fun y hy => Nat.lt_of_lt_of_le (QL.out 4 y hy) R2.out.le)
      clear b1
      have d2 : (w1).cell? ⟨g, j * 5 + 2, none⟩ = some (.string u.text) := R3.out.cell hlt 2 (by omega)
      have f2 : (w1).frozen? ⟨g, j * 5 + 2, none⟩ = false := R3.out.frozen _
      have R4 : Hid (Rnd 84 5 g n c (P j) w wr (w1.setCell ⟨g, j * 5 + 2, none⟩ (.string (mt (x + 2)))) S F j [.int .i64 ((x : Int)), .int .i64 ((x : Int) + 1), .string (mt (x + 2)), .bool u.lst, .slice A4 u.items.length c4]) := R3.out.set HSG.out 2 (by omega) (.string (mt (x + 2)))
      have O4_4 : Hid (ItmsOwn (w1.setCell ⟨g, j * 5 + 2, none⟩ (.string (mt (x + 2)))) (Q 4) (.slice A4 u.items.length c4) (u.items)) := O3_4.out.set keepsOItm _ (QG.out 4) _
      have d3 : ((w1.setCell ⟨g, j * 5 + 2, none⟩ (.string (mt (x + 2))))).cell? ⟨g, j * 5 + 3, none⟩ = some (.bool u.lst) := R4.out.cell hlt 3 (by omega)
      have f3 : ((w1.setCell ⟨g, j * 5 + 2, none⟩ (.string (mt (x + 2))))).frozen? ⟨g, j * 5 + 3, none⟩ = false := R4.out.frozen _
      have R5 : Hid (Rnd 84 5 g n c (P j) w wr ((w1.setCell ⟨g, j * 5 + 2, none⟩ (.string (mt (x + 2)))).setCell ⟨g, j * 5 + 3, none⟩ (.bool (((x : Int) + 1 + 1 + 1) % 3 == 0))) S F j [.int .i64 ((x : Int)), .int .i64 ((x : Int) + 1), .string (mt (x + 2)), .bool (((x : Int) + 1 + 1 + 1) % 3 == 0), .slice A4 u.items.length c4]) := R4.out.set HSG.out 3 (by omega) (.bool (((x : Int) + 1 + 1 + 1) % 3 == 0))
      have O5_4 : Hid (ItmsOwn ((w1.setCell ⟨g, j * 5 + 2, none⟩ (.string (mt (x + 2)))).setCell ⟨g, j * 5 + 3, none⟩ (.bool (((x : Int) + 1 + 1 + 1) % 3 == 0))) (Q 4) (.slice A4 u.items.length c4) (u.items)) := O4_4.out.set keepsOItm _ (QG.out 4) _
      have d4 : (((w1.setCell ⟨g, j * 5 + 2, none⟩ (.string (mt (x + 2)))).setCell ⟨g, j * 5 + 3, none⟩ (.bool (((x : Int) + 1 + 1 + 1) % 3 == 0)))).cell? ⟨g, j * 5 + 4, none⟩ = some (.slice A4 u.items.length c4) := R5.out.cell hlt 4 (by omega)
      go_wp2_with fail
      clear d2 f2 d3 f3 d4
      refine (markItemS_own _ (x + 4) (by omega) (Q 4) u.items ((w1.setCell ⟨g, j * 5 + 2, none⟩ (.string (mt (x + 2)))).setCell ⟨g, j * 5 + 3, none⟩ (.bool (((x : Int) + 1 + 1 + 1) % 3 == 0))) (by omega) (by have := HB_x.out; omega) O5_4.out).mono ?_
      rintro e w2 ⟨rfl, o2, t2⟩
      have R6 : Hid (Rnd 84 5 g n c (P j) w wr w2 S F j [.int .i64 ((x : Int)), .int .i64 ((x : Int) + 1), .string (mt (x + 2)), .bool (((x : Int) + 1 + 1 + 1) % 3 == 0), .slice A4 u.items.length c4]) := R5.out.foot t2 (QP.out 4) (fun h => (HAP.out g h).1 rfl) (HSP.out j hlt)
      have O6_4 : Hid (ItmsOwn w2 (Q 4) (.slice A4 u.items.length c4) (mL mItm nItm (x + 4) u.items)) := o2
      clear o2 t2
      obtain ⟨y2, hy2⟩ : ∃ y2, x + 4 + tot nItm u.items = y2 := ⟨_, rfl⟩
      rw [hy2]
      have Hy2 := Seg.hid hy2
      have HB_y2 : Hid (y2 + 0 ≤ 4000000000000000000) := by show _ ≤ _; have := HB_x.out; omega
      have hd_y2 : y2 + 0 ≤ 4000000000000000000 := by have := HB_y2.out; omega
      have hp_y2 : 0 < y2 := by omega
      clear hy2
      have EE : Hid (EOVlu w2 (P j) (fun q => [.int .i64 ((x : Int)), .int .i64 ((x : Int) + 1), .string (mt (x + 2)), .bool (((x : Int) + 1 + 1 + 1) % 3 == 0), .slice A4 u.items.length c4].getD q default) (mVlu x u)) := by
        refine ⟨⟨?_, ?_, ?_, ?_⟩, Q, QP.out, QD.out, ?_⟩
        · exact congrArg (Value.int .i64) (show (x : Int) = (((x + 0) : Nat) : Int) by have z0 := Hy2.out; omega)
        · exact congrArg (Value.int .i64) (show (x : Int) + 1 = (((x + 1) : Nat) : Int) by have z0 := Hy2.out; omega)
        · exact congrArg (fun z : Nat => Value.string (mt z)) (show x + 2 = (x + 2) by have z0 := Hy2.out; omega)
        · exact congrArg (fun z : Int => Value.bool (z % 3 == 0)) (show (x : Int) + 1 + 1 + 1 = (((x + 3) : Nat) : Int) by have z0 := Hy2.out; omega)
        · have hz : x + 4 = (x + 4) := by (have z0 := Hy2.out; omega)
          have ho := O6_4.out
          rw [hz] at ho
          exact ho
      obtain ⟨F', L', F2⟩ := Rnd.done keepsOVlu (t := mVlu x u) HR.out.1 hlt R6.out EE.out
      rw [MS'.out] at L'
      have L2 := Seg.hid L'
      have F3 := Seg.hid F2
      clear L' F2
      have HKK : Hid ((y2 : Int) = ((k + tot nVlu (us.take (j + 1)) : Nat) : Int)) := by
        show _ = _
        have z0 := Hy2.out; have a1 := TK.out; have a2 := HX.out; simp only [nVlu] at a1; omega
      go_wp2
      go_roundw
      case rel => exact ⟨j + 1, F', by omega, by go_num, congrArg (Value.int .i64) HKK.out, L2.out, F3.out⟩
      case measure => simp [intOf]; omega
    · have : j = n := by omega
      subst this
      have E := HR.out
      rw [show mid mVlu nVlu k j us = mL mVlu nVlu k us by rw [← hlen.out]; exact mid_all _ _ _ _] at E
      have EH' := Seg.hid E
      clear E
      rw [KE.out]
      go_wp2
      go_ret
      exact ⟨F, rfl, EH'.out⟩
theorem markValueS_own (x : Int) (k : Nat) (hx : x = (k : Int)) (S : Nat → Prop) (us : List Vlu) (w : World) {v : Value} (hk : 0 < k) (hk1 : k + tot nVlu us ≤ 4000000000000000000) (hv : VlusOwn w S v us) :
    Calls Try.prog 27 #[v, .int .i64 x] w fun e w' => e = .returned (.int .i64 ((k + tot nVlu us : Nat) : Int)) ∧ VlusOwn w' S v (mL mVlu nVlu k us) ∧ Foot w w' S := by
  subst hx
  obtain ⟨h0, A, c, rfl, h⟩ := hv
  by_cases hz : us.length = 0
  · obtain rfl := List.length_eq_zero_iff.1 hz
    exact (markValueS_none A c k w).mono fun e w' ⟨h1, h2⟩ => by
      subst h2
      exact ⟨by rw [h1]; rfl, LOwn.nil _ _ _ _, Foot.refl _ _⟩
  obtain ⟨g, F, P, rfl, h3, h4, h5⟩ := h.resolve_left hz
  refine (markValueS_core g us.length c k S P F us w h0 hk hk1 h3 h4 h5).mono fun e w' ⟨F', a1, a2, a3⟩ => ⟨a1, ⟨by rw [mL_len]; exact h0, _, c, by rw [mL_len], .inr ⟨g, F', P, rfl, h3, fun i hi => h4 i (by rw [mL_len] at hi; exact hi), ?_⟩⟩, a3⟩
  rw [mL_len]
  exact a2
end Go.Proofs.Ytdhicmbfknagjaa.Ow
namespace Go.Proofs.Ytdhicmbfknagjaa.Ow
set_option maxRecDepth 8000
open Go.RowKit
open Recs
open Ls
set_option linter.unusedVariables false
/-- A row of one's own that is filled one by one: m elements stand. -/
structure LPart {T : Type} [Inhabited T] (ty nf : Nat) (EO : Elt T) (w wr : World) (us : List T) (n m : Nat) (F : Nat → Value) (P : Nat → Nat → Prop) : Prop where
  mine : Mine wr ty nf w.heap.size n F
  bel : Below w.heap.size w wr
  el : ∀ i, i < m → EO wr (P i) (fun q => F (i * nf + q)) (us.getD i default)
  apart : ∀ i, i < m → ∀ x, P i x → w.heap.size < x ∧ x < wr.heap.size
  disj : ∀ i j, i < m → j < m → i ≠ j → ∀ x, P i x → ¬ P j x
section
variable {T : Type} [Inhabited T] {ty nf : Nat} {EO : Elt T}
theorem LPart.step (hE : KeepsO nf EO) {w wr w1 : World} {n m : Nat} {F : Nat → Value} {P : Nat → Nat → Prop} {us : List T} (h : LPart ty nf EO w wr us n m F P) (vs : List Value) (hv : vs.length = nf) (b1 : Below wr.heap.size wr w1)
    (he : EO w1 (seg wr.heap.size w1.heap.size) (fun q => vs.getD q default) (us.getD m default)) :
    LPart ty nf EO w (w1.setCells w.heap.size (m * nf) vs) us n (m + 1) (Own.upd F (m * nf) vs) (fun i => if i = m then seg wr.heap.size w1.heap.size else P i) := by
  have hlt := h.mine.lt
  have keep : ∀ g, g ≠ w.heap.size → (w1.setCells w.heap.size (m * nf) vs).heap[g]? = w1.heap[g]? := fun g hg => Cells.heap_setCells_other _ _ hg
  have hsize := Cells.size_setCells (g := w.heap.size) vs (o := m * nf) w1
  have b1s := b1.size
  refine ⟨Own.mine_setCells _ _ _ _ (h.mine.below b1 hlt), Cells.below_setCells (Nat.le_refl _) _ _ _ _ (chain h.bel b1), fun i hi => ?_, fun i hi x hx => ?_, fun i j hi hj hij x hx hx' => ?_⟩
  · by_cases e : i = m
    · subst e
      rw [if_pos rfl]
      exact hE _ _ _ _ _ _ he (by rw [hsize]; exact Nat.le_refl _) (fun g hg => keep g (by have := hg.1; omega)) (fun q hq => Own.upd_in (by omega))
    · rw [if_neg e]
      refine hE _ _ _ _ _ _ (h.el i (by omega)) (by rw [hsize]; exact b1s) (fun g hg => ?_) (fun q hq => ?_)
      · have := h.apart i (by omega) g hg
        exact (keep g (by omega)).trans (b1.block g (by omega))
      · refine Own.upd_out (.inl ?_)
        have : (i + 1) * nf ≤ m * nf := Nat.mul_le_mul_right nf (by omega)
        rw [Nat.succ_mul] at this
        omega
  · rw [hsize]
    by_cases e : i = m
    · subst e
      rw [if_pos rfl] at hx
      have := hx.1; have := hx.2
      exact ⟨by omega, by omega⟩
    · rw [if_neg e] at hx
      have := h.apart i (by omega) x hx
      exact ⟨by omega, by omega⟩
  · by_cases e : i = m
    · subst e
      rw [if_pos rfl] at hx
      rw [if_neg (Ne.symm hij)] at hx'
      have a1 := hx.1
      have a2 := h.apart j (by omega) x hx'
      omega
    · rw [if_neg e] at hx
      by_cases e2 : j = m
      · subst e2
        rw [if_pos rfl] at hx'
        have a1 := hx'.1
        have a2 := h.apart i (by omega) x hx
        omega
      · rw [if_neg e2] at hx'
        exact h.disj i j (by omega) (by omega) hij x hx hx'
theorem LPart.own {w wr : World} {F : Nat → Value} {P : Nat → Nat → Prop} {us : List T} (h : LPart ty nf EO w wr us us.length us.length F P) (hn : us.length ≤ 1048576) : LOwn ty nf EO wr (seg w.heap.size wr.heap.size) (.slice (some ⟨w.heap.size, 0, none⟩) us.length us.length) us :=
  ⟨hn, _, _, rfl, .inr ⟨w.heap.size, F, P, rfl, ⟨Nat.le_refl _, h.mine.lt⟩, fun i hi x hx => ⟨by have := h.apart i hi x hx; omega, (h.apart i hi x hx).2⟩, h.mine, rfl, h.el, fun i hi x hx => ⟨by have := h.apart i hi x hx; omega, (h.apart i hi x hx).2⟩, h.disj⟩⟩
end
end Go.Proofs.Ytdhicmbfknagjaa.Ow
