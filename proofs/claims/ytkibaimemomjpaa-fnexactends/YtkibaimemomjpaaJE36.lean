/- Lists of Step of the call's own; the law's marks on them; Get: how it lies in memory; what the law's measure and copier answer. -/
import Derived.Test.YtkibaimemomjpaaJE35
import Derived.Test.YtkibaimemomjpaaJE11
namespace Go.Proofs.Ytkibaimemomjpaa.Ow
set_option maxRecDepth 8000
open Go.RowKit
open Recs
open Ls
set_option linter.unusedVariables false
def EOStp : Elt Stp := EStp
theorem keepsOStp : KeepsO 3 EOStp := keepsO_of keepsStp
theorem atOStp (w : World) (S : Nat → Prop) (f : Nat → Value) (u : Stp) (h : EOStp w S f u) : EStp w S f u := h
abbrev StpsOwn := LOwn 118 3 EOStp
def mStp (k : Nat) (u : Stp) : Stp := ⟨(((k + 0) : Nat) : Int), (((k + 1) : Nat) : Int), mt (k + 2)⟩
def nStp (u : Stp) : Nat := 3
theorem markStepS_none (A : Option Addr) (c : Nat) (k : Int) (w : World) : Calls Try.prog 47 #[.slice A 0 c, .int .i64 k] w fun e w' => e = .returned (.int .i64 k) ∧ w = w' := by
  go_enter Try.func47, Try.ntmps47
  go_wp2
  go_loop [1, 5] (fun x i => i = .int .i64 0 ∧ x = .int .i64 k) (fun _ _ => 0)
  case atStart => exact ⟨rfl, rfl⟩
  case round =>
    obtain ⟨rfl, rfl⟩ := hrel
    go_wp2
    go_ret
    exact ⟨rfl, rfl⟩
set_option maxHeartbeats 3200000 in
theorem markStepS_core (g n c k : Nat) (S : Nat → Prop) (P : Nat → Nat → Prop) (F0 : Nat → Value) (us : List Stp) (w : World) (hn : n ≤ 1048576) (hk : 0 < k) (hk1 : k + tot nStp us ≤ 4000000000000000000) (hSg : S g) (hSP : ∀ i, i < n → ∀ y, P i y → S y) (ho : LOpen 118 3 EOStp w g n c F0 P us) :
    Calls Try.prog 47 #[.slice (some ⟨g, 0, none⟩) n c, .int .i64 k] w fun e w' => ∃ F, e = .returned (.int .i64 ((k + tot nStp us : Nat) : Int)) ∧ LOpen 118 3 EOStp w' g n c F P (mL mStp nStp k us) ∧ Foot w w' S := by
  have hc := ho.mine.le
  have hlen := Seg.hid ho.len
  have HM : Hid (LOpen 118 3 EOStp w g n c F0 P (mid mStp nStp k 0 us) ∧ Foot w w S) := ⟨by rw [mid_zero]; exact ho, Foot.refl _ _⟩
  have HSG := Seg.hid hSg; have HSP := Seg.hid hSP
  have KL : Hid (∀ j, j < n → k + tot nStp (us.take j) + nStp (us.getD j default) ≤ 4000000000000000000) := fun j hj => by
    have a1 := tot_take nStp (ts := us) (j := j) (by rw [hlen.out]; exact hj)
    have a2 := tot_le nStp us (j + 1)
    omega
  have KE : Hid (k + tot nStp (us.take n) = k + tot nStp us) := by show _ = _; rw [← hlen.out, List.take_length]
  clear ho hSg hSP hk1
  go_enter Try.func47, Try.ntmps47
  go_wp2
  go_loopw [1, 5] (fun x i wr => ∃ (j : Nat) (F : Nat → Value), j ≤ n ∧ i = .int .i64 j ∧ x = .int .i64 ((k + tot nStp (us.take j) : Nat) : Int) ∧ Hid (LOpen 118 3 EOStp wr g n c F P (mid mStp nStp k j us) ∧ Foot w wr S)) (fun _ i _ => n - (intOf i).toNat)
  case atStart => exact ⟨0, F0, Nat.zero_le _, rfl, rfl, HM.out⟩
  case round =>
    clear HM
    obtain ⟨j, F, hj, rfl, rfl, HR⟩ := hrel
    by_cases hlt : j < n
    · have h0 : (0 : Int) ≤ (j : Int) := by omega
      have h1 : (j : Int) < (n : Int) := by omega
      have EL := HR.out.1.el j hlt
      rw [mid_get mStp nStp (by rw [hlen.out]; exact hlt)] at EL
      have MS := mid_step mStp nStp (k := k) (ts := us) (j := j) (by rw [hlen.out]; exact hlt)
      have TK := Seg.hid (tot_take nStp (ts := us) (j := j) (by rw [hlen.out]; exact hlt))
      have hxb := KL.out j hlt
      have HAP := Seg.hid (HR.out.1.apart j hlt)
      obtain ⟨x, hx⟩ : ∃ x, k + tot nStp (us.take j) = x := ⟨_, rfl⟩
      have HX := Seg.hid hx
      rw [hx] at hxb MS ⊢
      have hx0 : 0 < x := by omega
      clear hx
      have MS' := Seg.hid MS
      clear MS
      generalize us.getD j default = u at *
      have HXB := Seg.hid hxb
      clear hxb
      obtain ⟨s0, s1, s2⟩ := EL
      have R0 : Hid (Rnd 118 3 g n c (P j) w wr wr S F j [.int .i64 u.op, .int .i64 u.num, .string u.name]) := Rnd.start HR.out.1.mine HR.out.2 rfl (fun q hq => by
        match q, hq with
        | 0, _ => exact s0
        | 1, _ => exact s1
        | 2, _ => exact s2)
      clear s0 s1 s2
      have HB_x : Hid (x + 3 ≤ 4000000000000000000) := by show _ ≤ _; have := HXB.out; simp only [nStp] at this; omega
      have hc_x : x + 4 ≤ 4000000000000000000 + 4 := by have := HB_x.out; omega
      have hd_x : x + 3 ≤ 4000000000000000000 := by have := HB_x.out; omega
      have d0 : (wr).cell? ⟨g, j * 3, none⟩ = some (.int .i64 u.op) := R0.out.cell hlt 0 (by omega)
      have f0 : (wr).frozen? ⟨g, j * 3, none⟩ = false := R0.out.frozen _
      have R1 : Hid (Rnd 118 3 g n c (P j) w wr (wr.setCell ⟨g, j * 3, none⟩ (.int .i64 ((x : Int)))) S F j [.int .i64 ((x : Int)), .int .i64 u.num, .string u.name]) := R0.out.set HSG.out 0 (by omega) (.int .i64 ((x : Int)))
      have d1 : ((wr.setCell ⟨g, j * 3, none⟩ (.int .i64 ((x : Int))))).cell? ⟨g, j * 3 + 1, none⟩ = some (.int .i64 u.num) := R1.out.cell hlt 1 (by omega)
      have f1 : ((wr.setCell ⟨g, j * 3, none⟩ (.int .i64 ((x : Int))))).frozen? ⟨g, j * 3 + 1, none⟩ = false := R1.out.frozen _
      have R2 : Hid (Rnd 118 3 g n c (P j) w wr ((wr.setCell ⟨g, j * 3, none⟩ (.int .i64 ((x : Int)))).setCell ⟨g, j * 3 + 1, none⟩ (.int .i64 ((x : Int) + 1))) S F j [.int .i64 ((x : Int)), .int .i64 ((x : Int) + 1), .string u.name]) := R1.out.set HSG.out 1 (by omega) (.int .i64 ((x : Int) + 1))
      go_wp2_with fail
      clear d0 f0 d1 f1
      refine (markText_at _ (x + 2) (by omega) ((wr.setCell ⟨g, j * 3, none⟩ (.int .i64 ((x : Int)))).setCell ⟨g, j * 3 + 1, none⟩ (.int .i64 ((x : Int) + 1))) (by omega) (by omega)).mono ?_
      rintro e w1 ⟨rfl, b1⟩
      have R3 : Hid (Rnd 118 3 g n c (P j) w wr w1 S F j [.int .i64 ((x : Int)), .int .i64 ((x : Int) + 1), .string u.name]) := R2.out.below b1
      clear b1
      have d2 : (w1).cell? ⟨g, j * 3 + 2, none⟩ = some (.string u.name) := R3.out.cell hlt 2 (by omega)
      have f2 : (w1).frozen? ⟨g, j * 3 + 2, none⟩ = false := R3.out.frozen _
      have R4 : Hid (Rnd 118 3 g n c (P j) w wr (w1.setCell ⟨g, j * 3 + 2, none⟩ (.string (mt (x + 2)))) S F j [.int .i64 ((x : Int)), .int .i64 ((x : Int) + 1), .string (mt (x + 2))]) := R3.out.set HSG.out 2 (by omega) (.string (mt (x + 2)))
      have EE : Hid (EOStp (w1.setCell ⟨g, j * 3 + 2, none⟩ (.string (mt (x + 2)))) (P j) (fun q => [.int .i64 ((x : Int)), .int .i64 ((x : Int) + 1), .string (mt (x + 2))].getD q default) (mStp x u)) := by
        exact ⟨congrArg (Value.int .i64) (show (x : Int) = (((x + 0) : Nat) : Int) by omega), congrArg (Value.int .i64) (show (x : Int) + 1 = (((x + 1) : Nat) : Int) by omega), congrArg (fun z : Nat => Value.string (mt z)) (show x + 2 = (x + 2) by omega)⟩
      obtain ⟨F', L', F2⟩ := Rnd.done keepsOStp (t := mStp x u) HR.out.1 hlt R4.out EE.out
      rw [MS'.out] at L'
      have L2 := Seg.hid L'
      have F3 := Seg.hid F2
      clear L' F2
      have HKK : Hid ((x : Int) + 1 + 1 + 1 = ((k + tot nStp (us.take (j + 1)) : Nat) : Int)) := by
        show _ = _
        have a1 := TK.out; have a2 := HX.out; simp only [nStp] at a1; omega
      go_wp2
      clear d2 f2
      go_roundw
      case rel => exact ⟨j + 1, F', by omega, by go_num, congrArg (Value.int .i64) HKK.out, L2.out, F3.out⟩
      case measure => simp [intOf]; omega
    · have : j = n := by omega
      subst this
      have E := HR.out
      rw [show mid mStp nStp k j us = mL mStp nStp k us by rw [← hlen.out]; exact mid_all _ _ _ _] at E
      have EH' := Seg.hid E
      clear E
      rw [KE.out]
      go_wp2
      go_ret
      exact ⟨F, rfl, EH'.out⟩
theorem markStepS_own (x : Int) (k : Nat) (hx : x = (k : Int)) (S : Nat → Prop) (us : List Stp) (w : World) {v : Value} (hk : 0 < k) (hk1 : k + tot nStp us ≤ 4000000000000000000) (hv : StpsOwn w S v us) :
    Calls Try.prog 47 #[v, .int .i64 x] w fun e w' => e = .returned (.int .i64 ((k + tot nStp us : Nat) : Int)) ∧ StpsOwn w' S v (mL mStp nStp k us) ∧ Foot w w' S := by
  subst hx
  obtain ⟨h0, A, c, rfl, h⟩ := hv
  by_cases hz : us.length = 0
  · obtain rfl := List.length_eq_zero_iff.1 hz
    exact (markStepS_none A c k w).mono fun e w' ⟨h1, h2⟩ => by
      subst h2
      exact ⟨by rw [h1]; rfl, LOwn.nil _ _ _ _, Foot.refl _ _⟩
  obtain ⟨g, F, P, rfl, h3, h4, h5⟩ := h.resolve_left hz
  refine (markStepS_core g us.length c k S P F us w h0 hk hk1 h3 h4 h5).mono fun e w' ⟨F', a1, a2, a3⟩ => ⟨a1, ⟨by rw [mL_len]; exact h0, _, c, by rw [mL_len], .inr ⟨g, F', P, rfl, h3, fun i hi => h4 i (by rw [mL_len] at hi; exact hi), ?_⟩⟩, a3⟩
  rw [mL_len]
  exact a2
end Go.Proofs.Ytkibaimemomjpaa.Ow
namespace Go.Proofs.Ytkibaimemomjpaa.Ls
set_option maxRecDepth 8000
open Go.RowKit
open Recs
set_option linter.unusedVariables false
structure Gqt where
  kind : Int
  steps : List Stp
  nm : ByteArray
  deriving Inhabited
def EGqt : Elt Gqt := fun w S f u => f 0 = .int .i64 u.kind ∧ LAt 3 EStp w S (f 1) u.steps ∧ f 2 = .string u.nm
theorem keepsGqt : Keeps 3 EGqt := fun w w' S f f' t h hk hf => by
  obtain ⟨h0, h1, h2⟩ := h
  exact ⟨by rw [hf 0 (by omega)]; exact h0, by rw [hf 1 (by omega)]; exact h1.keep keepsStp hk, by rw [hf 2 (by omega)]; exact h2⟩
theorem growsGqt : Grows EGqt := fun w S S' f t h hs => by
  obtain ⟨h0, h1, h2⟩ := h
  exact ⟨h0, h1.mono growsStp hs, h2⟩
def arrGqt (f : Nat → Value) : Array Value := #[f 0, f 1, f 2]
theorem oneGqt {w : World} {S : Nat → Prop} {f : Nat → Value} {u : Gqt} (h : EGqt w S f u) : (arrGqt f).all (·.oneCell') = true := by
  obtain ⟨h0, h1, h2⟩ := h
  have o0 : (f 0).oneCell' = true := by rw [h0]; rfl
  have o1 : (f 1).oneCell' = true := h1.one
  have o2 : (f 2).oneCell' = true := by rw [h2]; rfl
  simp [arrGqt, o0, o1, o2]
def GqtAt (w : World) (S : Nat → Prop) (v : Value) (u : Gqt) : Prop := ∃ f, v = .agg (arrGqt f) ∧ EGqt w S f u
abbrev GqtsAt := LAt 3 EGqt
theorem GqtAt.keep {w w' : World} {S : Nat → Prop} {v : Value} {u : Gqt} (h : GqtAt w S v u) (hk : ∀ g, S g → w'.heap[g]? = w.heap[g]?) : GqtAt w' S v u := by
  obtain ⟨f, h1, h2⟩ := h
  exact ⟨f, h1, keepsGqt _ _ _ _ _ _ h2 hk (fun _ _ => rfl)⟩
theorem GqtAt.mono {w : World} {S S' : Nat → Prop} {v : Value} {u : Gqt} (h : GqtAt w S v u) (hs : ∀ g, S g → S' g) : GqtAt w S' v u := by
  obtain ⟨f, h1, h2⟩ := h
  exact ⟨f, h1, growsGqt _ _ _ _ _ h2 hs⟩
theorem GqtAt.below {w w' : World} {B : Nat} {S : Nat → Prop} {v : Value} {u : Gqt} (h : GqtAt w S v u) (hb : Below B w w') (hs : ∀ g, S g → g < B) : GqtAt w' S v u := h.keep fun g hg => hb.block g (hs g hg)
def szGqt (u : Gqt) : Nat := szL szStp (u.steps) + u.nm.size
def FineGqt (u : Gqt) : Prop := I64 u.kind ∧ FineL FineStp u.steps ∧ u.nm.size ≤ maxLen
theorem infoGqt : (Try.prog.info? 117).map (·.size) = some 3 := by kernel_rfl
theorem infoLGqt : (Try.prog.info? 112).map (·.size) = some 3 := by kernel_rfl
theorem infoZGqt : (Try.prog.info? 117).map (fun i => (i.zero, i.size, i.bytes)) = some (some (.agg #[.int .i64 0, .slice none 0 0, .string ByteArray.empty]), 3, 48) := by kernel_rfl
set_option maxHeartbeats 800000 in
theorem szGet_any (v : Value) (u : Gqt) (l : Int) (w : World) (S : Nat → Prop) (h3 : -1 ≤ l) (h4 : l ≤ 1048576) (hv : GqtAt w S v u) (hS : ∀ g, S g → g < w.heap.size) (hf : FineGqt u) :
    Calls Try.prog 70 #[v, .int .i64 l] w fun e w' => ∃ q, e = .returned (.int .i64 q) ∧ -1 ≤ q ∧ q ≤ l ∧ Lf l (szGqt u) q ∧ Below w.heap.size w w' := by
  obtain ⟨f, rfl, y0, y1, y2⟩ := hv
  try simp only [arrGqt]
  rw [show f 0 = _ from y0]
  clear y0
  obtain ⟨A1, c1, g1⟩ := y1.form
  rw [g1] at y1 ⊢
  have H1 := Seg.hid y1
  clear y1 g1
  rw [show f 2 = _ from y2]
  clear y2
  obtain ⟨z0, z1, z2⟩ := hf
  have Z1 := Seg.hid z1
  unfold maxLen at z2
  clear z0 z1
  go_enter Try.func70, Try.ntmps70
  go_wp2_with fail
  refine (szStepS_any _ u.steps _ (w.alloc _) S (by omega) (by omega) (H1.out.below keepsStp (below1 w _) hS) (fun g hg => by rw [hsz]; have := hS g hg; omega) Z1.out).mono ?_
  rintro e w1 ⟨q1, rfl, a1, b1, L1', d1⟩
  have B1 := Seg.hid (chain (below1 w _) d1)
  have L1 := Seg.hid L1'
  have T1 : Hid (w1.heap[w.heap.size]? = some (.cells #[.int .i64 u.kind, .slice A1 u.steps.length c1, .string u.nm] 112 (0, 0))) := (d1.block w.heap.size (by rw [hsz]; omega)).trans (heap_alloc_new _ _)
  have s1 : w.heap.size < w1.heap.size := (Array.getElem?_eq_some_iff.1 T1.out).1
  have p12 : w1.cell? ⟨w.heap.size, 2, none⟩ = some (.string u.nm) := cell_of_row w1 _ 2 _ _ (0, 0) T1.out
  clear d1 L1'
  by_cases k1 : q1 < 0
  · go_wp2
    go_ret
    exact ⟨_, rfl, by omega, by omega, by have m0 := L1.out.2 (by omega); simp only [szGqt]; exact ⟨fun _ => by omega, fun _ => by omega⟩, B1.out⟩
  by_cases k2 : q1 - (u.nm.size : Int) < 0
  · go_wp2
    go_ret
    exact ⟨_, rfl, by omega, by omega, by have m0 := L1.out.1 (by omega); simp only [szGqt]; exact ⟨fun _ => by omega, fun _ => by omega⟩, B1.out⟩
  go_wp2
  go_ret
  exact ⟨_, rfl, by omega, by omega, by have m0 := L1.out.1 (by omega); simp only [szGqt]; exact ⟨fun _ => by omega, fun _ => by omega⟩, B1.out⟩
set_option maxHeartbeats 1600000 in
theorem toGet_any (v : Value) (u : Gqt) (w : World) (S : Nat → Prop) (hv : GqtAt w S v u) (hS : ∀ g, S g → g < w.heap.size) (hf : szGqt u ≤ 1048576) :
    Calls Try.prog 75 #[v] w fun e w' => ∃ v', e = .returned v' ∧ GqtAt w' (seg w.heap.size w'.heap.size) v' u ∧ Below w.heap.size w w' := by
  obtain ⟨f, rfl, y0, y1, y2⟩ := hv
  try simp only [arrGqt]
  rw [show f 0 = _ from y0]
  clear y0
  obtain ⟨A1, c1, g1⟩ := y1.form
  rw [g1] at y1 ⊢
  have H1 := Seg.hid y1
  clear y1 g1
  rw [show f 2 = _ from y2]
  clear y2
  unfold szGqt at hf
  go_enter Try.func75, Try.ntmps75
  go_wp2_with fail
  refine (toStepS_any _ u.steps (((w.alloc _).alloc _).alloc _) S (H1.out.below keepsStp (below3 w _ _ _) hS) (fun g hg => by rw [hsz, hsz, hsz]; have := hS g hg; omega) (by omega)).mono ?_
  rintro e w1 ⟨v1, rfl, l1, b1⟩
  have B1 := Seg.hid (chain (below3 w _ _ _) b1)
  have Ta1 : Hid (w1.heap[w.heap.size]? = some (.cells #[.int .i64 u.kind, .slice A1 u.steps.length c1, .string u.nm] 112 (0, 0))) := (b1.block w.heap.size (by rw [hsz, hsz, hsz]; omega)).trans (at3z w _ _ _)
  have Tr1 : Hid (w1.heap[w.heap.size + 1]? = some (.cells #[.int .i64 0, .slice none 0 0, .string ByteArray.empty] 117 (0, 0))) := (b1.block (w.heap.size + 1) (by rw [hsz, hsz, hsz]; omega)).trans (at3 w _ _ _)
  have To1 : Hid (w1.heap[w.heap.size + 1 + 1]? = some (.cells #[.int .i64 u.kind, .slice none 0 0, .string ByteArray.empty] 117 (0, 0))) := (b1.block (w.heap.size + 1 + 1) (by rw [hsz, hsz, hsz]; omega)).trans (Cells.at3' w _ _ _)
  have s1 : w.heap.size + 3 ≤ w1.heap.size := by have := b1.size; rw [hsz, hsz, hsz] at this; omega
  have M1 : Hid (LAt 3 EStp w1 (seg (w.heap.size + 3) w1.heap.size) v1 u.steps) := by
    rw [hsz, hsz, hsz] at l1
    exact l1
  obtain ⟨Y1, x1, r1⟩ := M1.out.form
  subst r1
  clear b1 l1
  have N11 := M1
  have pa12 : w1.cell? ⟨w.heap.size, 2, none⟩ = some (.string u.nm) := cell_of_row w1 _ 2 _ _ (0, 0) Ta1.out
  have po11 : (w1).cell? ⟨w.heap.size + 1 + 1, 1, none⟩ = some (.slice none 0 0) := cell_of_row (w1) _ 1 _ _ (0, 0) (To1.out)
  have pf11 : (w1).frozen? ⟨w.heap.size + 1 + 1, 1, none⟩ = false := frozen_of_row (w1) _ 1 _ _ (To1.out)
  have qo11 : Hid (((w1.setCell ⟨w.heap.size + 1 + 1, 1, none⟩ (.slice Y1 u.steps.length x1))).heap[w.heap.size + 1 + 1]? = some (.cells #[.int .i64 u.kind, .slice Y1 u.steps.length x1, .string ByteArray.empty] 117 (0, 0))) := heap_setCell_same (w1) (w.heap.size + 1 + 1) 1 _ _ (.slice Y1 u.steps.length x1) (To1.out)
  have po12 : ((w1.setCell ⟨w.heap.size + 1 + 1, 1, none⟩ (.slice Y1 u.steps.length x1))).cell? ⟨w.heap.size + 1 + 1, 2, none⟩ = some (.string ByteArray.empty) := cell_of_row ((w1.setCell ⟨w.heap.size + 1 + 1, 1, none⟩ (.slice Y1 u.steps.length x1))) _ 2 _ _ (0, 0) (qo11.out)
  have pf12 : ((w1.setCell ⟨w.heap.size + 1 + 1, 1, none⟩ (.slice Y1 u.steps.length x1))).frozen? ⟨w.heap.size + 1 + 1, 2, none⟩ = false := frozen_of_row ((w1.setCell ⟨w.heap.size + 1 + 1, 1, none⟩ (.slice Y1 u.steps.length x1))) _ 2 _ _ (qo11.out)
  have qo12 : Hid ((((w1.setCell ⟨w.heap.size + 1 + 1, 1, none⟩ (.slice Y1 u.steps.length x1)).setCell ⟨w.heap.size + 1 + 1, 2, none⟩ (.string u.nm))).heap[w.heap.size + 1 + 1]? = some (.cells #[.int .i64 u.kind, .slice Y1 u.steps.length x1, .string u.nm] 117 (0, 0))) := heap_setCell_same ((w1.setCell ⟨w.heap.size + 1 + 1, 1, none⟩ (.slice Y1 u.steps.length x1))) (w.heap.size + 1 + 1) 2 _ _ (.string u.nm) (qo11.out)
  have Uo1 := Seg.hid (qo12.out)
  have Ur1 := Seg.hid ((heap_setCell_other ((w1.setCell ⟨w.heap.size + 1 + 1, 1, none⟩ (.slice Y1 u.steps.length x1))) ⟨w.heap.size + 1 + 1, 2, none⟩ (w.heap.size + 1) (.string u.nm) (by simp)).trans ((heap_setCell_other (w1) ⟨w.heap.size + 1 + 1, 1, none⟩ (w.heap.size + 1) (.slice Y1 u.steps.length x1) (by simp)).trans (Tr1.out)))
  have Ua1 := Seg.hid ((heap_setCell_other ((w1.setCell ⟨w.heap.size + 1 + 1, 1, none⟩ (.slice Y1 u.steps.length x1))) ⟨w.heap.size + 1 + 1, 2, none⟩ w.heap.size (.string u.nm) (by simp; omega)).trans ((heap_setCell_other (w1) ⟨w.heap.size + 1 + 1, 1, none⟩ w.heap.size (.slice Y1 u.steps.length x1) (by simp; omega)).trans (Ta1.out)))
  have D1 : Hid (Below w.heap.size w ((w1.setCell ⟨w.heap.size + 1 + 1, 1, none⟩ (.slice Y1 u.steps.length x1)).setCell ⟨w.heap.size + 1 + 1, 2, none⟩ (.string u.nm))) := ((B1.out).setCell (p := ⟨w.heap.size + 1 + 1, 1, none⟩) (by simp; omega) (.slice Y1 u.steps.length x1)).setCell (p := ⟨w.heap.size + 1 + 1, 2, none⟩) (by simp; omega) (.string u.nm)
  have N11' : Hid (LAt 3 EStp ((w1.setCell ⟨w.heap.size + 1 + 1, 1, none⟩ (.slice Y1 u.steps.length x1)).setCell ⟨w.heap.size + 1 + 1, 2, none⟩ (.string u.nm)) (seg (w.heap.size + 3) w1.heap.size) (.slice Y1 u.steps.length x1) u.steps) := N11.out.keep keepsStp (fun g hg => by have := hg.1; rw [heap_setCell_other _ _ _ _ (by show _ ≠ w.heap.size + 1 + 1; omega), heap_setCell_other _ _ _ _ (by show _ ≠ w.heap.size + 1 + 1; omega)])
  obtain ⟨fx, hfx⟩ : ∃ fx : Nat → Value, fx = (fun q => if q = 0 then .int .i64 u.kind else if q = 1 then .slice Y1 u.steps.length x1 else .string u.nm) := ⟨_, rfl⟩
  have HX := Seg.hid hfx
  have Uz : Hid (((w1.setCell ⟨w.heap.size + 1 + 1, 1, none⟩ (.slice Y1 u.steps.length x1)).setCell ⟨w.heap.size + 1 + 1, 2, none⟩ (.string u.nm)).heap[w.heap.size + 1 + 1]? = some (.cells (arrGqt fx) 117 (0, 0))) := by
    show _ = _
    rw [hfx]
    exact Uo1.out
  clear hfx
  have H5a := Cells.there_of Ur1.out
  have H5 : Hid (((w1.setCell ⟨w.heap.size + 1 + 1, 1, none⟩ (.slice Y1 u.steps.length x1)).setCell ⟨w.heap.size + 1 + 1, 2, none⟩ (.string u.nm)).there (w.heap.size + 1) 0 (arrGqt fx).size) := H5a
  clear H5a
  have H4 := Seg.hid (Cells.whole (vs := arrGqt fx) Ur1.out rfl)
  have B9 := Seg.hid (Cells.below_setCells (g := w.heap.size + 1) (by omega) (arrGqt fx).toList 0 _ _ D1.out)
  have F1 : Hid (LAt 3 EStp (((w1.setCell ⟨w.heap.size + 1 + 1, 1, none⟩ (.slice Y1 u.steps.length x1)).setCell ⟨w.heap.size + 1 + 1, 2, none⟩ (.string u.nm)).setCells (w.heap.size + 1) 0 (arrGqt fx).toList) (seg w.heap.size (((w1.setCell ⟨w.heap.size + 1 + 1, 1, none⟩ (.slice Y1 u.steps.length x1)).setCell ⟨w.heap.size + 1 + 1, 2, none⟩ (.string u.nm)).setCells (w.heap.size + 1) 0 (arrGqt fx).toList).heap.size) (fx 1) u.steps) := by
    show LAt 3 EStp _ _ _ _
    rw [show fx 1 = .slice Y1 u.steps.length x1 by rw [HX.out]; rfl]
    refine (N11'.out.keep keepsStp (fun g hg => ?_)).mono growsStp (fun g hg => ⟨by have := hg.1; omega, ?_⟩)
    · have := hg.1
      rw [Cells.heap_setCells_other _ _ (by omega)]
    · rw [Cells.size_setCells]
      have := hg.2
      simpa using this
  have EX : Hid (EGqt (((w1.setCell ⟨w.heap.size + 1 + 1, 1, none⟩ (.slice Y1 u.steps.length x1)).setCell ⟨w.heap.size + 1 + 1, 2, none⟩ (.string u.nm)).setCells (w.heap.size + 1) 0 (arrGqt fx).toList) (seg w.heap.size (((w1.setCell ⟨w.heap.size + 1 + 1, 1, none⟩ (.slice Y1 u.steps.length x1)).setCell ⟨w.heap.size + 1 + 1, 2, none⟩ (.string u.nm)).setCells (w.heap.size + 1) 0 (arrGqt fx).toList).heap.size) fx u) := ⟨by rw [HX.out]; rfl, F1.out, by rw [HX.out]; rfl⟩
  have ON := Seg.hid (oneGqt EX.out)
  clear Ta1 Tr1 To1 Ua1 M1
  go_upto_region 5 with fail
  clear po11 pf11 po12 pf12
  generalize ((w1.setCell ⟨w.heap.size + 1 + 1, 1, none⟩ (.slice Y1 u.steps.length x1)).setCell ⟨w.heap.size + 1 + 1, 2, none⟩ (.string u.nm)) = wz at *
  go_wp2_with (first | (refine wpList_load_row rfl 117 _ rfl (w.heap.size + 1 + 1) rfl _ _ _ _ Uz.out Try.underlying117 rfl infoGqt ?_) | (refine wpList_store_mid rfl 117 _ _ rfl (w.heap.size + 1) 0 (arrGqt fx) rfl rfl H5.out infoGqt ON.out ?_))
  exact bodyPost_ret (v := .agg (arrGqt fx)) (results_cell_row rfl _ _ (w.heap.size + 1) _ _ _ _ rfl H4.out Try.underlying117 rfl infoGqt) rfl ⟨_, rfl, ⟨fx, rfl, EX.out⟩, B9.out⟩
set_option maxHeartbeats 1600000 in
theorem eqGet_any (v v' : Value) (u : Gqt) (w : World) (S S' : Nat → Prop) (hv : GqtAt w S v u) (hv' : GqtAt w S' v' u) (hS : ∀ g, S g → g < w.heap.size) (hS' : ∀ g, S' g → g < w.heap.size) :
    Calls Try.prog 88 #[v, v'] w fun e w' => e = .returned (.bool true) ∧ Below w.heap.size w w' := by
  obtain ⟨f, rfl, y0, y1, y2⟩ := hv
  obtain ⟨f', rfl, y0', y1', y2'⟩ := hv'
  try simp only [arrGqt]
  rw [show f 0 = _ from y0]
  clear y0
  obtain ⟨A1, c1, g1⟩ := y1.form
  rw [g1] at y1 ⊢
  have H1 := Seg.hid y1
  clear y1 g1
  rw [show f 2 = _ from y2]
  clear y2
  try simp only [arrGqt]
  rw [show f' 0 = _ from y0']
  clear y0'
  obtain ⟨A1', c1', g1'⟩ := y1'.form
  rw [g1'] at y1' ⊢
  have H1' := Seg.hid y1'
  clear y1' g1'
  rw [show f' 2 = _ from y2']
  clear y2'
  go_enter Try.func88, Try.ntmps88
  go_wp2_with fail
  refine (eqStepS_any _ _ u.steps ((w.alloc _).alloc _) S S' (H1.out.below keepsStp (below2 w _ _) hS) (H1'.out.below keepsStp (below2 w _ _) hS') (fun g hg => by rw [hsz, hsz]; have := hS g hg; omega) (fun g hg => by rw [hsz, hsz]; have := hS' g hg; omega)).mono ?_
  rintro e w1 ⟨rfl, b1⟩
  have B1 := Seg.hid (chain (below2 w _ _) b1)
  have Ta1 : Hid (w1.heap[w.heap.size]? = some (.cells #[.int .i64 u.kind, .slice A1 u.steps.length c1, .string u.nm] 117 (0, 0))) := (b1.block w.heap.size (by rw [hsz, hsz]; omega)).trans (at2z w _ _)
  have Tb1 : Hid (w1.heap[w.heap.size + 1]? = some (.cells #[.int .i64 u.kind, .slice A1' u.steps.length c1', .string u.nm] 117 (0, 0))) := (b1.block (w.heap.size + 1) (by rw [hsz, hsz]; omega)).trans (at2y w _ _)
  have s1 : w.heap.size + 1 < w1.heap.size := (Array.getElem?_eq_some_iff.1 Tb1.out).1
  have pa12 : w1.cell? ⟨w.heap.size, 2, none⟩ = some (.string u.nm) := cell_of_row w1 _ 2 _ _ (0, 0) Ta1.out
  have pb12 : w1.cell? ⟨w.heap.size + 1, 2, none⟩ = some (.string u.nm) := cell_of_row w1 _ 2 _ _ (0, 0) Tb1.out
  clear b1
  go_wp2
  go_ret
  exact ⟨rfl, B1.out⟩
end Go.Proofs.Ytkibaimemomjpaa.Ls
