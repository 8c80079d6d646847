/- What the frame tells of a list that came in, of any element; The walk of the law on Matches out of the contracts. -/
import Derived.ProofKit
import Derived.Deep.SlicePairs
import Derived.Deep.RegionHeld3
import Derived.Deep.RegionLaw
import Derived.Test.YtdhicmbfknagjaaJMC03
import Derived.Test.YtdhicmbfknagjaaJMC20
import Derived.Test.YtdhicmbfknagjaaJMC27
import Derived.Test.YtdhicmbfknagjaaJMC28
namespace Go.Proofs.Ytdhicmbfknagjaa.Ls
set_option maxRecDepth 8000
open Go.ChangeShapes Go.WideShapes Go.ChangeAt Go.RowKit Go.Deep
open Recs
set_option linter.unusedVariables false
/-- All blocks of a world. -/
def All (W : World) (g : Nat) : Prop := g < W.heap.size
section
variable {H : Type} {enc : TypeId × Value → H} {W : World} {sp : Nat → Bool} {held : Bool}
theorem cellsI : Try.prog.cellsOf 3 = 1 := by kernel_rfl
theorem open_list {T : Type} [Inhabited T] {E : Elt T} {Fine : T → Prop} {tS tE nf : Nat} {fuel : Nat} {cs : List Value} {x : DataW H × List MemPlace} (hK : Keeps nf E) (hnf : 0 < nf) (hU : Try.prog.underlying tS = some (.slice tE)) (hN : Try.prog.cellsOf tE = nf)
    (hel : ∀ (fuel : Nat) (cs : List Value) (x : DataW H × List MemPlace), DataW.trod enc Try.prog W 0 sp held fuel tE cs = some x → ∃ (f : Nat → Value) (u : T), (∀ q, q < nf → cs[q]? = some (f q)) ∧ E W (All W) f u ∧ Fine u)
    (h : DataW.trod enc Try.prog W 0 sp held fuel tS cs = some x) :
    ∃ (v : Value) (us : List T), cs = [v] ∧ LAt nf E W (All W) v us ∧ FineL Fine us := by
  rcases open_slice hU h with ⟨rfl, _⟩ | ⟨a, len, cap, m, n, D, Pl, rfl, _, hl, hm, hmm, _, hx⟩
  · exact ⟨_, [], rfl, LAt.nil _ _ _ _, by simp, fun i hi => by simp at hi⟩
  have hlm : len ≤ m := by rw [hmm]; split <;> omega
  rw [hN] at hx
  obtain ⟨f, hf⟩ := choose_lt (α := (Nat → Value) × T) (n := len) (p := fun i q => (∃ cs', W.cells? 0 (a.add (i * nf)) nf = some cs' ∧ ∀ j, j < nf → cs'[j]? = some (q.1 j)) ∧ E W (All W) q.1 q.2 ∧ Fine q.2) (fun i hi => by
    obtain ⟨cs', h1, h2⟩ := hx i (by omega)
    obtain ⟨f, u, hc, hh, hfi⟩ := hel _ _ _ h2
    exact ⟨(f, u), ⟨cs', h1, hc⟩, hh, hfi⟩)
  have hlen : ((List.range len).map fun i => (f i).2).length = len := by simp
  have hget : ∀ i, i < len → ((List.range len).map fun i => (f i).2).getD i default = (f i).2 := fun i hi => by simp [hi]
  refine ⟨_, (List.range len).map fun i => (f i).2, rfl, ⟨?_, some a, cap, by rw [hlen], ?_⟩, ?_, ?_⟩
  · rw [hlen]; unfold maxLen at hm; omega
  · by_cases hz : len = 0
    · left; rw [hlen]; exact hz
    · right
      obtain ⟨b, off, spot⟩ := a
      have cell : ∀ i, i < len → ∀ j, j < nf → W.cell? (((⟨b, off, spot⟩ : Addr).add (i * nf)).add j) = some ((f i).1 j) := fun i hi j hj => by
        obtain ⟨⟨cs', h1, h2⟩, _⟩ := hf i hi
        rw [(World.cells?_some h1).2.2 j hj, h2 j hj]
      have hc := cell 0 (by omega) 0 hnf
      have hspot : spot = none := by simpa [Addr.add] using World.cell?_spot hc
      subst hspot
      have hlt : b < W.heap.size := by have := World.block_lt_of_cell? W _ hc; simpa [Addr.add] using this
      refine ⟨b, off, fun i j => (f i).1 j, rfl, hlt, by rw [hlen]; exact hl, ?_, ?_⟩
      · rw [hlen]
        intro i hi j hj
        have := cell i hi j hj
        rw [add_add, Addr.add_mid, ← Nat.add_assoc] at this
        exact this
      · rw [hlen]
        intro i hi
        rw [hget i hi]
        exact (hf i hi).2.1
  · rw [hlen]; omega
  · rw [hlen]
    intro i hi
    rw [hget i hi]
    exact (hf i hi).2.2
end
end Go.Proofs.Ytdhicmbfknagjaa.Ls
namespace Go.Proofs.Ytdhicmbfknagjaa.ExMa
set_option maxRecDepth 8000
open Go.RowKit
open Ls Lp
open ScP MaP ScI
open Recs (hsz below1 below2 below3 chain chainD)
set_option linter.unusedVariables false
theorem few_ints (ns : List Int) (h : ns.length ≤ 1048576) : tot Ow.nI ns ≤ 1000000000 := by rw [Ow.nI_tot]; omega
theorem cells0 {w : World} {g ty : Nat} {za zb : Value} (h : w.heap[g]? = some (.cells #[za, zb] ty (0, 0))) : w.cell? ⟨g, 0, none⟩ = some za ∧ w.cell? ⟨g, 1, none⟩ = some zb :=
  ⟨cell_of_row w g 0 _ _ (0, 0) h, cell_of_row w g 1 _ _ (0, 0) h⟩
theorem cells1 {w : World} {g ty : Nat} {za zb : Value} (h : w.heap[g]? = some (.cells #[za, zb] ty (0, 0))) : w.cell? ⟨g, 0, none⟩ = some za ∧ w.cell? ⟨g, 1, none⟩ = some zb :=
  ⟨cell_of_row w g 0 _ _ (0, 0) h, cell_of_row w g 1 _ _ (0, 0) h⟩
set_option maxHeartbeats 12800000 in
theorem walk (v0 : Value) (u0 : Sch) (v1 : Value) (u1 : Sch) (w : World) (hv0 : SchAt w (All w) v0 u0) (hf0 : FineSch u0) (hv1 : SchAt w (All w) v1 u1) (hf1 : FineSch u1) :
    Calls Try.prog 4 #[v0, v1] w fun e w' => e = .returned (.bool true) ∧ Below w.heap.size w w' := by
  have HV0 := Seg.hid hv0
  obtain ⟨A0_1, a0_q1, rfl⟩ := FSch.form hv0
  have HF0 := Seg.hid hf0
  have HV1 := Seg.hid hv1
  obtain ⟨A1_1, a1_q1, rfl⟩ := FSch.form hv1
  have HF1 := Seg.hid hf1
  clear hv0 hf0 hv1 hf1
  go_enter Try.func4, Try.ntmps4
  go_wp2_with fail
  refine (szSchema_any _ u0 _ ((w.alloc _).alloc _) (All w) (by omega) (by omega) ((HV0.out).below (below2 w _ _) (fun g hg => hg)) (fun g hg => Nat.lt_of_lt_of_le hg (below2 w _ _).size) HF0.out).mono ?_
  rintro e w1 ⟨q0, rfl, qa0, qb0, qc0, b1⟩
  have B1 := Seg.hid (chain (below2 w _ _) b1)
  have s1 : w.heap.size ≤ w1.heap.size := B1.out.size
  have P0_1 : Hid (w1.heap[w.heap.size]? = some (.cells #[.string u0.name, .slice A0_1 u0.fields.length a0_q1] 37 (0, 0))) := (b1.block (w.heap.size) (by rw [hsz, hsz]; omega)).trans (at2z w _ _)
  have sp0 : w.heap.size < w1.heap.size := (Array.getElem?_eq_some_iff.1 P0_1.out).1
  have P1_1 : Hid (w1.heap[w.heap.size + 1]? = some (.cells #[.string u1.name, .slice A1_1 u1.fields.length a1_q1] 37 (0, 0))) := (b1.block (w.heap.size + 1) (by rw [hsz, hsz]; omega)).trans (at2y w _ _)
  have sp1 : w.heap.size + 1 < w1.heap.size := (Array.getElem?_eq_some_iff.1 P1_1.out).1
  clear b1
  by_cases hq0 : q0 < 0
  · go_wp2
    go_ret
    exact ⟨rfl, B1.out⟩
  have FW0 : Hid (szSch u0 ≤ 1048576) := by show _ ≤ _; have := qc0.1 (by omega); omega
  clear qc0
  go_wp2_with (refine wpList_load_row rfl 37 _ rfl (w.heap.size + 1) rfl _ _ _ _ P1_1.out Try.underlying37 rfl infoLSch ?_)
  refine (szSchema_any _ u1 _ w1 (All w) (by omega) (by omega) ((HV1.out).below B1.out (fun g hg => hg)) (fun g hg => Nat.lt_of_lt_of_le hg B1.out.size) HF1.out).mono ?_
  rintro e w2 ⟨q1, rfl, qa1, qb1, qc1, b2⟩
  have D2 := Seg.hid b2
  have B2 := Seg.hid (chain B1.out D2.out)
  have s2 : w1.heap.size ≤ w2.heap.size := D2.out.size
  have P0_2 := Seg.hid ((D2.out.block (w.heap.size) (Array.getElem?_eq_some_iff.1 P0_1.out).1).trans P0_1.out)
  clear P0_1
  have P1_2 := Seg.hid ((D2.out.block (w.heap.size + 1) (Array.getElem?_eq_some_iff.1 P1_1.out).1).trans P1_1.out)
  clear P1_1
  clear b2
  by_cases hq1 : q1 < 0
  · go_wp2
    go_ret
    exact ⟨rfl, B2.out⟩
  have FW1 : Hid (szSch u1 ≤ 1048576) := by show _ ≤ _; have := qc1.1 (by omega); omega
  clear qc1
  obtain ⟨R0, hR0⟩ : ∃ R, matchL u0 u1 = R := ⟨_, rfl⟩
  have CS : Hid (∀ (wx : World) (x0 : Value) (x1 : Value), SchAt wx (fun g => g < wx.heap.size) x0 u0 → SchAt wx (fun g => g < wx.heap.size) x1 u1 → Calls Try.prog 13 #[x0, x1] wx fun e w' => ∃ r0, e = .returned (r0) ∧ Ow.IntsOwn w' (seg wx.heap.size w'.heap.size) r0 R0 ∧ Below wx.heap.size wx w') := by
    intro wx x0 x1 h0 h1
    have hh := MaK.spec_own x0 x1 u0 u1 wx _ h0 h1 (fun g hg => hg) FW0.out FW1.out
    rw [hR0] at hh
    exact hh
  have CI : Hid (∀ (wx : World) (x0 : Value) (x1 : Value), SchAt wx (fun g => g < wx.heap.size) x0 u0 → SchAt wx (fun g => g < wx.heap.size) x1 u1 → Calls Try.prog 15 #[x0, x1] wx fun e w' => ∃ r0, e = .returned (r0) ∧ Ow.IntsOwn w' (seg wx.heap.size w'.heap.size) r0 R0 ∧ Below wx.heap.size wx w') := by
    intro wx x0 x1 h0 h1
    have hh := MaK.impl_own x0 x1 u0 u1 wx _ h0 h1 (fun g hg => hg) FW0.out FW1.out
    rw [hR0] at hh
    exact hh
  have MA0 : Hid (Ow.nSch u0 ≤ 1000000000) := FwS.sch u0 FW0.out
  have MA1 : Hid (Ow.nSch u1 ≤ 1000000000) := FwS.sch u1 FW1.out
  have MR0 : Hid (tot Ow.nI R0 ≤ 1000000000) := by
    show _ ≤ _
    rw [← hR0]
    exact few_ints _ (MaK.few u0 u1)
  clear hR0
  go_wp2_with fail
  obtain ⟨c0_0_0, c0_0_1⟩ := cells0 P0_2.out
  have z0_0 : w.heap.size < w2.heap.size := (Array.getElem?_eq_some_iff.1 P0_2.out).1
  obtain ⟨c0_1_0, c0_1_1⟩ := cells1 P1_2.out
  have z0_1 : w.heap.size + 1 < w2.heap.size := (Array.getElem?_eq_some_iff.1 P1_2.out).1
  go_region_held3 (fun w' => w'.cell? ⟨w.heap.size, 0, none⟩ = some (.string u0.name) ∧ w'.cell? ⟨w.heap.size, 1, none⟩ = some (.slice A0_1 u0.fields.length a0_q1) ∧ w'.cell? ⟨w.heap.size + 1, 0, none⟩ = some (.string u1.name) ∧ w'.cell? ⟨w.heap.size + 1, 1, none⟩ = some (.slice A1_1 u1.fields.length a1_q1)) (first | exact ⟨c0_0_0, c0_0_1, c0_1_0, c0_1_1⟩ | exact ⟨e0x0x1q0_0_0, e0x0x1q0_0_1, e0x0x1q0_1_0, e0x0x1q0_1_1⟩ | exact ⟨e0x0q0_0_0, e0x0q0_0_1, e0x0q0_1_0, e0x0q0_1_1⟩ | exact ⟨e0x1q0_0_0, e0x1q0_0_1, e0x1q0_1_0, e0x1q0_1_1⟩ | exact ⟨f0_0_0, f0_0_1, f0_1_0, f0_1_1⟩ | go_keep) (first | (go_at_call_of 14 (Value.agg #[Value.string u0.name, Value.slice A0_1 u0.fields.length a0_q1]); first | (refine (toSchema_any _ u0 y0x1 (All w) ((HV0.out).below BB0x1.out (fun g hg => hg)) (fun g hg => Nat.lt_of_lt_of_le hg BB0x1.out.size) FW0.out).mono ?_; rintro e y0x0x1 ⟨vc0_0, rfl, rc, bc⟩; have N0x0x1 := Seg.hid (chain N0x1.out bc); have BB0x0x1 := Seg.hid (chain BB0x1.out bc); have RC0x0x1_0 : Hid (SchAt y0x0x1 (seg w2.heap.size y0x0x1.heap.size) vc0_0 u0) := ((rc).mono (fun g hg => ⟨Nat.le_trans N0x1.out.size hg.1, hg.2⟩)); have RC0x0x1_1 : Hid (SchAt y0x0x1 (seg w2.heap.size y0x0x1.heap.size) vc0_1 u1) := ((((RC0x1_1.out).below bc (fun g hg => hg.2))).mono (fun g hg => ⟨hg.1, Nat.lt_of_lt_of_le hg.2 bc.size⟩)); clear rc bc; have e0x0x1q0_0_0 := (N0x0x1.out.cell (p := ⟨w.heap.size, 0, none⟩) z0_0).trans c0_0_0; have e0x0x1q0_0_1 := (N0x0x1.out.cell (p := ⟨w.heap.size, 1, none⟩) z0_0).trans c0_0_1; have e0x0x1q0_1_0 := (N0x0x1.out.cell (p := ⟨w.heap.size + 1, 0, none⟩) z0_1).trans c0_1_0; have e0x0x1q0_1_1 := (N0x0x1.out.cell (p := ⟨w.heap.size + 1, 1, none⟩) z0_1).trans c0_1_1) | (refine (toSchema_any _ u0 w2.drew (All w) ((HV0.out).below B2.out.drew (fun g hg => hg)) (fun g hg => Nat.lt_of_lt_of_le hg B2.out.size) FW0.out).mono ?_; rintro e y0x0 ⟨vc0_0, rfl, rc, bc⟩; have N0x0 : Hid (Below w2.heap.size w2 y0x0) := ⟨bc.os, bc.tape, bc.output, bc.size, bc.block⟩; have BB0x0 := Seg.hid (chain B2.out N0x0.out); have RC0x0_0 : Hid (SchAt y0x0 (seg w2.heap.size y0x0.heap.size) vc0_0 u0) := rc; clear rc bc; have e0x0q0_0_0 := (N0x0.out.cell (p := ⟨w.heap.size, 0, none⟩) z0_0).trans c0_0_0; have e0x0q0_0_1 := (N0x0.out.cell (p := ⟨w.heap.size, 1, none⟩) z0_0).trans c0_0_1; have e0x0q0_1_0 := (N0x0.out.cell (p := ⟨w.heap.size + 1, 0, none⟩) z0_1).trans c0_1_0; have e0x0q0_1_1 := (N0x0.out.cell (p := ⟨w.heap.size + 1, 1, none⟩) z0_1).trans c0_1_1)) | (go_at_call_of 14 (Value.agg #[Value.string u1.name, Value.slice A1_1 u1.fields.length a1_q1]); first | (refine (toSchema_any _ u1 y0x0 (All w) ((HV1.out).below BB0x0.out (fun g hg => hg)) (fun g hg => Nat.lt_of_lt_of_le hg BB0x0.out.size) FW1.out).mono ?_; rintro e y0x0x1 ⟨vc0_1, rfl, rc, bc⟩; have N0x0x1 := Seg.hid (chain N0x0.out bc); have BB0x0x1 := Seg.hid (chain BB0x0.out bc); have RC0x0x1_1 : Hid (SchAt y0x0x1 (seg w2.heap.size y0x0x1.heap.size) vc0_1 u1) := ((rc).mono (fun g hg => ⟨Nat.le_trans N0x0.out.size hg.1, hg.2⟩)); have RC0x0x1_0 : Hid (SchAt y0x0x1 (seg w2.heap.size y0x0x1.heap.size) vc0_0 u0) := ((((RC0x0_0.out).below bc (fun g hg => hg.2))).mono (fun g hg => ⟨hg.1, Nat.lt_of_lt_of_le hg.2 bc.size⟩)); clear rc bc; have e0x0x1q0_0_0 := (N0x0x1.out.cell (p := ⟨w.heap.size, 0, none⟩) z0_0).trans c0_0_0; have e0x0x1q0_0_1 := (N0x0x1.out.cell (p := ⟨w.heap.size, 1, none⟩) z0_0).trans c0_0_1; have e0x0x1q0_1_0 := (N0x0x1.out.cell (p := ⟨w.heap.size + 1, 0, none⟩) z0_1).trans c0_1_0; have e0x0x1q0_1_1 := (N0x0x1.out.cell (p := ⟨w.heap.size + 1, 1, none⟩) z0_1).trans c0_1_1) | (refine (toSchema_any _ u1 w2.drew (All w) ((HV1.out).below B2.out.drew (fun g hg => hg)) (fun g hg => Nat.lt_of_lt_of_le hg B2.out.size) FW1.out).mono ?_; rintro e y0x1 ⟨vc0_1, rfl, rc, bc⟩; have N0x1 : Hid (Below w2.heap.size w2 y0x1) := ⟨bc.os, bc.tape, bc.output, bc.size, bc.block⟩; have BB0x1 := Seg.hid (chain B2.out N0x1.out); have RC0x1_1 : Hid (SchAt y0x1 (seg w2.heap.size y0x1.heap.size) vc0_1 u1) := rc; clear rc bc; have e0x1q0_0_0 := (N0x1.out.cell (p := ⟨w.heap.size, 0, none⟩) z0_0).trans c0_0_0; have e0x1q0_0_1 := (N0x1.out.cell (p := ⟨w.heap.size, 1, none⟩) z0_0).trans c0_0_1; have e0x1q0_1_0 := (N0x1.out.cell (p := ⟨w.heap.size + 1, 0, none⟩) z0_1).trans c0_1_0; have e0x1q0_1_1 := (N0x1.out.cell (p := ⟨w.heap.size + 1, 1, none⟩) z0_1).trans c0_1_1)) | (go_at_call 13; refine (CS.out y0x0x1 _ _ ((RC0x0x1_0.out).mono (fun g hg => hg.2)) ((RC0x0x1_1.out).mono (fun g hg => hg.2))).mono ?_; rintro e w3 ⟨r3_0, rfl, h3_0, b3⟩; have NN0 := Seg.hid (chain N0x0x1.out b3); have f0_0_0 := (NN0.out.cell (p := ⟨w.heap.size, 0, none⟩) z0_0).trans c0_0_0; have f0_0_1 := (NN0.out.cell (p := ⟨w.heap.size, 1, none⟩) z0_0).trans c0_0_1; have f0_1_0 := (NN0.out.cell (p := ⟨w.heap.size + 1, 0, none⟩) z0_1).trans c0_1_0; have f0_1_1 := (NN0.out.cell (p := ⟨w.heap.size + 1, 1, none⟩) z0_1).trans c0_1_1))
  all_goals
    clear c0_0_0 c0_0_1 c0_1_0 c0_1_1 f0_0_0 f0_0_1 f0_1_0 f0_1_1
    have sy0 : w2.heap.size ≤ y0x0x1.heap.size := N0x0x1.out.size
    have sz0 : y0x0x1.heap.size ≤ w3.heap.size := b3.size
    have D3 := Seg.hid NN0.out
    have B3 := Seg.hid (chain B2.out D3.out)
    have s3 : w2.heap.size ≤ w3.heap.size := D3.out.size
    have P0_3 := Seg.hid ((D3.out.block (w.heap.size) (Array.getElem?_eq_some_iff.1 P0_2.out).1).trans P0_2.out)
    clear P0_2
    have P1_3 := Seg.hid ((D3.out.block (w.heap.size + 1) (Array.getElem?_eq_some_iff.1 P1_2.out).1).trans P1_2.out)
    clear P1_2
    clear NN0 z0_0 z0_1
    obtain ⟨A3_0, c3_0, rfl⟩ := Ow.LOwn.form h3_0
    have Wr0_3 := Seg.hid (Ow.LOwn.lat growsI (fun _ _ _ _ h => h) h3_0)
    clear b3 h3_0
    go_wp2_with (refine wpList_load_row rfl 37 _ rfl (w.heap.size) rfl _ _ _ _ P0_3.out Try.underlying37 rfl infoLSch ?_)
    refine (Ow.toSchema_own _ u0 w3 (All w) ((HV0.out).below B3.out (fun g hg => hg)) (fun g hg => Nat.lt_of_lt_of_le hg (B3.out).size) FW0.out).mono ?_
    rintro e w4 ⟨vx0, rfl, rx0, b4⟩
    have D4 := Seg.hid b4
    have B4 := Seg.hid (chain B3.out D4.out)
    have s4 : w3.heap.size ≤ w4.heap.size := D4.out.size
    have P0_4 := Seg.hid ((D4.out.block (w.heap.size) (Array.getElem?_eq_some_iff.1 P0_3.out).1).trans P0_3.out)
    clear P0_3
    have P1_4 := Seg.hid ((D4.out.block (w.heap.size + 1) (Array.getElem?_eq_some_iff.1 P1_3.out).1).trans P1_3.out)
    clear P1_3
    have Wr0_4 := Seg.hid (LAt.below keepsI Wr0_3.out D4.out (fun g hg => by have := hg.2; omega))
    clear Wr0_3
    obtain ⟨D0_1, d0_q1, hvx0⟩ := FSch.form (Ow.SchOwn.at rx0)
    subst hvx0
    have RX0_4 := Seg.hid rx0
    clear rx0 b4
    go_wp2_with (refine wpList_load_row rfl 37 _ rfl (w.heap.size + 1) rfl _ _ _ _ (((below1 w4 _).block (w.heap.size + 1) (Array.getElem?_eq_some_iff.1 P1_4.out).1).trans P1_4.out) Try.underlying37 rfl infoLSch ?_)
    refine (Ow.toSchema_own _ u1 (w4.alloc _) (All w) ((HV1.out).below (chain B4.out (below1 w4 _)) (fun g hg => hg)) (fun g hg => Nat.lt_of_lt_of_le hg ((chain B4.out (below1 w4 _))).size) FW1.out).mono ?_
    rintro e w5 ⟨vx1, rfl, rx1, b5⟩
    have D5 := Seg.hid (chain (below1 w4 _) b5)
    have B5 := Seg.hid (chain B4.out D5.out)
    have s5 : w4.heap.size ≤ w5.heap.size := D5.out.size
    have P0_5 := Seg.hid ((D5.out.block (w.heap.size) (Array.getElem?_eq_some_iff.1 P0_4.out).1).trans P0_4.out)
    clear P0_4
    have P1_5 := Seg.hid ((D5.out.block (w.heap.size + 1) (Array.getElem?_eq_some_iff.1 P1_4.out).1).trans P1_4.out)
    clear P1_4
    have Wr0_5 := Seg.hid (LAt.below keepsI Wr0_4.out D5.out (fun g hg => by have := hg.2; omega))
    clear Wr0_4
    have RX0_5 := Seg.hid (Ow.SchOwn.keep RX0_4.out D5.out.size (fun g hg => D5.out.block g (by have := hg.2; omega)))
    clear RX0_4
    have X0_5 : Hid (w5.heap[w4.heap.size]? = some (.cells #[.string u0.name, .slice D0_1 u0.fields.length d0_q1] 43 (0, 0))) := (b5.block w4.heap.size (by rw [hsz]; omega)).trans (heap_alloc_new _ _)
    have s5p : w4.heap.size + 1 ≤ w5.heap.size := by have := b5.size; rw [hsz] at this; exact this
    rw [hsz] at rx1
    obtain ⟨D1_1, d1_q1, hvx1⟩ := FSch.form (Ow.SchOwn.at rx1)
    subst hvx1
    have RX1_5 := Seg.hid rx1
    clear rx1 b5
    go_wp2_with (refine wpList_load_row rfl 43 _ rfl (w4.heap.size) rfl _ _ _ _ (((below1 w5 _).block (w4.heap.size) (Array.getElem?_eq_some_iff.1 X0_5.out).1).trans X0_5.out) Try.underlying43 rfl infoSch ?_)
    refine (CI.out (w5.alloc _) _ _ (((((Ow.SchOwn.at RX0_5.out)).below (below1 w5 _) (fun g hg => by have := hg.2; omega))).mono (fun g hg => by rw [hsz]; have := hg.2; omega)) (((((Ow.SchOwn.at RX1_5.out)).below (below1 w5 _) (fun g hg => by have := hg.2; omega))).mono (fun g hg => by rw [hsz]; have := hg.2; omega))).mono ?_
    rintro e w6 ⟨r6_0, rfl, h6_0, b6⟩
    have D6 := Seg.hid (chain (below1 w5 _) b6)
    have B6 := Seg.hid (chain B5.out D6.out)
    have s6 : w5.heap.size ≤ w6.heap.size := D6.out.size
    have P0_6 := Seg.hid ((D6.out.block (w.heap.size) (Array.getElem?_eq_some_iff.1 P0_5.out).1).trans P0_5.out)
    clear P0_5
    have P1_6 := Seg.hid ((D6.out.block (w.heap.size + 1) (Array.getElem?_eq_some_iff.1 P1_5.out).1).trans P1_5.out)
    clear P1_5
    have Wr0_6 := Seg.hid (LAt.below keepsI Wr0_5.out D6.out (fun g hg => by have := hg.2; omega))
    clear Wr0_5
    have RX0_6 := Seg.hid (Ow.SchOwn.keep RX0_5.out D6.out.size (fun g hg => D6.out.block g (by have := hg.2; omega)))
    clear RX0_5
    have X0_6 := Seg.hid ((D6.out.block (w4.heap.size) (Array.getElem?_eq_some_iff.1 X0_5.out).1).trans X0_5.out)
    clear X0_5
    have RX1_6 := Seg.hid (Ow.SchOwn.keep RX1_5.out D6.out.size (fun g hg => D6.out.block g (by have := hg.2; omega)))
    clear RX1_5
    have X1_6 : Hid (w6.heap[w5.heap.size]? = some (.cells #[.string u1.name, .slice D1_1 u1.fields.length d1_q1] 43 (0, 0))) := (b6.block w5.heap.size (by rw [hsz]; omega)).trans (heap_alloc_new _ _)
    have s6p : w5.heap.size + 1 ≤ w6.heap.size := by have := b6.size; rw [hsz] at this; exact this
    rw [hsz] at h6_0
    obtain ⟨A6_0, c6_0, rfl⟩ := Ow.LOwn.form h6_0
    have G0_6 := Seg.hid h6_0
    clear b6 h6_0
    go_wp2_with fail
    refine (eqIntS_any _ _ R0 w6 _ _ (Ow.LOwn.lat growsI (fun _ _ _ _ h => h) G0_6.out) Wr0_6.out (fun g hg => by have := hg.2; omega) (fun g hg => by have := hg.2; omega)).mono ?_
    rintro e w7 ⟨rfl, b7⟩
    have D7 := Seg.hid b7
    have B7 := Seg.hid (chain B6.out D7.out)
    have s7 : w6.heap.size ≤ w7.heap.size := D7.out.size
    have P0_7 := Seg.hid ((D7.out.block (w.heap.size) (Array.getElem?_eq_some_iff.1 P0_6.out).1).trans P0_6.out)
    clear P0_6
    have P1_7 := Seg.hid ((D7.out.block (w.heap.size + 1) (Array.getElem?_eq_some_iff.1 P1_6.out).1).trans P1_6.out)
    clear P1_6
    have Wr0_7 := Seg.hid (LAt.below keepsI Wr0_6.out D7.out (fun g hg => by have := hg.2; omega))
    clear Wr0_6
    have RX0_7 := Seg.hid (Ow.SchOwn.keep RX0_6.out D7.out.size (fun g hg => D7.out.block g (by have := hg.2; omega)))
    clear RX0_6
    have X0_7 := Seg.hid ((D7.out.block (w4.heap.size) (Array.getElem?_eq_some_iff.1 X0_6.out).1).trans X0_6.out)
    clear X0_6
    have RX1_7 := Seg.hid (Ow.SchOwn.keep RX1_6.out D7.out.size (fun g hg => D7.out.block g (by have := hg.2; omega)))
    clear RX1_6
    have X1_7 := Seg.hid ((D7.out.block (w5.heap.size) (Array.getElem?_eq_some_iff.1 X1_6.out).1).trans X1_6.out)
    clear X1_6
    have G0_7 := Seg.hid (Ow.LOwn.belowO Ow.keepsOI G0_6.out D7.out (fun g hg => by have := hg.2; omega))
    clear G0_6
    clear b7
    go_wp2_with fail
    obtain ⟨x0_0, x0_1⟩ := cells0 X0_7.out
    obtain ⟨y0_0, y0_1⟩ := cells0 P0_7.out
    have hx0 : w4.heap.size < w7.heap.size := (Array.getElem?_eq_some_iff.1 X0_7.out).1
    have hy0 : w.heap.size < w7.heap.size := (Array.getElem?_eq_some_iff.1 P0_7.out).1
    go_region_held3 (fun w' => w'.cell? ⟨w4.heap.size, 0, none⟩ = some (.string u0.name) ∧ w'.cell? ⟨w4.heap.size, 1, none⟩ = some (.slice D0_1 u0.fields.length d0_q1) ∧ w'.cell? ⟨w.heap.size, 0, none⟩ = some (.string u0.name) ∧ w'.cell? ⟨w.heap.size, 1, none⟩ = some (.slice A0_1 u0.fields.length a0_q1)) (first | exact ⟨x0_0, x0_1, y0_0, y0_1⟩ | exact ⟨p0_0, p0_1, o0_0, o0_1⟩ | exact ⟨s0_0, s0_1, t0_0, t0_1⟩ | go_keep) (first | (go_at_call 14; refine (toSchema_any _ u0 w7.drew (All w) ((HV0.out).below B7.out.drew (fun g hg => hg)) (fun g hg => Nat.lt_of_lt_of_le hg B7.out.size) FW0.out).mono ?_; rintro e t8 ⟨vz0, rfl, rz0, b8⟩; have T8 : Hid (Below w7.heap.size w7 t8) := ⟨b8.os, b8.tape, b8.output, b8.size, b8.block⟩; have RZ0 : Hid (SchAt t8 (seg w7.heap.size t8.heap.size) vz0 u0) := rz0; have st8 : w7.heap.size ≤ t8.heap.size := T8.out.size; have RY0 := Seg.hid (((Ow.SchOwn.at RX0_7.out)).below T8.out (fun g hg => by have := hg.2; omega)); clear rz0 b8; have p0_0 := (T8.out.cell (p := ⟨w4.heap.size, 0, none⟩) hx0).trans x0_0; have p0_1 := (T8.out.cell (p := ⟨w4.heap.size, 1, none⟩) hx0).trans x0_1; have o0_0 := (T8.out.cell (p := ⟨w.heap.size, 0, none⟩) hy0).trans y0_0; have o0_1 := (T8.out.cell (p := ⟨w.heap.size, 1, none⟩) hy0).trans y0_1) | (go_at_call 17; refine (eqSchema_any _ _ u0 t8 _ _ RY0.out RZ0.out (fun g hg => by have := hg.2; omega) (fun g hg => hg.2)).mono ?_; rintro e w8 ⟨rfl, b8⟩; have TT8 := Seg.hid (chain T8.out b8); clear b8; have s0_0 := (TT8.out.cell (p := ⟨w4.heap.size, 0, none⟩) hx0).trans x0_0; have s0_1 := (TT8.out.cell (p := ⟨w4.heap.size, 1, none⟩) hx0).trans x0_1; have t0_0 := (TT8.out.cell (p := ⟨w.heap.size, 0, none⟩) hy0).trans y0_0; have t0_1 := (TT8.out.cell (p := ⟨w.heap.size, 1, none⟩) hy0).trans y0_1))
    clear x0_0 x0_1 y0_0 y0_1 p0_0 p0_1 o0_0 o0_1 s0_0 s0_1 t0_0 t0_1 hx0 hy0 RZ0 RY0
    have D8 := Seg.hid TT8.out
    have B8 := Seg.hid (chain B7.out D8.out)
    have s8 : w7.heap.size ≤ w8.heap.size := D8.out.size
    have P0_8 := Seg.hid ((D8.out.block (w.heap.size) (Array.getElem?_eq_some_iff.1 P0_7.out).1).trans P0_7.out)
    clear P0_7
    have P1_8 := Seg.hid ((D8.out.block (w.heap.size + 1) (Array.getElem?_eq_some_iff.1 P1_7.out).1).trans P1_7.out)
    clear P1_7
    have Wr0_8 := Seg.hid (LAt.below keepsI Wr0_7.out D8.out (fun g hg => by have := hg.2; omega))
    clear Wr0_7
    have RX0_8 := Seg.hid (Ow.SchOwn.keep RX0_7.out D8.out.size (fun g hg => D8.out.block g (by have := hg.2; omega)))
    clear RX0_7
    have X0_8 := Seg.hid ((D8.out.block (w4.heap.size) (Array.getElem?_eq_some_iff.1 X0_7.out).1).trans X0_7.out)
    clear X0_7
    have RX1_8 := Seg.hid (Ow.SchOwn.keep RX1_7.out D8.out.size (fun g hg => D8.out.block g (by have := hg.2; omega)))
    clear RX1_7
    have X1_8 := Seg.hid ((D8.out.block (w5.heap.size) (Array.getElem?_eq_some_iff.1 X1_7.out).1).trans X1_7.out)
    clear X1_7
    have G0_8 := Seg.hid (Ow.LOwn.belowO Ow.keepsOI G0_7.out D8.out (fun g hg => by have := hg.2; omega))
    clear G0_7
    clear T8 TT8 st8
    go_wp2_with fail
    obtain ⟨x1_0, x1_1⟩ := cells1 X1_8.out
    obtain ⟨y1_0, y1_1⟩ := cells1 P1_8.out
    have hx1 : w5.heap.size < w8.heap.size := (Array.getElem?_eq_some_iff.1 X1_8.out).1
    have hy1 : w.heap.size + 1 < w8.heap.size := (Array.getElem?_eq_some_iff.1 P1_8.out).1
    go_region_held3 (fun w' => w'.cell? ⟨w5.heap.size, 0, none⟩ = some (.string u1.name) ∧ w'.cell? ⟨w5.heap.size, 1, none⟩ = some (.slice D1_1 u1.fields.length d1_q1) ∧ w'.cell? ⟨w.heap.size + 1, 0, none⟩ = some (.string u1.name) ∧ w'.cell? ⟨w.heap.size + 1, 1, none⟩ = some (.slice A1_1 u1.fields.length a1_q1)) (first | exact ⟨x1_0, x1_1, y1_0, y1_1⟩ | exact ⟨p1_0, p1_1, o1_0, o1_1⟩ | exact ⟨s1_0, s1_1, t1_0, t1_1⟩ | go_keep) (first | (go_at_call 14; refine (toSchema_any _ u1 w8.drew (All w) ((HV1.out).below B8.out.drew (fun g hg => hg)) (fun g hg => Nat.lt_of_lt_of_le hg B8.out.size) FW1.out).mono ?_; rintro e t9 ⟨vz1, rfl, rz1, b9⟩; have T9 : Hid (Below w8.heap.size w8 t9) := ⟨b9.os, b9.tape, b9.output, b9.size, b9.block⟩; have RZ1 : Hid (SchAt t9 (seg w8.heap.size t9.heap.size) vz1 u1) := rz1; have st9 : w8.heap.size ≤ t9.heap.size := T9.out.size; have RY1 := Seg.hid (((Ow.SchOwn.at RX1_8.out)).below T9.out (fun g hg => by have := hg.2; omega)); clear rz1 b9; have p1_0 := (T9.out.cell (p := ⟨w5.heap.size, 0, none⟩) hx1).trans x1_0; have p1_1 := (T9.out.cell (p := ⟨w5.heap.size, 1, none⟩) hx1).trans x1_1; have o1_0 := (T9.out.cell (p := ⟨w.heap.size + 1, 0, none⟩) hy1).trans y1_0; have o1_1 := (T9.out.cell (p := ⟨w.heap.size + 1, 1, none⟩) hy1).trans y1_1) | (go_at_call 17; refine (eqSchema_any _ _ u1 t9 _ _ RY1.out RZ1.out (fun g hg => by have := hg.2; omega) (fun g hg => hg.2)).mono ?_; rintro e w9 ⟨rfl, b9⟩; have TT9 := Seg.hid (chain T9.out b9); clear b9; have s1_0 := (TT9.out.cell (p := ⟨w5.heap.size, 0, none⟩) hx1).trans x1_0; have s1_1 := (TT9.out.cell (p := ⟨w5.heap.size, 1, none⟩) hx1).trans x1_1; have t1_0 := (TT9.out.cell (p := ⟨w.heap.size + 1, 0, none⟩) hy1).trans y1_0; have t1_1 := (TT9.out.cell (p := ⟨w.heap.size + 1, 1, none⟩) hy1).trans y1_1))
    clear x1_0 x1_1 y1_0 y1_1 p1_0 p1_1 o1_0 o1_1 s1_0 s1_1 t1_0 t1_1 hx1 hy1 RZ1 RY1
    have D9 := Seg.hid TT9.out
    have B9 := Seg.hid (chain B8.out D9.out)
    have s9 : w8.heap.size ≤ w9.heap.size := D9.out.size
    have P0_9 := Seg.hid ((D9.out.block (w.heap.size) (Array.getElem?_eq_some_iff.1 P0_8.out).1).trans P0_8.out)
    clear P0_8
    have P1_9 := Seg.hid ((D9.out.block (w.heap.size + 1) (Array.getElem?_eq_some_iff.1 P1_8.out).1).trans P1_8.out)
    clear P1_8
    have Wr0_9 := Seg.hid (LAt.below keepsI Wr0_8.out D9.out (fun g hg => by have := hg.2; omega))
    clear Wr0_8
    have RX0_9 := Seg.hid (Ow.SchOwn.keep RX0_8.out D9.out.size (fun g hg => D9.out.block g (by have := hg.2; omega)))
    clear RX0_8
    have X0_9 := Seg.hid ((D9.out.block (w4.heap.size) (Array.getElem?_eq_some_iff.1 X0_8.out).1).trans X0_8.out)
    clear X0_8
    have RX1_9 := Seg.hid (Ow.SchOwn.keep RX1_8.out D9.out.size (fun g hg => D9.out.block g (by have := hg.2; omega)))
    clear RX1_8
    have X1_9 := Seg.hid ((D9.out.block (w5.heap.size) (Array.getElem?_eq_some_iff.1 X1_8.out).1).trans X1_8.out)
    clear X1_8
    have G0_9 := Seg.hid (Ow.LOwn.belowO Ow.keepsOI G0_8.out D9.out (fun g hg => by have := hg.2; omega))
    clear G0_8
    clear T9 TT9 st9
    go_wp2_with (refine wpList_load_row rfl 43 _ rfl (w4.heap.size) rfl _ _ _ _ X0_9.out Try.underlying43 rfl infoSch ?_)
    refine (Ow.markSchema_own _ 1 rfl (seg (w3.heap.size) w4.heap.size) u0 w9 (by decide) (by have := MA0.out; omega) (fun g hg => by have := hg.2; omega) RX0_9.out).mono ?_
    rintro e w10 ⟨rfl, hm10, ft10⟩
    have s10 : w9.heap.size ≤ w10.heap.size := ft10.size
    have B10 := Seg.hid (B9.out.trans (ft10.toBelow (lo := w.heap.size) (fun y hy => by have := hy.1; omega) (by omega)))
    have P0_10 := Seg.hid ((ft10.block (w.heap.size) (Array.getElem?_eq_some_iff.1 P0_9.out).1 (fun hy => by have := hy.1; have := hy.2; omega)).trans P0_9.out)
    clear P0_9
    have P1_10 := Seg.hid ((ft10.block (w.heap.size + 1) (Array.getElem?_eq_some_iff.1 P1_9.out).1 (fun hy => by have := hy.1; have := hy.2; omega)).trans P1_9.out)
    clear P1_9
    have Wr0_10 := Seg.hid (LAt.keep keepsI Wr0_9.out (fun g hg => ft10.block g (by have := hg.2; omega) (fun hy => by have := hy.1; have := hy.2; have := hg.1; have := hg.2; omega)))
    clear Wr0_9
    have X0_10 := Seg.hid ((ft10.block (w4.heap.size) (Array.getElem?_eq_some_iff.1 X0_9.out).1 (fun hy => by have := hy.1; have := hy.2; omega)).trans X0_9.out)
    clear X0_9
    have RX1_10 := Seg.hid (Ow.SchOwn.keep RX1_9.out ft10.size (fun g hg => ft10.block g (by have := hg.2; omega) (fun hy => by have := hy.1; have := hy.2; have := hg.1; have := hg.2; omega)))
    clear RX1_9
    have X1_10 := Seg.hid ((ft10.block (w5.heap.size) (Array.getElem?_eq_some_iff.1 X1_9.out).1 (fun hy => by have := hy.1; have := hy.2; omega)).trans X1_9.out)
    clear X1_9
    have G0_10 := Seg.hid (Ow.LOwn.footO Ow.keepsOI G0_9.out ft10 (fun g hg => by have := hg.2; omega) (fun g hg hy => by have := hy.1; have := hy.2; have := hg.1; have := hg.2; omega))
    clear G0_9
    have RX0_10 := Seg.hid hm10
    clear RX0_9 hm10 ft10
    obtain ⟨K0, hK0⟩ : ∃ K, 1 + Ow.nSch u0 = K := ⟨_, rfl⟩
    rw [hK0]
    have kb0 : 0 < K0 ∧ K0 ≤ 1000000001 := by have := MA0.out; omega
    clear hK0
    clear RX0_10
    go_wp2_with (refine wpList_load_row rfl 43 _ rfl (w5.heap.size) rfl _ _ _ _ X1_10.out Try.underlying43 rfl infoSch ?_)
    refine (Ow.markSchema_own _ K0 rfl (seg (w4.heap.size + 1) w5.heap.size) u1 w10 (by omega) (by have := MA1.out; omega) (fun g hg => by have := hg.2; omega) RX1_10.out).mono ?_
    rintro e w11 ⟨rfl, hm11, ft11⟩
    have s11 : w10.heap.size ≤ w11.heap.size := ft11.size
    have B11 := Seg.hid (B10.out.trans (ft11.toBelow (lo := w.heap.size) (fun y hy => by have := hy.1; omega) (by omega)))
    have P0_11 := Seg.hid ((ft11.block (w.heap.size) (Array.getElem?_eq_some_iff.1 P0_10.out).1 (fun hy => by have := hy.1; have := hy.2; omega)).trans P0_10.out)
    clear P0_10
    have P1_11 := Seg.hid ((ft11.block (w.heap.size + 1) (Array.getElem?_eq_some_iff.1 P1_10.out).1 (fun hy => by have := hy.1; have := hy.2; omega)).trans P1_10.out)
    clear P1_10
    have Wr0_11 := Seg.hid (LAt.keep keepsI Wr0_10.out (fun g hg => ft11.block g (by have := hg.2; omega) (fun hy => by have := hy.1; have := hy.2; have := hg.1; have := hg.2; omega)))
    clear Wr0_10
    have X0_11 := Seg.hid ((ft11.block (w4.heap.size) (Array.getElem?_eq_some_iff.1 X0_10.out).1 (fun hy => by have := hy.1; have := hy.2; omega)).trans X0_10.out)
    clear X0_10
    have X1_11 := Seg.hid ((ft11.block (w5.heap.size) (Array.getElem?_eq_some_iff.1 X1_10.out).1 (fun hy => by have := hy.1; have := hy.2; omega)).trans X1_10.out)
    clear X1_10
    have G0_11 := Seg.hid (Ow.LOwn.footO Ow.keepsOI G0_10.out ft11 (fun g hg => by have := hg.2; omega) (fun g hg hy => by have := hy.1; have := hy.2; have := hg.1; have := hg.2; omega))
    clear G0_10
    have RX1_11 := Seg.hid hm11
    clear RX1_10 hm11 ft11
    obtain ⟨K1, hK1⟩ : ∃ K, K0 + Ow.nSch u1 = K := ⟨_, rfl⟩
    rw [hK1]
    have kb1 : 0 < K1 ∧ K1 ≤ 2000000001 := by have := MA1.out; omega
    clear hK1
    clear RX1_11
    clear X0_11
    clear X1_11
    have hK0 : (0 : Int) ≤ (K1 : Int) := by omega
    have hkd : decide ((K1 : Int) < 0) = false := decide_eq_false (by omega)
    go_wp2_with fail
    refine (eqIntS_any _ _ R0 w11 _ _ (Ow.LOwn.lat growsI (fun _ _ _ _ h => h) G0_11.out) Wr0_11.out (fun g hg => by have := hg.2; omega) (fun g hg => by have := hg.2; omega)).mono ?_
    rintro e w12 ⟨rfl, b12⟩
    have D12 := Seg.hid b12
    have B12 := Seg.hid (chain B11.out D12.out)
    have s12 : w11.heap.size ≤ w12.heap.size := D12.out.size
    have P0_12 := Seg.hid ((D12.out.block (w.heap.size) (Array.getElem?_eq_some_iff.1 P0_11.out).1).trans P0_11.out)
    clear P0_11
    have P1_12 := Seg.hid ((D12.out.block (w.heap.size + 1) (Array.getElem?_eq_some_iff.1 P1_11.out).1).trans P1_11.out)
    clear P1_11
    have Wr0_12 := Seg.hid (LAt.below keepsI Wr0_11.out D12.out (fun g hg => by have := hg.2; omega))
    clear Wr0_11
    have G0_12 := Seg.hid (Ow.LOwn.belowO Ow.keepsOI G0_11.out D12.out (fun g hg => by have := hg.2; omega))
    clear G0_11
    clear b12
    go_wp2_with fail
    refine (Ow.markIntS_own _ 1 rfl (seg (w5.heap.size + 1) w6.heap.size) R0 w12 (by decide) (by have := MR0.out; omega) G0_12.out).mono ?_
    rintro e w13 ⟨rfl, hm13, ft13⟩
    have s13 : w12.heap.size ≤ w13.heap.size := ft13.size
    have B13 := Seg.hid (B12.out.trans (ft13.toBelow (lo := w.heap.size) (fun y hy => by have := hy.1; omega) (by omega)))
    have P0_13 := Seg.hid ((ft13.block (w.heap.size) (Array.getElem?_eq_some_iff.1 P0_12.out).1 (fun hy => by have := hy.1; have := hy.2; omega)).trans P0_12.out)
    clear P0_12
    have P1_13 := Seg.hid ((ft13.block (w.heap.size + 1) (Array.getElem?_eq_some_iff.1 P1_12.out).1 (fun hy => by have := hy.1; have := hy.2; omega)).trans P1_12.out)
    clear P1_12
    have Wr0_13 := Seg.hid (LAt.keep keepsI Wr0_12.out (fun g hg => ft13.block g (by have := hg.2; omega) (fun hy => by have := hy.1; have := hy.2; have := hg.1; have := hg.2; omega)))
    clear Wr0_12
    have G0_13 := Seg.hid hm13
    clear G0_12 hm13 ft13
    obtain ⟨M0, hM0⟩ : ∃ M, 1 + tot Ow.nI R0 = M := ⟨_, rfl⟩
    have HM0 := Seg.hid hM0
    rw [hM0]
    have mb0 : 0 < M0 ∧ M0 ≤ 1000000001 := by have := MR0.out; omega
    clear hM0
    go_wp2_with fail
    refine (Ow.heldIntS_at _ 1 rfl (seg (w5.heap.size + 1) w6.heap.size) R0 w13 (by have := MR0.out; omega) (Ow.LOwn.lat growsI (fun _ _ _ _ h => h) G0_13.out)).mono ?_
    rintro e w14 ⟨rfl, b14⟩
    have D14 := Seg.hid b14
    have B14 := Seg.hid (chain B13.out D14.out)
    have s14 : w13.heap.size ≤ w14.heap.size := D14.out.size
    have P0_14 := Seg.hid ((D14.out.block (w.heap.size) (Array.getElem?_eq_some_iff.1 P0_13.out).1).trans P0_13.out)
    clear P0_13
    have P1_14 := Seg.hid ((D14.out.block (w.heap.size + 1) (Array.getElem?_eq_some_iff.1 P1_13.out).1).trans P1_13.out)
    clear P1_13
    have Wr0_14 := Seg.hid (LAt.below keepsI Wr0_13.out D14.out (fun g hg => by have := hg.2; omega))
    clear Wr0_13
    have G0_14 := Seg.hid (Ow.LOwn.belowO Ow.keepsOI G0_13.out D14.out (fun g hg => by have := hg.2; omega))
    clear G0_13
    rw [HM0.out]
    clear b14
    have hM0 : ¬ (M0 : Int) < 0 := by omega
    have hM1 : ((M0 : Int) != (M0 : Int)) = false := by simp
    go_wp2_with fail
    obtain ⟨c1_0_0, c1_0_1⟩ := cells0 P0_14.out
    have z1_0 : w.heap.size < w14.heap.size := (Array.getElem?_eq_some_iff.1 P0_14.out).1
    obtain ⟨c1_1_0, c1_1_1⟩ := cells1 P1_14.out
    have z1_1 : w.heap.size + 1 < w14.heap.size := (Array.getElem?_eq_some_iff.1 P1_14.out).1
    go_region_held3 (fun w' => w'.cell? ⟨w.heap.size, 0, none⟩ = some (.string u0.name) ∧ w'.cell? ⟨w.heap.size, 1, none⟩ = some (.slice A0_1 u0.fields.length a0_q1) ∧ w'.cell? ⟨w.heap.size + 1, 0, none⟩ = some (.string u1.name) ∧ w'.cell? ⟨w.heap.size + 1, 1, none⟩ = some (.slice A1_1 u1.fields.length a1_q1)) (first | exact ⟨c1_0_0, c1_0_1, c1_1_0, c1_1_1⟩ | exact ⟨e1x0x1q1_0_0, e1x0x1q1_0_1, e1x0x1q1_1_0, e1x0x1q1_1_1⟩ | exact ⟨e1x0q1_0_0, e1x0q1_0_1, e1x0q1_1_0, e1x0q1_1_1⟩ | exact ⟨e1x1q1_0_0, e1x1q1_0_1, e1x1q1_1_0, e1x1q1_1_1⟩ | exact ⟨f1_0_0, f1_0_1, f1_1_0, f1_1_1⟩ | go_keep) (first | (go_at_call_of 14 (Value.agg #[Value.string u0.name, Value.slice A0_1 u0.fields.length a0_q1]); first | (refine (toSchema_any _ u0 y1x1 (All w) ((HV0.out).below BB1x1.out (fun g hg => hg)) (fun g hg => Nat.lt_of_lt_of_le hg BB1x1.out.size) FW0.out).mono ?_; rintro e y1x0x1 ⟨vc1_0, rfl, rc, bc⟩; have N1x0x1 := Seg.hid (chain N1x1.out bc); have BB1x0x1 := Seg.hid (chain BB1x1.out bc); have RC1x0x1_0 : Hid (SchAt y1x0x1 (seg w14.heap.size y1x0x1.heap.size) vc1_0 u0) := ((rc).mono (fun g hg => ⟨Nat.le_trans N1x1.out.size hg.1, hg.2⟩)); have RC1x0x1_1 : Hid (SchAt y1x0x1 (seg w14.heap.size y1x0x1.heap.size) vc1_1 u1) := ((((RC1x1_1.out).below bc (fun g hg => hg.2))).mono (fun g hg => ⟨hg.1, Nat.lt_of_lt_of_le hg.2 bc.size⟩)); clear rc bc; have e1x0x1q1_0_0 := (N1x0x1.out.cell (p := ⟨w.heap.size, 0, none⟩) z1_0).trans c1_0_0; have e1x0x1q1_0_1 := (N1x0x1.out.cell (p := ⟨w.heap.size, 1, none⟩) z1_0).trans c1_0_1; have e1x0x1q1_1_0 := (N1x0x1.out.cell (p := ⟨w.heap.size + 1, 0, none⟩) z1_1).trans c1_1_0; have e1x0x1q1_1_1 := (N1x0x1.out.cell (p := ⟨w.heap.size + 1, 1, none⟩) z1_1).trans c1_1_1) | (refine (toSchema_any _ u0 w14.drew (All w) ((HV0.out).below B14.out.drew (fun g hg => hg)) (fun g hg => Nat.lt_of_lt_of_le hg B14.out.size) FW0.out).mono ?_; rintro e y1x0 ⟨vc1_0, rfl, rc, bc⟩; have N1x0 : Hid (Below w14.heap.size w14 y1x0) := ⟨bc.os, bc.tape, bc.output, bc.size, bc.block⟩; have BB1x0 := Seg.hid (chain B14.out N1x0.out); have RC1x0_0 : Hid (SchAt y1x0 (seg w14.heap.size y1x0.heap.size) vc1_0 u0) := rc; clear rc bc; have e1x0q1_0_0 := (N1x0.out.cell (p := ⟨w.heap.size, 0, none⟩) z1_0).trans c1_0_0; have e1x0q1_0_1 := (N1x0.out.cell (p := ⟨w.heap.size, 1, none⟩) z1_0).trans c1_0_1; have e1x0q1_1_0 := (N1x0.out.cell (p := ⟨w.heap.size + 1, 0, none⟩) z1_1).trans c1_1_0; have e1x0q1_1_1 := (N1x0.out.cell (p := ⟨w.heap.size + 1, 1, none⟩) z1_1).trans c1_1_1)) | (go_at_call_of 14 (Value.agg #[Value.string u1.name, Value.slice A1_1 u1.fields.length a1_q1]); first | (refine (toSchema_any _ u1 y1x0 (All w) ((HV1.out).below BB1x0.out (fun g hg => hg)) (fun g hg => Nat.lt_of_lt_of_le hg BB1x0.out.size) FW1.out).mono ?_; rintro e y1x0x1 ⟨vc1_1, rfl, rc, bc⟩; have N1x0x1 := Seg.hid (chain N1x0.out bc); have BB1x0x1 := Seg.hid (chain BB1x0.out bc); have RC1x0x1_1 : Hid (SchAt y1x0x1 (seg w14.heap.size y1x0x1.heap.size) vc1_1 u1) := ((rc).mono (fun g hg => ⟨Nat.le_trans N1x0.out.size hg.1, hg.2⟩)); have RC1x0x1_0 : Hid (SchAt y1x0x1 (seg w14.heap.size y1x0x1.heap.size) vc1_0 u0) := ((((RC1x0_0.out).below bc (fun g hg => hg.2))).mono (fun g hg => ⟨hg.1, Nat.lt_of_lt_of_le hg.2 bc.size⟩)); clear rc bc; have e1x0x1q1_0_0 := (N1x0x1.out.cell (p := ⟨w.heap.size, 0, none⟩) z1_0).trans c1_0_0; have e1x0x1q1_0_1 := (N1x0x1.out.cell (p := ⟨w.heap.size, 1, none⟩) z1_0).trans c1_0_1; have e1x0x1q1_1_0 := (N1x0x1.out.cell (p := ⟨w.heap.size + 1, 0, none⟩) z1_1).trans c1_1_0; have e1x0x1q1_1_1 := (N1x0x1.out.cell (p := ⟨w.heap.size + 1, 1, none⟩) z1_1).trans c1_1_1) | (refine (toSchema_any _ u1 w14.drew (All w) ((HV1.out).below B14.out.drew (fun g hg => hg)) (fun g hg => Nat.lt_of_lt_of_le hg B14.out.size) FW1.out).mono ?_; rintro e y1x1 ⟨vc1_1, rfl, rc, bc⟩; have N1x1 : Hid (Below w14.heap.size w14 y1x1) := ⟨bc.os, bc.tape, bc.output, bc.size, bc.block⟩; have BB1x1 := Seg.hid (chain B14.out N1x1.out); have RC1x1_1 : Hid (SchAt y1x1 (seg w14.heap.size y1x1.heap.size) vc1_1 u1) := rc; clear rc bc; have e1x1q1_0_0 := (N1x1.out.cell (p := ⟨w.heap.size, 0, none⟩) z1_0).trans c1_0_0; have e1x1q1_0_1 := (N1x1.out.cell (p := ⟨w.heap.size, 1, none⟩) z1_0).trans c1_0_1; have e1x1q1_1_0 := (N1x1.out.cell (p := ⟨w.heap.size + 1, 0, none⟩) z1_1).trans c1_1_0; have e1x1q1_1_1 := (N1x1.out.cell (p := ⟨w.heap.size + 1, 1, none⟩) z1_1).trans c1_1_1)) | (go_at_call 15; refine (CI.out y1x0x1 _ _ ((RC1x0x1_0.out).mono (fun g hg => hg.2)) ((RC1x0x1_1.out).mono (fun g hg => hg.2))).mono ?_; rintro e w15 ⟨r15_0, rfl, h15_0, b15⟩; have NN1 := Seg.hid (chain N1x0x1.out b15); have f1_0_0 := (NN1.out.cell (p := ⟨w.heap.size, 0, none⟩) z1_0).trans c1_0_0; have f1_0_1 := (NN1.out.cell (p := ⟨w.heap.size, 1, none⟩) z1_0).trans c1_0_1; have f1_1_0 := (NN1.out.cell (p := ⟨w.heap.size + 1, 0, none⟩) z1_1).trans c1_1_0; have f1_1_1 := (NN1.out.cell (p := ⟨w.heap.size + 1, 1, none⟩) z1_1).trans c1_1_1))
    all_goals
      clear c1_0_0 c1_0_1 c1_1_0 c1_1_1 f1_0_0 f1_0_1 f1_1_0 f1_1_1
      have sy1 : w14.heap.size ≤ y1x0x1.heap.size := N1x0x1.out.size
      have sz1 : y1x0x1.heap.size ≤ w15.heap.size := b15.size
      have D15 := Seg.hid NN1.out
      have B15 := Seg.hid (chain B14.out D15.out)
      have s15 : w14.heap.size ≤ w15.heap.size := D15.out.size
      have P0_15 := Seg.hid ((D15.out.block (w.heap.size) (Array.getElem?_eq_some_iff.1 P0_14.out).1).trans P0_14.out)
      clear P0_14
      have P1_15 := Seg.hid ((D15.out.block (w.heap.size + 1) (Array.getElem?_eq_some_iff.1 P1_14.out).1).trans P1_14.out)
      clear P1_14
      have Wr0_15 := Seg.hid (LAt.below keepsI Wr0_14.out D15.out (fun g hg => by have := hg.2; omega))
      clear Wr0_14
      have G0_15 := Seg.hid (Ow.LOwn.belowO Ow.keepsOI G0_14.out D15.out (fun g hg => by have := hg.2; omega))
      clear G0_14
      clear NN1 z1_0 z1_1
      obtain ⟨A15_0, c15_0, rfl⟩ := Ow.LOwn.form h15_0
      have Hh0_15 := Seg.hid h15_0
      clear b15 h15_0
      go_wp2_with fail
      refine (eqIntS_any _ _ R0 w15 _ _ (Ow.LOwn.lat growsI (fun _ _ _ _ h => h) Hh0_15.out) Wr0_15.out (fun g hg => by have := hg.2; omega) (fun g hg => by have := hg.2; omega)).mono ?_
      rintro e w16 ⟨rfl, b16⟩
      have D16 := Seg.hid b16
      have B16 := Seg.hid (chain B15.out D16.out)
      have s16 : w15.heap.size ≤ w16.heap.size := D16.out.size
      have P0_16 := Seg.hid ((D16.out.block (w.heap.size) (Array.getElem?_eq_some_iff.1 P0_15.out).1).trans P0_15.out)
      clear P0_15
      have P1_16 := Seg.hid ((D16.out.block (w.heap.size + 1) (Array.getElem?_eq_some_iff.1 P1_15.out).1).trans P1_15.out)
      clear P1_15
      have Wr0_16 := Seg.hid (LAt.below keepsI Wr0_15.out D16.out (fun g hg => by have := hg.2; omega))
      clear Wr0_15
      have G0_16 := Seg.hid (Ow.LOwn.belowO Ow.keepsOI G0_15.out D16.out (fun g hg => by have := hg.2; omega))
      clear G0_15
      have Hh0_16 := Seg.hid (Ow.LOwn.belowO Ow.keepsOI Hh0_15.out D16.out (fun g hg => by have := hg.2; omega))
      clear Hh0_15
      clear b16
      clear Hh0_16
      go_wp2_with fail
      refine (Ow.heldIntS_at _ 1 rfl (seg (w5.heap.size + 1) w6.heap.size) R0 w16 (by have := MR0.out; omega) (Ow.LOwn.lat growsI (fun _ _ _ _ h => h) G0_16.out)).mono ?_
      rintro e w17 ⟨rfl, b17⟩
      have D17 := Seg.hid b17
      have B17 := Seg.hid (chain B16.out D17.out)
      have s17 : w16.heap.size ≤ w17.heap.size := D17.out.size
      have P0_17 := Seg.hid ((D17.out.block (w.heap.size) (Array.getElem?_eq_some_iff.1 P0_16.out).1).trans P0_16.out)
      clear P0_16
      have P1_17 := Seg.hid ((D17.out.block (w.heap.size + 1) (Array.getElem?_eq_some_iff.1 P1_16.out).1).trans P1_16.out)
      clear P1_16
      have Wr0_17 := Seg.hid (LAt.below keepsI Wr0_16.out D17.out (fun g hg => by have := hg.2; omega))
      clear Wr0_16
      have G0_17 := Seg.hid (Ow.LOwn.belowO Ow.keepsOI G0_16.out D17.out (fun g hg => by have := hg.2; omega))
      clear G0_16
      rw [HM0.out]
      clear b17
      go_wp2
      go_ret
      exact ⟨rfl, B17.out⟩
end Go.Proofs.Ytdhicmbfknagjaa.ExMa
