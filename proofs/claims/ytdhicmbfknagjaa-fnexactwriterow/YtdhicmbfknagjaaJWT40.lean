/- What the frame tells of a list that came in, of any element; The walk of the law on WriteRow out of the contracts. -/
import Derived.ProofKit
import Derived.Deep.SlicePairs
import Derived.Deep.RegionHeld3
import Derived.Deep.RegionLaw
import Derived.Test.YtdhicmbfknagjaaJWT11
import Derived.Test.YtdhicmbfknagjaaJWT31
import Derived.Test.YtdhicmbfknagjaaJWT32
import Derived.Test.YtdhicmbfknagjaaJWT38
import Derived.Test.YtdhicmbfknagjaaJWT39
import Derived.Test.YtdhicmbfknagjaaJWT37
namespace Go.Proofs.Ytdhicmbfknagjaa.Ls
set_option maxRecDepth 8000
open Go.ChangeShapes Go.WideShapes Go.ChangeAt Go.RowKit Go.Deep
open Recs
set_option linter.unusedVariables false
/-- All blocks of a world. -/
def All (W : World) (g : Nat) : Prop := g < W.heap.size
section
variable {H : Type} {enc : TypeId × Value → H} {W : World} {sp : Nat → Bool} {held : Bool}
theorem cellsI : Try.prog.cellsOf 3 = 1 := by kernel_rfl
theorem open_list {T : Type} [Inhabited T] {E : Elt T} {Fine : T → Prop} {tS tE nf : Nat} {fuel : Nat} {cs : List Value} {x : DataW H × List MemPlace} (hK : Keeps nf E) (hnf : 0 < nf) (hU : Try.prog.underlying tS = some (.slice tE)) (hN : Try.prog.cellsOf tE = nf)
    (hel : ∀ (fuel : Nat) (cs : List Value) (x : DataW H × List MemPlace), DataW.trod enc Try.prog W 0 sp held fuel tE cs = some x → ∃ (f : Nat → Value) (u : T), (∀ q, q < nf → cs[q]? = some (f q)) ∧ E W (All W) f u ∧ Fine u)
    (h : DataW.trod enc Try.prog W 0 sp held fuel tS cs = some x) :
    ∃ (v : Value) (us : List T), cs = [v] ∧ LAt nf E W (All W) v us ∧ FineL Fine us := by
  rcases open_slice hU h with ⟨rfl, _⟩ | ⟨a, len, cap, m, n, D, Pl, rfl, _, hl, hm, hmm, _, hx⟩
  · exact ⟨_, [], rfl, LAt.nil _ _ _ _, by simp, fun i hi => by simp at hi⟩
  have hlm : len ≤ m := by rw [hmm]; split <;> omega
  rw [hN] at hx
  obtain ⟨f, hf⟩ := choose_lt (α := (Nat → Value) × T) (n := len) (p := fun i q => (∃ cs', W.cells? 0 (a.add (i * nf)) nf = some cs' ∧ ∀ j, j < nf → cs'[j]? = some (q.1 j)) ∧ E W (All W) q.1 q.2 ∧ Fine q.2) (fun i hi => by
    obtain ⟨cs', h1, h2⟩ := hx i (by omega)
    obtain ⟨f, u, hc, hh, hfi⟩ := hel _ _ _ h2
    exact ⟨(f, u), ⟨cs', h1, hc⟩, hh, hfi⟩)
  have hlen : ((List.range len).map fun i => (f i).2).length = len := by simp
  have hget : ∀ i, i < len → ((List.range len).map fun i => (f i).2).getD i default = (f i).2 := fun i hi => by simp [hi]
  refine ⟨_, (List.range len).map fun i => (f i).2, rfl, ⟨?_, some a, cap, by rw [hlen], ?_⟩, ?_, ?_⟩
  · rw [hlen]; unfold maxLen at hm; omega
  · by_cases hz : len = 0
    · left; rw [hlen]; exact hz
    · right
      obtain ⟨b, off, spot⟩ := a
      have cell : ∀ i, i < len → ∀ j, j < nf → W.cell? (((⟨b, off, spot⟩ : Addr).add (i * nf)).add j) = some ((f i).1 j) := fun i hi j hj => by
        obtain ⟨⟨cs', h1, h2⟩, _⟩ := hf i hi
        rw [(World.cells?_some h1).2.2 j hj, h2 j hj]
      have hc := cell 0 (by omega) 0 hnf
      have hspot : spot = none := by simpa [Addr.add] using World.cell?_spot hc
      subst hspot
      have hlt : b < W.heap.size := by have := World.block_lt_of_cell? W _ hc; simpa [Addr.add] using this
      refine ⟨b, off, fun i j => (f i).1 j, rfl, hlt, by rw [hlen]; exact hl, ?_, ?_⟩
      · rw [hlen]
        intro i hi j hj
        have := cell i hi j hj
        rw [add_add, Addr.add_mid, ← Nat.add_assoc] at this
        exact this
      · rw [hlen]
        intro i hi
        rw [hget i hi]
        exact (hf i hi).2.1
  · rw [hlen]; omega
  · rw [hlen]
    intro i hi
    rw [hget i hi]
    exact (hf i hi).2.2
end
end Go.Proofs.Ytdhicmbfknagjaa.Ls
namespace Go.Proofs.Ytdhicmbfknagjaa.ExWw
set_option maxRecDepth 8000
open Go.RowKit
open Ls Lp
open ScP RoP WwP ScI
open Recs (hsz below1 below2 below3 chain chainD)
set_option linter.unusedVariables false
theorem few_bytes (ns : List Int) (h : ns.length ≤ 100000) : tot Ow.nY ns ≤ 1000000000 := by rw [Ow.nY_tot]; omega
theorem cells1 {w : World} {g ty : Nat} {za zb : Value} (h : w.heap[g]? = some (.cells #[za, zb] ty (0, 0))) : w.cell? ⟨g, 0, none⟩ = some za ∧ w.cell? ⟨g, 1, none⟩ = some zb :=
  ⟨cell_of_row w g 0 _ _ (0, 0) h, cell_of_row w g 1 _ _ (0, 0) h⟩
set_option maxHeartbeats 12800000 in
theorem walk (a0 : Int) (v1 : Value) (u1 : Sch) (v2 : Value) (u2 : List Vlu) (w : World) (hv1 : SchAt w (All w) v1 u1) (hf1 : FineSch u1) (hv2 : LAt 5 EVlu w (All w) v2 u2) (hf2 : FineL FineVlu u2) :
    Calls Try.prog 5 #[.int .i64 a0, v1, v2] w fun e w' => e = .returned (.bool true) ∧ Below w.heap.size w w' := by
  have HV1 := Seg.hid hv1
  obtain ⟨A1_1, a1_q1, rfl⟩ := FSch.form hv1
  have HF1 := Seg.hid hf1
  have HV2 := Seg.hid hv2
  obtain ⟨A2, c2, rfl⟩ := hv2.form
  have HF2 := Seg.hid hf2
  clear hv1 hf1 hv2 hf2
  go_enter Try.func5, Try.ntmps5
  go_wp2_with fail
  refine (szSchema_any _ u1 _ (w.alloc _) (All w) (by omega) (by omega) ((HV1.out).below (below1 w _) (fun g hg => hg)) (fun g hg => Nat.lt_of_lt_of_le hg (below1 w _).size) HF1.out).mono ?_
  rintro e w1 ⟨q1, rfl, qa1, qb1, qc1, b1⟩
  have B1 := Seg.hid (chain (below1 w _) b1)
  have s1 : w.heap.size ≤ w1.heap.size := B1.out.size
  have P1_1 : Hid (w1.heap[w.heap.size]? = some (.cells #[.string u1.name, .slice A1_1 u1.fields.length a1_q1] 37 (0, 0))) := (b1.block (w.heap.size) (by rw [hsz]; omega)).trans (heap_alloc_new _ _)
  have sp1 : w.heap.size < w1.heap.size := (Array.getElem?_eq_some_iff.1 P1_1.out).1
  clear b1
  by_cases hq1 : q1 < 0
  · go_wp2
    go_ret
    exact ⟨rfl, B1.out⟩
  have FW1 : Hid (szSch u1 ≤ 1048576) := by show _ ≤ _; have := qc1.1 (by omega); omega
  clear qc1
  go_wp2_with fail
  refine (szValueS_any _ u2 _ w1 (All w) (by omega) (by omega) (LAt.below keepsVlu (HV2.out) B1.out (fun g hg => hg)) (fun g hg => Nat.lt_of_lt_of_le hg B1.out.size) HF2.out).mono ?_
  rintro e w2 ⟨q2, rfl, qa2, qb2, qc2, b2⟩
  have D2 := Seg.hid b2
  have B2 := Seg.hid (chain B1.out D2.out)
  have s2 : w1.heap.size ≤ w2.heap.size := D2.out.size
  have P1_2 := Seg.hid ((D2.out.block (w.heap.size) (Array.getElem?_eq_some_iff.1 P1_1.out).1).trans P1_1.out)
  clear P1_1
  clear b2
  by_cases hq2 : q2 < 0
  · go_wp2
    go_ret
    exact ⟨rfl, B2.out⟩
  have FW2 : Hid (szL szVlu u2 ≤ 1048576) := by show _ ≤ _; have := qc2.1 (by omega); omega
  clear qc2
  obtain ⟨R0, hR0⟩ : ∃ R, wrow a0 u1 u2 = R := ⟨_, rfl⟩
  have CS : Hid (∀ (wx : World) (x1 : Value) (x2 : Value), SchAt wx (fun g => g < wx.heap.size) x1 u1 → LAt 5 EVlu wx (fun g => g < wx.heap.size) x2 u2 → Calls Try.prog 22 #[.int .i64 a0, x1, x2] wx fun e w' => ∃ r0, e = .returned (r0) ∧ Ow.YsOwn w' (seg wx.heap.size w'.heap.size) r0 R0 ∧ Below wx.heap.size wx w') := by
    intro wx x1 x2 h1 h2
    have hh := WwT.spec_any a0 x1 x2 u1 u2 wx _ h1 h2 (fun g hg => hg) FW1.out FW2.out
    rw [hR0] at hh
    exact hh
  have CI : Hid (∀ (wx : World) (x1 : Value) (x2 : Value), SchAt wx (fun g => g < wx.heap.size) x1 u1 → LAt 5 EVlu wx (fun g => g < wx.heap.size) x2 u2 → Calls Try.prog 24 #[.int .i64 a0, x1, x2] wx fun e w' => ∃ r0, e = .returned (r0) ∧ Ow.YsOwn w' (seg wx.heap.size w'.heap.size) r0 R0 ∧ Below wx.heap.size wx w') := by
    intro wx x1 x2 h1 h2
    have hh := WwK.impl_any a0 x1 x2 u1 u2 wx _ h1 h2 (fun g hg => hg) FW1.out FW2.out
    rw [hR0] at hh
    exact hh
  have MA1 : Hid (Ow.nSch u1 ≤ 1000000000) := FwS.sch u1 FW1.out
  have MA2 : Hid (tot Ow.nVlu u2 ≤ 1000000000) := FwV.row u2 FW2.out
  have MR0 : Hid (tot Ow.nY R0 ≤ 1000000000) := by
    show _ ≤ _
    rw [← hR0]
    exact few_bytes _ (wrow_len _ _ _)
  have YL0 : Hid (R0.length ≤ 140737488355328) := by
    show _ ≤ _
    have := MR0.out
    rw [Ow.nY_tot] at this
    omega
  clear hR0
  go_wp2_with (refine wpList_load_row rfl 37 _ rfl (w.heap.size) rfl _ _ _ _ P1_2.out Try.underlying37 rfl infoLSch ?_)
  refine (toSchema_any _ u1 w2 (All w) ((HV1.out).below B2.out (fun g hg => hg)) (fun g hg => Nat.lt_of_lt_of_le hg B2.out.size) FW1.out).mono ?_
  rintro e w3 ⟨y3, rfl, h3, b3⟩
  have D3 := Seg.hid b3
  have B3 := Seg.hid (chain B2.out D3.out)
  have s3 : w2.heap.size ≤ w3.heap.size := D3.out.size
  have P1_3 := Seg.hid ((D3.out.block (w.heap.size) (Array.getElem?_eq_some_iff.1 P1_2.out).1).trans P1_2.out)
  clear P1_2
  have T1_3 := Seg.hid h3
  obtain ⟨T3_1, t3_q1, e3⟩ := FSch.form h3
  subst e3
  clear b3 h3
  go_wp2_with fail
  refine (toValueS_any _ u2 w3 (All w) (LAt.below keepsVlu (HV2.out) B3.out (fun g hg => hg)) (fun g hg => Nat.lt_of_lt_of_le hg B3.out.size) FW2.out).mono ?_
  rintro e w4 ⟨y4, rfl, h4, b4⟩
  have D4 := Seg.hid b4
  have B4 := Seg.hid (chain B3.out D4.out)
  have s4 : w3.heap.size ≤ w4.heap.size := D4.out.size
  have P1_4 := Seg.hid ((D4.out.block (w.heap.size) (Array.getElem?_eq_some_iff.1 P1_3.out).1).trans P1_3.out)
  clear P1_3
  have T1_4 := Seg.hid (T1_3.out.below D4.out (fun g hg => by have := hg.2; omega))
  clear T1_3
  have T2_4 := Seg.hid h4
  obtain ⟨A4, c4, e4⟩ := h4.form
  subst e4
  clear b4 h4
  go_wp2_with fail
  refine (CS.out w4 _ _ ((T1_4.out).mono (fun g hg => by have := hg.2; omega)) (LAt.mono growsVlu (T2_4.out) (fun g hg => by have := hg.2; omega))).mono ?_
  rintro e w5 ⟨r5_0, rfl, h5_0, b5⟩
  have D5 := Seg.hid b5
  have B5 := Seg.hid (chain B4.out D5.out)
  have s5 : w4.heap.size ≤ w5.heap.size := D5.out.size
  have P1_5 := Seg.hid ((D5.out.block (w.heap.size) (Array.getElem?_eq_some_iff.1 P1_4.out).1).trans P1_4.out)
  clear P1_4
  have T1_5 := Seg.hid (T1_4.out.below D5.out (fun g hg => by have := hg.2; omega))
  clear T1_4
  have T2_5 := Seg.hid (LAt.below keepsVlu T2_4.out D5.out (fun g hg => by have := hg.2; omega))
  clear T2_4
  clear T1_5
  clear T2_5
  obtain ⟨A5_0, c5_0, rfl⟩ := Ow.LOwn.form h5_0
  have Wr0_5 := Seg.hid (Ow.LOwn.lat growsY Ow.atOY h5_0)
  clear b5 h5_0
  go_wp2_with (refine wpList_load_row rfl 37 _ rfl (w.heap.size) rfl _ _ _ _ P1_5.out Try.underlying37 rfl infoLSch ?_)
  refine (Ow.toSchema_own _ u1 w5 (All w) ((HV1.out).below B5.out (fun g hg => hg)) (fun g hg => Nat.lt_of_lt_of_le hg (B5.out).size) FW1.out).mono ?_
  rintro e w6 ⟨vx1, rfl, rx1, b6⟩
  have D6 := Seg.hid b6
  have B6 := Seg.hid (chain B5.out D6.out)
  have s6 : w5.heap.size ≤ w6.heap.size := D6.out.size
  have P1_6 := Seg.hid ((D6.out.block (w.heap.size) (Array.getElem?_eq_some_iff.1 P1_5.out).1).trans P1_5.out)
  clear P1_5
  have Wr0_6 := Seg.hid (LAt.below keepsY Wr0_5.out D6.out (fun g hg => by have := hg.2; omega))
  clear Wr0_5
  obtain ⟨D1_1, d1_q1, hvx1⟩ := FSch.form (Ow.SchOwn.at rx1)
  subst hvx1
  have RX1_6 := Seg.hid rx1
  clear rx1 b6
  go_wp2_with fail
  refine (Ow.toValueS_own _ u2 (w6.alloc _) (All w) (LAt.below keepsVlu (HV2.out) (chain B6.out (below1 w6 _)) (fun g hg => hg)) (fun g hg => Nat.lt_of_lt_of_le hg ((chain B6.out (below1 w6 _))).size) FW2.out).mono ?_
  rintro e w7 ⟨vx2, rfl, rx2, b7⟩
  have D7 := Seg.hid (chain (below1 w6 _) b7)
  have B7 := Seg.hid (chain B6.out D7.out)
  have s7 : w6.heap.size ≤ w7.heap.size := D7.out.size
  have P1_7 := Seg.hid ((D7.out.block (w.heap.size) (Array.getElem?_eq_some_iff.1 P1_6.out).1).trans P1_6.out)
  clear P1_6
  have Wr0_7 := Seg.hid (LAt.below keepsY Wr0_6.out D7.out (fun g hg => by have := hg.2; omega))
  clear Wr0_6
  have RX1_7 := Seg.hid (Ow.SchOwn.keep RX1_6.out D7.out.size (fun g hg => D7.out.block g (by have := hg.2; omega)))
  clear RX1_6
  have X1_7 : Hid (w7.heap[w6.heap.size]? = some (.cells #[.string u1.name, .slice D1_1 u1.fields.length d1_q1] 43 (0, 0))) := (b7.block w6.heap.size (by rw [hsz]; omega)).trans (heap_alloc_new _ _)
  have s7p : w6.heap.size + 1 ≤ w7.heap.size := by have := b7.size; rw [hsz] at this; exact this
  rw [hsz] at rx2
  obtain ⟨D2, d2q, hvx2⟩ := Ow.LOwn.form rx2
  subst hvx2
  have RX2_7 := Seg.hid rx2
  clear rx2 b7
  go_wp2_with (refine wpList_load_row rfl 43 _ rfl (w6.heap.size) rfl _ _ _ _ X1_7.out Try.underlying43 rfl infoSch ?_)
  refine (CI.out w7 _ _ (((Ow.SchOwn.at RX1_7.out)).mono (fun g hg => by have := hg.2; omega)) (LAt.mono growsVlu ((Ow.LOwn.lat growsVlu Ow.atOVlu RX2_7.out)) (fun g hg => by have := hg.2; omega))).mono ?_
  rintro e w8 ⟨r8_0, rfl, h8_0, b8⟩
  have D8 := Seg.hid b8
  have B8 := Seg.hid (chain B7.out D8.out)
  have s8 : w7.heap.size ≤ w8.heap.size := D8.out.size
  have P1_8 := Seg.hid ((D8.out.block (w.heap.size) (Array.getElem?_eq_some_iff.1 P1_7.out).1).trans P1_7.out)
  clear P1_7
  have Wr0_8 := Seg.hid (LAt.below keepsY Wr0_7.out D8.out (fun g hg => by have := hg.2; omega))
  clear Wr0_7
  have RX1_8 := Seg.hid (Ow.SchOwn.keep RX1_7.out D8.out.size (fun g hg => D8.out.block g (by have := hg.2; omega)))
  clear RX1_7
  have X1_8 := Seg.hid ((D8.out.block (w6.heap.size) (Array.getElem?_eq_some_iff.1 X1_7.out).1).trans X1_7.out)
  clear X1_7
  have RX2_8 := Seg.hid (Ow.LOwn.belowO Ow.keepsOVlu RX2_7.out D8.out (fun g hg => by have := hg.2; omega))
  clear RX2_7
  obtain ⟨A8_0, c8_0, rfl⟩ := Ow.LOwn.form h8_0
  have G0_8 := Seg.hid h8_0
  clear b8 h8_0
  go_wp2_with fail
  refine (eqByteS_any _ _ R0 w8 _ _ (Ow.LOwn.lat growsY Ow.atOY G0_8.out) Wr0_8.out (fun g hg => by have := hg.2; omega) (fun g hg => by have := hg.2; omega) YL0.out).mono ?_
  rintro e w9 ⟨rfl, b9⟩
  have D9 := Seg.hid b9
  have B9 := Seg.hid (chain B8.out D9.out)
  have s9 : w8.heap.size ≤ w9.heap.size := D9.out.size
  have P1_9 := Seg.hid ((D9.out.block (w.heap.size) (Array.getElem?_eq_some_iff.1 P1_8.out).1).trans P1_8.out)
  clear P1_8
  have Wr0_9 := Seg.hid (LAt.below keepsY Wr0_8.out D9.out (fun g hg => by have := hg.2; omega))
  clear Wr0_8
  have RX1_9 := Seg.hid (Ow.SchOwn.keep RX1_8.out D9.out.size (fun g hg => D9.out.block g (by have := hg.2; omega)))
  clear RX1_8
  have X1_9 := Seg.hid ((D9.out.block (w6.heap.size) (Array.getElem?_eq_some_iff.1 X1_8.out).1).trans X1_8.out)
  clear X1_8
  have RX2_9 := Seg.hid (Ow.LOwn.belowO Ow.keepsOVlu RX2_8.out D9.out (fun g hg => by have := hg.2; omega))
  clear RX2_8
  have G0_9 := Seg.hid (Ow.LOwn.belowO Ow.keepsOY G0_8.out D9.out (fun g hg => by have := hg.2; omega))
  clear G0_8
  clear b9
  go_wp2_with fail
  obtain ⟨x0_0, x0_1⟩ := cells1 X1_9.out
  obtain ⟨y0_0, y0_1⟩ := cells1 P1_9.out
  have hx0 : w6.heap.size < w9.heap.size := (Array.getElem?_eq_some_iff.1 X1_9.out).1
  have hy0 : w.heap.size < w9.heap.size := (Array.getElem?_eq_some_iff.1 P1_9.out).1
  go_region_held3 (fun w' => w'.cell? ⟨w6.heap.size, 0, none⟩ = some (.string u1.name) ∧ w'.cell? ⟨w6.heap.size, 1, none⟩ = some (.slice D1_1 u1.fields.length d1_q1) ∧ w'.cell? ⟨w.heap.size, 0, none⟩ = some (.string u1.name) ∧ w'.cell? ⟨w.heap.size, 1, none⟩ = some (.slice A1_1 u1.fields.length a1_q1)) (first | exact ⟨x0_0, x0_1, y0_0, y0_1⟩ | exact ⟨p0_0, p0_1, o0_0, o0_1⟩ | exact ⟨s0_0, s0_1, t0_0, t0_1⟩ | go_keep) (first | (go_at_call 14; refine (toSchema_any _ u1 w9.drew (All w) ((HV1.out).below B9.out.drew (fun g hg => hg)) (fun g hg => Nat.lt_of_lt_of_le hg B9.out.size) FW1.out).mono ?_; rintro e t10 ⟨vz1, rfl, rz1, b10⟩; have T10 : Hid (Below w9.heap.size w9 t10) := ⟨b10.os, b10.tape, b10.output, b10.size, b10.block⟩; have RZ1 : Hid (SchAt t10 (seg w9.heap.size t10.heap.size) vz1 u1) := rz1; have st10 : w9.heap.size ≤ t10.heap.size := T10.out.size; have RY1 := Seg.hid (((Ow.SchOwn.at RX1_9.out)).below T10.out (fun g hg => by have := hg.2; omega)); clear rz1 b10; have p0_0 := (T10.out.cell (p := ⟨w6.heap.size, 0, none⟩) hx0).trans x0_0; have p0_1 := (T10.out.cell (p := ⟨w6.heap.size, 1, none⟩) hx0).trans x0_1; have o0_0 := (T10.out.cell (p := ⟨w.heap.size, 0, none⟩) hy0).trans y0_0; have o0_1 := (T10.out.cell (p := ⟨w.heap.size, 1, none⟩) hy0).trans y0_1) | (go_at_call 17; refine (eqSchema_any _ _ u1 t10 _ _ RY1.out RZ1.out (fun g hg => by have := hg.2; omega) (fun g hg => hg.2)).mono ?_; rintro e w10 ⟨rfl, b10⟩; have TT10 := Seg.hid (chain T10.out b10); clear b10; have s0_0 := (TT10.out.cell (p := ⟨w6.heap.size, 0, none⟩) hx0).trans x0_0; have s0_1 := (TT10.out.cell (p := ⟨w6.heap.size, 1, none⟩) hx0).trans x0_1; have t0_0 := (TT10.out.cell (p := ⟨w.heap.size, 0, none⟩) hy0).trans y0_0; have t0_1 := (TT10.out.cell (p := ⟨w.heap.size, 1, none⟩) hy0).trans y0_1))
  clear x0_0 x0_1 y0_0 y0_1 p0_0 p0_1 o0_0 o0_1 s0_0 s0_1 t0_0 t0_1 hx0 hy0 RZ1 RY1
  have D10 := Seg.hid TT10.out
  have B10 := Seg.hid (chain B9.out D10.out)
  have s10 : w9.heap.size ≤ w10.heap.size := D10.out.size
  have P1_10 := Seg.hid ((D10.out.block (w.heap.size) (Array.getElem?_eq_some_iff.1 P1_9.out).1).trans P1_9.out)
  clear P1_9
  have Wr0_10 := Seg.hid (LAt.below keepsY Wr0_9.out D10.out (fun g hg => by have := hg.2; omega))
  clear Wr0_9
  have RX1_10 := Seg.hid (Ow.SchOwn.keep RX1_9.out D10.out.size (fun g hg => D10.out.block g (by have := hg.2; omega)))
  clear RX1_9
  have X1_10 := Seg.hid ((D10.out.block (w6.heap.size) (Array.getElem?_eq_some_iff.1 X1_9.out).1).trans X1_9.out)
  clear X1_9
  have RX2_10 := Seg.hid (Ow.LOwn.belowO Ow.keepsOVlu RX2_9.out D10.out (fun g hg => by have := hg.2; omega))
  clear RX2_9
  have G0_10 := Seg.hid (Ow.LOwn.belowO Ow.keepsOY G0_9.out D10.out (fun g hg => by have := hg.2; omega))
  clear G0_9
  clear T10 TT10 st10
  go_wp2_with fail
  refine (toValueS_any _ u2 w10 (All w) (LAt.below keepsVlu (HV2.out) B10.out (fun g hg => hg)) (fun g hg => Nat.lt_of_lt_of_le hg B10.out.size) FW2.out).mono ?_
  rintro e w11 ⟨y11, rfl, h11, b11⟩
  have D11 := Seg.hid b11
  have B11 := Seg.hid (chain B10.out D11.out)
  have s11 : w10.heap.size ≤ w11.heap.size := D11.out.size
  have P1_11 := Seg.hid ((D11.out.block (w.heap.size) (Array.getElem?_eq_some_iff.1 P1_10.out).1).trans P1_10.out)
  clear P1_10
  have Wr0_11 := Seg.hid (LAt.below keepsY Wr0_10.out D11.out (fun g hg => by have := hg.2; omega))
  clear Wr0_10
  have RX1_11 := Seg.hid (Ow.SchOwn.keep RX1_10.out D11.out.size (fun g hg => D11.out.block g (by have := hg.2; omega)))
  clear RX1_10
  have X1_11 := Seg.hid ((D11.out.block (w6.heap.size) (Array.getElem?_eq_some_iff.1 X1_10.out).1).trans X1_10.out)
  clear X1_10
  have RX2_11 := Seg.hid (Ow.LOwn.belowO Ow.keepsOVlu RX2_10.out D11.out (fun g hg => by have := hg.2; omega))
  clear RX2_10
  have G0_11 := Seg.hid (Ow.LOwn.belowO Ow.keepsOY G0_10.out D11.out (fun g hg => by have := hg.2; omega))
  clear G0_10
  obtain ⟨A11, c11, rfl⟩ := h11.form
  have Z2_11 := Seg.hid h11
  clear b11 h11
  go_wp2_with fail
  refine (eqValueS_any _ _ u2 w11 _ _ (Ow.LOwn.lat growsVlu Ow.atOVlu RX2_11.out) Z2_11.out (fun g hg => by have := hg.2; omega) (fun g hg => by have := hg.2; omega)).mono ?_
  rintro e w12 ⟨rfl, b12⟩
  have D12 := Seg.hid b12
  have B12 := Seg.hid (chain B11.out D12.out)
  have s12 : w11.heap.size ≤ w12.heap.size := D12.out.size
  have P1_12 := Seg.hid ((D12.out.block (w.heap.size) (Array.getElem?_eq_some_iff.1 P1_11.out).1).trans P1_11.out)
  clear P1_11
  have Wr0_12 := Seg.hid (LAt.below keepsY Wr0_11.out D12.out (fun g hg => by have := hg.2; omega))
  clear Wr0_11
  have RX1_12 := Seg.hid (Ow.SchOwn.keep RX1_11.out D12.out.size (fun g hg => D12.out.block g (by have := hg.2; omega)))
  clear RX1_11
  have X1_12 := Seg.hid ((D12.out.block (w6.heap.size) (Array.getElem?_eq_some_iff.1 X1_11.out).1).trans X1_11.out)
  clear X1_11
  have RX2_12 := Seg.hid (Ow.LOwn.belowO Ow.keepsOVlu RX2_11.out D12.out (fun g hg => by have := hg.2; omega))
  clear RX2_11
  have G0_12 := Seg.hid (Ow.LOwn.belowO Ow.keepsOY G0_11.out D12.out (fun g hg => by have := hg.2; omega))
  clear G0_11
  have Z2_12 := Seg.hid (LAt.below keepsVlu Z2_11.out D12.out (fun g hg => by have := hg.2; omega))
  clear Z2_11
  clear b12
  clear Z2_12
  go_wp2_with (refine wpList_load_row rfl 43 _ rfl (w6.heap.size) rfl _ _ _ _ X1_12.out Try.underlying43 rfl infoSch ?_)
  refine (Ow.markSchema_own _ 1 rfl (seg (w5.heap.size) w6.heap.size) u1 w12 (by decide) (by have := MA1.out; omega) (fun g hg => by have := hg.2; omega) RX1_12.out).mono ?_
  rintro e w13 ⟨rfl, hm13, ft13⟩
  have s13 : w12.heap.size ≤ w13.heap.size := ft13.size
  have B13 := Seg.hid (B12.out.trans (ft13.toBelow (lo := w.heap.size) (fun y hy => by have := hy.1; omega) (by omega)))
  have P1_13 := Seg.hid ((ft13.block (w.heap.size) (Array.getElem?_eq_some_iff.1 P1_12.out).1 (fun hy => by have := hy.1; have := hy.2; omega)).trans P1_12.out)
  clear P1_12
  have Wr0_13 := Seg.hid (LAt.keep keepsY Wr0_12.out (fun g hg => ft13.block g (by have := hg.2; omega) (fun hy => by have := hy.1; have := hy.2; have := hg.1; have := hg.2; omega)))
  clear Wr0_12
  have X1_13 := Seg.hid ((ft13.block (w6.heap.size) (Array.getElem?_eq_some_iff.1 X1_12.out).1 (fun hy => by have := hy.1; have := hy.2; omega)).trans X1_12.out)
  clear X1_12
  have RX2_13 := Seg.hid (Ow.LOwn.footO Ow.keepsOVlu RX2_12.out ft13 (fun g hg => by have := hg.2; omega) (fun g hg hy => by have := hy.1; have := hy.2; have := hg.1; have := hg.2; omega))
  clear RX2_12
  have G0_13 := Seg.hid (Ow.LOwn.footO Ow.keepsOY G0_12.out ft13 (fun g hg => by have := hg.2; omega) (fun g hg hy => by have := hy.1; have := hy.2; have := hg.1; have := hg.2; omega))
  clear G0_12
  have RX1_13 := Seg.hid hm13
  clear RX1_12 hm13 ft13
  obtain ⟨K0, hK0⟩ : ∃ K, 1 + Ow.nSch u1 = K := ⟨_, rfl⟩
  rw [hK0]
  have kb0 : 0 < K0 ∧ K0 ≤ 1000000001 := by have := MA1.out; omega
  clear hK0
  clear RX1_13
  go_wp2_with fail
  refine (Ow.markValueS_own _ K0 rfl (seg (w6.heap.size + 1) w7.heap.size) u2 w13 (by omega) (by have := MA2.out; omega) RX2_13.out).mono ?_
  rintro e w14 ⟨rfl, hm14, ft14⟩
  have s14 : w13.heap.size ≤ w14.heap.size := ft14.size
  have B14 := Seg.hid (B13.out.trans (ft14.toBelow (lo := w.heap.size) (fun y hy => by have := hy.1; omega) (by omega)))
  have P1_14 := Seg.hid ((ft14.block (w.heap.size) (Array.getElem?_eq_some_iff.1 P1_13.out).1 (fun hy => by have := hy.1; have := hy.2; omega)).trans P1_13.out)
  clear P1_13
  have Wr0_14 := Seg.hid (LAt.keep keepsY Wr0_13.out (fun g hg => ft14.block g (by have := hg.2; omega) (fun hy => by have := hy.1; have := hy.2; have := hg.1; have := hg.2; omega)))
  clear Wr0_13
  have X1_14 := Seg.hid ((ft14.block (w6.heap.size) (Array.getElem?_eq_some_iff.1 X1_13.out).1 (fun hy => by have := hy.1; have := hy.2; omega)).trans X1_13.out)
  clear X1_13
  have G0_14 := Seg.hid (Ow.LOwn.footO Ow.keepsOY G0_13.out ft14 (fun g hg => by have := hg.2; omega) (fun g hg hy => by have := hy.1; have := hy.2; have := hg.1; have := hg.2; omega))
  clear G0_13
  have RX2_14 := Seg.hid hm14
  clear RX2_13 hm14 ft14
  obtain ⟨K1, hK1⟩ : ∃ K, K0 + tot Ow.nVlu u2 = K := ⟨_, rfl⟩
  rw [hK1]
  have kb1 : 0 < K1 ∧ K1 ≤ 2000000001 := by have := MA2.out; omega
  clear hK1
  clear RX2_14
  clear X1_14
  have hK0 : (0 : Int) ≤ (K1 : Int) := by omega
  have hkd : decide ((K1 : Int) < 0) = false := decide_eq_false (by omega)
  go_wp2_with fail
  refine (eqByteS_any _ _ R0 w14 _ _ (Ow.LOwn.lat growsY Ow.atOY G0_14.out) Wr0_14.out (fun g hg => by have := hg.2; omega) (fun g hg => by have := hg.2; omega) YL0.out).mono ?_
  rintro e w15 ⟨rfl, b15⟩
  have D15 := Seg.hid b15
  have B15 := Seg.hid (chain B14.out D15.out)
  have s15 : w14.heap.size ≤ w15.heap.size := D15.out.size
  have P1_15 := Seg.hid ((D15.out.block (w.heap.size) (Array.getElem?_eq_some_iff.1 P1_14.out).1).trans P1_14.out)
  clear P1_14
  have Wr0_15 := Seg.hid (LAt.below keepsY Wr0_14.out D15.out (fun g hg => by have := hg.2; omega))
  clear Wr0_14
  have G0_15 := Seg.hid (Ow.LOwn.belowO Ow.keepsOY G0_14.out D15.out (fun g hg => by have := hg.2; omega))
  clear G0_14
  clear b15
  go_wp2_with fail
  refine (Ow.markByteS_own _ 1 rfl (seg (w7.heap.size) w8.heap.size) R0 w15 (by decide) (by have := MR0.out; omega) G0_15.out).mono ?_
  rintro e w16 ⟨rfl, hm16, ft16⟩
  have s16 : w15.heap.size ≤ w16.heap.size := ft16.size
  have B16 := Seg.hid (B15.out.trans (ft16.toBelow (lo := w.heap.size) (fun y hy => by have := hy.1; omega) (by omega)))
  have P1_16 := Seg.hid ((ft16.block (w.heap.size) (Array.getElem?_eq_some_iff.1 P1_15.out).1 (fun hy => by have := hy.1; have := hy.2; omega)).trans P1_15.out)
  clear P1_15
  have Wr0_16 := Seg.hid (LAt.keep keepsY Wr0_15.out (fun g hg => ft16.block g (by have := hg.2; omega) (fun hy => by have := hy.1; have := hy.2; have := hg.1; have := hg.2; omega)))
  clear Wr0_15
  have G0_16 := Seg.hid hm16
  clear G0_15 hm16 ft16
  obtain ⟨M0, hM0⟩ : ∃ M, 1 + tot Ow.nY R0 = M := ⟨_, rfl⟩
  have HM0 := Seg.hid hM0
  rw [hM0]
  have mb0 : 0 < M0 ∧ M0 ≤ 1000000001 := by have := MR0.out; omega
  clear hM0
  go_wp2_with fail
  refine (Ow.heldByteS_at _ 1 rfl (seg (w7.heap.size) w8.heap.size) R0 w16 (by decide) (by have := MR0.out; omega) (fun g hg => by have := hg.2; omega) (Ow.LOwn.lat growsY Ow.atOY G0_16.out)).mono ?_
  rintro e w17 ⟨rfl, b17⟩
  have D17 := Seg.hid b17
  have B17 := Seg.hid (chain B16.out D17.out)
  have s17 : w16.heap.size ≤ w17.heap.size := D17.out.size
  have P1_17 := Seg.hid ((D17.out.block (w.heap.size) (Array.getElem?_eq_some_iff.1 P1_16.out).1).trans P1_16.out)
  clear P1_16
  have Wr0_17 := Seg.hid (LAt.below keepsY Wr0_16.out D17.out (fun g hg => by have := hg.2; omega))
  clear Wr0_16
  have G0_17 := Seg.hid (Ow.LOwn.belowO Ow.keepsOY G0_16.out D17.out (fun g hg => by have := hg.2; omega))
  clear G0_16
  rw [HM0.out]
  clear b17
  have hM0 : ¬ (M0 : Int) < 0 := by omega
  have hM1 : ((M0 : Int) != (M0 : Int)) = false := by simp
  go_wp2_with (refine wpList_load_row rfl 37 _ rfl (w.heap.size) rfl _ _ _ _ P1_17.out Try.underlying37 rfl infoLSch ?_)
  refine (toSchema_any _ u1 w17 (All w) ((HV1.out).below B17.out (fun g hg => hg)) (fun g hg => Nat.lt_of_lt_of_le hg B17.out.size) FW1.out).mono ?_
  rintro e w18 ⟨y18, rfl, h18, b18⟩
  have D18 := Seg.hid b18
  have B18 := Seg.hid (chain B17.out D18.out)
  have s18 : w17.heap.size ≤ w18.heap.size := D18.out.size
  have P1_18 := Seg.hid ((D18.out.block (w.heap.size) (Array.getElem?_eq_some_iff.1 P1_17.out).1).trans P1_17.out)
  clear P1_17
  have Wr0_18 := Seg.hid (LAt.below keepsY Wr0_17.out D18.out (fun g hg => by have := hg.2; omega))
  clear Wr0_17
  have G0_18 := Seg.hid (Ow.LOwn.belowO Ow.keepsOY G0_17.out D18.out (fun g hg => by have := hg.2; omega))
  clear G0_17
  have T1_18 := Seg.hid h18
  obtain ⟨T18_1, t18_q1, e18⟩ := FSch.form h18
  subst e18
  clear b18 h18
  go_wp2_with fail
  refine (toValueS_any _ u2 w18 (All w) (LAt.below keepsVlu (HV2.out) B18.out (fun g hg => hg)) (fun g hg => Nat.lt_of_lt_of_le hg B18.out.size) FW2.out).mono ?_
  rintro e w19 ⟨y19, rfl, h19, b19⟩
  have D19 := Seg.hid b19
  have B19 := Seg.hid (chain B18.out D19.out)
  have s19 : w18.heap.size ≤ w19.heap.size := D19.out.size
  have P1_19 := Seg.hid ((D19.out.block (w.heap.size) (Array.getElem?_eq_some_iff.1 P1_18.out).1).trans P1_18.out)
  clear P1_18
  have Wr0_19 := Seg.hid (LAt.below keepsY Wr0_18.out D19.out (fun g hg => by have := hg.2; omega))
  clear Wr0_18
  have G0_19 := Seg.hid (Ow.LOwn.belowO Ow.keepsOY G0_18.out D19.out (fun g hg => by have := hg.2; omega))
  clear G0_18
  have T1_19 := Seg.hid (T1_18.out.below D19.out (fun g hg => by have := hg.2; omega))
  clear T1_18
  have T2_19 := Seg.hid h19
  obtain ⟨A19, c19, e19⟩ := h19.form
  subst e19
  clear b19 h19
  go_wp2_with fail
  refine (CI.out w19 _ _ ((T1_19.out).mono (fun g hg => by have := hg.2; omega)) (LAt.mono growsVlu (T2_19.out) (fun g hg => by have := hg.2; omega))).mono ?_
  rintro e w20 ⟨r20_0, rfl, h20_0, b20⟩
  have D20 := Seg.hid b20
  have B20 := Seg.hid (chain B19.out D20.out)
  have s20 : w19.heap.size ≤ w20.heap.size := D20.out.size
  have P1_20 := Seg.hid ((D20.out.block (w.heap.size) (Array.getElem?_eq_some_iff.1 P1_19.out).1).trans P1_19.out)
  clear P1_19
  have Wr0_20 := Seg.hid (LAt.below keepsY Wr0_19.out D20.out (fun g hg => by have := hg.2; omega))
  clear Wr0_19
  have G0_20 := Seg.hid (Ow.LOwn.belowO Ow.keepsOY G0_19.out D20.out (fun g hg => by have := hg.2; omega))
  clear G0_19
  have T1_20 := Seg.hid (T1_19.out.below D20.out (fun g hg => by have := hg.2; omega))
  clear T1_19
  have T2_20 := Seg.hid (LAt.below keepsVlu T2_19.out D20.out (fun g hg => by have := hg.2; omega))
  clear T2_19
  clear T1_20
  clear T2_20
  obtain ⟨A20_0, c20_0, rfl⟩ := Ow.LOwn.form h20_0
  have Hh0_20 := Seg.hid h20_0
  clear b20 h20_0
  go_wp2_with fail
  refine (eqByteS_any _ _ R0 w20 _ _ (Ow.LOwn.lat growsY Ow.atOY Hh0_20.out) Wr0_20.out (fun g hg => by have := hg.2; omega) (fun g hg => by have := hg.2; omega) YL0.out).mono ?_
  rintro e w21 ⟨rfl, b21⟩
  have D21 := Seg.hid b21
  have B21 := Seg.hid (chain B20.out D21.out)
  have s21 : w20.heap.size ≤ w21.heap.size := D21.out.size
  have P1_21 := Seg.hid ((D21.out.block (w.heap.size) (Array.getElem?_eq_some_iff.1 P1_20.out).1).trans P1_20.out)
  clear P1_20
  have Wr0_21 := Seg.hid (LAt.below keepsY Wr0_20.out D21.out (fun g hg => by have := hg.2; omega))
  clear Wr0_20
  have G0_21 := Seg.hid (Ow.LOwn.belowO Ow.keepsOY G0_20.out D21.out (fun g hg => by have := hg.2; omega))
  clear G0_20
  have Hh0_21 := Seg.hid (Ow.LOwn.belowO Ow.keepsOY Hh0_20.out D21.out (fun g hg => by have := hg.2; omega))
  clear Hh0_20
  clear b21
  clear Hh0_21
  go_wp2_with fail
  refine (Ow.heldByteS_at _ 1 rfl (seg (w7.heap.size) w8.heap.size) R0 w21 (by decide) (by have := MR0.out; omega) (fun g hg => by have := hg.2; omega) (Ow.LOwn.lat growsY Ow.atOY G0_21.out)).mono ?_
  rintro e w22 ⟨rfl, b22⟩
  have D22 := Seg.hid b22
  have B22 := Seg.hid (chain B21.out D22.out)
  have s22 : w21.heap.size ≤ w22.heap.size := D22.out.size
  have P1_22 := Seg.hid ((D22.out.block (w.heap.size) (Array.getElem?_eq_some_iff.1 P1_21.out).1).trans P1_21.out)
  clear P1_21
  have Wr0_22 := Seg.hid (LAt.below keepsY Wr0_21.out D22.out (fun g hg => by have := hg.2; omega))
  clear Wr0_21
  have G0_22 := Seg.hid (Ow.LOwn.belowO Ow.keepsOY G0_21.out D22.out (fun g hg => by have := hg.2; omega))
  clear G0_21
  rw [HM0.out]
  clear b22
  go_wp2
  go_ret
  exact ⟨rfl, B22.out⟩
end Go.Proofs.Ytdhicmbfknagjaa.ExWw
