/- What the frame tells of a list that came in, of any element; The walk of the law on Safe out of the contracts; What the frame tells of a list of numbers that came in. -/
import Derived.ProofKit
import Derived.Deep.SlicePairs
import Derived.Test.YticihnoekffelaaJS20
import Derived.Test.YticihnoekffelaaJS33
import Derived.Test.YticihnoekffelaaJS38
import Derived.Test.YticihnoekffelaaJS40
import Derived.Test.YticihnoekffelaaJS44
import Derived.Test.YticihnoekffelaaJS41
import Derived.Test.YticihnoekffelaaJS45
namespace Go.Proofs.Yticihnoekffelaa.Ls
set_option maxRecDepth 8000
open Go.ChangeShapes Go.WideShapes Go.ChangeAt Go.RowKit Go.Deep
open Recs
set_option linter.unusedVariables false
/-- All blocks of a world. -/
def All (W : World) (g : Nat) : Prop := g < W.heap.size
section
variable {H : Type} {enc : TypeId × Value → H} {W : World} {sp : Nat → Bool} {held : Bool}
theorem cellsI : Try.prog.cellsOf 3 = 1 := by kernel_rfl
theorem open_list {T : Type} [Inhabited T] {E : Elt T} {Fine : T → Prop} {tS tE nf : Nat} {fuel : Nat} {cs : List Value} {x : DataW H × List MemPlace} (hK : Keeps nf E) (hnf : 0 < nf) (hU : Try.prog.underlying tS = some (.slice tE)) (hN : Try.prog.cellsOf tE = nf)
    (hel : ∀ (fuel : Nat) (cs : List Value) (x : DataW H × List MemPlace), DataW.trod enc Try.prog W 0 sp held fuel tE cs = some x → ∃ (f : Nat → Value) (u : T), (∀ q, q < nf → cs[q]? = some (f q)) ∧ E W (All W) f u ∧ Fine u)
    (h : DataW.trod enc Try.prog W 0 sp held fuel tS cs = some x) :
    ∃ (v : Value) (us : List T), cs = [v] ∧ LAt nf E W (All W) v us ∧ FineL Fine us := by
  rcases open_slice hU h with ⟨rfl, _⟩ | ⟨a, len, cap, m, n, D, Pl, rfl, _, hl, hm, hmm, _, hx⟩
  · exact ⟨_, [], rfl, LAt.nil _ _ _ _, by simp, fun i hi => by simp at hi⟩
  have hlm : len ≤ m := by rw [hmm]; split <;> omega
  rw [hN] at hx
  obtain ⟨f, hf⟩ := choose_lt (α := (Nat → Value) × T) (n := len) (p := fun i q => (∃ cs', W.cells? 0 (a.add (i * nf)) nf = some cs' ∧ ∀ j, j < nf → cs'[j]? = some (q.1 j)) ∧ E W (All W) q.1 q.2 ∧ Fine q.2) (fun i hi => by
    obtain ⟨cs', h1, h2⟩ := hx i (by omega)
    obtain ⟨f, u, hc, hh, hfi⟩ := hel _ _ _ h2
    exact ⟨(f, u), ⟨cs', h1, hc⟩, hh, hfi⟩)
  have hlen : ((List.range len).map fun i => (f i).2).length = len := by simp
  have hget : ∀ i, i < len → ((List.range len).map fun i => (f i).2).getD i default = (f i).2 := fun i hi => by simp [hi]
  refine ⟨_, (List.range len).map fun i => (f i).2, rfl, ⟨?_, some a, cap, by rw [hlen], ?_⟩, ?_, ?_⟩
  · rw [hlen]; unfold maxLen at hm; omega
  · by_cases hz : len = 0
    · left; rw [hlen]; exact hz
    · right
      obtain ⟨b, off, spot⟩ := a
      have cell : ∀ i, i < len → ∀ j, j < nf → W.cell? (((⟨b, off, spot⟩ : Addr).add (i * nf)).add j) = some ((f i).1 j) := fun i hi j hj => by
        obtain ⟨⟨cs', h1, h2⟩, _⟩ := hf i hi
        rw [(World.cells?_some h1).2.2 j hj, h2 j hj]
      have hc := cell 0 (by omega) 0 hnf
      have hspot : spot = none := by simpa [Addr.add] using World.cell?_spot hc
      subst hspot
      have hlt : b < W.heap.size := by have := World.block_lt_of_cell? W _ hc; simpa [Addr.add] using this
      refine ⟨b, off, fun i j => (f i).1 j, rfl, hlt, by rw [hlen]; exact hl, ?_, ?_⟩
      · rw [hlen]
        intro i hi j hj
        have := cell i hi j hj
        rw [add_add, Addr.add_mid, ← Nat.add_assoc] at this
        exact this
      · rw [hlen]
        intro i hi
        rw [hget i hi]
        exact (hf i hi).2.1
  · rw [hlen]; omega
  · rw [hlen]
    intro i hi
    rw [hget i hi]
    exact (hf i hi).2.2
end
end Go.Proofs.Yticihnoekffelaa.Ls
namespace Go.Proofs.Yticihnoekffelaa.ExSf
set_option maxRecDepth 8000
open Go.RowKit
open Ls
open Recs (hsz below1 below2 chain chainD Bat Rec Hd)
open SegW (Sg)
open LogW (Lg)
open SfQ (safe)
open Ow (BatsOwn PrtOwn nBat nRec nHd nSg nRpl nPrt mBat mL)
set_option linter.unusedVariables false
theorem six {w : World} {g ty : Nat} {a b c d e f : Value} (h : w.heap[g]? = some (.cells #[a, b, c, d, e, f] ty (0, 0))) : w.cell? ⟨g, 0, none⟩ = some a ∧ w.cell? ⟨g, 1, none⟩ = some b ∧ w.cell? ⟨g, 2, none⟩ = some c ∧ w.cell? ⟨g, 3, none⟩ = some d ∧ w.cell? ⟨g, 4, none⟩ = some e ∧ w.cell? ⟨g, 5, none⟩ = some f :=
  ⟨cell_of_row w g 0 _ _ (0, 0) h, cell_of_row w g 1 _ _ (0, 0) h, cell_of_row w g 2 _ _ (0, 0) h, cell_of_row w g 3 _ _ (0, 0) h, cell_of_row w g 4 _ _ (0, 0) h, cell_of_row w g 5 _ _ (0, 0) h⟩
/-- Numbers that marks count, by a measure. -/
theorem tot_few {T : Type} (n s : T → Nat) (c : Nat) (h : ∀ u, n u ≤ c + c * s u) : ∀ us : List T, tot n us ≤ c * szL s us
  | [] => Nat.zero_le _
  | u :: r => by
    have h1 := h u
    have h2 := tot_few n s c h r
    unfold szL at h2 ⊢
    simp only [tot, List.length_cons]
    rw [show c * (r.length + 1 + (s u + tot s r)) = c * (r.length + tot s r) + (c + c * s u) by simp only [Nat.mul_add]; omega]
    omega
theorem few_rec (r : Rec) : nRec r ≤ 10 + 10 * szRec r := by
  have := tot_few nHd szHd 10 (fun u => by unfold nHd; omega) r.heads
  unfold nRec szRec
  omega
theorem few_bat (t : Bat) : nBat t ≤ 10 + 10 * szBat t := by
  have := tot_few nRec szRec 10 few_rec t.recs
  unfold nBat szBat
  omega
theorem few_sg (t : Sg) : nSg t ≤ 10 + 10 * szSg t := by
  have := tot_few nBat szBat 10 few_bat t.bats
  unfold nSg szSg
  omega
theorem few_rpl (t : Rpl) : nRpl t ≤ 10 + 10 * szRpl t := by
  have := tot_few nSg szSg 10 few_sg t.segs
  show 5 + tot nSg t.segs ≤ 10 + 10 * szL szSg t.segs
  omega
theorem few_ints (us : List Int) : tot Ow.nI us ≤ us.length := by
  induction us with
  | nil => exact Nat.zero_le _
  | cons u r ih => simp only [tot, List.length_cons]; unfold Ow.nI at ih ⊢; omega
theorem few_prt {p : Prt} (h : szPrt p ≤ 1048576) : 1 + nPrt p ≤ 4000000000000000000 := by
  have h1 := tot_few nRpl szRpl 10 few_rpl p.reps
  have h2 := few_ints p.insync
  have h3 := few_ints p.known
  unfold szPrt at h
  unfold nPrt
  omega
theorem tot_bound {T : Type} (n : T → Nat) (c : Nat) : ∀ us : List T, (∀ u ∈ us, n u ≤ c) → tot n us ≤ c * us.length
  | [], _ => Nat.zero_le _
  | u :: r, h => by
    have h1 := h u (by simp)
    have h2 := tot_bound n c r (fun x hx => h x (by simp [hx]))
    simp only [tot, List.length_cons, Nat.mul_succ]
    omega
theorem ok_bound {b : Bat} (h : BOk.batOk b = true) : nBat b ≤ 1000 := by
  have hl := (LgP.okLen h).2.2.2
  have hr : ∀ r ∈ b.recs, nRec r ≤ 11 := fun r hr => by
    simp only [BOk.batOk, Bool.and_eq_true, List.all_eq_true] at h
    have h1 := h.1.2 r hr
    simp only [ROk.okR, ROk.okR0, Bool.and_eq_true, decide_eq_true_eq] at h1
    have h2 := tot_bound nHd 2 r.heads (fun _ _ => Nat.le_refl _)
    unfold nRec
    omega
  have := tot_bound nRec 11 b.recs hr
  unfold nBat
  omega
theorem safe_bound (p : Prt) : (safe p).length ≤ 400 ∧ tot nBat (safe p) ≤ 400000 := by
  unfold safe
  split
  · rename_i hc
    simp only [Bool.and_eq_true, decide_eq_true_eq] at hc
    obtain ⟨l0, l1, lok, lm, ln⟩ := SfQ.part_lead hc.1 (by omega)
    generalize p.reps.getD p.leader.toNat default = r at *
    obtain ⟨f0, k1, k2, k3, k4, k5, k6, k7⟩ := Of.ok_all lok
    obtain ⟨f, K1⟩ := SfP.segs_cut r.mark r.segs 0 0 f0 0 0 k1 (Int.le_refl _) (Int.le_refl _)
    have FLB : (BfP.flatB (CtP.cutSs r.mark r.segs)).length ≤ 400 := Nat.le_trans (SfP.flat_le _ _) (by rw [Of.flat_count]; exact k7)
    have h1 : (BfP.fromB r.start (BfP.flatB (CtP.cutSs r.mark r.segs))).length ≤ 400 := Nat.le_trans (List.length_filter_le _ _) FLB
    have h2 := tot_bound nBat 1000 (BfP.fromB r.start (BfP.flatB (CtP.cutSs r.mark r.segs))) (fun b hb => ok_bound (Of.okB_flat K1 b (List.mem_filter.1 hb).1))
    exact ⟨h1, by omega⟩
  · exact ⟨by simp, by simp [tot]⟩
/-- What stands through the law: the argument, the model's answer, the copy, the program's answer (its list holds Lc). -/
structure St (w w2 w3 w4 w5 : World) (vT : Array Value) (us : List Bat) (v3 : Value) (vX : Array Value) (v5 : Value) (Lc : List Bat) (wx : World) : Prop where
  T : wx.heap[w.heap.size]? = some (.cells vT 38 (0, 0))
  X : wx.heap[w4.heap.size]? = some (.cells vX 44 (0, 0))
  P : LAt 7 EBat wx (seg 0 w3.heap.size) v3 us
  O : BatsOwn wx (seg (w4.heap.size + 1) w5.heap.size) v5 Lc
  B : Below w.heap.size w wx
  S : w5.heap.size ≤ wx.heap.size
  ord : w.heap.size < w2.heap.size ∧ w2.heap.size ≤ w3.heap.size ∧ w3.heap.size ≤ w4.heap.size ∧ w4.heap.size < w5.heap.size
section
variable {w w2 w3 w4 w5 : World} {vT vX : Array Value} {us : List Bat} {v3 v5 : Value} {Lc : List Bat} {wx wy : World}
theorem St.below (h : St w w2 w3 w4 w5 vT us v3 vX v5 Lc wx) (b : Below wx.heap.size wx wy) : St w w2 w3 w4 w5 vT us v3 vX v5 Lc wy := by
  have s := h.S
  obtain ⟨o1, o2, o3, o4⟩ := h.ord
  exact ⟨(b.block _ (by omega)).trans h.T, (b.block _ (by omega)).trans h.X, LAt.keep keepsBat h.P (fun g hg => b.block g (by have := hg.2; omega)), Ow.LOwn.keep Ow.keepsOBat h.O b.size (fun g hg => b.block g (by have := hg.2; omega)), chain h.B b, Nat.le_trans s b.size, h.ord⟩
theorem St.foot (h : St w w2 w3 w4 w5 vT us v3 vX v5 Lc wx) (f : Ow.Foot wx wy (seg w3.heap.size w4.heap.size)) : St w w2 w3 w4 w5 vT us v3 vX v5 Lc wy := by
  have s := h.S
  obtain ⟨o1, o2, o3, o4⟩ := h.ord
  have k : ∀ x, x < wx.heap.size → ¬ (w3.heap.size ≤ x ∧ x < w4.heap.size) → wy.heap[x]? = wx.heap[x]? := fun x hx hn => f.block x hx hn
  exact ⟨(k _ (by omega) (by omega)).trans h.T, (k _ (by omega) (by omega)).trans h.X, LAt.keep keepsBat h.P (fun g hg => k g (by have := hg.2; omega) (by have := hg.1; have := hg.2; omega)), Ow.LOwn.keep Ow.keepsOBat h.O f.size (fun g hg => k g (by have := hg.2; omega) (by have := hg.1; omega)), h.B.trans ((f.toBelow (lo := w.heap.size) (fun y hy => by have := hy.1; omega) (by omega))), Nat.le_trans s f.size, h.ord⟩
theorem St.mark {Ld : List Bat} (h : St w w2 w3 w4 w5 vT us v3 vX v5 Lc wx) (f : Ow.Foot wx wy (seg (w4.heap.size + 1) w5.heap.size)) (ho : BatsOwn wy (seg (w4.heap.size + 1) w5.heap.size) v5 Ld) : St w w2 w3 w4 w5 vT us v3 vX v5 Ld wy := by
  have s := h.S
  obtain ⟨o1, o2, o3, o4⟩ := h.ord
  have k : ∀ x, x < wx.heap.size → ¬ (w4.heap.size + 1 ≤ x ∧ x < w5.heap.size) → wy.heap[x]? = wx.heap[x]? := fun x hx hn => f.block x hx hn
  exact ⟨(k _ (by omega) (by omega)).trans h.T, (k _ (by omega) (by omega)).trans h.X, LAt.keep keepsBat h.P (fun g hg => k g (by have := hg.2; omega) (by have := hg.1; have := hg.2; omega)), ho, h.B.trans ((f.toBelow (lo := w.heap.size) (fun y hy => by have := hy.1; omega) (by omega))), Nat.le_trans s f.size, h.ord⟩
theorem St.eq (h : St w w2 w3 w4 w5 vT us v3 vX v5 us wx) : Calls Try.prog 16 #[v5, v3] wx fun e w' => e = .returned (.bool true) ∧ Below wx.heap.size wx w' :=
  eqBatchS_any _ _ us wx _ _ (Ow.LOwn.lat growsBat Ow.atOBat h.O) h.P (fun g hg => by have := hg.2; have := h.S; omega) (fun g hg => by have := hg.2; have := h.S; have := h.ord; omega)
end
set_option maxHeartbeats 12800000 in
theorem walk (v : Value) (t : Prt) (w : World) (hv : PrtAt w (All w) v t) (hf : FinePrt t) :
    Calls Try.prog 4 #[v] w fun e w' => e = .returned (.bool true) ∧ Below w.heap.size w w' := by
  have HV := Seg.hid hv
  obtain ⟨A, c, Ai, ci, Ak, ck, rfl⟩ := PoP.form hv
  have HF := Seg.hid hf
  clear hf hv
  obtain ⟨us, hR⟩ : ∃ us, safe t = us := ⟨_, rfl⟩
  have MB : Hid (1 + tot nBat us ≤ 4000000000000000000) := by show _ ≤ _; have := (safe_bound t).2; rw [hR] at this; omega
  have CS : Hid (∀ v w lo b, PrtAt w (seg lo b) v t → b ≤ w.heap.size → szPrt t ≤ 1048576 → Calls Try.prog 13 #[v] w fun e w' => ∃ sv, e = .returned sv ∧ LAt 7 EBat w' (seg 0 w'.heap.size) sv us ∧ Below w.heap.size w w') := by
    intro v w lo b h1 h2 h3
    refine (SfS.safeS_any v t w lo b h1 h2 h3 HF.out).mono ?_
    rintro e w' ⟨v', rfl, hb, bel⟩
    rw [hR] at hb
    exact ⟨v', rfl, NwL.latB hb, bel⟩
  have CI : Hid (∀ v w lo b, PrtAt w (seg lo b) v t → b ≤ w.heap.size → szPrt t ≤ 1048576 → Calls Try.prog 15 #[v] w fun e w' => ∃ sv, e = .returned sv ∧ BatsOwn w' (seg w.heap.size w'.heap.size) sv us ∧ Below w.heap.size w w') := by
    intro v w lo b h1 h2 h3
    refine (SfI.safe_any v t w lo b h1 h2 h3).mono ?_
    rintro e w' ⟨v', rfl, hb, bel⟩
    rw [hR] at hb
    exact ⟨v', rfl, NwL.bats hb, bel⟩
  clear hR
  go_enter Try.func4, Try.ntmps4
  go_wp2_with fail
  refine (szPart_any _ t _ (w.alloc _) (All w) (by omega) (by omega) (HV.out.below (below1 w _) (fun g hg => hg)) (fun g hg => by rw [hsz]; have : g < w.heap.size := hg; omega) HF.out).mono ?_
  rintro e w1 ⟨q, rfl, q1, q2, q3, b1⟩
  have B1 := Seg.hid (chain (below1 w _) b1)
  have T1 : Hid (w1.heap[w.heap.size]? = some (.cells #[.slice A t.reps.length c, .int .i64 t.leader, .int .i64 t.epoch, .slice Ai t.insync.length ci, .slice Ak t.known.length ck, .int .i64 t.least] 38 (0, 0))) := (b1.block w.heap.size (by rw [hsz]; omega)).trans (heap_alloc_new _ _)
  clear b1
  by_cases hq : q < 0
  · go_wp2
    go_ret
    exact ⟨rfl, B1.out⟩
  have FW : Hid (szPrt t ≤ 1048576) := by show _ ≤ _; have := q3.1 (by omega); omega
  have s1 := B1.out.size
  have z1 : w.heap.size < w1.heap.size := (Array.getElem?_eq_some_iff.1 T1.out).1
  clear q3
  go_wp2_with (refine wpList_load_row rfl 38 _ rfl w.heap.size rfl _ _ _ _ T1.out Try.underlying38 rfl infoLPrt ?_)
  refine (toPart_any _ t w1 (All w) (HV.out.below B1.out (fun g hg => hg)) (fun g hg => Nat.lt_of_lt_of_le hg s1) FW.out).mono ?_
  rintro e w2 ⟨v2, rfl, r2, b2⟩
  have R2 := Seg.hid r2
  have B2 := Seg.hid (chain B1.out b2)
  have T2 := Seg.hid ((b2.block w.heap.size z1).trans T1.out)
  have s2 := b2.size
  clear r2 b2
  obtain ⟨A2, c2, A2i, c2i, A2k, c2k, hv2⟩ := PoP.form R2.out
  rw [hv2] at R2
  subst hv2
  go_wp2_with fail
  refine (CS.out _ w2 _ _ R2.out (Nat.le_refl _) FW.out).mono ?_
  rintro e w3 ⟨sv3, rfl, o3, b3⟩
  have O3 := Seg.hid o3
  have B3 := Seg.hid (chain B2.out b3)
  have T3 := Seg.hid ((b3.block w.heap.size (by omega)).trans T2.out)
  have s3 := b3.size
  obtain ⟨A3, c3, rfl⟩ := LAt.form o3
  clear b3 o3
  go_wp2_with (refine wpList_load_row rfl 38 _ rfl w.heap.size rfl _ _ _ _ T3.out Try.underlying38 rfl infoLPrt ?_)
  refine (Ow.toPart_own _ t w3 (All w) (HV.out.below B3.out (fun g hg => hg)) (fun g hg => Nat.lt_of_lt_of_le hg (by omega)) FW.out).mono ?_
  rintro e w4 ⟨v4, rfl, ow4, b4⟩
  obtain ⟨A4, c4, A4i, c4i, A4k, c4k, hv4⟩ := PoP.form ow4.at
  subst hv4
  have W4 := Seg.hid ow4
  have b34 := Seg.hid b4
  have B4 := Seg.hid (chain B3.out b34.out)
  have T4 := Seg.hid ((b34.out.block w.heap.size (by omega)).trans T3.out)
  have O4 := Seg.hid (LAt.keep keepsBat O3.out (fun g hg => b34.out.block g hg.2))
  have s4 := b4.size
  clear b4 ow4
  go_wp2_with fail
  refine (CI.out _ (w4.alloc _) _ w4.heap.size (W4.out.at.below (below1 w4 _) (fun g hg => hg.2)) (by rw [hsz]; omega) FW.out).mono ?_
  rintro e w5 ⟨sv5, rfl, o5, b5⟩
  have b45 := Seg.hid (chain (below1 w4 _) b5)
  have XB5 : Hid (w5.heap[w4.heap.size]? = some (.cells #[.slice A4 t.reps.length c4, .int .i64 t.leader, .int .i64 t.epoch, .slice A4i t.insync.length c4i, .slice A4k t.known.length c4k, .int .i64 t.least] 44 (0, 0))) := (b5.block w4.heap.size (by rw [hsz]; omega)).trans (heap_alloc_new _ _)
  have s5 := b5.size
  rw [hsz] at o5 s5
  have O5 := Seg.hid o5
  have B5 := Seg.hid (chain B4.out b45.out)
  have T5 := Seg.hid ((b45.out.block w.heap.size (by omega)).trans T4.out)
  have P5 := Seg.hid (LAt.keep keepsBat O4.out (fun g hg => b45.out.block g (by have := hg.2; omega)))
  have W5 := Seg.hid (W4.out.keep b45.out.size (fun g hg => b45.out.block g hg.2))
  obtain ⟨A5, c5, rfl⟩ := Ow.LOwn.form o5
  clear b5 o5
  have ST5 : Hid (St w w2 w3 w4 w5 #[.slice A t.reps.length c, .int .i64 t.leader, .int .i64 t.epoch, .slice Ai t.insync.length ci, .slice Ak t.known.length ck, .int .i64 t.least] us (.slice A3 us.length c3) #[.slice A4 t.reps.length c4, .int .i64 t.leader, .int .i64 t.epoch, .slice A4i t.insync.length c4i, .slice A4k t.known.length c4k, .int .i64 t.least] (.slice A5 us.length c5) us w5) := ⟨T5.out, XB5.out, P5.out, O5.out, B5.out, Nat.le_refl _, by omega, by omega, by omega, by omega⟩
  clear T5 XB5 P5 O5 B5 W4 O4 T4 B4 O3 T3 B3 R2 T2 B2 T1 b34 b45
  go_wp2_with fail
  refine (ST5.out.eq).mono ?_
  rintro e w6 ⟨rfl, b6⟩
  have ST6 := Seg.hid (ST5.out.below b6)
  have W6 := Seg.hid (W5.out.keep b6.size (fun g hg => b6.block g (by have := hg.2; omega)))
  clear b6 ST5 W5
  go_wp2_with fail
  obtain ⟨x0, x1, x2, x3, x4, x5⟩ := six ST6.out.X
  obtain ⟨d0, d1, d2, d3, d4, d5⟩ := six ST6.out.T
  have s6 := ST6.out.S
  have ord := ST6.out.ord
  go_region_with (first | (go_at_call 14; refine (toPart_any _ t w6.drew (All w) (HV.out.below ST6.out.B.drew (fun g hg => hg)) (fun g hg => Nat.lt_of_lt_of_le hg ST6.out.B.size) FW.out).mono ?_; rintro e w7 ⟨v7, rfl, r7, b7⟩; have R7 := Seg.hid r7; have BD7 : Hid (Below w6.heap.size w6 w7) := ⟨b7.os, b7.tape, b7.output, b7.size, b7.block⟩; have X7 := Seg.hid (W6.out.at.below BD7.out (fun g hg => by have := hg.2; omega)); obtain ⟨j0, j1, j2, j3, j4, j5⟩ := six ((b7.block w4.heap.size (by show _ < w6.heap.size; omega)).trans ST6.out.X); clear b7 r7) | (go_at_call 17; refine (eqPart_any _ _ t w7 _ _ X7.out R7.out (fun g hg => by have := hg.2; have := BD7.out.size; omega) (fun g hg => hg.2)).mono ?_; rintro e w8 ⟨rfl, b8⟩; have BD8 : Hid (Below w6.heap.size w6 w8) := chain BD7.out b8; clear b8))
  all_goals
    have ST8 := Seg.hid (ST6.out.below BD8.out)
    have W8 := Seg.hid (W6.out.keep BD8.out.size (fun g hg => BD8.out.block g (by have := hg.2; omega)))
    clear x0 x1 x2 x3 x4 x5 d0 d1 d2 d3 d4 d5
    try clear j0 j1 j2 j3 j4 j5
    obtain ⟨x0, x1, x2, x3, x4, x5⟩ := six ST8.out.X
    go_wp2_with fail
    clear x0 x1 x2 x3 x4 x5
    refine (Ow.markPart_own _ 1 rfl (seg w3.heap.size w4.heap.size) t w8 (by decide) (few_prt FW.out) (fun x hx => by have := hx.2; have := ST8.out.S; omega) W8.out).mono ?_
    rintro e w9 ⟨rfl, hM, hW⟩
    clear hM
    have ST9 := Seg.hid (ST8.out.foot hW)
    obtain ⟨K, hK⟩ : ∃ K, 1 + nPrt t = K := ⟨_, rfl⟩
    rw [hK]
    clear hK hW W8 ST8 W6 ST6 BD8 BD7 X7 R7
    have hK0 : (0 : Int) ≤ (K : Int) := by omega
    have hkd : decide ((K : Int) < 0) = false := decide_eq_false (by omega)
    go_wp2_with fail
    refine (ST9.out.eq).mono ?_
    rintro e w10 ⟨rfl, b10⟩
    have ST10 := Seg.hid (ST9.out.below b10)
    clear b10 ST9
    go_wp2_with fail
    refine (Ow.markBatchS_own _ 1 rfl (seg (w4.heap.size + 1) w5.heap.size) us w10 (by decide) MB.out ST10.out.O).mono ?_
    rintro e w11 ⟨rfl, hM, hW⟩
    have ST11 := Seg.hid (ST10.out.mark hW hM)
    clear hM hW ST10
    obtain ⟨M, hM⟩ : ∃ M, 1 + tot nBat us = M := ⟨_, rfl⟩
    have HMM := Seg.hid hM
    rw [hM]
    clear hM
    go_wp2_with fail
    refine (Ow.heldBatchS_at _ 1 rfl (seg (w4.heap.size + 1) w5.heap.size) us w11 (by decide) MB.out (fun g hg => by have := hg.2; have := ST11.out.S; omega) (Ow.LOwn.lat growsBat Ow.atOBat ST11.out.O)).mono ?_
    rintro e w12 ⟨rfl, b12⟩
    have ST12 := Seg.hid (ST11.out.below b12)
    clear b12 ST11
    rw [HMM.out]
    have hM0 : ¬ (M : Int) < 0 := by omega
    have hM1 : ((M : Int) != (M : Int)) = false := by simp
    obtain ⟨d0, d1, d2, d3, d4, d5⟩ := six ST12.out.T
    go_wp2_with fail
    clear d0 d1 d2 d3 d4 d5
    refine (toPart_any _ t w12 (All w) (HV.out.below ST12.out.B (fun g hg => hg)) (fun g hg => Nat.lt_of_lt_of_le hg ST12.out.B.size) FW.out).mono ?_
    rintro e w13 ⟨v13, rfl, r13, b13⟩
    obtain ⟨A13, c13, A13i, c13i, A13k, c13k, hv13⟩ := PoP.form r13
    subst hv13
    have R13 := Seg.hid r13
    have ST13 := Seg.hid (ST12.out.below b13)
    clear r13 b13 ST12
    go_wp2_with fail
    refine (CI.out _ w13 _ _ R13.out (Nat.le_refl _) FW.out).mono ?_
    rintro e w14 ⟨sv14, rfl, o14, b14⟩
    have ST14 := Seg.hid (ST13.out.below b14)
    obtain ⟨A14, c14, rfl⟩ := Ow.LOwn.form o14
    have EQ14 : Hid (Calls Try.prog 16 #[.slice A14 us.length c14, .slice A3 us.length c3] w14 fun e w' => e = .returned (.bool true) ∧ Below w14.heap.size w14 w') :=
      eqBatchS_any _ _ us w14 _ _ (Ow.LOwn.lat growsBat Ow.atOBat o14) ST14.out.P (fun g hg => hg.2) (fun g hg => by have := hg.2; have := ST14.out.S; have := ST14.out.ord; omega)
    clear o14 b14 ST13
    go_wp2_with fail
    refine EQ14.out.mono ?_
    rintro e w16 ⟨rfl, b16⟩
    have ST16 := Seg.hid (ST14.out.below b16)
    clear b16 ST14 EQ14
    go_wp2_with fail
    refine (Ow.heldBatchS_at _ 1 rfl (seg (w4.heap.size + 1) w5.heap.size) us w16 (by decide) MB.out (fun g hg => by have := hg.2; have := ST16.out.S; omega) (Ow.LOwn.lat growsBat Ow.atOBat ST16.out.O)).mono ?_
    rintro e w17 ⟨rfl, b17⟩
    have ST17 := Seg.hid (ST16.out.below b17)
    clear b17 ST16
    rw [HMM.out]
    go_wp2_with fail
    go_ret
    exact ⟨rfl, ST17.out.B⟩
end Go.Proofs.Yticihnoekffelaa.ExSf
namespace Go.Proofs.Yticihnoekffelaa.Ls
set_option maxRecDepth 8000
open Go.ChangeShapes Go.WideShapes Go.ChangeAt Go.RowKit Go.Deep
open Recs
set_option linter.unusedVariables false
section
variable {H : Type} {enc : TypeId × Value → H} {W : World} {sp : Nat → Bool} {held : Bool}
theorem open_ints {fuel : Nat} {cs : List Value} {x : DataW H × List MemPlace} (h : DataW.trod enc Try.prog W 0 sp held fuel 36 cs = some x) :
    ∃ (v : Value) (us : List Int), cs = [v] ∧ IntsAt W (All W) v us ∧ FineL I64 us :=
  open_list keepsI (by omega) Try.underlying36 cellsI (fun fuel cs x h => by
    obtain ⟨n, e, _, f⟩ := DataW.trod_int Try.underlying3 h
    subst e
    refine ⟨fun _ => .int .i64 n, n, fun q hq => ?_, rfl, bounds_i64 f⟩
    match q, hq with
    | 0, _ => rfl) h
end
end Go.Proofs.Yticihnoekffelaa.Ls
