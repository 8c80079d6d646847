/- GroupOk of the model. -/
import Derived.Test.YtfdfhhiaalbfiaaGpP
import Derived.Test.YtfdfhhiaalbfiaaWsS
import Derived.Test.YtfdfhhiaalbfiaaWnN
import Derived.Test.YtfdfhhiaalbfiaaTpS
import Derived.Test.YtfdfhhiaalbfiaaNmQ
import Derived.Deep.RegionHeld3
namespace Go.Proofs.Ytfdfhhiaalbfiaa.GpS
set_option maxRecDepth 8000
open Go.RowKit
open Ls Lp WnP GpP
open TpP (sl aheadO)
open Recs (hsz below1 below2 chain)
set_option linter.unusedVariables false
/-- What stands: the group's copy in the call's first block. -/
structure Gw (w wx : World) (r : Array Value) : Prop where
  rr : wx.heap[w.heap.size]? = some (.cells r 31 (0, 0))
  bel : Below w.heap.size w wx
theorem Gw.next {w wx w' : World} {r : Array Value} (h : Gw w wx r) (b : Below wx.heap.size wx w') : Gw w w' r :=
  ⟨(b.block _ (Array.getElem?_eq_some_iff.1 h.rr).1).trans h.rr, chain h.bel b⟩
/-- A member's copy in block p. -/
def Rw (wx : World) (p : Nat) (r : Array Value) : Prop := wx.heap[p]? = some (.cells r 67 (0, 0))
theorem Rw.next {wx w' : World} {p : Nat} {r : Array Value} (h : Rw wx p r) (b : Below wx.heap.size wx w') : Rw w' p r := (b.block _ (Array.getElem?_eq_some_iff.1 h).1).trans h
theorem mcells {wx : World} {p : Nat} {a0 a1 a2 a3 a4 a5 a6 : Value} (h : Rw wx p #[a0, a1, a2, a3, a4, a5, a6]) : wx.cell? ⟨p, 0, none⟩ = some a0 ∧ wx.cell? ⟨p, 1, none⟩ = some a1 ∧ wx.cell? ⟨p, 2, none⟩ = some a2 ∧ wx.cell? ⟨p, 3, none⟩ = some a3 ∧ wx.cell? ⟨p, 4, none⟩ = some a4 ∧ wx.cell? ⟨p, 5, none⟩ = some a5 ∧ wx.cell? ⟨p, 6, none⟩ = some a6 := ⟨cell_of_row wx _ 0 _ _ (0, 0) h, cell_of_row wx _ 1 _ _ (0, 0) h, cell_of_row wx _ 2 _ _ (0, 0) h, cell_of_row wx _ 3 _ _ (0, 0) h, cell_of_row wx _ 4 _ _ (0, 0) h, cell_of_row wx _ 5 _ _ (0, 0) h, cell_of_row wx _ 6 _ _ (0, 0) h⟩
section
variable {P : Program} {ops : Array Oper} {Q : Exit → Act → World → Prop} {md : Region.Mode} {S : World → Prop}
theorem skp (i : Nat) (d : Option Tmp) {oi : Oper} {fuel : Nat} {listed : Array Bool} {a : Act} {w : World} (hi : ops[i]? = some oi) (hd : oi.dst = d)
    (h : wpAnyH P md ops Q S fuel (listed.setIfInBounds i true) (a.put d undef) w)
    (hs : Region.noSelect ops = true := by kernel_rfl) (hf : Region.free md ops listed i = true := by kernel_rfl) (hr : (Region.ready md ops listed).contains i = true := by kernel_rfl)
    (hQ : ∀ c a w, Q (.panic c) (a.put d undef) w → Q (.panic c) a w := by exact fun _ _ _ h => h) (hw : Region.wanted oi (yielded ops a.tmps) = false := by rfl) (hS : S w := by assumption) :
    wpAnyH P md ops Q S (fuel + 1) listed a w := WsS.Hd.skip i d hi hd hs hf hr hQ hw hS h
theorem tke (i : Nat) (d : Option Tmp) (v : Value) {oi : Oper} {fuel : Nat} {listed : Array Bool} {a : Act} {w : World} (hi : ops[i]? = some oi) (hd : oi.dst = d)
    (h : wpAnyH P md ops Q S fuel (listed.setIfInBounds i true) (a.put d v) w)
    (hs : Region.noSelect ops = true := by kernel_rfl) (hf : Region.free md ops listed i = true := by kernel_rfl) (hr : (Region.ready md ops listed).contains i = true := by kernel_rfl)
    (hQ : ∀ c a w, Q (.panic c) (a.put d v) w → Q (.panic c) a w := by exact fun _ _ _ h => h) (hw : Region.wanted oi (yielded ops a.tmps) = true := by rfl) (hy : ∀ w, S w → (execOp a.eval oi).run P w = .ok (.value v) w := by intro w hSw; (try dsimp only at hSw); go_simp) (hS : S w := by assumption) :
    wpAnyH P md ops Q S (fuel + 1) listed a w := WsS.Hd.take i d v hi hd hs hf hr hQ hw hy hS h
end
set_option maxHeartbeats 25600000 in
theorem spec_any (x : Value) (t : Grp) (w : World) (S : Nat → Prop) (hv : GrpAt w S x t) (hS : ∀ g, S g → g < w.heap.size) (hf : szGrp t ≤ 1048576) :
    Calls Try.prog 9 #[x] w fun e w' => e = .returned (.bool (groupOk t)) ∧ Below w.heap.size w w' := by
  obtain ⟨A4, c4, A5, c5, rfl, HT, HM⟩ := grp_form hv
  have HTT := Seg.hid HT
  obtain ⟨_, _, g, o, F, gq, OA, _⟩ := opn HM hS
  simp only [Value.slice.injEq, true_and] at gq
  obtain ⟨rfl, rfl⟩ := gq
  have HA := Seg.hid OA
  have ZT : Hid (szL szTpc t.topics ≤ 1048576) := by show _ ≤ _; unfold szGrp at hf; omega
  have zm : szL szMbr t.members ≤ 1048576 := by unfold szGrp at hf; omega
  have hn : t.members.length ≤ 1048576 := szL_len _ zm
  have HL : Hid (∀ i, i < t.members.length → szMbr (t.members.getD i default) ≤ 1048576) := fun i hi => szL_one _ zm hi
  clear hv OA hf HT HM zm
  have no : ∀ (w' : World), groupOk t = false → Below w.heap.size w w' → (Ending.returned (.bool false) = .returned (.bool (groupOk t)) ∧ Below w.heap.size w w') := fun w' h b => ⟨by rw [h], b⟩
  have NO := Seg.hid no
  have ZO : Hid (outer t = false → groupOk t = false) := fun h => by simp [groupOk, h]
  clear no
  go_enter Try.func9, Try.ntmps9
  have G0 : Hid (Gw w (w.alloc (.cells #[.int .i64 t.kind, .int .i64 t.timeout, .int .i64 t.now, .int .i64 t.round, .slice A4 t.topics.length c4, .slice A5 t.members.length c5] 31 (0, 0))) #[.int .i64 t.kind, .int .i64 t.timeout, .int .i64 t.now, .int .i64 t.round, .slice A4 t.topics.length c4, .slice A5 t.members.length c5]) := ⟨heap_alloc_new _ _, below1 w _⟩
  obtain ⟨p0, p1, p2, p3, p4, p5⟩ : (w.alloc (.cells #[.int .i64 t.kind, .int .i64 t.timeout, .int .i64 t.now, .int .i64 t.round, .slice A4 t.topics.length c4, .slice A5 t.members.length c5] 31 (0, 0))).cell? ⟨w.heap.size, 0, none⟩ = some (.int .i64 t.kind) ∧ (w.alloc (.cells #[.int .i64 t.kind, .int .i64 t.timeout, .int .i64 t.now, .int .i64 t.round, .slice A4 t.topics.length c4, .slice A5 t.members.length c5] 31 (0, 0))).cell? ⟨w.heap.size, 1, none⟩ = some (.int .i64 t.timeout) ∧ (w.alloc (.cells #[.int .i64 t.kind, .int .i64 t.timeout, .int .i64 t.now, .int .i64 t.round, .slice A4 t.topics.length c4, .slice A5 t.members.length c5] 31 (0, 0))).cell? ⟨w.heap.size, 2, none⟩ = some (.int .i64 t.now) ∧ (w.alloc (.cells #[.int .i64 t.kind, .int .i64 t.timeout, .int .i64 t.now, .int .i64 t.round, .slice A4 t.topics.length c4, .slice A5 t.members.length c5] 31 (0, 0))).cell? ⟨w.heap.size, 3, none⟩ = some (.int .i64 t.round) ∧ (w.alloc (.cells #[.int .i64 t.kind, .int .i64 t.timeout, .int .i64 t.now, .int .i64 t.round, .slice A4 t.topics.length c4, .slice A5 t.members.length c5] 31 (0, 0))).cell? ⟨w.heap.size, 4, none⟩ = some (.slice A4 t.topics.length c4) ∧ (w.alloc (.cells #[.int .i64 t.kind, .int .i64 t.timeout, .int .i64 t.now, .int .i64 t.round, .slice A4 t.topics.length c4, .slice A5 t.members.length c5] 31 (0, 0))).cell? ⟨w.heap.size, 5, none⟩ = some (.slice A5 t.members.length c5) := ⟨cell_of_row _ _ 0 _ _ (0, 0) G0.out.rr, cell_of_row _ _ 1 _ _ (0, 0) G0.out.rr, cell_of_row _ _ 2 _ _ (0, 0) G0.out.rr, cell_of_row _ _ 3 _ _ (0, 0) G0.out.rr, cell_of_row _ _ 4 _ _ (0, 0) G0.out.rr, cell_of_row _ _ 5 _ _ (0, 0) G0.out.rr⟩
  go_wp2_with fail
  generalize w.alloc (.cells #[.int .i64 t.kind, .int .i64 t.timeout, .int .i64 t.now, .int .i64 t.round, .slice A4 t.topics.length c4, .slice A5 t.members.length c5] 31 (0, 0)) = wi at *
  have hpg : w.heap.size < wi.heap.size := (Array.getElem?_eq_some_iff.1 G0.out.rr).1
  cases b1 : inR 1 t.kind 3 with
  | false =>
    have Z := Seg.hid (ZO.out (by simp [outer, b1]))
    refine (InB.l1In_b _ _ _ false b1 _).mono ?_
    rintro e w1 ⟨rfl, rfl⟩
    clear b1
    go_wp2
    go_ret
    exact NO.out _ Z.out G0.out.bel
  | true =>
  refine (InB.l1In_b _ _ _ true b1 _).mono ?_
  rintro e w1 ⟨rfl, rfl⟩
  go_wp2_with fail
  cases b2 : inR 1 t.timeout 1000000000000 with
  | false =>
    have Z := Seg.hid (ZO.out (by simp [outer, b2]))
    refine (InB.l1In_b _ _ _ false b2 _).mono ?_
    rintro e w1 ⟨rfl, rfl⟩
    clear b2
    go_wp2
    go_ret
    exact NO.out _ Z.out G0.out.bel
  | true =>
  refine (InB.l1In_b _ _ _ true b2 _).mono ?_
  rintro e w1 ⟨rfl, rfl⟩
  go_wp2_with fail
  cases b3 : inR 0 t.now 1000000000000 with
  | false =>
    have Z := Seg.hid (ZO.out (by simp [outer, b3]))
    refine (InB.l1In_b _ _ _ false b3 _).mono ?_
    rintro e w1 ⟨rfl, rfl⟩
    clear b3
    go_wp2
    go_ret
    exact NO.out _ Z.out G0.out.bel
  | true =>
  refine (InB.l1In_b _ _ _ true b3 _).mono ?_
  rintro e w1 ⟨rfl, rfl⟩
  go_wp2_with fail
  cases b4 : inR 0 t.round 1000000000 with
  | false =>
    have Z := Seg.hid (ZO.out (by simp [outer, b4]))
    refine (InB.l1In_b _ _ _ false b4 _).mono ?_
    rintro e w1 ⟨rfl, rfl⟩
    clear b4
    go_wp2
    go_ret
    exact NO.out _ Z.out G0.out.bel
  | true =>
  refine (InB.l1In_b _ _ _ true b4 _).mono ?_
  rintro e w1 ⟨rfl, rfl⟩
  go_wp2_with fail
  refine (TpS.spec_any _ t.topics wi S (HTT.out.below keepsTpc G0.out.bel hS) (fun y hy => Nat.lt_of_lt_of_le (hS y hy) G0.out.bel.size) ZT.out).mono ?_
  rintro e w2 ⟨rfl, b2w⟩
  have G2 := Seg.hid (G0.out.next b2w)
  clear b2w p0 p1 p2 p3 p4 p5
  have p5 := cell_of_row w2 w.heap.size 5 _ _ (0, 0) G2.out.rr
  have hpg2 : w.heap.size < w2.heap.size := (Array.getElem?_eq_some_iff.1 G2.out.rr).1
  cases b5 : TpP.topics t.topics with
  | false =>
    have Z := Seg.hid (ZO.out (by simp [outer, b5]))
    clear b1 b2 b3 b4 b5
    go_wp2
    go_ret
    exact NO.out _ Z.out G2.out.bel
  | true =>
  by_cases b6 : t.members.length ≤ 30
  case neg =>
    have Z := Seg.hid (ZO.out (by simp [outer, b6]))
    have b7 : (30 : Int) < (t.members.length : Int) := by omega
    clear b1 b2 b3 b4 b5
    go_wp2
    go_ret
    exact NO.out _ Z.out G2.out.bel
  have KS : Hid (mems t 0 = groupOk t) := by show _ = _; simp [groupOk, outer, b1, b2, b3, b4, b5, b6]
  have b7 : ¬ (30 : Int) < (t.members.length : Int) := by omega
  clear b1 b2 b3 b4 b5 ZO G0 hpg
  go_wp2_with fail
  clear p5 b7
  go_loopw [3] (fun i wr => ∃ (k : Nat), k ≤ t.members.length ∧ i = .int .i64 k ∧ Hid (mems t k = groupOk t ∧ Gw w wr #[.int .i64 t.kind, .int .i64 t.timeout, .int .i64 t.now, .int .i64 t.round, .slice A4 t.topics.length c4, .slice A5 t.members.length c5])) (fun i _ => t.members.length - (intOf i).toNat)
  case atStart => exact ⟨0, Nat.zero_le _, rfl, KS.out, G2.out⟩
  case round =>
    clear KS G2
    obtain ⟨k, hk, rfl, HR⟩ := hrel
    have p5 := cell_of_row wr w.heap.size 5 _ _ (0, 0) HR.out.2.rr
    have hpr0 : w.heap.size < wr.heap.size := (Array.getElem?_eq_some_iff.1 HR.out.2.rr).1
    by_cases hlt : k < t.members.length
    · obtain ⟨ea, hc, hga⟩ := HA.out.addr.resolve_left (by omega)
      have OL := HA.out.later keepsMbr hS HR.out.2.bel
      obtain ⟨B2, bq2, B5, bq5, B6, bq6, ⟨d0w, d1w, d2w, d3w, d4w, d5w, d6w⟩, SN, SO, SG⟩ := mbr_cells (i := k) (fun j hj => HA.out.cells k hlt j hj) (HA.out.el k hlt)
      have d0 := (HR.out.2.bel.cell (p := ⟨g, o + k * 7, none⟩) hga).trans d0w
      have d1 := (HR.out.2.bel.cell (p := ⟨g, o + k * 7 + 1, none⟩) hga).trans d1w
      have d2 := (HR.out.2.bel.cell (p := ⟨g, o + k * 7 + 2, none⟩) hga).trans d2w
      have d3 := (HR.out.2.bel.cell (p := ⟨g, o + k * 7 + 3, none⟩) hga).trans d3w
      have d4 := (HR.out.2.bel.cell (p := ⟨g, o + k * 7 + 4, none⟩) hga).trans d4w
      have d5 := (HR.out.2.bel.cell (p := ⟨g, o + k * 7 + 5, none⟩) hga).trans d5w
      have d6 := (HR.out.2.bel.cell (p := ⟨g, o + k * 7 + 6, none⟩) hga).trans d6w
      have PV : Hid (0 < k → wr.cell? ⟨g, o + (k - 1) * 7, none⟩ = some (.string (t.members.getD (k - 1) default).name) ∧ pvs t.members k = some (t.members.getD (k - 1) default)) := fun h => by
        obtain ⟨_, _, _, _, _, _, ⟨e0, _⟩, _⟩ := mbr_cells (i := k - 1) (fun j hj => OL.cells (k - 1) (by omega) j hj) (OL.el (k - 1) (by omega))
        exact ⟨e0, pvs_pos t.members h⟩
      have P0 : Hid (k = 0 → pvs t.members k = none) := fun h => by rw [h]; exact pvs_zero t.members
      have SNH := Seg.hid SN
      have SOH := Seg.hid SO
      have SGH := Seg.hid SG
      have h0 : (0 : Int) ≤ (k : Int) := by omega
      have h1' : (k : Int) < (t.members.length : Int) := by omega
      have hgr : g < wr.heap.size := Nat.lt_of_lt_of_le hga HR.out.2.bel.size
      have ZL := HL.out k hlt
      have NS : (t.members.getD k default).name.size ≤ maxLen := by unfold szMbr at ZL; unfold maxLen; omega
      have NS2 : (t.members.getD k default).sttc.size ≤ maxLen := by unfold szMbr at ZL; unfold maxLen; omega
      have ZN1 : Hid (szL ByteArray.size (t.members.getD k default).wants ≤ 1048576) := by show _ ≤ _; unfold szMbr at ZL; omega
      have ZN5 : Hid (szL szSlt (t.members.getD k default).owns ≤ 1048576) := by show _ ≤ _; unfold szMbr at ZL; omega
      have ZN6 : Hid (szL szSlt (t.members.getD k default).target ≤ 1048576) := by show _ ≤ _; unfold szMbr at ZL; omega
      have HD := HR.out.1
      rw [mems_step hlt] at HD
      have HD' := Seg.hid HD
      have WX : Hid (mem t k = (okM t (pvs t.members k) (t.members.getD k default) && !((t.members.take k).any (clash (t.members.getD k default))))) := rfl
      obtain ⟨_, _, gp5, op5, Fp5, g5, OP5, _⟩ := opn SO hS
      simp only [Value.slice.injEq, true_and] at g5
      obtain ⟨rfl, rfl⟩ := g5
      obtain ⟨_, _, gp6, op6, Fp6, g6, OP6, _⟩ := opn SG hS
      simp only [Value.slice.injEq, true_and] at g6
      obtain ⟨rfl, rfl⟩ := g6
      have OH5 : Hid (Opn 2 ESlt w S B5 bq5 (t.members.getD k default).owns gp5 op5 Fp5) := OP5
      have OH6 : Hid (Opn 2 ESlt w S B6 bq6 (t.members.getD k default).target gp6 op6 Fp6) := OP6
      have HLO : (t.members.getD k default).owns.length ≤ 1048576 := szL_len szSlt ZN5.out
      have HLT : (t.members.getD k default).target.length ≤ 1048576 := szL_len szSlt ZN6.out
      clear HD OL SN SO SG OP5 OP6 ZL d0w d1w d2w d3w d4w d5w d6w
      generalize t.members.getD k default = tk at *
      generalize pvs t.members k = pk at *
      subst ea
      have ZW : Hid (okM t pk tk = false → groupOk t = false) := fun h => by rw [← HD'.out, WX.out, h]; rfl
      have ZC : Hid ((t.members.take k).any (clash tk) = true → groupOk t = false) := fun h => by rw [← HD'.out, WX.out, h]; simp
      have ZYY : Hid (okM t pk tk = true → (t.members.take k).any (clash tk) = false → mems t (k + 1) = groupOk t) := fun h h' => by rw [← HD'.out, WX.out, h, h']; rfl
      have R0 : Hid (Gw w (wr.alloc (.cells #[.string tk.name, .string tk.sttc, .slice B2 tk.wants.length bq2, .int .i64 tk.beat, .int .i64 tk.round, .slice B5 tk.owns.length bq5, .slice B6 tk.target.length bq6] 67 (0, 0))) #[.int .i64 t.kind, .int .i64 t.timeout, .int .i64 t.now, .int .i64 t.round, .slice A4 t.topics.length c4, .slice (some ⟨g, o, none⟩) t.members.length c5]) := HR.out.2.next (below1 wr _)
      have R1 : Hid (Rw (wr.alloc (.cells #[.string tk.name, .string tk.sttc, .slice B2 tk.wants.length bq2, .int .i64 tk.beat, .int .i64 tk.round, .slice B5 tk.owns.length bq5, .slice B6 tk.target.length bq6] 67 (0, 0))) wr.heap.size #[.string tk.name, .string tk.sttc, .slice B2 tk.wants.length bq2, .int .i64 tk.beat, .int .i64 tk.round, .slice B5 tk.owns.length bq5, .slice B6 tk.target.length bq6]) := heap_alloc_new _ _
      have PV2 : Hid (0 < k → (wr.alloc (.cells #[.string tk.name, .string tk.sttc, .slice B2 tk.wants.length bq2, .int .i64 tk.beat, .int .i64 tk.round, .slice B5 tk.owns.length bq5, .slice B6 tk.target.length bq6] 67 (0, 0))).cell? ⟨g, o + (k - 1) * 7, none⟩ = some (.string (t.members.getD (k - 1) default).name) ∧ pk = some (t.members.getD (k - 1) default)) := fun h => ⟨((below1 wr _).cell (p := ⟨g, o + (k - 1) * 7, none⟩) hgr).trans (PV.out h).1, (PV.out h).2⟩
      have hgi : g < (wr.alloc (.cells #[.string tk.name, .string tk.sttc, .slice B2 tk.wants.length bq2, .int .i64 tk.beat, .int .i64 tk.round, .slice B5 tk.owns.length bq5, .slice B6 tk.target.length bq6] 67 (0, 0))).heap.size := by rw [hsz]; omega
      obtain ⟨r0, r1, r2, r3, r4, r5, r6⟩ := mcells R1.out
      have q2 := cell_of_row _ w.heap.size 2 _ _ (0, 0) R0.out.rr
      have q3 := cell_of_row _ w.heap.size 3 _ _ (0, 0) R0.out.rr
      have q5 := cell_of_row _ w.heap.size 5 _ _ (0, 0) R0.out.rr
      go_wp2_with fail
      generalize wr.alloc (.cells #[.string tk.name, .string tk.sttc, .slice B2 tk.wants.length bq2, .int .i64 tk.beat, .int .i64 tk.round, .slice B5 tk.owns.length bq5, .slice B6 tk.target.length bq6] 67 (0, 0)) = wi at *
      clear d0 d1 d2 d3 d4 d5 d6 PV
      have NC : Hid (∀ wx, Below wi.heap.size wi wx → Calls Try.prog 35 #[.slice B2 tk.wants.length bq2] wx fun e w' => e = .returned (.bool (names tk.wants)) ∧ Below wx.heap.size wx w') := fun wx bx => WnN.names_any _ tk.wants wx S (SNH.out.below keepsStr (chain R0.out.bel bx) hS) (fun y hy => Nat.lt_of_lt_of_le (hS y hy) (chain R0.out.bel bx).size) ZN1.out
      have SC5 : Hid (∀ wx, Below wi.heap.size wi wx → Calls Try.prog 36 #[.slice B5 tk.owns.length bq5] wx fun e w' => e = .returned (.bool (slots tk.owns)) ∧ Below wx.heap.size wx w') := fun wx bx => WsS.slots_any _ tk.owns wx S (SOH.out.below keepsSlt (chain R0.out.bel bx) hS) (fun y hy => Nat.lt_of_lt_of_le (hS y hy) (chain R0.out.bel bx).size) ZN5.out
      have SC6 : Hid (∀ wx, Below wi.heap.size wi wx → Calls Try.prog 36 #[.slice B6 tk.target.length bq6] wx fun e w' => e = .returned (.bool (slots tk.target)) ∧ Below wx.heap.size wx w') := fun wx bx => WsS.slots_any _ tk.target wx S (SGH.out.below keepsSlt (chain R0.out.bel bx) hS) (fun y hy => Nat.lt_of_lt_of_le (hS y hy) (chain R0.out.bel bx).size) ZN6.out
      have hpri : wr.heap.size < wi.heap.size := (Array.getElem?_eq_some_iff.1 R1.out).1
      have hpgi : w.heap.size < wi.heap.size := (Array.getElem?_eq_some_iff.1 R0.out.rr).1
      clear HR
      generalize wr.heap.size = pr at *
      cases b1 : Nm.nameOk tk.name with
      | false =>
        have Z := Seg.hid (ZW.out (by simp [okM, b1]))
        have KN := Seg.hid b1
        clear b1
        as_aux_lemma =>
          have ST : Hid (∀ wx, Below wi.heap.size wi wx → wx.cell? ⟨pr, 0, none⟩ = some (.string tk.name) ∧ wx.cell? ⟨pr, 1, none⟩ = some (.string tk.sttc) ∧ wx.cell? ⟨pr, 2, none⟩ = some (.slice B2 tk.wants.length bq2) ∧ wx.cell? ⟨pr, 3, none⟩ = some (.int .i64 tk.beat) ∧ wx.cell? ⟨pr, 4, none⟩ = some (.int .i64 tk.round) ∧ wx.cell? ⟨pr, 5, none⟩ = some (.slice B5 tk.owns.length bq5) ∧ wx.cell? ⟨pr, 6, none⟩ = some (.slice B6 tk.target.length bq6) ∧ wx.cell? ⟨w.heap.size, 2, none⟩ = some (.int .i64 t.now) ∧ wx.cell? ⟨w.heap.size, 3, none⟩ = some (.int .i64 t.round) ∧ wx.cell? ⟨w.heap.size, 5, none⟩ = some (.slice (some ⟨g, o, none⟩) t.members.length c5)) := fun wx bx => ⟨(bx.cell (p := ⟨pr, 0, none⟩) hpri).trans r0, (bx.cell (p := ⟨pr, 1, none⟩) hpri).trans r1, (bx.cell (p := ⟨pr, 2, none⟩) hpri).trans r2, (bx.cell (p := ⟨pr, 3, none⟩) hpri).trans r3, (bx.cell (p := ⟨pr, 4, none⟩) hpri).trans r4, (bx.cell (p := ⟨pr, 5, none⟩) hpri).trans r5, (bx.cell (p := ⟨pr, 6, none⟩) hpri).trans r6, (bx.cell (p := ⟨w.heap.size, 2, none⟩) hpgi).trans q2, (bx.cell (p := ⟨w.heap.size, 3, none⟩) hpgi).trans q3, (bx.cell (p := ⟨w.heap.size, 5, none⟩) hpgi).trans q5⟩
          clear r0 r1 r2 r3 r4 r5 r6 q2 q3 q5
          refine wp_region_held_drew (S := (fun w' => w'.cell? ⟨pr, 0, none⟩ = some (.string tk.name) ∧ w'.cell? ⟨pr, 1, none⟩ = some (.string tk.sttc) ∧ w'.cell? ⟨pr, 2, none⟩ = some (.slice B2 tk.wants.length bq2) ∧ w'.cell? ⟨pr, 3, none⟩ = some (.int .i64 tk.beat) ∧ w'.cell? ⟨pr, 4, none⟩ = some (.int .i64 tk.round) ∧ w'.cell? ⟨pr, 5, none⟩ = some (.slice B5 tk.owns.length bq5) ∧ w'.cell? ⟨pr, 6, none⟩ = some (.slice B6 tk.target.length bq6) ∧ w'.cell? ⟨w.heap.size, 2, none⟩ = some (.int .i64 t.now) ∧ w'.cell? ⟨w.heap.size, 3, none⟩ = some (.int .i64 t.round) ∧ w'.cell? ⟨w.heap.size, 5, none⟩ = some (.slice (some ⟨g, o, none⟩) t.members.length c5))) (by kernel_rfl) (ST.out _ (Below.refl _ _).drew) (fun hHeld => ?_)
          refine tke 0 (some 55) (.pointer (some ⟨pr, 0, none⟩)) rfl rfl ?_
          try simp only [Act.put, List.setIfInBounds_toArray, List.set_cons_zero, List.set_cons_succ]
          refine tke 1 (some 56) (.string tk.name) rfl rfl ?_
          try simp only [Act.put, List.setIfInBounds_toArray, List.set_cons_zero, List.set_cons_succ]
          refine wpAnyH_ready (rs := [2]) (by kernel_rfl) (by simp) ?_
          refine AllReadyH.cons (o := { dst := some 57, op := Op.call { callee := Callee.value (Operand.func 34), args := #[Operand.tmp 56], argTypes := #[9] }, type := 4, pos := "l10_group.go:11", after := #[{ on := 1, ground := Ground.data }], guard := none }) rfl (fun K hK => ?_) AllReadyH.nil
          (go_simp; go_at_call 34; refine (Nm.spec_q tk.name _ KN.out _ NS).mono ?_; rintro e w7 ⟨rfl, rfl⟩; try (go_wp2_with fail))
          refine hK.out _ _ (ST.out _ (Below.refl _ _).drew) (fun hHeld => ?_)
          clear hK K
          try simp only [Act.put, List.setIfInBounds_toArray, List.set_cons_zero, List.set_cons_succ]
          refine tke 3 (some 58) (.bool true) rfl rfl ?_
          try simp only [Act.put, List.setIfInBounds_toArray, List.set_cons_zero, List.set_cons_succ]
          refine tke 4 (some 59) (.bool true) rfl rfl ?_
          try simp only [Act.put, List.setIfInBounds_toArray, List.set_cons_zero, List.set_cons_succ]
          refine skp 5 (some 60) rfl rfl ?_
          try simp only [Act.put, List.setIfInBounds_toArray, List.set_cons_zero, List.set_cons_succ]
          refine skp 6 (some 61) rfl rfl ?_
          try simp only [Act.put, List.setIfInBounds_toArray, List.set_cons_zero, List.set_cons_succ]
          refine skp 7 (some 62) rfl rfl ?_
          try simp only [Act.put, List.setIfInBounds_toArray, List.set_cons_zero, List.set_cons_succ]
          refine skp 8 (some 63) rfl rfl ?_
          try simp only [Act.put, List.setIfInBounds_toArray, List.set_cons_zero, List.set_cons_succ]
          refine skp 9 (some 64) rfl rfl ?_
          try simp only [Act.put, List.setIfInBounds_toArray, List.set_cons_zero, List.set_cons_succ]
          refine skp 10 (some 65) rfl rfl ?_
          try simp only [Act.put, List.setIfInBounds_toArray, List.set_cons_zero, List.set_cons_succ]
          refine skp 11 (some 66) rfl rfl ?_
          try simp only [Act.put, List.setIfInBounds_toArray, List.set_cons_zero, List.set_cons_succ]
          refine skp 12 (some 67) rfl rfl ?_
          try simp only [Act.put, List.setIfInBounds_toArray, List.set_cons_zero, List.set_cons_succ]
          refine skp 13 (some 68) rfl rfl ?_
          try simp only [Act.put, List.setIfInBounds_toArray, List.set_cons_zero, List.set_cons_succ]
          refine skp 14 (some 69) rfl rfl ?_
          try simp only [Act.put, List.setIfInBounds_toArray, List.set_cons_zero, List.set_cons_succ]
          refine skp 15 (some 70) rfl rfl ?_
          try simp only [Act.put, List.setIfInBounds_toArray, List.set_cons_zero, List.set_cons_succ]
          refine skp 16 (some 71) rfl rfl ?_
          try simp only [Act.put, List.setIfInBounds_toArray, List.set_cons_zero, List.set_cons_succ]
          refine skp 17 (some 72) rfl rfl ?_
          try simp only [Act.put, List.setIfInBounds_toArray, List.set_cons_zero, List.set_cons_succ]
          refine skp 18 (some 73) rfl rfl ?_
          try simp only [Act.put, List.setIfInBounds_toArray, List.set_cons_zero, List.set_cons_succ]
          refine tke 19 (some 74) (.bool true) rfl rfl ?_
          try simp only [Act.put, List.setIfInBounds_toArray, List.set_cons_zero, List.set_cons_succ]
          refine tke 20 (some 75) (.bool true) rfl rfl ?_
          try simp only [Act.put, List.setIfInBounds_toArray, List.set_cons_zero, List.set_cons_succ]
          refine skp 21 (some 76) rfl rfl ?_
          try simp only [Act.put, List.setIfInBounds_toArray, List.set_cons_zero, List.set_cons_succ]
          refine skp 22 (some 77) rfl rfl ?_
          try simp only [Act.put, List.setIfInBounds_toArray, List.set_cons_zero, List.set_cons_succ]
          refine skp 23 (some 78) rfl rfl ?_
          try simp only [Act.put, List.setIfInBounds_toArray, List.set_cons_zero, List.set_cons_succ]
          refine skp 24 (some 79) rfl rfl ?_
          try simp only [Act.put, List.setIfInBounds_toArray, List.set_cons_zero, List.set_cons_succ]
          refine skp 25 (some 80) rfl rfl ?_
          try simp only [Act.put, List.setIfInBounds_toArray, List.set_cons_zero, List.set_cons_succ]
          refine skp 26 (some 81) rfl rfl ?_
          try simp only [Act.put, List.setIfInBounds_toArray, List.set_cons_zero, List.set_cons_succ]
          refine skp 27 (some 82) rfl rfl ?_
          try simp only [Act.put, List.setIfInBounds_toArray, List.set_cons_zero, List.set_cons_succ]
          refine skp 28 (some 83) rfl rfl ?_
          try simp only [Act.put, List.setIfInBounds_toArray, List.set_cons_zero, List.set_cons_succ]
          refine skp 29 (some 84) rfl rfl ?_
          try simp only [Act.put, List.setIfInBounds_toArray, List.set_cons_zero, List.set_cons_succ]
          refine tke 30 (some 85) (.bool true) rfl rfl ?_
          try simp only [Act.put, List.setIfInBounds_toArray, List.set_cons_zero, List.set_cons_succ]
          refine tke 31 (some 86) (.bool true) rfl rfl ?_
          try simp only [Act.put, List.setIfInBounds_toArray, List.set_cons_zero, List.set_cons_succ]
          refine skp 32 (some 87) rfl rfl ?_
          try simp only [Act.put, List.setIfInBounds_toArray, List.set_cons_zero, List.set_cons_succ]
          refine skp 33 (some 88) rfl rfl ?_
          try simp only [Act.put, List.setIfInBounds_toArray, List.set_cons_zero, List.set_cons_succ]
          refine skp 34 (some 89) rfl rfl ?_
          try simp only [Act.put, List.setIfInBounds_toArray, List.set_cons_zero, List.set_cons_succ]
          refine skp 35 (some 90) rfl rfl ?_
          try simp only [Act.put, List.setIfInBounds_toArray, List.set_cons_zero, List.set_cons_succ]
          refine tke 36 (some 91) (.bool true) rfl rfl ?_
          try simp only [Act.put, List.setIfInBounds_toArray, List.set_cons_zero, List.set_cons_succ]
          refine tke 37 (some 92) (.bool true) rfl rfl ?_
          try simp only [Act.put, List.setIfInBounds_toArray, List.set_cons_zero, List.set_cons_succ]
          refine skp 38 (some 93) rfl rfl ?_
          try simp only [Act.put, List.setIfInBounds_toArray, List.set_cons_zero, List.set_cons_succ]
          refine skp 39 (some 94) rfl rfl ?_
          try simp only [Act.put, List.setIfInBounds_toArray, List.set_cons_zero, List.set_cons_succ]
          refine skp 40 (some 95) rfl rfl ?_
          try simp only [Act.put, List.setIfInBounds_toArray, List.set_cons_zero, List.set_cons_succ]
          refine skp 41 (some 96) rfl rfl ?_
          try simp only [Act.put, List.setIfInBounds_toArray, List.set_cons_zero, List.set_cons_succ]
          refine skp 42 (some 97) rfl rfl ?_
          try simp only [Act.put, List.setIfInBounds_toArray, List.set_cons_zero, List.set_cons_succ]
          refine skp 43 (some 98) rfl rfl ?_
          try simp only [Act.put, List.setIfInBounds_toArray, List.set_cons_zero, List.set_cons_succ]
          refine tke 44 (some 99) (.bool true) rfl rfl ?_
          try simp only [Act.put, List.setIfInBounds_toArray, List.set_cons_zero, List.set_cons_succ]
          refine tke 45 (some 100) (.bool true) rfl rfl ?_
          try simp only [Act.put, List.setIfInBounds_toArray, List.set_cons_zero, List.set_cons_succ]
          refine skp 46 (some 101) rfl rfl ?_
          try simp only [Act.put, List.setIfInBounds_toArray, List.set_cons_zero, List.set_cons_succ]
          refine skp 47 (some 102) rfl rfl ?_
          try simp only [Act.put, List.setIfInBounds_toArray, List.set_cons_zero, List.set_cons_succ]
          refine skp 48 (some 103) rfl rfl ?_
          try simp only [Act.put, List.setIfInBounds_toArray, List.set_cons_zero, List.set_cons_succ]
          refine skp 49 (some 104) rfl rfl ?_
          try simp only [Act.put, List.setIfInBounds_toArray, List.set_cons_zero, List.set_cons_succ]
          refine skp 50 (some 105) rfl rfl ?_
          try simp only [Act.put, List.setIfInBounds_toArray, List.set_cons_zero, List.set_cons_succ]
          refine skp 51 (some 106) rfl rfl ?_
          try simp only [Act.put, List.setIfInBounds_toArray, List.set_cons_zero, List.set_cons_succ]
          refine tke 52 (some 107) (.bool true) rfl rfl ?_
          try simp only [Act.put, List.setIfInBounds_toArray, List.set_cons_zero, List.set_cons_succ]
          refine tke 53 (some 108) (.bool true) rfl rfl ?_
          try simp only [Act.put, List.setIfInBounds_toArray, List.set_cons_zero, List.set_cons_succ]
          refine skp 54 (some 109) rfl rfl ?_
          try simp only [Act.put, List.setIfInBounds_toArray, List.set_cons_zero, List.set_cons_succ]
          refine skp 55 (some 110) rfl rfl ?_
          try simp only [Act.put, List.setIfInBounds_toArray, List.set_cons_zero, List.set_cons_succ]
          refine skp 56 (some 111) rfl rfl ?_
          try simp only [Act.put, List.setIfInBounds_toArray, List.set_cons_zero, List.set_cons_succ]
          refine skp 57 (some 112) rfl rfl ?_
          try simp only [Act.put, List.setIfInBounds_toArray, List.set_cons_zero, List.set_cons_succ]
          refine tke 58 (some 113) (.bool true) rfl rfl ?_
          try simp only [Act.put, List.setIfInBounds_toArray, List.set_cons_zero, List.set_cons_succ]
          refine tke 59 (some 114) (.bool true) rfl rfl ?_
          try simp only [Act.put, List.setIfInBounds_toArray, List.set_cons_zero, List.set_cons_succ]
          refine skp 60 (some 115) rfl rfl ?_
          try simp only [Act.put, List.setIfInBounds_toArray, List.set_cons_zero, List.set_cons_succ]
          refine skp 61 (some 116) rfl rfl ?_
          try simp only [Act.put, List.setIfInBounds_toArray, List.set_cons_zero, List.set_cons_succ]
          refine skp 62 (some 117) rfl rfl ?_
          try simp only [Act.put, List.setIfInBounds_toArray, List.set_cons_zero, List.set_cons_succ]
          refine skp 63 (some 118) rfl rfl ?_
          try simp only [Act.put, List.setIfInBounds_toArray, List.set_cons_zero, List.set_cons_succ]
          refine tke 64 (some 119) (.bool true) rfl rfl ?_
          try simp only [Act.put, List.setIfInBounds_toArray, List.set_cons_zero, List.set_cons_succ]
          refine wpAnyH_done (by kernel_rfl) ?_ _
          go_wp2
          go_ret
          exact NO.out _ Z.out R0.out.bel.drew
      | true =>
      have KN := Seg.hid b1
      clear b1
      by_cases hk0 : k = 0
      · have hgd : decide ((0 : Int) < (k : Int)) = false := decide_eq_false (by omega)
        have hgd2 : decide (0 < k) = false := decide_eq_false (by omega)
        have hgd3 : ¬ 0 < k := by omega
        have HPV := Seg.hid (P0.out hk0)
        clear P0 PV2
        cases hst : (tk.sttc.toList == []) with
        | true =>
          have HST := Seg.hid hst
          have HSO : Hid (stO tk.sttc = true) := by show _ = _; simp [stO, hst]
          have ST : Hid (∀ wx, Below wi.heap.size wi wx → wx.cell? ⟨pr, 0, none⟩ = some (.string tk.name) ∧ wx.cell? ⟨pr, 1, none⟩ = some (.string tk.sttc) ∧ wx.cell? ⟨pr, 2, none⟩ = some (.slice B2 tk.wants.length bq2) ∧ wx.cell? ⟨pr, 3, none⟩ = some (.int .i64 tk.beat) ∧ wx.cell? ⟨pr, 4, none⟩ = some (.int .i64 tk.round) ∧ wx.cell? ⟨pr, 5, none⟩ = some (.slice B5 tk.owns.length bq5) ∧ wx.cell? ⟨pr, 6, none⟩ = some (.slice B6 tk.target.length bq6) ∧ wx.cell? ⟨w.heap.size, 2, none⟩ = some (.int .i64 t.now) ∧ wx.cell? ⟨w.heap.size, 3, none⟩ = some (.int .i64 t.round) ∧ wx.cell? ⟨w.heap.size, 5, none⟩ = some (.slice (some ⟨g, o, none⟩) t.members.length c5)) := fun wx bx => ⟨(bx.cell (p := ⟨pr, 0, none⟩) hpri).trans r0, (bx.cell (p := ⟨pr, 1, none⟩) hpri).trans r1, (bx.cell (p := ⟨pr, 2, none⟩) hpri).trans r2, (bx.cell (p := ⟨pr, 3, none⟩) hpri).trans r3, (bx.cell (p := ⟨pr, 4, none⟩) hpri).trans r4, (bx.cell (p := ⟨pr, 5, none⟩) hpri).trans r5, (bx.cell (p := ⟨pr, 6, none⟩) hpri).trans r6, (bx.cell (p := ⟨w.heap.size, 2, none⟩) hpgi).trans q2, (bx.cell (p := ⟨w.heap.size, 3, none⟩) hpgi).trans q3, (bx.cell (p := ⟨w.heap.size, 5, none⟩) hpgi).trans q5⟩
          clear r0 r1 r2 r3 r4 r5 r6 q2 q3 q5
          as_aux_lemma =>
            refine wp_region_held_drew (S := (fun w' => w'.cell? ⟨pr, 0, none⟩ = some (.string tk.name) ∧ w'.cell? ⟨pr, 1, none⟩ = some (.string tk.sttc) ∧ w'.cell? ⟨pr, 2, none⟩ = some (.slice B2 tk.wants.length bq2) ∧ w'.cell? ⟨pr, 3, none⟩ = some (.int .i64 tk.beat) ∧ w'.cell? ⟨pr, 4, none⟩ = some (.int .i64 tk.round) ∧ w'.cell? ⟨pr, 5, none⟩ = some (.slice B5 tk.owns.length bq5) ∧ w'.cell? ⟨pr, 6, none⟩ = some (.slice B6 tk.target.length bq6) ∧ w'.cell? ⟨w.heap.size, 2, none⟩ = some (.int .i64 t.now) ∧ w'.cell? ⟨w.heap.size, 3, none⟩ = some (.int .i64 t.round) ∧ w'.cell? ⟨w.heap.size, 5, none⟩ = some (.slice (some ⟨g, o, none⟩) t.members.length c5))) (by kernel_rfl) (ST.out _ (Below.refl _ _).drew) (fun hHeld => ?_)
            refine tke 0 (some 55) (.pointer (some ⟨pr, 0, none⟩)) rfl rfl ?_
            try simp only [Act.put, List.setIfInBounds_toArray, List.set_cons_zero, List.set_cons_succ]
            refine tke 1 (some 56) (.string tk.name) rfl rfl ?_
            try simp only [Act.put, List.setIfInBounds_toArray, List.set_cons_zero, List.set_cons_succ]
            refine wpAnyH_ready (rs := [2]) (by kernel_rfl) (by simp) ?_
            refine AllReadyH.cons (o := { dst := some 57, op := Op.call { callee := Callee.value (Operand.func 34), args := #[Operand.tmp 56], argTypes := #[9] }, type := 4, pos := "l10_group.go:11", after := #[{ on := 1, ground := Ground.data }], guard := none }) rfl (fun K hK => ?_) AllReadyH.nil
            (go_simp; go_at_call 34; refine (Nm.spec_q tk.name _ KN.out _ NS).mono ?_; rintro e w7 ⟨rfl, rfl⟩; try (go_wp2_with fail))
            refine hK.out _ _ (ST.out _ (Below.refl _ _).drew) (fun hHeld => ?_)
            clear hK K
            try simp only [Act.put, List.setIfInBounds_toArray, List.set_cons_zero, List.set_cons_succ]
            refine tke 3 (some 58) (.bool false) rfl rfl ?_
            try simp only [Act.put, List.setIfInBounds_toArray, List.set_cons_zero, List.set_cons_succ]
            refine tke 4 (some 59) (.bool false) rfl rfl ?_
            try simp only [Act.put, List.setIfInBounds_toArray, List.set_cons_zero, List.set_cons_succ]
            refine tke 5 (some 60) (.int .i64 (k : Int)) rfl rfl ?_
            try simp only [Act.put, List.setIfInBounds_toArray, List.set_cons_zero, List.set_cons_succ]
            refine tke 6 (some 61) (.bool false) rfl rfl ?_
            try simp only [Act.put, List.setIfInBounds_toArray, List.set_cons_zero, List.set_cons_succ]
            refine tke 7 (some 62) (.bool false) rfl rfl ?_
            try simp only [Act.put, List.setIfInBounds_toArray, List.set_cons_zero, List.set_cons_succ]
            refine skp 8 (some 63) rfl rfl ?_
            try simp only [Act.put, List.setIfInBounds_toArray, List.set_cons_zero, List.set_cons_succ]
            refine skp 9 (some 64) rfl rfl ?_
            try simp only [Act.put, List.setIfInBounds_toArray, List.set_cons_zero, List.set_cons_succ]
            refine skp 10 (some 65) rfl rfl ?_
            try simp only [Act.put, List.setIfInBounds_toArray, List.set_cons_zero, List.set_cons_succ]
            refine skp 11 (some 66) rfl rfl ?_
            try simp only [Act.put, List.setIfInBounds_toArray, List.set_cons_zero, List.set_cons_succ]
            refine skp 12 (some 67) rfl rfl ?_
            try simp only [Act.put, List.setIfInBounds_toArray, List.set_cons_zero, List.set_cons_succ]
            refine skp 13 (some 68) rfl rfl ?_
            try simp only [Act.put, List.setIfInBounds_toArray, List.set_cons_zero, List.set_cons_succ]
            refine skp 14 (some 69) rfl rfl ?_
            try simp only [Act.put, List.setIfInBounds_toArray, List.set_cons_zero, List.set_cons_succ]
            refine skp 15 (some 70) rfl rfl ?_
            try simp only [Act.put, List.setIfInBounds_toArray, List.set_cons_zero, List.set_cons_succ]
            refine skp 16 (some 71) rfl rfl ?_
            try simp only [Act.put, List.setIfInBounds_toArray, List.set_cons_zero, List.set_cons_succ]
            refine skp 17 (some 72) rfl rfl ?_
            try simp only [Act.put, List.setIfInBounds_toArray, List.set_cons_zero, List.set_cons_succ]
            refine tke 18 (some 73) (.bool false) rfl rfl ?_
            try simp only [Act.put, List.setIfInBounds_toArray, List.set_cons_zero, List.set_cons_succ]
            refine tke 19 (some 74) (.bool false) rfl rfl ?_
            try simp only [Act.put, List.setIfInBounds_toArray, List.set_cons_zero, List.set_cons_succ]
            refine tke 20 (some 75) (.bool false) rfl rfl ?_
            try simp only [Act.put, List.setIfInBounds_toArray, List.set_cons_zero, List.set_cons_succ]
            refine tke 21 (some 76) (.pointer (some ⟨pr, 1, none⟩)) rfl rfl ?_
            try simp only [Act.put, List.setIfInBounds_toArray, List.set_cons_zero, List.set_cons_succ]
            refine tke 22 (some 77) (.string tk.sttc) rfl rfl ?_
            try simp only [Act.put, List.setIfInBounds_toArray, List.set_cons_zero, List.set_cons_succ]
            refine tke 23 (some 78) (.bool false) rfl rfl ?_
            try simp only [Act.put, List.setIfInBounds_toArray, List.set_cons_zero, List.set_cons_succ]
            refine tke 24 (some 79) (.bool false) rfl rfl ?_
            try simp only [Act.put, List.setIfInBounds_toArray, List.set_cons_zero, List.set_cons_succ]
            refine skp 25 (some 80) rfl rfl ?_
            try simp only [Act.put, List.setIfInBounds_toArray, List.set_cons_zero, List.set_cons_succ]
            refine skp 26 (some 81) rfl rfl ?_
            try simp only [Act.put, List.setIfInBounds_toArray, List.set_cons_zero, List.set_cons_succ]
            refine skp 27 (some 82) rfl rfl ?_
            try simp only [Act.put, List.setIfInBounds_toArray, List.set_cons_zero, List.set_cons_succ]
            refine skp 28 (some 83) rfl rfl ?_
            try simp only [Act.put, List.setIfInBounds_toArray, List.set_cons_zero, List.set_cons_succ]
            refine tke 29 (some 84) (.bool false) rfl rfl ?_
            try simp only [Act.put, List.setIfInBounds_toArray, List.set_cons_zero, List.set_cons_succ]
            refine tke 30 (some 85) (.bool false) rfl rfl ?_
            try simp only [Act.put, List.setIfInBounds_toArray, List.set_cons_zero, List.set_cons_succ]
            refine tke 31 (some 86) (.bool false) rfl rfl ?_
            try simp only [Act.put, List.setIfInBounds_toArray, List.set_cons_zero, List.set_cons_succ]
            refine tke 32 (some 87) (.pointer (some ⟨pr, 2, none⟩)) rfl rfl ?_
            try simp only [Act.put, List.setIfInBounds_toArray, List.set_cons_zero, List.set_cons_succ]
            refine tke 33 (some 88) (.slice B2 tk.wants.length bq2) rfl rfl ?_
            try simp only [Act.put, List.setIfInBounds_toArray, List.set_cons_zero, List.set_cons_succ]
            refine wpAnyH_ready (rs := [34]) (by kernel_rfl) (by simp) ?_
            refine AllReadyH.cons (o := { dst := some 89, op := Op.call { callee := Callee.value (Operand.func 35), args := #[Operand.tmp 88], argTypes := #[64] }, type := 4, pos := "l10_group.go:11", after := #[{ on := 33, ground := Ground.data }, { on := 31, ground := Ground.chain }, { on := 31, ground := Ground.guard }], guard := some (31, false) }) rfl (fun K hK => ?_) AllReadyH.nil
            (go_simp; go_at_call 35; refine (NC.out wi.drew (Below.refl _ _).drew).mono ?_; rintro e w8 ⟨rfl, b8⟩; have B8 : Hid (Below wi.heap.size wi w8) := ⟨b8.os, b8.tape, b8.output, b8.size, b8.block⟩; clear b8; try (go_wp2_with fail))
            refine hK.out _ _ (ST.out _ B8.out) (fun hHeld => ?_)
            clear hK K
            try simp only [Act.put, List.setIfInBounds_toArray, List.set_cons_zero, List.set_cons_succ]
            cases hnm : names tk.wants with
            | false =>
              have Z := Seg.hid (ZW.out (by simp [okM, hnm]))
              as_aux_lemma =>
                refine tke 35 (some 90) (.bool true) rfl rfl ?_
                try simp only [Act.put, List.setIfInBounds_toArray, List.set_cons_zero, List.set_cons_succ]
                refine tke 36 (some 91) (.bool true) rfl rfl ?_
                try simp only [Act.put, List.setIfInBounds_toArray, List.set_cons_zero, List.set_cons_succ]
                refine tke 37 (some 92) (.bool true) rfl rfl ?_
                try simp only [Act.put, List.setIfInBounds_toArray, List.set_cons_zero, List.set_cons_succ]
                refine skp 38 (some 93) rfl rfl ?_
                try simp only [Act.put, List.setIfInBounds_toArray, List.set_cons_zero, List.set_cons_succ]
                refine skp 39 (some 94) rfl rfl ?_
                try simp only [Act.put, List.setIfInBounds_toArray, List.set_cons_zero, List.set_cons_succ]
                refine skp 40 (some 95) rfl rfl ?_
                try simp only [Act.put, List.setIfInBounds_toArray, List.set_cons_zero, List.set_cons_succ]
                refine skp 41 (some 96) rfl rfl ?_
                try simp only [Act.put, List.setIfInBounds_toArray, List.set_cons_zero, List.set_cons_succ]
                refine skp 42 (some 97) rfl rfl ?_
                try simp only [Act.put, List.setIfInBounds_toArray, List.set_cons_zero, List.set_cons_succ]
                refine skp 43 (some 98) rfl rfl ?_
                try simp only [Act.put, List.setIfInBounds_toArray, List.set_cons_zero, List.set_cons_succ]
                refine tke 44 (some 99) (.bool true) rfl rfl ?_
                try simp only [Act.put, List.setIfInBounds_toArray, List.set_cons_zero, List.set_cons_succ]
                refine tke 45 (some 100) (.bool true) rfl rfl ?_
                try simp only [Act.put, List.setIfInBounds_toArray, List.set_cons_zero, List.set_cons_succ]
                refine skp 46 (some 101) rfl rfl ?_
                try simp only [Act.put, List.setIfInBounds_toArray, List.set_cons_zero, List.set_cons_succ]
                refine skp 47 (some 102) rfl rfl ?_
                try simp only [Act.put, List.setIfInBounds_toArray, List.set_cons_zero, List.set_cons_succ]
                refine skp 48 (some 103) rfl rfl ?_
                try simp only [Act.put, List.setIfInBounds_toArray, List.set_cons_zero, List.set_cons_succ]
                refine skp 49 (some 104) rfl rfl ?_
                try simp only [Act.put, List.setIfInBounds_toArray, List.set_cons_zero, List.set_cons_succ]
                refine skp 50 (some 105) rfl rfl ?_
                try simp only [Act.put, List.setIfInBounds_toArray, List.set_cons_zero, List.set_cons_succ]
                refine skp 51 (some 106) rfl rfl ?_
                try simp only [Act.put, List.setIfInBounds_toArray, List.set_cons_zero, List.set_cons_succ]
                refine tke 52 (some 107) (.bool true) rfl rfl ?_
                try simp only [Act.put, List.setIfInBounds_toArray, List.set_cons_zero, List.set_cons_succ]
                refine tke 53 (some 108) (.bool true) rfl rfl ?_
                try simp only [Act.put, List.setIfInBounds_toArray, List.set_cons_zero, List.set_cons_succ]
                refine skp 54 (some 109) rfl rfl ?_
                try simp only [Act.put, List.setIfInBounds_toArray, List.set_cons_zero, List.set_cons_succ]
                refine skp 55 (some 110) rfl rfl ?_
                try simp only [Act.put, List.setIfInBounds_toArray, List.set_cons_zero, List.set_cons_succ]
                refine skp 56 (some 111) rfl rfl ?_
                try simp only [Act.put, List.setIfInBounds_toArray, List.set_cons_zero, List.set_cons_succ]
                refine skp 57 (some 112) rfl rfl ?_
                try simp only [Act.put, List.setIfInBounds_toArray, List.set_cons_zero, List.set_cons_succ]
                refine tke 58 (some 113) (.bool true) rfl rfl ?_
                try simp only [Act.put, List.setIfInBounds_toArray, List.set_cons_zero, List.set_cons_succ]
                refine tke 59 (some 114) (.bool true) rfl rfl ?_
                try simp only [Act.put, List.setIfInBounds_toArray, List.set_cons_zero, List.set_cons_succ]
                refine skp 60 (some 115) rfl rfl ?_
                try simp only [Act.put, List.setIfInBounds_toArray, List.set_cons_zero, List.set_cons_succ]
                refine skp 61 (some 116) rfl rfl ?_
                try simp only [Act.put, List.setIfInBounds_toArray, List.set_cons_zero, List.set_cons_succ]
                refine skp 62 (some 117) rfl rfl ?_
                try simp only [Act.put, List.setIfInBounds_toArray, List.set_cons_zero, List.set_cons_succ]
                refine skp 63 (some 118) rfl rfl ?_
                try simp only [Act.put, List.setIfInBounds_toArray, List.set_cons_zero, List.set_cons_succ]
                refine tke 64 (some 119) (.bool true) rfl rfl ?_
                try simp only [Act.put, List.setIfInBounds_toArray, List.set_cons_zero, List.set_cons_succ]
                refine wpAnyH_done (by kernel_rfl) ?_ _
                go_wp2
                go_ret
                exact NO.out _ Z.out (R0.out.next B8.out).bel
            | true =>
            refine tke 35 (some 90) (.bool false) rfl rfl ?_
            try simp only [Act.put, List.setIfInBounds_toArray, List.set_cons_zero, List.set_cons_succ]
            refine tke 36 (some 91) (.bool false) rfl rfl ?_
            try simp only [Act.put, List.setIfInBounds_toArray, List.set_cons_zero, List.set_cons_succ]
            refine tke 37 (some 92) (.bool false) rfl rfl ?_
            try simp only [Act.put, List.setIfInBounds_toArray, List.set_cons_zero, List.set_cons_succ]
            refine tke 38 (some 93) (.pointer (some ⟨pr, 3, none⟩)) rfl rfl ?_
            try simp only [Act.put, List.setIfInBounds_toArray, List.set_cons_zero, List.set_cons_succ]
            refine tke 39 (some 94) (.int .i64 tk.beat) rfl rfl ?_
            try simp only [Act.put, List.setIfInBounds_toArray, List.set_cons_zero, List.set_cons_succ]
            refine tke 40 (some 95) (.pointer (some ⟨w.heap.size, 2, none⟩)) rfl rfl ?_
            try simp only [Act.put, List.setIfInBounds_toArray, List.set_cons_zero, List.set_cons_succ]
            refine tke 41 (some 96) (.int .i64 t.now) rfl rfl ?_
            try simp only [Act.put, List.setIfInBounds_toArray, List.set_cons_zero, List.set_cons_succ]
            refine wpAnyH_ready (rs := [42]) (by kernel_rfl) (by simp) ?_
            refine AllReadyH.cons (o := { dst := some 97, op := Op.call { callee := Callee.value (Operand.func 32), args := #[Operand.tmp 94, Operand.const (Value.int IntKind.i64 0), Operand.tmp 96], argTypes := #[3, 3, 3] }, type := 4, pos := "l10_group.go:11", after := #[{ on := 39, ground := Ground.data }, { on := 41, ground := Ground.data }, { on := 37, ground := Ground.chain }, { on := 37, ground := Ground.guard }], guard := some (37, false) }) rfl (fun K hK => ?_) AllReadyH.nil
            (go_simp; go_at_call 32; refine (InB.l1In_q tk.beat 0 t.now _ rfl _).mono ?_; rintro e w7 ⟨rfl, rfl⟩; try (go_wp2_with fail))
            refine hK.out _ _ (ST.out _ B8.out) (fun hHeld => ?_)
            clear hK K
            try simp only [Act.put, List.setIfInBounds_toArray, List.set_cons_zero, List.set_cons_succ]
            cases hbt : inR 0 tk.beat t.now with
            | false =>
              have Z := Seg.hid (ZW.out (by simp [okM, hbt]))
              as_aux_lemma =>
                refine tke 43 (some 98) (.bool true) rfl rfl ?_
                try simp only [Act.put, List.setIfInBounds_toArray, List.set_cons_zero, List.set_cons_succ]
                refine tke 44 (some 99) (.bool true) rfl rfl ?_
                try simp only [Act.put, List.setIfInBounds_toArray, List.set_cons_zero, List.set_cons_succ]
                refine tke 45 (some 100) (.bool true) rfl rfl ?_
                try simp only [Act.put, List.setIfInBounds_toArray, List.set_cons_zero, List.set_cons_succ]
                refine skp 46 (some 101) rfl rfl ?_
                try simp only [Act.put, List.setIfInBounds_toArray, List.set_cons_zero, List.set_cons_succ]
                refine skp 47 (some 102) rfl rfl ?_
                try simp only [Act.put, List.setIfInBounds_toArray, List.set_cons_zero, List.set_cons_succ]
                refine skp 48 (some 103) rfl rfl ?_
                try simp only [Act.put, List.setIfInBounds_toArray, List.set_cons_zero, List.set_cons_succ]
                refine skp 49 (some 104) rfl rfl ?_
                try simp only [Act.put, List.setIfInBounds_toArray, List.set_cons_zero, List.set_cons_succ]
                refine skp 50 (some 105) rfl rfl ?_
                try simp only [Act.put, List.setIfInBounds_toArray, List.set_cons_zero, List.set_cons_succ]
                refine skp 51 (some 106) rfl rfl ?_
                try simp only [Act.put, List.setIfInBounds_toArray, List.set_cons_zero, List.set_cons_succ]
                refine tke 52 (some 107) (.bool true) rfl rfl ?_
                try simp only [Act.put, List.setIfInBounds_toArray, List.set_cons_zero, List.set_cons_succ]
                refine tke 53 (some 108) (.bool true) rfl rfl ?_
                try simp only [Act.put, List.setIfInBounds_toArray, List.set_cons_zero, List.set_cons_succ]
                refine skp 54 (some 109) rfl rfl ?_
                try simp only [Act.put, List.setIfInBounds_toArray, List.set_cons_zero, List.set_cons_succ]
                refine skp 55 (some 110) rfl rfl ?_
                try simp only [Act.put, List.setIfInBounds_toArray, List.set_cons_zero, List.set_cons_succ]
                refine skp 56 (some 111) rfl rfl ?_
                try simp only [Act.put, List.setIfInBounds_toArray, List.set_cons_zero, List.set_cons_succ]
                refine skp 57 (some 112) rfl rfl ?_
                try simp only [Act.put, List.setIfInBounds_toArray, List.set_cons_zero, List.set_cons_succ]
                refine tke 58 (some 113) (.bool true) rfl rfl ?_
                try simp only [Act.put, List.setIfInBounds_toArray, List.set_cons_zero, List.set_cons_succ]
                refine tke 59 (some 114) (.bool true) rfl rfl ?_
                try simp only [Act.put, List.setIfInBounds_toArray, List.set_cons_zero, List.set_cons_succ]
                refine skp 60 (some 115) rfl rfl ?_
                try simp only [Act.put, List.setIfInBounds_toArray, List.set_cons_zero, List.set_cons_succ]
                refine skp 61 (some 116) rfl rfl ?_
                try simp only [Act.put, List.setIfInBounds_toArray, List.set_cons_zero, List.set_cons_succ]
                refine skp 62 (some 117) rfl rfl ?_
                try simp only [Act.put, List.setIfInBounds_toArray, List.set_cons_zero, List.set_cons_succ]
                refine skp 63 (some 118) rfl rfl ?_
                try simp only [Act.put, List.setIfInBounds_toArray, List.set_cons_zero, List.set_cons_succ]
                refine tke 64 (some 119) (.bool true) rfl rfl ?_
                try simp only [Act.put, List.setIfInBounds_toArray, List.set_cons_zero, List.set_cons_succ]
                refine wpAnyH_done (by kernel_rfl) ?_ _
                go_wp2
                go_ret
                exact NO.out _ Z.out (R0.out.next B8.out).bel
            | true =>
            refine tke 43 (some 98) (.bool false) rfl rfl ?_
            try simp only [Act.put, List.setIfInBounds_toArray, List.set_cons_zero, List.set_cons_succ]
            refine tke 44 (some 99) (.bool false) rfl rfl ?_
            try simp only [Act.put, List.setIfInBounds_toArray, List.set_cons_zero, List.set_cons_succ]
            refine tke 45 (some 100) (.bool false) rfl rfl ?_
            try simp only [Act.put, List.setIfInBounds_toArray, List.set_cons_zero, List.set_cons_succ]
            refine tke 46 (some 101) (.pointer (some ⟨pr, 4, none⟩)) rfl rfl ?_
            try simp only [Act.put, List.setIfInBounds_toArray, List.set_cons_zero, List.set_cons_succ]
            refine tke 47 (some 102) (.int .i64 tk.round) rfl rfl ?_
            try simp only [Act.put, List.setIfInBounds_toArray, List.set_cons_zero, List.set_cons_succ]
            refine tke 48 (some 103) (.pointer (some ⟨w.heap.size, 3, none⟩)) rfl rfl ?_
            try simp only [Act.put, List.setIfInBounds_toArray, List.set_cons_zero, List.set_cons_succ]
            refine tke 49 (some 104) (.int .i64 t.round) rfl rfl ?_
            try simp only [Act.put, List.setIfInBounds_toArray, List.set_cons_zero, List.set_cons_succ]
            refine wpAnyH_ready (rs := [50]) (by kernel_rfl) (by simp) ?_
            refine AllReadyH.cons (o := { dst := some 105, op := Op.call { callee := Callee.value (Operand.func 32), args := #[Operand.tmp 102, Operand.const (Value.int IntKind.i64 0), Operand.tmp 104], argTypes := #[3, 3, 3] }, type := 4, pos := "l10_group.go:11", after := #[{ on := 47, ground := Ground.data }, { on := 49, ground := Ground.data }, { on := 45, ground := Ground.chain }, { on := 45, ground := Ground.guard }], guard := some (45, false) }) rfl (fun K hK => ?_) AllReadyH.nil
            (go_simp; go_at_call 32; refine (InB.l1In_q tk.round 0 t.round _ rfl _).mono ?_; rintro e w7 ⟨rfl, rfl⟩; try (go_wp2_with fail))
            refine hK.out _ _ (ST.out _ B8.out) (fun hHeld => ?_)
            clear hK K
            try simp only [Act.put, List.setIfInBounds_toArray, List.set_cons_zero, List.set_cons_succ]
            cases hrd : inR 0 tk.round t.round with
            | false =>
              have Z := Seg.hid (ZW.out (by simp [okM, hrd]))
              as_aux_lemma =>
                refine tke 51 (some 106) (.bool true) rfl rfl ?_
                try simp only [Act.put, List.setIfInBounds_toArray, List.set_cons_zero, List.set_cons_succ]
                refine tke 52 (some 107) (.bool true) rfl rfl ?_
                try simp only [Act.put, List.setIfInBounds_toArray, List.set_cons_zero, List.set_cons_succ]
                refine tke 53 (some 108) (.bool true) rfl rfl ?_
                try simp only [Act.put, List.setIfInBounds_toArray, List.set_cons_zero, List.set_cons_succ]
                refine skp 54 (some 109) rfl rfl ?_
                try simp only [Act.put, List.setIfInBounds_toArray, List.set_cons_zero, List.set_cons_succ]
                refine skp 55 (some 110) rfl rfl ?_
                try simp only [Act.put, List.setIfInBounds_toArray, List.set_cons_zero, List.set_cons_succ]
                refine skp 56 (some 111) rfl rfl ?_
                try simp only [Act.put, List.setIfInBounds_toArray, List.set_cons_zero, List.set_cons_succ]
                refine skp 57 (some 112) rfl rfl ?_
                try simp only [Act.put, List.setIfInBounds_toArray, List.set_cons_zero, List.set_cons_succ]
                refine tke 58 (some 113) (.bool true) rfl rfl ?_
                try simp only [Act.put, List.setIfInBounds_toArray, List.set_cons_zero, List.set_cons_succ]
                refine tke 59 (some 114) (.bool true) rfl rfl ?_
                try simp only [Act.put, List.setIfInBounds_toArray, List.set_cons_zero, List.set_cons_succ]
                refine skp 60 (some 115) rfl rfl ?_
                try simp only [Act.put, List.setIfInBounds_toArray, List.set_cons_zero, List.set_cons_succ]
                refine skp 61 (some 116) rfl rfl ?_
                try simp only [Act.put, List.setIfInBounds_toArray, List.set_cons_zero, List.set_cons_succ]
                refine skp 62 (some 117) rfl rfl ?_
                try simp only [Act.put, List.setIfInBounds_toArray, List.set_cons_zero, List.set_cons_succ]
                refine skp 63 (some 118) rfl rfl ?_
                try simp only [Act.put, List.setIfInBounds_toArray, List.set_cons_zero, List.set_cons_succ]
                refine tke 64 (some 119) (.bool true) rfl rfl ?_
                try simp only [Act.put, List.setIfInBounds_toArray, List.set_cons_zero, List.set_cons_succ]
                refine wpAnyH_done (by kernel_rfl) ?_ _
                go_wp2
                go_ret
                exact NO.out _ Z.out (R0.out.next B8.out).bel
            | true =>
            refine tke 51 (some 106) (.bool false) rfl rfl ?_
            try simp only [Act.put, List.setIfInBounds_toArray, List.set_cons_zero, List.set_cons_succ]
            refine tke 52 (some 107) (.bool false) rfl rfl ?_
            try simp only [Act.put, List.setIfInBounds_toArray, List.set_cons_zero, List.set_cons_succ]
            refine tke 53 (some 108) (.bool false) rfl rfl ?_
            try simp only [Act.put, List.setIfInBounds_toArray, List.set_cons_zero, List.set_cons_succ]
            refine tke 54 (some 109) (.pointer (some ⟨pr, 5, none⟩)) rfl rfl ?_
            try simp only [Act.put, List.setIfInBounds_toArray, List.set_cons_zero, List.set_cons_succ]
            refine tke 55 (some 110) (.slice B5 tk.owns.length bq5) rfl rfl ?_
            try simp only [Act.put, List.setIfInBounds_toArray, List.set_cons_zero, List.set_cons_succ]
            refine wpAnyH_ready (rs := [56]) (by kernel_rfl) (by simp) ?_
            refine AllReadyH.cons (o := { dst := some 111, op := Op.call { callee := Callee.value (Operand.func 36), args := #[Operand.tmp 110], argTypes := #[65] }, type := 4, pos := "l10_group.go:11", after := #[{ on := 55, ground := Ground.data }, { on := 53, ground := Ground.chain }, { on := 53, ground := Ground.guard }], guard := some (53, false) }) rfl (fun K hK => ?_) AllReadyH.nil
            (go_simp; go_at_call 36; refine (SC5.out _ B8.out).mono ?_; rintro e w9 ⟨rfl, b9⟩; have B9 : Hid (Below wi.heap.size wi w9) := chain B8.out b9; clear b9; try (go_wp2_with fail))
            refine hK.out _ _ (ST.out _ B9.out) (fun hHeld => ?_)
            clear hK K
            try simp only [Act.put, List.setIfInBounds_toArray, List.set_cons_zero, List.set_cons_succ]
            cases hs5 : slots tk.owns with
            | false =>
              have Z := Seg.hid (ZW.out (by simp [okM, hs5]))
              as_aux_lemma =>
                refine tke 57 (some 112) (.bool true) rfl rfl ?_
                try simp only [Act.put, List.setIfInBounds_toArray, List.set_cons_zero, List.set_cons_succ]
                refine tke 58 (some 113) (.bool true) rfl rfl ?_
                try simp only [Act.put, List.setIfInBounds_toArray, List.set_cons_zero, List.set_cons_succ]
                refine tke 59 (some 114) (.bool true) rfl rfl ?_
                try simp only [Act.put, List.setIfInBounds_toArray, List.set_cons_zero, List.set_cons_succ]
                refine skp 60 (some 115) rfl rfl ?_
                try simp only [Act.put, List.setIfInBounds_toArray, List.set_cons_zero, List.set_cons_succ]
                refine skp 61 (some 116) rfl rfl ?_
                try simp only [Act.put, List.setIfInBounds_toArray, List.set_cons_zero, List.set_cons_succ]
                refine skp 62 (some 117) rfl rfl ?_
                try simp only [Act.put, List.setIfInBounds_toArray, List.set_cons_zero, List.set_cons_succ]
                refine skp 63 (some 118) rfl rfl ?_
                try simp only [Act.put, List.setIfInBounds_toArray, List.set_cons_zero, List.set_cons_succ]
                refine tke 64 (some 119) (.bool true) rfl rfl ?_
                try simp only [Act.put, List.setIfInBounds_toArray, List.set_cons_zero, List.set_cons_succ]
                refine wpAnyH_done (by kernel_rfl) ?_ _
                go_wp2
                go_ret
                exact NO.out _ Z.out (R0.out.next B9.out).bel
            | true =>
            refine tke 57 (some 112) (.bool false) rfl rfl ?_
            try simp only [Act.put, List.setIfInBounds_toArray, List.set_cons_zero, List.set_cons_succ]
            refine tke 58 (some 113) (.bool false) rfl rfl ?_
            try simp only [Act.put, List.setIfInBounds_toArray, List.set_cons_zero, List.set_cons_succ]
            refine tke 59 (some 114) (.bool false) rfl rfl ?_
            try simp only [Act.put, List.setIfInBounds_toArray, List.set_cons_zero, List.set_cons_succ]
            refine tke 60 (some 115) (.pointer (some ⟨pr, 6, none⟩)) rfl rfl ?_
            try simp only [Act.put, List.setIfInBounds_toArray, List.set_cons_zero, List.set_cons_succ]
            refine tke 61 (some 116) (.slice B6 tk.target.length bq6) rfl rfl ?_
            try simp only [Act.put, List.setIfInBounds_toArray, List.set_cons_zero, List.set_cons_succ]
            refine wpAnyH_ready (rs := [62]) (by kernel_rfl) (by simp) ?_
            refine AllReadyH.cons (o := { dst := some 117, op := Op.call { callee := Callee.value (Operand.func 36), args := #[Operand.tmp 116], argTypes := #[65] }, type := 4, pos := "l10_group.go:11", after := #[{ on := 61, ground := Ground.data }, { on := 59, ground := Ground.chain }, { on := 59, ground := Ground.guard }], guard := some (59, false) }) rfl (fun K hK => ?_) AllReadyH.nil
            (go_simp; go_at_call 36; refine (SC6.out _ B9.out).mono ?_; rintro e w10 ⟨rfl, b10⟩; have B10 : Hid (Below wi.heap.size wi w10) := chain B9.out b10; clear b10; try (go_wp2_with fail))
            refine hK.out _ _ (ST.out _ B10.out) (fun hHeld => ?_)
            clear hK K
            try simp only [Act.put, List.setIfInBounds_toArray, List.set_cons_zero, List.set_cons_succ]
            cases hs6 : slots tk.target with
            | false =>
              have Z := Seg.hid (ZW.out (by simp [okM, hs6]))
              as_aux_lemma =>
                refine tke 63 (some 118) (.bool true) rfl rfl ?_
                try simp only [Act.put, List.setIfInBounds_toArray, List.set_cons_zero, List.set_cons_succ]
                refine tke 64 (some 119) (.bool true) rfl rfl ?_
                try simp only [Act.put, List.setIfInBounds_toArray, List.set_cons_zero, List.set_cons_succ]
                refine wpAnyH_done (by kernel_rfl) ?_ _
                go_wp2
                go_ret
                exact NO.out _ Z.out (R0.out.next B10.out).bel
            | true =>
            refine tke 63 (some 118) (.bool false) rfl rfl ?_
            try simp only [Act.put, List.setIfInBounds_toArray, List.set_cons_zero, List.set_cons_succ]
            refine tke 64 (some 119) (.bool false) rfl rfl ?_
            try simp only [Act.put, List.setIfInBounds_toArray, List.set_cons_zero, List.set_cons_succ]
            refine wpAnyH_done (by kernel_rfl) ?_ _
            have ZY : Hid ((t.members.take k).any (clash tk) = false → mems t (k + 1) = groupOk t) := fun h => ZYY.out (by rw [HPV.out]; simp [okM, KN.out, HSO.out, hnm, hbt, hrd, hs5, hs6, aheadO]) h
            have R9 : Hid (Gw w w10 #[.int .i64 t.kind, .int .i64 t.timeout, .int .i64 t.now, .int .i64 t.round, .slice A4 t.topics.length c4, .slice (some ⟨g, o, none⟩) t.members.length c5] ∧ Rw w10 pr #[.string tk.name, .string tk.sttc, .slice B2 tk.wants.length bq2, .int .i64 tk.beat, .int .i64 tk.round, .slice B5 tk.owns.length bq5, .slice B6 tk.target.length bq6]) := ⟨R0.out.next B10.out, R1.out.next B10.out⟩
            clear hnm hbt hrd hs5 hs6 B8 B9 B10 NC SC5 SC6 R0 R1 ST hHeld
            go_wp2_with fail
            go_loopw [5] (fun i wx => ∃ (j : Nat), j ≤ k ∧ i = .int .i64 j ∧ Hid ((t.members.take j).any (clash tk) = false ∧ Gw w wx #[.int .i64 t.kind, .int .i64 t.timeout, .int .i64 t.now, .int .i64 t.round, .slice A4 t.topics.length c4, .slice (some ⟨g, o, none⟩) t.members.length c5] ∧ Rw wx pr #[.string tk.name, .string tk.sttc, .slice B2 tk.wants.length bq2, .int .i64 tk.beat, .int .i64 tk.round, .slice B5 tk.owns.length bq5, .slice B6 tk.target.length bq6])) (fun i _ => k - (intOf i).toNat)
            case atStart => exact ⟨0, Nat.zero_le _, rfl, rfl, R9.out⟩
            case round =>
              clear R9
              obtain ⟨j, hj, rfl, HJ⟩ := hrel
              by_cases hlj : j < k
              · exact absurd hlj (by omega)
              · have hj' : k = j := by omega
                subst hj'
                have KL := Seg.hid (ZY.out HJ.out.1)
                go_wp2
                go_roundw
                case rel => exact ⟨k + 1, by omega, by go_num, KL.out, HJ.out.2.1⟩
                case measure => simp [intOf]; omega
        | false =>
        have HST := Seg.hid hst
        cases hsn : Nm.nameOk tk.sttc with
        | false =>
          have Z := Seg.hid (ZW.out (by simp [okM, stO, hst, hsn]))
          have KS2 := Seg.hid hsn
          clear hsn
          as_aux_lemma =>
            have ST : Hid (∀ wx, Below wi.heap.size wi wx → wx.cell? ⟨pr, 0, none⟩ = some (.string tk.name) ∧ wx.cell? ⟨pr, 1, none⟩ = some (.string tk.sttc) ∧ wx.cell? ⟨pr, 2, none⟩ = some (.slice B2 tk.wants.length bq2) ∧ wx.cell? ⟨pr, 3, none⟩ = some (.int .i64 tk.beat) ∧ wx.cell? ⟨pr, 4, none⟩ = some (.int .i64 tk.round) ∧ wx.cell? ⟨pr, 5, none⟩ = some (.slice B5 tk.owns.length bq5) ∧ wx.cell? ⟨pr, 6, none⟩ = some (.slice B6 tk.target.length bq6) ∧ wx.cell? ⟨w.heap.size, 2, none⟩ = some (.int .i64 t.now) ∧ wx.cell? ⟨w.heap.size, 3, none⟩ = some (.int .i64 t.round) ∧ wx.cell? ⟨w.heap.size, 5, none⟩ = some (.slice (some ⟨g, o, none⟩) t.members.length c5)) := fun wx bx => ⟨(bx.cell (p := ⟨pr, 0, none⟩) hpri).trans r0, (bx.cell (p := ⟨pr, 1, none⟩) hpri).trans r1, (bx.cell (p := ⟨pr, 2, none⟩) hpri).trans r2, (bx.cell (p := ⟨pr, 3, none⟩) hpri).trans r3, (bx.cell (p := ⟨pr, 4, none⟩) hpri).trans r4, (bx.cell (p := ⟨pr, 5, none⟩) hpri).trans r5, (bx.cell (p := ⟨pr, 6, none⟩) hpri).trans r6, (bx.cell (p := ⟨w.heap.size, 2, none⟩) hpgi).trans q2, (bx.cell (p := ⟨w.heap.size, 3, none⟩) hpgi).trans q3, (bx.cell (p := ⟨w.heap.size, 5, none⟩) hpgi).trans q5⟩
            clear r0 r1 r2 r3 r4 r5 r6 q2 q3 q5
            refine wp_region_held_drew (S := (fun w' => w'.cell? ⟨pr, 0, none⟩ = some (.string tk.name) ∧ w'.cell? ⟨pr, 1, none⟩ = some (.string tk.sttc) ∧ w'.cell? ⟨pr, 2, none⟩ = some (.slice B2 tk.wants.length bq2) ∧ w'.cell? ⟨pr, 3, none⟩ = some (.int .i64 tk.beat) ∧ w'.cell? ⟨pr, 4, none⟩ = some (.int .i64 tk.round) ∧ w'.cell? ⟨pr, 5, none⟩ = some (.slice B5 tk.owns.length bq5) ∧ w'.cell? ⟨pr, 6, none⟩ = some (.slice B6 tk.target.length bq6) ∧ w'.cell? ⟨w.heap.size, 2, none⟩ = some (.int .i64 t.now) ∧ w'.cell? ⟨w.heap.size, 3, none⟩ = some (.int .i64 t.round) ∧ w'.cell? ⟨w.heap.size, 5, none⟩ = some (.slice (some ⟨g, o, none⟩) t.members.length c5))) (by kernel_rfl) (ST.out _ (Below.refl _ _).drew) (fun hHeld => ?_)
            refine tke 0 (some 55) (.pointer (some ⟨pr, 0, none⟩)) rfl rfl ?_
            try simp only [Act.put, List.setIfInBounds_toArray, List.set_cons_zero, List.set_cons_succ]
            refine tke 1 (some 56) (.string tk.name) rfl rfl ?_
            try simp only [Act.put, List.setIfInBounds_toArray, List.set_cons_zero, List.set_cons_succ]
            refine wpAnyH_ready (rs := [2]) (by kernel_rfl) (by simp) ?_
            refine AllReadyH.cons (o := { dst := some 57, op := Op.call { callee := Callee.value (Operand.func 34), args := #[Operand.tmp 56], argTypes := #[9] }, type := 4, pos := "l10_group.go:11", after := #[{ on := 1, ground := Ground.data }], guard := none }) rfl (fun K hK => ?_) AllReadyH.nil
            (go_simp; go_at_call 34; refine (Nm.spec_q tk.name _ KN.out _ NS).mono ?_; rintro e w7 ⟨rfl, rfl⟩; try (go_wp2_with fail))
            refine hK.out _ _ (ST.out _ (Below.refl _ _).drew) (fun hHeld => ?_)
            clear hK K
            try simp only [Act.put, List.setIfInBounds_toArray, List.set_cons_zero, List.set_cons_succ]
            refine tke 3 (some 58) (.bool false) rfl rfl ?_
            try simp only [Act.put, List.setIfInBounds_toArray, List.set_cons_zero, List.set_cons_succ]
            refine tke 4 (some 59) (.bool false) rfl rfl ?_
            try simp only [Act.put, List.setIfInBounds_toArray, List.set_cons_zero, List.set_cons_succ]
            refine tke 5 (some 60) (.int .i64 (k : Int)) rfl rfl ?_
            try simp only [Act.put, List.setIfInBounds_toArray, List.set_cons_zero, List.set_cons_succ]
            refine tke 6 (some 61) (.bool false) rfl rfl ?_
            try simp only [Act.put, List.setIfInBounds_toArray, List.set_cons_zero, List.set_cons_succ]
            refine tke 7 (some 62) (.bool false) rfl rfl ?_
            try simp only [Act.put, List.setIfInBounds_toArray, List.set_cons_zero, List.set_cons_succ]
            refine skp 8 (some 63) rfl rfl ?_
            try simp only [Act.put, List.setIfInBounds_toArray, List.set_cons_zero, List.set_cons_succ]
            refine skp 9 (some 64) rfl rfl ?_
            try simp only [Act.put, List.setIfInBounds_toArray, List.set_cons_zero, List.set_cons_succ]
            refine skp 10 (some 65) rfl rfl ?_
            try simp only [Act.put, List.setIfInBounds_toArray, List.set_cons_zero, List.set_cons_succ]
            refine skp 11 (some 66) rfl rfl ?_
            try simp only [Act.put, List.setIfInBounds_toArray, List.set_cons_zero, List.set_cons_succ]
            refine skp 12 (some 67) rfl rfl ?_
            try simp only [Act.put, List.setIfInBounds_toArray, List.set_cons_zero, List.set_cons_succ]
            refine skp 13 (some 68) rfl rfl ?_
            try simp only [Act.put, List.setIfInBounds_toArray, List.set_cons_zero, List.set_cons_succ]
            refine skp 14 (some 69) rfl rfl ?_
            try simp only [Act.put, List.setIfInBounds_toArray, List.set_cons_zero, List.set_cons_succ]
            refine skp 15 (some 70) rfl rfl ?_
            try simp only [Act.put, List.setIfInBounds_toArray, List.set_cons_zero, List.set_cons_succ]
            refine skp 16 (some 71) rfl rfl ?_
            try simp only [Act.put, List.setIfInBounds_toArray, List.set_cons_zero, List.set_cons_succ]
            refine skp 17 (some 72) rfl rfl ?_
            try simp only [Act.put, List.setIfInBounds_toArray, List.set_cons_zero, List.set_cons_succ]
            refine tke 18 (some 73) (.bool false) rfl rfl ?_
            try simp only [Act.put, List.setIfInBounds_toArray, List.set_cons_zero, List.set_cons_succ]
            refine tke 19 (some 74) (.bool false) rfl rfl ?_
            try simp only [Act.put, List.setIfInBounds_toArray, List.set_cons_zero, List.set_cons_succ]
            refine tke 20 (some 75) (.bool false) rfl rfl ?_
            try simp only [Act.put, List.setIfInBounds_toArray, List.set_cons_zero, List.set_cons_succ]
            refine tke 21 (some 76) (.pointer (some ⟨pr, 1, none⟩)) rfl rfl ?_
            try simp only [Act.put, List.setIfInBounds_toArray, List.set_cons_zero, List.set_cons_succ]
            refine tke 22 (some 77) (.string tk.sttc) rfl rfl ?_
            try simp only [Act.put, List.setIfInBounds_toArray, List.set_cons_zero, List.set_cons_succ]
            refine tke 23 (some 78) (.bool true) rfl rfl ?_
            try simp only [Act.put, List.setIfInBounds_toArray, List.set_cons_zero, List.set_cons_succ]
            refine tke 24 (some 79) (.bool true) rfl rfl ?_
            try simp only [Act.put, List.setIfInBounds_toArray, List.set_cons_zero, List.set_cons_succ]
            refine tke 25 (some 80) (.pointer (some ⟨pr, 1, none⟩)) rfl rfl ?_
            try simp only [Act.put, List.setIfInBounds_toArray, List.set_cons_zero, List.set_cons_succ]
            refine tke 26 (some 81) (.string tk.sttc) rfl rfl ?_
            try simp only [Act.put, List.setIfInBounds_toArray, List.set_cons_zero, List.set_cons_succ]
            refine wpAnyH_ready (rs := [27]) (by kernel_rfl) (by simp) ?_
            refine AllReadyH.cons (o := { dst := some 82, op := Op.call { callee := Callee.value (Operand.func 34), args := #[Operand.tmp 81], argTypes := #[9] }, type := 4, pos := "l10_group.go:11", after := #[{ on := 26, ground := Ground.data }, { on := 24, ground := Ground.chain }, { on := 24, ground := Ground.guard }], guard := some (24, true) }) rfl (fun K hK => ?_) AllReadyH.nil
            (go_simp; go_at_call 34; refine (Nm.spec_q tk.sttc _ KS2.out _ NS2).mono ?_; rintro e w7 ⟨rfl, rfl⟩; try (go_wp2_with fail))
            refine hK.out _ _ (ST.out _ (Below.refl _ _).drew) (fun hHeld => ?_)
            clear hK K
            try simp only [Act.put, List.setIfInBounds_toArray, List.set_cons_zero, List.set_cons_succ]
            refine tke 28 (some 83) (.bool true) rfl rfl ?_
            try simp only [Act.put, List.setIfInBounds_toArray, List.set_cons_zero, List.set_cons_succ]
            refine tke 29 (some 84) (.bool true) rfl rfl ?_
            try simp only [Act.put, List.setIfInBounds_toArray, List.set_cons_zero, List.set_cons_succ]
            refine tke 30 (some 85) (.bool true) rfl rfl ?_
            try simp only [Act.put, List.setIfInBounds_toArray, List.set_cons_zero, List.set_cons_succ]
            refine tke 31 (some 86) (.bool true) rfl rfl ?_
            try simp only [Act.put, List.setIfInBounds_toArray, List.set_cons_zero, List.set_cons_succ]
            refine skp 32 (some 87) rfl rfl ?_
            try simp only [Act.put, List.setIfInBounds_toArray, List.set_cons_zero, List.set_cons_succ]
            refine skp 33 (some 88) rfl rfl ?_
            try simp only [Act.put, List.setIfInBounds_toArray, List.set_cons_zero, List.set_cons_succ]
            refine skp 34 (some 89) rfl rfl ?_
            try simp only [Act.put, List.setIfInBounds_toArray, List.set_cons_zero, List.set_cons_succ]
            refine skp 35 (some 90) rfl rfl ?_
            try simp only [Act.put, List.setIfInBounds_toArray, List.set_cons_zero, List.set_cons_succ]
            refine tke 36 (some 91) (.bool true) rfl rfl ?_
            try simp only [Act.put, List.setIfInBounds_toArray, List.set_cons_zero, List.set_cons_succ]
            refine tke 37 (some 92) (.bool true) rfl rfl ?_
            try simp only [Act.put, List.setIfInBounds_toArray, List.set_cons_zero, List.set_cons_succ]
            refine skp 38 (some 93) rfl rfl ?_
            try simp only [Act.put, List.setIfInBounds_toArray, List.set_cons_zero, List.set_cons_succ]
            refine skp 39 (some 94) rfl rfl ?_
            try simp only [Act.put, List.setIfInBounds_toArray, List.set_cons_zero, List.set_cons_succ]
            refine skp 40 (some 95) rfl rfl ?_
            try simp only [Act.put, List.setIfInBounds_toArray, List.set_cons_zero, List.set_cons_succ]
            refine skp 41 (some 96) rfl rfl ?_
            try simp only [Act.put, List.setIfInBounds_toArray, List.set_cons_zero, List.set_cons_succ]
            refine skp 42 (some 97) rfl rfl ?_
            try simp only [Act.put, List.setIfInBounds_toArray, List.set_cons_zero, List.set_cons_succ]
            refine skp 43 (some 98) rfl rfl ?_
            try simp only [Act.put, List.setIfInBounds_toArray, List.set_cons_zero, List.set_cons_succ]
            refine tke 44 (some 99) (.bool true) rfl rfl ?_
            try simp only [Act.put, List.setIfInBounds_toArray, List.set_cons_zero, List.set_cons_succ]
            refine tke 45 (some 100) (.bool true) rfl rfl ?_
            try simp only [Act.put, List.setIfInBounds_toArray, List.set_cons_zero, List.set_cons_succ]
            refine skp 46 (some 101) rfl rfl ?_
            try simp only [Act.put, List.setIfInBounds_toArray, List.set_cons_zero, List.set_cons_succ]
            refine skp 47 (some 102) rfl rfl ?_
            try simp only [Act.put, List.setIfInBounds_toArray, List.set_cons_zero, List.set_cons_succ]
            refine skp 48 (some 103) rfl rfl ?_
            try simp only [Act.put, List.setIfInBounds_toArray, List.set_cons_zero, List.set_cons_succ]
            refine skp 49 (some 104) rfl rfl ?_
            try simp only [Act.put, List.setIfInBounds_toArray, List.set_cons_zero, List.set_cons_succ]
            refine skp 50 (some 105) rfl rfl ?_
            try simp only [Act.put, List.setIfInBounds_toArray, List.set_cons_zero, List.set_cons_succ]
            refine skp 51 (some 106) rfl rfl ?_
            try simp only [Act.put, List.setIfInBounds_toArray, List.set_cons_zero, List.set_cons_succ]
            refine tke 52 (some 107) (.bool true) rfl rfl ?_
            try simp only [Act.put, List.setIfInBounds_toArray, List.set_cons_zero, List.set_cons_succ]
            refine tke 53 (some 108) (.bool true) rfl rfl ?_
            try simp only [Act.put, List.setIfInBounds_toArray, List.set_cons_zero, List.set_cons_succ]
            refine skp 54 (some 109) rfl rfl ?_
            try simp only [Act.put, List.setIfInBounds_toArray, List.set_cons_zero, List.set_cons_succ]
            refine skp 55 (some 110) rfl rfl ?_
            try simp only [Act.put, List.setIfInBounds_toArray, List.set_cons_zero, List.set_cons_succ]
            refine skp 56 (some 111) rfl rfl ?_
            try simp only [Act.put, List.setIfInBounds_toArray, List.set_cons_zero, List.set_cons_succ]
            refine skp 57 (some 112) rfl rfl ?_
            try simp only [Act.put, List.setIfInBounds_toArray, List.set_cons_zero, List.set_cons_succ]
            refine tke 58 (some 113) (.bool true) rfl rfl ?_
            try simp only [Act.put, List.setIfInBounds_toArray, List.set_cons_zero, List.set_cons_succ]
            refine tke 59 (some 114) (.bool true) rfl rfl ?_
            try simp only [Act.put, List.setIfInBounds_toArray, List.set_cons_zero, List.set_cons_succ]
            refine skp 60 (some 115) rfl rfl ?_
            try simp only [Act.put, List.setIfInBounds_toArray, List.set_cons_zero, List.set_cons_succ]
            refine skp 61 (some 116) rfl rfl ?_
            try simp only [Act.put, List.setIfInBounds_toArray, List.set_cons_zero, List.set_cons_succ]
            refine skp 62 (some 117) rfl rfl ?_
            try simp only [Act.put, List.setIfInBounds_toArray, List.set_cons_zero, List.set_cons_succ]
            refine skp 63 (some 118) rfl rfl ?_
            try simp only [Act.put, List.setIfInBounds_toArray, List.set_cons_zero, List.set_cons_succ]
            refine tke 64 (some 119) (.bool true) rfl rfl ?_
            try simp only [Act.put, List.setIfInBounds_toArray, List.set_cons_zero, List.set_cons_succ]
            refine wpAnyH_done (by kernel_rfl) ?_ _
            go_wp2
            go_ret
            exact NO.out _ Z.out R0.out.bel.drew
        | true =>
        have KS2 := Seg.hid hsn
        have HSO : Hid (stO tk.sttc = true) := by show _ = _; simp [stO, hsn]
        have ST : Hid (∀ wx, Below wi.heap.size wi wx → wx.cell? ⟨pr, 0, none⟩ = some (.string tk.name) ∧ wx.cell? ⟨pr, 1, none⟩ = some (.string tk.sttc) ∧ wx.cell? ⟨pr, 2, none⟩ = some (.slice B2 tk.wants.length bq2) ∧ wx.cell? ⟨pr, 3, none⟩ = some (.int .i64 tk.beat) ∧ wx.cell? ⟨pr, 4, none⟩ = some (.int .i64 tk.round) ∧ wx.cell? ⟨pr, 5, none⟩ = some (.slice B5 tk.owns.length bq5) ∧ wx.cell? ⟨pr, 6, none⟩ = some (.slice B6 tk.target.length bq6) ∧ wx.cell? ⟨w.heap.size, 2, none⟩ = some (.int .i64 t.now) ∧ wx.cell? ⟨w.heap.size, 3, none⟩ = some (.int .i64 t.round) ∧ wx.cell? ⟨w.heap.size, 5, none⟩ = some (.slice (some ⟨g, o, none⟩) t.members.length c5)) := fun wx bx => ⟨(bx.cell (p := ⟨pr, 0, none⟩) hpri).trans r0, (bx.cell (p := ⟨pr, 1, none⟩) hpri).trans r1, (bx.cell (p := ⟨pr, 2, none⟩) hpri).trans r2, (bx.cell (p := ⟨pr, 3, none⟩) hpri).trans r3, (bx.cell (p := ⟨pr, 4, none⟩) hpri).trans r4, (bx.cell (p := ⟨pr, 5, none⟩) hpri).trans r5, (bx.cell (p := ⟨pr, 6, none⟩) hpri).trans r6, (bx.cell (p := ⟨w.heap.size, 2, none⟩) hpgi).trans q2, (bx.cell (p := ⟨w.heap.size, 3, none⟩) hpgi).trans q3, (bx.cell (p := ⟨w.heap.size, 5, none⟩) hpgi).trans q5⟩
        clear r0 r1 r2 r3 r4 r5 r6 q2 q3 q5
        clear hsn
        as_aux_lemma =>
          refine wp_region_held_drew (S := (fun w' => w'.cell? ⟨pr, 0, none⟩ = some (.string tk.name) ∧ w'.cell? ⟨pr, 1, none⟩ = some (.string tk.sttc) ∧ w'.cell? ⟨pr, 2, none⟩ = some (.slice B2 tk.wants.length bq2) ∧ w'.cell? ⟨pr, 3, none⟩ = some (.int .i64 tk.beat) ∧ w'.cell? ⟨pr, 4, none⟩ = some (.int .i64 tk.round) ∧ w'.cell? ⟨pr, 5, none⟩ = some (.slice B5 tk.owns.length bq5) ∧ w'.cell? ⟨pr, 6, none⟩ = some (.slice B6 tk.target.length bq6) ∧ w'.cell? ⟨w.heap.size, 2, none⟩ = some (.int .i64 t.now) ∧ w'.cell? ⟨w.heap.size, 3, none⟩ = some (.int .i64 t.round) ∧ w'.cell? ⟨w.heap.size, 5, none⟩ = some (.slice (some ⟨g, o, none⟩) t.members.length c5))) (by kernel_rfl) (ST.out _ (Below.refl _ _).drew) (fun hHeld => ?_)
          refine tke 0 (some 55) (.pointer (some ⟨pr, 0, none⟩)) rfl rfl ?_
          try simp only [Act.put, List.setIfInBounds_toArray, List.set_cons_zero, List.set_cons_succ]
          refine tke 1 (some 56) (.string tk.name) rfl rfl ?_
          try simp only [Act.put, List.setIfInBounds_toArray, List.set_cons_zero, List.set_cons_succ]
          refine wpAnyH_ready (rs := [2]) (by kernel_rfl) (by simp) ?_
          refine AllReadyH.cons (o := { dst := some 57, op := Op.call { callee := Callee.value (Operand.func 34), args := #[Operand.tmp 56], argTypes := #[9] }, type := 4, pos := "l10_group.go:11", after := #[{ on := 1, ground := Ground.data }], guard := none }) rfl (fun K hK => ?_) AllReadyH.nil
          (go_simp; go_at_call 34; refine (Nm.spec_q tk.name _ KN.out _ NS).mono ?_; rintro e w7 ⟨rfl, rfl⟩; try (go_wp2_with fail))
          refine hK.out _ _ (ST.out _ (Below.refl _ _).drew) (fun hHeld => ?_)
          clear hK K
          try simp only [Act.put, List.setIfInBounds_toArray, List.set_cons_zero, List.set_cons_succ]
          refine tke 3 (some 58) (.bool false) rfl rfl ?_
          try simp only [Act.put, List.setIfInBounds_toArray, List.set_cons_zero, List.set_cons_succ]
          refine tke 4 (some 59) (.bool false) rfl rfl ?_
          try simp only [Act.put, List.setIfInBounds_toArray, List.set_cons_zero, List.set_cons_succ]
          refine tke 5 (some 60) (.int .i64 (k : Int)) rfl rfl ?_
          try simp only [Act.put, List.setIfInBounds_toArray, List.set_cons_zero, List.set_cons_succ]
          refine tke 6 (some 61) (.bool false) rfl rfl ?_
          try simp only [Act.put, List.setIfInBounds_toArray, List.set_cons_zero, List.set_cons_succ]
          refine tke 7 (some 62) (.bool false) rfl rfl ?_
          try simp only [Act.put, List.setIfInBounds_toArray, List.set_cons_zero, List.set_cons_succ]
          refine skp 8 (some 63) rfl rfl ?_
          try simp only [Act.put, List.setIfInBounds_toArray, List.set_cons_zero, List.set_cons_succ]
          refine skp 9 (some 64) rfl rfl ?_
          try simp only [Act.put, List.setIfInBounds_toArray, List.set_cons_zero, List.set_cons_succ]
          refine skp 10 (some 65) rfl rfl ?_
          try simp only [Act.put, List.setIfInBounds_toArray, List.set_cons_zero, List.set_cons_succ]
          refine skp 11 (some 66) rfl rfl ?_
          try simp only [Act.put, List.setIfInBounds_toArray, List.set_cons_zero, List.set_cons_succ]
          refine skp 12 (some 67) rfl rfl ?_
          try simp only [Act.put, List.setIfInBounds_toArray, List.set_cons_zero, List.set_cons_succ]
          refine skp 13 (some 68) rfl rfl ?_
          try simp only [Act.put, List.setIfInBounds_toArray, List.set_cons_zero, List.set_cons_succ]
          refine skp 14 (some 69) rfl rfl ?_
          try simp only [Act.put, List.setIfInBounds_toArray, List.set_cons_zero, List.set_cons_succ]
          refine skp 15 (some 70) rfl rfl ?_
          try simp only [Act.put, List.setIfInBounds_toArray, List.set_cons_zero, List.set_cons_succ]
          refine skp 16 (some 71) rfl rfl ?_
          try simp only [Act.put, List.setIfInBounds_toArray, List.set_cons_zero, List.set_cons_succ]
          refine skp 17 (some 72) rfl rfl ?_
          try simp only [Act.put, List.setIfInBounds_toArray, List.set_cons_zero, List.set_cons_succ]
          refine tke 18 (some 73) (.bool false) rfl rfl ?_
          try simp only [Act.put, List.setIfInBounds_toArray, List.set_cons_zero, List.set_cons_succ]
          refine tke 19 (some 74) (.bool false) rfl rfl ?_
          try simp only [Act.put, List.setIfInBounds_toArray, List.set_cons_zero, List.set_cons_succ]
          refine tke 20 (some 75) (.bool false) rfl rfl ?_
          try simp only [Act.put, List.setIfInBounds_toArray, List.set_cons_zero, List.set_cons_succ]
          refine tke 21 (some 76) (.pointer (some ⟨pr, 1, none⟩)) rfl rfl ?_
          try simp only [Act.put, List.setIfInBounds_toArray, List.set_cons_zero, List.set_cons_succ]
          refine tke 22 (some 77) (.string tk.sttc) rfl rfl ?_
          try simp only [Act.put, List.setIfInBounds_toArray, List.set_cons_zero, List.set_cons_succ]
          refine tke 23 (some 78) (.bool true) rfl rfl ?_
          try simp only [Act.put, List.setIfInBounds_toArray, List.set_cons_zero, List.set_cons_succ]
          refine tke 24 (some 79) (.bool true) rfl rfl ?_
          try simp only [Act.put, List.setIfInBounds_toArray, List.set_cons_zero, List.set_cons_succ]
          refine tke 25 (some 80) (.pointer (some ⟨pr, 1, none⟩)) rfl rfl ?_
          try simp only [Act.put, List.setIfInBounds_toArray, List.set_cons_zero, List.set_cons_succ]
          refine tke 26 (some 81) (.string tk.sttc) rfl rfl ?_
          try simp only [Act.put, List.setIfInBounds_toArray, List.set_cons_zero, List.set_cons_succ]
          refine wpAnyH_ready (rs := [27]) (by kernel_rfl) (by simp) ?_
          refine AllReadyH.cons (o := { dst := some 82, op := Op.call { callee := Callee.value (Operand.func 34), args := #[Operand.tmp 81], argTypes := #[9] }, type := 4, pos := "l10_group.go:11", after := #[{ on := 26, ground := Ground.data }, { on := 24, ground := Ground.chain }, { on := 24, ground := Ground.guard }], guard := some (24, true) }) rfl (fun K hK => ?_) AllReadyH.nil
          (go_simp; go_at_call 34; refine (Nm.spec_q tk.sttc _ KS2.out _ NS2).mono ?_; rintro e w7 ⟨rfl, rfl⟩; try (go_wp2_with fail))
          refine hK.out _ _ (ST.out _ (Below.refl _ _).drew) (fun hHeld => ?_)
          clear hK K
          try simp only [Act.put, List.setIfInBounds_toArray, List.set_cons_zero, List.set_cons_succ]
          refine tke 28 (some 83) (.bool false) rfl rfl ?_
          try simp only [Act.put, List.setIfInBounds_toArray, List.set_cons_zero, List.set_cons_succ]
          refine tke 29 (some 84) (.bool false) rfl rfl ?_
          try simp only [Act.put, List.setIfInBounds_toArray, List.set_cons_zero, List.set_cons_succ]
          refine tke 30 (some 85) (.bool false) rfl rfl ?_
          try simp only [Act.put, List.setIfInBounds_toArray, List.set_cons_zero, List.set_cons_succ]
          refine tke 31 (some 86) (.bool false) rfl rfl ?_
          try simp only [Act.put, List.setIfInBounds_toArray, List.set_cons_zero, List.set_cons_succ]
          refine tke 32 (some 87) (.pointer (some ⟨pr, 2, none⟩)) rfl rfl ?_
          try simp only [Act.put, List.setIfInBounds_toArray, List.set_cons_zero, List.set_cons_succ]
          refine tke 33 (some 88) (.slice B2 tk.wants.length bq2) rfl rfl ?_
          try simp only [Act.put, List.setIfInBounds_toArray, List.set_cons_zero, List.set_cons_succ]
          refine wpAnyH_ready (rs := [34]) (by kernel_rfl) (by simp) ?_
          refine AllReadyH.cons (o := { dst := some 89, op := Op.call { callee := Callee.value (Operand.func 35), args := #[Operand.tmp 88], argTypes := #[64] }, type := 4, pos := "l10_group.go:11", after := #[{ on := 33, ground := Ground.data }, { on := 31, ground := Ground.chain }, { on := 31, ground := Ground.guard }], guard := some (31, false) }) rfl (fun K hK => ?_) AllReadyH.nil
          (go_simp; go_at_call 35; refine (NC.out wi.drew (Below.refl _ _).drew).mono ?_; rintro e w8 ⟨rfl, b8⟩; have B8 : Hid (Below wi.heap.size wi w8) := ⟨b8.os, b8.tape, b8.output, b8.size, b8.block⟩; clear b8; try (go_wp2_with fail))
          refine hK.out _ _ (ST.out _ B8.out) (fun hHeld => ?_)
          clear hK K
          try simp only [Act.put, List.setIfInBounds_toArray, List.set_cons_zero, List.set_cons_succ]
          cases hnm : names tk.wants with
          | false =>
            have Z := Seg.hid (ZW.out (by simp [okM, hnm]))
            as_aux_lemma =>
              refine tke 35 (some 90) (.bool true) rfl rfl ?_
              try simp only [Act.put, List.setIfInBounds_toArray, List.set_cons_zero, List.set_cons_succ]
              refine tke 36 (some 91) (.bool true) rfl rfl ?_
              try simp only [Act.put, List.setIfInBounds_toArray, List.set_cons_zero, List.set_cons_succ]
              refine tke 37 (some 92) (.bool true) rfl rfl ?_
              try simp only [Act.put, List.setIfInBounds_toArray, List.set_cons_zero, List.set_cons_succ]
              refine skp 38 (some 93) rfl rfl ?_
              try simp only [Act.put, List.setIfInBounds_toArray, List.set_cons_zero, List.set_cons_succ]
              refine skp 39 (some 94) rfl rfl ?_
              try simp only [Act.put, List.setIfInBounds_toArray, List.set_cons_zero, List.set_cons_succ]
              refine skp 40 (some 95) rfl rfl ?_
              try simp only [Act.put, List.setIfInBounds_toArray, List.set_cons_zero, List.set_cons_succ]
              refine skp 41 (some 96) rfl rfl ?_
              try simp only [Act.put, List.setIfInBounds_toArray, List.set_cons_zero, List.set_cons_succ]
              refine skp 42 (some 97) rfl rfl ?_
              try simp only [Act.put, List.setIfInBounds_toArray, List.set_cons_zero, List.set_cons_succ]
              refine skp 43 (some 98) rfl rfl ?_
              try simp only [Act.put, List.setIfInBounds_toArray, List.set_cons_zero, List.set_cons_succ]
              refine tke 44 (some 99) (.bool true) rfl rfl ?_
              try simp only [Act.put, List.setIfInBounds_toArray, List.set_cons_zero, List.set_cons_succ]
              refine tke 45 (some 100) (.bool true) rfl rfl ?_
              try simp only [Act.put, List.setIfInBounds_toArray, List.set_cons_zero, List.set_cons_succ]
              refine skp 46 (some 101) rfl rfl ?_
              try simp only [Act.put, List.setIfInBounds_toArray, List.set_cons_zero, List.set_cons_succ]
              refine skp 47 (some 102) rfl rfl ?_
              try simp only [Act.put, List.setIfInBounds_toArray, List.set_cons_zero, List.set_cons_succ]
              refine skp 48 (some 103) rfl rfl ?_
              try simp only [Act.put, List.setIfInBounds_toArray, List.set_cons_zero, List.set_cons_succ]
              refine skp 49 (some 104) rfl rfl ?_
              try simp only [Act.put, List.setIfInBounds_toArray, List.set_cons_zero, List.set_cons_succ]
              refine skp 50 (some 105) rfl rfl ?_
              try simp only [Act.put, List.setIfInBounds_toArray, List.set_cons_zero, List.set_cons_succ]
              refine skp 51 (some 106) rfl rfl ?_
              try simp only [Act.put, List.setIfInBounds_toArray, List.set_cons_zero, List.set_cons_succ]
              refine tke 52 (some 107) (.bool true) rfl rfl ?_
              try simp only [Act.put, List.setIfInBounds_toArray, List.set_cons_zero, List.set_cons_succ]
              refine tke 53 (some 108) (.bool true) rfl rfl ?_
              try simp only [Act.put, List.setIfInBounds_toArray, List.set_cons_zero, List.set_cons_succ]
              refine skp 54 (some 109) rfl rfl ?_
              try simp only [Act.put, List.setIfInBounds_toArray, List.set_cons_zero, List.set_cons_succ]
              refine skp 55 (some 110) rfl rfl ?_
              try simp only [Act.put, List.setIfInBounds_toArray, List.set_cons_zero, List.set_cons_succ]
              refine skp 56 (some 111) rfl rfl ?_
              try simp only [Act.put, List.setIfInBounds_toArray, List.set_cons_zero, List.set_cons_succ]
              refine skp 57 (some 112) rfl rfl ?_
              try simp only [Act.put, List.setIfInBounds_toArray, List.set_cons_zero, List.set_cons_succ]
              refine tke 58 (some 113) (.bool true) rfl rfl ?_
              try simp only [Act.put, List.setIfInBounds_toArray, List.set_cons_zero, List.set_cons_succ]
              refine tke 59 (some 114) (.bool true) rfl rfl ?_
              try simp only [Act.put, List.setIfInBounds_toArray, List.set_cons_zero, List.set_cons_succ]
              refine skp 60 (some 115) rfl rfl ?_
              try simp only [Act.put, List.setIfInBounds_toArray, List.set_cons_zero, List.set_cons_succ]
              refine skp 61 (some 116) rfl rfl ?_
              try simp only [Act.put, List.setIfInBounds_toArray, List.set_cons_zero, List.set_cons_succ]
              refine skp 62 (some 117) rfl rfl ?_
              try simp only [Act.put, List.setIfInBounds_toArray, List.set_cons_zero, List.set_cons_succ]
              refine skp 63 (some 118) rfl rfl ?_
              try simp only [Act.put, List.setIfInBounds_toArray, List.set_cons_zero, List.set_cons_succ]
              refine tke 64 (some 119) (.bool true) rfl rfl ?_
              try simp only [Act.put, List.setIfInBounds_toArray, List.set_cons_zero, List.set_cons_succ]
              refine wpAnyH_done (by kernel_rfl) ?_ _
              go_wp2
              go_ret
              exact NO.out _ Z.out (R0.out.next B8.out).bel
          | true =>
          refine tke 35 (some 90) (.bool false) rfl rfl ?_
          try simp only [Act.put, List.setIfInBounds_toArray, List.set_cons_zero, List.set_cons_succ]
          refine tke 36 (some 91) (.bool false) rfl rfl ?_
          try simp only [Act.put, List.setIfInBounds_toArray, List.set_cons_zero, List.set_cons_succ]
          refine tke 37 (some 92) (.bool false) rfl rfl ?_
          try simp only [Act.put, List.setIfInBounds_toArray, List.set_cons_zero, List.set_cons_succ]
          refine tke 38 (some 93) (.pointer (some ⟨pr, 3, none⟩)) rfl rfl ?_
          try simp only [Act.put, List.setIfInBounds_toArray, List.set_cons_zero, List.set_cons_succ]
          refine tke 39 (some 94) (.int .i64 tk.beat) rfl rfl ?_
          try simp only [Act.put, List.setIfInBounds_toArray, List.set_cons_zero, List.set_cons_succ]
          refine tke 40 (some 95) (.pointer (some ⟨w.heap.size, 2, none⟩)) rfl rfl ?_
          try simp only [Act.put, List.setIfInBounds_toArray, List.set_cons_zero, List.set_cons_succ]
          refine tke 41 (some 96) (.int .i64 t.now) rfl rfl ?_
          try simp only [Act.put, List.setIfInBounds_toArray, List.set_cons_zero, List.set_cons_succ]
          refine wpAnyH_ready (rs := [42]) (by kernel_rfl) (by simp) ?_
          refine AllReadyH.cons (o := { dst := some 97, op := Op.call { callee := Callee.value (Operand.func 32), args := #[Operand.tmp 94, Operand.const (Value.int IntKind.i64 0), Operand.tmp 96], argTypes := #[3, 3, 3] }, type := 4, pos := "l10_group.go:11", after := #[{ on := 39, ground := Ground.data }, { on := 41, ground := Ground.data }, { on := 37, ground := Ground.chain }, { on := 37, ground := Ground.guard }], guard := some (37, false) }) rfl (fun K hK => ?_) AllReadyH.nil
          (go_simp; go_at_call 32; refine (InB.l1In_q tk.beat 0 t.now _ rfl _).mono ?_; rintro e w7 ⟨rfl, rfl⟩; try (go_wp2_with fail))
          refine hK.out _ _ (ST.out _ B8.out) (fun hHeld => ?_)
          clear hK K
          try simp only [Act.put, List.setIfInBounds_toArray, List.set_cons_zero, List.set_cons_succ]
          cases hbt : inR 0 tk.beat t.now with
          | false =>
            have Z := Seg.hid (ZW.out (by simp [okM, hbt]))
            as_aux_lemma =>
              refine tke 43 (some 98) (.bool true) rfl rfl ?_
              try simp only [Act.put, List.setIfInBounds_toArray, List.set_cons_zero, List.set_cons_succ]
              refine tke 44 (some 99) (.bool true) rfl rfl ?_
              try simp only [Act.put, List.setIfInBounds_toArray, List.set_cons_zero, List.set_cons_succ]
              refine tke 45 (some 100) (.bool true) rfl rfl ?_
              try simp only [Act.put, List.setIfInBounds_toArray, List.set_cons_zero, List.set_cons_succ]
              refine skp 46 (some 101) rfl rfl ?_
              try simp only [Act.put, List.setIfInBounds_toArray, List.set_cons_zero, List.set_cons_succ]
              refine skp 47 (some 102) rfl rfl ?_
              try simp only [Act.put, List.setIfInBounds_toArray, List.set_cons_zero, List.set_cons_succ]
              refine skp 48 (some 103) rfl rfl ?_
              try simp only [Act.put, List.setIfInBounds_toArray, List.set_cons_zero, List.set_cons_succ]
              refine skp 49 (some 104) rfl rfl ?_
              try simp only [Act.put, List.setIfInBounds_toArray, List.set_cons_zero, List.set_cons_succ]
              refine skp 50 (some 105) rfl rfl ?_
              try simp only [Act.put, List.setIfInBounds_toArray, List.set_cons_zero, List.set_cons_succ]
              refine skp 51 (some 106) rfl rfl ?_
              try simp only [Act.put, List.setIfInBounds_toArray, List.set_cons_zero, List.set_cons_succ]
              refine tke 52 (some 107) (.bool true) rfl rfl ?_
              try simp only [Act.put, List.setIfInBounds_toArray, List.set_cons_zero, List.set_cons_succ]
              refine tke 53 (some 108) (.bool true) rfl rfl ?_
              try simp only [Act.put, List.setIfInBounds_toArray, List.set_cons_zero, List.set_cons_succ]
              refine skp 54 (some 109) rfl rfl ?_
              try simp only [Act.put, List.setIfInBounds_toArray, List.set_cons_zero, List.set_cons_succ]
              refine skp 55 (some 110) rfl rfl ?_
              try simp only [Act.put, List.setIfInBounds_toArray, List.set_cons_zero, List.set_cons_succ]
              refine skp 56 (some 111) rfl rfl ?_
              try simp only [Act.put, List.setIfInBounds_toArray, List.set_cons_zero, List.set_cons_succ]
              refine skp 57 (some 112) rfl rfl ?_
              try simp only [Act.put, List.setIfInBounds_toArray, List.set_cons_zero, List.set_cons_succ]
              refine tke 58 (some 113) (.bool true) rfl rfl ?_
              try simp only [Act.put, List.setIfInBounds_toArray, List.set_cons_zero, List.set_cons_succ]
              refine tke 59 (some 114) (.bool true) rfl rfl ?_
              try simp only [Act.put, List.setIfInBounds_toArray, List.set_cons_zero, List.set_cons_succ]
              refine skp 60 (some 115) rfl rfl ?_
              try simp only [Act.put, List.setIfInBounds_toArray, List.set_cons_zero, List.set_cons_succ]
              refine skp 61 (some 116) rfl rfl ?_
              try simp only [Act.put, List.setIfInBounds_toArray, List.set_cons_zero, List.set_cons_succ]
              refine skp 62 (some 117) rfl rfl ?_
              try simp only [Act.put, List.setIfInBounds_toArray, List.set_cons_zero, List.set_cons_succ]
              refine skp 63 (some 118) rfl rfl ?_
              try simp only [Act.put, List.setIfInBounds_toArray, List.set_cons_zero, List.set_cons_succ]
              refine tke 64 (some 119) (.bool true) rfl rfl ?_
              try simp only [Act.put, List.setIfInBounds_toArray, List.set_cons_zero, List.set_cons_succ]
              refine wpAnyH_done (by kernel_rfl) ?_ _
              go_wp2
              go_ret
              exact NO.out _ Z.out (R0.out.next B8.out).bel
          | true =>
          refine tke 43 (some 98) (.bool false) rfl rfl ?_
          try simp only [Act.put, List.setIfInBounds_toArray, List.set_cons_zero, List.set_cons_succ]
          refine tke 44 (some 99) (.bool false) rfl rfl ?_
          try simp only [Act.put, List.setIfInBounds_toArray, List.set_cons_zero, List.set_cons_succ]
          refine tke 45 (some 100) (.bool false) rfl rfl ?_
          try simp only [Act.put, List.setIfInBounds_toArray, List.set_cons_zero, List.set_cons_succ]
          refine tke 46 (some 101) (.pointer (some ⟨pr, 4, none⟩)) rfl rfl ?_
          try simp only [Act.put, List.setIfInBounds_toArray, List.set_cons_zero, List.set_cons_succ]
          refine tke 47 (some 102) (.int .i64 tk.round) rfl rfl ?_
          try simp only [Act.put, List.setIfInBounds_toArray, List.set_cons_zero, List.set_cons_succ]
          refine tke 48 (some 103) (.pointer (some ⟨w.heap.size, 3, none⟩)) rfl rfl ?_
          try simp only [Act.put, List.setIfInBounds_toArray, List.set_cons_zero, List.set_cons_succ]
          refine tke 49 (some 104) (.int .i64 t.round) rfl rfl ?_
          try simp only [Act.put, List.setIfInBounds_toArray, List.set_cons_zero, List.set_cons_succ]
          refine wpAnyH_ready (rs := [50]) (by kernel_rfl) (by simp) ?_
          refine AllReadyH.cons (o := { dst := some 105, op := Op.call { callee := Callee.value (Operand.func 32), args := #[Operand.tmp 102, Operand.const (Value.int IntKind.i64 0), Operand.tmp 104], argTypes := #[3, 3, 3] }, type := 4, pos := "l10_group.go:11", after := #[{ on := 47, ground := Ground.data }, { on := 49, ground := Ground.data }, { on := 45, ground := Ground.chain }, { on := 45, ground := Ground.guard }], guard := some (45, false) }) rfl (fun K hK => ?_) AllReadyH.nil
          (go_simp; go_at_call 32; refine (InB.l1In_q tk.round 0 t.round _ rfl _).mono ?_; rintro e w7 ⟨rfl, rfl⟩; try (go_wp2_with fail))
          refine hK.out _ _ (ST.out _ B8.out) (fun hHeld => ?_)
          clear hK K
          try simp only [Act.put, List.setIfInBounds_toArray, List.set_cons_zero, List.set_cons_succ]
          cases hrd : inR 0 tk.round t.round with
          | false =>
            have Z := Seg.hid (ZW.out (by simp [okM, hrd]))
            as_aux_lemma =>
              refine tke 51 (some 106) (.bool true) rfl rfl ?_
              try simp only [Act.put, List.setIfInBounds_toArray, List.set_cons_zero, List.set_cons_succ]
              refine tke 52 (some 107) (.bool true) rfl rfl ?_
              try simp only [Act.put, List.setIfInBounds_toArray, List.set_cons_zero, List.set_cons_succ]
              refine tke 53 (some 108) (.bool true) rfl rfl ?_
              try simp only [Act.put, List.setIfInBounds_toArray, List.set_cons_zero, List.set_cons_succ]
              refine skp 54 (some 109) rfl rfl ?_
              try simp only [Act.put, List.setIfInBounds_toArray, List.set_cons_zero, List.set_cons_succ]
              refine skp 55 (some 110) rfl rfl ?_
              try simp only [Act.put, List.setIfInBounds_toArray, List.set_cons_zero, List.set_cons_succ]
              refine skp 56 (some 111) rfl rfl ?_
              try simp only [Act.put, List.setIfInBounds_toArray, List.set_cons_zero, List.set_cons_succ]
              refine skp 57 (some 112) rfl rfl ?_
              try simp only [Act.put, List.setIfInBounds_toArray, List.set_cons_zero, List.set_cons_succ]
              refine tke 58 (some 113) (.bool true) rfl rfl ?_
              try simp only [Act.put, List.setIfInBounds_toArray, List.set_cons_zero, List.set_cons_succ]
              refine tke 59 (some 114) (.bool true) rfl rfl ?_
              try simp only [Act.put, List.setIfInBounds_toArray, List.set_cons_zero, List.set_cons_succ]
              refine skp 60 (some 115) rfl rfl ?_
              try simp only [Act.put, List.setIfInBounds_toArray, List.set_cons_zero, List.set_cons_succ]
              refine skp 61 (some 116) rfl rfl ?_
              try simp only [Act.put, List.setIfInBounds_toArray, List.set_cons_zero, List.set_cons_succ]
              refine skp 62 (some 117) rfl rfl ?_
              try simp only [Act.put, List.setIfInBounds_toArray, List.set_cons_zero, List.set_cons_succ]
              refine skp 63 (some 118) rfl rfl ?_
              try simp only [Act.put, List.setIfInBounds_toArray, List.set_cons_zero, List.set_cons_succ]
              refine tke 64 (some 119) (.bool true) rfl rfl ?_
              try simp only [Act.put, List.setIfInBounds_toArray, List.set_cons_zero, List.set_cons_succ]
              refine wpAnyH_done (by kernel_rfl) ?_ _
              go_wp2
              go_ret
              exact NO.out _ Z.out (R0.out.next B8.out).bel
          | true =>
          refine tke 51 (some 106) (.bool false) rfl rfl ?_
          try simp only [Act.put, List.setIfInBounds_toArray, List.set_cons_zero, List.set_cons_succ]
          refine tke 52 (some 107) (.bool false) rfl rfl ?_
          try simp only [Act.put, List.setIfInBounds_toArray, List.set_cons_zero, List.set_cons_succ]
          refine tke 53 (some 108) (.bool false) rfl rfl ?_
          try simp only [Act.put, List.setIfInBounds_toArray, List.set_cons_zero, List.set_cons_succ]
          refine tke 54 (some 109) (.pointer (some ⟨pr, 5, none⟩)) rfl rfl ?_
          try simp only [Act.put, List.setIfInBounds_toArray, List.set_cons_zero, List.set_cons_succ]
          refine tke 55 (some 110) (.slice B5 tk.owns.length bq5) rfl rfl ?_
          try simp only [Act.put, List.setIfInBounds_toArray, List.set_cons_zero, List.set_cons_succ]
          refine wpAnyH_ready (rs := [56]) (by kernel_rfl) (by simp) ?_
          refine AllReadyH.cons (o := { dst := some 111, op := Op.call { callee := Callee.value (Operand.func 36), args := #[Operand.tmp 110], argTypes := #[65] }, type := 4, pos := "l10_group.go:11", after := #[{ on := 55, ground := Ground.data }, { on := 53, ground := Ground.chain }, { on := 53, ground := Ground.guard }], guard := some (53, false) }) rfl (fun K hK => ?_) AllReadyH.nil
          (go_simp; go_at_call 36; refine (SC5.out _ B8.out).mono ?_; rintro e w9 ⟨rfl, b9⟩; have B9 : Hid (Below wi.heap.size wi w9) := chain B8.out b9; clear b9; try (go_wp2_with fail))
          refine hK.out _ _ (ST.out _ B9.out) (fun hHeld => ?_)
          clear hK K
          try simp only [Act.put, List.setIfInBounds_toArray, List.set_cons_zero, List.set_cons_succ]
          cases hs5 : slots tk.owns with
          | false =>
            have Z := Seg.hid (ZW.out (by simp [okM, hs5]))
            as_aux_lemma =>
              refine tke 57 (some 112) (.bool true) rfl rfl ?_
              try simp only [Act.put, List.setIfInBounds_toArray, List.set_cons_zero, List.set_cons_succ]
              refine tke 58 (some 113) (.bool true) rfl rfl ?_
              try simp only [Act.put, List.setIfInBounds_toArray, List.set_cons_zero, List.set_cons_succ]
              refine tke 59 (some 114) (.bool true) rfl rfl ?_
              try simp only [Act.put, List.setIfInBounds_toArray, List.set_cons_zero, List.set_cons_succ]
              refine skp 60 (some 115) rfl rfl ?_
              try simp only [Act.put, List.setIfInBounds_toArray, List.set_cons_zero, List.set_cons_succ]
              refine skp 61 (some 116) rfl rfl ?_
              try simp only [Act.put, List.setIfInBounds_toArray, List.set_cons_zero, List.set_cons_succ]
              refine skp 62 (some 117) rfl rfl ?_
              try simp only [Act.put, List.setIfInBounds_toArray, List.set_cons_zero, List.set_cons_succ]
              refine skp 63 (some 118) rfl rfl ?_
              try simp only [Act.put, List.setIfInBounds_toArray, List.set_cons_zero, List.set_cons_succ]
              refine tke 64 (some 119) (.bool true) rfl rfl ?_
              try simp only [Act.put, List.setIfInBounds_toArray, List.set_cons_zero, List.set_cons_succ]
              refine wpAnyH_done (by kernel_rfl) ?_ _
              go_wp2
              go_ret
              exact NO.out _ Z.out (R0.out.next B9.out).bel
          | true =>
          refine tke 57 (some 112) (.bool false) rfl rfl ?_
          try simp only [Act.put, List.setIfInBounds_toArray, List.set_cons_zero, List.set_cons_succ]
          refine tke 58 (some 113) (.bool false) rfl rfl ?_
          try simp only [Act.put, List.setIfInBounds_toArray, List.set_cons_zero, List.set_cons_succ]
          refine tke 59 (some 114) (.bool false) rfl rfl ?_
          try simp only [Act.put, List.setIfInBounds_toArray, List.set_cons_zero, List.set_cons_succ]
          refine tke 60 (some 115) (.pointer (some ⟨pr, 6, none⟩)) rfl rfl ?_
          try simp only [Act.put, List.setIfInBounds_toArray, List.set_cons_zero, List.set_cons_succ]
          refine tke 61 (some 116) (.slice B6 tk.target.length bq6) rfl rfl ?_
          try simp only [Act.put, List.setIfInBounds_toArray, List.set_cons_zero, List.set_cons_succ]
          refine wpAnyH_ready (rs := [62]) (by kernel_rfl) (by simp) ?_
          refine AllReadyH.cons (o := { dst := some 117, op := Op.call { callee := Callee.value (Operand.func 36), args := #[Operand.tmp 116], argTypes := #[65] }, type := 4, pos := "l10_group.go:11", after := #[{ on := 61, ground := Ground.data }, { on := 59, ground := Ground.chain }, { on := 59, ground := Ground.guard }], guard := some (59, false) }) rfl (fun K hK => ?_) AllReadyH.nil
          (go_simp; go_at_call 36; refine (SC6.out _ B9.out).mono ?_; rintro e w10 ⟨rfl, b10⟩; have B10 : Hid (Below wi.heap.size wi w10) := chain B9.out b10; clear b10; try (go_wp2_with fail))
          refine hK.out _ _ (ST.out _ B10.out) (fun hHeld => ?_)
          clear hK K
          try simp only [Act.put, List.setIfInBounds_toArray, List.set_cons_zero, List.set_cons_succ]
          cases hs6 : slots tk.target with
          | false =>
            have Z := Seg.hid (ZW.out (by simp [okM, hs6]))
            as_aux_lemma =>
              refine tke 63 (some 118) (.bool true) rfl rfl ?_
              try simp only [Act.put, List.setIfInBounds_toArray, List.set_cons_zero, List.set_cons_succ]
              refine tke 64 (some 119) (.bool true) rfl rfl ?_
              try simp only [Act.put, List.setIfInBounds_toArray, List.set_cons_zero, List.set_cons_succ]
              refine wpAnyH_done (by kernel_rfl) ?_ _
              go_wp2
              go_ret
              exact NO.out _ Z.out (R0.out.next B10.out).bel
          | true =>
          refine tke 63 (some 118) (.bool false) rfl rfl ?_
          try simp only [Act.put, List.setIfInBounds_toArray, List.set_cons_zero, List.set_cons_succ]
          refine tke 64 (some 119) (.bool false) rfl rfl ?_
          try simp only [Act.put, List.setIfInBounds_toArray, List.set_cons_zero, List.set_cons_succ]
          refine wpAnyH_done (by kernel_rfl) ?_ _
          have ZY : Hid ((t.members.take k).any (clash tk) = false → mems t (k + 1) = groupOk t) := fun h => ZYY.out (by rw [HPV.out]; simp [okM, KN.out, HSO.out, hnm, hbt, hrd, hs5, hs6, aheadO]) h
          have R9 : Hid (Gw w w10 #[.int .i64 t.kind, .int .i64 t.timeout, .int .i64 t.now, .int .i64 t.round, .slice A4 t.topics.length c4, .slice (some ⟨g, o, none⟩) t.members.length c5] ∧ Rw w10 pr #[.string tk.name, .string tk.sttc, .slice B2 tk.wants.length bq2, .int .i64 tk.beat, .int .i64 tk.round, .slice B5 tk.owns.length bq5, .slice B6 tk.target.length bq6]) := ⟨R0.out.next B10.out, R1.out.next B10.out⟩
          clear hnm hbt hrd hs5 hs6 B8 B9 B10 NC SC5 SC6 R0 R1 ST hHeld
          go_wp2_with fail
          go_loopw [5] (fun i wx => ∃ (j : Nat), j ≤ k ∧ i = .int .i64 j ∧ Hid ((t.members.take j).any (clash tk) = false ∧ Gw w wx #[.int .i64 t.kind, .int .i64 t.timeout, .int .i64 t.now, .int .i64 t.round, .slice A4 t.topics.length c4, .slice (some ⟨g, o, none⟩) t.members.length c5] ∧ Rw wx pr #[.string tk.name, .string tk.sttc, .slice B2 tk.wants.length bq2, .int .i64 tk.beat, .int .i64 tk.round, .slice B5 tk.owns.length bq5, .slice B6 tk.target.length bq6])) (fun i _ => k - (intOf i).toNat)
          case atStart => exact ⟨0, Nat.zero_le _, rfl, rfl, R9.out⟩
          case round =>
            clear R9
            obtain ⟨j, hj, rfl, HJ⟩ := hrel
            by_cases hlj : j < k
            · exact absurd hlj (by omega)
            · have hj' : k = j := by omega
              subst hj'
              have KL := Seg.hid (ZY.out HJ.out.1)
              go_wp2
              go_roundw
              case rel => exact ⟨k + 1, by omega, by go_num, KL.out, HJ.out.2.1⟩
              case measure => simp [intOf]; omega
      · obtain ⟨e0, hpk⟩ := PV2.out (by omega)
        have w1 : IntKind.i64.wrap ((k : Int) - 1) = (k : Int) - 1 := by rw [IntKind.wrap_i64] <;> omega
        have k2 : (0 : Int) ≤ (k : Int) - 1 := by omega
        have k3 : (k : Int) - 1 < (t.members.length : Int) := by omega
        have k4 : (0 : Int) < (k : Int) := by omega
        have k5 : 0 < k := by omega
        have k6 : (1 : Int) ≤ (k : Int) := by omega
        have k7 : 1 ≤ k := by omega
        clear P0 PV2
        generalize t.members.getD (k - 1) default = pn at *
        have HPV := Seg.hid hpk
        clear hpk
        cases hge : Go.Op.bytesLess pn.name.toList tk.name.toList with
        | false =>
          have Z := Seg.hid (ZW.out (by rw [HPV.out]; simp [okM, aheadO, sl, hge]))
          as_aux_lemma =>
            have ST : Hid (∀ wx, Below wi.heap.size wi wx → wx.cell? ⟨pr, 0, none⟩ = some (.string tk.name) ∧ wx.cell? ⟨pr, 1, none⟩ = some (.string tk.sttc) ∧ wx.cell? ⟨pr, 2, none⟩ = some (.slice B2 tk.wants.length bq2) ∧ wx.cell? ⟨pr, 3, none⟩ = some (.int .i64 tk.beat) ∧ wx.cell? ⟨pr, 4, none⟩ = some (.int .i64 tk.round) ∧ wx.cell? ⟨pr, 5, none⟩ = some (.slice B5 tk.owns.length bq5) ∧ wx.cell? ⟨pr, 6, none⟩ = some (.slice B6 tk.target.length bq6) ∧ wx.cell? ⟨w.heap.size, 2, none⟩ = some (.int .i64 t.now) ∧ wx.cell? ⟨w.heap.size, 3, none⟩ = some (.int .i64 t.round) ∧ wx.cell? ⟨w.heap.size, 5, none⟩ = some (.slice (some ⟨g, o, none⟩) t.members.length c5) ∧ wx.cell? ⟨g, o + (k - 1) * 7, none⟩ = some (.string pn.name)) := fun wx bx => ⟨(bx.cell (p := ⟨pr, 0, none⟩) hpri).trans r0, (bx.cell (p := ⟨pr, 1, none⟩) hpri).trans r1, (bx.cell (p := ⟨pr, 2, none⟩) hpri).trans r2, (bx.cell (p := ⟨pr, 3, none⟩) hpri).trans r3, (bx.cell (p := ⟨pr, 4, none⟩) hpri).trans r4, (bx.cell (p := ⟨pr, 5, none⟩) hpri).trans r5, (bx.cell (p := ⟨pr, 6, none⟩) hpri).trans r6, (bx.cell (p := ⟨w.heap.size, 2, none⟩) hpgi).trans q2, (bx.cell (p := ⟨w.heap.size, 3, none⟩) hpgi).trans q3, (bx.cell (p := ⟨w.heap.size, 5, none⟩) hpgi).trans q5, (bx.cell (p := ⟨g, o + (k - 1) * 7, none⟩) hgi).trans e0⟩
            clear r0 r1 r2 r3 r4 r5 r6 q2 q3 q5 e0
            refine wp_region_held_drew (S := (fun w' => w'.cell? ⟨pr, 0, none⟩ = some (.string tk.name) ∧ w'.cell? ⟨pr, 1, none⟩ = some (.string tk.sttc) ∧ w'.cell? ⟨pr, 2, none⟩ = some (.slice B2 tk.wants.length bq2) ∧ w'.cell? ⟨pr, 3, none⟩ = some (.int .i64 tk.beat) ∧ w'.cell? ⟨pr, 4, none⟩ = some (.int .i64 tk.round) ∧ w'.cell? ⟨pr, 5, none⟩ = some (.slice B5 tk.owns.length bq5) ∧ w'.cell? ⟨pr, 6, none⟩ = some (.slice B6 tk.target.length bq6) ∧ w'.cell? ⟨w.heap.size, 2, none⟩ = some (.int .i64 t.now) ∧ w'.cell? ⟨w.heap.size, 3, none⟩ = some (.int .i64 t.round) ∧ w'.cell? ⟨w.heap.size, 5, none⟩ = some (.slice (some ⟨g, o, none⟩) t.members.length c5) ∧ w'.cell? ⟨g, o + (k - 1) * 7, none⟩ = some (.string pn.name))) (by kernel_rfl) (ST.out _ (Below.refl _ _).drew) (fun hHeld => ?_)
            refine tke 0 (some 55) (.pointer (some ⟨pr, 0, none⟩)) rfl rfl ?_
            try simp only [Act.put, List.setIfInBounds_toArray, List.set_cons_zero, List.set_cons_succ]
            refine tke 1 (some 56) (.string tk.name) rfl rfl ?_
            try simp only [Act.put, List.setIfInBounds_toArray, List.set_cons_zero, List.set_cons_succ]
            refine wpAnyH_ready (rs := [2]) (by kernel_rfl) (by simp) ?_
            refine AllReadyH.cons (o := { dst := some 57, op := Op.call { callee := Callee.value (Operand.func 34), args := #[Operand.tmp 56], argTypes := #[9] }, type := 4, pos := "l10_group.go:11", after := #[{ on := 1, ground := Ground.data }], guard := none }) rfl (fun K hK => ?_) AllReadyH.nil
            (go_simp; go_at_call 34; refine (Nm.spec_q tk.name _ KN.out _ NS).mono ?_; rintro e w7 ⟨rfl, rfl⟩; try (go_wp2_with fail))
            refine hK.out _ _ (ST.out _ (Below.refl _ _).drew) (fun hHeld => ?_)
            clear hK K
            try simp only [Act.put, List.setIfInBounds_toArray, List.set_cons_zero, List.set_cons_succ]
            refine tke 3 (some 58) (.bool false) rfl rfl ?_
            try simp only [Act.put, List.setIfInBounds_toArray, List.set_cons_zero, List.set_cons_succ]
            refine tke 4 (some 59) (.bool false) rfl rfl ?_
            try simp only [Act.put, List.setIfInBounds_toArray, List.set_cons_zero, List.set_cons_succ]
            refine tke 5 (some 60) (.int .i64 (k : Int)) rfl rfl ?_
            try simp only [Act.put, List.setIfInBounds_toArray, List.set_cons_zero, List.set_cons_succ]
            refine tke 6 (some 61) (.bool true) rfl rfl ?_
            try simp only [Act.put, List.setIfInBounds_toArray, List.set_cons_zero, List.set_cons_succ]
            refine tke 7 (some 62) (.bool true) rfl rfl ?_
            try simp only [Act.put, List.setIfInBounds_toArray, List.set_cons_zero, List.set_cons_succ]
            refine tke 8 (some 63) (.pointer (some ⟨w.heap.size, 5, none⟩)) rfl rfl ?_
            try simp only [Act.put, List.setIfInBounds_toArray, List.set_cons_zero, List.set_cons_succ]
            refine tke 9 (some 64) (.slice (some ⟨g, o, none⟩) t.members.length c5) rfl rfl ?_
            try simp only [Act.put, List.setIfInBounds_toArray, List.set_cons_zero, List.set_cons_succ]
            refine tke 10 (some 65) (.int .i64 (k : Int)) rfl rfl ?_
            try simp only [Act.put, List.setIfInBounds_toArray, List.set_cons_zero, List.set_cons_succ]
            refine tke 11 (some 66) (.int .i64 ((k : Int) - 1)) rfl rfl ?_
            try simp only [Act.put, List.setIfInBounds_toArray, List.set_cons_zero, List.set_cons_succ]
            refine tke 12 (some 67) (.pointer (some ⟨g, o + (k - 1) * 7, none⟩)) rfl rfl ?_
            try simp only [Act.put, List.setIfInBounds_toArray, List.set_cons_zero, List.set_cons_succ]
            refine tke 13 (some 68) (.pointer (some ⟨g, o + (k - 1) * 7, none⟩)) rfl rfl ?_
            try simp only [Act.put, List.setIfInBounds_toArray, List.set_cons_zero, List.set_cons_succ]
            refine tke 14 (some 69) (.string pn.name) rfl rfl ?_
            try simp only [Act.put, List.setIfInBounds_toArray, List.set_cons_zero, List.set_cons_succ]
            refine tke 15 (some 70) (.pointer (some ⟨pr, 0, none⟩)) rfl rfl ?_
            try simp only [Act.put, List.setIfInBounds_toArray, List.set_cons_zero, List.set_cons_succ]
            refine tke 16 (some 71) (.string tk.name) rfl rfl ?_
            try simp only [Act.put, List.setIfInBounds_toArray, List.set_cons_zero, List.set_cons_succ]
            refine tke 17 (some 72) (.bool true) rfl rfl ?_
            try simp only [Act.put, List.setIfInBounds_toArray, List.set_cons_zero, List.set_cons_succ]
            refine tke 18 (some 73) (.bool true) rfl rfl ?_
            try simp only [Act.put, List.setIfInBounds_toArray, List.set_cons_zero, List.set_cons_succ]
            refine tke 19 (some 74) (.bool true) rfl rfl ?_
            try simp only [Act.put, List.setIfInBounds_toArray, List.set_cons_zero, List.set_cons_succ]
            refine tke 20 (some 75) (.bool true) rfl rfl ?_
            try simp only [Act.put, List.setIfInBounds_toArray, List.set_cons_zero, List.set_cons_succ]
            refine skp 21 (some 76) rfl rfl ?_
            try simp only [Act.put, List.setIfInBounds_toArray, List.set_cons_zero, List.set_cons_succ]
            refine skp 22 (some 77) rfl rfl ?_
            try simp only [Act.put, List.setIfInBounds_toArray, List.set_cons_zero, List.set_cons_succ]
            refine skp 23 (some 78) rfl rfl ?_
            try simp only [Act.put, List.setIfInBounds_toArray, List.set_cons_zero, List.set_cons_succ]
            refine skp 24 (some 79) rfl rfl ?_
            try simp only [Act.put, List.setIfInBounds_toArray, List.set_cons_zero, List.set_cons_succ]
            refine skp 25 (some 80) rfl rfl ?_
            try simp only [Act.put, List.setIfInBounds_toArray, List.set_cons_zero, List.set_cons_succ]
            refine skp 26 (some 81) rfl rfl ?_
            try simp only [Act.put, List.setIfInBounds_toArray, List.set_cons_zero, List.set_cons_succ]
            refine skp 27 (some 82) rfl rfl ?_
            try simp only [Act.put, List.setIfInBounds_toArray, List.set_cons_zero, List.set_cons_succ]
            refine skp 28 (some 83) rfl rfl ?_
            try simp only [Act.put, List.setIfInBounds_toArray, List.set_cons_zero, List.set_cons_succ]
            refine skp 29 (some 84) rfl rfl ?_
            try simp only [Act.put, List.setIfInBounds_toArray, List.set_cons_zero, List.set_cons_succ]
            refine tke 30 (some 85) (.bool true) rfl rfl ?_
            try simp only [Act.put, List.setIfInBounds_toArray, List.set_cons_zero, List.set_cons_succ]
            refine tke 31 (some 86) (.bool true) rfl rfl ?_
            try simp only [Act.put, List.setIfInBounds_toArray, List.set_cons_zero, List.set_cons_succ]
            refine skp 32 (some 87) rfl rfl ?_
            try simp only [Act.put, List.setIfInBounds_toArray, List.set_cons_zero, List.set_cons_succ]
            refine skp 33 (some 88) rfl rfl ?_
            try simp only [Act.put, List.setIfInBounds_toArray, List.set_cons_zero, List.set_cons_succ]
            refine skp 34 (some 89) rfl rfl ?_
            try simp only [Act.put, List.setIfInBounds_toArray, List.set_cons_zero, List.set_cons_succ]
            refine skp 35 (some 90) rfl rfl ?_
            try simp only [Act.put, List.setIfInBounds_toArray, List.set_cons_zero, List.set_cons_succ]
            refine tke 36 (some 91) (.bool true) rfl rfl ?_
            try simp only [Act.put, List.setIfInBounds_toArray, List.set_cons_zero, List.set_cons_succ]
            refine tke 37 (some 92) (.bool true) rfl rfl ?_
            try simp only [Act.put, List.setIfInBounds_toArray, List.set_cons_zero, List.set_cons_succ]
            refine skp 38 (some 93) rfl rfl ?_
            try simp only [Act.put, List.setIfInBounds_toArray, List.set_cons_zero, List.set_cons_succ]
            refine skp 39 (some 94) rfl rfl ?_
            try simp only [Act.put, List.setIfInBounds_toArray, List.set_cons_zero, List.set_cons_succ]
            refine skp 40 (some 95) rfl rfl ?_
            try simp only [Act.put, List.setIfInBounds_toArray, List.set_cons_zero, List.set_cons_succ]
            refine skp 41 (some 96) rfl rfl ?_
            try simp only [Act.put, List.setIfInBounds_toArray, List.set_cons_zero, List.set_cons_succ]
            refine skp 42 (some 97) rfl rfl ?_
            try simp only [Act.put, List.setIfInBounds_toArray, List.set_cons_zero, List.set_cons_succ]
            refine skp 43 (some 98) rfl rfl ?_
            try simp only [Act.put, List.setIfInBounds_toArray, List.set_cons_zero, List.set_cons_succ]
            refine tke 44 (some 99) (.bool true) rfl rfl ?_
            try simp only [Act.put, List.setIfInBounds_toArray, List.set_cons_zero, List.set_cons_succ]
            refine tke 45 (some 100) (.bool true) rfl rfl ?_
            try simp only [Act.put, List.setIfInBounds_toArray, List.set_cons_zero, List.set_cons_succ]
            refine skp 46 (some 101) rfl rfl ?_
            try simp only [Act.put, List.setIfInBounds_toArray, List.set_cons_zero, List.set_cons_succ]
            refine skp 47 (some 102) rfl rfl ?_
            try simp only [Act.put, List.setIfInBounds_toArray, List.set_cons_zero, List.set_cons_succ]
            refine skp 48 (some 103) rfl rfl ?_
            try simp only [Act.put, List.setIfInBounds_toArray, List.set_cons_zero, List.set_cons_succ]
            refine skp 49 (some 104) rfl rfl ?_
            try simp only [Act.put, List.setIfInBounds_toArray, List.set_cons_zero, List.set_cons_succ]
            refine skp 50 (some 105) rfl rfl ?_
            try simp only [Act.put, List.setIfInBounds_toArray, List.set_cons_zero, List.set_cons_succ]
            refine skp 51 (some 106) rfl rfl ?_
            try simp only [Act.put, List.setIfInBounds_toArray, List.set_cons_zero, List.set_cons_succ]
            refine tke 52 (some 107) (.bool true) rfl rfl ?_
            try simp only [Act.put, List.setIfInBounds_toArray, List.set_cons_zero, List.set_cons_succ]
            refine tke 53 (some 108) (.bool true) rfl rfl ?_
            try simp only [Act.put, List.setIfInBounds_toArray, List.set_cons_zero, List.set_cons_succ]
            refine skp 54 (some 109) rfl rfl ?_
            try simp only [Act.put, List.setIfInBounds_toArray, List.set_cons_zero, List.set_cons_succ]
            refine skp 55 (some 110) rfl rfl ?_
            try simp only [Act.put, List.setIfInBounds_toArray, List.set_cons_zero, List.set_cons_succ]
            refine skp 56 (some 111) rfl rfl ?_
            try simp only [Act.put, List.setIfInBounds_toArray, List.set_cons_zero, List.set_cons_succ]
            refine skp 57 (some 112) rfl rfl ?_
            try simp only [Act.put, List.setIfInBounds_toArray, List.set_cons_zero, List.set_cons_succ]
            refine tke 58 (some 113) (.bool true) rfl rfl ?_
            try simp only [Act.put, List.setIfInBounds_toArray, List.set_cons_zero, List.set_cons_succ]
            refine tke 59 (some 114) (.bool true) rfl rfl ?_
            try simp only [Act.put, List.setIfInBounds_toArray, List.set_cons_zero, List.set_cons_succ]
            refine skp 60 (some 115) rfl rfl ?_
            try simp only [Act.put, List.setIfInBounds_toArray, List.set_cons_zero, List.set_cons_succ]
            refine skp 61 (some 116) rfl rfl ?_
            try simp only [Act.put, List.setIfInBounds_toArray, List.set_cons_zero, List.set_cons_succ]
            refine skp 62 (some 117) rfl rfl ?_
            try simp only [Act.put, List.setIfInBounds_toArray, List.set_cons_zero, List.set_cons_succ]
            refine skp 63 (some 118) rfl rfl ?_
            try simp only [Act.put, List.setIfInBounds_toArray, List.set_cons_zero, List.set_cons_succ]
            refine tke 64 (some 119) (.bool true) rfl rfl ?_
            try simp only [Act.put, List.setIfInBounds_toArray, List.set_cons_zero, List.set_cons_succ]
            refine wpAnyH_done (by kernel_rfl) ?_ _
            go_wp2
            go_ret
            exact NO.out _ Z.out R0.out.bel.drew
        | true =>
        cases hst : (tk.sttc.toList == []) with
        | true =>
          have HST := Seg.hid hst
          have HSO : Hid (stO tk.sttc = true) := by show _ = _; simp [stO, hst]
          have ST : Hid (∀ wx, Below wi.heap.size wi wx → wx.cell? ⟨pr, 0, none⟩ = some (.string tk.name) ∧ wx.cell? ⟨pr, 1, none⟩ = some (.string tk.sttc) ∧ wx.cell? ⟨pr, 2, none⟩ = some (.slice B2 tk.wants.length bq2) ∧ wx.cell? ⟨pr, 3, none⟩ = some (.int .i64 tk.beat) ∧ wx.cell? ⟨pr, 4, none⟩ = some (.int .i64 tk.round) ∧ wx.cell? ⟨pr, 5, none⟩ = some (.slice B5 tk.owns.length bq5) ∧ wx.cell? ⟨pr, 6, none⟩ = some (.slice B6 tk.target.length bq6) ∧ wx.cell? ⟨w.heap.size, 2, none⟩ = some (.int .i64 t.now) ∧ wx.cell? ⟨w.heap.size, 3, none⟩ = some (.int .i64 t.round) ∧ wx.cell? ⟨w.heap.size, 5, none⟩ = some (.slice (some ⟨g, o, none⟩) t.members.length c5) ∧ wx.cell? ⟨g, o + (k - 1) * 7, none⟩ = some (.string pn.name)) := fun wx bx => ⟨(bx.cell (p := ⟨pr, 0, none⟩) hpri).trans r0, (bx.cell (p := ⟨pr, 1, none⟩) hpri).trans r1, (bx.cell (p := ⟨pr, 2, none⟩) hpri).trans r2, (bx.cell (p := ⟨pr, 3, none⟩) hpri).trans r3, (bx.cell (p := ⟨pr, 4, none⟩) hpri).trans r4, (bx.cell (p := ⟨pr, 5, none⟩) hpri).trans r5, (bx.cell (p := ⟨pr, 6, none⟩) hpri).trans r6, (bx.cell (p := ⟨w.heap.size, 2, none⟩) hpgi).trans q2, (bx.cell (p := ⟨w.heap.size, 3, none⟩) hpgi).trans q3, (bx.cell (p := ⟨w.heap.size, 5, none⟩) hpgi).trans q5, (bx.cell (p := ⟨g, o + (k - 1) * 7, none⟩) hgi).trans e0⟩
          clear r0 r1 r2 r3 r4 r5 r6 q2 q3 q5 e0
          as_aux_lemma =>
            refine wp_region_held_drew (S := (fun w' => w'.cell? ⟨pr, 0, none⟩ = some (.string tk.name) ∧ w'.cell? ⟨pr, 1, none⟩ = some (.string tk.sttc) ∧ w'.cell? ⟨pr, 2, none⟩ = some (.slice B2 tk.wants.length bq2) ∧ w'.cell? ⟨pr, 3, none⟩ = some (.int .i64 tk.beat) ∧ w'.cell? ⟨pr, 4, none⟩ = some (.int .i64 tk.round) ∧ w'.cell? ⟨pr, 5, none⟩ = some (.slice B5 tk.owns.length bq5) ∧ w'.cell? ⟨pr, 6, none⟩ = some (.slice B6 tk.target.length bq6) ∧ w'.cell? ⟨w.heap.size, 2, none⟩ = some (.int .i64 t.now) ∧ w'.cell? ⟨w.heap.size, 3, none⟩ = some (.int .i64 t.round) ∧ w'.cell? ⟨w.heap.size, 5, none⟩ = some (.slice (some ⟨g, o, none⟩) t.members.length c5) ∧ w'.cell? ⟨g, o + (k - 1) * 7, none⟩ = some (.string pn.name))) (by kernel_rfl) (ST.out _ (Below.refl _ _).drew) (fun hHeld => ?_)
            refine tke 0 (some 55) (.pointer (some ⟨pr, 0, none⟩)) rfl rfl ?_
            try simp only [Act.put, List.setIfInBounds_toArray, List.set_cons_zero, List.set_cons_succ]
            refine tke 1 (some 56) (.string tk.name) rfl rfl ?_
            try simp only [Act.put, List.setIfInBounds_toArray, List.set_cons_zero, List.set_cons_succ]
            refine wpAnyH_ready (rs := [2]) (by kernel_rfl) (by simp) ?_
            refine AllReadyH.cons (o := { dst := some 57, op := Op.call { callee := Callee.value (Operand.func 34), args := #[Operand.tmp 56], argTypes := #[9] }, type := 4, pos := "l10_group.go:11", after := #[{ on := 1, ground := Ground.data }], guard := none }) rfl (fun K hK => ?_) AllReadyH.nil
            (go_simp; go_at_call 34; refine (Nm.spec_q tk.name _ KN.out _ NS).mono ?_; rintro e w7 ⟨rfl, rfl⟩; try (go_wp2_with fail))
            refine hK.out _ _ (ST.out _ (Below.refl _ _).drew) (fun hHeld => ?_)
            clear hK K
            try simp only [Act.put, List.setIfInBounds_toArray, List.set_cons_zero, List.set_cons_succ]
            refine tke 3 (some 58) (.bool false) rfl rfl ?_
            try simp only [Act.put, List.setIfInBounds_toArray, List.set_cons_zero, List.set_cons_succ]
            refine tke 4 (some 59) (.bool false) rfl rfl ?_
            try simp only [Act.put, List.setIfInBounds_toArray, List.set_cons_zero, List.set_cons_succ]
            refine tke 5 (some 60) (.int .i64 (k : Int)) rfl rfl ?_
            try simp only [Act.put, List.setIfInBounds_toArray, List.set_cons_zero, List.set_cons_succ]
            refine tke 6 (some 61) (.bool true) rfl rfl ?_
            try simp only [Act.put, List.setIfInBounds_toArray, List.set_cons_zero, List.set_cons_succ]
            refine tke 7 (some 62) (.bool true) rfl rfl ?_
            try simp only [Act.put, List.setIfInBounds_toArray, List.set_cons_zero, List.set_cons_succ]
            refine tke 8 (some 63) (.pointer (some ⟨w.heap.size, 5, none⟩)) rfl rfl ?_
            try simp only [Act.put, List.setIfInBounds_toArray, List.set_cons_zero, List.set_cons_succ]
            refine tke 9 (some 64) (.slice (some ⟨g, o, none⟩) t.members.length c5) rfl rfl ?_
            try simp only [Act.put, List.setIfInBounds_toArray, List.set_cons_zero, List.set_cons_succ]
            refine tke 10 (some 65) (.int .i64 (k : Int)) rfl rfl ?_
            try simp only [Act.put, List.setIfInBounds_toArray, List.set_cons_zero, List.set_cons_succ]
            refine tke 11 (some 66) (.int .i64 ((k : Int) - 1)) rfl rfl ?_
            try simp only [Act.put, List.setIfInBounds_toArray, List.set_cons_zero, List.set_cons_succ]
            refine tke 12 (some 67) (.pointer (some ⟨g, o + (k - 1) * 7, none⟩)) rfl rfl ?_
            try simp only [Act.put, List.setIfInBounds_toArray, List.set_cons_zero, List.set_cons_succ]
            refine tke 13 (some 68) (.pointer (some ⟨g, o + (k - 1) * 7, none⟩)) rfl rfl ?_
            try simp only [Act.put, List.setIfInBounds_toArray, List.set_cons_zero, List.set_cons_succ]
            refine tke 14 (some 69) (.string pn.name) rfl rfl ?_
            try simp only [Act.put, List.setIfInBounds_toArray, List.set_cons_zero, List.set_cons_succ]
            refine tke 15 (some 70) (.pointer (some ⟨pr, 0, none⟩)) rfl rfl ?_
            try simp only [Act.put, List.setIfInBounds_toArray, List.set_cons_zero, List.set_cons_succ]
            refine tke 16 (some 71) (.string tk.name) rfl rfl ?_
            try simp only [Act.put, List.setIfInBounds_toArray, List.set_cons_zero, List.set_cons_succ]
            refine tke 17 (some 72) (.bool false) rfl rfl ?_
            try simp only [Act.put, List.setIfInBounds_toArray, List.set_cons_zero, List.set_cons_succ]
            refine tke 18 (some 73) (.bool false) rfl rfl ?_
            try simp only [Act.put, List.setIfInBounds_toArray, List.set_cons_zero, List.set_cons_succ]
            refine tke 19 (some 74) (.bool false) rfl rfl ?_
            try simp only [Act.put, List.setIfInBounds_toArray, List.set_cons_zero, List.set_cons_succ]
            refine tke 20 (some 75) (.bool false) rfl rfl ?_
            try simp only [Act.put, List.setIfInBounds_toArray, List.set_cons_zero, List.set_cons_succ]
            refine tke 21 (some 76) (.pointer (some ⟨pr, 1, none⟩)) rfl rfl ?_
            try simp only [Act.put, List.setIfInBounds_toArray, List.set_cons_zero, List.set_cons_succ]
            refine tke 22 (some 77) (.string tk.sttc) rfl rfl ?_
            try simp only [Act.put, List.setIfInBounds_toArray, List.set_cons_zero, List.set_cons_succ]
            refine tke 23 (some 78) (.bool false) rfl rfl ?_
            try simp only [Act.put, List.setIfInBounds_toArray, List.set_cons_zero, List.set_cons_succ]
            refine tke 24 (some 79) (.bool false) rfl rfl ?_
            try simp only [Act.put, List.setIfInBounds_toArray, List.set_cons_zero, List.set_cons_succ]
            refine skp 25 (some 80) rfl rfl ?_
            try simp only [Act.put, List.setIfInBounds_toArray, List.set_cons_zero, List.set_cons_succ]
            refine skp 26 (some 81) rfl rfl ?_
            try simp only [Act.put, List.setIfInBounds_toArray, List.set_cons_zero, List.set_cons_succ]
            refine skp 27 (some 82) rfl rfl ?_
            try simp only [Act.put, List.setIfInBounds_toArray, List.set_cons_zero, List.set_cons_succ]
            refine skp 28 (some 83) rfl rfl ?_
            try simp only [Act.put, List.setIfInBounds_toArray, List.set_cons_zero, List.set_cons_succ]
            refine tke 29 (some 84) (.bool false) rfl rfl ?_
            try simp only [Act.put, List.setIfInBounds_toArray, List.set_cons_zero, List.set_cons_succ]
            refine tke 30 (some 85) (.bool false) rfl rfl ?_
            try simp only [Act.put, List.setIfInBounds_toArray, List.set_cons_zero, List.set_cons_succ]
            refine tke 31 (some 86) (.bool false) rfl rfl ?_
            try simp only [Act.put, List.setIfInBounds_toArray, List.set_cons_zero, List.set_cons_succ]
            refine tke 32 (some 87) (.pointer (some ⟨pr, 2, none⟩)) rfl rfl ?_
            try simp only [Act.put, List.setIfInBounds_toArray, List.set_cons_zero, List.set_cons_succ]
            refine tke 33 (some 88) (.slice B2 tk.wants.length bq2) rfl rfl ?_
            try simp only [Act.put, List.setIfInBounds_toArray, List.set_cons_zero, List.set_cons_succ]
            refine wpAnyH_ready (rs := [34]) (by kernel_rfl) (by simp) ?_
            refine AllReadyH.cons (o := { dst := some 89, op := Op.call { callee := Callee.value (Operand.func 35), args := #[Operand.tmp 88], argTypes := #[64] }, type := 4, pos := "l10_group.go:11", after := #[{ on := 33, ground := Ground.data }, { on := 31, ground := Ground.chain }, { on := 31, ground := Ground.guard }], guard := some (31, false) }) rfl (fun K hK => ?_) AllReadyH.nil
            (go_simp; go_at_call 35; refine (NC.out wi.drew (Below.refl _ _).drew).mono ?_; rintro e w8 ⟨rfl, b8⟩; have B8 : Hid (Below wi.heap.size wi w8) := ⟨b8.os, b8.tape, b8.output, b8.size, b8.block⟩; clear b8; try (go_wp2_with fail))
            refine hK.out _ _ (ST.out _ B8.out) (fun hHeld => ?_)
            clear hK K
            try simp only [Act.put, List.setIfInBounds_toArray, List.set_cons_zero, List.set_cons_succ]
            cases hnm : names tk.wants with
            | false =>
              have Z := Seg.hid (ZW.out (by simp [okM, hnm]))
              as_aux_lemma =>
                refine tke 35 (some 90) (.bool true) rfl rfl ?_
                try simp only [Act.put, List.setIfInBounds_toArray, List.set_cons_zero, List.set_cons_succ]
                refine tke 36 (some 91) (.bool true) rfl rfl ?_
                try simp only [Act.put, List.setIfInBounds_toArray, List.set_cons_zero, List.set_cons_succ]
                refine tke 37 (some 92) (.bool true) rfl rfl ?_
                try simp only [Act.put, List.setIfInBounds_toArray, List.set_cons_zero, List.set_cons_succ]
                refine skp 38 (some 93) rfl rfl ?_
                try simp only [Act.put, List.setIfInBounds_toArray, List.set_cons_zero, List.set_cons_succ]
                refine skp 39 (some 94) rfl rfl ?_
                try simp only [Act.put, List.setIfInBounds_toArray, List.set_cons_zero, List.set_cons_succ]
                refine skp 40 (some 95) rfl rfl ?_
                try simp only [Act.put, List.setIfInBounds_toArray, List.set_cons_zero, List.set_cons_succ]
                refine skp 41 (some 96) rfl rfl ?_
                try simp only [Act.put, List.setIfInBounds_toArray, List.set_cons_zero, List.set_cons_succ]
                refine skp 42 (some 97) rfl rfl ?_
                try simp only [Act.put, List.setIfInBounds_toArray, List.set_cons_zero, List.set_cons_succ]
                refine skp 43 (some 98) rfl rfl ?_
                try simp only [Act.put, List.setIfInBounds_toArray, List.set_cons_zero, List.set_cons_succ]
                refine tke 44 (some 99) (.bool true) rfl rfl ?_
                try simp only [Act.put, List.setIfInBounds_toArray, List.set_cons_zero, List.set_cons_succ]
                refine tke 45 (some 100) (.bool true) rfl rfl ?_
                try simp only [Act.put, List.setIfInBounds_toArray, List.set_cons_zero, List.set_cons_succ]
                refine skp 46 (some 101) rfl rfl ?_
                try simp only [Act.put, List.setIfInBounds_toArray, List.set_cons_zero, List.set_cons_succ]
                refine skp 47 (some 102) rfl rfl ?_
                try simp only [Act.put, List.setIfInBounds_toArray, List.set_cons_zero, List.set_cons_succ]
                refine skp 48 (some 103) rfl rfl ?_
                try simp only [Act.put, List.setIfInBounds_toArray, List.set_cons_zero, List.set_cons_succ]
                refine skp 49 (some 104) rfl rfl ?_
                try simp only [Act.put, List.setIfInBounds_toArray, List.set_cons_zero, List.set_cons_succ]
                refine skp 50 (some 105) rfl rfl ?_
                try simp only [Act.put, List.setIfInBounds_toArray, List.set_cons_zero, List.set_cons_succ]
                refine skp 51 (some 106) rfl rfl ?_
                try simp only [Act.put, List.setIfInBounds_toArray, List.set_cons_zero, List.set_cons_succ]
                refine tke 52 (some 107) (.bool true) rfl rfl ?_
                try simp only [Act.put, List.setIfInBounds_toArray, List.set_cons_zero, List.set_cons_succ]
                refine tke 53 (some 108) (.bool true) rfl rfl ?_
                try simp only [Act.put, List.setIfInBounds_toArray, List.set_cons_zero, List.set_cons_succ]
                refine skp 54 (some 109) rfl rfl ?_
                try simp only [Act.put, List.setIfInBounds_toArray, List.set_cons_zero, List.set_cons_succ]
                refine skp 55 (some 110) rfl rfl ?_
                try simp only [Act.put, List.setIfInBounds_toArray, List.set_cons_zero, List.set_cons_succ]
                refine skp 56 (some 111) rfl rfl ?_
                try simp only [Act.put, List.setIfInBounds_toArray, List.set_cons_zero, List.set_cons_succ]
                refine skp 57 (some 112) rfl rfl ?_
                try simp only [Act.put, List.setIfInBounds_toArray, List.set_cons_zero, List.set_cons_succ]
                refine tke 58 (some 113) (.bool true) rfl rfl ?_
                try simp only [Act.put, List.setIfInBounds_toArray, List.set_cons_zero, List.set_cons_succ]
                refine tke 59 (some 114) (.bool true) rfl rfl ?_
                try simp only [Act.put, List.setIfInBounds_toArray, List.set_cons_zero, List.set_cons_succ]
                refine skp 60 (some 115) rfl rfl ?_
                try simp only [Act.put, List.setIfInBounds_toArray, List.set_cons_zero, List.set_cons_succ]
                refine skp 61 (some 116) rfl rfl ?_
                try simp only [Act.put, List.setIfInBounds_toArray, List.set_cons_zero, List.set_cons_succ]
                refine skp 62 (some 117) rfl rfl ?_
                try simp only [Act.put, List.setIfInBounds_toArray, List.set_cons_zero, List.set_cons_succ]
                refine skp 63 (some 118) rfl rfl ?_
                try simp only [Act.put, List.setIfInBounds_toArray, List.set_cons_zero, List.set_cons_succ]
                refine tke 64 (some 119) (.bool true) rfl rfl ?_
                try simp only [Act.put, List.setIfInBounds_toArray, List.set_cons_zero, List.set_cons_succ]
                refine wpAnyH_done (by kernel_rfl) ?_ _
                go_wp2
                go_ret
                exact NO.out _ Z.out (R0.out.next B8.out).bel
            | true =>
            refine tke 35 (some 90) (.bool false) rfl rfl ?_
            try simp only [Act.put, List.setIfInBounds_toArray, List.set_cons_zero, List.set_cons_succ]
            refine tke 36 (some 91) (.bool false) rfl rfl ?_
            try simp only [Act.put, List.setIfInBounds_toArray, List.set_cons_zero, List.set_cons_succ]
            refine tke 37 (some 92) (.bool false) rfl rfl ?_
            try simp only [Act.put, List.setIfInBounds_toArray, List.set_cons_zero, List.set_cons_succ]
            refine tke 38 (some 93) (.pointer (some ⟨pr, 3, none⟩)) rfl rfl ?_
            try simp only [Act.put, List.setIfInBounds_toArray, List.set_cons_zero, List.set_cons_succ]
            refine tke 39 (some 94) (.int .i64 tk.beat) rfl rfl ?_
            try simp only [Act.put, List.setIfInBounds_toArray, List.set_cons_zero, List.set_cons_succ]
            refine tke 40 (some 95) (.pointer (some ⟨w.heap.size, 2, none⟩)) rfl rfl ?_
            try simp only [Act.put, List.setIfInBounds_toArray, List.set_cons_zero, List.set_cons_succ]
            refine tke 41 (some 96) (.int .i64 t.now) rfl rfl ?_
            try simp only [Act.put, List.setIfInBounds_toArray, List.set_cons_zero, List.set_cons_succ]
            refine wpAnyH_ready (rs := [42]) (by kernel_rfl) (by simp) ?_
            refine AllReadyH.cons (o := { dst := some 97, op := Op.call { callee := Callee.value (Operand.func 32), args := #[Operand.tmp 94, Operand.const (Value.int IntKind.i64 0), Operand.tmp 96], argTypes := #[3, 3, 3] }, type := 4, pos := "l10_group.go:11", after := #[{ on := 39, ground := Ground.data }, { on := 41, ground := Ground.data }, { on := 37, ground := Ground.chain }, { on := 37, ground := Ground.guard }], guard := some (37, false) }) rfl (fun K hK => ?_) AllReadyH.nil
            (go_simp; go_at_call 32; refine (InB.l1In_q tk.beat 0 t.now _ rfl _).mono ?_; rintro e w7 ⟨rfl, rfl⟩; try (go_wp2_with fail))
            refine hK.out _ _ (ST.out _ B8.out) (fun hHeld => ?_)
            clear hK K
            try simp only [Act.put, List.setIfInBounds_toArray, List.set_cons_zero, List.set_cons_succ]
            cases hbt : inR 0 tk.beat t.now with
            | false =>
              have Z := Seg.hid (ZW.out (by simp [okM, hbt]))
              as_aux_lemma =>
                refine tke 43 (some 98) (.bool true) rfl rfl ?_
                try simp only [Act.put, List.setIfInBounds_toArray, List.set_cons_zero, List.set_cons_succ]
                refine tke 44 (some 99) (.bool true) rfl rfl ?_
                try simp only [Act.put, List.setIfInBounds_toArray, List.set_cons_zero, List.set_cons_succ]
                refine tke 45 (some 100) (.bool true) rfl rfl ?_
                try simp only [Act.put, List.setIfInBounds_toArray, List.set_cons_zero, List.set_cons_succ]
                refine skp 46 (some 101) rfl rfl ?_
                try simp only [Act.put, List.setIfInBounds_toArray, List.set_cons_zero, List.set_cons_succ]
                refine skp 47 (some 102) rfl rfl ?_
                try simp only [Act.put, List.setIfInBounds_toArray, List.set_cons_zero, List.set_cons_succ]
                refine skp 48 (some 103) rfl rfl ?_
                try simp only [Act.put, List.setIfInBounds_toArray, List.set_cons_zero, List.set_cons_succ]
                refine skp 49 (some 104) rfl rfl ?_
                try simp only [Act.put, List.setIfInBounds_toArray, List.set_cons_zero, List.set_cons_succ]
                refine skp 50 (some 105) rfl rfl ?_
                try simp only [Act.put, List.setIfInBounds_toArray, List.set_cons_zero, List.set_cons_succ]
                refine skp 51 (some 106) rfl rfl ?_
                try simp only [Act.put, List.setIfInBounds_toArray, List.set_cons_zero, List.set_cons_succ]
                refine tke 52 (some 107) (.bool true) rfl rfl ?_
                try simp only [Act.put, List.setIfInBounds_toArray, List.set_cons_zero, List.set_cons_succ]
                refine tke 53 (some 108) (.bool true) rfl rfl ?_
                try simp only [Act.put, List.setIfInBounds_toArray, List.set_cons_zero, List.set_cons_succ]
                refine skp 54 (some 109) rfl rfl ?_
                try simp only [Act.put, List.setIfInBounds_toArray, List.set_cons_zero, List.set_cons_succ]
                refine skp 55 (some 110) rfl rfl ?_
                try simp only [Act.put, List.setIfInBounds_toArray, List.set_cons_zero, List.set_cons_succ]
                refine skp 56 (some 111) rfl rfl ?_
                try simp only [Act.put, List.setIfInBounds_toArray, List.set_cons_zero, List.set_cons_succ]
                refine skp 57 (some 112) rfl rfl ?_
                try simp only [Act.put, List.setIfInBounds_toArray, List.set_cons_zero, List.set_cons_succ]
                refine tke 58 (some 113) (.bool true) rfl rfl ?_
                try simp only [Act.put, List.setIfInBounds_toArray, List.set_cons_zero, List.set_cons_succ]
                refine tke 59 (some 114) (.bool true) rfl rfl ?_
                try simp only [Act.put, List.setIfInBounds_toArray, List.set_cons_zero, List.set_cons_succ]
                refine skp 60 (some 115) rfl rfl ?_
                try simp only [Act.put, List.setIfInBounds_toArray, List.set_cons_zero, List.set_cons_succ]
                refine skp 61 (some 116) rfl rfl ?_
                try simp only [Act.put, List.setIfInBounds_toArray, List.set_cons_zero, List.set_cons_succ]
                refine skp 62 (some 117) rfl rfl ?_
                try simp only [Act.put, List.setIfInBounds_toArray, List.set_cons_zero, List.set_cons_succ]
                refine skp 63 (some 118) rfl rfl ?_
                try simp only [Act.put, List.setIfInBounds_toArray, List.set_cons_zero, List.set_cons_succ]
                refine tke 64 (some 119) (.bool true) rfl rfl ?_
                try simp only [Act.put, List.setIfInBounds_toArray, List.set_cons_zero, List.set_cons_succ]
                refine wpAnyH_done (by kernel_rfl) ?_ _
                go_wp2
                go_ret
                exact NO.out _ Z.out (R0.out.next B8.out).bel
            | true =>
            refine tke 43 (some 98) (.bool false) rfl rfl ?_
            try simp only [Act.put, List.setIfInBounds_toArray, List.set_cons_zero, List.set_cons_succ]
            refine tke 44 (some 99) (.bool false) rfl rfl ?_
            try simp only [Act.put, List.setIfInBounds_toArray, List.set_cons_zero, List.set_cons_succ]
            refine tke 45 (some 100) (.bool false) rfl rfl ?_
            try simp only [Act.put, List.setIfInBounds_toArray, List.set_cons_zero, List.set_cons_succ]
            refine tke 46 (some 101) (.pointer (some ⟨pr, 4, none⟩)) rfl rfl ?_
            try simp only [Act.put, List.setIfInBounds_toArray, List.set_cons_zero, List.set_cons_succ]
            refine tke 47 (some 102) (.int .i64 tk.round) rfl rfl ?_
            try simp only [Act.put, List.setIfInBounds_toArray, List.set_cons_zero, List.set_cons_succ]
            refine tke 48 (some 103) (.pointer (some ⟨w.heap.size, 3, none⟩)) rfl rfl ?_
            try simp only [Act.put, List.setIfInBounds_toArray, List.set_cons_zero, List.set_cons_succ]
            refine tke 49 (some 104) (.int .i64 t.round) rfl rfl ?_
            try simp only [Act.put, List.setIfInBounds_toArray, List.set_cons_zero, List.set_cons_succ]
            refine wpAnyH_ready (rs := [50]) (by kernel_rfl) (by simp) ?_
            refine AllReadyH.cons (o := { dst := some 105, op := Op.call { callee := Callee.value (Operand.func 32), args := #[Operand.tmp 102, Operand.const (Value.int IntKind.i64 0), Operand.tmp 104], argTypes := #[3, 3, 3] }, type := 4, pos := "l10_group.go:11", after := #[{ on := 47, ground := Ground.data }, { on := 49, ground := Ground.data }, { on := 45, ground := Ground.chain }, { on := 45, ground := Ground.guard }], guard := some (45, false) }) rfl (fun K hK => ?_) AllReadyH.nil
            (go_simp; go_at_call 32; refine (InB.l1In_q tk.round 0 t.round _ rfl _).mono ?_; rintro e w7 ⟨rfl, rfl⟩; try (go_wp2_with fail))
            refine hK.out _ _ (ST.out _ B8.out) (fun hHeld => ?_)
            clear hK K
            try simp only [Act.put, List.setIfInBounds_toArray, List.set_cons_zero, List.set_cons_succ]
            cases hrd : inR 0 tk.round t.round with
            | false =>
              have Z := Seg.hid (ZW.out (by simp [okM, hrd]))
              as_aux_lemma =>
                refine tke 51 (some 106) (.bool true) rfl rfl ?_
                try simp only [Act.put, List.setIfInBounds_toArray, List.set_cons_zero, List.set_cons_succ]
                refine tke 52 (some 107) (.bool true) rfl rfl ?_
                try simp only [Act.put, List.setIfInBounds_toArray, List.set_cons_zero, List.set_cons_succ]
                refine tke 53 (some 108) (.bool true) rfl rfl ?_
                try simp only [Act.put, List.setIfInBounds_toArray, List.set_cons_zero, List.set_cons_succ]
                refine skp 54 (some 109) rfl rfl ?_
                try simp only [Act.put, List.setIfInBounds_toArray, List.set_cons_zero, List.set_cons_succ]
                refine skp 55 (some 110) rfl rfl ?_
                try simp only [Act.put, List.setIfInBounds_toArray, List.set_cons_zero, List.set_cons_succ]
                refine skp 56 (some 111) rfl rfl ?_
                try simp only [Act.put, List.setIfInBounds_toArray, List.set_cons_zero, List.set_cons_succ]
                refine skp 57 (some 112) rfl rfl ?_
                try simp only [Act.put, List.setIfInBounds_toArray, List.set_cons_zero, List.set_cons_succ]
                refine tke 58 (some 113) (.bool true) rfl rfl ?_
                try simp only [Act.put, List.setIfInBounds_toArray, List.set_cons_zero, List.set_cons_succ]
                refine tke 59 (some 114) (.bool true) rfl rfl ?_
                try simp only [Act.put, List.setIfInBounds_toArray, List.set_cons_zero, List.set_cons_succ]
                refine skp 60 (some 115) rfl rfl ?_
                try simp only [Act.put, List.setIfInBounds_toArray, List.set_cons_zero, List.set_cons_succ]
                refine skp 61 (some 116) rfl rfl ?_
                try simp only [Act.put, List.setIfInBounds_toArray, List.set_cons_zero, List.set_cons_succ]
                refine skp 62 (some 117) rfl rfl ?_
                try simp only [Act.put, List.setIfInBounds_toArray, List.set_cons_zero, List.set_cons_succ]
                refine skp 63 (some 118) rfl rfl ?_
                try simp only [Act.put, List.setIfInBounds_toArray, List.set_cons_zero, List.set_cons_succ]
                refine tke 64 (some 119) (.bool true) rfl rfl ?_
                try simp only [Act.put, List.setIfInBounds_toArray, List.set_cons_zero, List.set_cons_succ]
                refine wpAnyH_done (by kernel_rfl) ?_ _
                go_wp2
                go_ret
                exact NO.out _ Z.out (R0.out.next B8.out).bel
            | true =>
            refine tke 51 (some 106) (.bool false) rfl rfl ?_
            try simp only [Act.put, List.setIfInBounds_toArray, List.set_cons_zero, List.set_cons_succ]
            refine tke 52 (some 107) (.bool false) rfl rfl ?_
            try simp only [Act.put, List.setIfInBounds_toArray, List.set_cons_zero, List.set_cons_succ]
            refine tke 53 (some 108) (.bool false) rfl rfl ?_
            try simp only [Act.put, List.setIfInBounds_toArray, List.set_cons_zero, List.set_cons_succ]
            refine tke 54 (some 109) (.pointer (some ⟨pr, 5, none⟩)) rfl rfl ?_
            try simp only [Act.put, List.setIfInBounds_toArray, List.set_cons_zero, List.set_cons_succ]
            refine tke 55 (some 110) (.slice B5 tk.owns.length bq5) rfl rfl ?_
            try simp only [Act.put, List.setIfInBounds_toArray, List.set_cons_zero, List.set_cons_succ]
            refine wpAnyH_ready (rs := [56]) (by kernel_rfl) (by simp) ?_
            refine AllReadyH.cons (o := { dst := some 111, op := Op.call { callee := Callee.value (Operand.func 36), args := #[Operand.tmp 110], argTypes := #[65] }, type := 4, pos := "l10_group.go:11", after := #[{ on := 55, ground := Ground.data }, { on := 53, ground := Ground.chain }, { on := 53, ground := Ground.guard }], guard := some (53, false) }) rfl (fun K hK => ?_) AllReadyH.nil
            (go_simp; go_at_call 36; refine (SC5.out _ B8.out).mono ?_; rintro e w9 ⟨rfl, b9⟩; have B9 : Hid (Below wi.heap.size wi w9) := chain B8.out b9; clear b9; try (go_wp2_with fail))
            refine hK.out _ _ (ST.out _ B9.out) (fun hHeld => ?_)
            clear hK K
            try simp only [Act.put, List.setIfInBounds_toArray, List.set_cons_zero, List.set_cons_succ]
            cases hs5 : slots tk.owns with
            | false =>
              have Z := Seg.hid (ZW.out (by simp [okM, hs5]))
              as_aux_lemma =>
                refine tke 57 (some 112) (.bool true) rfl rfl ?_
                try simp only [Act.put, List.setIfInBounds_toArray, List.set_cons_zero, List.set_cons_succ]
                refine tke 58 (some 113) (.bool true) rfl rfl ?_
                try simp only [Act.put, List.setIfInBounds_toArray, List.set_cons_zero, List.set_cons_succ]
                refine tke 59 (some 114) (.bool true) rfl rfl ?_
                try simp only [Act.put, List.setIfInBounds_toArray, List.set_cons_zero, List.set_cons_succ]
                refine skp 60 (some 115) rfl rfl ?_
                try simp only [Act.put, List.setIfInBounds_toArray, List.set_cons_zero, List.set_cons_succ]
                refine skp 61 (some 116) rfl rfl ?_
                try simp only [Act.put, List.setIfInBounds_toArray, List.set_cons_zero, List.set_cons_succ]
                refine skp 62 (some 117) rfl rfl ?_
                try simp only [Act.put, List.setIfInBounds_toArray, List.set_cons_zero, List.set_cons_succ]
                refine skp 63 (some 118) rfl rfl ?_
                try simp only [Act.put, List.setIfInBounds_toArray, List.set_cons_zero, List.set_cons_succ]
                refine tke 64 (some 119) (.bool true) rfl rfl ?_
                try simp only [Act.put, List.setIfInBounds_toArray, List.set_cons_zero, List.set_cons_succ]
                refine wpAnyH_done (by kernel_rfl) ?_ _
                go_wp2
                go_ret
                exact NO.out _ Z.out (R0.out.next B9.out).bel
            | true =>
            refine tke 57 (some 112) (.bool false) rfl rfl ?_
            try simp only [Act.put, List.setIfInBounds_toArray, List.set_cons_zero, List.set_cons_succ]
            refine tke 58 (some 113) (.bool false) rfl rfl ?_
            try simp only [Act.put, List.setIfInBounds_toArray, List.set_cons_zero, List.set_cons_succ]
            refine tke 59 (some 114) (.bool false) rfl rfl ?_
            try simp only [Act.put, List.setIfInBounds_toArray, List.set_cons_zero, List.set_cons_succ]
            refine tke 60 (some 115) (.pointer (some ⟨pr, 6, none⟩)) rfl rfl ?_
            try simp only [Act.put, List.setIfInBounds_toArray, List.set_cons_zero, List.set_cons_succ]
            refine tke 61 (some 116) (.slice B6 tk.target.length bq6) rfl rfl ?_
            try simp only [Act.put, List.setIfInBounds_toArray, List.set_cons_zero, List.set_cons_succ]
            refine wpAnyH_ready (rs := [62]) (by kernel_rfl) (by simp) ?_
            refine AllReadyH.cons (o := { dst := some 117, op := Op.call { callee := Callee.value (Operand.func 36), args := #[Operand.tmp 116], argTypes := #[65] }, type := 4, pos := "l10_group.go:11", after := #[{ on := 61, ground := Ground.data }, { on := 59, ground := Ground.chain }, { on := 59, ground := Ground.guard }], guard := some (59, false) }) rfl (fun K hK => ?_) AllReadyH.nil
            (go_simp; go_at_call 36; refine (SC6.out _ B9.out).mono ?_; rintro e w10 ⟨rfl, b10⟩; have B10 : Hid (Below wi.heap.size wi w10) := chain B9.out b10; clear b10; try (go_wp2_with fail))
            refine hK.out _ _ (ST.out _ B10.out) (fun hHeld => ?_)
            clear hK K
            try simp only [Act.put, List.setIfInBounds_toArray, List.set_cons_zero, List.set_cons_succ]
            cases hs6 : slots tk.target with
            | false =>
              have Z := Seg.hid (ZW.out (by simp [okM, hs6]))
              as_aux_lemma =>
                refine tke 63 (some 118) (.bool true) rfl rfl ?_
                try simp only [Act.put, List.setIfInBounds_toArray, List.set_cons_zero, List.set_cons_succ]
                refine tke 64 (some 119) (.bool true) rfl rfl ?_
                try simp only [Act.put, List.setIfInBounds_toArray, List.set_cons_zero, List.set_cons_succ]
                refine wpAnyH_done (by kernel_rfl) ?_ _
                go_wp2
                go_ret
                exact NO.out _ Z.out (R0.out.next B10.out).bel
            | true =>
            refine tke 63 (some 118) (.bool false) rfl rfl ?_
            try simp only [Act.put, List.setIfInBounds_toArray, List.set_cons_zero, List.set_cons_succ]
            refine tke 64 (some 119) (.bool false) rfl rfl ?_
            try simp only [Act.put, List.setIfInBounds_toArray, List.set_cons_zero, List.set_cons_succ]
            refine wpAnyH_done (by kernel_rfl) ?_ _
            have ZY : Hid ((t.members.take k).any (clash tk) = false → mems t (k + 1) = groupOk t) := fun h => ZYY.out (by rw [HPV.out]; simp [okM, KN.out, HSO.out, hnm, hbt, hrd, hs5, hs6, aheadO, sl, hge]) h
            have R9 : Hid (Gw w w10 #[.int .i64 t.kind, .int .i64 t.timeout, .int .i64 t.now, .int .i64 t.round, .slice A4 t.topics.length c4, .slice (some ⟨g, o, none⟩) t.members.length c5] ∧ Rw w10 pr #[.string tk.name, .string tk.sttc, .slice B2 tk.wants.length bq2, .int .i64 tk.beat, .int .i64 tk.round, .slice B5 tk.owns.length bq5, .slice B6 tk.target.length bq6]) := ⟨R0.out.next B10.out, R1.out.next B10.out⟩
            clear hnm hbt hrd hs5 hs6 B8 B9 B10 NC SC5 SC6 R0 R1 ST hHeld
            go_wp2_with fail
            go_loopw [5] (fun i wx => ∃ (j : Nat), j ≤ k ∧ i = .int .i64 j ∧ Hid ((t.members.take j).any (clash tk) = false ∧ Gw w wx #[.int .i64 t.kind, .int .i64 t.timeout, .int .i64 t.now, .int .i64 t.round, .slice A4 t.topics.length c4, .slice (some ⟨g, o, none⟩) t.members.length c5] ∧ Rw wx pr #[.string tk.name, .string tk.sttc, .slice B2 tk.wants.length bq2, .int .i64 tk.beat, .int .i64 tk.round, .slice B5 tk.owns.length bq5, .slice B6 tk.target.length bq6])) (fun i _ => k - (intOf i).toNat)
            case atStart => exact ⟨0, Nat.zero_le _, rfl, rfl, R9.out⟩
            case round =>
              clear R9
              obtain ⟨j, hj, rfl, HJ⟩ := hrel
              by_cases hlj : j < k
              · have hjl : j < t.members.length := by omega
                have OJ := HA.out.later keepsMbr hS HJ.out.2.1.bel
                obtain ⟨E2, eq2, E5, eq5, E6, eq6, ⟨m0, m1, m2, m3, m4, m5, m6⟩, _, MO, MT⟩ := mbr_cells (i := j) (fun q hq => OJ.cells j hjl q hq) (OJ.el j hjl)
                have ZD : Hid (clash tk (t.members.getD j default) = true → groupOk t = false) := fun h => ZC.out (take_any hlj hk h)
                have ZN : Hid (clash tk (t.members.getD j default) = false → (t.members.take (j + 1)).any (clash tk) = false) := fun h => take_next hjl HJ.out.1 h
                have LZ := HL.out j hjl
                have LJ5 : (t.members.getD j default).owns.length ≤ 1048576 := szL_len szSlt (l := 1048576) (by unfold szMbr at LZ; omega)
                have LJ6 : (t.members.getD j default).target.length ≤ 1048576 := szL_len szSlt (l := 1048576) (by unfold szMbr at LZ; omega)
                obtain ⟨_, _, gm5, om5, Fm5, gq5, OX5', _⟩ := opn MO (fun g hg => Nat.lt_of_lt_of_le (hS g hg) HJ.out.2.1.bel.size)
                simp only [Value.slice.injEq, true_and] at gq5
                obtain ⟨rfl, rfl⟩ := gq5
                obtain ⟨_, _, gm6, om6, Fm6, gq6, OX6', _⟩ := opn MT (fun g hg => Nat.lt_of_lt_of_le (hS g hg) HJ.out.2.1.bel.size)
                simp only [Value.slice.injEq, true_and] at gq6
                obtain ⟨rfl, rfl⟩ := gq6
                have OX5 := Seg.hid OX5'
                have OX6 := Seg.hid OX6'
                clear OJ MO MT OX5' OX6' LZ
                generalize t.members.getD j default = mj at *
                have j0 : (0 : Int) ≤ (j : Int) := by omega
                have j1 : (j : Int) < (k : Int) := by omega
                have j2 : (j : Int) < (t.members.length : Int) := by omega
                have hgj : g < wr.heap.size := Nat.lt_of_lt_of_le hga HJ.out.2.1.bel.size
                have pg5 := cell_of_row wr w.heap.size 5 _ _ (0, 0) HJ.out.2.1.rr
                have hpgj : w.heap.size < wr.heap.size := (Array.getElem?_eq_some_iff.1 HJ.out.2.1.rr).1
                have hprj : pr < wr.heap.size := (Array.getElem?_eq_some_iff.1 HJ.out.2.2).1
                have ZST : Hid (sts mj tk = false) := by show _ = _; simp [sts, HST.out]
                obtain ⟨wq, hwq⟩ : ∃ wq, wq = wr.alloc (.cells #[.string mj.name, .string mj.sttc, .slice E2 mj.wants.length eq2, .int .i64 mj.beat, .int .i64 mj.round, .slice E5 mj.owns.length eq5, .slice E6 mj.target.length eq6] 67 (0, 0)) := ⟨_, rfl⟩
                have HY : Hid (Gw w wq #[.int .i64 t.kind, .int .i64 t.timeout, .int .i64 t.now, .int .i64 t.round, .slice A4 t.topics.length c4, .slice (some ⟨g, o, none⟩) t.members.length c5] ∧ Rw wq pr #[.string tk.name, .string tk.sttc, .slice B2 tk.wants.length bq2, .int .i64 tk.beat, .int .i64 tk.round, .slice B5 tk.owns.length bq5, .slice B6 tk.target.length bq6] ∧ Rw wq wr.heap.size #[.string mj.name, .string mj.sttc, .slice E2 mj.wants.length eq2, .int .i64 mj.beat, .int .i64 mj.round, .slice E5 mj.owns.length eq5, .slice E6 mj.target.length eq6]) := by rw [hwq]; exact ⟨HJ.out.2.1.next (below1 wr _), HJ.out.2.2.next (below1 wr _), heap_alloc_new _ _⟩
                have HWQ : Hid (Below w.heap.size w wq) := HY.out.1.bel
                have OM5 : Hid (Opn 2 ESlt wq S E5 eq5 mj.owns gm5 om5 Fm5) := by rw [hwq]; exact OX5.out.later keepsSlt (fun y hy => Nat.lt_of_lt_of_le (hS y hy) HJ.out.2.1.bel.size) (below1 wr _)
                have OM6 : Hid (Opn 2 ESlt wq S E6 eq6 mj.target gm6 om6 Fm6) := by rw [hwq]; exact OX6.out.later keepsSlt (fun y hy => Nat.lt_of_lt_of_le (hS y hy) HJ.out.2.1.bel.size) (below1 wr _)
                have pa := cell_of_row wq pr 5 _ _ (0, 0) HY.out.2.1
                have pb := cell_of_row wq pr 6 _ _ (0, 0) HY.out.2.1
                have hst := HST.out
                have pm1 := cell_of_row (wr.alloc (.cells #[.string mj.name, .string mj.sttc, .slice E2 mj.wants.length eq2, .int .i64 mj.beat, .int .i64 mj.round, .slice E5 mj.owns.length eq5, .slice E6 mj.target.length eq6] 67 (0, 0))) pr 1 _ _ (0, 0) (HJ.out.2.2.next (below1 wr _))
                go_upto_region 15 with fail
                rw [← hwq]
                clear hwq HJ m0 m1 m2 m3 m4 m5 m6 pg5
                generalize wr.heap.size = po at *
                go_wp2_with fail
                go_loopw [7] (fun i wx => ∃ (q : Nat), q ≤ tk.owns.length ∧ i = .int .i64 q ∧ Hid ((tk.owns.take q).any (isIn mj.owns) = false ∧ Gw w wx #[.int .i64 t.kind, .int .i64 t.timeout, .int .i64 t.now, .int .i64 t.round, .slice A4 t.topics.length c4, .slice (some ⟨g, o, none⟩) t.members.length c5] ∧ Rw wx pr #[.string tk.name, .string tk.sttc, .slice B2 tk.wants.length bq2, .int .i64 tk.beat, .int .i64 tk.round, .slice B5 tk.owns.length bq5, .slice B6 tk.target.length bq6] ∧ Rw wx po #[.string mj.name, .string mj.sttc, .slice E2 mj.wants.length eq2, .int .i64 mj.beat, .int .i64 mj.round, .slice E5 mj.owns.length eq5, .slice E6 mj.target.length eq6] ∧ Below wq.heap.size wq wx)) (fun i _ => tk.owns.length - (intOf i).toNat)
                case atStart => exact ⟨0, Nat.zero_le _, rfl, rfl, HY.out.1, HY.out.2.1, HY.out.2.2, Below.refl _ _⟩
                case round =>
                  obtain ⟨q, hq, rfl, HQ⟩ := hrel
                  have pf := cell_of_row wr pr 5 _ _ (0, 0) HQ.out.2.2.1
                  have hprq : pr < wr.heap.size := (Array.getElem?_eq_some_iff.1 HQ.out.2.2.1).1
                  have hpoq : po < wr.heap.size := (Array.getElem?_eq_some_iff.1 HQ.out.2.2.2.1).1
                  by_cases hlq : q < tk.owns.length
                  · obtain ⟨ea2, hc2, hgp⟩ := OH5.out.addr.resolve_left (by omega)
                    have OQ := OH5.out.later keepsSlt hS HQ.out.2.1.bel
                    obtain ⟨x0, x1⟩ := slt_cells (i := q) (fun z hz => OQ.cells q hlq z hz) (OQ.el q hlq)
                    have po5 := cell_of_row wr po 5 _ _ (0, 0) HQ.out.2.2.2.1
                    have q0 : (0 : Int) ≤ (q : Int) := by omega
                    have q1 : (q : Int) < (tk.owns.length : Int) := by omega
                    have hgp2 : gp5 < wr.heap.size := Nat.lt_of_lt_of_le hgp HQ.out.2.1.bel.size
                    have TQ : Hid (tk.owns.take (q + 1) = tk.owns.take q ++ [tk.owns.getD q default]) := by show _ = _; rw [List.take_add_one, List.getElem?_eq_getElem hlq]; simp [hlq]
                    have MT : Hid (isIn mj.owns (tk.owns.getD q default) = true → tk.owns.any (isIn mj.owns) = true) := fun h => by
                      simp only [List.any_eq_true]
                      refine ⟨tk.owns.getD q default, ?_, h⟩
                      have e : tk.owns.getD q default = tk.owns[q] := by simp [hlq]
                      rw [e]; exact List.getElem_mem _
                    clear OQ
                    generalize tk.owns.getD q default = sq at *
                    subst ea2
                    have IN : Hid (∀ wx, Below wr.heap.size wr wx → Calls Try.prog 37 #[.slice E5 mj.owns.length eq5, .agg #[.string sq.topic, .int .i64 sq.part]] wx fun e w' => e = .returned (.bool (isIn mj.owns sq)) ∧ Below wx.heap.size wx w') := fun wx bx => WsA.in_any E5 eq5 mj.owns sq gm5 om5 Fm5 wx S (fun y hy => Nat.lt_of_lt_of_le (Nat.lt_of_lt_of_le (hS y hy) HQ.out.2.1.bel.size) bx.size) (OM5.out.later keepsSlt (fun y hy => Nat.lt_of_lt_of_le (hS y hy) HWQ.out.size) (chain HQ.out.2.2.2.2 bx)) LJ5
                    have ST5 : Hid (∀ wx, Below wr.heap.size wr wx → wx.cell? ⟨po, 5, none⟩ = some (.slice E5 mj.owns.length eq5) ∧ wx.cell? ⟨pr, 5, none⟩ = some (.slice (some ⟨gp5, op5, none⟩) tk.owns.length bq5) ∧ wx.cell? ⟨gp5, op5 + q * 2, none⟩ = some (.string sq.topic) ∧ wx.cell? ⟨gp5, op5 + q * 2 + 1, none⟩ = some (.int .i64 sq.part)) := fun wx bx => ⟨(bx.cell (p := ⟨po, 5, none⟩) hpoq).trans po5, (bx.cell (p := ⟨pr, 5, none⟩) hprq).trans pf, (bx.cell (p := ⟨gp5, op5 + q * 2, none⟩) hgp2).trans x0, (bx.cell (p := ⟨gp5, op5 + q * 2 + 1, none⟩) hgp2).trans x1⟩
                    go_wp2_with fail
                    clear x0 x1 po5 pf
                    cases hge : isIn mj.owns sq with
                    | true =>
                      have Z := Seg.hid (ZD.out (by have := MT.out hge; simp [clash, this]))
                      have HG := Seg.hid hge
                      clear hge
                      obtain ⟨s0, s1, s2, s3⟩ := ST5.out wr (Below.refl _ _)
                      go_region_held3 (fun w' => w'.cell? ⟨po, 5, none⟩ = some (.slice E5 mj.owns.length eq5) ∧ w'.cell? ⟨pr, 5, none⟩ = some (.slice (some ⟨gp5, op5, none⟩) tk.owns.length bq5) ∧ w'.cell? ⟨gp5, op5 + q * 2, none⟩ = some (.string sq.topic) ∧ w'.cell? ⟨gp5, op5 + q * 2 + 1, none⟩ = some (.int .i64 sq.part)) (first | go_keep | exact ⟨s0, s1, s2, s3⟩ | exact ⟨t0, t1, t2, t3⟩)
                        (first | (go_at_call 37; refine (IN.out _ (Below.refl _ _).drew).mono ?_; rintro e w8 ⟨rfl, b8⟩; rw [HG.out]; have B8 : Hid (Below wr.heap.size wr w8) := ⟨b8.os, b8.tape, b8.output, b8.size, b8.block⟩; obtain ⟨t0, t1, t2, t3⟩ := ST5.out w8 B8.out; clear b8))
                      clear s0 s1 s2 s3 t0 t1 t2 t3
                      go_wp2
                      go_ret
                      exact NO.out _ Z.out (chain HQ.out.2.1.bel B8.out)
                    | false =>
                      have ZQ : Hid ((tk.owns.take (q + 1)).any (isIn mj.owns) = false) := by show _ = _; rw [TQ.out, List.any_append, HQ.out.1]; simp [hge]
                      have HG := Seg.hid hge
                      clear hge
                      obtain ⟨s0, s1, s2, s3⟩ := ST5.out wr (Below.refl _ _)
                      go_region_held3 (fun w' => w'.cell? ⟨po, 5, none⟩ = some (.slice E5 mj.owns.length eq5) ∧ w'.cell? ⟨pr, 5, none⟩ = some (.slice (some ⟨gp5, op5, none⟩) tk.owns.length bq5) ∧ w'.cell? ⟨gp5, op5 + q * 2, none⟩ = some (.string sq.topic) ∧ w'.cell? ⟨gp5, op5 + q * 2 + 1, none⟩ = some (.int .i64 sq.part)) (first | go_keep | exact ⟨s0, s1, s2, s3⟩ | exact ⟨t0, t1, t2, t3⟩)
                        (first | (go_at_call 37; refine (IN.out _ (Below.refl _ _).drew).mono ?_; rintro e w8 ⟨rfl, b8⟩; rw [HG.out]; have B8 : Hid (Below wr.heap.size wr w8) := ⟨b8.os, b8.tape, b8.output, b8.size, b8.block⟩; obtain ⟨t0, t1, t2, t3⟩ := ST5.out w8 B8.out; clear b8))
                      clear s0 s1 s2 s3 t0 t1 t2 t3
                      go_wp2
                      go_roundw
                      case rel => exact ⟨q + 1, by omega, by go_num, ZQ.out, HQ.out.2.1.next B8.out, HQ.out.2.2.1.next B8.out, HQ.out.2.2.2.1.next B8.out, chain HQ.out.2.2.2.2 B8.out⟩
                      case measure => simp [intOf]; omega
                  · have ZF5 : Hid (tk.owns.any (isIn mj.owns) = false) := by show _ = _; have := HQ.out.1; rw [List.take_of_length_le (by omega)] at this; exact this
                    go_wp2_with fail
                    go_loopw [8] (fun i wx => ∃ (q : Nat), q ≤ tk.target.length ∧ i = .int .i64 q ∧ Hid ((tk.target.take q).any (isIn mj.target) = false ∧ Gw w wx #[.int .i64 t.kind, .int .i64 t.timeout, .int .i64 t.now, .int .i64 t.round, .slice A4 t.topics.length c4, .slice (some ⟨g, o, none⟩) t.members.length c5] ∧ Rw wx pr #[.string tk.name, .string tk.sttc, .slice B2 tk.wants.length bq2, .int .i64 tk.beat, .int .i64 tk.round, .slice B5 tk.owns.length bq5, .slice B6 tk.target.length bq6] ∧ Rw wx po #[.string mj.name, .string mj.sttc, .slice E2 mj.wants.length eq2, .int .i64 mj.beat, .int .i64 mj.round, .slice E5 mj.owns.length eq5, .slice E6 mj.target.length eq6] ∧ Below wq.heap.size wq wx)) (fun i _ => tk.target.length - (intOf i).toNat)
                    case atStart => exact ⟨0, Nat.zero_le _, rfl, rfl, HQ.out.2.1, HQ.out.2.2.1, HQ.out.2.2.2.1, HQ.out.2.2.2.2⟩
                    case round =>
                      obtain ⟨q, hq, rfl, HQ⟩ := hrel
                      have pf := cell_of_row wr pr 6 _ _ (0, 0) HQ.out.2.2.1
                      have hprq : pr < wr.heap.size := (Array.getElem?_eq_some_iff.1 HQ.out.2.2.1).1
                      have hpoq : po < wr.heap.size := (Array.getElem?_eq_some_iff.1 HQ.out.2.2.2.1).1
                      by_cases hlq : q < tk.target.length
                      · obtain ⟨ea2, hc2, hgp⟩ := OH6.out.addr.resolve_left (by omega)
                        have OQ := OH6.out.later keepsSlt hS HQ.out.2.1.bel
                        obtain ⟨x0, x1⟩ := slt_cells (i := q) (fun z hz => OQ.cells q hlq z hz) (OQ.el q hlq)
                        have po5 := cell_of_row wr po 6 _ _ (0, 0) HQ.out.2.2.2.1
                        have q0 : (0 : Int) ≤ (q : Int) := by omega
                        have q1 : (q : Int) < (tk.target.length : Int) := by omega
                        have hgp2 : gp6 < wr.heap.size := Nat.lt_of_lt_of_le hgp HQ.out.2.1.bel.size
                        have TQ : Hid (tk.target.take (q + 1) = tk.target.take q ++ [tk.target.getD q default]) := by show _ = _; rw [List.take_add_one, List.getElem?_eq_getElem hlq]; simp [hlq]
                        have MT : Hid (isIn mj.target (tk.target.getD q default) = true → tk.target.any (isIn mj.target) = true) := fun h => by
                          simp only [List.any_eq_true]
                          refine ⟨tk.target.getD q default, ?_, h⟩
                          have e : tk.target.getD q default = tk.target[q] := by simp [hlq]
                          rw [e]; exact List.getElem_mem _
                        clear OQ
                        generalize tk.target.getD q default = sq at *
                        subst ea2
                        have IN : Hid (∀ wx, Below wr.heap.size wr wx → Calls Try.prog 37 #[.slice E6 mj.target.length eq6, .agg #[.string sq.topic, .int .i64 sq.part]] wx fun e w' => e = .returned (.bool (isIn mj.target sq)) ∧ Below wx.heap.size wx w') := fun wx bx => WsA.in_any E6 eq6 mj.target sq gm6 om6 Fm6 wx S (fun y hy => Nat.lt_of_lt_of_le (Nat.lt_of_lt_of_le (hS y hy) HQ.out.2.1.bel.size) bx.size) (OM6.out.later keepsSlt (fun y hy => Nat.lt_of_lt_of_le (hS y hy) HWQ.out.size) (chain HQ.out.2.2.2.2 bx)) LJ6
                        have ST5 : Hid (∀ wx, Below wr.heap.size wr wx → wx.cell? ⟨po, 6, none⟩ = some (.slice E6 mj.target.length eq6) ∧ wx.cell? ⟨pr, 6, none⟩ = some (.slice (some ⟨gp6, op6, none⟩) tk.target.length bq6) ∧ wx.cell? ⟨gp6, op6 + q * 2, none⟩ = some (.string sq.topic) ∧ wx.cell? ⟨gp6, op6 + q * 2 + 1, none⟩ = some (.int .i64 sq.part)) := fun wx bx => ⟨(bx.cell (p := ⟨po, 6, none⟩) hpoq).trans po5, (bx.cell (p := ⟨pr, 6, none⟩) hprq).trans pf, (bx.cell (p := ⟨gp6, op6 + q * 2, none⟩) hgp2).trans x0, (bx.cell (p := ⟨gp6, op6 + q * 2 + 1, none⟩) hgp2).trans x1⟩
                        go_wp2_with fail
                        clear x0 x1 po5 pf
                        cases hge : isIn mj.target sq with
                        | true =>
                          have Z := Seg.hid (ZD.out (by have := MT.out hge; simp [clash, this]))
                          have HG := Seg.hid hge
                          clear hge
                          obtain ⟨s0, s1, s2, s3⟩ := ST5.out wr (Below.refl _ _)
                          go_region_held3 (fun w' => w'.cell? ⟨po, 6, none⟩ = some (.slice E6 mj.target.length eq6) ∧ w'.cell? ⟨pr, 6, none⟩ = some (.slice (some ⟨gp6, op6, none⟩) tk.target.length bq6) ∧ w'.cell? ⟨gp6, op6 + q * 2, none⟩ = some (.string sq.topic) ∧ w'.cell? ⟨gp6, op6 + q * 2 + 1, none⟩ = some (.int .i64 sq.part)) (first | go_keep | exact ⟨s0, s1, s2, s3⟩ | exact ⟨t0, t1, t2, t3⟩)
                            (first | (go_at_call 37; refine (IN.out _ (Below.refl _ _).drew).mono ?_; rintro e w8 ⟨rfl, b8⟩; rw [HG.out]; have B8 : Hid (Below wr.heap.size wr w8) := ⟨b8.os, b8.tape, b8.output, b8.size, b8.block⟩; obtain ⟨t0, t1, t2, t3⟩ := ST5.out w8 B8.out; clear b8))
                          clear s0 s1 s2 s3 t0 t1 t2 t3
                          go_wp2
                          go_ret
                          exact NO.out _ Z.out (chain HQ.out.2.1.bel B8.out)
                        | false =>
                          have ZQ : Hid ((tk.target.take (q + 1)).any (isIn mj.target) = false) := by show _ = _; rw [TQ.out, List.any_append, HQ.out.1]; simp [hge]
                          have HG := Seg.hid hge
                          clear hge
                          obtain ⟨s0, s1, s2, s3⟩ := ST5.out wr (Below.refl _ _)
                          go_region_held3 (fun w' => w'.cell? ⟨po, 6, none⟩ = some (.slice E6 mj.target.length eq6) ∧ w'.cell? ⟨pr, 6, none⟩ = some (.slice (some ⟨gp6, op6, none⟩) tk.target.length bq6) ∧ w'.cell? ⟨gp6, op6 + q * 2, none⟩ = some (.string sq.topic) ∧ w'.cell? ⟨gp6, op6 + q * 2 + 1, none⟩ = some (.int .i64 sq.part)) (first | go_keep | exact ⟨s0, s1, s2, s3⟩ | exact ⟨t0, t1, t2, t3⟩)
                            (first | (go_at_call 37; refine (IN.out _ (Below.refl _ _).drew).mono ?_; rintro e w8 ⟨rfl, b8⟩; rw [HG.out]; have B8 : Hid (Below wr.heap.size wr w8) := ⟨b8.os, b8.tape, b8.output, b8.size, b8.block⟩; obtain ⟨t0, t1, t2, t3⟩ := ST5.out w8 B8.out; clear b8))
                          clear s0 s1 s2 s3 t0 t1 t2 t3
                          go_wp2
                          go_roundw
                          case rel => exact ⟨q + 1, by omega, by go_num, ZQ.out, HQ.out.2.1.next B8.out, HQ.out.2.2.1.next B8.out, HQ.out.2.2.2.1.next B8.out, chain HQ.out.2.2.2.2 B8.out⟩
                          case measure => simp [intOf]; omega
                      · have ZF6 : Hid (tk.target.any (isIn mj.target) = false) := by show _ = _; have := HQ.out.1; rw [List.take_of_length_le (by omega)] at this; exact this
                        have ZM := Seg.hid (ZN.out (by simp [clash, ZST.out, ZF5.out, ZF6.out]))
                        go_wp2
                        go_roundw
                        case rel => exact ⟨j + 1, by omega, by go_num, ZM.out, HQ.out.2.1, HQ.out.2.2.1⟩
                        case measure => simp [intOf]; omega
              · have hj' : k = j := by omega
                subst hj'
                have KL := Seg.hid (ZY.out HJ.out.1)
                go_wp2
                go_roundw
                case rel => exact ⟨k + 1, by omega, by go_num, KL.out, HJ.out.2.1⟩
                case measure => simp [intOf]; omega
        | false =>
        have HST := Seg.hid hst
        cases hsn : Nm.nameOk tk.sttc with
        | false =>
          have Z := Seg.hid (ZW.out (by simp [okM, stO, hst, hsn]))
          have KS2 := Seg.hid hsn
          clear hsn
          as_aux_lemma =>
            have ST : Hid (∀ wx, Below wi.heap.size wi wx → wx.cell? ⟨pr, 0, none⟩ = some (.string tk.name) ∧ wx.cell? ⟨pr, 1, none⟩ = some (.string tk.sttc) ∧ wx.cell? ⟨pr, 2, none⟩ = some (.slice B2 tk.wants.length bq2) ∧ wx.cell? ⟨pr, 3, none⟩ = some (.int .i64 tk.beat) ∧ wx.cell? ⟨pr, 4, none⟩ = some (.int .i64 tk.round) ∧ wx.cell? ⟨pr, 5, none⟩ = some (.slice B5 tk.owns.length bq5) ∧ wx.cell? ⟨pr, 6, none⟩ = some (.slice B6 tk.target.length bq6) ∧ wx.cell? ⟨w.heap.size, 2, none⟩ = some (.int .i64 t.now) ∧ wx.cell? ⟨w.heap.size, 3, none⟩ = some (.int .i64 t.round) ∧ wx.cell? ⟨w.heap.size, 5, none⟩ = some (.slice (some ⟨g, o, none⟩) t.members.length c5) ∧ wx.cell? ⟨g, o + (k - 1) * 7, none⟩ = some (.string pn.name)) := fun wx bx => ⟨(bx.cell (p := ⟨pr, 0, none⟩) hpri).trans r0, (bx.cell (p := ⟨pr, 1, none⟩) hpri).trans r1, (bx.cell (p := ⟨pr, 2, none⟩) hpri).trans r2, (bx.cell (p := ⟨pr, 3, none⟩) hpri).trans r3, (bx.cell (p := ⟨pr, 4, none⟩) hpri).trans r4, (bx.cell (p := ⟨pr, 5, none⟩) hpri).trans r5, (bx.cell (p := ⟨pr, 6, none⟩) hpri).trans r6, (bx.cell (p := ⟨w.heap.size, 2, none⟩) hpgi).trans q2, (bx.cell (p := ⟨w.heap.size, 3, none⟩) hpgi).trans q3, (bx.cell (p := ⟨w.heap.size, 5, none⟩) hpgi).trans q5, (bx.cell (p := ⟨g, o + (k - 1) * 7, none⟩) hgi).trans e0⟩
            clear r0 r1 r2 r3 r4 r5 r6 q2 q3 q5 e0
            refine wp_region_held_drew (S := (fun w' => w'.cell? ⟨pr, 0, none⟩ = some (.string tk.name) ∧ w'.cell? ⟨pr, 1, none⟩ = some (.string tk.sttc) ∧ w'.cell? ⟨pr, 2, none⟩ = some (.slice B2 tk.wants.length bq2) ∧ w'.cell? ⟨pr, 3, none⟩ = some (.int .i64 tk.beat) ∧ w'.cell? ⟨pr, 4, none⟩ = some (.int .i64 tk.round) ∧ w'.cell? ⟨pr, 5, none⟩ = some (.slice B5 tk.owns.length bq5) ∧ w'.cell? ⟨pr, 6, none⟩ = some (.slice B6 tk.target.length bq6) ∧ w'.cell? ⟨w.heap.size, 2, none⟩ = some (.int .i64 t.now) ∧ w'.cell? ⟨w.heap.size, 3, none⟩ = some (.int .i64 t.round) ∧ w'.cell? ⟨w.heap.size, 5, none⟩ = some (.slice (some ⟨g, o, none⟩) t.members.length c5) ∧ w'.cell? ⟨g, o + (k - 1) * 7, none⟩ = some (.string pn.name))) (by kernel_rfl) (ST.out _ (Below.refl _ _).drew) (fun hHeld => ?_)
            refine tke 0 (some 55) (.pointer (some ⟨pr, 0, none⟩)) rfl rfl ?_
            try simp only [Act.put, List.setIfInBounds_toArray, List.set_cons_zero, List.set_cons_succ]
            refine tke 1 (some 56) (.string tk.name) rfl rfl ?_
            try simp only [Act.put, List.setIfInBounds_toArray, List.set_cons_zero, List.set_cons_succ]
            refine wpAnyH_ready (rs := [2]) (by kernel_rfl) (by simp) ?_
            refine AllReadyH.cons (o := { dst := some 57, op := Op.call { callee := Callee.value (Operand.func 34), args := #[Operand.tmp 56], argTypes := #[9] }, type := 4, pos := "l10_group.go:11", after := #[{ on := 1, ground := Ground.data }], guard := none }) rfl (fun K hK => ?_) AllReadyH.nil
            (go_simp; go_at_call 34; refine (Nm.spec_q tk.name _ KN.out _ NS).mono ?_; rintro e w7 ⟨rfl, rfl⟩; try (go_wp2_with fail))
            refine hK.out _ _ (ST.out _ (Below.refl _ _).drew) (fun hHeld => ?_)
            clear hK K
            try simp only [Act.put, List.setIfInBounds_toArray, List.set_cons_zero, List.set_cons_succ]
            refine tke 3 (some 58) (.bool false) rfl rfl ?_
            try simp only [Act.put, List.setIfInBounds_toArray, List.set_cons_zero, List.set_cons_succ]
            refine tke 4 (some 59) (.bool false) rfl rfl ?_
            try simp only [Act.put, List.setIfInBounds_toArray, List.set_cons_zero, List.set_cons_succ]
            refine tke 5 (some 60) (.int .i64 (k : Int)) rfl rfl ?_
            try simp only [Act.put, List.setIfInBounds_toArray, List.set_cons_zero, List.set_cons_succ]
            refine tke 6 (some 61) (.bool true) rfl rfl ?_
            try simp only [Act.put, List.setIfInBounds_toArray, List.set_cons_zero, List.set_cons_succ]
            refine tke 7 (some 62) (.bool true) rfl rfl ?_
            try simp only [Act.put, List.setIfInBounds_toArray, List.set_cons_zero, List.set_cons_succ]
            refine tke 8 (some 63) (.pointer (some ⟨w.heap.size, 5, none⟩)) rfl rfl ?_
            try simp only [Act.put, List.setIfInBounds_toArray, List.set_cons_zero, List.set_cons_succ]
            refine tke 9 (some 64) (.slice (some ⟨g, o, none⟩) t.members.length c5) rfl rfl ?_
            try simp only [Act.put, List.setIfInBounds_toArray, List.set_cons_zero, List.set_cons_succ]
            refine tke 10 (some 65) (.int .i64 (k : Int)) rfl rfl ?_
            try simp only [Act.put, List.setIfInBounds_toArray, List.set_cons_zero, List.set_cons_succ]
            refine tke 11 (some 66) (.int .i64 ((k : Int) - 1)) rfl rfl ?_
            try simp only [Act.put, List.setIfInBounds_toArray, List.set_cons_zero, List.set_cons_succ]
            refine tke 12 (some 67) (.pointer (some ⟨g, o + (k - 1) * 7, none⟩)) rfl rfl ?_
            try simp only [Act.put, List.setIfInBounds_toArray, List.set_cons_zero, List.set_cons_succ]
            refine tke 13 (some 68) (.pointer (some ⟨g, o + (k - 1) * 7, none⟩)) rfl rfl ?_
            try simp only [Act.put, List.setIfInBounds_toArray, List.set_cons_zero, List.set_cons_succ]
            refine tke 14 (some 69) (.string pn.name) rfl rfl ?_
            try simp only [Act.put, List.setIfInBounds_toArray, List.set_cons_zero, List.set_cons_succ]
            refine tke 15 (some 70) (.pointer (some ⟨pr, 0, none⟩)) rfl rfl ?_
            try simp only [Act.put, List.setIfInBounds_toArray, List.set_cons_zero, List.set_cons_succ]
            refine tke 16 (some 71) (.string tk.name) rfl rfl ?_
            try simp only [Act.put, List.setIfInBounds_toArray, List.set_cons_zero, List.set_cons_succ]
            refine tke 17 (some 72) (.bool false) rfl rfl ?_
            try simp only [Act.put, List.setIfInBounds_toArray, List.set_cons_zero, List.set_cons_succ]
            refine tke 18 (some 73) (.bool false) rfl rfl ?_
            try simp only [Act.put, List.setIfInBounds_toArray, List.set_cons_zero, List.set_cons_succ]
            refine tke 19 (some 74) (.bool false) rfl rfl ?_
            try simp only [Act.put, List.setIfInBounds_toArray, List.set_cons_zero, List.set_cons_succ]
            refine tke 20 (some 75) (.bool false) rfl rfl ?_
            try simp only [Act.put, List.setIfInBounds_toArray, List.set_cons_zero, List.set_cons_succ]
            refine tke 21 (some 76) (.pointer (some ⟨pr, 1, none⟩)) rfl rfl ?_
            try simp only [Act.put, List.setIfInBounds_toArray, List.set_cons_zero, List.set_cons_succ]
            refine tke 22 (some 77) (.string tk.sttc) rfl rfl ?_
            try simp only [Act.put, List.setIfInBounds_toArray, List.set_cons_zero, List.set_cons_succ]
            refine tke 23 (some 78) (.bool true) rfl rfl ?_
            try simp only [Act.put, List.setIfInBounds_toArray, List.set_cons_zero, List.set_cons_succ]
            refine tke 24 (some 79) (.bool true) rfl rfl ?_
            try simp only [Act.put, List.setIfInBounds_toArray, List.set_cons_zero, List.set_cons_succ]
            refine tke 25 (some 80) (.pointer (some ⟨pr, 1, none⟩)) rfl rfl ?_
            try simp only [Act.put, List.setIfInBounds_toArray, List.set_cons_zero, List.set_cons_succ]
            refine tke 26 (some 81) (.string tk.sttc) rfl rfl ?_
            try simp only [Act.put, List.setIfInBounds_toArray, List.set_cons_zero, List.set_cons_succ]
            refine wpAnyH_ready (rs := [27]) (by kernel_rfl) (by simp) ?_
            refine AllReadyH.cons (o := { dst := some 82, op := Op.call { callee := Callee.value (Operand.func 34), args := #[Operand.tmp 81], argTypes := #[9] }, type := 4, pos := "l10_group.go:11", after := #[{ on := 26, ground := Ground.data }, { on := 24, ground := Ground.chain }, { on := 24, ground := Ground.guard }], guard := some (24, true) }) rfl (fun K hK => ?_) AllReadyH.nil
            (go_simp; go_at_call 34; refine (Nm.spec_q tk.sttc _ KS2.out _ NS2).mono ?_; rintro e w7 ⟨rfl, rfl⟩; try (go_wp2_with fail))
            refine hK.out _ _ (ST.out _ (Below.refl _ _).drew) (fun hHeld => ?_)
            clear hK K
            try simp only [Act.put, List.setIfInBounds_toArray, List.set_cons_zero, List.set_cons_succ]
            refine tke 28 (some 83) (.bool true) rfl rfl ?_
            try simp only [Act.put, List.setIfInBounds_toArray, List.set_cons_zero, List.set_cons_succ]
            refine tke 29 (some 84) (.bool true) rfl rfl ?_
            try simp only [Act.put, List.setIfInBounds_toArray, List.set_cons_zero, List.set_cons_succ]
            refine tke 30 (some 85) (.bool true) rfl rfl ?_
            try simp only [Act.put, List.setIfInBounds_toArray, List.set_cons_zero, List.set_cons_succ]
            refine tke 31 (some 86) (.bool true) rfl rfl ?_
            try simp only [Act.put, List.setIfInBounds_toArray, List.set_cons_zero, List.set_cons_succ]
            refine skp 32 (some 87) rfl rfl ?_
            try simp only [Act.put, List.setIfInBounds_toArray, List.set_cons_zero, List.set_cons_succ]
            refine skp 33 (some 88) rfl rfl ?_
            try simp only [Act.put, List.setIfInBounds_toArray, List.set_cons_zero, List.set_cons_succ]
            refine skp 34 (some 89) rfl rfl ?_
            try simp only [Act.put, List.setIfInBounds_toArray, List.set_cons_zero, List.set_cons_succ]
            refine skp 35 (some 90) rfl rfl ?_
            try simp only [Act.put, List.setIfInBounds_toArray, List.set_cons_zero, List.set_cons_succ]
            refine tke 36 (some 91) (.bool true) rfl rfl ?_
            try simp only [Act.put, List.setIfInBounds_toArray, List.set_cons_zero, List.set_cons_succ]
            refine tke 37 (some 92) (.bool true) rfl rfl ?_
            try simp only [Act.put, List.setIfInBounds_toArray, List.set_cons_zero, List.set_cons_succ]
            refine skp 38 (some 93) rfl rfl ?_
            try simp only [Act.put, List.setIfInBounds_toArray, List.set_cons_zero, List.set_cons_succ]
            refine skp 39 (some 94) rfl rfl ?_
            try simp only [Act.put, List.setIfInBounds_toArray, List.set_cons_zero, List.set_cons_succ]
            refine skp 40 (some 95) rfl rfl ?_
            try simp only [Act.put, List.setIfInBounds_toArray, List.set_cons_zero, List.set_cons_succ]
            refine skp 41 (some 96) rfl rfl ?_
            try simp only [Act.put, List.setIfInBounds_toArray, List.set_cons_zero, List.set_cons_succ]
            refine skp 42 (some 97) rfl rfl ?_
            try simp only [Act.put, List.setIfInBounds_toArray, List.set_cons_zero, List.set_cons_succ]
            refine skp 43 (some 98) rfl rfl ?_
            try simp only [Act.put, List.setIfInBounds_toArray, List.set_cons_zero, List.set_cons_succ]
            refine tke 44 (some 99) (.bool true) rfl rfl ?_
            try simp only [Act.put, List.setIfInBounds_toArray, List.set_cons_zero, List.set_cons_succ]
            refine tke 45 (some 100) (.bool true) rfl rfl ?_
            try simp only [Act.put, List.setIfInBounds_toArray, List.set_cons_zero, List.set_cons_succ]
            refine skp 46 (some 101) rfl rfl ?_
            try simp only [Act.put, List.setIfInBounds_toArray, List.set_cons_zero, List.set_cons_succ]
            refine skp 47 (some 102) rfl rfl ?_
            try simp only [Act.put, List.setIfInBounds_toArray, List.set_cons_zero, List.set_cons_succ]
            refine skp 48 (some 103) rfl rfl ?_
            try simp only [Act.put, List.setIfInBounds_toArray, List.set_cons_zero, List.set_cons_succ]
            refine skp 49 (some 104) rfl rfl ?_
            try simp only [Act.put, List.setIfInBounds_toArray, List.set_cons_zero, List.set_cons_succ]
            refine skp 50 (some 105) rfl rfl ?_
            try simp only [Act.put, List.setIfInBounds_toArray, List.set_cons_zero, List.set_cons_succ]
            refine skp 51 (some 106) rfl rfl ?_
            try simp only [Act.put, List.setIfInBounds_toArray, List.set_cons_zero, List.set_cons_succ]
            refine tke 52 (some 107) (.bool true) rfl rfl ?_
            try simp only [Act.put, List.setIfInBounds_toArray, List.set_cons_zero, List.set_cons_succ]
            refine tke 53 (some 108) (.bool true) rfl rfl ?_
            try simp only [Act.put, List.setIfInBounds_toArray, List.set_cons_zero, List.set_cons_succ]
            refine skp 54 (some 109) rfl rfl ?_
            try simp only [Act.put, List.setIfInBounds_toArray, List.set_cons_zero, List.set_cons_succ]
            refine skp 55 (some 110) rfl rfl ?_
            try simp only [Act.put, List.setIfInBounds_toArray, List.set_cons_zero, List.set_cons_succ]
            refine skp 56 (some 111) rfl rfl ?_
            try simp only [Act.put, List.setIfInBounds_toArray, List.set_cons_zero, List.set_cons_succ]
            refine skp 57 (some 112) rfl rfl ?_
            try simp only [Act.put, List.setIfInBounds_toArray, List.set_cons_zero, List.set_cons_succ]
            refine tke 58 (some 113) (.bool true) rfl rfl ?_
            try simp only [Act.put, List.setIfInBounds_toArray, List.set_cons_zero, List.set_cons_succ]
            refine tke 59 (some 114) (.bool true) rfl rfl ?_
            try simp only [Act.put, List.setIfInBounds_toArray, List.set_cons_zero, List.set_cons_succ]
            refine skp 60 (some 115) rfl rfl ?_
            try simp only [Act.put, List.setIfInBounds_toArray, List.set_cons_zero, List.set_cons_succ]
            refine skp 61 (some 116) rfl rfl ?_
            try simp only [Act.put, List.setIfInBounds_toArray, List.set_cons_zero, List.set_cons_succ]
            refine skp 62 (some 117) rfl rfl ?_
            try simp only [Act.put, List.setIfInBounds_toArray, List.set_cons_zero, List.set_cons_succ]
            refine skp 63 (some 118) rfl rfl ?_
            try simp only [Act.put, List.setIfInBounds_toArray, List.set_cons_zero, List.set_cons_succ]
            refine tke 64 (some 119) (.bool true) rfl rfl ?_
            try simp only [Act.put, List.setIfInBounds_toArray, List.set_cons_zero, List.set_cons_succ]
            refine wpAnyH_done (by kernel_rfl) ?_ _
            go_wp2
            go_ret
            exact NO.out _ Z.out R0.out.bel.drew
        | true =>
        have KS2 := Seg.hid hsn
        have HSO : Hid (stO tk.sttc = true) := by show _ = _; simp [stO, hsn]
        have ST : Hid (∀ wx, Below wi.heap.size wi wx → wx.cell? ⟨pr, 0, none⟩ = some (.string tk.name) ∧ wx.cell? ⟨pr, 1, none⟩ = some (.string tk.sttc) ∧ wx.cell? ⟨pr, 2, none⟩ = some (.slice B2 tk.wants.length bq2) ∧ wx.cell? ⟨pr, 3, none⟩ = some (.int .i64 tk.beat) ∧ wx.cell? ⟨pr, 4, none⟩ = some (.int .i64 tk.round) ∧ wx.cell? ⟨pr, 5, none⟩ = some (.slice B5 tk.owns.length bq5) ∧ wx.cell? ⟨pr, 6, none⟩ = some (.slice B6 tk.target.length bq6) ∧ wx.cell? ⟨w.heap.size, 2, none⟩ = some (.int .i64 t.now) ∧ wx.cell? ⟨w.heap.size, 3, none⟩ = some (.int .i64 t.round) ∧ wx.cell? ⟨w.heap.size, 5, none⟩ = some (.slice (some ⟨g, o, none⟩) t.members.length c5) ∧ wx.cell? ⟨g, o + (k - 1) * 7, none⟩ = some (.string pn.name)) := fun wx bx => ⟨(bx.cell (p := ⟨pr, 0, none⟩) hpri).trans r0, (bx.cell (p := ⟨pr, 1, none⟩) hpri).trans r1, (bx.cell (p := ⟨pr, 2, none⟩) hpri).trans r2, (bx.cell (p := ⟨pr, 3, none⟩) hpri).trans r3, (bx.cell (p := ⟨pr, 4, none⟩) hpri).trans r4, (bx.cell (p := ⟨pr, 5, none⟩) hpri).trans r5, (bx.cell (p := ⟨pr, 6, none⟩) hpri).trans r6, (bx.cell (p := ⟨w.heap.size, 2, none⟩) hpgi).trans q2, (bx.cell (p := ⟨w.heap.size, 3, none⟩) hpgi).trans q3, (bx.cell (p := ⟨w.heap.size, 5, none⟩) hpgi).trans q5, (bx.cell (p := ⟨g, o + (k - 1) * 7, none⟩) hgi).trans e0⟩
        clear r0 r1 r2 r3 r4 r5 r6 q2 q3 q5 e0
        clear hsn
        as_aux_lemma =>
          refine wp_region_held_drew (S := (fun w' => w'.cell? ⟨pr, 0, none⟩ = some (.string tk.name) ∧ w'.cell? ⟨pr, 1, none⟩ = some (.string tk.sttc) ∧ w'.cell? ⟨pr, 2, none⟩ = some (.slice B2 tk.wants.length bq2) ∧ w'.cell? ⟨pr, 3, none⟩ = some (.int .i64 tk.beat) ∧ w'.cell? ⟨pr, 4, none⟩ = some (.int .i64 tk.round) ∧ w'.cell? ⟨pr, 5, none⟩ = some (.slice B5 tk.owns.length bq5) ∧ w'.cell? ⟨pr, 6, none⟩ = some (.slice B6 tk.target.length bq6) ∧ w'.cell? ⟨w.heap.size, 2, none⟩ = some (.int .i64 t.now) ∧ w'.cell? ⟨w.heap.size, 3, none⟩ = some (.int .i64 t.round) ∧ w'.cell? ⟨w.heap.size, 5, none⟩ = some (.slice (some ⟨g, o, none⟩) t.members.length c5) ∧ w'.cell? ⟨g, o + (k - 1) * 7, none⟩ = some (.string pn.name))) (by kernel_rfl) (ST.out _ (Below.refl _ _).drew) (fun hHeld => ?_)
          refine tke 0 (some 55) (.pointer (some ⟨pr, 0, none⟩)) rfl rfl ?_
          try simp only [Act.put, List.setIfInBounds_toArray, List.set_cons_zero, List.set_cons_succ]
          refine tke 1 (some 56) (.string tk.name) rfl rfl ?_
          try simp only [Act.put, List.setIfInBounds_toArray, List.set_cons_zero, List.set_cons_succ]
          refine wpAnyH_ready (rs := [2]) (by kernel_rfl) (by simp) ?_
          refine AllReadyH.cons (o := { dst := some 57, op := Op.call { callee := Callee.value (Operand.func 34), args := #[Operand.tmp 56], argTypes := #[9] }, type := 4, pos := "l10_group.go:11", after := #[{ on := 1, ground := Ground.data }], guard := none }) rfl (fun K hK => ?_) AllReadyH.nil
          (go_simp; go_at_call 34; refine (Nm.spec_q tk.name _ KN.out _ NS).mono ?_; rintro e w7 ⟨rfl, rfl⟩; try (go_wp2_with fail))
          refine hK.out _ _ (ST.out _ (Below.refl _ _).drew) (fun hHeld => ?_)
          clear hK K
          try simp only [Act.put, List.setIfInBounds_toArray, List.set_cons_zero, List.set_cons_succ]
          refine tke 3 (some 58) (.bool false) rfl rfl ?_
          try simp only [Act.put, List.setIfInBounds_toArray, List.set_cons_zero, List.set_cons_succ]
          refine tke 4 (some 59) (.bool false) rfl rfl ?_
          try simp only [Act.put, List.setIfInBounds_toArray, List.set_cons_zero, List.set_cons_succ]
          refine tke 5 (some 60) (.int .i64 (k : Int)) rfl rfl ?_
          try simp only [Act.put, List.setIfInBounds_toArray, List.set_cons_zero, List.set_cons_succ]
          refine tke 6 (some 61) (.bool true) rfl rfl ?_
          try simp only [Act.put, List.setIfInBounds_toArray, List.set_cons_zero, List.set_cons_succ]
          refine tke 7 (some 62) (.bool true) rfl rfl ?_
          try simp only [Act.put, List.setIfInBounds_toArray, List.set_cons_zero, List.set_cons_succ]
          refine tke 8 (some 63) (.pointer (some ⟨w.heap.size, 5, none⟩)) rfl rfl ?_
          try simp only [Act.put, List.setIfInBounds_toArray, List.set_cons_zero, List.set_cons_succ]
          refine tke 9 (some 64) (.slice (some ⟨g, o, none⟩) t.members.length c5) rfl rfl ?_
          try simp only [Act.put, List.setIfInBounds_toArray, List.set_cons_zero, List.set_cons_succ]
          refine tke 10 (some 65) (.int .i64 (k : Int)) rfl rfl ?_
          try simp only [Act.put, List.setIfInBounds_toArray, List.set_cons_zero, List.set_cons_succ]
          refine tke 11 (some 66) (.int .i64 ((k : Int) - 1)) rfl rfl ?_
          try simp only [Act.put, List.setIfInBounds_toArray, List.set_cons_zero, List.set_cons_succ]
          refine tke 12 (some 67) (.pointer (some ⟨g, o + (k - 1) * 7, none⟩)) rfl rfl ?_
          try simp only [Act.put, List.setIfInBounds_toArray, List.set_cons_zero, List.set_cons_succ]
          refine tke 13 (some 68) (.pointer (some ⟨g, o + (k - 1) * 7, none⟩)) rfl rfl ?_
          try simp only [Act.put, List.setIfInBounds_toArray, List.set_cons_zero, List.set_cons_succ]
          refine tke 14 (some 69) (.string pn.name) rfl rfl ?_
          try simp only [Act.put, List.setIfInBounds_toArray, List.set_cons_zero, List.set_cons_succ]
          refine tke 15 (some 70) (.pointer (some ⟨pr, 0, none⟩)) rfl rfl ?_
          try simp only [Act.put, List.setIfInBounds_toArray, List.set_cons_zero, List.set_cons_succ]
          refine tke 16 (some 71) (.string tk.name) rfl rfl ?_
          try simp only [Act.put, List.setIfInBounds_toArray, List.set_cons_zero, List.set_cons_succ]
          refine tke 17 (some 72) (.bool false) rfl rfl ?_
          try simp only [Act.put, List.setIfInBounds_toArray, List.set_cons_zero, List.set_cons_succ]
          refine tke 18 (some 73) (.bool false) rfl rfl ?_
          try simp only [Act.put, List.setIfInBounds_toArray, List.set_cons_zero, List.set_cons_succ]
          refine tke 19 (some 74) (.bool false) rfl rfl ?_
          try simp only [Act.put, List.setIfInBounds_toArray, List.set_cons_zero, List.set_cons_succ]
          refine tke 20 (some 75) (.bool false) rfl rfl ?_
          try simp only [Act.put, List.setIfInBounds_toArray, List.set_cons_zero, List.set_cons_succ]
          refine tke 21 (some 76) (.pointer (some ⟨pr, 1, none⟩)) rfl rfl ?_
          try simp only [Act.put, List.setIfInBounds_toArray, List.set_cons_zero, List.set_cons_succ]
          refine tke 22 (some 77) (.string tk.sttc) rfl rfl ?_
          try simp only [Act.put, List.setIfInBounds_toArray, List.set_cons_zero, List.set_cons_succ]
          refine tke 23 (some 78) (.bool true) rfl rfl ?_
          try simp only [Act.put, List.setIfInBounds_toArray, List.set_cons_zero, List.set_cons_succ]
          refine tke 24 (some 79) (.bool true) rfl rfl ?_
          try simp only [Act.put, List.setIfInBounds_toArray, List.set_cons_zero, List.set_cons_succ]
          refine tke 25 (some 80) (.pointer (some ⟨pr, 1, none⟩)) rfl rfl ?_
          try simp only [Act.put, List.setIfInBounds_toArray, List.set_cons_zero, List.set_cons_succ]
          refine tke 26 (some 81) (.string tk.sttc) rfl rfl ?_
          try simp only [Act.put, List.setIfInBounds_toArray, List.set_cons_zero, List.set_cons_succ]
          refine wpAnyH_ready (rs := [27]) (by kernel_rfl) (by simp) ?_
          refine AllReadyH.cons (o := { dst := some 82, op := Op.call { callee := Callee.value (Operand.func 34), args := #[Operand.tmp 81], argTypes := #[9] }, type := 4, pos := "l10_group.go:11", after := #[{ on := 26, ground := Ground.data }, { on := 24, ground := Ground.chain }, { on := 24, ground := Ground.guard }], guard := some (24, true) }) rfl (fun K hK => ?_) AllReadyH.nil
          (go_simp; go_at_call 34; refine (Nm.spec_q tk.sttc _ KS2.out _ NS2).mono ?_; rintro e w7 ⟨rfl, rfl⟩; try (go_wp2_with fail))
          refine hK.out _ _ (ST.out _ (Below.refl _ _).drew) (fun hHeld => ?_)
          clear hK K
          try simp only [Act.put, List.setIfInBounds_toArray, List.set_cons_zero, List.set_cons_succ]
          refine tke 28 (some 83) (.bool false) rfl rfl ?_
          try simp only [Act.put, List.setIfInBounds_toArray, List.set_cons_zero, List.set_cons_succ]
          refine tke 29 (some 84) (.bool false) rfl rfl ?_
          try simp only [Act.put, List.setIfInBounds_toArray, List.set_cons_zero, List.set_cons_succ]
          refine tke 30 (some 85) (.bool false) rfl rfl ?_
          try simp only [Act.put, List.setIfInBounds_toArray, List.set_cons_zero, List.set_cons_succ]
          refine tke 31 (some 86) (.bool false) rfl rfl ?_
          try simp only [Act.put, List.setIfInBounds_toArray, List.set_cons_zero, List.set_cons_succ]
          refine tke 32 (some 87) (.pointer (some ⟨pr, 2, none⟩)) rfl rfl ?_
          try simp only [Act.put, List.setIfInBounds_toArray, List.set_cons_zero, List.set_cons_succ]
          refine tke 33 (some 88) (.slice B2 tk.wants.length bq2) rfl rfl ?_
          try simp only [Act.put, List.setIfInBounds_toArray, List.set_cons_zero, List.set_cons_succ]
          refine wpAnyH_ready (rs := [34]) (by kernel_rfl) (by simp) ?_
          refine AllReadyH.cons (o := { dst := some 89, op := Op.call { callee := Callee.value (Operand.func 35), args := #[Operand.tmp 88], argTypes := #[64] }, type := 4, pos := "l10_group.go:11", after := #[{ on := 33, ground := Ground.data }, { on := 31, ground := Ground.chain }, { on := 31, ground := Ground.guard }], guard := some (31, false) }) rfl (fun K hK => ?_) AllReadyH.nil
          (go_simp; go_at_call 35; refine (NC.out wi.drew (Below.refl _ _).drew).mono ?_; rintro e w8 ⟨rfl, b8⟩; have B8 : Hid (Below wi.heap.size wi w8) := ⟨b8.os, b8.tape, b8.output, b8.size, b8.block⟩; clear b8; try (go_wp2_with fail))
          refine hK.out _ _ (ST.out _ B8.out) (fun hHeld => ?_)
          clear hK K
          try simp only [Act.put, List.setIfInBounds_toArray, List.set_cons_zero, List.set_cons_succ]
          cases hnm : names tk.wants with
          | false =>
            have Z := Seg.hid (ZW.out (by simp [okM, hnm]))
            as_aux_lemma =>
              refine tke 35 (some 90) (.bool true) rfl rfl ?_
              try simp only [Act.put, List.setIfInBounds_toArray, List.set_cons_zero, List.set_cons_succ]
              refine tke 36 (some 91) (.bool true) rfl rfl ?_
              try simp only [Act.put, List.setIfInBounds_toArray, List.set_cons_zero, List.set_cons_succ]
              refine tke 37 (some 92) (.bool true) rfl rfl ?_
              try simp only [Act.put, List.setIfInBounds_toArray, List.set_cons_zero, List.set_cons_succ]
              refine skp 38 (some 93) rfl rfl ?_
              try simp only [Act.put, List.setIfInBounds_toArray, List.set_cons_zero, List.set_cons_succ]
              refine skp 39 (some 94) rfl rfl ?_
              try simp only [Act.put, List.setIfInBounds_toArray, List.set_cons_zero, List.set_cons_succ]
              refine skp 40 (some 95) rfl rfl ?_
              try simp only [Act.put, List.setIfInBounds_toArray, List.set_cons_zero, List.set_cons_succ]
              refine skp 41 (some 96) rfl rfl ?_
              try simp only [Act.put, List.setIfInBounds_toArray, List.set_cons_zero, List.set_cons_succ]
              refine skp 42 (some 97) rfl rfl ?_
              try simp only [Act.put, List.setIfInBounds_toArray, List.set_cons_zero, List.set_cons_succ]
              refine skp 43 (some 98) rfl rfl ?_
              try simp only [Act.put, List.setIfInBounds_toArray, List.set_cons_zero, List.set_cons_succ]
              refine tke 44 (some 99) (.bool true) rfl rfl ?_
              try simp only [Act.put, List.setIfInBounds_toArray, List.set_cons_zero, List.set_cons_succ]
              refine tke 45 (some 100) (.bool true) rfl rfl ?_
              try simp only [Act.put, List.setIfInBounds_toArray, List.set_cons_zero, List.set_cons_succ]
              refine skp 46 (some 101) rfl rfl ?_
              try simp only [Act.put, List.setIfInBounds_toArray, List.set_cons_zero, List.set_cons_succ]
              refine skp 47 (some 102) rfl rfl ?_
              try simp only [Act.put, List.setIfInBounds_toArray, List.set_cons_zero, List.set_cons_succ]
              refine skp 48 (some 103) rfl rfl ?_
              try simp only [Act.put, List.setIfInBounds_toArray, List.set_cons_zero, List.set_cons_succ]
              refine skp 49 (some 104) rfl rfl ?_
              try simp only [Act.put, List.setIfInBounds_toArray, List.set_cons_zero, List.set_cons_succ]
              refine skp 50 (some 105) rfl rfl ?_
              try simp only [Act.put, List.setIfInBounds_toArray, List.set_cons_zero, List.set_cons_succ]
              refine skp 51 (some 106) rfl rfl ?_
              try simp only [Act.put, List.setIfInBounds_toArray, List.set_cons_zero, List.set_cons_succ]
              refine tke 52 (some 107) (.bool true) rfl rfl ?_
              try simp only [Act.put, List.setIfInBounds_toArray, List.set_cons_zero, List.set_cons_succ]
              refine tke 53 (some 108) (.bool true) rfl rfl ?_
              try simp only [Act.put, List.setIfInBounds_toArray, List.set_cons_zero, List.set_cons_succ]
              refine skp 54 (some 109) rfl rfl ?_
              try simp only [Act.put, List.setIfInBounds_toArray, List.set_cons_zero, List.set_cons_succ]
              refine skp 55 (some 110) rfl rfl ?_
              try simp only [Act.put, List.setIfInBounds_toArray, List.set_cons_zero, List.set_cons_succ]
              refine skp 56 (some 111) rfl rfl ?_
              try simp only [Act.put, List.setIfInBounds_toArray, List.set_cons_zero, List.set_cons_succ]
              refine skp 57 (some 112) rfl rfl ?_
              try simp only [Act.put, List.setIfInBounds_toArray, List.set_cons_zero, List.set_cons_succ]
              refine tke 58 (some 113) (.bool true) rfl rfl ?_
              try simp only [Act.put, List.setIfInBounds_toArray, List.set_cons_zero, List.set_cons_succ]
              refine tke 59 (some 114) (.bool true) rfl rfl ?_
              try simp only [Act.put, List.setIfInBounds_toArray, List.set_cons_zero, List.set_cons_succ]
              refine skp 60 (some 115) rfl rfl ?_
              try simp only [Act.put, List.setIfInBounds_toArray, List.set_cons_zero, List.set_cons_succ]
              refine skp 61 (some 116) rfl rfl ?_
              try simp only [Act.put, List.setIfInBounds_toArray, List.set_cons_zero, List.set_cons_succ]
              refine skp 62 (some 117) rfl rfl ?_
              try simp only [Act.put, List.setIfInBounds_toArray, List.set_cons_zero, List.set_cons_succ]
              refine skp 63 (some 118) rfl rfl ?_
              try simp only [Act.put, List.setIfInBounds_toArray, List.set_cons_zero, List.set_cons_succ]
              refine tke 64 (some 119) (.bool true) rfl rfl ?_
              try simp only [Act.put, List.setIfInBounds_toArray, List.set_cons_zero, List.set_cons_succ]
              refine wpAnyH_done (by kernel_rfl) ?_ _
              go_wp2
              go_ret
              exact NO.out _ Z.out (R0.out.next B8.out).bel
          | true =>
          refine tke 35 (some 90) (.bool false) rfl rfl ?_
          try simp only [Act.put, List.setIfInBounds_toArray, List.set_cons_zero, List.set_cons_succ]
          refine tke 36 (some 91) (.bool false) rfl rfl ?_
          try simp only [Act.put, List.setIfInBounds_toArray, List.set_cons_zero, List.set_cons_succ]
          refine tke 37 (some 92) (.bool false) rfl rfl ?_
          try simp only [Act.put, List.setIfInBounds_toArray, List.set_cons_zero, List.set_cons_succ]
          refine tke 38 (some 93) (.pointer (some ⟨pr, 3, none⟩)) rfl rfl ?_
          try simp only [Act.put, List.setIfInBounds_toArray, List.set_cons_zero, List.set_cons_succ]
          refine tke 39 (some 94) (.int .i64 tk.beat) rfl rfl ?_
          try simp only [Act.put, List.setIfInBounds_toArray, List.set_cons_zero, List.set_cons_succ]
          refine tke 40 (some 95) (.pointer (some ⟨w.heap.size, 2, none⟩)) rfl rfl ?_
          try simp only [Act.put, List.setIfInBounds_toArray, List.set_cons_zero, List.set_cons_succ]
          refine tke 41 (some 96) (.int .i64 t.now) rfl rfl ?_
          try simp only [Act.put, List.setIfInBounds_toArray, List.set_cons_zero, List.set_cons_succ]
          refine wpAnyH_ready (rs := [42]) (by kernel_rfl) (by simp) ?_
          refine AllReadyH.cons (o := { dst := some 97, op := Op.call { callee := Callee.value (Operand.func 32), args := #[Operand.tmp 94, Operand.const (Value.int IntKind.i64 0), Operand.tmp 96], argTypes := #[3, 3, 3] }, type := 4, pos := "l10_group.go:11", after := #[{ on := 39, ground := Ground.data }, { on := 41, ground := Ground.data }, { on := 37, ground := Ground.chain }, { on := 37, ground := Ground.guard }], guard := some (37, false) }) rfl (fun K hK => ?_) AllReadyH.nil
          (go_simp; go_at_call 32; refine (InB.l1In_q tk.beat 0 t.now _ rfl _).mono ?_; rintro e w7 ⟨rfl, rfl⟩; try (go_wp2_with fail))
          refine hK.out _ _ (ST.out _ B8.out) (fun hHeld => ?_)
          clear hK K
          try simp only [Act.put, List.setIfInBounds_toArray, List.set_cons_zero, List.set_cons_succ]
          cases hbt : inR 0 tk.beat t.now with
          | false =>
            have Z := Seg.hid (ZW.out (by simp [okM, hbt]))
            as_aux_lemma =>
              refine tke 43 (some 98) (.bool true) rfl rfl ?_
              try simp only [Act.put, List.setIfInBounds_toArray, List.set_cons_zero, List.set_cons_succ]
              refine tke 44 (some 99) (.bool true) rfl rfl ?_
              try simp only [Act.put, List.setIfInBounds_toArray, List.set_cons_zero, List.set_cons_succ]
              refine tke 45 (some 100) (.bool true) rfl rfl ?_
              try simp only [Act.put, List.setIfInBounds_toArray, List.set_cons_zero, List.set_cons_succ]
              refine skp 46 (some 101) rfl rfl ?_
              try simp only [Act.put, List.setIfInBounds_toArray, List.set_cons_zero, List.set_cons_succ]
              refine skp 47 (some 102) rfl rfl ?_
              try simp only [Act.put, List.setIfInBounds_toArray, List.set_cons_zero, List.set_cons_succ]
              refine skp 48 (some 103) rfl rfl ?_
              try simp only [Act.put, List.setIfInBounds_toArray, List.set_cons_zero, List.set_cons_succ]
              refine skp 49 (some 104) rfl rfl ?_
              try simp only [Act.put, List.setIfInBounds_toArray, List.set_cons_zero, List.set_cons_succ]
              refine skp 50 (some 105) rfl rfl ?_
              try simp only [Act.put, List.setIfInBounds_toArray, List.set_cons_zero, List.set_cons_succ]
              refine skp 51 (some 106) rfl rfl ?_
              try simp only [Act.put, List.setIfInBounds_toArray, List.set_cons_zero, List.set_cons_succ]
              refine tke 52 (some 107) (.bool true) rfl rfl ?_
              try simp only [Act.put, List.setIfInBounds_toArray, List.set_cons_zero, List.set_cons_succ]
              refine tke 53 (some 108) (.bool true) rfl rfl ?_
              try simp only [Act.put, List.setIfInBounds_toArray, List.set_cons_zero, List.set_cons_succ]
              refine skp 54 (some 109) rfl rfl ?_
              try simp only [Act.put, List.setIfInBounds_toArray, List.set_cons_zero, List.set_cons_succ]
              refine skp 55 (some 110) rfl rfl ?_
              try simp only [Act.put, List.setIfInBounds_toArray, List.set_cons_zero, List.set_cons_succ]
              refine skp 56 (some 111) rfl rfl ?_
              try simp only [Act.put, List.setIfInBounds_toArray, List.set_cons_zero, List.set_cons_succ]
              refine skp 57 (some 112) rfl rfl ?_
              try simp only [Act.put, List.setIfInBounds_toArray, List.set_cons_zero, List.set_cons_succ]
              refine tke 58 (some 113) (.bool true) rfl rfl ?_
              try simp only [Act.put, List.setIfInBounds_toArray, List.set_cons_zero, List.set_cons_succ]
              refine tke 59 (some 114) (.bool true) rfl rfl ?_
              try simp only [Act.put, List.setIfInBounds_toArray, List.set_cons_zero, List.set_cons_succ]
              refine skp 60 (some 115) rfl rfl ?_
              try simp only [Act.put, List.setIfInBounds_toArray, List.set_cons_zero, List.set_cons_succ]
              refine skp 61 (some 116) rfl rfl ?_
              try simp only [Act.put, List.setIfInBounds_toArray, List.set_cons_zero, List.set_cons_succ]
              refine skp 62 (some 117) rfl rfl ?_
              try simp only [Act.put, List.setIfInBounds_toArray, List.set_cons_zero, List.set_cons_succ]
              refine skp 63 (some 118) rfl rfl ?_
              try simp only [Act.put, List.setIfInBounds_toArray, List.set_cons_zero, List.set_cons_succ]
              refine tke 64 (some 119) (.bool true) rfl rfl ?_
              try simp only [Act.put, List.setIfInBounds_toArray, List.set_cons_zero, List.set_cons_succ]
              refine wpAnyH_done (by kernel_rfl) ?_ _
              go_wp2
              go_ret
              exact NO.out _ Z.out (R0.out.next B8.out).bel
          | true =>
          refine tke 43 (some 98) (.bool false) rfl rfl ?_
          try simp only [Act.put, List.setIfInBounds_toArray, List.set_cons_zero, List.set_cons_succ]
          refine tke 44 (some 99) (.bool false) rfl rfl ?_
          try simp only [Act.put, List.setIfInBounds_toArray, List.set_cons_zero, List.set_cons_succ]
          refine tke 45 (some 100) (.bool false) rfl rfl ?_
          try simp only [Act.put, List.setIfInBounds_toArray, List.set_cons_zero, List.set_cons_succ]
          refine tke 46 (some 101) (.pointer (some ⟨pr, 4, none⟩)) rfl rfl ?_
          try simp only [Act.put, List.setIfInBounds_toArray, List.set_cons_zero, List.set_cons_succ]
          refine tke 47 (some 102) (.int .i64 tk.round) rfl rfl ?_
          try simp only [Act.put, List.setIfInBounds_toArray, List.set_cons_zero, List.set_cons_succ]
          refine tke 48 (some 103) (.pointer (some ⟨w.heap.size, 3, none⟩)) rfl rfl ?_
          try simp only [Act.put, List.setIfInBounds_toArray, List.set_cons_zero, List.set_cons_succ]
          refine tke 49 (some 104) (.int .i64 t.round) rfl rfl ?_
          try simp only [Act.put, List.setIfInBounds_toArray, List.set_cons_zero, List.set_cons_succ]
          refine wpAnyH_ready (rs := [50]) (by kernel_rfl) (by simp) ?_
          refine AllReadyH.cons (o := { dst := some 105, op := Op.call { callee := Callee.value (Operand.func 32), args := #[Operand.tmp 102, Operand.const (Value.int IntKind.i64 0), Operand.tmp 104], argTypes := #[3, 3, 3] }, type := 4, pos := "l10_group.go:11", after := #[{ on := 47, ground := Ground.data }, { on := 49, ground := Ground.data }, { on := 45, ground := Ground.chain }, { on := 45, ground := Ground.guard }], guard := some (45, false) }) rfl (fun K hK => ?_) AllReadyH.nil
          (go_simp; go_at_call 32; refine (InB.l1In_q tk.round 0 t.round _ rfl _).mono ?_; rintro e w7 ⟨rfl, rfl⟩; try (go_wp2_with fail))
          refine hK.out _ _ (ST.out _ B8.out) (fun hHeld => ?_)
          clear hK K
          try simp only [Act.put, List.setIfInBounds_toArray, List.set_cons_zero, List.set_cons_succ]
          cases hrd : inR 0 tk.round t.round with
          | false =>
            have Z := Seg.hid (ZW.out (by simp [okM, hrd]))
            as_aux_lemma =>
              refine tke 51 (some 106) (.bool true) rfl rfl ?_
              try simp only [Act.put, List.setIfInBounds_toArray, List.set_cons_zero, List.set_cons_succ]
              refine tke 52 (some 107) (.bool true) rfl rfl ?_
              try simp only [Act.put, List.setIfInBounds_toArray, List.set_cons_zero, List.set_cons_succ]
              refine tke 53 (some 108) (.bool true) rfl rfl ?_
              try simp only [Act.put, List.setIfInBounds_toArray, List.set_cons_zero, List.set_cons_succ]
              refine skp 54 (some 109) rfl rfl ?_
              try simp only [Act.put, List.setIfInBounds_toArray, List.set_cons_zero, List.set_cons_succ]
              refine skp 55 (some 110) rfl rfl ?_
              try simp only [Act.put, List.setIfInBounds_toArray, List.set_cons_zero, List.set_cons_succ]
              refine skp 56 (some 111) rfl rfl ?_
              try simp only [Act.put, List.setIfInBounds_toArray, List.set_cons_zero, List.set_cons_succ]
              refine skp 57 (some 112) rfl rfl ?_
              try simp only [Act.put, List.setIfInBounds_toArray, List.set_cons_zero, List.set_cons_succ]
              refine tke 58 (some 113) (.bool true) rfl rfl ?_
              try simp only [Act.put, List.setIfInBounds_toArray, List.set_cons_zero, List.set_cons_succ]
              refine tke 59 (some 114) (.bool true) rfl rfl ?_
              try simp only [Act.put, List.setIfInBounds_toArray, List.set_cons_zero, List.set_cons_succ]
              refine skp 60 (some 115) rfl rfl ?_
              try simp only [Act.put, List.setIfInBounds_toArray, List.set_cons_zero, List.set_cons_succ]
              refine skp 61 (some 116) rfl rfl ?_
              try simp only [Act.put, List.setIfInBounds_toArray, List.set_cons_zero, List.set_cons_succ]
              refine skp 62 (some 117) rfl rfl ?_
              try simp only [Act.put, List.setIfInBounds_toArray, List.set_cons_zero, List.set_cons_succ]
              refine skp 63 (some 118) rfl rfl ?_
              try simp only [Act.put, List.setIfInBounds_toArray, List.set_cons_zero, List.set_cons_succ]
              refine tke 64 (some 119) (.bool true) rfl rfl ?_
              try simp only [Act.put, List.setIfInBounds_toArray, List.set_cons_zero, List.set_cons_succ]
              refine wpAnyH_done (by kernel_rfl) ?_ _
              go_wp2
              go_ret
              exact NO.out _ Z.out (R0.out.next B8.out).bel
          | true =>
          refine tke 51 (some 106) (.bool false) rfl rfl ?_
          try simp only [Act.put, List.setIfInBounds_toArray, List.set_cons_zero, List.set_cons_succ]
          refine tke 52 (some 107) (.bool false) rfl rfl ?_
          try simp only [Act.put, List.setIfInBounds_toArray, List.set_cons_zero, List.set_cons_succ]
          refine tke 53 (some 108) (.bool false) rfl rfl ?_
          try simp only [Act.put, List.setIfInBounds_toArray, List.set_cons_zero, List.set_cons_succ]
          refine tke 54 (some 109) (.pointer (some ⟨pr, 5, none⟩)) rfl rfl ?_
          try simp only [Act.put, List.setIfInBounds_toArray, List.set_cons_zero, List.set_cons_succ]
          refine tke 55 (some 110) (.slice B5 tk.owns.length bq5) rfl rfl ?_
          try simp only [Act.put, List.setIfInBounds_toArray, List.set_cons_zero, List.set_cons_succ]
          refine wpAnyH_ready (rs := [56]) (by kernel_rfl) (by simp) ?_
          refine AllReadyH.cons (o := { dst := some 111, op := Op.call { callee := Callee.value (Operand.func 36), args := #[Operand.tmp 110], argTypes := #[65] }, type := 4, pos := "l10_group.go:11", after := #[{ on := 55, ground := Ground.data }, { on := 53, ground := Ground.chain }, { on := 53, ground := Ground.guard }], guard := some (53, false) }) rfl (fun K hK => ?_) AllReadyH.nil
          (go_simp; go_at_call 36; refine (SC5.out _ B8.out).mono ?_; rintro e w9 ⟨rfl, b9⟩; have B9 : Hid (Below wi.heap.size wi w9) := chain B8.out b9; clear b9; try (go_wp2_with fail))
          refine hK.out _ _ (ST.out _ B9.out) (fun hHeld => ?_)
          clear hK K
          try simp only [Act.put, List.setIfInBounds_toArray, List.set_cons_zero, List.set_cons_succ]
          cases hs5 : slots tk.owns with
          | false =>
            have Z := Seg.hid (ZW.out (by simp [okM, hs5]))
            as_aux_lemma =>
              refine tke 57 (some 112) (.bool true) rfl rfl ?_
              try simp only [Act.put, List.setIfInBounds_toArray, List.set_cons_zero, List.set_cons_succ]
              refine tke 58 (some 113) (.bool true) rfl rfl ?_
              try simp only [Act.put, List.setIfInBounds_toArray, List.set_cons_zero, List.set_cons_succ]
              refine tke 59 (some 114) (.bool true) rfl rfl ?_
              try simp only [Act.put, List.setIfInBounds_toArray, List.set_cons_zero, List.set_cons_succ]
              refine skp 60 (some 115) rfl rfl ?_
              try simp only [Act.put, List.setIfInBounds_toArray, List.set_cons_zero, List.set_cons_succ]
              refine skp 61 (some 116) rfl rfl ?_
              try simp only [Act.put, List.setIfInBounds_toArray, List.set_cons_zero, List.set_cons_succ]
              refine skp 62 (some 117) rfl rfl ?_
              try simp only [Act.put, List.setIfInBounds_toArray, List.set_cons_zero, List.set_cons_succ]
              refine skp 63 (some 118) rfl rfl ?_
              try simp only [Act.put, List.setIfInBounds_toArray, List.set_cons_zero, List.set_cons_succ]
              refine tke 64 (some 119) (.bool true) rfl rfl ?_
              try simp only [Act.put, List.setIfInBounds_toArray, List.set_cons_zero, List.set_cons_succ]
              refine wpAnyH_done (by kernel_rfl) ?_ _
              go_wp2
              go_ret
              exact NO.out _ Z.out (R0.out.next B9.out).bel
          | true =>
          refine tke 57 (some 112) (.bool false) rfl rfl ?_
          try simp only [Act.put, List.setIfInBounds_toArray, List.set_cons_zero, List.set_cons_succ]
          refine tke 58 (some 113) (.bool false) rfl rfl ?_
          try simp only [Act.put, List.setIfInBounds_toArray, List.set_cons_zero, List.set_cons_succ]
          refine tke 59 (some 114) (.bool false) rfl rfl ?_
          try simp only [Act.put, List.setIfInBounds_toArray, List.set_cons_zero, List.set_cons_succ]
          refine tke 60 (some 115) (.pointer (some ⟨pr, 6, none⟩)) rfl rfl ?_
          try simp only [Act.put, List.setIfInBounds_toArray, List.set_cons_zero, List.set_cons_succ]
          refine tke 61 (some 116) (.slice B6 tk.target.length bq6) rfl rfl ?_
          try simp only [Act.put, List.setIfInBounds_toArray, List.set_cons_zero, List.set_cons_succ]
          refine wpAnyH_ready (rs := [62]) (by kernel_rfl) (by simp) ?_
          refine AllReadyH.cons (o := { dst := some 117, op := Op.call { callee := Callee.value (Operand.func 36), args := #[Operand.tmp 116], argTypes := #[65] }, type := 4, pos := "l10_group.go:11", after := #[{ on := 61, ground := Ground.data }, { on := 59, ground := Ground.chain }, { on := 59, ground := Ground.guard }], guard := some (59, false) }) rfl (fun K hK => ?_) AllReadyH.nil
          (go_simp; go_at_call 36; refine (SC6.out _ B9.out).mono ?_; rintro e w10 ⟨rfl, b10⟩; have B10 : Hid (Below wi.heap.size wi w10) := chain B9.out b10; clear b10; try (go_wp2_with fail))
          refine hK.out _ _ (ST.out _ B10.out) (fun hHeld => ?_)
          clear hK K
          try simp only [Act.put, List.setIfInBounds_toArray, List.set_cons_zero, List.set_cons_succ]
          cases hs6 : slots tk.target with
          | false =>
            have Z := Seg.hid (ZW.out (by simp [okM, hs6]))
            as_aux_lemma =>
              refine tke 63 (some 118) (.bool true) rfl rfl ?_
              try simp only [Act.put, List.setIfInBounds_toArray, List.set_cons_zero, List.set_cons_succ]
              refine tke 64 (some 119) (.bool true) rfl rfl ?_
              try simp only [Act.put, List.setIfInBounds_toArray, List.set_cons_zero, List.set_cons_succ]
              refine wpAnyH_done (by kernel_rfl) ?_ _
              go_wp2
              go_ret
              exact NO.out _ Z.out (R0.out.next B10.out).bel
          | true =>
          refine tke 63 (some 118) (.bool false) rfl rfl ?_
          try simp only [Act.put, List.setIfInBounds_toArray, List.set_cons_zero, List.set_cons_succ]
          refine tke 64 (some 119) (.bool false) rfl rfl ?_
          try simp only [Act.put, List.setIfInBounds_toArray, List.set_cons_zero, List.set_cons_succ]
          refine wpAnyH_done (by kernel_rfl) ?_ _
          have ZY : Hid ((t.members.take k).any (clash tk) = false → mems t (k + 1) = groupOk t) := fun h => ZYY.out (by rw [HPV.out]; simp [okM, KN.out, HSO.out, hnm, hbt, hrd, hs5, hs6, aheadO, sl, hge]) h
          have R9 : Hid (Gw w w10 #[.int .i64 t.kind, .int .i64 t.timeout, .int .i64 t.now, .int .i64 t.round, .slice A4 t.topics.length c4, .slice (some ⟨g, o, none⟩) t.members.length c5] ∧ Rw w10 pr #[.string tk.name, .string tk.sttc, .slice B2 tk.wants.length bq2, .int .i64 tk.beat, .int .i64 tk.round, .slice B5 tk.owns.length bq5, .slice B6 tk.target.length bq6]) := ⟨R0.out.next B10.out, R1.out.next B10.out⟩
          clear hnm hbt hrd hs5 hs6 B8 B9 B10 NC SC5 SC6 R0 R1 ST hHeld
          go_wp2_with fail
          go_loopw [5] (fun i wx => ∃ (j : Nat), j ≤ k ∧ i = .int .i64 j ∧ Hid ((t.members.take j).any (clash tk) = false ∧ Gw w wx #[.int .i64 t.kind, .int .i64 t.timeout, .int .i64 t.now, .int .i64 t.round, .slice A4 t.topics.length c4, .slice (some ⟨g, o, none⟩) t.members.length c5] ∧ Rw wx pr #[.string tk.name, .string tk.sttc, .slice B2 tk.wants.length bq2, .int .i64 tk.beat, .int .i64 tk.round, .slice B5 tk.owns.length bq5, .slice B6 tk.target.length bq6])) (fun i _ => k - (intOf i).toNat)
          case atStart => exact ⟨0, Nat.zero_le _, rfl, rfl, R9.out⟩
          case round =>
            clear R9
            obtain ⟨j, hj, rfl, HJ⟩ := hrel
            by_cases hlj : j < k
            · have hjl : j < t.members.length := by omega
              have OJ := HA.out.later keepsMbr hS HJ.out.2.1.bel
              obtain ⟨E2, eq2, E5, eq5, E6, eq6, ⟨m0, m1, m2, m3, m4, m5, m6⟩, _, MO, MT⟩ := mbr_cells (i := j) (fun q hq => OJ.cells j hjl q hq) (OJ.el j hjl)
              have ZD : Hid (clash tk (t.members.getD j default) = true → groupOk t = false) := fun h => ZC.out (take_any hlj hk h)
              have ZN : Hid (clash tk (t.members.getD j default) = false → (t.members.take (j + 1)).any (clash tk) = false) := fun h => take_next hjl HJ.out.1 h
              have LZ := HL.out j hjl
              have LJ5 : (t.members.getD j default).owns.length ≤ 1048576 := szL_len szSlt (l := 1048576) (by unfold szMbr at LZ; omega)
              have LJ6 : (t.members.getD j default).target.length ≤ 1048576 := szL_len szSlt (l := 1048576) (by unfold szMbr at LZ; omega)
              obtain ⟨_, _, gm5, om5, Fm5, gq5, OX5', _⟩ := opn MO (fun g hg => Nat.lt_of_lt_of_le (hS g hg) HJ.out.2.1.bel.size)
              simp only [Value.slice.injEq, true_and] at gq5
              obtain ⟨rfl, rfl⟩ := gq5
              obtain ⟨_, _, gm6, om6, Fm6, gq6, OX6', _⟩ := opn MT (fun g hg => Nat.lt_of_lt_of_le (hS g hg) HJ.out.2.1.bel.size)
              simp only [Value.slice.injEq, true_and] at gq6
              obtain ⟨rfl, rfl⟩ := gq6
              have OX5 := Seg.hid OX5'
              have OX6 := Seg.hid OX6'
              clear OJ MO MT OX5' OX6' LZ
              generalize t.members.getD j default = mj at *
              have j0 : (0 : Int) ≤ (j : Int) := by omega
              have j1 : (j : Int) < (k : Int) := by omega
              have j2 : (j : Int) < (t.members.length : Int) := by omega
              have hgj : g < wr.heap.size := Nat.lt_of_lt_of_le hga HJ.out.2.1.bel.size
              have pg5 := cell_of_row wr w.heap.size 5 _ _ (0, 0) HJ.out.2.1.rr
              have hpgj : w.heap.size < wr.heap.size := (Array.getElem?_eq_some_iff.1 HJ.out.2.1.rr).1
              have hprj : pr < wr.heap.size := (Array.getElem?_eq_some_iff.1 HJ.out.2.2).1
              cases hse : (tk.sttc.toList == mj.sttc.toList) with
              | true =>
                have Z := Seg.hid (ZD.out (by simp [clash, sts, HST.out, hse]))
                have hst := HST.out
                have pm1 := cell_of_row (wr.alloc (.cells #[.string mj.name, .string mj.sttc, .slice E2 mj.wants.length eq2, .int .i64 mj.beat, .int .i64 mj.round, .slice E5 mj.owns.length eq5, .slice E6 mj.target.length eq6] 67 (0, 0))) pr 1 _ _ (0, 0) (HJ.out.2.2.next (below1 wr _))
                have BZ := Seg.hid (chain HJ.out.2.1.bel (below1 wr (.cells #[.string mj.name, .string mj.sttc, .slice E2 mj.wants.length eq2, .int .i64 mj.beat, .int .i64 mj.round, .slice E5 mj.owns.length eq5, .slice E6 mj.target.length eq6] 67 (0, 0))))
                go_wp2
                go_ret
                exact NO.out _ Z.out BZ.out
              | false =>
              have ZST : Hid (sts mj tk = false) := by show _ = _; simp [sts, hse]
              obtain ⟨wq, hwq⟩ : ∃ wq, wq = wr.alloc (.cells #[.string mj.name, .string mj.sttc, .slice E2 mj.wants.length eq2, .int .i64 mj.beat, .int .i64 mj.round, .slice E5 mj.owns.length eq5, .slice E6 mj.target.length eq6] 67 (0, 0)) := ⟨_, rfl⟩
              have HY : Hid (Gw w wq #[.int .i64 t.kind, .int .i64 t.timeout, .int .i64 t.now, .int .i64 t.round, .slice A4 t.topics.length c4, .slice (some ⟨g, o, none⟩) t.members.length c5] ∧ Rw wq pr #[.string tk.name, .string tk.sttc, .slice B2 tk.wants.length bq2, .int .i64 tk.beat, .int .i64 tk.round, .slice B5 tk.owns.length bq5, .slice B6 tk.target.length bq6] ∧ Rw wq wr.heap.size #[.string mj.name, .string mj.sttc, .slice E2 mj.wants.length eq2, .int .i64 mj.beat, .int .i64 mj.round, .slice E5 mj.owns.length eq5, .slice E6 mj.target.length eq6]) := by rw [hwq]; exact ⟨HJ.out.2.1.next (below1 wr _), HJ.out.2.2.next (below1 wr _), heap_alloc_new _ _⟩
              have HWQ : Hid (Below w.heap.size w wq) := HY.out.1.bel
              have OM5 : Hid (Opn 2 ESlt wq S E5 eq5 mj.owns gm5 om5 Fm5) := by rw [hwq]; exact OX5.out.later keepsSlt (fun y hy => Nat.lt_of_lt_of_le (hS y hy) HJ.out.2.1.bel.size) (below1 wr _)
              have OM6 : Hid (Opn 2 ESlt wq S E6 eq6 mj.target gm6 om6 Fm6) := by rw [hwq]; exact OX6.out.later keepsSlt (fun y hy => Nat.lt_of_lt_of_le (hS y hy) HJ.out.2.1.bel.size) (below1 wr _)
              have pa := cell_of_row wq pr 5 _ _ (0, 0) HY.out.2.1
              have pb := cell_of_row wq pr 6 _ _ (0, 0) HY.out.2.1
              have hst := HST.out
              have pm1 := cell_of_row (wr.alloc (.cells #[.string mj.name, .string mj.sttc, .slice E2 mj.wants.length eq2, .int .i64 mj.beat, .int .i64 mj.round, .slice E5 mj.owns.length eq5, .slice E6 mj.target.length eq6] 67 (0, 0))) pr 1 _ _ (0, 0) (HJ.out.2.2.next (below1 wr _))
              go_upto_region 15 with fail
              rw [← hwq]
              clear hwq HJ m0 m1 m2 m3 m4 m5 m6 pg5
              generalize wr.heap.size = po at *
              go_wp2_with fail
              go_loopw [7] (fun i wx => ∃ (q : Nat), q ≤ tk.owns.length ∧ i = .int .i64 q ∧ Hid ((tk.owns.take q).any (isIn mj.owns) = false ∧ Gw w wx #[.int .i64 t.kind, .int .i64 t.timeout, .int .i64 t.now, .int .i64 t.round, .slice A4 t.topics.length c4, .slice (some ⟨g, o, none⟩) t.members.length c5] ∧ Rw wx pr #[.string tk.name, .string tk.sttc, .slice B2 tk.wants.length bq2, .int .i64 tk.beat, .int .i64 tk.round, .slice B5 tk.owns.length bq5, .slice B6 tk.target.length bq6] ∧ Rw wx po #[.string mj.name, .string mj.sttc, .slice E2 mj.wants.length eq2, .int .i64 mj.beat, .int .i64 mj.round, .slice E5 mj.owns.length eq5, .slice E6 mj.target.length eq6] ∧ Below wq.heap.size wq wx)) (fun i _ => tk.owns.length - (intOf i).toNat)
              case atStart => exact ⟨0, Nat.zero_le _, rfl, rfl, HY.out.1, HY.out.2.1, HY.out.2.2, Below.refl _ _⟩
              case round =>
                obtain ⟨q, hq, rfl, HQ⟩ := hrel
                have pf := cell_of_row wr pr 5 _ _ (0, 0) HQ.out.2.2.1
                have hprq : pr < wr.heap.size := (Array.getElem?_eq_some_iff.1 HQ.out.2.2.1).1
                have hpoq : po < wr.heap.size := (Array.getElem?_eq_some_iff.1 HQ.out.2.2.2.1).1
                by_cases hlq : q < tk.owns.length
                · obtain ⟨ea2, hc2, hgp⟩ := OH5.out.addr.resolve_left (by omega)
                  have OQ := OH5.out.later keepsSlt hS HQ.out.2.1.bel
                  obtain ⟨x0, x1⟩ := slt_cells (i := q) (fun z hz => OQ.cells q hlq z hz) (OQ.el q hlq)
                  have po5 := cell_of_row wr po 5 _ _ (0, 0) HQ.out.2.2.2.1
                  have q0 : (0 : Int) ≤ (q : Int) := by omega
                  have q1 : (q : Int) < (tk.owns.length : Int) := by omega
                  have hgp2 : gp5 < wr.heap.size := Nat.lt_of_lt_of_le hgp HQ.out.2.1.bel.size
                  have TQ : Hid (tk.owns.take (q + 1) = tk.owns.take q ++ [tk.owns.getD q default]) := by show _ = _; rw [List.take_add_one, List.getElem?_eq_getElem hlq]; simp [hlq]
                  have MT : Hid (isIn mj.owns (tk.owns.getD q default) = true → tk.owns.any (isIn mj.owns) = true) := fun h => by
                    simp only [List.any_eq_true]
                    refine ⟨tk.owns.getD q default, ?_, h⟩
                    have e : tk.owns.getD q default = tk.owns[q] := by simp [hlq]
                    rw [e]; exact List.getElem_mem _
                  clear OQ
                  generalize tk.owns.getD q default = sq at *
                  subst ea2
                  have IN : Hid (∀ wx, Below wr.heap.size wr wx → Calls Try.prog 37 #[.slice E5 mj.owns.length eq5, .agg #[.string sq.topic, .int .i64 sq.part]] wx fun e w' => e = .returned (.bool (isIn mj.owns sq)) ∧ Below wx.heap.size wx w') := fun wx bx => WsA.in_any E5 eq5 mj.owns sq gm5 om5 Fm5 wx S (fun y hy => Nat.lt_of_lt_of_le (Nat.lt_of_lt_of_le (hS y hy) HQ.out.2.1.bel.size) bx.size) (OM5.out.later keepsSlt (fun y hy => Nat.lt_of_lt_of_le (hS y hy) HWQ.out.size) (chain HQ.out.2.2.2.2 bx)) LJ5
                  have ST5 : Hid (∀ wx, Below wr.heap.size wr wx → wx.cell? ⟨po, 5, none⟩ = some (.slice E5 mj.owns.length eq5) ∧ wx.cell? ⟨pr, 5, none⟩ = some (.slice (some ⟨gp5, op5, none⟩) tk.owns.length bq5) ∧ wx.cell? ⟨gp5, op5 + q * 2, none⟩ = some (.string sq.topic) ∧ wx.cell? ⟨gp5, op5 + q * 2 + 1, none⟩ = some (.int .i64 sq.part)) := fun wx bx => ⟨(bx.cell (p := ⟨po, 5, none⟩) hpoq).trans po5, (bx.cell (p := ⟨pr, 5, none⟩) hprq).trans pf, (bx.cell (p := ⟨gp5, op5 + q * 2, none⟩) hgp2).trans x0, (bx.cell (p := ⟨gp5, op5 + q * 2 + 1, none⟩) hgp2).trans x1⟩
                  go_wp2_with fail
                  clear x0 x1 po5 pf
                  cases hge : isIn mj.owns sq with
                  | true =>
                    have Z := Seg.hid (ZD.out (by have := MT.out hge; simp [clash, this]))
                    have HG := Seg.hid hge
                    clear hge
                    obtain ⟨s0, s1, s2, s3⟩ := ST5.out wr (Below.refl _ _)
                    go_region_held3 (fun w' => w'.cell? ⟨po, 5, none⟩ = some (.slice E5 mj.owns.length eq5) ∧ w'.cell? ⟨pr, 5, none⟩ = some (.slice (some ⟨gp5, op5, none⟩) tk.owns.length bq5) ∧ w'.cell? ⟨gp5, op5 + q * 2, none⟩ = some (.string sq.topic) ∧ w'.cell? ⟨gp5, op5 + q * 2 + 1, none⟩ = some (.int .i64 sq.part)) (first | go_keep | exact ⟨s0, s1, s2, s3⟩ | exact ⟨t0, t1, t2, t3⟩)
                      (first | (go_at_call 37; refine (IN.out _ (Below.refl _ _).drew).mono ?_; rintro e w8 ⟨rfl, b8⟩; rw [HG.out]; have B8 : Hid (Below wr.heap.size wr w8) := ⟨b8.os, b8.tape, b8.output, b8.size, b8.block⟩; obtain ⟨t0, t1, t2, t3⟩ := ST5.out w8 B8.out; clear b8))
                    clear s0 s1 s2 s3 t0 t1 t2 t3
                    go_wp2
                    go_ret
                    exact NO.out _ Z.out (chain HQ.out.2.1.bel B8.out)
                  | false =>
                    have ZQ : Hid ((tk.owns.take (q + 1)).any (isIn mj.owns) = false) := by show _ = _; rw [TQ.out, List.any_append, HQ.out.1]; simp [hge]
                    have HG := Seg.hid hge
                    clear hge
                    obtain ⟨s0, s1, s2, s3⟩ := ST5.out wr (Below.refl _ _)
                    go_region_held3 (fun w' => w'.cell? ⟨po, 5, none⟩ = some (.slice E5 mj.owns.length eq5) ∧ w'.cell? ⟨pr, 5, none⟩ = some (.slice (some ⟨gp5, op5, none⟩) tk.owns.length bq5) ∧ w'.cell? ⟨gp5, op5 + q * 2, none⟩ = some (.string sq.topic) ∧ w'.cell? ⟨gp5, op5 + q * 2 + 1, none⟩ = some (.int .i64 sq.part)) (first | go_keep | exact ⟨s0, s1, s2, s3⟩ | exact ⟨t0, t1, t2, t3⟩)
                      (first | (go_at_call 37; refine (IN.out _ (Below.refl _ _).drew).mono ?_; rintro e w8 ⟨rfl, b8⟩; rw [HG.out]; have B8 : Hid (Below wr.heap.size wr w8) := ⟨b8.os, b8.tape, b8.output, b8.size, b8.block⟩; obtain ⟨t0, t1, t2, t3⟩ := ST5.out w8 B8.out; clear b8))
                    clear s0 s1 s2 s3 t0 t1 t2 t3
                    go_wp2
                    go_roundw
                    case rel => exact ⟨q + 1, by omega, by go_num, ZQ.out, HQ.out.2.1.next B8.out, HQ.out.2.2.1.next B8.out, HQ.out.2.2.2.1.next B8.out, chain HQ.out.2.2.2.2 B8.out⟩
                    case measure => simp [intOf]; omega
                · have ZF5 : Hid (tk.owns.any (isIn mj.owns) = false) := by show _ = _; have := HQ.out.1; rw [List.take_of_length_le (by omega)] at this; exact this
                  go_wp2_with fail
                  go_loopw [8] (fun i wx => ∃ (q : Nat), q ≤ tk.target.length ∧ i = .int .i64 q ∧ Hid ((tk.target.take q).any (isIn mj.target) = false ∧ Gw w wx #[.int .i64 t.kind, .int .i64 t.timeout, .int .i64 t.now, .int .i64 t.round, .slice A4 t.topics.length c4, .slice (some ⟨g, o, none⟩) t.members.length c5] ∧ Rw wx pr #[.string tk.name, .string tk.sttc, .slice B2 tk.wants.length bq2, .int .i64 tk.beat, .int .i64 tk.round, .slice B5 tk.owns.length bq5, .slice B6 tk.target.length bq6] ∧ Rw wx po #[.string mj.name, .string mj.sttc, .slice E2 mj.wants.length eq2, .int .i64 mj.beat, .int .i64 mj.round, .slice E5 mj.owns.length eq5, .slice E6 mj.target.length eq6] ∧ Below wq.heap.size wq wx)) (fun i _ => tk.target.length - (intOf i).toNat)
                  case atStart => exact ⟨0, Nat.zero_le _, rfl, rfl, HQ.out.2.1, HQ.out.2.2.1, HQ.out.2.2.2.1, HQ.out.2.2.2.2⟩
                  case round =>
                    obtain ⟨q, hq, rfl, HQ⟩ := hrel
                    have pf := cell_of_row wr pr 6 _ _ (0, 0) HQ.out.2.2.1
                    have hprq : pr < wr.heap.size := (Array.getElem?_eq_some_iff.1 HQ.out.2.2.1).1
                    have hpoq : po < wr.heap.size := (Array.getElem?_eq_some_iff.1 HQ.out.2.2.2.1).1
                    by_cases hlq : q < tk.target.length
                    · obtain ⟨ea2, hc2, hgp⟩ := OH6.out.addr.resolve_left (by omega)
                      have OQ := OH6.out.later keepsSlt hS HQ.out.2.1.bel
                      obtain ⟨x0, x1⟩ := slt_cells (i := q) (fun z hz => OQ.cells q hlq z hz) (OQ.el q hlq)
                      have po5 := cell_of_row wr po 6 _ _ (0, 0) HQ.out.2.2.2.1
                      have q0 : (0 : Int) ≤ (q : Int) := by omega
                      have q1 : (q : Int) < (tk.target.length : Int) := by omega
                      have hgp2 : gp6 < wr.heap.size := Nat.lt_of_lt_of_le hgp HQ.out.2.1.bel.size
                      have TQ : Hid (tk.target.take (q + 1) = tk.target.take q ++ [tk.target.getD q default]) := by show _ = _; rw [List.take_add_one, List.getElem?_eq_getElem hlq]; simp [hlq]
                      have MT : Hid (isIn mj.target (tk.target.getD q default) = true → tk.target.any (isIn mj.target) = true) := fun h => by
                        simp only [List.any_eq_true]
                        refine ⟨tk.target.getD q default, ?_, h⟩
                        have e : tk.target.getD q default = tk.target[q] := by simp [hlq]
                        rw [e]; exact List.getElem_mem _
                      clear OQ
                      generalize tk.target.getD q default = sq at *
                      subst ea2
                      have IN : Hid (∀ wx, Below wr.heap.size wr wx → Calls Try.prog 37 #[.slice E6 mj.target.length eq6, .agg #[.string sq.topic, .int .i64 sq.part]] wx fun e w' => e = .returned (.bool (isIn mj.target sq)) ∧ Below wx.heap.size wx w') := fun wx bx => WsA.in_any E6 eq6 mj.target sq gm6 om6 Fm6 wx S (fun y hy => Nat.lt_of_lt_of_le (Nat.lt_of_lt_of_le (hS y hy) HQ.out.2.1.bel.size) bx.size) (OM6.out.later keepsSlt (fun y hy => Nat.lt_of_lt_of_le (hS y hy) HWQ.out.size) (chain HQ.out.2.2.2.2 bx)) LJ6
                      have ST5 : Hid (∀ wx, Below wr.heap.size wr wx → wx.cell? ⟨po, 6, none⟩ = some (.slice E6 mj.target.length eq6) ∧ wx.cell? ⟨pr, 6, none⟩ = some (.slice (some ⟨gp6, op6, none⟩) tk.target.length bq6) ∧ wx.cell? ⟨gp6, op6 + q * 2, none⟩ = some (.string sq.topic) ∧ wx.cell? ⟨gp6, op6 + q * 2 + 1, none⟩ = some (.int .i64 sq.part)) := fun wx bx => ⟨(bx.cell (p := ⟨po, 6, none⟩) hpoq).trans po5, (bx.cell (p := ⟨pr, 6, none⟩) hprq).trans pf, (bx.cell (p := ⟨gp6, op6 + q * 2, none⟩) hgp2).trans x0, (bx.cell (p := ⟨gp6, op6 + q * 2 + 1, none⟩) hgp2).trans x1⟩
                      go_wp2_with fail
                      clear x0 x1 po5 pf
                      cases hge : isIn mj.target sq with
                      | true =>
                        have Z := Seg.hid (ZD.out (by have := MT.out hge; simp [clash, this]))
                        have HG := Seg.hid hge
                        clear hge
                        obtain ⟨s0, s1, s2, s3⟩ := ST5.out wr (Below.refl _ _)
                        go_region_held3 (fun w' => w'.cell? ⟨po, 6, none⟩ = some (.slice E6 mj.target.length eq6) ∧ w'.cell? ⟨pr, 6, none⟩ = some (.slice (some ⟨gp6, op6, none⟩) tk.target.length bq6) ∧ w'.cell? ⟨gp6, op6 + q * 2, none⟩ = some (.string sq.topic) ∧ w'.cell? ⟨gp6, op6 + q * 2 + 1, none⟩ = some (.int .i64 sq.part)) (first | go_keep | exact ⟨s0, s1, s2, s3⟩ | exact ⟨t0, t1, t2, t3⟩)
                          (first | (go_at_call 37; refine (IN.out _ (Below.refl _ _).drew).mono ?_; rintro e w8 ⟨rfl, b8⟩; rw [HG.out]; have B8 : Hid (Below wr.heap.size wr w8) := ⟨b8.os, b8.tape, b8.output, b8.size, b8.block⟩; obtain ⟨t0, t1, t2, t3⟩ := ST5.out w8 B8.out; clear b8))
                        clear s0 s1 s2 s3 t0 t1 t2 t3
                        go_wp2
                        go_ret
                        exact NO.out _ Z.out (chain HQ.out.2.1.bel B8.out)
                      | false =>
                        have ZQ : Hid ((tk.target.take (q + 1)).any (isIn mj.target) = false) := by show _ = _; rw [TQ.out, List.any_append, HQ.out.1]; simp [hge]
                        have HG := Seg.hid hge
                        clear hge
                        obtain ⟨s0, s1, s2, s3⟩ := ST5.out wr (Below.refl _ _)
                        go_region_held3 (fun w' => w'.cell? ⟨po, 6, none⟩ = some (.slice E6 mj.target.length eq6) ∧ w'.cell? ⟨pr, 6, none⟩ = some (.slice (some ⟨gp6, op6, none⟩) tk.target.length bq6) ∧ w'.cell? ⟨gp6, op6 + q * 2, none⟩ = some (.string sq.topic) ∧ w'.cell? ⟨gp6, op6 + q * 2 + 1, none⟩ = some (.int .i64 sq.part)) (first | go_keep | exact ⟨s0, s1, s2, s3⟩ | exact ⟨t0, t1, t2, t3⟩)
                          (first | (go_at_call 37; refine (IN.out _ (Below.refl _ _).drew).mono ?_; rintro e w8 ⟨rfl, b8⟩; rw [HG.out]; have B8 : Hid (Below wr.heap.size wr w8) := ⟨b8.os, b8.tape, b8.output, b8.size, b8.block⟩; obtain ⟨t0, t1, t2, t3⟩ := ST5.out w8 B8.out; clear b8))
                        clear s0 s1 s2 s3 t0 t1 t2 t3
                        go_wp2
                        go_roundw
                        case rel => exact ⟨q + 1, by omega, by go_num, ZQ.out, HQ.out.2.1.next B8.out, HQ.out.2.2.1.next B8.out, HQ.out.2.2.2.1.next B8.out, chain HQ.out.2.2.2.2 B8.out⟩
                        case measure => simp [intOf]; omega
                    · have ZF6 : Hid (tk.target.any (isIn mj.target) = false) := by show _ = _; have := HQ.out.1; rw [List.take_of_length_le (by omega)] at this; exact this
                      have ZM := Seg.hid (ZN.out (by simp [clash, ZST.out, ZF5.out, ZF6.out]))
                      go_wp2
                      go_roundw
                      case rel => exact ⟨j + 1, by omega, by go_num, ZM.out, HQ.out.2.1, HQ.out.2.2.1⟩
                      case measure => simp [intOf]; omega
            · have hj' : k = j := by omega
              subst hj'
              have KL := Seg.hid (ZY.out HJ.out.1)
              go_wp2
              go_roundw
              case rel => exact ⟨k + 1, by omega, by go_num, KL.out, HJ.out.2.1⟩
              case measure => simp [intOf]; omega
    · have HE := HR.out.1
      rw [mems_end (by omega)] at HE
      have HE' := Seg.hid HE
      clear HE
      go_wp2
      go_ret
      exact ⟨Seg.ret_bool HE'.out, HR.out.2.bel⟩
end Go.Proofs.Ytfdfhhiaalbfiaa.GpS
