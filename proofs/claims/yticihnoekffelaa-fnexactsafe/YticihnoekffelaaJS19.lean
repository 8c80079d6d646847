/- The program's batchesFrom once more: each Batch with the value of its Records; Pairs of a Batch and the value of its Records: whose memory they are; Sets of blocks that hold cells alone. -/
import Derived.Test.YticihnoekffelaaJS13
import Derived.Test.YticihnoekffelaaJS18
import Derived.Test.YticihnoekffelaaJS14
import Derived.Test.YticihnoekffelaaJS15
namespace Go.Proofs.Yticihnoekffelaa.BfQ
set_option maxRecDepth 8000
open Go.RowKit Go.Shelf
open Recs (hsz below1 below2 chain chainD BatAt RecsAt Bat batVal FewB FewR Row)
open Bats SegW Segs LogW SrP BfP BfI SfP
open Ft (Foot)
set_option linter.unusedVariables false
attribute [local go_sem] Oper.semAt_some
def pt {w0 : World} {lo b : Nat} (p : It w0 lo b) : BV := p.1
/-- A list of Batches, with the values of their Records. -/
def BatsV (w : World) (lo b : Nat) (v : Value) (ps : List BV) : Prop := Row w lo b 7 v ps.length (batsCells (ps.map Prod.fst) (fun i => (ps.getD i default).2)) ∧ ∀ i, i < ps.length → RecsAt w lo b (ps.getD i default).2 (ps.getD i default).1.recs
theorem BatsV.bats {w : World} {lo b : Nat} {v : Value} {ps : List BV} (h : BatsV w lo b v ps) : BatsAt w lo b v (ps.map Prod.fst) := by
  refine ⟨_, by rw [List.length_map]; exact h.1, fun i hi => ?_⟩
  rw [List.length_map] at hi
  rw [getD_fst]
  exact h.2 i hi
theorem BatsV.keep {w w' : World} {lo b : Nat} {v : Value} {ps : List BV} (h : BatsV w lo b v ps) (hk : ∀ g, lo ≤ g → g < b → w'.heap[g]? = w.heap[g]?) : BatsV w' lo b v ps := ⟨h.1.keep hk, fun i hi => (h.2 i hi).keep hk⟩
/-- A list of Segments, with the values of all Records. -/
def SegsV (w : World) (lo b : Nat) (v : Value) (ss : List Sg) (pss : List (List BV)) : Prop := pss.length = ss.length ∧ (∀ i, i < ss.length → (pss.getD i []).map Prod.fst = (ss.getD i default).bats) ∧ ∃ H : Nat → Value, Row w lo b 2 v ss.length (segsCells ss H) ∧ ∀ i, i < ss.length → BatsV w lo b (H i) (pss.getD i [])
theorem SegsV.segs {w : World} {lo b : Nat} {v : Value} {ss : List Sg} {pss : List (List BV)} (h : SegsV w lo b v ss pss) : SegsAt w lo b v ss := by
  obtain ⟨h1, h2, H, h3, h4⟩ := h
  exact ⟨H, h3, fun i hi => h2 i hi ▸ (h4 i hi).bats⟩
theorem SegsV.keep {w w' : World} {lo b : Nat} {v : Value} {ss : List Sg} {pss : List (List BV)} (h : SegsV w lo b v ss pss) (hk : ∀ g, lo ≤ g → g < b → w'.heap[g]? = w.heap[g]?) : SegsV w' lo b v ss pss := by
  obtain ⟨h1, h2, H, h3, h4⟩ := h
  exact ⟨h1, h2, H, h3.keep hk, fun i hi => (h4 i hi).keep hk⟩
set_option maxHeartbeats 3200000 in
theorem stops (n : Nat) (hn : 1 ≤ n) (V : Nat → Prop) (n₀ N h1 h2 lo b c : Nat) (A : Option Addr) (x f : Int) (ss : List Sg) (pss : List (List BV)) (w : World) (hs : SegsV w lo b (.slice A ss.length c) ss pss) (hbn : b ≤ n₀) (hnw : n₀ ≤ w.heap.size) (hV : ∀ k, V k → (k < lo ∨ b ≤ k) ∧ k ≠ h1 ∧ k ≠ h2)
    (c1 : w.cell? ⟨h1, 0, none⟩ = some (.slice A ss.length c)) (l1 : h1 < n₀) (c2 : w.cell? ⟨h2, 0, none⟩ = some (.int .i64 x)) (l2 : h2 < n₀) (hl : ss.length ≤ 1048576) (hf : ∀ i, i < ss.length → FewS (ss.getD i default)) (hok : LgP.segs 0 0 ss = some f) (hN : (fromP x pss.flatten).length ≤ N) :
    SeqStopsK Fence.wide n Try.prog 71 #[.pointer (some ⟨h1, 0, none⟩), .pointer (some ⟨h2, 0, none⟩)] (fun p : It w lo b => #[batVal p.1.1 p.1.2]) (Kp V n₀) (fun xs => xs.map pt = fromP x pss.flatten) (fun pre => pre.map pt <+: fromP x pss.flatten) N w := by
  intro l J Jx W hW hJ hJx hY h0
  refine callsIn_of_wp Try.func71 rfl trivial ?_ rfl
  simp only [Try.ntmps71, List.size_toArray, List.length_cons, List.length_nil, Nat.reduceAdd, Nat.reduceSub, Array.replicate_succ, Array.replicate_zero, List.push_toArray, List.append_toArray, List.nil_append, List.cons_append]
  have HY := Seg.hid hY
  have HS := Seg.hid hs
  clear hY hs
  have k1 : W.cell? ⟨h1, 0, none⟩ = some (.slice A ss.length c) := (hW.cell (p := ⟨h1, 0, none⟩) (by show h1 < _; omega)).trans c1
  have k2 : W.cell? ⟨h2, 0, none⟩ = some (.int .i64 x) := (hW.cell (p := ⟨h2, 0, none⟩) (by show h2 < _; omega)).trans c2
  have SO := Seg.hid (segs_ok _ _ _ _ hok); have SM := Seg.hid (segs_mono _ _ _ _ hok); have SB := Seg.hid (segs_bats _ _ _ _ hok)
  have HF := Seg.hid hf
  have SAT : Hid (∀ wx, Below W.heap.size W wx → Calls Try.prog 28 #[.slice A ss.length c, .int .i64 x] wx fun e w' => ∃ r : Nat, e = .returned (.int .i64 r) ∧ Fnd (fun i => pS x (ss.getD i default)) ss.length r ∧ Below wx.heap.size wx w') := fun wx bx => SrW.segmentAt_any _ x ss wx lo b (HS.out.segs.below ((hW.mono (by omega)).trans (bx.mono (by have := hW.size; omega)))) (by have := hW.size; have := bx.size; omega) (fun i hi => (HF.out i hi).1) SO.out (fun i j a1 a2 => SM.out i j a1 a2 x) hl
  have hrc : ss.length ≤ c ∨ ss.length = 0 := by
    obtain ⟨_, ⟨_, A', c', hsl, hrow⟩, _⟩ := HS.out.segs
    simp only [Value.slice.injEq] at hsl
    obtain ⟨rfl, _, rfl⟩ := hsl
    rcases hrow with h | ⟨_, _, _, _, h, _⟩ <;> omega
  have sW := hW.size
  have l1W : h1 < W.heap.size := by omega
  have l2W : h2 < W.heap.size := by omega
  gi_wp2
  rename_i K aK
  refine wpIn_wide.2 ?_
  go_region_held3 (fun w' => w'.cell? ⟨h1, 0, none⟩ = some (.slice A ss.length c) ∧ w'.cell? ⟨h2, 0, none⟩ = some (.int .i64 x)) (first | go_keep | exact ⟨k1, k2⟩ | exact ⟨k1', k2'⟩)
    (first | (go_at_call 28; refine (SAT.out _ (Below.refl _ _).drew).mono ?_; rintro e w1 ⟨r, rfl, hF, b1⟩; have hr := hF.le; have r0 : (0 : Int) ≤ (r : Int) := Int.natCast_nonneg r; have r1 : (r : Int) ≤ (ss.length : Int) := Int.ofNat_le.2 hr; have r2 : (r : Int) ≤ (c : Int) := (by rcases hrc with h | h <;> omega); have r3 : (ss.length : Int) ≤ (c : Int) := (by rcases hrc with h | h <;> omega); have k1' : w1.cell? ⟨h1, 0, none⟩ = some (.slice A ss.length c) := (b1.cell (p := ⟨h1, 0, none⟩) l1W).trans k1; have k2' : w1.cell? ⟨h2, 0, none⟩ = some (.int .i64 x) := (b1.cell (p := ⟨h2, 0, none⟩) l2W).trans k2; have FF := Seg.hid hF; have BB : Hid (Below W.heap.size W w1) := ⟨b1.os, b1.tape, b1.output, b1.size, b1.block⟩; clear hF b1))
  refine aK _ _ ?_
  obtain ⟨A', hA'⟩ : ∃ A', A' = (if c = r then A else Option.map (fun x => x.add (r * 2)) A) := ⟨_, rfl⟩
  rw [← hA']
  have HA := Seg.hid hA'
  have KB : Hid (∀ wr, KP V n₀ W wr → wr.cell? ⟨h2, 0, none⟩ = some (.int .i64 x) ∧ SegsV wr lo b (.slice A ss.length c) ss pss) := fun wr k => ⟨(World.cell?_of_block (w := W) (a := ⟨h2, 0, none⟩) (k.block h2 l2 (fun e => (hV h2 e).2.2 rfl))).trans k2, HS.out.keep fun g hlo hg => (k.block g (by omega) (fun e => by have := (hV g e).1; omega)).trans (hW.block g (by omega))⟩
  have J1 := Seg.hid (abides_below hJ h0 BB.out)
  have K1 := Seg.hid ((KP.refl V n₀ W).below (by omega) BB.out)
  have AHD : Hid (fromP x (pss.take r).flatten = []) := fromP_nil (by rw [fst_take HS.out.1 HS.out.2.1]; exact from_ahead (x := x) (fun i hi => by obtain ⟨a1, a2, a3, a4, h, _⟩ := SB.out i hi; exact ⟨a1, a2, a3, a4, h⟩) r hr FF.out.no)
  have hpl : pss.length = ss.length := HS.out.1
  clear hA' k1' k2' aK k1 k2
  gi_wp2
  gi_loopw [14] (fun i wr => ∃ (k : Nat) (pre : List (It w lo b)), k ≤ ss.length - r ∧ i = .int .i64 k ∧ Hid (pre.map pt = fromP x (pss.take (r + k)).flatten ∧ J pre wr ∧ KP V n₀ W wr)) (fun i _ => (ss.length - r) - (intOf i).toNat)
  case atStart => exact ⟨0, [], Nat.zero_le _, rfl, AHD.out.symm, J1.out, K1.out⟩
  case round =>
    obtain ⟨k, pre, hk, rfl, HW⟩ := hrel
    by_cases hlt : k < ss.length - r
    · have q0 : (0 : Int) ≤ (k : Int) := by omega
      have q1 : (k : Int) < ((ss.length - r : Nat) : Int) := by omega
      obtain ⟨b2, sg⟩ := KB.out wr HW.out.2.2
      obtain ⟨_, hpe, H, ⟨_, A2, c2', hsl, hrow⟩, hh⟩ := sg
      simp only [Value.slice.injEq] at hsl
      obtain ⟨rfl, _, rfl⟩ := hsl
      obtain ⟨g, o, rfl, hg, hc, hcell, _⟩ := hrow.resolve_left (by omega)
      have hA2 := HA.out
      rw [if_neg (by omega)] at hA2
      obtain rfl : A' = some ⟨g, o + r * 2, none⟩ := by rw [hA2, Option.map_some, add_off]
      clear hA2
      have hgr : g < wr.heap.size := by have := HW.out.2.2.size; omega
      have h2r : h2 < wr.heap.size := by have := HW.out.2.2.size; omega
      obtain ⟨e0, e1⟩ := Segs.six hcell (r + k) (by omega)
      rw [show o + (r + k) * 2 = o + r * 2 + k * 2 by omega] at e0 e1
      have hi : r + k < ss.length := by omega
      have hip : r + k < pss.length := by omega
      have TOT := Seg.hid (totP (x := x) hip)
      have PE := Seg.hid (hpe (r + k) hi)
      have FT : Hid ((pss.take (r + (k + 1))).flatten = (pss.take (r + k)).flatten ++ pss.getD (r + k) []) := flatten_take hip
      have FS := Seg.hid (HF.out (r + k) hi)
      have BOK := Seg.hid (SO.out (r + k) hi)
      obtain ⟨fa, ea, fb, eb, hbats, _⟩ := SB.out (r + k) hi
      have BM := Seg.hid (batB_mono hbats x)
      have BAT : Hid (BatsV wr lo b (H (r + k)) (pss.getD (r + k) [])) := hh (r + k) hi
      have LPS : (pss.getD (r + k) []).length = (ss.getD (r + k) default).bats.length := by rw [← hpe (r + k) hi, List.length_map]
      obtain ⟨⟨_, A0, c0, hH0, hrow0⟩, hh0⟩ := id (hh (r + k) hi)
      rw [LPS] at hH0 hrow0
      have KJ := Seg.hid HW.out.2
      have PRE := Seg.hid HW.out.1
      have WB : Hid (∀ wx, KP V n₀ W wx → BatsV wx lo b (H (r + k)) (pss.getD (r + k) [])) := fun wx kx => BAT.out.keep fun y hlo hy => (kx.block y (by omega) (fun e => by have := (hV y e).1; omega)).trans (KJ.out.2.block y (by omega) (fun e => by have := (hV y e).1; omega)).symm
      have hch : (ss.getD (r + k) default).bats.length ≤ c0 ∨ (ss.getD (r + k) default).bats.length = 0 := by rcases hrow0 with h | ⟨_, _, _, _, h, _⟩ <;> omega
      rw [hH0] at e1 WB BAT
      have hbl := FS.out.1
      clear hcell hrow hh hrow0 hh0 hH0 hbats HW hpe
      generalize ss.getD (r + k) default = sg at *
      generalize pss.getD (r + k) [] = ps at *
      have BA2 : Hid (∀ wx, Below wr.heap.size wr wx → Calls Try.prog 60 #[.slice A0 sg.bats.length c0, .int .i64 x] wx fun e w' => ∃ q : Nat, e = .returned (.int .i64 q) ∧ Fnd (fun i => pB x (sg.bats.getD i default)) sg.bats.length q ∧ Below wx.heap.size wx w') := fun wx bx => SrW.batchAt_any _ x sg.bats wx lo b (PE.out ▸ (BAT.out.bats.below (bx.mono (by have := KJ.out.2.size; omega)))) (by have := KJ.out.2.size; have := bx.size; omega) BOK.out BM.out hbl
      have SB1 : Hid ((wr.alloc (.cells (segArr sg (.slice A0 sg.bats.length c0)) 55 (0, 0))).heap[wr.heap.size]? = some (.cells (segArr sg (.slice A0 sg.bats.length c0)) 55 (0, 0))) := heap_alloc_new _ _
      have BW1 : Hid (Below wr.heap.size wr (wr.alloc (.cells (segArr sg (.slice A0 sg.bats.length c0)) 55 (0, 0)))) := below1 wr _
      have v1 : (wr.alloc (.cells (segArr sg (.slice A0 sg.bats.length c0)) 55 (0, 0))).cell? ⟨wr.heap.size, 1, none⟩ = some (.slice A0 sg.bats.length c0) := cell_of_row _ wr.heap.size 1 _ _ (0, 0) SB1.out
      have v2 : (wr.alloc (.cells (segArr sg (.slice A0 sg.bats.length c0)) 55 (0, 0))).cell? ⟨h2, 0, none⟩ = some (.int .i64 x) := (BW1.out.cell (p := ⟨h2, 0, none⟩) h2r).trans b2
      gi_wp2
      rename_i K2 aK2
      refine wpIn_wide.2 ?_
      obtain ⟨ws, hws⟩ : ∃ ws, wr.alloc (.cells (segArr sg (.slice A0 sg.bats.length c0)) 55 (0, 0)) = ws := ⟨_, rfl⟩
      unfold segArr at hws v1 v2 SB1 BW1
      rw [hws] at v1 v2 SB1 BW1 ⊢
      have zs : wr.heap.size < ws.heap.size := by rw [← hws, hsz]; omega
      have h2s : h2 < ws.heap.size := by omega
      clear e0 e1 b2 hws
      go_region_held3 (fun w' => w'.cell? ⟨wr.heap.size, 1, none⟩ = some (.slice A0 sg.bats.length c0) ∧ w'.cell? ⟨h2, 0, none⟩ = some (.int .i64 x)) (first | go_keep | exact ⟨v1, v2⟩ | exact ⟨v1', v2'⟩)
        (first | (go_at_call 60; refine (BA2.out _ BW1.out.drew).mono ?_; rintro e w2 ⟨q, rfl, hQ, b2⟩; have hq := hQ.le; have q2 : (0 : Int) ≤ (q : Int) := Int.natCast_nonneg q; have q3 : (q : Int) ≤ (sg.bats.length : Int) := Int.ofNat_le.2 hq; have q4 : (q : Int) ≤ (c0 : Int) := (by rcases hch with h | h <;> omega); have q5 : (sg.bats.length : Int) ≤ (c0 : Int) := (by rcases hch with h | h <;> omega); have v1' : w2.cell? ⟨wr.heap.size, 1, none⟩ = some (.slice A0 sg.bats.length c0) := (b2.cell (p := ⟨wr.heap.size, 1, none⟩) zs).trans v1; have v2' : w2.cell? ⟨h2, 0, none⟩ = some (.int .i64 x) := (b2.cell (p := ⟨h2, 0, none⟩) h2s).trans v2; have QQ := Seg.hid hQ; have BQ : Hid (Below wr.heap.size wr w2) := ⟨b2.os.trans BW1.out.os, b2.tape.trans BW1.out.tape, b2.output.trans BW1.out.output, Nat.le_trans BW1.out.size b2.size, fun y hy => (b2.block y (Nat.lt_of_lt_of_le hy BW1.out.size)).trans (BW1.out.block y hy)⟩; clear hQ b2))
      refine aK2 _ _ ?_
      obtain ⟨A4, hA4⟩ : ∃ A4, A4 = (if c0 = q then A0 else Option.map (fun x => x.add (q * 7)) A0) := ⟨_, rfl⟩
      rw [← hA4]
      have HA4 := Seg.hid hA4
      have J2 := Seg.hid (abides_below hJ KJ.out.1 BQ.out)
      have K3 := Seg.hid (KJ.out.2.below (by omega) BQ.out)
      have FB := Seg.hid (found_pairs PE.out QQ.out BM.out)
      clear hA4 v1' v2' aK2 v1 v2
      gi_wp2
      gi_loopw [26] (fun i wk => ∃ (k2 : Nat) (pre2 : List (It w lo b)), k2 ≤ sg.bats.length - q ∧ i = .int .i64 k2 ∧ Hid (pre2.map pt = fromP x (pss.take (r + k)).flatten ++ (ps.drop q).take k2 ∧ J pre2 wk ∧ KP V n₀ W wk)) (fun i _ => (sg.bats.length - q) - (intOf i).toNat)
      case atStart => exact ⟨0, pre, Nat.zero_le _, rfl, by simpa using PRE.out, J2.out, K3.out⟩
      case round =>
        obtain ⟨k2, pre2, hk2, rfl, HK⟩ := hrel
        have KK := Seg.hid HK.out.2
        by_cases hlt2 : k2 < sg.bats.length - q
        · have q6 : (0 : Int) ≤ (k2 : Int) := by omega
          have q7 : (k2 : Int) < ((sg.bats.length - q : Nat) : Int) := by omega
          obtain ⟨⟨_, A5, c5, hsl, hrow⟩, hh⟩ := WB.out wr KK.out.2
          rw [LPS] at hsl hrow
          simp only [Value.slice.injEq] at hsl
          obtain ⟨rfl, _, rfl⟩ := hsl
          obtain ⟨g4, o4, rfl, hg4, hc4, hcell, _⟩ := hrow.resolve_left (by omega)
          have hA4 := HA4.out
          rw [if_neg (by omega)] at hA4
          obtain rfl : A4 = some ⟨g4, o4 + q * 7, none⟩ := by rw [hA4, Option.map_some, add_off]
          clear hA4
          have hg4r : g4 < wr.heap.size := by have := KK.out.2.size; omega
          obtain ⟨e0, e1, e2, e3, e4, e5, e6⟩ := Bats.six hcell (q + k2) (by omega)
          rw [getD_fst] at e0 e1 e2 e3 e4 e5
          rw [show o4 + (q + k2) * 7 = o4 + q * 7 + k2 * 7 by omega] at e0 e1 e2 e3 e4 e5 e6
          have hqk : q + k2 < sg.bats.length := by omega
          have RA := hh (q + k2) (by omega)
          have EQ : sg.bats.getD (q + k2) default = (ps.getD (q + k2) default).1 := by rw [← PE.out, getD_fst]
          have RW : RecsAt w lo b (ps.getD (q + k2) default).2 (ps.getD (q + k2) default).1.recs := RA.keep fun y hlo hy => ((KK.out.2.block y (by omega) (fun e => by have := (hV y e).1; omega)).trans (hW.block y (by omega))).symm
          obtain ⟨_, ⟨_, A6, c6, hH6, _⟩, _⟩ := RA
          have NX : Hid (∀ it : It w lo b, pt it = ps.getD (q + k2) default → (pre2 ++ [it]).map pt = fromP x (pss.take (r + k)).flatten ++ (ps.drop q).take (k2 + 1)) := fun it hit => by
            rw [List.map_append, HK.out.1, takeOne (ts := ps.drop q) (by rw [List.length_drop]; omega), getDD, ← List.append_assoc]
            simp [hit]
          have PFX : Hid (fromP x (pss.take (r + k)).flatten ++ (ps.drop q).take (k2 + 1) <+: fromP x pss.flatten) := by
            show _ <+: _
            rw [TOT.out, FB.out]
            refine ⟨(ps.drop q).drop (k2 + 1) ++ fromP x (pss.drop (r + k + 1)).flatten, ?_⟩
            rw [List.append_assoc, ← List.append_assoc ((ps.drop q).take (k2 + 1)), List.take_append_drop]
          have LEN : pre2.length < N := by
            have h1 := PFX.out.length_le
            have h2 : pre2.length = (pre2.map pt).length := by simp
            rw [HK.out.1] at h2
            simp only [List.length_append, List.length_take, List.length_drop] at h1 h2
            omega
          have FK := EQ ▸ FS.out.2 (q + k2) hqk
          have OK := EQ ▸ BOK.out (q + k2) hqk
          have JJ : Hid (J pre2 (wr.alloc (.cells (BatW.batArr (ps.getD (q + k2) default).1 (.slice A6 (ps.getD (q + k2) default).1.recs.length c6)) 58 (0, 0)))) := abides_below hJ KK.out.1 (below1 wr _)
          rw [hH6] at e6 RW
          have E6 : Hid (ps.getD (q + k2) default = ((ps.getD (q + k2) default).1, .slice A6 (ps.getD (q + k2) default).1.recs.length c6)) := by show _ = _; rw [← hH6]
          rw [E6.out] at NX
          clear hcell hrow hh HK hH6 EQ E6
          try dsimp only at NX
          generalize (ps.getD (q + k2) default).1 = tk at *
          obtain ⟨fn, tmps, assign, body, hy, hR⟩ := HY.out pre2 ⟨(tk, .slice A6 tk.recs.length c6), RW, FK, OK⟩ _ JJ.out LEN
          have NX1 := Seg.hid (NX.out ⟨(tk, .slice A6 tk.recs.length c6), RW, FK, OK⟩ rfl)
          have K9 := Seg.hid (KK.out.2.below (by omega) (below1 wr (.cells (BatW.batArr tk (.slice A6 tk.recs.length c6)) 58 (0, 0))))
          unfold batVal at hy
          unfold BatW.batArr at hy hR
          dsimp only at hy
          gi_wp2
          refine hR.mono ?_
          rintro e W3 (⟨rfl, hJ3, hk3⟩ | ⟨rfl, hJx3⟩)
          · have JX := Seg.hid hJ3
            have KX := Seg.hid (K9.out.kp (by omega) hk3)
            clear hJ3 hk3 hy hR
            gi_wp2
            go_roundw
            case rel => exact ⟨k2 + 1, _, by omega, by go_num, NX1.out, JX.out, KX.out⟩
            case measure => simp [intOf]; omega
          · have JX := Seg.hid hJx3
            clear hJx3 hy hR
            gi_wp2
            refine bodyPost_ret (results_none rfl _ _ _) rfl ?_
            exact ⟨⟨_, rfl⟩, .inr ⟨_, by rw [NX1.out]; exact PFX.out, JX.out⟩⟩
        · have PN : Hid (pre2.map pt = fromP x (pss.take (r + (k + 1))).flatten) := by
            show _ = _
            rw [HK.out.1, FT.out, fromP_app, FB.out, List.take_of_length_le (l := ps.drop q) (by rw [List.length_drop]; omega)]
          have q7 : ¬ (k2 : Int) < ((sg.bats.length - q : Nat) : Int) := by omega
          clear HK
          gi_wp2
          go_roundw
          case rel => exact ⟨k + 1, pre2, by omega, by go_num, PN.out, KK.out⟩
          case measure => simp [intOf]; omega
    · have EALL : Hid (pre.map pt = fromP x pss.flatten) := by show _ = _; rw [HW.out.1, List.take_of_length_le (by omega)]
      have JJ := Seg.hid HW.out.2.1
      have q1 : ¬ (k : Int) < ((ss.length - r : Nat) : Int) := by omega
      clear HW
      gi_wp2
      go_end0
      exact ⟨⟨_, rfl⟩, .inl ⟨pre, EALL.out, JJ.out⟩⟩
end Go.Proofs.Yticihnoekffelaa.BfQ
namespace Go.Proofs.Yticihnoekffelaa.SfO
set_option maxRecDepth 8000
open Go.RowKit
open Recs (hsz below1 chain RecsAt Bat Rec Row)
open Bats SegW Segs LogW BfP SfP BfQ
open Ft (OwnR OwnB OwnS keepsR recs_of)
set_option linter.unusedVariables false
/-- Each has Records of its own, in a set apart from the others. -/
def PO (w : World) : (Nat → Prop) → List BV → Prop
  | _, [] => True
  | S, p :: t => ∃ Q R : Nat → Prop, OwnR w Q p.2 p.1.recs ∧ (∀ x, Q x → S x) ∧ (∀ x, R x → S x) ∧ (∀ x, Q x → ¬ R x) ∧ PO w R t
theorem PO.mono {w : World} {S S' : Nat → Prop} (hs : ∀ x, S x → S' x) : ∀ {ps : List BV}, PO w S ps → PO w S' ps
  | [], _ => trivial
  | p :: t, ⟨Q, R, h1, h2, h3, h4, h5⟩ => ⟨Q, R, h1, fun x hx => hs x (h2 x hx), fun x hx => hs x (h3 x hx), h4, h5⟩
theorem PO.app {w : World} : ∀ {a b : List BV} {S S' : Nat → Prop}, PO w S a → PO w S' b → (∀ x, S x → ¬ S' x) → PO w (fun x => S x ∨ S' x) (a ++ b)
  | [], b, S, S', _, h, _ => h.mono fun x hx => .inr hx
  | p :: t, b, S, S', ⟨Q, R, h1, h2, h3, h4, h5⟩, h, hd => ⟨Q, fun x => R x ∨ S' x, h1, fun x hx => .inl (h2 x hx), fun x hx => hx.imp (h3 x) id, fun x hx hr => hr.elim (h4 x hx) (hd x (h2 x hx)), PO.app h5 h (fun x hx => hd x (h3 x hx))⟩
theorem PO.filter {w : World} (f : BV → Bool) : ∀ {ps : List BV} {S : Nat → Prop}, PO w S ps → PO w S (ps.filter f)
  | [], S, _ => trivial
  | p :: t, S, ⟨Q, R, h1, h2, h3, h4, h5⟩ => by
    by_cases hp : f p = true
    · rw [List.filter_cons_of_pos hp]
      exact ⟨Q, R, h1, h2, h3, h4, PO.filter f h5⟩
    · rw [List.filter_cons_of_neg hp]
      exact (PO.filter f h5).mono h3
theorem PO.keep {w w' : World} (hz : w.heap.size ≤ w'.heap.size) : ∀ {ps : List BV} {S : Nat → Prop}, PO w S ps → (∀ x, S x → w'.heap[x]? = w.heap[x]?) → PO w' S ps
  | [], _, _, _ => trivial
  | p :: t, S, ⟨Q, R, h1, h2, h3, h4, h5⟩, hk => ⟨Q, R, Ft.LOwn.keep keepsR h1 hz (fun x hx => hk x (h2 x hx)), h2, h3, h4, PO.keep hz h5 (fun x hx => hk x (h3 x hx))⟩
theorem PO.index {w : World} : ∀ {ps : List BV} {S : Nat → Prop}, PO w S ps → ∃ P : Nat → Nat → Prop, (∀ i, i < ps.length → OwnR w (P i) (ps.getD i default).2 (ps.getD i default).1.recs) ∧ (∀ i, i < ps.length → ∀ x, P i x → S x) ∧ (∀ i j, i < ps.length → j < ps.length → i ≠ j → ∀ x, P i x → ¬ P j x)
  | [], S, _ => ⟨fun _ _ => False, fun i hi => absurd hi (by simp), fun i hi => absurd hi (by simp), fun i j hi => absurd hi (by simp)⟩
  | p :: t, S, ⟨Q, R, h1, h2, h3, h4, h5⟩ => by
    obtain ⟨P, g1, g2, g3⟩ := PO.index h5
    refine ⟨fun i => match i with | 0 => Q | i + 1 => P i, fun i hi => ?_, fun i hi x hx => ?_, fun i j hi hj hij x hx => ?_⟩
    · match i with
      | 0 => exact h1
      | i + 1 => rw [List.getD_cons_succ]; exact g1 i (by simpa using hi)
    · match i with
      | 0 => exact h2 x hx
      | i + 1 => exact h3 x (g2 i (by simpa using hi) x hx)
    · match i, j with
      | 0, 0 => exact absurd rfl hij
      | 0, j + 1 => exact fun hr => h4 x hx (g2 j (by simpa using hj) x hr)
      | i + 1, 0 => exact fun hr => h4 x hr (g2 i (by simpa using hi) x hx)
      | i + 1, j + 1 => exact g3 i j (by simpa using hi) (by simpa using hj) (by omega) x hx
theorem PO.of {w : World} : ∀ {ps : List BV} {S : Nat → Prop} {P : Nat → Nat → Prop}, (∀ i, i < ps.length → OwnR w (P i) (ps.getD i default).2 (ps.getD i default).1.recs) → (∀ i, i < ps.length → ∀ x, P i x → S x) → (∀ i j, i < ps.length → j < ps.length → i ≠ j → ∀ x, P i x → ¬ P j x) → PO w S ps
  | [], _, _, _, _, _ => trivial
  | p :: t, S, P, h1, h2, h3 => by
    refine ⟨P 0, fun x => ∃ i, i < t.length ∧ P (i + 1) x, h1 0 (by simp), h2 0 (by simp), fun x ⟨i, hi, hx⟩ => h2 (i + 1) (by simpa using hi) x hx, fun x hx ⟨i, hi, hr⟩ => h3 0 (i + 1) (by simp) (by simpa using hi) (by omega) x hx hr, ?_⟩
    exact PO.of (P := fun i => P (i + 1)) (fun i hi => by have := h1 (i + 1) (by simpa using hi); rwa [List.getD_cons_succ] at this) (fun i hi x hx => ⟨i, hi, hx⟩) (fun i j hi hj hij => h3 (i + 1) (j + 1) (by simpa using hi) (by simpa using hj) (by omega))
theorem row_mine {w : World} {lo b ty s g n c : Nat} {F : Nat → Value} (hn : n ≤ 1048576) (h : ToO.MineC w ty s g n c F) (hl : lo ≤ g) (hb : g < b) : Row w lo b s (.slice (some ⟨g, 0, none⟩) n c) n (fun i j => F (i * s + j)) := by
  refine ⟨by omega, _, c, rfl, .inr ⟨g, 0, rfl, hb, h.le, fun i hi j hj => ?_, hl⟩⟩
  have hq : i * s + j < n * s := by
    have : (i + 1) * s ≤ n * s := Nat.mul_le_mul_right s hi
    rw [Nat.succ_mul] at this
    omega
  rw [Nat.zero_add]
  exact h.cell _ hq
theorem row_eqf {w : World} {lo b s n : Nat} {v : Value} {f f' : Nat → Nat → Value} (h : Row w lo b s v n f) (he : ∀ i, i < n → ∀ j, j < s → f i j = f' i j) : Row w lo b s v n f' := by
  obtain ⟨h0, A, c, h1, h2⟩ := h
  refine ⟨h0, A, c, h1, h2.imp id ?_⟩
  rintro ⟨g, o, h3, h4, h5, h6, h7⟩
  exact ⟨g, o, h3, h4, h5, fun i hi j hj => by rw [h6 i hi j hj, he i hi j hj], h7⟩
theorem getD_range {T : Type} [Inhabited T] (f : Nat → T) (n i : Nat) (h : i < n) : ((List.range n).map f).getD i default = f i := by
  rw [List.getD_eq_getElem?_getD, List.getElem?_map, List.getElem?_range h]; rfl
theorem map_range {T : Type} [Inhabited T] (ts : List T) : (List.range ts.length).map (fun i => ts.getD i default) = ts := by
  refine List.ext_getElem (by simp) fun i h1 h2 => ?_
  simp [List.getD_eq_getElem?_getD, List.getElem?_eq_getElem h2]
theorem bats_pairs {w : World} {S : Nat → Prop} {lo b : Nat} {v : Value} {ts : List Bat} (h : OwnB w S v ts) (hS : ∀ x, S x → lo ≤ x ∧ x < b) : ∃ ps : List BV, ps.map Prod.fst = ts ∧ BatsV w lo b v ps ∧ PO w S ps := by
  obtain ⟨h0, A, c, rfl, h2⟩ := h
  rcases h2 with h2 | ⟨g, F, P, rfl, h3, h4, h5⟩
  · have := List.length_eq_zero_iff.1 h2
    subst this
    exact ⟨[], rfl, ⟨⟨by simp, A, c, rfl, .inl rfl⟩, fun i hi => absurd hi (by simp)⟩, trivial⟩
  have el := h5.el
  have hl : ((List.range ts.length).map (fun i => (ts.getD i default, F (i * 7 + 6)))).length = ts.length := by simp
  refine ⟨(List.range ts.length).map (fun i => (ts.getD i default, F (i * 7 + 6))), ?_, ⟨?_, fun i hi => ?_⟩, PO.of (P := P) (fun i hi => ?_) (fun i hi => h4 i (by rw [hl] at hi; exact hi)) (fun i j hi hj => h5.disj i j (by rw [hl] at hi; exact hi) (by rw [hl] at hj; exact hj))⟩
  · rw [List.map_map]
    exact map_range ts
  · rw [hl]
    refine row_eqf (row_mine h0 h5.mine (hS g h3).1 (hS g h3).2) fun i hi j hj => ?_
    obtain ⟨⟨e0, e1, e2, e3, e4, e5⟩, _⟩ := el i hi
    have hg := getD_range (fun i => (ts.getD i default, F (i * 7 + 6))) ts.length i hi
    unfold batsCells
    rw [getD_fst, hg]
    match j, hj with
    | 0, _ => exact e0
    | 1, _ => exact e1
    | 2, _ => exact e2
    | 3, _ => exact e3
    | 4, _ => exact e4
    | 5, _ => exact e5
    | 6, _ =>
      show F (i * 7 + 6) = (((List.range ts.length).map (fun i => (ts.getD i default, F (i * 7 + 6)))).getD i default).2
      rw [hg]
  · rw [hl] at hi
    rw [getD_range _ _ i hi]
    exact recs_of (el i hi).2 (fun x hx => hS x (h4 i hi x hx))
  · rw [hl] at hi
    rw [getD_range _ _ i hi]
    exact (el i hi).2
theorem segs_pairs {w : World} {S : Nat → Prop} {lo b : Nat} {v : Value} {ss : List Sg} (h : OwnS w S v ss) (hS : ∀ x, S x → lo ≤ x ∧ x < b) : ∃ pss : List (List BV), SegsV w lo b v ss pss ∧ PO w S pss.flatten := by
  obtain ⟨h0, A, c, rfl, h2⟩ := h
  rcases h2 with h2 | ⟨g, F, P, rfl, h3, h4, h5⟩
  · have := List.length_eq_zero_iff.1 h2
    subst this
    exact ⟨[], ⟨rfl, fun i hi => absurd hi (by simp), fun _ => default, ⟨by simp, A, c, rfl, .inl rfl⟩, fun i hi => absurd hi (by simp)⟩, trivial⟩
  have el := h5.el
  have key : ∀ i, ∃ ps : List BV, i < ss.length → ps.map Prod.fst = (ss.getD i default).bats ∧ BatsV w lo b (F (i * 2 + 1)) ps ∧ PO w (P i) ps := fun i => by
    by_cases hi : i < ss.length
    · obtain ⟨ps, g1, g2, g3⟩ := bats_pairs (lo := lo) (b := b) (el i hi).2 (fun x hx => hS x (h4 i hi x hx))
      exact ⟨ps, fun _ => ⟨g1, g2, g3⟩⟩
    · exact ⟨[], fun h => absurd h hi⟩
  obtain ⟨K, hK⟩ := Classical.axiomOfChoice key
  have hl : ((List.range ss.length).map K).length = ss.length := by simp
  have hg : ∀ i, i < ss.length → ((List.range ss.length).map K).getD i [] = K i := fun i hi => by rw [List.getD_eq_getElem?_getD, List.getElem?_map, List.getElem?_range hi]; rfl
  refine ⟨(List.range ss.length).map K, ⟨hl, fun i hi => by rw [hg i hi]; exact (hK i hi).1, fun i => F (i * 2 + 1), ?_, fun i hi => by rw [hg i hi]; exact (hK i hi).2.1⟩, ?_⟩
  · refine row_eqf (row_mine h0 h5.mine (hS g h3).1 (hS g h3).2) fun i hi j hj => ?_
    match j, hj with
    | 0, _ => exact (el i hi).1
    | 1, _ => rfl
  · have : ∀ n, n ≤ ss.length → PO w (fun x => ∃ i, i < n ∧ P i x) ((List.range n).map K).flatten := fun n => by
      induction n with
      | zero => exact fun _ => trivial
      | succ n ih =>
        intro hn
        rw [List.range_succ, List.map_append, List.flatten_append]
        have h9 := PO.app (ih (by omega)) (b := (List.map K [n]).flatten) (S' := P n) (by simpa using (hK n (by omega)).2.2) (fun x ⟨i, hi, hx⟩ => h5.disj i n (by omega) (by omega) (by omega) x hx)
        exact h9.mono fun x hx => hx.elim (fun ⟨i, hi, hx⟩ => ⟨i, by omega, hx⟩) (fun hx => ⟨n, by omega, hx⟩)
    exact (this ss.length (Nat.le_refl _)).mono fun x ⟨i, hi, hx⟩ => h4 i hi x hx
/-- The cells of a row of pairs. -/
def cellsP (ps : List BV) : List Value := ps.flatMap (fun p => (BatW.batArr p.1 p.2).toList)
theorem cellsP_app (a : List BV) (p : BV) : cellsP (a ++ [p]) = cellsP a ++ (BatW.batArr p.1 p.2).toList := by simp [cellsP]
theorem cellsP_len : ∀ ps : List BV, (cellsP ps).length = ps.length * 7
  | [] => rfl
  | p :: t => by
    have := cellsP_len t
    unfold cellsP at this ⊢
    rw [List.flatMap_cons, List.length_append, this]
    simp only [BatW.batArr, List.length_cons, List.length_nil]
    omega
theorem cellsP_at : ∀ (ps : List BV) (i j : Nat), i < ps.length → j < 7 → (cellsP ps).getD (i * 7 + j) default = (BatW.batArr (ps.getD i default).1 (ps.getD i default).2).toList.getD j default
  | [], i, j, hi, _ => absurd hi (by simp)
  | p :: t, 0, j, _, hj => by
    unfold cellsP
    rw [List.flatMap_cons, List.getD_eq_getElem?_getD, List.getElem?_append_left (by simp [BatW.batArr]; omega), ← List.getD_eq_getElem?_getD]
    simp
  | p :: t, i + 1, j, hi, hj => by
    have := cellsP_at t i j (by simpa using hi) hj
    unfold cellsP at this ⊢
    rw [List.flatMap_cons, List.getD_eq_getElem?_getD, List.getElem?_append_right (by simp [BatW.batArr]; omega), ← List.getD_eq_getElem?_getD, List.getD_cons_succ, ← this]
    congr 1
    simp [BatW.batArr]
    omega
/-- A row of pairs with Records of their own is a list of Batches of one's own. -/
theorem own_of {w : World} {base n0 : Nat} {S : Nat → Prop} {v : Value} {ps : List BV} (hn : ps.length ≤ 1048576) (hr : w.ownsRow n0 58 7 v ps.length (cellsP ps)) (hp : PO w S ps) (hv : ∀ g, v.ownBlock = some g → ¬ S g) (hS : ∀ x, S x → base ≤ x ∧ x < w.heap.size) (hb : base ≤ n0) : OwnB w (Ft.seg base w.heap.size) v (ps.map Prod.fst) := by
  rcases hr.2 with ⟨h1, h2⟩ | ⟨g, cap, cur, rfl, hbs, hgg, hnc, hcm, hcs, htake⟩
  · have := List.length_eq_zero_iff.1 h2
    subst this
    exact h1 ▸ Ft.LOwn.nil _ _ _ _
  obtain ⟨P, p1, p2, p3⟩ := hp.index
  have hlt : g < w.heap.size := (Array.getElem?_eq_some_iff.1 hgg).1
  have hl : (ps.map Prod.fst).length = ps.length := by simp
  refine ⟨by rw [hl]; exact hn, _, cap, by rw [hl], .inr ⟨g, fun q => (cellsP ps).getD q default, P, rfl, ⟨by omega, hlt⟩, fun i hi x hx => hS x (p2 i (by rw [hl] at hi; exact hi) x hx), ⟨?_, rfl, fun i hi => ?_, fun i hi x hx => ?_, fun i j hi hj => p3 i j (by rw [hl] at hi; exact hi) (by rw [hl] at hj; exact hj)⟩⟩⟩
  · rw [hl]
    have e : (List.range (ps.length * 7)).map (fun q => (cellsP ps).getD q default) = cellsP ps := by
      rw [← cellsP_len]
      exact map_range _
    show w.ownsRow g _ _ _ _ _
    rw [e]
    exact ⟨hr.1, .inr ⟨g, cap, cur, rfl, Nat.le_refl _, hgg, hnc, hcm, hcs, htake⟩⟩
  · rw [hl] at hi
    rw [getD_fst]
    have hc := fun j hj => cellsP_at ps i j hi hj
    refine ⟨⟨hc 0 (by omega), hc 1 (by omega), hc 2 (by omega), hc 3 (by omega), hc 4 (by omega), hc 5 (by omega)⟩, ?_⟩
    have h6 : (cellsP ps).getD (i * 7 + 6) default = (ps.getD i default).2 := hc 6 (by omega)
    show OwnR w (P i) ((cellsP ps).getD (i * 7 + 6) default) _
    rw [h6]
    exact p1 i hi
  · rw [hl] at hi
    have hx' := p2 i hi x hx
    exact ⟨fun e => hv g rfl (e ▸ hx'), (hS x hx').2⟩
end Go.Proofs.Yticihnoekffelaa.SfO
namespace Go.Proofs.Yticihnoekffelaa.Ft
set_option maxRecDepth 8000
open Go.RowKit
open Recs
open ToO (MineC)
set_option linter.unusedVariables false
/-- The block holds cells. -/
def IsC (w : World) (x : Nat) : Prop := ∃ cs t fr, w.heap[x]? = some (.cells cs t fr)
def Shrinks {T : Type} (EO : World → (Nat → Prop) → (Nat → Value) → T → Prop) : Prop := ∀ w S f t, EO w S f t → EO w (fun x => S x ∧ IsC w x) f t
theorem mine_isC {w : World} {ty nf g n c : Nat} {F : Nat → Value} (h : MineC w ty nf g n c F) : IsC w g := by
  rcases h.2 with ⟨h', _⟩ | ⟨g', cap', cur, h', hb, hg, _⟩
  · simp at h'
  · simp only [Value.slice.injEq, Option.some.injEq, Addr.mk.injEq, and_true, true_and] at h'
    obtain ⟨rfl, rfl⟩ := h'
    exact ⟨_, _, _, hg⟩
theorem LOwn.cells {T : Type} [Inhabited T] {ty nf : Nat} {EO : World → (Nat → Prop) → (Nat → Value) → T → Prop} (hE : Shrinks EO) {w : World} {S : Nat → Prop} {v : Value} {us : List T} (h : LOwn ty nf EO w S v us) : LOwn ty nf EO w (fun x => S x ∧ IsC w x) v us := by
  obtain ⟨h0, A, c, h1, h2⟩ := h
  refine ⟨h0, A, c, h1, h2.imp id ?_⟩
  rintro ⟨g, F, P, h3, h4, h5, h6⟩
  exact ⟨g, F, fun i x => P i x ∧ IsC w x, h3, ⟨h4, mine_isC h6.mine⟩, fun i hi x hx => ⟨h5 i hi x hx.1, hx.2⟩, h6.mine, h6.len, fun i hi => hE _ _ _ _ (h6.el i hi), fun i hi x hx => h6.apart i hi x hx.1, fun i j hi hj hij x hx hx' => h6.disj i j hi hj hij x hx.1 hx'.1⟩
theorem shrinksH : Shrinks EH := fun w S f t h => h
theorem shrinksR : Shrinks ER := fun w S f t h => ⟨h.1, LOwn.cells shrinksH h.2⟩
theorem shrinksB : Shrinks EB := fun w S f t h => ⟨h.1, LOwn.cells shrinksR h.2⟩
end Go.Proofs.Yticihnoekffelaa.Ft
