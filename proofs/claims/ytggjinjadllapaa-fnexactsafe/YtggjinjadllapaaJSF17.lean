/- The program's batchesFrom once more: each Batch with the value of its Records. -/
import Derived.Test.YtggjinjadllapaaJSF11
import Derived.Test.YtggjinjadllapaaJSF16
namespace Go.Proofs.Ytggjinjadllapaa.BfQ
set_option maxRecDepth 8000
open Go.RowKit Go.Shelf
open Recs (hsz below1 below2 chain chainD BatAt RecsAt Bat batVal FewB FewR Row)
open Bats SegW Segs LogW SrP BfP BfI SfP
open Ft (Foot)
set_option linter.unusedVariables false
attribute [local go_sem] Oper.semAt_some
def pt {w0 : World} {lo b : Nat} (p : It w0 lo b) : BV := p.1
/-- A list of Batches, with the values of their Records. -/
def BatsV (w : World) (lo b : Nat) (v : Value) (ps : List BV) : Prop := Row w lo b 7 v ps.length (batsCells (ps.map Prod.fst) (fun i => (ps.getD i default).2)) ∧ ∀ i, i < ps.length → RecsAt w lo b (ps.getD i default).2 (ps.getD i default).1.recs
theorem BatsV.bats {w : World} {lo b : Nat} {v : Value} {ps : List BV} (h : BatsV w lo b v ps) : BatsAt w lo b v (ps.map Prod.fst) := by
  refine ⟨_, by rw [List.length_map]; exact h.1, fun i hi => ?_⟩
  rw [List.length_map] at hi
  rw [getD_fst]
  exact h.2 i hi
theorem BatsV.keep {w w' : World} {lo b : Nat} {v : Value} {ps : List BV} (h : BatsV w lo b v ps) (hk : ∀ g, lo ≤ g → g < b → w'.heap[g]? = w.heap[g]?) : BatsV w' lo b v ps := ⟨h.1.keep hk, fun i hi => (h.2 i hi).keep hk⟩
/-- A list of Segments, with the values of all Records. -/
def SegsV (w : World) (lo b : Nat) (v : Value) (ss : List Sg) (pss : List (List BV)) : Prop := pss.length = ss.length ∧ (∀ i, i < ss.length → (pss.getD i []).map Prod.fst = (ss.getD i default).bats) ∧ ∃ H : Nat → Value, Row w lo b 2 v ss.length (segsCells ss H) ∧ ∀ i, i < ss.length → BatsV w lo b (H i) (pss.getD i [])
theorem SegsV.segs {w : World} {lo b : Nat} {v : Value} {ss : List Sg} {pss : List (List BV)} (h : SegsV w lo b v ss pss) : SegsAt w lo b v ss := by
  obtain ⟨h1, h2, H, h3, h4⟩ := h
  exact ⟨H, h3, fun i hi => h2 i hi ▸ (h4 i hi).bats⟩
theorem SegsV.keep {w w' : World} {lo b : Nat} {v : Value} {ss : List Sg} {pss : List (List BV)} (h : SegsV w lo b v ss pss) (hk : ∀ g, lo ≤ g → g < b → w'.heap[g]? = w.heap[g]?) : SegsV w' lo b v ss pss := by
  obtain ⟨h1, h2, H, h3, h4⟩ := h
  exact ⟨h1, h2, H, h3.keep hk, fun i hi => (h4 i hi).keep hk⟩
set_option maxHeartbeats 3200000 in
theorem stops (n : Nat) (hn : 1 ≤ n) (V : Nat → Prop) (n₀ N h1 h2 lo b c : Nat) (A : Option Addr) (x f : Int) (ss : List Sg) (pss : List (List BV)) (w : World) (hs : SegsV w lo b (.slice A ss.length c) ss pss) (hbn : b ≤ n₀) (hnw : n₀ ≤ w.heap.size) (hV : ∀ k, V k → (k < lo ∨ b ≤ k) ∧ k ≠ h1 ∧ k ≠ h2)
    (c1 : w.cell? ⟨h1, 0, none⟩ = some (.slice A ss.length c)) (l1 : h1 < n₀) (c2 : w.cell? ⟨h2, 0, none⟩ = some (.int .i64 x)) (l2 : h2 < n₀) (hl : ss.length ≤ 1048576) (hf : ∀ i, i < ss.length → FewS (ss.getD i default)) (hok : LgP.segs 0 0 ss = some f) (hN : (fromP x pss.flatten).length ≤ N) :
    SeqStopsK Fence.wide n Try.prog 48 #[.pointer (some ⟨h1, 0, none⟩), .pointer (some ⟨h2, 0, none⟩)] (fun p : It w lo b => #[batVal p.1.1 p.1.2]) (Kp V n₀) (fun xs => xs.map pt = fromP x pss.flatten) (fun pre => pre.map pt <+: fromP x pss.flatten) N w := by
  intro l J Jx W hW hJ hJx hY h0
  refine callsIn_of_wp Try.func48 rfl trivial ?_ rfl
  simp only [Try.ntmps48, List.size_toArray, List.length_cons, List.length_nil, Nat.reduceAdd, Nat.reduceSub, Array.replicate_succ, Array.replicate_zero, List.push_toArray, List.append_toArray, List.nil_append, List.cons_append]
  have HY := Seg.hid hY
  have HS := Seg.hid hs
  clear hY hs
  have k1 : W.cell? ⟨h1, 0, none⟩ = some (.slice A ss.length c) := (hW.cell (p := ⟨h1, 0, none⟩) (by show h1 < _; omega)).trans c1
  have k2 : W.cell? ⟨h2, 0, none⟩ = some (.int .i64 x) := (hW.cell (p := ⟨h2, 0, none⟩) (by show h2 < _; omega)).trans c2
  have SO := Seg.hid (segs_ok _ _ _ _ hok); have SM := Seg.hid (segs_mono _ _ _ _ hok); have SB := Seg.hid (segs_bats _ _ _ _ hok)
  have HF := Seg.hid hf
  have SAT : Hid (∀ wx, Below W.heap.size W wx → Calls Try.prog 45 #[.slice A ss.length c, .int .i64 x] wx fun e w' => ∃ r : Nat, e = .returned (.int .i64 r) ∧ Fnd (fun i => pS x (ss.getD i default)) ss.length r ∧ Below wx.heap.size wx w') := fun wx bx => SrW.segmentAt_any _ x ss wx lo b (HS.out.segs.below ((hW.mono (by omega)).trans (bx.mono (by have := hW.size; omega)))) (by have := hW.size; have := bx.size; omega) (fun i hi => (HF.out i hi).1) SO.out (fun i j a1 a2 => SM.out i j a1 a2 x) hl
  have hrc : ss.length ≤ c ∨ ss.length = 0 := by
    obtain ⟨_, ⟨_, A', c', hsl, hrow⟩, _⟩ := HS.out.segs
    simp only [Value.slice.injEq] at hsl
    obtain ⟨rfl, _, rfl⟩ := hsl
    rcases hrow with h | ⟨_, _, _, _, h, _⟩ <;> omega
  have sW := hW.size
  have l1W : h1 < W.heap.size := by omega
  have l2W : h2 < W.heap.size := by omega
  gi_wp2
  rename_i K aK
  refine wpIn_wide.2 ?_
  go_region_held3 (fun w' => w'.cell? ⟨h1, 0, none⟩ = some (.slice A ss.length c) ∧ w'.cell? ⟨h2, 0, none⟩ = some (.int .i64 x)) (first | go_keep | exact ⟨k1, k2⟩ | exact ⟨k1', k2'⟩)
    (first | (go_at_call 45; refine (SAT.out _ (Below.refl _ _).drew).mono ?_; rintro e w1 ⟨r, rfl, hF, b1⟩; have hr := hF.le; have r0 : (0 : Int) ≤ (r : Int) := Int.natCast_nonneg r; have r1 : (r : Int) ≤ (ss.length : Int) := Int.ofNat_le.2 hr; have r2 : (r : Int) ≤ (c : Int) := (by rcases hrc with h | h <;> omega); have r3 : (ss.length : Int) ≤ (c : Int) := (by rcases hrc with h | h <;> omega); have k1' : w1.cell? ⟨h1, 0, none⟩ = some (.slice A ss.length c) := (b1.cell (p := ⟨h1, 0, none⟩) l1W).trans k1; have k2' : w1.cell? ⟨h2, 0, none⟩ = some (.int .i64 x) := (b1.cell (p := ⟨h2, 0, none⟩) l2W).trans k2; have FF := Seg.hid hF; have BB : Hid (Below W.heap.size W w1) := ⟨b1.os, b1.tape, b1.output, b1.size, b1.block⟩; clear hF b1))
  refine aK _ _ ?_
  obtain ⟨A', hA'⟩ : ∃ A', A' = (if c = r then A else Option.map (fun x => x.add (r * 2)) A) := ⟨_, rfl⟩
  rw [← hA']
  have HA := Seg.hid hA'
  have KB : Hid (∀ wr, KP V n₀ W wr → wr.cell? ⟨h2, 0, none⟩ = some (.int .i64 x) ∧ SegsV wr lo b (.slice A ss.length c) ss pss) := fun wr k => ⟨(World.cell?_of_block (w := W) (a := ⟨h2, 0, none⟩) (k.block h2 l2 (fun e => (hV h2 e).2.2 rfl))).trans k2, HS.out.keep fun g hlo hg => (k.block g (by omega) (fun e => by have := (hV g e).1; omega)).trans (hW.block g (by omega))⟩
  have J1 := Seg.hid (abides_below hJ h0 BB.out)
  have K1 := Seg.hid ((KP.refl V n₀ W).below (by omega) BB.out)
  have AHD : Hid (fromP x (pss.take r).flatten = []) := fromP_nil (by rw [fst_take HS.out.1 HS.out.2.1]; exact from_ahead (x := x) (fun i hi => by obtain ⟨a1, a2, a3, a4, h, _⟩ := SB.out i hi; exact ⟨a1, a2, a3, a4, h⟩) r hr FF.out.no)
  have hpl : pss.length = ss.length := HS.out.1
  clear hA' k1' k2' aK k1 k2
  gi_wp2
  gi_loopw [14] (fun i wr => ∃ (k : Nat) (pre : List (It w lo b)), k ≤ ss.length - r ∧ i = .int .i64 k ∧ Hid (pre.map pt = fromP x (pss.take (r + k)).flatten ∧ J pre wr ∧ KP V n₀ W wr)) (fun i _ => (ss.length - r) - (intOf i).toNat)
  case atStart => exact ⟨0, [], Nat.zero_le _, rfl, AHD.out.symm, J1.out, K1.out⟩
  case round =>
    obtain ⟨k, pre, hk, rfl, HW⟩ := hrel
    by_cases hlt : k < ss.length - r
    · have q0 : (0 : Int) ≤ (k : Int) := by omega
      have q1 : (k : Int) < ((ss.length - r : Nat) : Int) := by omega
      obtain ⟨b2, sg⟩ := KB.out wr HW.out.2.2
      obtain ⟨_, hpe, H, ⟨_, A2, c2', hsl, hrow⟩, hh⟩ := sg
      simp only [Value.slice.injEq] at hsl
      obtain ⟨rfl, _, rfl⟩ := hsl
      obtain ⟨g, o, rfl, hg, hc, hcell, _⟩ := hrow.resolve_left (by omega)
      have hA2 := HA.out
      rw [if_neg (by omega)] at hA2
      obtain rfl : A' = some ⟨g, o + r * 2, none⟩ := by rw [hA2, Option.map_some, add_off]
      clear hA2
      have hgr : g < wr.heap.size := by have := HW.out.2.2.size; omega
      have h2r : h2 < wr.heap.size := by have := HW.out.2.2.size; omega
      obtain ⟨e0, e1⟩ := Segs.six hcell (r + k) (by omega)
      rw [show o + (r + k) * 2 = o + r * 2 + k * 2 by omega] at e0 e1
      have hi : r + k < ss.length := by omega
      have hip : r + k < pss.length := by omega
      have TOT := Seg.hid (totP (x := x) hip)
      have PE := Seg.hid (hpe (r + k) hi)
      have FT : Hid ((pss.take (r + (k + 1))).flatten = (pss.take (r + k)).flatten ++ pss.getD (r + k) []) := flatten_take hip
      have FS := Seg.hid (HF.out (r + k) hi)
      have BOK := Seg.hid (SO.out (r + k) hi)
      obtain ⟨fa, ea, fb, eb, hbats, _⟩ := SB.out (r + k) hi
      have BM := Seg.hid (batB_mono hbats x)
      have BAT : Hid (BatsV wr lo b (H (r + k)) (pss.getD (r + k) [])) := hh (r + k) hi
      have LPS : (pss.getD (r + k) []).length = (ss.getD (r + k) default).bats.length := by rw [← hpe (r + k) hi, List.length_map]
      obtain ⟨⟨_, A0, c0, hH0, hrow0⟩, hh0⟩ := id (hh (r + k) hi)
      rw [LPS] at hH0 hrow0
      have KJ := Seg.hid HW.out.2
      have PRE := Seg.hid HW.out.1
      have WB : Hid (∀ wx, KP V n₀ W wx → BatsV wx lo b (H (r + k)) (pss.getD (r + k) [])) := fun wx kx => BAT.out.keep fun y hlo hy => (kx.block y (by omega) (fun e => by have := (hV y e).1; omega)).trans (KJ.out.2.block y (by omega) (fun e => by have := (hV y e).1; omega)).symm
      have hch : (ss.getD (r + k) default).bats.length ≤ c0 ∨ (ss.getD (r + k) default).bats.length = 0 := by rcases hrow0 with h | ⟨_, _, _, _, h, _⟩ <;> omega
      rw [hH0] at e1 WB BAT
      have hbl := FS.out.1
      clear hcell hrow hh hrow0 hh0 hH0 hbats HW hpe
      generalize ss.getD (r + k) default = sg at *
      generalize pss.getD (r + k) [] = ps at *
      have BA2 : Hid (∀ wx, Below wr.heap.size wr wx → Calls Try.prog 49 #[.slice A0 sg.bats.length c0, .int .i64 x] wx fun e w' => ∃ q : Nat, e = .returned (.int .i64 q) ∧ Fnd (fun i => pB x (sg.bats.getD i default)) sg.bats.length q ∧ Below wx.heap.size wx w') := fun wx bx => SrW.batchAt_any _ x sg.bats wx lo b (PE.out ▸ (BAT.out.bats.below (bx.mono (by have := KJ.out.2.size; omega)))) (by have := KJ.out.2.size; have := bx.size; omega) BOK.out BM.out hbl
      have SB1 : Hid ((wr.alloc (.cells (segArr sg (.slice A0 sg.bats.length c0)) 73 (0, 0))).heap[wr.heap.size]? = some (.cells (segArr sg (.slice A0 sg.bats.length c0)) 73 (0, 0))) := heap_alloc_new _ _
      have BW1 : Hid (Below wr.heap.size wr (wr.alloc (.cells (segArr sg (.slice A0 sg.bats.length c0)) 73 (0, 0)))) := below1 wr _
      have v1 : (wr.alloc (.cells (segArr sg (.slice A0 sg.bats.length c0)) 73 (0, 0))).cell? ⟨wr.heap.size, 1, none⟩ = some (.slice A0 sg.bats.length c0) := cell_of_row _ wr.heap.size 1 _ _ (0, 0) SB1.out
      have v2 : (wr.alloc (.cells (segArr sg (.slice A0 sg.bats.length c0)) 73 (0, 0))).cell? ⟨h2, 0, none⟩ = some (.int .i64 x) := (BW1.out.cell (p := ⟨h2, 0, none⟩) h2r).trans b2
      gi_wp2
      rename_i K2 aK2
      refine wpIn_wide.2 ?_
      obtain ⟨ws, hws⟩ : ∃ ws, wr.alloc (.cells (segArr sg (.slice A0 sg.bats.length c0)) 73 (0, 0)) = ws := ⟨_, rfl⟩
      unfold segArr at hws v1 v2 SB1 BW1
      rw [hws] at v1 v2 SB1 BW1 ⊢
      have zs : wr.heap.size < ws.heap.size := by rw [← hws, hsz]; omega
      have h2s : h2 < ws.heap.size := by omega
      clear e0 e1 b2 hws
      go_region_held3 (fun w' => w'.cell? ⟨wr.heap.size, 1, none⟩ = some (.slice A0 sg.bats.length c0) ∧ w'.cell? ⟨h2, 0, none⟩ = some (.int .i64 x)) (first | go_keep | exact ⟨v1, v2⟩ | exact ⟨v1', v2'⟩)
        (first | (go_at_call 49; refine (BA2.out _ BW1.out.drew).mono ?_; rintro e w2 ⟨q, rfl, hQ, b2⟩; have hq := hQ.le; have q2 : (0 : Int) ≤ (q : Int) := Int.natCast_nonneg q; have q3 : (q : Int) ≤ (sg.bats.length : Int) := Int.ofNat_le.2 hq; have q4 : (q : Int) ≤ (c0 : Int) := (by rcases hch with h | h <;> omega); have q5 : (sg.bats.length : Int) ≤ (c0 : Int) := (by rcases hch with h | h <;> omega); have v1' : w2.cell? ⟨wr.heap.size, 1, none⟩ = some (.slice A0 sg.bats.length c0) := (b2.cell (p := ⟨wr.heap.size, 1, none⟩) zs).trans v1; have v2' : w2.cell? ⟨h2, 0, none⟩ = some (.int .i64 x) := (b2.cell (p := ⟨h2, 0, none⟩) h2s).trans v2; have QQ := Seg.hid hQ; have BQ : Hid (Below wr.heap.size wr w2) := ⟨b2.os.trans BW1.out.os, b2.tape.trans BW1.out.tape, b2.output.trans BW1.out.output, Nat.le_trans BW1.out.size b2.size, fun y hy => (b2.block y (Nat.lt_of_lt_of_le hy BW1.out.size)).trans (BW1.out.block y hy)⟩; clear hQ b2))
      refine aK2 _ _ ?_
      obtain ⟨A4, hA4⟩ : ∃ A4, A4 = (if c0 = q then A0 else Option.map (fun x => x.add (q * 7)) A0) := ⟨_, rfl⟩
      rw [← hA4]
      have HA4 := Seg.hid hA4
      have J2 := Seg.hid (abides_below hJ KJ.out.1 BQ.out)
      have K3 := Seg.hid (KJ.out.2.below (by omega) BQ.out)
      have FB := Seg.hid (found_pairs PE.out QQ.out BM.out)
      clear hA4 v1' v2' aK2 v1 v2
      gi_wp2
      gi_loopw [26] (fun i wk => ∃ (k2 : Nat) (pre2 : List (It w lo b)), k2 ≤ sg.bats.length - q ∧ i = .int .i64 k2 ∧ Hid (pre2.map pt = fromP x (pss.take (r + k)).flatten ++ (ps.drop q).take k2 ∧ J pre2 wk ∧ KP V n₀ W wk)) (fun i _ => (sg.bats.length - q) - (intOf i).toNat)
      case atStart => exact ⟨0, pre, Nat.zero_le _, rfl, by simpa using PRE.out, J2.out, K3.out⟩
      case round =>
        obtain ⟨k2, pre2, hk2, rfl, HK⟩ := hrel
        have KK := Seg.hid HK.out.2
        by_cases hlt2 : k2 < sg.bats.length - q
        · have q6 : (0 : Int) ≤ (k2 : Int) := by omega
          have q7 : (k2 : Int) < ((sg.bats.length - q : Nat) : Int) := by omega
          obtain ⟨⟨_, A5, c5, hsl, hrow⟩, hh⟩ := WB.out wr KK.out.2
          rw [LPS] at hsl hrow
          simp only [Value.slice.injEq] at hsl
          obtain ⟨rfl, _, rfl⟩ := hsl
          obtain ⟨g4, o4, rfl, hg4, hc4, hcell, _⟩ := hrow.resolve_left (by omega)
          have hA4 := HA4.out
          rw [if_neg (by omega)] at hA4
          obtain rfl : A4 = some ⟨g4, o4 + q * 7, none⟩ := by rw [hA4, Option.map_some, add_off]
          clear hA4
          have hg4r : g4 < wr.heap.size := by have := KK.out.2.size; omega
          obtain ⟨e0, e1, e2, e3, e4, e5, e6⟩ := Bats.six hcell (q + k2) (by omega)
          rw [getD_fst] at e0 e1 e2 e3 e4 e5
          rw [show o4 + (q + k2) * 7 = o4 + q * 7 + k2 * 7 by omega] at e0 e1 e2 e3 e4 e5 e6
          have hqk : q + k2 < sg.bats.length := by omega
          have RA := hh (q + k2) (by omega)
          have EQ : sg.bats.getD (q + k2) default = (ps.getD (q + k2) default).1 := by rw [← PE.out, getD_fst]
          have RW : RecsAt w lo b (ps.getD (q + k2) default).2 (ps.getD (q + k2) default).1.recs := RA.keep fun y hlo hy => ((KK.out.2.block y (by omega) (fun e => by have := (hV y e).1; omega)).trans (hW.block y (by omega))).symm
          obtain ⟨_, ⟨_, A6, c6, hH6, _⟩, _⟩ := RA
          have NX : Hid (∀ it : It w lo b, pt it = ps.getD (q + k2) default → (pre2 ++ [it]).map pt = fromP x (pss.take (r + k)).flatten ++ (ps.drop q).take (k2 + 1)) := fun it hit => by
            rw [List.map_append, HK.out.1, takeOne (ts := ps.drop q) (by rw [List.length_drop]; omega), getDD, ← List.append_assoc]
            simp [hit]
          have PFX : Hid (fromP x (pss.take (r + k)).flatten ++ (ps.drop q).take (k2 + 1) <+: fromP x pss.flatten) := by
            show _ <+: _
            rw [TOT.out, FB.out]
            refine ⟨(ps.drop q).drop (k2 + 1) ++ fromP x (pss.drop (r + k + 1)).flatten, ?_⟩
            rw [List.append_assoc, ← List.append_assoc ((ps.drop q).take (k2 + 1)), List.take_append_drop]
          have LEN : pre2.length < N := by
            have h1 := PFX.out.length_le
            have h2 : pre2.length = (pre2.map pt).length := by simp
            rw [HK.out.1] at h2
            simp only [List.length_append, List.length_take, List.length_drop] at h1 h2
            omega
          have FK := EQ ▸ FS.out.2 (q + k2) hqk
          have OK := EQ ▸ BOK.out (q + k2) hqk
          have JJ : Hid (J pre2 (wr.alloc (.cells (BatW.batArr (ps.getD (q + k2) default).1 (.slice A6 (ps.getD (q + k2) default).1.recs.length c6)) 52 (0, 0)))) := abides_below hJ KK.out.1 (below1 wr _)
          rw [hH6] at e6 RW
          have E6 : Hid (ps.getD (q + k2) default = ((ps.getD (q + k2) default).1, .slice A6 (ps.getD (q + k2) default).1.recs.length c6)) := by show _ = _; rw [← hH6]
          rw [E6.out] at NX
          clear hcell hrow hh HK hH6 EQ E6
          try dsimp only at NX
          generalize (ps.getD (q + k2) default).1 = tk at *
          obtain ⟨fn, tmps, assign, body, hy, hR⟩ := HY.out pre2 ⟨(tk, .slice A6 tk.recs.length c6), RW, FK, OK⟩ _ JJ.out LEN
          have NX1 := Seg.hid (NX.out ⟨(tk, .slice A6 tk.recs.length c6), RW, FK, OK⟩ rfl)
          have K9 := Seg.hid (KK.out.2.below (by omega) (below1 wr (.cells (BatW.batArr tk (.slice A6 tk.recs.length c6)) 52 (0, 0))))
          unfold batVal at hy
          unfold BatW.batArr at hy hR
          dsimp only at hy
          gi_wp2
          refine hR.mono ?_
          rintro e W3 (⟨rfl, hJ3, hk3⟩ | ⟨rfl, hJx3⟩)
          · have JX := Seg.hid hJ3
            have KX := Seg.hid (K9.out.kp (by omega) hk3)
            clear hJ3 hk3 hy hR
            gi_wp2
            go_roundw
            case rel => exact ⟨k2 + 1, _, by omega, by go_num, NX1.out, JX.out, KX.out⟩
            case measure => simp [intOf]; omega
          · have JX := Seg.hid hJx3
            clear hJx3 hy hR
            gi_wp2
            refine bodyPost_ret (results_none rfl _ _ _) rfl ?_
            exact ⟨⟨_, rfl⟩, .inr ⟨_, by rw [NX1.out]; exact PFX.out, JX.out⟩⟩
        · have PN : Hid (pre2.map pt = fromP x (pss.take (r + (k + 1))).flatten) := by
            show _ = _
            rw [HK.out.1, FT.out, fromP_app, FB.out, List.take_of_length_le (l := ps.drop q) (by rw [List.length_drop]; omega)]
          have q7 : ¬ (k2 : Int) < ((sg.bats.length - q : Nat) : Int) := by omega
          clear HK
          gi_wp2
          go_roundw
          case rel => exact ⟨k + 1, pre2, by omega, by go_num, PN.out, KK.out⟩
          case measure => simp [intOf]; omega
    · have EALL : Hid (pre.map pt = fromP x pss.flatten) := by show _ = _; rw [HW.out.1, List.take_of_length_le (by omega)]
      have JJ := Seg.hid HW.out.2.1
      have q1 : ¬ (k : Int) < ((ss.length - r : Nat) : Int) := by omega
      clear HW
      gi_wp2
      go_end0
      exact ⟨⟨_, rfl⟩, .inl ⟨pre, EALL.out, JJ.out⟩⟩
end Go.Proofs.Ytggjinjadllapaa.BfQ
