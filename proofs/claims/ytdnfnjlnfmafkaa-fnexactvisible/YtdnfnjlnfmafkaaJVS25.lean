/- The program's batchesFrom: what ranges over it. -/
import Derived.RangeFuncNested
import Derived.RangeFuncBound
import Derived.RangeFuncCalls
import Derived.RangeFuncLeaves
import Derived.Shelf.Abstract
import Derived.Shelf.RegionOpen
import Derived.WalkKit
import Derived.OwnWalkIn
import Derived.TacticsInMore
import Derived.LoopNIn
import Derived.LoopIn
import Derived.Deep.RegionHeld3
import Derived.Test.YtdnfnjlnfmafkaaJVS11
import Derived.Test.YtdnfnjlnfmafkaaJVS24
import Derived.Test.YtdnfnjlnfmafkaaJVS14
namespace Go.Proofs.Ytdnfnjlnfmafkaa.BfI
set_option maxRecDepth 8000
open Go.RowKit Go.Shelf
open Recs (hsz below1 below2 chain chainD BatAt RecsAt Bat batVal FewB FewR)
open Bats SegW Segs LogW SrP BfP
open Ft (Foot)
set_option linter.unusedVariables false
attribute [local go_sem] Oper.semAt_some
/-- What is handed on: a right batch and the value of its list of Records. -/
abbrev It (w0 : World) (lo b : Nat) := { p : Bat × Value // RecsAt w0 lo b p.2 p.1.recs ∧ FewB p.1 ∧ BOk.batOk p.1 = true }
def bt {w0 : World} {lo b : Nat} (p : It w0 lo b) : Bat := p.1.1
/-- What a round that goes on keeps: all that lay, but the variables V. -/
def Kp (V : Nat → Prop) (n₀ : Nat) (A B : World) : Prop := Foot A B (fun k => V k ∨ n₀ ≤ k)
theorem kp_t {V : Nat → Prop} {n₀ : Nat} {A B C : World} (h : Kp V n₀ A B) (k : Kp V n₀ B C) : Kp V n₀ A C := Foot.trans h k (fun _ h => h)
theorem kp_b {V : Nat → Prop} {n₀ : Nat} {w : World} (hn : n₀ ≤ w.heap.size) (W : World) (l : Nat) (o o' : Obj) (hl : w.heap.size ≤ l) (h : W.heap[l]? = some o) (_ : o.isCells = false) (_ : o.isWalk = false) : Kp V n₀ W (W.putObj l o') := by
  have hg := grownBy_putObj' W l o'
  exact ⟨hg.os, hg.tape, hg.output, hg.size, fun k hk hne => hg.block k hk (fun e => hne (.inr (by cases e; omega)))⟩
theorem abides_below {β : Type} {B : Nat} {J : β → World → Prop} (hJ : AbidesFrom B J) {s : β} {wr w' : World} (h : J s wr) (b : Below wr.heap.size wr w') : J s w' := hJ s wr w' none h ⟨b.os, b.tape, b.output, b.size, fun k hk _ => b.block k hk⟩ (fun r e => by cases e)
theorem add_off (g o k : Nat) : (⟨g, o, none⟩ : Addr).add k = ⟨g, o + k, none⟩ := by unfold Addr.add; split <;> simp_all
theorem tot {x : Int} {ss : List Sg} {i : Nat} (h : i < ss.length) : fromB x (flatB ss) = fromB x (flatB (ss.take i)) ++ (fromB x (ss.getD i default).bats ++ fromB x (flatB (ss.drop (i + 1)))) := by
  rw [← fromB_app, ← fromB_app, ← List.append_assoc, ← flatB_take h, ← flatB_app, List.take_append_drop]
/-- What lay is as it was, but for the variables V. -/
structure KP (V : Nat → Prop) (n₀ : Nat) (W wr : World) : Prop where
  block : ∀ y, y < n₀ → ¬ V y → wr.heap[y]? = W.heap[y]?
  size : W.heap.size ≤ wr.heap.size
theorem KP.refl (V : Nat → Prop) (n₀ : Nat) (W : World) : KP V n₀ W W := ⟨fun _ _ _ => rfl, Nat.le_refl _⟩
theorem KP.below {V : Nat → Prop} {n₀ : Nat} {W wr w' : World} (h : KP V n₀ W wr) (hn : n₀ ≤ W.heap.size) (b : Below wr.heap.size wr w') : KP V n₀ W w' := ⟨fun y h1 h2 => (b.block y (by have := h.size; omega)).trans (h.block y h1 h2), Nat.le_trans h.size b.size⟩
theorem KP.kp {V : Nat → Prop} {n₀ : Nat} {W wr w' : World} (h : KP V n₀ W wr) (hn : n₀ ≤ W.heap.size) (k : Kp V n₀ wr w') : KP V n₀ W w' := ⟨fun y h1 h2 => (k.block y (by have := h.size; omega) (fun e => e.elim h2 (fun e => by omega))).trans (h.block y h1 h2), Nat.le_trans h.size k.size⟩
set_option maxHeartbeats 3200000 in
theorem stops (n : Nat) (hn : 1 ≤ n) (V : Nat → Prop) (n₀ N h1 h2 lo b c : Nat) (A : Option Addr) (x f : Int) (ss : List Sg) (w : World) (hs : SegsAt w lo b (.slice A ss.length c) ss) (hbn : b ≤ n₀) (hnw : n₀ ≤ w.heap.size) (hV : ∀ k, V k → b ≤ k ∧ k ≠ h1 ∧ k ≠ h2)
    (c1 : w.cell? ⟨h1, 0, none⟩ = some (.slice A ss.length c)) (l1 : h1 < n₀) (c2 : w.cell? ⟨h2, 0, none⟩ = some (.int .i64 x)) (l2 : h2 < n₀) (hl : ss.length ≤ 1048576) (hf : ∀ i, i < ss.length → FewS (ss.getD i default)) (hok : LgP.segs 0 0 ss = some f) (hN : (fromB x (flatB ss)).length ≤ N) :
    SeqStopsK Fence.wide n Try.prog 44 #[.pointer (some ⟨h1, 0, none⟩), .pointer (some ⟨h2, 0, none⟩)] (fun p : It w lo b => #[batVal p.1.1 p.1.2]) (Kp V n₀) (fun xs => xs.map bt = fromB x (flatB ss)) (fun pre => pre.map bt <+: fromB x (flatB ss)) N w := by
  intro l J Jx W hW hJ hJx hY h0
  refine callsIn_of_wp Try.func44 rfl trivial ?_ rfl
  simp only [Try.ntmps44, List.size_toArray, List.length_cons, List.length_nil, Nat.reduceAdd, Nat.reduceSub, Array.replicate_succ, Array.replicate_zero, List.push_toArray, List.append_toArray, List.nil_append, List.cons_append]
  have HY := Seg.hid hY
  have HS := Seg.hid hs
  clear hY hs
  have k1 : W.cell? ⟨h1, 0, none⟩ = some (.slice A ss.length c) := (hW.cell (p := ⟨h1, 0, none⟩) (by show h1 < _; omega)).trans c1
  have k2 : W.cell? ⟨h2, 0, none⟩ = some (.int .i64 x) := (hW.cell (p := ⟨h2, 0, none⟩) (by show h2 < _; omega)).trans c2
  have SO := Seg.hid (segs_ok _ _ _ _ hok); have SM := Seg.hid (segs_mono _ _ _ _ hok); have SB := Seg.hid (segs_bats _ _ _ _ hok)
  have HF := Seg.hid hf
  have SAT : Hid (∀ wx, Below W.heap.size W wx → Calls Try.prog 45 #[.slice A ss.length c, .int .i64 x] wx fun e w' => ∃ r : Nat, e = .returned (.int .i64 r) ∧ Fnd (fun i => pS x (ss.getD i default)) ss.length r ∧ Below wx.heap.size wx w') := fun wx bx => SrW.segmentAt_any _ x ss wx lo b (HS.out.below ((hW.mono (by omega)).trans (bx.mono (by have := hW.size; omega)))) (by have := hW.size; have := bx.size; omega) (fun i hi => (HF.out i hi).1) SO.out (fun i j a1 a2 => SM.out i j a1 a2 x) hl
  have hrc : ss.length ≤ c ∨ ss.length = 0 := by
    obtain ⟨_, ⟨_, A', c', hsl, hrow⟩, _⟩ := HS.out
    simp only [Value.slice.injEq] at hsl
    obtain ⟨rfl, _, rfl⟩ := hsl
    rcases hrow with h | ⟨_, _, _, _, h, _⟩ <;> omega
  have sW := hW.size
  have l1W : h1 < W.heap.size := by omega
  have l2W : h2 < W.heap.size := by omega
  gi_wp2
  rename_i K aK
  refine wpIn_wide.2 ?_
  go_region_held3 (fun w' => w'.cell? ⟨h1, 0, none⟩ = some (.slice A ss.length c) ∧ w'.cell? ⟨h2, 0, none⟩ = some (.int .i64 x)) (first | go_keep | exact ⟨k1, k2⟩ | exact ⟨k1', k2'⟩)
    (first | (go_at_call 45; refine (SAT.out _ (Below.refl _ _).drew).mono ?_; rintro e w1 ⟨r, rfl, hF, b1⟩; have hr := hF.le; have r0 : (0 : Int) ≤ (r : Int) := Int.natCast_nonneg r; have r1 : (r : Int) ≤ (ss.length : Int) := Int.ofNat_le.2 hr; have r2 : (r : Int) ≤ (c : Int) := (by rcases hrc with h | h <;> omega); have r3 : (ss.length : Int) ≤ (c : Int) := (by rcases hrc with h | h <;> omega); have k1' : w1.cell? ⟨h1, 0, none⟩ = some (.slice A ss.length c) := (b1.cell (p := ⟨h1, 0, none⟩) l1W).trans k1; have k2' : w1.cell? ⟨h2, 0, none⟩ = some (.int .i64 x) := (b1.cell (p := ⟨h2, 0, none⟩) l2W).trans k2; have FF := Seg.hid hF; have BB : Hid (Below W.heap.size W w1) := ⟨b1.os, b1.tape, b1.output, b1.size, b1.block⟩; clear hF b1))
  refine aK _ _ ?_
  obtain ⟨A', hA'⟩ : ∃ A', A' = (if c = r then A else Option.map (fun x => x.add (r * 2)) A) := ⟨_, rfl⟩
  rw [← hA']
  have HA := Seg.hid hA'
  have KB : Hid (∀ wr, KP V n₀ W wr → wr.cell? ⟨h2, 0, none⟩ = some (.int .i64 x) ∧ SegsAt wr lo b (.slice A ss.length c) ss) := fun wr k => ⟨(World.cell?_of_block (w := W) (a := ⟨h2, 0, none⟩) (k.block h2 l2 (fun e => (hV h2 e).2.2 rfl))).trans k2, HS.out.keep fun g _ hg => (k.block g (by omega) (fun e => by have := (hV g e).1; omega)).trans (hW.block g (by omega))⟩
  have J1 := Seg.hid (abides_below hJ h0 BB.out)
  have K1 := Seg.hid ((KP.refl V n₀ W).below (by omega) BB.out)
  have AHD := Seg.hid (from_ahead (x := x) (fun i hi => by obtain ⟨a1, a2, a3, a4, h, _⟩ := SB.out i hi; exact ⟨a1, a2, a3, a4, h⟩) r hr FF.out.no)
  clear hA' k1' k2' aK k1 k2
  gi_wp2
  gi_loopw [14] (fun i wr => ∃ (k : Nat) (pre : List (It w lo b)), k ≤ ss.length - r ∧ i = .int .i64 k ∧ Hid (pre.map bt = fromB x (flatB (ss.take (r + k))) ∧ J pre wr ∧ KP V n₀ W wr)) (fun i _ => (ss.length - r) - (intOf i).toNat)
  case atStart => exact ⟨0, [], Nat.zero_le _, rfl, AHD.out.symm, J1.out, K1.out⟩
  case round =>
    obtain ⟨k, pre, hk, rfl, HW⟩ := hrel
    by_cases hlt : k < ss.length - r
    · have q0 : (0 : Int) ≤ (k : Int) := by omega
      have q1 : (k : Int) < ((ss.length - r : Nat) : Int) := by omega
      obtain ⟨b2, sg⟩ := KB.out wr HW.out.2.2
      obtain ⟨H, ⟨_, A2, c2', hsl, hrow⟩, hh⟩ := sg
      simp only [Value.slice.injEq] at hsl
      obtain ⟨rfl, _, rfl⟩ := hsl
      obtain ⟨g, o, rfl, hg, hc, hcell, _⟩ := hrow.resolve_left (by omega)
      have hA2 := HA.out
      rw [if_neg (by omega)] at hA2
      obtain rfl : A' = some ⟨g, o + r * 2, none⟩ := by rw [hA2, Option.map_some, add_off]
      clear hA2
      have hgr : g < wr.heap.size := by have := HW.out.2.2.size; omega
      have h2r : h2 < wr.heap.size := by have := HW.out.2.2.size; omega
      obtain ⟨e0, e1⟩ := Segs.six hcell (r + k) (by omega)
      rw [show o + (r + k) * 2 = o + r * 2 + k * 2 by omega] at e0 e1
      have hi : r + k < ss.length := by omega
      have TOT := Seg.hid (tot (x := x) hi)
      have FT : Hid (flatB (ss.take (r + (k + 1))) = flatB (ss.take (r + k)) ++ (ss.getD (r + k) default).bats) := flatB_take hi
      have FS := Seg.hid (HF.out (r + k) hi)
      have BOK := Seg.hid (SO.out (r + k) hi)
      obtain ⟨fa, ea, fb, eb, hbats, _⟩ := SB.out (r + k) hi
      have BM := Seg.hid (batB_mono hbats x)
      have BAT := Seg.hid (hh (r + k) hi)
      obtain ⟨H0, ⟨_, A0, c0, hH0, hrow0⟩, hh0⟩ := id (hh (r + k) hi)
      have KJ := Seg.hid HW.out.2
      have PRE := Seg.hid HW.out.1
      have WB : Hid (∀ wx, KP V n₀ W wx → BatsAt wx lo b (H (r + k)) (ss.getD (r + k) default).bats) := fun wx kx => BAT.out.keep fun y _ hy => (kx.block y (by omega) (fun e => by have := (hV y e).1; omega)).trans (KJ.out.2.block y (by omega) (fun e => by have := (hV y e).1; omega)).symm
      have WW : Hid (BatsAt w lo b (H (r + k)) (ss.getD (r + k) default).bats) := BAT.out.keep fun y _ hy => ((KJ.out.2.block y (by omega) (fun e => by have := (hV y e).1; omega)).trans (hW.block y (by omega))).symm
      have hch : (ss.getD (r + k) default).bats.length ≤ c0 ∨ (ss.getD (r + k) default).bats.length = 0 := by rcases hrow0 with h | ⟨_, _, _, _, h, _⟩ <;> omega
      rw [hH0] at e1 WB WW BAT
      have hbl := FS.out.1
      clear hcell hrow hh hrow0 hh0 hH0 hbats HW
      generalize ss.getD (r + k) default = sg at *
      have BA2 : Hid (∀ wx, Below wr.heap.size wr wx → Calls Try.prog 46 #[.slice A0 sg.bats.length c0, .int .i64 x] wx fun e w' => ∃ q : Nat, e = .returned (.int .i64 q) ∧ Fnd (fun i => pB x (sg.bats.getD i default)) sg.bats.length q ∧ Below wx.heap.size wx w') := fun wx bx => SrW.batchAt_any _ x sg.bats wx lo b (BAT.out.below (bx.mono (by have := KJ.out.2.size; omega))) (by have := KJ.out.2.size; have := bx.size; omega) BOK.out BM.out hbl
      have SB1 : Hid ((wr.alloc (.cells (segArr sg (.slice A0 sg.bats.length c0)) 73 (0, 0))).heap[wr.heap.size]? = some (.cells (segArr sg (.slice A0 sg.bats.length c0)) 73 (0, 0))) := heap_alloc_new _ _
      have BW1 : Hid (Below wr.heap.size wr (wr.alloc (.cells (segArr sg (.slice A0 sg.bats.length c0)) 73 (0, 0)))) := below1 wr _
      have v1 : (wr.alloc (.cells (segArr sg (.slice A0 sg.bats.length c0)) 73 (0, 0))).cell? ⟨wr.heap.size, 1, none⟩ = some (.slice A0 sg.bats.length c0) := cell_of_row _ wr.heap.size 1 _ _ (0, 0) SB1.out
      have v2 : (wr.alloc (.cells (segArr sg (.slice A0 sg.bats.length c0)) 73 (0, 0))).cell? ⟨h2, 0, none⟩ = some (.int .i64 x) := (BW1.out.cell (p := ⟨h2, 0, none⟩) h2r).trans b2
      gi_wp2
      rename_i K2 aK2
      refine wpIn_wide.2 ?_
      obtain ⟨ws, hws⟩ : ∃ ws, wr.alloc (.cells (segArr sg (.slice A0 sg.bats.length c0)) 73 (0, 0)) = ws := ⟨_, rfl⟩
      unfold segArr at hws v1 v2 SB1 BW1
      rw [hws] at v1 v2 SB1 BW1 ⊢
      have zs : wr.heap.size < ws.heap.size := by rw [← hws, hsz]; omega
      have h2s : h2 < ws.heap.size := by omega
      clear e0 e1 b2 hws
      go_region_held3 (fun w' => w'.cell? ⟨wr.heap.size, 1, none⟩ = some (.slice A0 sg.bats.length c0) ∧ w'.cell? ⟨h2, 0, none⟩ = some (.int .i64 x)) (first | go_keep | exact ⟨v1, v2⟩ | exact ⟨v1', v2'⟩)
        (first | (go_at_call 46; refine (BA2.out _ BW1.out.drew).mono ?_; rintro e w2 ⟨q, rfl, hQ, b2⟩; have hq := hQ.le; have q2 : (0 : Int) ≤ (q : Int) := Int.natCast_nonneg q; have q3 : (q : Int) ≤ (sg.bats.length : Int) := Int.ofNat_le.2 hq; have q4 : (q : Int) ≤ (c0 : Int) := (by rcases hch with h | h <;> omega); have q5 : (sg.bats.length : Int) ≤ (c0 : Int) := (by rcases hch with h | h <;> omega); have v1' : w2.cell? ⟨wr.heap.size, 1, none⟩ = some (.slice A0 sg.bats.length c0) := (b2.cell (p := ⟨wr.heap.size, 1, none⟩) zs).trans v1; have v2' : w2.cell? ⟨h2, 0, none⟩ = some (.int .i64 x) := (b2.cell (p := ⟨h2, 0, none⟩) h2s).trans v2; have QQ := Seg.hid hQ; have BQ : Hid (Below wr.heap.size wr w2) := ⟨b2.os.trans BW1.out.os, b2.tape.trans BW1.out.tape, b2.output.trans BW1.out.output, Nat.le_trans BW1.out.size b2.size, fun y hy => (b2.block y (Nat.lt_of_lt_of_le hy BW1.out.size)).trans (BW1.out.block y hy)⟩; clear hQ b2))
      refine aK2 _ _ ?_
      obtain ⟨A4, hA4⟩ : ∃ A4, A4 = (if c0 = q then A0 else Option.map (fun x => x.add (q * 7)) A0) := ⟨_, rfl⟩
      rw [← hA4]
      have HA4 := Seg.hid hA4
      have J2 := Seg.hid (abides_below hJ KJ.out.1 BQ.out)
      have K3 := Seg.hid (KJ.out.2.below (by omega) BQ.out)
      have FB := Seg.hid (found_from QQ.out BM.out)
      clear hA4 v1' v2' aK2 v1 v2
      gi_wp2
      gi_loopw [26] (fun i wk => ∃ (k2 : Nat) (pre2 : List (It w lo b)), k2 ≤ sg.bats.length - q ∧ i = .int .i64 k2 ∧ Hid (pre2.map bt = fromB x (flatB (ss.take (r + k))) ++ (sg.bats.drop q).take k2 ∧ J pre2 wk ∧ KP V n₀ W wk)) (fun i _ => (sg.bats.length - q) - (intOf i).toNat)
      case atStart => exact ⟨0, pre, Nat.zero_le _, rfl, by simpa using PRE.out, J2.out, K3.out⟩
      case round =>
        obtain ⟨k2, pre2, hk2, rfl, HK⟩ := hrel
        have KK := Seg.hid HK.out.2
        by_cases hlt2 : k2 < sg.bats.length - q
        · have q6 : (0 : Int) ≤ (k2 : Int) := by omega
          have q7 : (k2 : Int) < ((sg.bats.length - q : Nat) : Int) := by omega
          obtain ⟨H4, ⟨_, A5, c5, hsl, hrow⟩, hh⟩ := WB.out wr KK.out.2
          simp only [Value.slice.injEq] at hsl
          obtain ⟨rfl, _, rfl⟩ := hsl
          obtain ⟨g4, o4, rfl, hg4, hc4, hcell, _⟩ := hrow.resolve_left (by omega)
          have hA4 := HA4.out
          rw [if_neg (by omega)] at hA4
          obtain rfl : A4 = some ⟨g4, o4 + q * 7, none⟩ := by rw [hA4, Option.map_some, add_off]
          clear hA4
          have hg4r : g4 < wr.heap.size := by have := KK.out.2.size; omega
          obtain ⟨e0, e1, e2, e3, e4, e5, e6⟩ := Bats.six hcell (q + k2) (by omega)
          rw [show o4 + (q + k2) * 7 = o4 + q * 7 + k2 * 7 by omega] at e0 e1 e2 e3 e4 e5 e6
          have hqk : q + k2 < sg.bats.length := by omega
          have RA := hh (q + k2) hqk
          have RW : RecsAt w lo b (H4 (q + k2)) (sg.bats.getD (q + k2) default).recs := RA.keep fun y _ hy => ((KK.out.2.block y (by omega) (fun e => by have := (hV y e).1; omega)).trans (hW.block y (by omega))).symm
          obtain ⟨_, ⟨_, A6, c6, hH6, _⟩, _⟩ := RA
          have NX : Hid (∀ it : It w lo b, bt it = sg.bats.getD (q + k2) default → (pre2 ++ [it]).map bt = fromB x (flatB (ss.take (r + k))) ++ (sg.bats.drop q).take (k2 + 1)) := fun it hit => by
            rw [List.map_append, HK.out.1, takeOne (ts := sg.bats.drop q) (by rw [List.length_drop]; omega), getDD, ← List.append_assoc]
            simp [hit]
          have PFX : Hid (fromB x (flatB (ss.take (r + k))) ++ (sg.bats.drop q).take (k2 + 1) <+: fromB x (flatB ss)) := by
            show _ <+: _
            rw [TOT.out, FB.out]
            refine ⟨(sg.bats.drop q).drop (k2 + 1) ++ fromB x (flatB (ss.drop (r + k + 1))), ?_⟩
            rw [List.append_assoc, ← List.append_assoc ((sg.bats.drop q).take (k2 + 1)), List.take_append_drop]
          have LEN : pre2.length < N := by
            have h1 := PFX.out.length_le
            have h2 : pre2.length = (pre2.map bt).length := by simp
            rw [HK.out.1] at h2
            simp only [List.length_append, List.length_take, List.length_drop] at h1 h2
            omega
          have FK := FS.out.2 (q + k2) hqk
          have OK := BOK.out (q + k2) hqk
          have JJ : Hid (J pre2 (wr.alloc (.cells (BatW.batArr (sg.bats.getD (q + k2) default) (.slice A6 (sg.bats.getD (q + k2) default).recs.length c6)) 48 (0, 0)))) := abides_below hJ KK.out.1 (below1 wr _)
          rw [hH6] at e6 RW
          clear hcell hrow hh HK hH6
          generalize sg.bats.getD (q + k2) default = tk at *
          obtain ⟨fn, tmps, assign, body, hy, hR⟩ := HY.out pre2 ⟨(tk, .slice A6 tk.recs.length c6), RW, FK, OK⟩ _ JJ.out LEN
          have NX1 := Seg.hid (NX.out ⟨(tk, .slice A6 tk.recs.length c6), RW, FK, OK⟩ rfl)
          have K9 := Seg.hid (KK.out.2.below (by omega) (below1 wr (.cells (BatW.batArr tk (.slice A6 tk.recs.length c6)) 48 (0, 0))))
          unfold batVal at hy
          unfold BatW.batArr at hy hR
          dsimp only at hy
          gi_wp2
          refine hR.mono ?_
          rintro e W3 (⟨rfl, hJ3, hk3⟩ | ⟨rfl, hJx3⟩)
          · have JX := Seg.hid hJ3
            have KX := Seg.hid (K9.out.kp (by omega) hk3)
            clear hJ3 hk3 hy hR
            gi_wp2
            go_roundw
            case rel => exact ⟨k2 + 1, _, by omega, by go_num, NX1.out, JX.out, KX.out⟩
            case measure => simp [intOf]; omega
          · have JX := Seg.hid hJx3
            clear hJx3 hy hR
            gi_wp2
            refine bodyPost_ret (results_none rfl _ _ _) rfl ?_
            exact ⟨⟨_, rfl⟩, .inr ⟨_, by rw [NX1.out]; exact PFX.out, JX.out⟩⟩
        · have PN : Hid (pre2.map bt = fromB x (flatB (ss.take (r + (k + 1))))) := by
            show _ = _
            rw [HK.out.1, FT.out, fromB_app, FB.out, List.take_of_length_le (l := sg.bats.drop q) (by rw [List.length_drop]; omega)]
          have q7 : ¬ (k2 : Int) < ((sg.bats.length - q : Nat) : Int) := by omega
          clear HK
          gi_wp2
          go_roundw
          case rel => exact ⟨k + 1, pre2, by omega, by go_num, PN.out, KK.out⟩
          case measure => simp [intOf]; omega
    · have EALL : Hid (pre.map bt = fromB x (flatB ss)) := by show _ = _; rw [HW.out.1, List.take_of_length_le (by omega)]
      have JJ := Seg.hid HW.out.2.1
      have q1 : ¬ (k : Int) < ((ss.length - r : Nat) : Int) := by omega
      clear HW
      gi_wp2
      go_end0
      exact ⟨⟨_, rfl⟩, .inl ⟨pre, EALL.out, JJ.out⟩⟩
end Go.Proofs.Ytdnfnjlnfmafkaa.BfI
