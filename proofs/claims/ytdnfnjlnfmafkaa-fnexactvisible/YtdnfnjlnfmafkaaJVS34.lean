/- The program's Visible. -/
import Derived.Scope
import Derived.Sort.CutIn
import Derived.BigQuiet
import Derived.Test.YtdnfnjlnfmafkaaJVS20
import Derived.Test.YtdnfnjlnfmafkaaJVS23
import Derived.Test.YtdnfnjlnfmafkaaJVS28
import Derived.Test.YtdnfnjlnfmafkaaJVS29
import Derived.Test.YtdnfnjlnfmafkaaJVS32
import Derived.Test.YtdnfnjlnfmafkaaJVS33
namespace Go.Proofs.Ytdnfnjlnfmafkaa.VsI
set_option maxRecDepth 8000
open Go.RowKit Go.Shelf
open Ls VsP VsO SdQ SdP
open Recs (hsz below1 below2 below3 chain chainD RecsAt Bat Rec Row batVal at3)
open Bats SegW Segs LogW BfP SrP
open BfI (Kp kp_t kp_b)
open BfX (It bt)
open LgP (logOk inR)
open Ft (OwnH IsC)
open Lp (Opn opn)
open Of (four ok_all flat_count batchesFrom_any keeps_of_below kp_of_below block_own)
set_option linter.unusedVariables false
attribute [local go_sem] Oper.semAt_some
theorem pr_own {w2 W W' : World} {n0 : Nat} {V : Nat → Prop} {v : Value} {ps : List RV} {row : Option Nat} (h : PR w2 W n0 V v ps) (hg : W.grownBy W' row) (hr : ∀ r, row = some r → w2.heap.size ≤ r ∧ ∃ o : Obj, W.heap[r]? = some o ∧ o.isCells = false) : PR w2 W' n0 V v ps :=
  h.grownC hg (fun r e => .inl ⟨(hr r e).1, fun hc => by
    obtain ⟨_, o, ho, hc'⟩ := hr r e
    obtain ⟨cs, t, fr, h'⟩ := hc
    rw [h'] at ho
    cases ho
    cases hc'⟩)
theorem bits4 {f : Int} (h : 0 ≤ f ∧ f ≤ 7) : bits BinOp.and IntKind.i64 f 4 = if 4 ≤ f then 4 else 0 := by
  rcases SdM.flags_ways h.1 h.2 with rfl | rfl | rfl | rfl | rfl | rfl | rfl | rfl <;> decide
/-- What stands ahead of the loop. -/
structure Cv (w w1 wx : World) (l : Lg) (x : Int) (s : Bool) (v : Value) : Prop where
  T : wx.heap[w.heap.size]? = some (.cells (logArr l v) 31 (0, 0))
  F : wx.heap[w.heap.size + 1]? = some (.cells #[.int .i64 x] 3 (0, 0))
  E : wx.heap[w.heap.size + 1 + 1]? = some (.cells #[] 55 (0, 0))
  L : wx.heap[w.heap.size + 1 + 1 + 1]? = some (.cells #[.slice (some ⟨w.heap.size + 1 + 1, 0, none⟩) 0 0] 26 (0, 0))
  N : wx.heap[w1.heap.size + 1]? = some (.cells #[.int .i64 (endV l s)] 3 (0, 0))
  G : ∃ gv, wx.heap[w1.heap.size + 1 + 1]? = some (.cells #[gv] 41 (0, 0)) ∧ LAt 3 EGon wx (fun y => y = w1.heap.size ∨ w1.heap.size + 3 ≤ y ∧ y < wx.heap.size) gv (gonV l s)
  bel : Below w.heap.size w wx
  size : w1.heap.size + 3 ≤ wx.heap.size
theorem rowForm {w : World} {base ty s n : Nat} {v : Value} {xs : List Value} (h : w.ownsRow base ty s v n xs) : ∃ A c, v = .slice A n c := by
  rcases h.2 with ⟨h1, h2⟩ | ⟨g, cap, cur, h1, _⟩
  · exact ⟨none, 0, by rw [h1, h2]⟩
  · exact ⟨_, _, h1⟩
/-- Between two rounds: the list in its variable, and what it shows of the batches so far. -/
def VI {w0 : World} {lo b : Nat} (w2 : World) (n0 : Nat) (V : Nat → Prop) (x e : Int) (gs : List Gon) (pre : List (It w0 lo b x)) (W : World) : Prop :=
  ∃ A1 c1 ps, PR w2 W n0 V (.slice A1 ps.length c1) ps ∧ W.heap[n0 + 1]? = some (.cells #[.slice A1 ps.length c1] 26 (0, 0)) ∧ (∀ rest, visP x e gs (pre.map bt ++ rest) = ps.map Prod.fst ++ visP x e gs rest) ∧ ps.length ≤ 40 * pre.length
/-- Behind a round that has left. -/
def VX {w0 : World} {lo b : Nat} (w2 : World) (n0 : Nat) (V : Nat → Prop) (x e : Int) (gs : List Gon) (c : Code) (pre : List (It w0 lo b x)) (W : World) : Prop :=
  c = .exit 0 ∧ ∃ A1 c1 ps, PR w2 W n0 V (.slice A1 ps.length c1) ps ∧ W.heap[n0 + 1]? = some (.cells #[.slice A1 ps.length c1] 26 (0, 0)) ∧ (∀ rest, visP x e gs (pre.map bt ++ rest) = ps.map Prod.fst) ∧ ps.length ≤ 16000
theorem seven {w : World} {g ty : Nat} {t : Bat} {v : Value} (h : w.heap[g]? = some (.cells (BatW.batArr t v) ty (0, 0))) : w.cell? ⟨g, 0, none⟩ = some (.int .i64 t.base) ∧ w.cell? ⟨g, 1, none⟩ = some (.int .i64 t.epoch) ∧ w.cell? ⟨g, 2, none⟩ = some (.int .i64 t.producer) ∧ w.cell? ⟨g, 3, none⟩ = some (.int .i64 t.turn) ∧ w.cell? ⟨g, 4, none⟩ = some (.int .i64 t.seq) ∧ w.cell? ⟨g, 5, none⟩ = some (.int .i64 t.flags) ∧ w.cell? ⟨g, 6, none⟩ = some v :=
  ⟨cell_of_row w g 0 _ _ (0, 0) h, cell_of_row w g 1 _ _ (0, 0) h, cell_of_row w g 2 _ _ (0, 0) h, cell_of_row w g 3 _ _ (0, 0) h, cell_of_row w g 4 _ _ (0, 0) h, cell_of_row w g 5 _ _ (0, 0) h, cell_of_row w g 6 _ _ (0, 0) h⟩
/-- The list's variable is written anew. -/
theorem nxV {w2 W W0 w10 w11 : World} {n0 : Nat} {V : Nat → Prop} {ps qs : List RV} {A1 A9 : Option Addr} {c1 c9 : Nat}
    (P9 : PR w2 W n0 V (.slice A1 ps.length c1) ps) (LB9 : W.heap[n0 + 1]? = some (.cells #[.slice A1 ps.length c1] 26 (0, 0))) (b10 : Below W.heap.size W w10)
    (gr : w10.grownBy w11 (Value.slice A1 ps.length c1).ownBlock) (D : PR w2 w11 n0 V (.slice A9 (ps.length + qs.length) c9) (ps ++ qs)) (hV1 : V (n0 + 1)) (hn1 : n0 + 1 < w2.heap.size) (K9 : KeepsFrom w2.heap.size W0 W) (KP9 : Kp V w2.heap.size W0 W) :
    w11.cell? ⟨n0 + 1, 0, none⟩ = some (.slice A1 ps.length c1) ∧ w11.frozen? ⟨n0 + 1, 0, none⟩ = false ∧ KeepsFrom w2.heap.size W0 (w11.setCell ⟨n0 + 1, 0, none⟩ (.slice A9 (ps.length + qs.length) c9)) ∧ Kp V w2.heap.size W0 (w11.setCell ⟨n0 + 1, 0, none⟩ (.slice A9 (ps.length + qs.length) c9)) ∧ PR w2 (w11.setCell ⟨n0 + 1, 0, none⟩ (.slice A9 (ps.length + qs.length) c9)) n0 V (.slice A9 (ps ++ qs).length c9) (ps ++ qs) ∧ (w11.setCell ⟨n0 + 1, 0, none⟩ (.slice A9 (ps.length + qs.length) c9)).heap[n0 + 1]? = some (.cells #[.slice A9 (ps ++ qs).length c9] 26 (0, 0)) := by
  have z9 := P9.size
  have z10 := b10.size
  have gs := gr.size
  have hn := P9.n0.1
  have vo : ∀ k, (Value.slice A1 ps.length c1).ownBlock = some k → (k = n0 ∨ w2.heap.size ≤ k) ∧ IsC W k := fun k hk => ⟨P9.out k hk, isC_own P9.own k hk⟩
  have far : ∀ k, k < W.heap.size → some k ≠ (Value.slice A1 ps.length c1).ownBlock → w11.heap[k]? = W.heap[k]? := fun k hk hne => (gr.block k (by omega) hne).trans (b10.block k hk)
  have LB11 := (far (n0 + 1) (by omega) (fun e => by have := (vo _ e.symm).1; omega)).trans LB9
  refine ⟨cell_of_row w11 (n0 + 1) 0 _ _ (0, 0) LB11, frozen_of_row w11 (n0 + 1) 0 _ _ LB11, ⟨by rw [World.size_setCell]; have := K9.size; omega, fun q o' h1 h2 h3 => ?_⟩, ?_, ?_, ?_⟩
  · have q9 := K9.same q o' h1 h2 h3
    rw [heap_setCell_other _ _ _ _ (by show q ≠ n0 + 1; omega), far q (Array.getElem?_eq_some_iff.1 q9).1 (fun e => ?_)]
    · exact q9
    · obtain ⟨cs, t', fr, hc⟩ := (vo q e.symm).2
      rw [hc] at q9
      cases q9
      cases h3
  · have hk9 := KP9.size
    refine ⟨gr.os.trans (b10.os.trans KP9.os), gr.tape.trans (b10.tape.trans KP9.tape), gr.output.trans (b10.output.trans KP9.output), by rw [World.size_setCell]; omega, fun k hk hne => ?_⟩
    rw [heap_setCell_other _ _ _ _ (fun e => hne (.inl (by rw [show k = n0 + 1 from e]; exact hV1))), far k (by omega) (fun e => ?_)]
    · exact KP9.block k hk hne
    · rcases (vo k e.symm).1 with e1 | e1
      · exact hne (.inl (e1 ▸ P9.n0.2))
      · exact hne (.inr e1)
  · rw [List.length_append]
    exact D.grownC (row := some (n0 + 1)) (grownBy_setCell' w11 (n0 + 1) _) (fun r e => .inr (by cases e; exact ⟨by omega, hV1, by omega⟩))
  · rw [List.length_append]
    exact heap_setCell_same w11 (n0 + 1) 0 _ _ _ LB11
set_option maxHeartbeats 3200000 in
theorem visible_core (l : Lg) (x : Int) (s : Bool) (A : Option Addr) (c : Nat) (w : World) (lo b : Nat) (hb : b ≤ w.heap.size) (hf : FewL l) (hs : SegsAt w lo b (.slice A l.segs.length c) l.segs) :
    Calls Try.prog 7 #[logVal l (.slice A l.segs.length c), .int .i64 x, .bool s] w fun e w' => ∃ v, e = .returned (.tuple #[v, .int .i64 (visible l x s).2]) ∧ Ow.RedsOwn w' (Ls.seg w.heap.size w'.heap.size) v (visible l x s).1 ∧ Below w.heap.size w w' := by
  obtain ⟨i0, hi, hz0, hz1, hz2⟩ := info_parts VsR.infoRD
  have HS := Seg.hid hs
  have HV : Hid (LogAt w lo b (logVal l (.slice A l.segs.length c)) l) := ⟨_, rfl, hs⟩
  have HF := Seg.hid hf
  clear hs hf
  unfold logVal at HV ⊢
  refine (callsIn_wide (n := 5)).1 ?_
  refine callsIn_of_wp_marks Try.func7 rfl trivial ?_ rfl
  simp only [Try.ntmps7, List.size_toArray, List.length_cons, List.length_nil, Nat.reduceAdd, Nat.reduceSub, Array.replicate_succ, Array.replicate_zero, List.push_toArray, List.append_toArray, List.nil_append, List.cons_append]
  gi_wp2
  refine ⟨trivial, ?_⟩
  have b4 : ∀ o1 o2 o3 o4 : Obj, Below w.heap.size w ((((w.alloc o1).alloc o2).alloc o3).alloc o4) := fun o1 o2 o3 o4 => chain (below3 w o1 o2 o3) (below1 _ _)
  refine (callsIn_wide.2 (LgI.impl_any _ l ((((w.alloc _).alloc _).alloc _).alloc _) lo b (HV.out.below ((b4 _ _ _ _).mono hb)) (by rw [hsz, hsz, hsz, hsz]; omega) HF.out)).mono ?_
  rintro e w1 ⟨rfl, b1⟩
  have B1 := Seg.hid (chain (b4 _ _ _ _) b1)
  have at4 : ∀ o1 o2 o3 o4 : Obj, ((((w.alloc o1).alloc o2).alloc o3).alloc o4).heap[w.heap.size]? = some o1 ∧ ((((w.alloc o1).alloc o2).alloc o3).alloc o4).heap[w.heap.size + 1]? = some o2 ∧ ((((w.alloc o1).alloc o2).alloc o3).alloc o4).heap[w.heap.size + 1 + 1]? = some o3 ∧ ((((w.alloc o1).alloc o2).alloc o3).alloc o4).heap[w.heap.size + 1 + 1 + 1]? = some o4 := fun o1 o2 o3 o4 =>
    ⟨((below1 _ _).block _ (by rw [hsz, hsz, hsz]; omega)).trans (((below1 _ _).block _ (by rw [hsz, hsz]; omega)).trans (((below1 _ _).block _ (by rw [hsz]; omega)).trans (heap_alloc_new _ _))), ((below1 _ _).block _ (by rw [hsz, hsz, hsz]; omega)).trans (at3 w _ _ _), ((below1 _ _).block _ (by rw [hsz, hsz, hsz]; omega)).trans (Cells.at3' w _ _ _), by have := heap_alloc_new (((w.alloc o1).alloc o2).alloc o3) o4; rw [hsz, hsz, hsz] at this; exact this⟩
  have T1 : Hid (w1.heap[w.heap.size]? = some (.cells (logArr l (.slice A l.segs.length c)) 31 (0, 0))) := (b1.block w.heap.size (by rw [hsz, hsz, hsz, hsz]; omega)).trans (at4 _ _ _ _).1
  have F1 : Hid (w1.heap[w.heap.size + 1]? = some (.cells #[.int .i64 x] 3 (0, 0))) := (b1.block (w.heap.size + 1) (by rw [hsz, hsz, hsz, hsz]; omega)).trans (at4 _ _ _ _).2.1
  have E1 : Hid (w1.heap[w.heap.size + 1 + 1]? = some (.cells #[] 55 (0, 0))) := (b1.block (w.heap.size + 1 + 1) (by rw [hsz, hsz, hsz, hsz]; omega)).trans (at4 _ _ _ _).2.2.1
  have L1 : Hid (w1.heap[w.heap.size + 1 + 1 + 1]? = some (.cells #[.slice (some ⟨w.heap.size + 1 + 1, 0, none⟩) 0 0] 26 (0, 0))) := (b1.block (w.heap.size + 1 + 1 + 1) (by rw [hsz, hsz, hsz, hsz]; omega)).trans (at4 _ _ _ _).2.2.2
  have s1 := b1.size
  rw [hsz, hsz, hsz, hsz] at s1
  clear b1 b4 at4
  have NIL : Hid (∀ wx : World, Ow.RedsOwn wx (Ls.seg w.heap.size wx.heap.size) (.slice (some ⟨w.heap.size + 1 + 1, 0, none⟩) 0 0) []) := fun wx => Ow.LOwn.nil _ _ _ _
  have lc : w1.cell? ⟨w.heap.size + 1 + 1 + 1, 0, none⟩ = some (.slice (some ⟨w.heap.size + 1 + 1, 0, none⟩) 0 0) := cell_of_row w1 (w.heap.size + 1 + 1 + 1) 0 _ _ (0, 0) L1.out
  cases hok : logOk l with
  | false =>
    have HC : Hid (visible l x s = ([], -1)) := by show _ = _; simp [visible, hok]
    clear hok
    gi_wp2
    refine ⟨trivial, ?_⟩
    gi_wp2
    exact ⟨_, results_tmp2 rfl _ _ _, .slice (some ⟨w.heap.size + 1 + 1, 0, none⟩) 0 0, by rw [HC.out]; rfl, by rw [HC.out]; exact NIL.out _, B1.out⟩
  | true =>
  obtain ⟨c0, c1, c2, c3⟩ := four T1.out
  have cf : w1.cell? ⟨w.heap.size + 1, 0, none⟩ = some (.int .i64 x) := cell_of_row w1 (w.heap.size + 1) 0 _ _ (0, 0) F1.out
  have hw1 : w.heap.size < w1.heap.size := by omega
  cases hin : (decide (l.start ≤ x) && decide (x ≤ l.next)) with
  | false =>
    have HC : Hid (visible l x s = ([], -1)) := by
      show _ = _
      unfold visible
      rw [if_neg (by rw [hok, show inR x l.start l.next = false from hin]; simp)]
    clear hok
    gi_wp2
    refine ⟨trivial, ?_⟩
    refine (callsIn_wide.2 (InB.within_b x l.start l.next false hin w1)).mono ?_
    rintro e w1' ⟨rfl, rfl⟩
    clear hin
    gi_wp2
    exact ⟨_, results_tmp2 rfl _ _ _, .slice (some ⟨w.heap.size + 1 + 1, 0, none⟩) 0 0, by rw [HC.out]; rfl, by rw [HC.out]; exact NIL.out _, B1.out⟩
  | true =>
  have HC : Hid (visible l x s = (visM x (endV l s) (gonV l s) (flatB l.segs), max (endV l s) x)) := by
    show _ = _
    unfold visible
    rw [if_pos (by rw [hok, show inR x l.start l.next = true from hin]; rfl)]
  have HOK := Seg.hid hok
  obtain ⟨f, k1, k2, k3, k4, k5, k6, k7⟩ := ok_all hok
  have hx0 : 0 ≤ x := by simp only [Bool.and_eq_true, decide_eq_true_eq] at hin; omega
  have K1 := Seg.hid k1
  have FL : (flatB l.segs).length ≤ 400 := by rw [flat_count]; exact k7
  have VE := Seg.hid (vis_log (x := x) k1 k2 s)
  clear hok k1
  gi_wp2
  refine ⟨trivial, ?_⟩
  refine (callsIn_wide.2 (InB.within_b x l.start l.next true hin w1)).mono ?_
  rintro e w1' ⟨rfl, rfl⟩
  clear hin lc
  have hu : ∀ o1 o2 o3 : Obj, w.heap.size < (((w1.alloc o1).alloc o2).alloc o3).heap.size ∧ w.heap.size + 1 < (((w1.alloc o1).alloc o2).alloc o3).heap.size := fun o1 o2 o3 => by rw [hsz, hsz, hsz]; omega
  have W4 : Hid (∀ o1 o2 o3 : Obj, (((w1.alloc o1).alloc o2).alloc o3).cell? ⟨w.heap.size, 0, none⟩ = some (.int .i64 l.start) ∧ (((w1.alloc o1).alloc o2).alloc o3).cell? ⟨w.heap.size, 1, none⟩ = some (.int .i64 l.next) ∧ (((w1.alloc o1).alloc o2).alloc o3).cell? ⟨w.heap.size, 2, none⟩ = some (.int .i64 l.roll) ∧ (((w1.alloc o1).alloc o2).alloc o3).cell? ⟨w.heap.size, 3, none⟩ = some (.slice A l.segs.length c)) := fun o1 o2 o3 => four (((below3 w1 o1 o2 o3).block w.heap.size hw1).trans T1.out)
  have C0 : Hid (Cv w w1 (((w1.alloc (.cells #[] 50 (0, 0))).alloc (.cells #[.int .i64 l.next] 3 (0, 0))).alloc (.cells #[.slice (some ⟨w1.heap.size, 0, none⟩) 0 0] 41 (0, 0))) l x false (.slice A l.segs.length c)) :=
    ⟨((below3 w1 _ _ _).block _ (by omega)).trans T1.out, ((below3 w1 _ _ _).block _ (by omega)).trans F1.out, ((below3 w1 _ _ _).block _ (by omega)).trans E1.out, ((below3 w1 _ _ _).block _ (by omega)).trans L1.out, at3 w1 _ _ _, ⟨_, Cells.at3' w1 _ _ _, LAt.nil _ _ _ _⟩, chain B1.out (below3 w1 _ _ _), by rw [hsz, hsz, hsz]; omega⟩
  gi_upto_if 29 with fail
  gi_cut [] from 30 (fun wx => Cv w w1 wx l x s (.slice A l.segs.length c))
  case first =>
    cases s with
    | true =>
      obtain ⟨q0, q1, q2, q3⟩ := W4.out (.cells #[] 50 (0, 0)) (.cells #[.int .i64 l.next] 3 (0, 0)) (.cells #[.slice (some ⟨w1.heap.size, 0, none⟩) 0 0] 41 (0, 0))
      gi_wp2
      refine ⟨trivial, ?_⟩
      refine (callsIn_wide.2 (SdI.settle_any _ l _ lo b (HV.out.below (C0.out.bel.mono hb)) (by have := C0.out.bel.size; omega) HF.out HOK.out)).mono ?_
      rintro e w4 ⟨gv, rfl, og, b4⟩
      have z4 := b4.size
      have zc := C0.out.size
      have bk := fun k (hk : k < _) => b4.block k hk
      have N4 := (bk (w1.heap.size + 1) (by omega)).trans C0.out.N
      obtain ⟨gv0, G0, _⟩ := C0.out.G
      have G4 := (bk (w1.heap.size + 1 + 1) (by omega)).trans G0
      have n1 := cell_of_row w4 (w1.heap.size + 1) 0 _ _ (0, 0) N4
      have n2 := frozen_of_row w4 (w1.heap.size + 1) 0 _ _ N4
      have n3 := cell_of_row w4 (w1.heap.size + 1 + 1) 0 _ _ (0, 0) G4
      have n4 := frozen_of_row w4 (w1.heap.size + 1 + 1) 0 _ _ G4
      have hl4 : w1.heap.size + 1 < w4.heap.size := by omega
      have hl5 : w1.heap.size + 1 + 1 < w4.heap.size := by omega
      obtain ⟨Ag, cg, rfl⟩ := Ow.LOwn.form og
      have CV : Hid (Cv w w1 ((w4.setCell ⟨w1.heap.size + 1, 0, none⟩ (.int .i64 (least l.next (settled l).1))).setCell ⟨w1.heap.size + 1 + 1, 0, none⟩ (.slice Ag (settled l).2.length cg)) l x true (.slice A l.segs.length c)) := by
        have far : ∀ k, k ≠ w1.heap.size + 1 → k ≠ w1.heap.size + 1 + 1 → ((w4.setCell ⟨w1.heap.size + 1, 0, none⟩ (.int .i64 (least l.next (settled l).1))).setCell ⟨w1.heap.size + 1 + 1, 0, none⟩ (.slice Ag (settled l).2.length cg)).heap[k]? = w4.heap[k]? := fun k h1 h2 => (heap_setCell_other _ _ _ _ (by show k ≠ _; exact h2)).trans (heap_setCell_other _ _ _ _ (by show k ≠ _; exact h1))
        refine ⟨(far _ (by omega) (by omega)).trans ((bk _ (by omega)).trans C0.out.T), (far _ (by omega) (by omega)).trans ((bk _ (by omega)).trans C0.out.F), (far _ (by omega) (by omega)).trans ((bk _ (by omega)).trans C0.out.E), (far _ (by omega) (by omega)).trans ((bk _ (by omega)).trans C0.out.L), ?_, ⟨_, heap_setCell_same _ _ 0 _ _ _ ((heap_setCell_other _ _ _ _ (by show _ ≠ w1.heap.size + 1; omega)).trans G4), ?_⟩, ?_, by simp; omega⟩
        · exact (heap_setCell_other _ _ _ _ (by show _ ≠ w1.heap.size + 1 + 1; omega)).trans (heap_setCell_same _ _ 0 _ _ _ N4)
        · refine (LAt.keep keepsGon (Ow.LOwn.lat growsGon Ow.atOGon og) (fun y hy => far y (by have := hy.1; omega) (by have := hy.1; omega))).mono growsGon (fun y hy => .inr ⟨by have := hy.1; omega, by simpa using hy.2⟩)
        · have b5 := chain C0.out.bel b4
          exact ⟨b5.os, b5.tape, b5.output, by simpa using b5.size, fun k hk => (far k (by omega) (by omega)).trans (b5.block k hk)⟩
      clear og b4 bk N4 G0 G4 q0 q1 q2 q3 C0
      gi_wp2
      gi_meet
      exact CV.out
    | false =>
      gi_wp2
      gi_meet
      exact C0.out
  case rest =>
    have CC := Seg.hid hcut
    obtain ⟨c0, c1, c2, c3⟩ := four CC.out.T
    have cf : wc.cell? ⟨w.heap.size + 1, 0, none⟩ = some (.int .i64 x) := cell_of_row wc (w.heap.size + 1) 0 _ _ (0, 0) CC.out.F
    have zc := CC.out.size
    clear hcut C0 W4 T1 F1 E1 L1
    gi_wp2
    refine ⟨trivial, ?_⟩
    refine (callsIn_wide.2 (batchesFrom_any _ x A l.segs.length c wc rfl)).mono ?_
    rintro e w2 ⟨rfl, a1, a2, b2, a3⟩
    gi_wp2
    have B2 := Seg.hid (chain CC.out.bel b2)
    have F2 := Seg.hid ((b2.block (w.heap.size + 1) (by omega)).trans CC.out.F)
    have E2 := Seg.hid ((b2.block (w.heap.size + 1 + 1) (by omega)).trans CC.out.E)
    have L2 := Seg.hid ((b2.block (w.heap.size + 1 + 1 + 1) (by omega)).trans CC.out.L)
    have N2 := Seg.hid ((b2.block (w1.heap.size + 1) (by omega)).trans CC.out.N)
    obtain ⟨gv, g1, g2⟩ := CC.out.G
    have G2 := Seg.hid ((b2.block (w1.heap.size + 1 + 1) (by omega)).trans g1)
    have LG2 : Hid (LAt 3 EGon w2 (fun y => y = w1.heap.size ∨ w1.heap.size + 3 ≤ y ∧ y < wc.heap.size) gv (gonV l s)) := LAt.keep keepsGon g2 (fun y hy => b2.block y (by omega))
    obtain ⟨Ag, cg, rfl⟩ := LAt.form g2
    have hs2 : wc.heap.size + 1 < w2.heap.size := by omega
    have HS2 := Seg.hid (HS.out.below (B2.out.mono hb))
    have GLE : (gonV l s).length ≤ 400 := by
      unfold gonV
      split
      · have := SdJ.gs_le (flatB l.segs) ([], [])
        unfold settled
        simp only [List.length_nil, Nat.zero_add] at this
        omega
      · simp
    clear b2 c0 c1 c2 c3 cf g1 g2 CC
    obtain ⟨e0, he0⟩ : ∃ e0, endV l s = e0 := ⟨_, rfl⟩
    obtain ⟨gs, hgs⟩ : ∃ gs, gonV l s = gs := ⟨_, rfl⟩
    rw [he0, hgs] at VE HC
    rw [he0] at N2
    rw [hgs] at G2 LG2 GLE
    clear he0 hgs
    obtain ⟨V, hV0⟩ : ∃ V : Nat → Prop, V = fun k => k = w.heap.size + 1 + 1 ∨ k = w.heap.size + 1 + 1 + 1 := ⟨_, rfl⟩
    have HVV : Hid (∀ k, V k ↔ (k = w.heap.size + 1 + 1 ∨ k = w.heap.size + 1 + 1 + 1)) := fun k => by rw [hV0]
    clear hV0
    have HSTOP := BfX.stops 4 (by omega) V w2.heap.size 400 wc.heap.size (wc.heap.size + 1) lo b c A x f l.segs w2 HS2.out (by omega) (Nat.le_refl _) (fun k h => by have := (HVV.out k).1 h; omega) a1 (by omega) a2 (by omega) (by omega) (fun i hi => HF.out.1.2 i hi) K1.out (Nat.le_trans (List.length_filter_le _ _) FL)
    have P0 : Hid (PR w2 w2 (w.heap.size + 1 + 1) V (.slice (some ⟨w.heap.size + 1 + 1, 0, none⟩) 0 0) []) := by
      refine ⟨⟨rfl, .inr ⟨w.heap.size + 1 + 1, 0, #[], rfl, Nat.le_refl _, E2.out, Nat.le_refl _, Nat.zero_le _, rfl, by simp [cellsR]⟩⟩, ⟨fun _ => False, trivial, fun x hx => hx.elim, fun g _ hx => hx⟩, fun _ _ _ => rfl, fun q hq => ?_, ⟨rfl, rfl, rfl⟩, Nat.le_refl _, by omega, (HVV.out _).2 (.inl rfl)⟩
      simp only [Value.ownBlock, Option.some.injEq] at hq
      exact .inl hq.symm
    clear a1 a2 a3
    refine wpIn_rangeFunc_ownH rfl (by omega) (gf := 44) (lb := #[.pointer (some ⟨wc.heap.size, 0, none⟩), .pointer (some ⟨wc.heap.size + 1, 0, none⟩)]) rfl trivial (enters_of Try.func44 (by kernel_rfl) rfl)
      HSTOP kp_t (kp_b (Nat.le_refl _)) (Below.refl _ _) (fun _ => rfl)
      (fun pre W => VI w2 (w.heap.size + 1 + 1) V x e0 gs pre W)
      (fun c' pre W => VX w2 (w.heap.size + 1 + 1) V x e0 gs c' pre W)
      (fun s A B row hs hg hr => by
        obtain ⟨A1, c1, ps, h1, h2, h3⟩ := hs
        exact ⟨A1, c1, ps, pr_own h1 hg hr, block_own (β := Unit) w2.heap.size _ _ _ () A B row h2 hg hr, h3⟩)
      (fun c' s A B row hs hg hr => by
        obtain ⟨h0, A1, c1, ps, h1, h2, h3⟩ := hs
        exact ⟨h0, A1, c1, ps, pr_own h1 hg hr, block_own (β := Unit) w2.heap.size _ _ _ () A B row h2 hg hr, h3⟩)
      ⟨some ⟨w.heap.size + 1 + 1, 0, none⟩, 0, [], P0.out, L2.out, fun rest => rfl, Nat.zero_le _⟩
      (fun p' a' W => ∃ Bx, w2.heap.size ≤ Bx ∧ W.heap[Bx]? = some (.cells (BatW.batArr p'.1.1 p'.1.2) 48 (0, 0)) ∧ a' = { tmps := #[.agg #[.int .i64 l.start, .int .i64 l.next, .int .i64 l.roll, .slice A l.segs.length c], .int .i64 x, .bool s, .pointer (some ⟨w.heap.size, 0, none⟩), .pointer (some ⟨w.heap.size + 1, 0, none⟩), undef, .slice none 0 0, .int .i64 0, .pointer (some ⟨w.heap.size + 1 + 1 + 1, 0, none⟩), .pointer (some ⟨w1.heap.size + 1, 0, none⟩), .pointer (some ⟨w1.heap.size + 1 + 1, 0, none⟩), .pointer (some ⟨Bx, 0, none⟩), .slice (some ⟨w.heap.size + 1 + 1, 0, none⟩) 0 0, .agg #[.int .i64 l.start, .int .i64 l.next, .int .i64 l.roll, .slice A l.segs.length c], .bool true, .bool false, .bool false, .int .i64 x, .pointer (some ⟨w.heap.size, 0, none⟩), .int .i64 l.start, .pointer (some ⟨w.heap.size, 1, none⟩), .int .i64 l.next, .bool true, .bool false, .bool false, undef, .pointer (some ⟨w.heap.size, 1, none⟩), .int .i64 l.next, .slice (some ⟨w1.heap.size, 0, none⟩) 0 0, .bool s, u30, u31, u32, u33, u34, .pointer (some ⟨w.heap.size, 3, none⟩), .slice A l.segs.length c, .int .i64 x, .func (.func 44) #[] #[.pointer (some ⟨wc.heap.size, 0, none⟩), .pointer (some ⟨wc.heap.size + 1, 0, none⟩)], batVal p'.1.1 p'.1.2, u40, u41, u42, u43, u44, u45, u46, u47, u48, u49, u50, u51, u52, u53, u54, u55, u56, u57, u58, u59, u60, u61, u62], defers := [] })
      (fun p' a' s W W' row hs hg hr => ⟨hs.choose, hs.choose_spec.1, block_own (β := Unit) w2.heap.size _ _ _ s W W' row hs.choose_spec.2.1 hg hr, hs.choose_spec.2.2⟩) ?assign ?body ?done ?stop
    case assign =>
      rintro l' pre ⟨⟨t, v⟩, hrecs, hfew, hok, hpb⟩ W K hPI hK
      obtain ⟨_, ⟨_, A6, c6, hv6, _⟩, _⟩ := id hrecs
      have hv7 : v = .slice A6 t.recs.length c6 := hv6
      clear hv6
      subst hv7
      obtain ⟨A1, c1, ps, h1, h2, h3⟩ := hPI
      have hW := h1.size
      unfold batVal
      gi_wp2
      exact hK _ _ (keeps_of_below (below1 W _)) (kp_of_below (below1 W _)) ⟨A1, c1, ps, h1.later (below1 W _), ((below1 _ _).block _ (by omega)).trans h2, h3⟩ ⟨W.heap.size, hW, heap_alloc_new _ _, rfl⟩
    case body =>
      rintro l' pre ⟨⟨t, v⟩, hrecs, hfew, hok, hpb⟩ a' W hl' ⟨r', hr'⟩ hPI ⟨Bx, hBx, hbx, rfl⟩ hlen
      obtain ⟨H, ⟨_, A6, c6, hv6, hrow⟩, hh⟩ := id hrecs
      have hv7 : v = .slice A6 t.recs.length c6 := hv6
      clear hv6 hrow hh
      subst hv7
      obtain ⟨A1, c1, ps, h1, h2, h3, h4⟩ := hPI
      have PR0 := Seg.hid h1
      have LB0 := Seg.hid h2
      have VS0 := Seg.hid h3
      have hbx' : W.heap[Bx]? = some (.cells (BatW.batArr t (.slice A6 t.recs.length c6)) 48 (0, 0)) := hbx
      have BX := Seg.hid hbx'
      have hBxl : Bx < W.heap.size := (Array.getElem?_eq_some_iff.1 hbx').1
      have hW := h1.size
      have hul : ps.length ≤ 16000 := by omega
      have KPX : Hid (∀ y, y < w2.heap.size → y ≠ w.heap.size + 1 + 1 → y ≠ w.heap.size + 1 + 1 + 1 → W.heap[y]? = w2.heap[y]?) := fun y hy n1 n2 => PR0.out.keep y hy (fun hv => by have := (HVV.out y).1 hv; omega)
      have HT : Hid ((pre ++ [(⟨(t, .slice A6 t.recs.length c6), hrecs, hfew, hok, hpb⟩ : It w2 lo b x)]).map bt = pre.map bt ++ [t]) := by show _ = _; rw [List.map_append]; rfl
      have OKL := (LgP.okLen hok).2.2.2
      have OKF := (SdJ.ok_flags hok).1
      have n1 : W.cell? ⟨w1.heap.size + 1, 0, none⟩ = some (.int .i64 e0) := cell_of_row W (w1.heap.size + 1) 0 _ _ (0, 0) ((KPX.out _ (by omega) (by omega) (by omega)).trans N2.out)
      have n2 : W.cell? ⟨w1.heap.size + 1 + 1, 0, none⟩ = some (.slice Ag gs.length cg) := cell_of_row W (w1.heap.size + 1 + 1) 0 _ _ (0, 0) ((KPX.out _ (by omega) (by omega) (by omega)).trans G2.out)
      have hLBW : w1.heap.size + 1 + 1 < W.heap.size := by omega
      obtain ⟨d0, d1, d2, d3, d4, d5, d6⟩ := seven BX.out
      clear h1 h2 h3 hbx hbx'
      by_cases he : e0 ≤ t.base
      · have hx : VX w2 (w.heap.size + 1 + 1) V x e0 gs (.exit 0) (pre ++ [(⟨(t, .slice A6 t.recs.length c6), hrecs, hfew, hok, hpb⟩ : It w2 lo b x)]) W := ⟨rfl, A1, c1, ps, PR0.out, LB0.out, fun rest => by rw [HT.out, List.append_assoc, VS0.out]; simp [visP, he], hul⟩
        have HX := Seg.hid hx
        clear hx
        gi_wp2
        exact ⟨keeps_of_below (Below.refl _ _), HX.out⟩
      · have PBT : x < bEnd t := by
          have := hpb
          unfold pB at this
          simpa using this
        have VSN : Hid (∀ qs : List RV, qs.map Prod.fst = (if shown gs t = true then reads x t else []) → ∀ rest, visP x e0 gs ((pre ++ [(⟨(t, .slice A6 t.recs.length c6), hrecs, hfew, hok, hpb⟩ : It w2 lo b x)]).map bt ++ rest) = (ps ++ qs).map Prod.fst ++ visP x e0 gs rest) := fun qs hq rest => by
          rw [HT.out, List.append_assoc, VS0.out]
          show ps.map Prod.fst ++ visP x e0 gs (t :: rest) = _
          rw [visP, if_neg he, ← hq, List.map_append, List.append_assoc]
        have hb5 := bits4 OKF
        clear VS0
        cases hmk : mk t with
        | true =>
          have hb4 : (bits BinOp.and IntKind.i64 t.flags 4 == 0) = false := by rw [hb5, if_pos (by simpa [mk] using hmk)]; rfl
          have SHN : Hid (shown gs t = false) := by show _ = _; simp [shown, hmk]
          have FINI : Hid (VI w2 (w.heap.size + 1 + 1) V x e0 gs (pre ++ [(⟨(t, .slice A6 t.recs.length c6), hrecs, hfew, hok, hpb⟩ : It w2 lo b x)]) W) := ⟨A1, c1, ps, PR0.out, LB0.out, fun rest => by have := VSN.out [] (by rw [SHN.out]; rfl) rest; rwa [List.append_nil] at this, by rw [List.length_append, List.length_singleton]; omega⟩
          clear hmk hb5 VSN
          gi_wp2
          refine ⟨trivial, ?_⟩
          gi_wp2
          exact ⟨keeps_of_below (Below.refl _ _), kp_of_below (Below.refl _ _), FINI.out⟩
        | false =>
        have hb4 : (bits BinOp.and IntKind.i64 t.flags 4 == 0) = true := by rw [hb5, if_neg (by simpa [mk] using hmk)]; rfl
        have LGW : Hid (LAt 3 EGon W (fun y => y = w1.heap.size ∨ w1.heap.size + 3 ≤ y ∧ y < wc.heap.size) (.slice Ag gs.length cg) gs) := LAt.keep keepsGon LG2.out (fun y hy => KPX.out y (by omega) (by omega) (by omega))
        have SGB : Hid (∀ y, (y = w1.heap.size ∨ w1.heap.size + 3 ≤ y ∧ y < wc.heap.size) → y < W.heap.size) := fun y hy => by omega
        obtain ⟨Ag', cg', gg, og, Fg, hAg, OG, _⟩ := opn LGW.out SGB.out
        simp only [Value.slice.injEq, true_and] at hAg
        obtain ⟨rfl, rfl⟩ := hAg
        have OGH := Seg.hid OG
        clear OG hb5
        gi_wp2
        refine ⟨trivial, ?_⟩
        refine (CallsIn.inRound l' (callsIn_wide.2 (VsG.gone_any t A6 c6 Ag cg gs gg og Fg W _ SGB.out OGH.out (by omega) OKF))).mono ?_
        rintro e W8 ⟨rfl, b8⟩
        have B8 : Hid (Below W.heap.size W W8) := b8
        have PR8 := Seg.hid (PR0.out.later b8)
        have LB8 := Seg.hid ((b8.block _ (by omega)).trans LB0.out)
        have KF8 : Hid (KeepsFrom w2.heap.size W W8) := keeps_of_below b8
        have KP8 : Hid (Kp V w2.heap.size W W8) := kp_of_below b8
        have BX8 := Seg.hid ((b8.block _ hBxl).trans BX.out)
        have s8 := b8.size
        clear b8 d0 d1 d2 d3 d4 d5 d6 n1 n2
        cases hgn : goneB gs t with
        | true =>
          have SHN : Hid (shown gs t = false) := by show _ = _; simp [shown, hgn]
          have FINI : Hid (VI w2 (w.heap.size + 1 + 1) V x e0 gs (pre ++ [(⟨(t, .slice A6 t.recs.length c6), hrecs, hfew, hok, hpb⟩ : It w2 lo b x)]) W8) := ⟨A1, c1, ps, PR8.out, LB8.out, fun rest => by have := VSN.out [] (by rw [SHN.out]; rfl) rest; rwa [List.append_nil] at this, by rw [List.length_append, List.length_singleton]; omega⟩
          clear hmk VSN
          gi_wp2
          exact ⟨KF8.out, KP8.out, FINI.out⟩
        | false =>
        have SHN : Hid (shown gs t = true) := by show _ = _; simp [shown, hgn, hmk]
        rw [SHN.out] at VSN
        simp only [if_true] at VSN
        clear hmk
        obtain ⟨d0, d1, d2, d3, d4, d5, d6⟩ := seven BX8.out
        have lc : W8.cell? ⟨w.heap.size + 1 + 1 + 1, 0, none⟩ = some (.slice A1 ps.length c1) := cell_of_row W8 (w.heap.size + 1 + 1 + 1) 0 _ _ (0, 0) LB8.out
        have cf : W8.cell? ⟨w.heap.size + 1, 0, none⟩ = some (.int .i64 x) := cell_of_row W8 (w.heap.size + 1) 0 _ _ (0, 0) ((B8.out.block _ (by omega)).trans ((KPX.out _ (by omega) (by omega) (by omega)).trans F2.out))
        have hl8 : w.heap.size + 1 + 1 + 1 < W8.heap.size := by omega
        have hBx8 : Bx < W8.heap.size := by omega
        have RDS : Hid (∀ wx, Below W8.heap.size W8 wx → CallsIn (Fence.wide.inRound l') (5 - 1 - 1 - 1) Try.prog 25 #[.agg #[.int .i64 t.base, .int .i64 t.epoch, .int .i64 t.producer, .int .i64 t.turn, .int .i64 t.seq, .int .i64 t.flags, .slice A6 t.recs.length c6], .int .i64 x] wx fun e w' => ∃ v qs S base, e = .returned v ∧ qs.map Prod.fst = reads x t ∧ w'.ownsRow base 55 7 v qs.length (cellsR qs) ∧ PH w' S qs ∧ (∀ y, S y → wx.heap.size ≤ y ∧ y < w'.heap.size) ∧ Below wx.heap.size wx w') := fun wx bx => CallsIn.inRound l' (callsIn_wide.2 (VsR.reads_any t A6 c6 x wx lo b (by have := bx.size; omega) (RecsAt.keep (w := w2) hrecs fun q _ hq => (bx.block q (by omega)).trans ((B8.out.block q (by omega)).trans (KPX.out q (by omega) (by omega) (by omega)))) hfew hok PBT hx0))
        have hnn : 1 ≤ 5 - 1 - 1 := by omega
        have hfol : Try.prog.follows Departure.mixedOrders = true := by kernel_rfl
        gi_wp2
        refine wpIn_region_any (by assumption) ?_
        (try (change wpAnyIn _ _ _ _ _ _ _ _ _ (World.drew _)))
        refine wpAnyIn_ready (rs := [0, 1, 2]) (by kernel_rfl) (by simp) (AllReadyIn.cons rfl (fun K2 hK => ?_) (AllReadyIn.cons rfl (fun K2 hK => ?_) (AllReadyIn.cons rfl (fun K2 hK => ?_) AllReadyIn.nil)))
        · go_simp; refine hK _ _ ?_; clear hK K2
          refine wpAnyIn_ready (rs := [1, 2]) (by kernel_rfl) (by simp) (AllReadyIn.cons rfl (fun K2 hK => ?_) (AllReadyIn.cons rfl (fun K2 hK => ?_) AllReadyIn.nil))
          · go_simp; refine hK _ _ ?_; clear hK K2
            refine wpAnyIn_ready (rs := [2]) (by kernel_rfl) (by simp) (AllReadyIn.cons rfl (fun K2 hK => ?_) AllReadyIn.nil)
            go_simp; refine hK _ _ ?_; clear hK K2
            refine wpAnyIn_ready (rs := [3]) (by kernel_rfl) (by simp) (AllReadyIn.cons rfl (fun K2 hK => ?_) AllReadyIn.nil)
            go_simp; refine ⟨trivial, ?_⟩; (gi_at_call 25; refine (RDS.out W8.drew (Below.refl _ _).drew).mono ?_; rintro e w10 ⟨v8, qs, S8, base8, rfl, hq8, ho8, hp8, hS8, b10⟩; obtain ⟨A8, c8, rfl⟩ := rowForm ho8; have B10 : Hid (Below W8.heap.size W8 w10) := ⟨b10.os, b10.tape, b10.output, b10.size, b10.block⟩; have Q8 := Seg.hid hq8; have O8 := Seg.hid ho8; have P8 := Seg.hid hp8; have S10 : Hid (∀ y, S8 y → W8.heap.size ≤ y ∧ y < w10.heap.size) := hS8; have K8 : w10.cell? ⟨w.heap.size + 1 + 1 + 1, 0, none⟩ = some (.slice A1 ps.length c1) := (B10.out.cell (p := ⟨w.heap.size + 1 + 1 + 1, 0, none⟩) hl8).trans lc; have QL : qs.length ≤ 40 := (by have h9 := congrArg List.length hq8; rw [List.length_map] at h9; unfold reads at h9; rw [rds_len, List.length_drop] at h9; have := OKL; omega); have hl10 : w.heap.size + 1 + 1 + 1 < w10.heap.size := (by have := B10.out.size; omega); clear hq8 ho8 hp8 hS8 b10)
            (try dsimp only); refine hK _ _ ?_; clear hK K2
            refine wpAnyIn_ready (rs := [4]) (by kernel_rfl) (by simp) (AllReadyIn.cons rfl (fun K2 hK => ?_) AllReadyIn.nil)
            obtain ⟨v9, w11, hr9, hown9, gr9, hat9⟩ := Ft.run_append_all (P := Try.prog) w10 (w.heap.size + 1 + 1) 26 26 55 i0 _ 7 88 Try.underlying26 hi hz0 hz1 hz2 rfl (by decide) (.slice A1 ps.length c1) ps.length (cellsR ps) (ownsKeep PR8.out.own (fun g hg => B10.out.block g (World.ownsRow.lt PR8.out.own g hg).2)) A8 qs.length c8 (cellsR qs) (cellsR_len qs) (news O8.out) (cellsR_fine P8.out) (by unfold maxLen; omega) (by omega) (by have := B10.out.size; omega)
            refine AppIn.stepIn_append (by rfl) _ _ _ (by rfl) (by rfl) (by rfl) hr9 ?_
            clear hr9
            obtain ⟨A9, c9, rfl⟩ := rowForm hown9
            have D9 := Seg.hid (PR.push PR8.out B10.out P8.out S10.out hown9 gr9 hat9)
            have NX := Seg.hid (nxV PR8.out LB8.out B10.out gr9 D9.out ((HVV.out _).2 (.inr rfl)) (by omega) KF8.out KP8.out)
            have q6 := NX.out.1
            have p6 := NX.out.2.1
            clear hown9 gr9 hat9
            refine hK _ _ ?_; clear hK K2
            refine wpAnyIn_ready (rs := [5]) (by kernel_rfl) (by simp) (AllReadyIn.cons rfl (fun K2 hK => ?_) AllReadyIn.nil)
            go_simp; refine hK _ _ ?_; clear hK K2
            refine wpAnyIn_done (by kernel_rfl) ?_ _
            exact ⟨NX.out.2.2.1, NX.out.2.2.2.1, A9, c9, ps ++ qs, NX.out.2.2.2.2.1, NX.out.2.2.2.2.2, VSN.out qs Q8.out, by rw [List.length_append, List.length_append, List.length_singleton]; omega⟩
          · go_simp; refine hK _ _ ?_; clear hK K2
            refine wpAnyIn_ready (rs := [1]) (by kernel_rfl) (by simp) (AllReadyIn.cons rfl (fun K2 hK => ?_) AllReadyIn.nil)
            go_simp; refine hK _ _ ?_; clear hK K2
            refine wpAnyIn_ready (rs := [3]) (by kernel_rfl) (by simp) (AllReadyIn.cons rfl (fun K2 hK => ?_) AllReadyIn.nil)
            go_simp; refine ⟨trivial, ?_⟩; (gi_at_call 25; refine (RDS.out W8.drew (Below.refl _ _).drew).mono ?_; rintro e w10 ⟨v8, qs, S8, base8, rfl, hq8, ho8, hp8, hS8, b10⟩; obtain ⟨A8, c8, rfl⟩ := rowForm ho8; have B10 : Hid (Below W8.heap.size W8 w10) := ⟨b10.os, b10.tape, b10.output, b10.size, b10.block⟩; have Q8 := Seg.hid hq8; have O8 := Seg.hid ho8; have P8 := Seg.hid hp8; have S10 : Hid (∀ y, S8 y → W8.heap.size ≤ y ∧ y < w10.heap.size) := hS8; have K8 : w10.cell? ⟨w.heap.size + 1 + 1 + 1, 0, none⟩ = some (.slice A1 ps.length c1) := (B10.out.cell (p := ⟨w.heap.size + 1 + 1 + 1, 0, none⟩) hl8).trans lc; have QL : qs.length ≤ 40 := (by have h9 := congrArg List.length hq8; rw [List.length_map] at h9; unfold reads at h9; rw [rds_len, List.length_drop] at h9; have := OKL; omega); have hl10 : w.heap.size + 1 + 1 + 1 < w10.heap.size := (by have := B10.out.size; omega); clear hq8 ho8 hp8 hS8 b10)
            (try dsimp only); refine hK _ _ ?_; clear hK K2
            refine wpAnyIn_ready (rs := [4]) (by kernel_rfl) (by simp) (AllReadyIn.cons rfl (fun K2 hK => ?_) AllReadyIn.nil)
            obtain ⟨v9, w11, hr9, hown9, gr9, hat9⟩ := Ft.run_append_all (P := Try.prog) w10 (w.heap.size + 1 + 1) 26 26 55 i0 _ 7 88 Try.underlying26 hi hz0 hz1 hz2 rfl (by decide) (.slice A1 ps.length c1) ps.length (cellsR ps) (ownsKeep PR8.out.own (fun g hg => B10.out.block g (World.ownsRow.lt PR8.out.own g hg).2)) A8 qs.length c8 (cellsR qs) (cellsR_len qs) (news O8.out) (cellsR_fine P8.out) (by unfold maxLen; omega) (by omega) (by have := B10.out.size; omega)
            refine AppIn.stepIn_append (by rfl) _ _ _ (by rfl) (by rfl) (by rfl) hr9 ?_
            clear hr9
            obtain ⟨A9, c9, rfl⟩ := rowForm hown9
            have D9 := Seg.hid (PR.push PR8.out B10.out P8.out S10.out hown9 gr9 hat9)
            have NX := Seg.hid (nxV PR8.out LB8.out B10.out gr9 D9.out ((HVV.out _).2 (.inr rfl)) (by omega) KF8.out KP8.out)
            have q6 := NX.out.1
            have p6 := NX.out.2.1
            clear hown9 gr9 hat9
            refine hK _ _ ?_; clear hK K2
            refine wpAnyIn_ready (rs := [5]) (by kernel_rfl) (by simp) (AllReadyIn.cons rfl (fun K2 hK => ?_) AllReadyIn.nil)
            go_simp; refine hK _ _ ?_; clear hK K2
            refine wpAnyIn_done (by kernel_rfl) ?_ _
            exact ⟨NX.out.2.2.1, NX.out.2.2.2.1, A9, c9, ps ++ qs, NX.out.2.2.2.2.1, NX.out.2.2.2.2.2, VSN.out qs Q8.out, by rw [List.length_append, List.length_append, List.length_singleton]; omega⟩
        · go_simp; refine hK _ _ ?_; clear hK K2
          refine wpAnyIn_ready (rs := [0, 2]) (by kernel_rfl) (by simp) (AllReadyIn.cons rfl (fun K2 hK => ?_) (AllReadyIn.cons rfl (fun K2 hK => ?_) AllReadyIn.nil))
          · go_simp; refine hK _ _ ?_; clear hK K2
            refine wpAnyIn_ready (rs := [2]) (by kernel_rfl) (by simp) (AllReadyIn.cons rfl (fun K2 hK => ?_) AllReadyIn.nil)
            go_simp; refine hK _ _ ?_; clear hK K2
            refine wpAnyIn_ready (rs := [3]) (by kernel_rfl) (by simp) (AllReadyIn.cons rfl (fun K2 hK => ?_) AllReadyIn.nil)
            go_simp; refine ⟨trivial, ?_⟩; (gi_at_call 25; refine (RDS.out W8.drew (Below.refl _ _).drew).mono ?_; rintro e w10 ⟨v8, qs, S8, base8, rfl, hq8, ho8, hp8, hS8, b10⟩; obtain ⟨A8, c8, rfl⟩ := rowForm ho8; have B10 : Hid (Below W8.heap.size W8 w10) := ⟨b10.os, b10.tape, b10.output, b10.size, b10.block⟩; have Q8 := Seg.hid hq8; have O8 := Seg.hid ho8; have P8 := Seg.hid hp8; have S10 : Hid (∀ y, S8 y → W8.heap.size ≤ y ∧ y < w10.heap.size) := hS8; have K8 : w10.cell? ⟨w.heap.size + 1 + 1 + 1, 0, none⟩ = some (.slice A1 ps.length c1) := (B10.out.cell (p := ⟨w.heap.size + 1 + 1 + 1, 0, none⟩) hl8).trans lc; have QL : qs.length ≤ 40 := (by have h9 := congrArg List.length hq8; rw [List.length_map] at h9; unfold reads at h9; rw [rds_len, List.length_drop] at h9; have := OKL; omega); have hl10 : w.heap.size + 1 + 1 + 1 < w10.heap.size := (by have := B10.out.size; omega); clear hq8 ho8 hp8 hS8 b10)
            (try dsimp only); refine hK _ _ ?_; clear hK K2
            refine wpAnyIn_ready (rs := [4]) (by kernel_rfl) (by simp) (AllReadyIn.cons rfl (fun K2 hK => ?_) AllReadyIn.nil)
            obtain ⟨v9, w11, hr9, hown9, gr9, hat9⟩ := Ft.run_append_all (P := Try.prog) w10 (w.heap.size + 1 + 1) 26 26 55 i0 _ 7 88 Try.underlying26 hi hz0 hz1 hz2 rfl (by decide) (.slice A1 ps.length c1) ps.length (cellsR ps) (ownsKeep PR8.out.own (fun g hg => B10.out.block g (World.ownsRow.lt PR8.out.own g hg).2)) A8 qs.length c8 (cellsR qs) (cellsR_len qs) (news O8.out) (cellsR_fine P8.out) (by unfold maxLen; omega) (by omega) (by have := B10.out.size; omega)
            refine AppIn.stepIn_append (by rfl) _ _ _ (by rfl) (by rfl) (by rfl) hr9 ?_
            clear hr9
            obtain ⟨A9, c9, rfl⟩ := rowForm hown9
            have D9 := Seg.hid (PR.push PR8.out B10.out P8.out S10.out hown9 gr9 hat9)
            have NX := Seg.hid (nxV PR8.out LB8.out B10.out gr9 D9.out ((HVV.out _).2 (.inr rfl)) (by omega) KF8.out KP8.out)
            have q6 := NX.out.1
            have p6 := NX.out.2.1
            clear hown9 gr9 hat9
            refine hK _ _ ?_; clear hK K2
            refine wpAnyIn_ready (rs := [5]) (by kernel_rfl) (by simp) (AllReadyIn.cons rfl (fun K2 hK => ?_) AllReadyIn.nil)
            go_simp; refine hK _ _ ?_; clear hK K2
            refine wpAnyIn_done (by kernel_rfl) ?_ _
            exact ⟨NX.out.2.2.1, NX.out.2.2.2.1, A9, c9, ps ++ qs, NX.out.2.2.2.2.1, NX.out.2.2.2.2.2, VSN.out qs Q8.out, by rw [List.length_append, List.length_append, List.length_singleton]; omega⟩
          · go_simp; refine hK _ _ ?_; clear hK K2
            refine wpAnyIn_ready (rs := [0, 3]) (by kernel_rfl) (by simp) (AllReadyIn.cons rfl (fun K2 hK => ?_) (AllReadyIn.cons rfl (fun K2 hK => ?_) AllReadyIn.nil))
            · go_simp; refine hK _ _ ?_; clear hK K2
              refine wpAnyIn_ready (rs := [3]) (by kernel_rfl) (by simp) (AllReadyIn.cons rfl (fun K2 hK => ?_) AllReadyIn.nil)
              go_simp; refine ⟨trivial, ?_⟩; (gi_at_call 25; refine (RDS.out W8.drew (Below.refl _ _).drew).mono ?_; rintro e w10 ⟨v8, qs, S8, base8, rfl, hq8, ho8, hp8, hS8, b10⟩; obtain ⟨A8, c8, rfl⟩ := rowForm ho8; have B10 : Hid (Below W8.heap.size W8 w10) := ⟨b10.os, b10.tape, b10.output, b10.size, b10.block⟩; have Q8 := Seg.hid hq8; have O8 := Seg.hid ho8; have P8 := Seg.hid hp8; have S10 : Hid (∀ y, S8 y → W8.heap.size ≤ y ∧ y < w10.heap.size) := hS8; have K8 : w10.cell? ⟨w.heap.size + 1 + 1 + 1, 0, none⟩ = some (.slice A1 ps.length c1) := (B10.out.cell (p := ⟨w.heap.size + 1 + 1 + 1, 0, none⟩) hl8).trans lc; have QL : qs.length ≤ 40 := (by have h9 := congrArg List.length hq8; rw [List.length_map] at h9; unfold reads at h9; rw [rds_len, List.length_drop] at h9; have := OKL; omega); have hl10 : w.heap.size + 1 + 1 + 1 < w10.heap.size := (by have := B10.out.size; omega); clear hq8 ho8 hp8 hS8 b10)
              (try dsimp only); refine hK _ _ ?_; clear hK K2
              refine wpAnyIn_ready (rs := [4]) (by kernel_rfl) (by simp) (AllReadyIn.cons rfl (fun K2 hK => ?_) AllReadyIn.nil)
              obtain ⟨v9, w11, hr9, hown9, gr9, hat9⟩ := Ft.run_append_all (P := Try.prog) w10 (w.heap.size + 1 + 1) 26 26 55 i0 _ 7 88 Try.underlying26 hi hz0 hz1 hz2 rfl (by decide) (.slice A1 ps.length c1) ps.length (cellsR ps) (ownsKeep PR8.out.own (fun g hg => B10.out.block g (World.ownsRow.lt PR8.out.own g hg).2)) A8 qs.length c8 (cellsR qs) (cellsR_len qs) (news O8.out) (cellsR_fine P8.out) (by unfold maxLen; omega) (by omega) (by have := B10.out.size; omega)
              refine AppIn.stepIn_append (by rfl) _ _ _ (by rfl) (by rfl) (by rfl) hr9 ?_
              clear hr9
              obtain ⟨A9, c9, rfl⟩ := rowForm hown9
              have D9 := Seg.hid (PR.push PR8.out B10.out P8.out S10.out hown9 gr9 hat9)
              have NX := Seg.hid (nxV PR8.out LB8.out B10.out gr9 D9.out ((HVV.out _).2 (.inr rfl)) (by omega) KF8.out KP8.out)
              have q6 := NX.out.1
              have p6 := NX.out.2.1
              clear hown9 gr9 hat9
              refine hK _ _ ?_; clear hK K2
              refine wpAnyIn_ready (rs := [5]) (by kernel_rfl) (by simp) (AllReadyIn.cons rfl (fun K2 hK => ?_) AllReadyIn.nil)
              go_simp; refine hK _ _ ?_; clear hK K2
              refine wpAnyIn_done (by kernel_rfl) ?_ _
              exact ⟨NX.out.2.2.1, NX.out.2.2.2.1, A9, c9, ps ++ qs, NX.out.2.2.2.2.1, NX.out.2.2.2.2.2, VSN.out qs Q8.out, by rw [List.length_append, List.length_append, List.length_singleton]; omega⟩
            · go_simp; refine ⟨trivial, ?_⟩; (gi_at_call 25; refine (RDS.out W8.drew (Below.refl _ _).drew).mono ?_; rintro e w10 ⟨v8, qs, S8, base8, rfl, hq8, ho8, hp8, hS8, b10⟩; obtain ⟨A8, c8, rfl⟩ := rowForm ho8; have B10 : Hid (Below W8.heap.size W8 w10) := ⟨b10.os, b10.tape, b10.output, b10.size, b10.block⟩; have Q8 := Seg.hid hq8; have O8 := Seg.hid ho8; have P8 := Seg.hid hp8; have S10 : Hid (∀ y, S8 y → W8.heap.size ≤ y ∧ y < w10.heap.size) := hS8; have K8 : w10.cell? ⟨w.heap.size + 1 + 1 + 1, 0, none⟩ = some (.slice A1 ps.length c1) := (B10.out.cell (p := ⟨w.heap.size + 1 + 1 + 1, 0, none⟩) hl8).trans lc; have QL : qs.length ≤ 40 := (by have h9 := congrArg List.length hq8; rw [List.length_map] at h9; unfold reads at h9; rw [rds_len, List.length_drop] at h9; have := OKL; omega); have hl10 : w.heap.size + 1 + 1 + 1 < w10.heap.size := (by have := B10.out.size; omega); clear hq8 ho8 hp8 hS8 b10)
              (try dsimp only); refine hK _ _ ?_; clear hK K2
              refine wpAnyIn_ready (rs := [0]) (by kernel_rfl) (by simp) (AllReadyIn.cons rfl (fun K2 hK => ?_) AllReadyIn.nil)
              go_simp; refine hK _ _ ?_; clear hK K2
              refine wpAnyIn_ready (rs := [4]) (by kernel_rfl) (by simp) (AllReadyIn.cons rfl (fun K2 hK => ?_) AllReadyIn.nil)
              obtain ⟨v9, w11, hr9, hown9, gr9, hat9⟩ := Ft.run_append_all (P := Try.prog) w10 (w.heap.size + 1 + 1) 26 26 55 i0 _ 7 88 Try.underlying26 hi hz0 hz1 hz2 rfl (by decide) (.slice A1 ps.length c1) ps.length (cellsR ps) (ownsKeep PR8.out.own (fun g hg => B10.out.block g (World.ownsRow.lt PR8.out.own g hg).2)) A8 qs.length c8 (cellsR qs) (cellsR_len qs) (news O8.out) (cellsR_fine P8.out) (by unfold maxLen; omega) (by omega) (by have := B10.out.size; omega)
              refine AppIn.stepIn_append (by rfl) _ _ _ (by rfl) (by rfl) (by rfl) hr9 ?_
              clear hr9
              obtain ⟨A9, c9, rfl⟩ := rowForm hown9
              have D9 := Seg.hid (PR.push PR8.out B10.out P8.out S10.out hown9 gr9 hat9)
              have NX := Seg.hid (nxV PR8.out LB8.out B10.out gr9 D9.out ((HVV.out _).2 (.inr rfl)) (by omega) KF8.out KP8.out)
              have q6 := NX.out.1
              have p6 := NX.out.2.1
              clear hown9 gr9 hat9
              refine hK _ _ ?_; clear hK K2
              refine wpAnyIn_ready (rs := [5]) (by kernel_rfl) (by simp) (AllReadyIn.cons rfl (fun K2 hK => ?_) AllReadyIn.nil)
              go_simp; refine hK _ _ ?_; clear hK K2
              refine wpAnyIn_done (by kernel_rfl) ?_ _
              exact ⟨NX.out.2.2.1, NX.out.2.2.2.1, A9, c9, ps ++ qs, NX.out.2.2.2.2.1, NX.out.2.2.2.2.2, VSN.out qs Q8.out, by rw [List.length_append, List.length_append, List.length_singleton]; omega⟩
        · go_simp; refine hK _ _ ?_; clear hK K2
          refine wpAnyIn_ready (rs := [0, 1]) (by kernel_rfl) (by simp) (AllReadyIn.cons rfl (fun K2 hK => ?_) (AllReadyIn.cons rfl (fun K2 hK => ?_) AllReadyIn.nil))
          · go_simp; refine hK _ _ ?_; clear hK K2
            refine wpAnyIn_ready (rs := [1]) (by kernel_rfl) (by simp) (AllReadyIn.cons rfl (fun K2 hK => ?_) AllReadyIn.nil)
            go_simp; refine hK _ _ ?_; clear hK K2
            refine wpAnyIn_ready (rs := [3]) (by kernel_rfl) (by simp) (AllReadyIn.cons rfl (fun K2 hK => ?_) AllReadyIn.nil)
            go_simp; refine ⟨trivial, ?_⟩; (gi_at_call 25; refine (RDS.out W8.drew (Below.refl _ _).drew).mono ?_; rintro e w10 ⟨v8, qs, S8, base8, rfl, hq8, ho8, hp8, hS8, b10⟩; obtain ⟨A8, c8, rfl⟩ := rowForm ho8; have B10 : Hid (Below W8.heap.size W8 w10) := ⟨b10.os, b10.tape, b10.output, b10.size, b10.block⟩; have Q8 := Seg.hid hq8; have O8 := Seg.hid ho8; have P8 := Seg.hid hp8; have S10 : Hid (∀ y, S8 y → W8.heap.size ≤ y ∧ y < w10.heap.size) := hS8; have K8 : w10.cell? ⟨w.heap.size + 1 + 1 + 1, 0, none⟩ = some (.slice A1 ps.length c1) := (B10.out.cell (p := ⟨w.heap.size + 1 + 1 + 1, 0, none⟩) hl8).trans lc; have QL : qs.length ≤ 40 := (by have h9 := congrArg List.length hq8; rw [List.length_map] at h9; unfold reads at h9; rw [rds_len, List.length_drop] at h9; have := OKL; omega); have hl10 : w.heap.size + 1 + 1 + 1 < w10.heap.size := (by have := B10.out.size; omega); clear hq8 ho8 hp8 hS8 b10)
            (try dsimp only); refine hK _ _ ?_; clear hK K2
            refine wpAnyIn_ready (rs := [4]) (by kernel_rfl) (by simp) (AllReadyIn.cons rfl (fun K2 hK => ?_) AllReadyIn.nil)
            obtain ⟨v9, w11, hr9, hown9, gr9, hat9⟩ := Ft.run_append_all (P := Try.prog) w10 (w.heap.size + 1 + 1) 26 26 55 i0 _ 7 88 Try.underlying26 hi hz0 hz1 hz2 rfl (by decide) (.slice A1 ps.length c1) ps.length (cellsR ps) (ownsKeep PR8.out.own (fun g hg => B10.out.block g (World.ownsRow.lt PR8.out.own g hg).2)) A8 qs.length c8 (cellsR qs) (cellsR_len qs) (news O8.out) (cellsR_fine P8.out) (by unfold maxLen; omega) (by omega) (by have := B10.out.size; omega)
            refine AppIn.stepIn_append (by rfl) _ _ _ (by rfl) (by rfl) (by rfl) hr9 ?_
            clear hr9
            obtain ⟨A9, c9, rfl⟩ := rowForm hown9
            have D9 := Seg.hid (PR.push PR8.out B10.out P8.out S10.out hown9 gr9 hat9)
            have NX := Seg.hid (nxV PR8.out LB8.out B10.out gr9 D9.out ((HVV.out _).2 (.inr rfl)) (by omega) KF8.out KP8.out)
            have q6 := NX.out.1
            have p6 := NX.out.2.1
            clear hown9 gr9 hat9
            refine hK _ _ ?_; clear hK K2
            refine wpAnyIn_ready (rs := [5]) (by kernel_rfl) (by simp) (AllReadyIn.cons rfl (fun K2 hK => ?_) AllReadyIn.nil)
            go_simp; refine hK _ _ ?_; clear hK K2
            refine wpAnyIn_done (by kernel_rfl) ?_ _
            exact ⟨NX.out.2.2.1, NX.out.2.2.2.1, A9, c9, ps ++ qs, NX.out.2.2.2.2.1, NX.out.2.2.2.2.2, VSN.out qs Q8.out, by rw [List.length_append, List.length_append, List.length_singleton]; omega⟩
          · go_simp; refine hK _ _ ?_; clear hK K2
            refine wpAnyIn_ready (rs := [0, 3]) (by kernel_rfl) (by simp) (AllReadyIn.cons rfl (fun K2 hK => ?_) (AllReadyIn.cons rfl (fun K2 hK => ?_) AllReadyIn.nil))
            · go_simp; refine hK _ _ ?_; clear hK K2
              refine wpAnyIn_ready (rs := [3]) (by kernel_rfl) (by simp) (AllReadyIn.cons rfl (fun K2 hK => ?_) AllReadyIn.nil)
              go_simp; refine ⟨trivial, ?_⟩; (gi_at_call 25; refine (RDS.out W8.drew (Below.refl _ _).drew).mono ?_; rintro e w10 ⟨v8, qs, S8, base8, rfl, hq8, ho8, hp8, hS8, b10⟩; obtain ⟨A8, c8, rfl⟩ := rowForm ho8; have B10 : Hid (Below W8.heap.size W8 w10) := ⟨b10.os, b10.tape, b10.output, b10.size, b10.block⟩; have Q8 := Seg.hid hq8; have O8 := Seg.hid ho8; have P8 := Seg.hid hp8; have S10 : Hid (∀ y, S8 y → W8.heap.size ≤ y ∧ y < w10.heap.size) := hS8; have K8 : w10.cell? ⟨w.heap.size + 1 + 1 + 1, 0, none⟩ = some (.slice A1 ps.length c1) := (B10.out.cell (p := ⟨w.heap.size + 1 + 1 + 1, 0, none⟩) hl8).trans lc; have QL : qs.length ≤ 40 := (by have h9 := congrArg List.length hq8; rw [List.length_map] at h9; unfold reads at h9; rw [rds_len, List.length_drop] at h9; have := OKL; omega); have hl10 : w.heap.size + 1 + 1 + 1 < w10.heap.size := (by have := B10.out.size; omega); clear hq8 ho8 hp8 hS8 b10)
              (try dsimp only); refine hK _ _ ?_; clear hK K2
              refine wpAnyIn_ready (rs := [4]) (by kernel_rfl) (by simp) (AllReadyIn.cons rfl (fun K2 hK => ?_) AllReadyIn.nil)
              obtain ⟨v9, w11, hr9, hown9, gr9, hat9⟩ := Ft.run_append_all (P := Try.prog) w10 (w.heap.size + 1 + 1) 26 26 55 i0 _ 7 88 Try.underlying26 hi hz0 hz1 hz2 rfl (by decide) (.slice A1 ps.length c1) ps.length (cellsR ps) (ownsKeep PR8.out.own (fun g hg => B10.out.block g (World.ownsRow.lt PR8.out.own g hg).2)) A8 qs.length c8 (cellsR qs) (cellsR_len qs) (news O8.out) (cellsR_fine P8.out) (by unfold maxLen; omega) (by omega) (by have := B10.out.size; omega)
              refine AppIn.stepIn_append (by rfl) _ _ _ (by rfl) (by rfl) (by rfl) hr9 ?_
              clear hr9
              obtain ⟨A9, c9, rfl⟩ := rowForm hown9
              have D9 := Seg.hid (PR.push PR8.out B10.out P8.out S10.out hown9 gr9 hat9)
              have NX := Seg.hid (nxV PR8.out LB8.out B10.out gr9 D9.out ((HVV.out _).2 (.inr rfl)) (by omega) KF8.out KP8.out)
              have q6 := NX.out.1
              have p6 := NX.out.2.1
              clear hown9 gr9 hat9
              refine hK _ _ ?_; clear hK K2
              refine wpAnyIn_ready (rs := [5]) (by kernel_rfl) (by simp) (AllReadyIn.cons rfl (fun K2 hK => ?_) AllReadyIn.nil)
              go_simp; refine hK _ _ ?_; clear hK K2
              refine wpAnyIn_done (by kernel_rfl) ?_ _
              exact ⟨NX.out.2.2.1, NX.out.2.2.2.1, A9, c9, ps ++ qs, NX.out.2.2.2.2.1, NX.out.2.2.2.2.2, VSN.out qs Q8.out, by rw [List.length_append, List.length_append, List.length_singleton]; omega⟩
            · go_simp; refine ⟨trivial, ?_⟩; (gi_at_call 25; refine (RDS.out W8.drew (Below.refl _ _).drew).mono ?_; rintro e w10 ⟨v8, qs, S8, base8, rfl, hq8, ho8, hp8, hS8, b10⟩; obtain ⟨A8, c8, rfl⟩ := rowForm ho8; have B10 : Hid (Below W8.heap.size W8 w10) := ⟨b10.os, b10.tape, b10.output, b10.size, b10.block⟩; have Q8 := Seg.hid hq8; have O8 := Seg.hid ho8; have P8 := Seg.hid hp8; have S10 : Hid (∀ y, S8 y → W8.heap.size ≤ y ∧ y < w10.heap.size) := hS8; have K8 : w10.cell? ⟨w.heap.size + 1 + 1 + 1, 0, none⟩ = some (.slice A1 ps.length c1) := (B10.out.cell (p := ⟨w.heap.size + 1 + 1 + 1, 0, none⟩) hl8).trans lc; have QL : qs.length ≤ 40 := (by have h9 := congrArg List.length hq8; rw [List.length_map] at h9; unfold reads at h9; rw [rds_len, List.length_drop] at h9; have := OKL; omega); have hl10 : w.heap.size + 1 + 1 + 1 < w10.heap.size := (by have := B10.out.size; omega); clear hq8 ho8 hp8 hS8 b10)
              (try dsimp only); refine hK _ _ ?_; clear hK K2
              refine wpAnyIn_ready (rs := [0]) (by kernel_rfl) (by simp) (AllReadyIn.cons rfl (fun K2 hK => ?_) AllReadyIn.nil)
              go_simp; refine hK _ _ ?_; clear hK K2
              refine wpAnyIn_ready (rs := [4]) (by kernel_rfl) (by simp) (AllReadyIn.cons rfl (fun K2 hK => ?_) AllReadyIn.nil)
              obtain ⟨v9, w11, hr9, hown9, gr9, hat9⟩ := Ft.run_append_all (P := Try.prog) w10 (w.heap.size + 1 + 1) 26 26 55 i0 _ 7 88 Try.underlying26 hi hz0 hz1 hz2 rfl (by decide) (.slice A1 ps.length c1) ps.length (cellsR ps) (ownsKeep PR8.out.own (fun g hg => B10.out.block g (World.ownsRow.lt PR8.out.own g hg).2)) A8 qs.length c8 (cellsR qs) (cellsR_len qs) (news O8.out) (cellsR_fine P8.out) (by unfold maxLen; omega) (by omega) (by have := B10.out.size; omega)
              refine AppIn.stepIn_append (by rfl) _ _ _ (by rfl) (by rfl) (by rfl) hr9 ?_
              clear hr9
              obtain ⟨A9, c9, rfl⟩ := rowForm hown9
              have D9 := Seg.hid (PR.push PR8.out B10.out P8.out S10.out hown9 gr9 hat9)
              have NX := Seg.hid (nxV PR8.out LB8.out B10.out gr9 D9.out ((HVV.out _).2 (.inr rfl)) (by omega) KF8.out KP8.out)
              have q6 := NX.out.1
              have p6 := NX.out.2.1
              clear hown9 gr9 hat9
              refine hK _ _ ?_; clear hK K2
              refine wpAnyIn_ready (rs := [5]) (by kernel_rfl) (by simp) (AllReadyIn.cons rfl (fun K2 hK => ?_) AllReadyIn.nil)
              go_simp; refine hK _ _ ?_; clear hK K2
              refine wpAnyIn_done (by kernel_rfl) ?_ _
              exact ⟨NX.out.2.2.1, NX.out.2.2.2.1, A9, c9, ps ++ qs, NX.out.2.2.2.2.1, NX.out.2.2.2.2.2, VSN.out qs Q8.out, by rw [List.length_append, List.length_append, List.length_singleton]; omega⟩
    case done =>
      rintro D ys W hD hS' hI hK
      obtain ⟨A1, c1, ps, h1, h2, h3, h4⟩ := hI
      have hz := h1.size
      have KX : ∀ y, y < w2.heap.size → y ≠ w.heap.size + 1 + 1 → y ≠ w.heap.size + 1 + 1 + 1 → W.heap[y]? = w2.heap[y]? := fun y hy a1 a2 => h1.keep y hy (fun hv => by have := (HVV.out y).1 hv; omega)
      have f0 : W.cell? ⟨w.heap.size + 1 + 1 + 1, 0, none⟩ = some (.slice A1 ps.length c1) := cell_of_row W (w.heap.size + 1 + 1 + 1) 0 _ _ (0, 0) h2
      have f1 : W.cell? ⟨w1.heap.size + 1, 0, none⟩ = some (.int .i64 e0) := cell_of_row W (w1.heap.size + 1) 0 _ _ (0, 0) ((KX _ (by omega) (by omega) (by omega)).trans N2.out)
      have f2 : W.cell? ⟨w.heap.size + 1, 0, none⟩ = some (.int .i64 x) := cell_of_row W (w.heap.size + 1) 0 _ _ (0, 0) ((KX _ (by omega) (by omega) (by omega)).trans F2.out)
      have HE : Hid (visible l x s = (ps.map Prod.fst, max e0 x)) := by
        show _ = _
        rw [HC.out, ← VE.out]
        have h5 := h3 []
        rw [List.append_nil, hS'] at h5
        rw [h5]
        simp [visP]
      have PE : Hid (∀ o', PR w2 (W.drew.putObj D o') (w.heap.size + 1 + 1) V (.slice A1 ps.length c1) ps) := fun o' => pr_own (h1.later (Below.refl _ _).drew) (grownBy_putObj' W.drew D o') (fun r e => by cases e; exact ⟨hD, _, hK, rfl⟩)
      have OE : Hid (∀ o', Ow.RedsOwn (W.drew.putObj D o') (Ls.seg w.heap.size (W.drew.putObj D o').heap.size) (.slice A1 ps.length c1) (ps.map Prod.fst)) := fun o' => (PE.out o').fin (by have h6 := congrArg List.length hS'; rw [List.length_map] at h6; have := List.length_filter_le (pB x) (flatB l.segs); unfold fromB at h6; omega) (by omega) (by have := B2.out.size; omega)
      have BE : Hid (∀ o', Below w.heap.size w (W.drew.putObj D o')) := fun o' => (PE.out o').below (fun k h => by have := (HVV.out k).1 h; omega) B2.out
      clear h1 h2 h3 h4 hS' PE KX
      have MX : Hid (∀ m : Int, m = max e0 x → visible l x s = (ps.map Prod.fst, m)) := fun m hm => by rw [HE.out, hm]
      by_cases hm : e0 < x
      · have ME : Hid (visible l x s = (ps.map Prod.fst, x)) := MX.out x (by omega)
        gi_wp2
        rename_i K aK
        refine wpIn_wide.2 ?_
        go_region
        all_goals
          refine aK _ _ ?_
          gi_wp2
          refine ⟨by simp, .inl ⟨_, _, rfl, run_takeDeferred hK, ?_⟩⟩
          exact ⟨_, results_tmp2 rfl _ _ _, .slice A1 ps.length c1, by rw [ME.out]; rfl, by rw [ME.out]; exact OE.out _, BE.out _⟩
      · have ME : Hid (visible l x s = (ps.map Prod.fst, e0)) := MX.out e0 (by omega)
        gi_wp2
        rename_i K aK
        refine wpIn_wide.2 ?_
        go_region
        all_goals
          refine aK _ _ ?_
          gi_wp2
          refine ⟨by simp, .inl ⟨_, _, rfl, run_takeDeferred hK, ?_⟩⟩
          exact ⟨_, results_tmp2 rfl _ _ _, .slice A1 ps.length c1, by rw [ME.out]; rfl, by rw [ME.out]; exact OE.out _, BE.out _⟩
    case stop =>
      rintro D c' pre W hD hS' hX hK
      obtain ⟨rfl, A1, c1, ps, h1, h2, h3, h4⟩ := hX
      have hz := h1.size
      have KX : ∀ y, y < w2.heap.size → y ≠ w.heap.size + 1 + 1 → y ≠ w.heap.size + 1 + 1 + 1 → W.heap[y]? = w2.heap[y]? := fun y hy a1 a2 => h1.keep y hy (fun hv => by have := (HVV.out y).1 hv; omega)
      have f0 : W.cell? ⟨w.heap.size + 1 + 1 + 1, 0, none⟩ = some (.slice A1 ps.length c1) := cell_of_row W (w.heap.size + 1 + 1 + 1) 0 _ _ (0, 0) h2
      have f1 : W.cell? ⟨w1.heap.size + 1, 0, none⟩ = some (.int .i64 e0) := cell_of_row W (w1.heap.size + 1) 0 _ _ (0, 0) ((KX _ (by omega) (by omega) (by omega)).trans N2.out)
      have f2 : W.cell? ⟨w.heap.size + 1, 0, none⟩ = some (.int .i64 x) := cell_of_row W (w.heap.size + 1) 0 _ _ (0, 0) ((KX _ (by omega) (by omega) (by omega)).trans F2.out)
      have HE : Hid (visible l x s = (ps.map Prod.fst, max e0 x)) := by
        show _ = _
        rw [HC.out, ← VE.out]
        obtain ⟨rest, hrest⟩ := hS'
        rw [← hrest, h3 rest]
      have PE : Hid (∀ o', PR w2 (W.drew.putObj D o') (w.heap.size + 1 + 1) V (.slice A1 ps.length c1) ps) := fun o' => pr_own (h1.later (Below.refl _ _).drew) (grownBy_putObj' W.drew D o') (fun r e => by cases e; exact ⟨hD, _, hK, rfl⟩)
      have OE : Hid (∀ o', Ow.RedsOwn (W.drew.putObj D o') (Ls.seg w.heap.size (W.drew.putObj D o').heap.size) (.slice A1 ps.length c1) (ps.map Prod.fst)) := fun o' => (PE.out o').fin (by omega) (by omega) (by have := B2.out.size; omega)
      have BE : Hid (∀ o', Below w.heap.size w (W.drew.putObj D o')) := fun o' => (PE.out o').below (fun k h => by have := (HVV.out k).1 h; omega) B2.out
      clear h1 h2 h3 h4 hS' PE KX
      have MX : Hid (∀ m : Int, m = max e0 x → visible l x s = (ps.map Prod.fst, m)) := fun m hm => by rw [HE.out, hm]
      by_cases hm : e0 < x
      · have ME : Hid (visible l x s = (ps.map Prod.fst, x)) := MX.out x (by omega)
        gi_wp2
        rename_i K aK
        refine wpIn_wide.2 ?_
        go_region
        all_goals
          refine aK _ _ ?_
          gi_wp2
          refine ⟨by simp, .inl ⟨_, _, rfl, run_takeDeferred hK, ?_⟩⟩
          exact ⟨_, results_tmp2 rfl _ _ _, .slice A1 ps.length c1, by rw [ME.out]; rfl, by rw [ME.out]; exact OE.out _, BE.out _⟩
      · have ME : Hid (visible l x s = (ps.map Prod.fst, e0)) := MX.out e0 (by omega)
        gi_wp2
        rename_i K aK
        refine wpIn_wide.2 ?_
        go_region
        all_goals
          refine aK _ _ ?_
          gi_wp2
          refine ⟨by simp, .inl ⟨_, _, rfl, run_takeDeferred hK, ?_⟩⟩
          exact ⟨_, results_tmp2 rfl _ _ _, .slice A1 ps.length c1, by rw [ME.out]; rfl, by rw [ME.out]; exact OE.out _, BE.out _⟩
theorem visible_any (v : Value) (l : Lg) (x : Int) (s : Bool) (w : World) (lo b : Nat) (hv : LogAt w lo b v l) (hb : b ≤ w.heap.size) (hf : FewL l) :
    Calls Try.prog 7 #[v, .int .i64 x, .bool s] w fun e w' => ∃ v, e = .returned (.tuple #[v, .int .i64 (visible l x s).2]) ∧ Ow.RedsOwn w' (Ls.seg w.heap.size w'.heap.size) v (visible l x s).1 ∧ Below w.heap.size w w' := by
  obtain ⟨sv, rfl, hs⟩ := hv
  obtain ⟨_, ⟨_, A, c, rfl, _⟩, _⟩ := id hs
  exact visible_core l x s A c w lo b hb hf hs
end Go.Proofs.Ytdnfnjlnfmafkaa.VsI
