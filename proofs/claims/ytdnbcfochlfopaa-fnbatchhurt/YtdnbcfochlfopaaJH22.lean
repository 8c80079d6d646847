/- A reader's head. (Written by gen_rd6.py.); bytes.Equal; a reader's body. -/
import Derived.Deep.RegionHeld3
import Derived.Test.YtdnbcfochlfopaaJH20
import Derived.Test.YtdnbcfochlfopaaJH21
namespace Go.Proofs.Ytdnbcfochlfopaa.Rd
set_option maxRecDepth 8000
open Go.RowKit
open RdP
open Recs
set_option linter.unusedVariables false

/-- The numbers ahead of the body but the last one. -/
def headR (ver : Int) (l : List Int) (p : Nat) : Option (Bat × Nat) :=
  match num l p with
  | none => none
  | some (b, p1) =>
  match num l p1 with
  | none => none
  | some (ep, p2) =>
  if ver = 2 then
    match num l p2 with
    | none => none
    | some (pr, p3) =>
    match num l p3 with
    | none => none
    | some (tu, p4) =>
    match num l p4 with
    | none => none
    | some (se, p5) =>
    match num l p5 with
    | none => none
    | some (fl, p6) => some (⟨b, ep, pr, tu, se, fl, []⟩, p6)
  else
    match num l p2 with
    | none => none
    | some (fl, p3) => some (⟨b, ep, -1, 0, 0, fl, []⟩, p3)

/-- Where the head stands: the reader, what it reads, the variable, the result's cells. -/
structure Hd7 (w wr : World) (G : Nat) (v : Value) (l : List Int) (p : Nat) (arr : Array Value) : Prop where
  rd : Rdr wr G v p
  gr : w.grownBy wr (some G)
  var : wr.heap[w.heap.size + 1]? = some (.cells arr 26 (0, 0))
  res : wr.heap[w.heap.size]? = some (.cells #[.int .i64 0, .int .i64 0, .int .i64 0, .int .i64 0, .int .i64 0, .int .i64 0, .slice none 0 0] 26 (0, 0))
theorem Hd7.read {w wr w1 : World} {G : Nat} {v : Value} {l : List Int} {p q : Nat} {arr : Array Value} (h : Hd7 w wr G v l p arr) (hG : G < w.heap.size) (gr : wr.grownBy w1 (some G)) (hR : Rdr w1 G v q) : Hd7 w w1 G v l q arr :=
  ⟨hR, h.gr.trans gr, PuT.kept h.var gr (by omega), PuT.kept h.res gr (by omega)⟩
theorem Hd7.put {w wr : World} {G : Nat} {v : Value} {l : List Int} {p : Nat} {arr : Array Value} (h : Hd7 w wr G v l p arr) (hG : G < w.heap.size) (i : Nat) (x : Value) : Hd7 w (wr.setCell ⟨w.heap.size + 1, i, none⟩ x) G v l p (arr.setIfInBounds i x) := by
  have gs := set_grown wr (w.heap.size + 1) i x
  exact ⟨(heap_setCell_other wr ⟨w.heap.size + 1, i, none⟩ G x (by show G ≠ w.heap.size + 1; omega)).trans h.rd, grow2 h.gr gs (fun g hg => by cases hg; omega), heap_setCell_same wr (w.heap.size + 1) i _ _ x h.var, (heap_setCell_other wr ⟨w.heap.size + 1, i, none⟩ w.heap.size x (by show w.heap.size ≠ w.heap.size + 1; omega)).trans h.res⟩
theorem cells_grown {w : World} {G g : Nat} (hg : w.heap.size ≤ g) : ∀ (vs : List Value) (o : Nat) (wr : World), w.grownBy wr (some G) → w.grownBy (wr.setCells g o vs) (some G)
  | [], _, _, h => h
  | x :: r, o, wr, h => cells_grown hg r (o + 1) _ (grow2 h (set_grown wr g o x) (fun k hk => by cases hk; exact hg))

set_option maxHeartbeats 3200000 in
theorem head_one (G : Nat) (v : Value) (l : List Int) (p : Nat) (ver : Int) (w : World) (hr : Rdr w G v p) (hd : Dat w G v l) (hp : p ≤ l.length) (hv : ¬ ver = 2) :
    Calls Try.prog 83 #[.pointer (some ⟨G, 0, none⟩), .int .i64 ver] w fun e w' => Step w w' G v 4 (headR ver l p) (fun _ t u => u = batVal t (.slice none 0 0)) e := by
  have HR := Seg.hid hr; have HD := Seg.hid hd
  have hG := rd_lt hr
  have HV := Seg.hid hv
  have hvb : (ver == 2) = false := by simp [hv]
  have PQ : Hid (p ≤ l.length) := hp
  have A0 : Hid (Hd7 w ((w.alloc (.cells #[.int .i64 0, .int .i64 0, .int .i64 0, .int .i64 0, .int .i64 0, .int .i64 0, .slice none 0 0] 26 (0, 0))).alloc (.cells #[.int .i64 0, .int .i64 0, .int .i64 (-1), .int .i64 0, .int .i64 0, .int .i64 0, .slice none 0 0] 26 (0, 0))) G v l p #[.int .i64 0, .int .i64 0, .int .i64 (-1), .int .i64 0, .int .i64 0, .int .i64 0, .slice none 0 0]) := by
    have gr : w.grownBy ((w.alloc (.cells #[.int .i64 0, .int .i64 0, .int .i64 0, .int .i64 0, .int .i64 0, .int .i64 0, .slice none 0 0] 26 (0, 0))).alloc (.cells #[.int .i64 0, .int .i64 0, .int .i64 (-1), .int .i64 0, .int .i64 0, .int .i64 0, .slice none 0 0] 26 (0, 0))) (some G) := PuI.below_grown (below2 w _ _) _
    refine ⟨rd_keep hr (PuI.below_grown (below2 w _ _) none) (fun g h => by cases h), gr, ?_, ?_⟩
    · rw [← hsz w (.cells #[.int .i64 0, .int .i64 0, .int .i64 0, .int .i64 0, .int .i64 0, .int .i64 0, .slice none 0 0] 26 (0, 0))]
      exact heap_alloc_new _ _
    · exact (heap_alloc_old _ _ (by rw [hsz]; omega)).trans (heap_alloc_new _ _)
  clear hr hd hv hp
  go_enter Try.func83, Try.ntmps83
  go_wp2_with fail
  refine (number_any G v l p 4 _ A0.out.rd (HD.out.keep A0.out.gr) PQ.out).mono ?_
  rintro e w0 S
  rcases ho : num l p with _ | ⟨x0, q0⟩
  · obtain rfl := S.no ho
    have HN : headR ver l p = none := by rw [headR]; rw [ho]
    exact ⟨rfl, A0.out.gr.trans S.gr, fun _ => rfl, fun x q h => by rw [HN] at h; cases h⟩
  obtain ⟨⟨u, rfl, rfl⟩, hR⟩ := S.yes x0 q0 ho
  have R0 := Seg.hid (A0.out.read hG S.gr hR); have O0 := Seg.hid ho
  replace PQ : Hid (q0 ≤ l.length) := num_le ho
  have c0 : w0.cell? ⟨w.heap.size + 1, 0, none⟩ = some (.int .i64 0) := cell_of_row w0 _ 0 _ _ (0, 0) R0.out.var
  have f0 : w0.frozen? ⟨w.heap.size + 1, 0, none⟩ = false := frozen_of_row w0 _ 0 _ _ R0.out.var
  have A1 := Seg.hid (R0.out.put hG 0 (.int .i64 x0))
  clear S hR ho
  have V1 : Hid (Hd7 w (w0.setCell ⟨w.heap.size + 1, 0, none⟩ (.int .i64 x0)) G v l q0 #[.int .i64 x0, .int .i64 0, .int .i64 (-1), .int .i64 0, .int .i64 0, .int .i64 0, .slice none 0 0]) := A1.out
  go_wp2_with fail
  refine (number_any G v l q0 4 _ V1.out.rd (HD.out.keep V1.out.gr) PQ.out).mono ?_
  rintro e w1 S
  rcases ho : num l q0 with _ | ⟨x1, q1⟩
  · obtain rfl := S.no ho
    have HN : headR ver l p = none := by rw [headR]; rw [O0.out]; show (match num l q0 with | none => none | some (y, p9) => _) = _; rw [ho]
    exact ⟨rfl, V1.out.gr.trans S.gr, fun _ => rfl, fun x q h => by rw [HN] at h; cases h⟩
  obtain ⟨⟨u, rfl, rfl⟩, hR⟩ := S.yes x1 q1 ho
  have R1 := Seg.hid (V1.out.read hG S.gr hR); have O1 := Seg.hid ho
  replace PQ : Hid (q1 ≤ l.length) := num_le ho
  have c1 : w1.cell? ⟨w.heap.size + 1, 1, none⟩ = some (.int .i64 0) := cell_of_row w1 _ 1 _ _ (0, 0) R1.out.var
  have f1 : w1.frozen? ⟨w.heap.size + 1, 1, none⟩ = false := frozen_of_row w1 _ 1 _ _ R1.out.var
  have A2 := Seg.hid (R1.out.put hG 1 (.int .i64 x1))
  clear S hR ho
  have V2 : Hid (Hd7 w (w1.setCell ⟨w.heap.size + 1, 1, none⟩ (.int .i64 x1)) G v l q1 #[.int .i64 x0, .int .i64 x1, .int .i64 (-1), .int .i64 0, .int .i64 0, .int .i64 0, .slice none 0 0]) := A2.out
  go_wp2_with fail
  refine (number_any G v l q1 4 _ V2.out.rd (HD.out.keep V2.out.gr) PQ.out).mono ?_
  rintro e w2 S
  rcases ho : num l q1 with _ | ⟨x2, q2⟩
  · obtain rfl := S.no ho
    have HN : headR ver l p = none := by rw [headR]; rw [O0.out]; show (match num l q0 with | none => none | some (y, p9) => _) = _; rw [O1.out]; show (if ver = 2 then _ else _) = _; rw [if_neg HV.out]; rw [ho]
    exact ⟨rfl, V2.out.gr.trans S.gr, fun _ => rfl, fun x q h => by rw [HN] at h; cases h⟩
  obtain ⟨⟨u, rfl, rfl⟩, hR⟩ := S.yes x2 q2 ho
  have R2 := Seg.hid (V2.out.read hG S.gr hR); have O2 := Seg.hid ho
  replace PQ : Hid (q2 ≤ l.length) := num_le ho
  have c2 : w2.cell? ⟨w.heap.size + 1, 5, none⟩ = some (.int .i64 0) := cell_of_row w2 _ 5 _ _ (0, 0) R2.out.var
  have f2 : w2.frozen? ⟨w.heap.size + 1, 5, none⟩ = false := frozen_of_row w2 _ 5 _ _ R2.out.var
  have A3 := Seg.hid (R2.out.put hG 5 (.int .i64 x2))
  clear S hR ho
  have V3 : Hid (Hd7 w (w2.setCell ⟨w.heap.size + 1, 5, none⟩ (.int .i64 x2)) G v l q2 #[.int .i64 x0, .int .i64 x1, .int .i64 (-1), .int .i64 0, .int .i64 0, .int .i64 x2, .slice none 0 0]) := A3.out
  have HN : Hid (headR ver l p = some (⟨x0, x1, (-1), 0, 0, x2, []⟩, q2)) := by show _ = _; rw [headR]; rw [O0.out]; show (match num l q0 with | none => none | some (y, p9) => _) = _; rw [O1.out]; show (if ver = 2 then _ else _) = _; rw [if_neg HV.out]; rw [O2.out]; 
  have H5 := Seg.hid (Cells.there_of V3.out.res)
  have H4 := Seg.hid (Cells.whole (vs := #[.int .i64 x0, .int .i64 x1, .int .i64 (-1), .int .i64 0, .int .i64 0, .int .i64 x2, .slice none 0 0]) V3.out.res rfl)
  have GF : Hid (w.grownBy ((w2.setCell ⟨w.heap.size + 1, 5, none⟩ (.int .i64 x2)).setCells w.heap.size 0 (#[.int .i64 x0, .int .i64 x1, .int .i64 (-1), .int .i64 0, .int .i64 0, .int .i64 x2, .slice none 0 0] : Array Value).toList) (some G)) := cells_grown (by omega) _ _ _ V3.out.gr
  have RF : Hid (Rdr ((w2.setCell ⟨w.heap.size + 1, 5, none⟩ (.int .i64 x2)).setCells w.heap.size 0 (#[.int .i64 x0, .int .i64 x1, .int .i64 (-1), .int .i64 0, .int .i64 0, .int .i64 x2, .slice none 0 0] : Array Value).toList) G v q2) := (Cells.heap_setCells_other _ _ (by omega)).trans V3.out.rd
  go_wp2_with (first | (refine wpList_load_row rfl 26 _ rfl (w.heap.size + 1) rfl _ _ _ _ V3.out.var Try.underlying26 rfl BatW.info40 ?_) | (refine wpList_store_mid rfl 26 _ _ rfl w.heap.size 0 #[.int .i64 x0, .int .i64 x1, .int .i64 (-1), .int .i64 0, .int .i64 0, .int .i64 x2, .slice none 0 0] rfl rfl H5.out BatW.info40 (by simp [Value.oneCell']) ?_))
  refine bodyPost_ret (v := .agg #[.int .i64 x0, .int .i64 x1, .int .i64 (-1), .int .i64 0, .int .i64 0, .int .i64 x2, .slice none 0 0]) (results_cell_row rfl _ _ w.heap.size _ _ _ _ rfl H4.out Try.underlying26 rfl BatW.info40) rfl ⟨GF.out, fun h => (by rw [HN.out] at h; cases h), fun x y h => ?_⟩
  rw [HN.out] at h
  simp only [Option.some.injEq, Prod.mk.injEq] at h
  obtain ⟨rfl, rfl⟩ := h
  exact ⟨⟨_, rfl, rfl⟩, RF.out⟩

set_option maxHeartbeats 3200000 in
theorem head_two (G : Nat) (v : Value) (l : List Int) (p : Nat) (ver : Int) (w : World) (hr : Rdr w G v p) (hd : Dat w G v l) (hp : p ≤ l.length) (hv : ver = 2) :
    Calls Try.prog 83 #[.pointer (some ⟨G, 0, none⟩), .int .i64 ver] w fun e w' => Step w w' G v 4 (headR ver l p) (fun _ t u => u = batVal t (.slice none 0 0)) e := by
  have HR := Seg.hid hr; have HD := Seg.hid hd
  have hG := rd_lt hr
  have HV := Seg.hid hv
  have hvb : (ver == 2) = true := by simp [hv]
  have PQ : Hid (p ≤ l.length) := hp
  have A0 : Hid (Hd7 w ((w.alloc (.cells #[.int .i64 0, .int .i64 0, .int .i64 0, .int .i64 0, .int .i64 0, .int .i64 0, .slice none 0 0] 26 (0, 0))).alloc (.cells #[.int .i64 0, .int .i64 0, .int .i64 (-1), .int .i64 0, .int .i64 0, .int .i64 0, .slice none 0 0] 26 (0, 0))) G v l p #[.int .i64 0, .int .i64 0, .int .i64 (-1), .int .i64 0, .int .i64 0, .int .i64 0, .slice none 0 0]) := by
    have gr : w.grownBy ((w.alloc (.cells #[.int .i64 0, .int .i64 0, .int .i64 0, .int .i64 0, .int .i64 0, .int .i64 0, .slice none 0 0] 26 (0, 0))).alloc (.cells #[.int .i64 0, .int .i64 0, .int .i64 (-1), .int .i64 0, .int .i64 0, .int .i64 0, .slice none 0 0] 26 (0, 0))) (some G) := PuI.below_grown (below2 w _ _) _
    refine ⟨rd_keep hr (PuI.below_grown (below2 w _ _) none) (fun g h => by cases h), gr, ?_, ?_⟩
    · rw [← hsz w (.cells #[.int .i64 0, .int .i64 0, .int .i64 0, .int .i64 0, .int .i64 0, .int .i64 0, .slice none 0 0] 26 (0, 0))]
      exact heap_alloc_new _ _
    · exact (heap_alloc_old _ _ (by rw [hsz]; omega)).trans (heap_alloc_new _ _)
  clear hr hd hv hp
  go_enter Try.func83, Try.ntmps83
  go_wp2_with fail
  refine (number_any G v l p 4 _ A0.out.rd (HD.out.keep A0.out.gr) PQ.out).mono ?_
  rintro e w0 S
  rcases ho : num l p with _ | ⟨x0, q0⟩
  · obtain rfl := S.no ho
    have HN : headR ver l p = none := by rw [headR]; rw [ho]
    exact ⟨rfl, A0.out.gr.trans S.gr, fun _ => rfl, fun x q h => by rw [HN] at h; cases h⟩
  obtain ⟨⟨u, rfl, rfl⟩, hR⟩ := S.yes x0 q0 ho
  have R0 := Seg.hid (A0.out.read hG S.gr hR); have O0 := Seg.hid ho
  replace PQ : Hid (q0 ≤ l.length) := num_le ho
  have c0 : w0.cell? ⟨w.heap.size + 1, 0, none⟩ = some (.int .i64 0) := cell_of_row w0 _ 0 _ _ (0, 0) R0.out.var
  have f0 : w0.frozen? ⟨w.heap.size + 1, 0, none⟩ = false := frozen_of_row w0 _ 0 _ _ R0.out.var
  have A1 := Seg.hid (R0.out.put hG 0 (.int .i64 x0))
  clear S hR ho
  have V1 : Hid (Hd7 w (w0.setCell ⟨w.heap.size + 1, 0, none⟩ (.int .i64 x0)) G v l q0 #[.int .i64 x0, .int .i64 0, .int .i64 (-1), .int .i64 0, .int .i64 0, .int .i64 0, .slice none 0 0]) := A1.out
  go_wp2_with fail
  refine (number_any G v l q0 4 _ V1.out.rd (HD.out.keep V1.out.gr) PQ.out).mono ?_
  rintro e w1 S
  rcases ho : num l q0 with _ | ⟨x1, q1⟩
  · obtain rfl := S.no ho
    have HN : headR ver l p = none := by rw [headR]; rw [O0.out]; show (match num l q0 with | none => none | some (y, p9) => _) = _; rw [ho]
    exact ⟨rfl, V1.out.gr.trans S.gr, fun _ => rfl, fun x q h => by rw [HN] at h; cases h⟩
  obtain ⟨⟨u, rfl, rfl⟩, hR⟩ := S.yes x1 q1 ho
  have R1 := Seg.hid (V1.out.read hG S.gr hR); have O1 := Seg.hid ho
  replace PQ : Hid (q1 ≤ l.length) := num_le ho
  have c1 : w1.cell? ⟨w.heap.size + 1, 1, none⟩ = some (.int .i64 0) := cell_of_row w1 _ 1 _ _ (0, 0) R1.out.var
  have f1 : w1.frozen? ⟨w.heap.size + 1, 1, none⟩ = false := frozen_of_row w1 _ 1 _ _ R1.out.var
  have A2 := Seg.hid (R1.out.put hG 1 (.int .i64 x1))
  clear S hR ho
  have V2 : Hid (Hd7 w (w1.setCell ⟨w.heap.size + 1, 1, none⟩ (.int .i64 x1)) G v l q1 #[.int .i64 x0, .int .i64 x1, .int .i64 (-1), .int .i64 0, .int .i64 0, .int .i64 0, .slice none 0 0]) := A2.out
  go_wp2_with fail
  refine (number_any G v l q1 4 _ V2.out.rd (HD.out.keep V2.out.gr) PQ.out).mono ?_
  rintro e w2 S
  rcases ho : num l q1 with _ | ⟨x2, q2⟩
  · obtain rfl := S.no ho
    have HN : headR ver l p = none := by rw [headR]; rw [O0.out]; show (match num l q0 with | none => none | some (y, p9) => _) = _; rw [O1.out]; show (if ver = 2 then _ else _) = _; rw [if_pos HV.out]; rw [ho]
    exact ⟨rfl, V2.out.gr.trans S.gr, fun _ => rfl, fun x q h => by rw [HN] at h; cases h⟩
  obtain ⟨⟨u, rfl, rfl⟩, hR⟩ := S.yes x2 q2 ho
  have R2 := Seg.hid (V2.out.read hG S.gr hR); have O2 := Seg.hid ho
  replace PQ : Hid (q2 ≤ l.length) := num_le ho
  have c2 : w2.cell? ⟨w.heap.size + 1, 2, none⟩ = some (.int .i64 (-1)) := cell_of_row w2 _ 2 _ _ (0, 0) R2.out.var
  have f2 : w2.frozen? ⟨w.heap.size + 1, 2, none⟩ = false := frozen_of_row w2 _ 2 _ _ R2.out.var
  have A3 := Seg.hid (R2.out.put hG 2 (.int .i64 x2))
  clear S hR ho
  have V3 : Hid (Hd7 w (w2.setCell ⟨w.heap.size + 1, 2, none⟩ (.int .i64 x2)) G v l q2 #[.int .i64 x0, .int .i64 x1, .int .i64 x2, .int .i64 0, .int .i64 0, .int .i64 0, .slice none 0 0]) := A3.out
  go_wp2_with fail
  refine (number_any G v l q2 4 _ V3.out.rd (HD.out.keep V3.out.gr) PQ.out).mono ?_
  rintro e w3 S
  rcases ho : num l q2 with _ | ⟨x3, q3⟩
  · obtain rfl := S.no ho
    have HN : headR ver l p = none := by rw [headR]; rw [O0.out]; show (match num l q0 with | none => none | some (y, p9) => _) = _; rw [O1.out]; show (if ver = 2 then _ else _) = _; rw [if_pos HV.out]; rw [O2.out]; show (match num l q2 with | none => none | some (y, p9) => _) = _; rw [ho]
    exact ⟨rfl, V3.out.gr.trans S.gr, fun _ => rfl, fun x q h => by rw [HN] at h; cases h⟩
  obtain ⟨⟨u, rfl, rfl⟩, hR⟩ := S.yes x3 q3 ho
  have R3 := Seg.hid (V3.out.read hG S.gr hR); have O3 := Seg.hid ho
  replace PQ : Hid (q3 ≤ l.length) := num_le ho
  have c3 : w3.cell? ⟨w.heap.size + 1, 3, none⟩ = some (.int .i64 0) := cell_of_row w3 _ 3 _ _ (0, 0) R3.out.var
  have f3 : w3.frozen? ⟨w.heap.size + 1, 3, none⟩ = false := frozen_of_row w3 _ 3 _ _ R3.out.var
  have A4 := Seg.hid (R3.out.put hG 3 (.int .i64 x3))
  clear S hR ho
  have V4 : Hid (Hd7 w (w3.setCell ⟨w.heap.size + 1, 3, none⟩ (.int .i64 x3)) G v l q3 #[.int .i64 x0, .int .i64 x1, .int .i64 x2, .int .i64 x3, .int .i64 0, .int .i64 0, .slice none 0 0]) := A4.out
  go_wp2_with fail
  refine (number_any G v l q3 4 _ V4.out.rd (HD.out.keep V4.out.gr) PQ.out).mono ?_
  rintro e w4 S
  rcases ho : num l q3 with _ | ⟨x4, q4⟩
  · obtain rfl := S.no ho
    have HN : headR ver l p = none := by rw [headR]; rw [O0.out]; show (match num l q0 with | none => none | some (y, p9) => _) = _; rw [O1.out]; show (if ver = 2 then _ else _) = _; rw [if_pos HV.out]; rw [O2.out]; show (match num l q2 with | none => none | some (y, p9) => _) = _; rw [O3.out]; show (match num l q3 with | none => none | some (y, p9) => _) = _; rw [ho]
    exact ⟨rfl, V4.out.gr.trans S.gr, fun _ => rfl, fun x q h => by rw [HN] at h; cases h⟩
  obtain ⟨⟨u, rfl, rfl⟩, hR⟩ := S.yes x4 q4 ho
  have R4 := Seg.hid (V4.out.read hG S.gr hR); have O4 := Seg.hid ho
  replace PQ : Hid (q4 ≤ l.length) := num_le ho
  have c4 : w4.cell? ⟨w.heap.size + 1, 4, none⟩ = some (.int .i64 0) := cell_of_row w4 _ 4 _ _ (0, 0) R4.out.var
  have f4 : w4.frozen? ⟨w.heap.size + 1, 4, none⟩ = false := frozen_of_row w4 _ 4 _ _ R4.out.var
  have A5 := Seg.hid (R4.out.put hG 4 (.int .i64 x4))
  clear S hR ho
  have V5 : Hid (Hd7 w (w4.setCell ⟨w.heap.size + 1, 4, none⟩ (.int .i64 x4)) G v l q4 #[.int .i64 x0, .int .i64 x1, .int .i64 x2, .int .i64 x3, .int .i64 x4, .int .i64 0, .slice none 0 0]) := A5.out
  go_wp2_with fail
  refine (number_any G v l q4 4 _ V5.out.rd (HD.out.keep V5.out.gr) PQ.out).mono ?_
  rintro e w5 S
  rcases ho : num l q4 with _ | ⟨x5, q5⟩
  · obtain rfl := S.no ho
    have HN : headR ver l p = none := by rw [headR]; rw [O0.out]; show (match num l q0 with | none => none | some (y, p9) => _) = _; rw [O1.out]; show (if ver = 2 then _ else _) = _; rw [if_pos HV.out]; rw [O2.out]; show (match num l q2 with | none => none | some (y, p9) => _) = _; rw [O3.out]; show (match num l q3 with | none => none | some (y, p9) => _) = _; rw [O4.out]; show (match num l q4 with | none => none | some (y, p9) => _) = _; rw [ho]
    exact ⟨rfl, V5.out.gr.trans S.gr, fun _ => rfl, fun x q h => by rw [HN] at h; cases h⟩
  obtain ⟨⟨u, rfl, rfl⟩, hR⟩ := S.yes x5 q5 ho
  have R5 := Seg.hid (V5.out.read hG S.gr hR); have O5 := Seg.hid ho
  replace PQ : Hid (q5 ≤ l.length) := num_le ho
  have c5 : w5.cell? ⟨w.heap.size + 1, 5, none⟩ = some (.int .i64 0) := cell_of_row w5 _ 5 _ _ (0, 0) R5.out.var
  have f5 : w5.frozen? ⟨w.heap.size + 1, 5, none⟩ = false := frozen_of_row w5 _ 5 _ _ R5.out.var
  have A6 := Seg.hid (R5.out.put hG 5 (.int .i64 x5))
  clear S hR ho
  have V6 : Hid (Hd7 w (w5.setCell ⟨w.heap.size + 1, 5, none⟩ (.int .i64 x5)) G v l q5 #[.int .i64 x0, .int .i64 x1, .int .i64 x2, .int .i64 x3, .int .i64 x4, .int .i64 x5, .slice none 0 0]) := A6.out
  have HN : Hid (headR ver l p = some (⟨x0, x1, x2, x3, x4, x5, []⟩, q5)) := by show _ = _; rw [headR]; rw [O0.out]; show (match num l q0 with | none => none | some (y, p9) => _) = _; rw [O1.out]; show (if ver = 2 then _ else _) = _; rw [if_pos HV.out]; rw [O2.out]; show (match num l q2 with | none => none | some (y, p9) => _) = _; rw [O3.out]; show (match num l q3 with | none => none | some (y, p9) => _) = _; rw [O4.out]; show (match num l q4 with | none => none | some (y, p9) => _) = _; rw [O5.out]; 
  have H5 := Seg.hid (Cells.there_of V6.out.res)
  have H4 := Seg.hid (Cells.whole (vs := #[.int .i64 x0, .int .i64 x1, .int .i64 x2, .int .i64 x3, .int .i64 x4, .int .i64 x5, .slice none 0 0]) V6.out.res rfl)
  have GF : Hid (w.grownBy ((w5.setCell ⟨w.heap.size + 1, 5, none⟩ (.int .i64 x5)).setCells w.heap.size 0 (#[.int .i64 x0, .int .i64 x1, .int .i64 x2, .int .i64 x3, .int .i64 x4, .int .i64 x5, .slice none 0 0] : Array Value).toList) (some G)) := cells_grown (by omega) _ _ _ V6.out.gr
  have RF : Hid (Rdr ((w5.setCell ⟨w.heap.size + 1, 5, none⟩ (.int .i64 x5)).setCells w.heap.size 0 (#[.int .i64 x0, .int .i64 x1, .int .i64 x2, .int .i64 x3, .int .i64 x4, .int .i64 x5, .slice none 0 0] : Array Value).toList) G v q5) := (Cells.heap_setCells_other _ _ (by omega)).trans V6.out.rd
  go_wp2_with (first | (refine wpList_load_row rfl 26 _ rfl (w.heap.size + 1) rfl _ _ _ _ V6.out.var Try.underlying26 rfl BatW.info40 ?_) | (refine wpList_store_mid rfl 26 _ _ rfl w.heap.size 0 #[.int .i64 x0, .int .i64 x1, .int .i64 x2, .int .i64 x3, .int .i64 x4, .int .i64 x5, .slice none 0 0] rfl rfl H5.out BatW.info40 (by simp [Value.oneCell']) ?_))
  refine bodyPost_ret (v := .agg #[.int .i64 x0, .int .i64 x1, .int .i64 x2, .int .i64 x3, .int .i64 x4, .int .i64 x5, .slice none 0 0]) (results_cell_row rfl _ _ w.heap.size _ _ _ _ rfl H4.out Try.underlying26 rfl BatW.info40) rfl ⟨GF.out, fun h => (by rw [HN.out] at h; cases h), fun x y h => ?_⟩
  rw [HN.out] at h
  simp only [Option.some.injEq, Prod.mk.injEq] at h
  obtain ⟨rfl, rfl⟩ := h
  exact ⟨⟨_, rfl, rfl⟩, RF.out⟩

theorem head_any (G : Nat) (v : Value) (l : List Int) (p : Nat) (ver : Int) (w : World) (hr : Rdr w G v p) (hd : Dat w G v l) (hp : p ≤ l.length) :
    Calls Try.prog 83 #[.pointer (some ⟨G, 0, none⟩), .int .i64 ver] w fun e w' => Step w w' G v 4 (headR ver l p) (fun _ t u => u = batVal t (.slice none 0 0)) e := by
  by_cases hv : ver = 2
  · exact head_two G v l p ver w hr hd hp hv
  · exact head_one G v l p ver w hr hd hp hv
end Go.Proofs.Ytdnbcfochlfopaa.Rd
namespace Go.Proofs.Ytdnbcfochlfopaa.Rd
set_option maxRecDepth 8000
open Go.RowKit
open RdP
open Recs (hsz below1)
open SqP (Out)
open WrP (four)
set_option linter.unusedVariables false

theorem str_inj {xs ys : List Int} (hx : Seg.Byt xs) (hy : Seg.Byt ys) : strOfNums xs = strOfNums ys ↔ xs = ys := by
  constructor
  · intro h
    have hd := congrArg (fun s : ByteArray => s.data.toList) h
    simp only [strOfNums] at hd
    have hl : xs.length = ys.length := by simpa using congrArg List.length hd
    refine List.ext_getElem hl fun i h1 h2 => ?_
    have := congrArg (fun z : List UInt8 => z[i]?) hd
    simp only [List.getElem?_map, List.getElem?_eq_getElem h1, List.getElem?_eq_getElem h2, Option.map_some, Option.some.injEq] at this
    have a := hx i; have b := hy i
    simp only [List.getD_eq_getElem?_getD, List.getElem?_eq_getElem h1, List.getElem?_eq_getElem h2, Option.getD_some] at a b
    have t := congrArg UInt8.toNat this
    simp only [UInt8.toNat_ofNat'] at t
    omega
  · rintro rfl; rfl

set_option maxHeartbeats 800000 in
theorem equal_any (a b : Value) (xs ys : List Int) (w : World) (ha : Seg.Seg w a xs) (hb : Seg.Seg w b ys) (hx : Seg.Byt xs) (hy : Seg.Byt ys) :
    Calls Try.prog 87 #[a, b] w fun e w' => e = .returned (.bool (decide (xs = ys))) ∧ ∃ n, w' = w.drewN n := by
  have c1 := conv_seg w a xs ha
  have c2 := conv_seg w b ys hb
  have HE : Hid (decide (xs = ys) = decide (strOfNums xs = strOfNums ys)) := by
    show _ = _
    rw [decide_eq_decide]
    exact (str_inj hx hy).symm
  clear ha hb hx hy
  go_enter Try.func87, Try.ntmps87
  go_wp2
  go_ret
  refine ⟨Seg.ret_bool ?_, 0, rfl⟩
  rw [HE.out, ByteArray.toList_eq, ByteArray.toList_eq, Bool.eq_iff_iff]
  simp only [beq_iff_eq, decide_eq_true_eq]
  exact ⟨fun h => ByteArray.ext (Array.toList_inj.1 h), fun h => by rw [h]⟩

/-- The body's bytes and the place behind its Check. -/
def bodyE (l : List Int) (a p : Nat) : Except Int (List Int × Nat) :=
  match num l p with
  | none => .error 4
  | some (n, q) =>
  if n < 0 then .error 4 else
  match tk l q n with
  | none => .error 1
  | some (xs, q1) =>
  match tk l q1 4 with
  | none => .error 1
  | some (ys, q2) => if ys = four (Crc.check ((l.drop a).take (q1 - a))) then .ok (xs, q2) else .error 5
theorem cut_at (A : Option Addr) (len cap p h : Nat) (hp : p ≤ h) (hh : h ≤ cap) : ∃ A' : Option Addr, (∀ W : World, (Instr.slice 22 (.slice A len cap) (some (.int .i64 (p : Int))) (some (.int .i64 (h : Int))) none).run Try.prog W = .ok (.slice A' (h - p) (cap - p)) W) ∧ ∀ g o, A = some ⟨g, o, none⟩ → p < h → A' = some ⟨g, o + p, none⟩ := by
  obtain ⟨A', h1, h2⟩ := cut_run A len cap p (h - p) (by omega)
  refine ⟨A', fun W => ?_, fun g o e hl => h2 g o e (by omega)⟩
  have := h1 W
  rw [show (p : Int) + ((h - p : Nat) : Int) = (h : Int) by omega] at this
  exact this
theorem tk_len {l xs : List Int} {p q : Nat} {n : Int} (h : tk l p n = some (xs, q)) (hp : p ≤ l.length) : xs.length = n.toNat ∧ q = p + n.toNat ∧ 0 ≤ n := by
  by_cases hn : 0 ≤ n ∧ n ≤ (l.length : Int) - p
  · rw [tk_some hn] at h
    simp only [Option.some.injEq, Prod.mk.injEq] at h
    obtain ⟨rfl, rfl⟩ := h
    refine ⟨?_, rfl, hn.1⟩
    rw [List.length_take, List.length_drop]
    omega
  · rw [tk_none hn] at h; cases h
theorem byt_sub {l : List Int} (h : Seg.Byt l) (p n : Nat) : Seg.Byt ((l.drop p).take n) := fun i => by
  by_cases hi : i < n
  · have := h (p + i)
    simpa [List.getD_eq_getElem?_getD, List.getElem?_take, hi] using this
  · simp [List.getD_eq_getElem?_getD, List.getElem?_take, hi]
theorem tk_byt {l xs : List Int} {p q : Nat} {n : Int} (hb : Seg.Byt l) (h : tk l p n = some (xs, q)) : Seg.Byt xs := by
  by_cases hn : 0 ≤ n ∧ n ≤ (l.length : Int) - p
  · rw [tk_some hn] at h
    simp only [Option.some.injEq, Prod.mk.injEq] at h
    obtain ⟨rfl, rfl⟩ := h
    exact byt_sub hb _ _
  · rw [tk_none hn] at h; cases h
theorem four_byt (x : Int) : Seg.Byt (four x) := Seg.byt_of fun n hn => by
  simp only [four, List.mem_cons, List.not_mem_nil, or_false] at hn
  omega
theorem seg_own {w : World} {base g cap : Nat} {l : List Int} (hl : l.length ≤ 140737488355328) (ho : Out w base g cap l) : Seg.Seg w (.slice (some ⟨g, 0, none⟩) l.length cap) l := Seg.Own.seg ⟨hl, g, cap, rfl, ho⟩
theorem cut_keep {w w' : World} {G : Nat} {v u : Value} {l xs : List Int} (h : CutOf v w xs u) (hd : Dat w G v l) (hx : xs.length ≤ l.length) (gr : w.grownBy w' (some G)) : CutOf v w' xs u := by
  refine ⟨?_, h.2⟩
  obtain ⟨h1, h2⟩ := h.1
  refine ⟨h1, ?_⟩
  rcases h2 with ⟨A, c, rfl, rfl⟩ | ⟨g, o, cap, rfl, h3, h4, h5⟩
  · exact .inl ⟨A, c, rfl, rfl⟩
  · refine .inr ⟨g, o, cap, rfl, h3, h4, fun i hi => gr.cell (h5 i hi) ?_⟩
    have hv := h.2.resolve_left (by omega)
    have := (hd.far.resolve_left (by omega)) g (by rw [← hv]; rfl)
    simpa using this.2

set_option maxHeartbeats 3200000 in
theorem body_any (G : Nat) (v : Value) (l : List Int) (a p : Nat) (w : World) (hr : Rdr w G v p) (hd : Dat w G v l) (hp : p ≤ l.length) (ha : a < p) :
    Calls Try.prog 84 #[.pointer (some ⟨G, 0, none⟩), .int .i64 a] w fun e w' => StepE w w' G v (bodyE l a p) (CutOf v) e := by
  have HR := Seg.hid hr; have HD := Seg.hid hd
  have hG := rd_lt hr
  have hll := hd.seg.1
  clear hr hd
  go_enter Try.func84, Try.ntmps84
  go_wp2_with fail
  refine (number_any G v l p 4 w HR.out HD.out hp).mono ?_
  rintro e w1 S
  rcases ho : num l p with _ | ⟨n, q⟩
  · obtain rfl := S.no ho
    have HN : bodyE l a p = .error 4 := by rw [bodyE, ho]
    exact ⟨rfl, S.gr, fun f h => by rw [HN] at h; cases h; rfl, fun x y h => by rw [HN] at h; cases h⟩
  obtain ⟨⟨u, rfl, rfl⟩, hR⟩ := S.yes n q ho
  have R1 := Seg.hid hR; have G1 := Seg.hid S.gr; have D1 := Seg.hid (HD.out.keep S.gr)
  have hq := num_le ho
  have hpq := num_lt ho
  have HB : Hid (bodyE l a p = if n < 0 then .error 4 else match tk l q n with | none => .error 1 | some (xs, q1) => match tk l q1 4 with | none => .error 1 | some (ys, q2) => if ys = four (Crc.check ((l.drop a).take (q1 - a))) then .ok (xs, q2) else .error 5) := by show _ = _; rw [bodyE, ho]
  clear S hR ho
  by_cases hneg : n < 0
  · have HN : Hid (bodyE l a p = .error 4) := by show _ = _; rw [HB.out, if_pos hneg]
    go_wp2
    exact ⟨rfl, G1.out, fun f h => by rw [HN.out] at h; cases h; rfl, fun x y h => by rw [HN.out] at h; cases h⟩
  rw [if_neg hneg] at HB
  go_wp2_with fail
  refine (take_any G v l q n 1 w1 R1.out D1.out hq).mono ?_
  rintro e w2 S
  rcases ho2 : tk l q n with _ | ⟨xs, q1⟩
  · obtain rfl := S.no ho2
    rw [ho2] at HB
    exact ⟨rfl, G1.out.trans S.gr, fun f h => by rw [HB.out] at h; cases h; rfl, fun x y h => by rw [HB.out] at h; cases h⟩
  obtain ⟨⟨u2, rfl, hu2⟩, hR2⟩ := S.yes xs q1 ho2
  have R2 := Seg.hid hR2; have G2 := Seg.hid (G1.out.trans S.gr); have D2 := Seg.hid (D1.out.keep S.gr); have U2 := Seg.hid hu2
  have hq1 := tk_le ho2 hq
  obtain ⟨hxl, hq1e, _⟩ := tk_len ho2 hq
  have XB := Seg.hid (tk_byt HD.out.byt ho2)
  rw [ho2] at HB
  replace HB : Hid (bodyE l a p = match tk l q1 4 with | none => .error 1 | some (ys, q2) => if ys = four (Crc.check ((l.drop a).take (q1 - a))) then .ok (xs, q2) else .error 5) := HB
  clear S hR2 ho2 hu2
  -- what is to be checked
  obtain ⟨g, o, c, hvE, h3, h4, h5⟩ : ∃ g o c, v = .slice (some ⟨g, o, none⟩) l.length c ∧ l.length ≤ c ∧ c ≤ maxLen ∧ ∀ i, i < l.length → w2.cell? ⟨g, o + i, none⟩ = some (.int .u8 (l.getD i 0)) := by
    rcases D2.out.seg.2 with ⟨A, c, _, hz⟩ | ⟨g, o, c, h1, h2, h3, h4⟩
    · rw [hz] at hq1; simp at hq1; omega
    · exact ⟨g, o, c, h1, h2, h3, h4⟩
  obtain ⟨A', hcut, hA'⟩ := cut_at (some ⟨g, o, none⟩) l.length c a q1 (by omega) (by omega)
  have hA2 := hA' g o rfl (by omega)
  rw [hA2] at hcut
  have HC : Hid (∀ i, i < q1 - a → w2.cell? ⟨g, o + a + i, none⟩ = some (.int .u8 (((l.drop a).take (q1 - a)).getD i 0))) := fun i hi => by
    rw [Nat.add_assoc, h5 (a + i) (by omega)]
    simp [List.getD_eq_getElem?_getD, hi]
  have hgl : g < w2.heap.size ∧ g ≠ G := (D2.out.far.resolve_left (by omega)) g (by rw [hvE]; rfl)
  have CL : Hid (((l.drop a).take (q1 - a)).length = q1 - a) := by show _ = _; rw [List.length_take, List.length_drop]; omega
  obtain ⟨c0, c1, f1⟩ := rd_cells R2.out
  rw [hvE] at c0
  obtain ⟨ck, hck⟩ : ∃ z, (l.drop a).take (q1 - a) = z := ⟨_, rfl⟩
  have CB : Hid (Seg.Byt ck) := (by rw [← hck]; exact byt_sub HD.out.byt _ _ : Seg.Byt ck)
  rw [hck] at HB HC CL
  have i1 : (0 : Int) ≤ (a : Int) := by omega
  have i2 : (a : Int) ≤ (q1 : Int) := by omega
  have i3 : (q1 : Int) ≤ (c : Int) := by omega
  have i4 : ¬ c = a := by omega
  have HVE := Seg.hid hvE
  have HXL : Hid (xs.length ≤ l.length) := (by omega : xs.length ≤ l.length)
  clear h5 hA' hA2 hck hcut hvE hxl hq1e
  go_wp2_with fail
  go_region_held3 (fun w' => w'.cell? ⟨G, 0, none⟩ = some (.slice (some ⟨g, o, none⟩) l.length c) ∧ w'.cell? ⟨G, 1, none⟩ = some (.int .i64 (q1 : Int))) (first | go_keep | exact K3.out)
    (first | (go_at_call 38; refine (WrC.checkBytes_any g (o + a) (q1 - a) (c - a) ck w2.drew (by omega) (by omega) CL.out (.inr hgl.1) HC.out CB.out).mono ?_; rintro e w3 ⟨g3, rfl, o3, b3⟩; have O3 := Seg.hid o3; have G3 : Hid (w2.grownBy w3 (some G)) := ⟨b3.os, b3.tape, b3.output, b3.size, fun k hk _ => b3.block k hk⟩; have R3 : Hid (Rdr w3 G v q1) := (b3.block G (rd_lt R2.out)).trans R2.out; have K3 : Hid (w3.cell? ⟨G, 0, none⟩ = some (.slice (some ⟨g, o, none⟩) l.length c) ∧ w3.cell? ⟨G, 1, none⟩ = some (.int .i64 (q1 : Int))) := ⟨(rd_cells R3.out).1.trans (by rw [HVE.out]), (rd_cells R3.out).2.1⟩; clear o3 b3))
  have D3 := Seg.hid (D2.out.keep G3.out)
  have G23 := Seg.hid (G2.out.trans G3.out)
  clear c0 c1 f1
  go_wp2_with fail
  refine (take_any G v l q1 4 1 w3 R3.out D3.out hq1).mono ?_
  rintro e w4 S
  rcases ho4 : tk l q1 4 with _ | ⟨ys, q2⟩
  · obtain rfl := S.no ho4
    rw [ho4] at HB
    exact ⟨rfl, G23.out.trans S.gr, fun f h => by rw [HB.out] at h; cases h; rfl, fun x y h => by rw [HB.out] at h; cases h⟩
  obtain ⟨⟨u4, rfl, hu4⟩, hR4⟩ := S.yes ys q2 ho4
  have R4 := Seg.hid hR4; have G4 := Seg.hid (G23.out.trans S.gr); have U4 := Seg.hid hu4
  have YB := Seg.hid (tk_byt HD.out.byt ho4)
  have O4 : Hid (Out w4 w2.drew.heap.size g3 4 (four (Crc.check ck))) := World.ownsRow.kept O3.out S.gr (.inr (by have := (PuI.out_lt O3.out).1; have := rd_lt R2.out; simp only [Value.ownBlock, ne_eq, Option.some.injEq]; show ¬ g3 = G; intro e; subst e; exact absurd (show w2.heap.size ≤ g3 from by assumption) (by omega)))
  have XU := Seg.hid (cut_keep (cut_keep U2.out D2.out HXL.out G3.out) D3.out HXL.out S.gr)
  replace HB : Hid (bodyE l a p = if ys = four (Crc.check ck) then .ok (xs, q2) else .error 5) := by
    have h := HB.out
    rw [ho4] at h
    exact h
  clear S hR4 ho4 hu4
  have SO : Hid (Seg.Seg w4 (.slice (some ⟨g3, 0, none⟩) 4 4) (four (Crc.check ck))) := seg_own (l := four (Crc.check ck)) (by simp [four]) O4.out
  go_wp2_with fail
  refine (equal_any _ _ ys (four (Crc.check ck)) w4 U4.out.1 SO.out YB.out (four_byt _)).mono ?_
  rintro e w5 ⟨rfl, d5, rfl⟩
  by_cases hE : ys = four (Crc.check ck)
  · have HN : Hid (bodyE l a p = .ok (xs, q2)) := by show _ = _; rw [HB.out, if_pos hE]
    rw [show decide (ys = four (Crc.check ck)) = true from decide_eq_true hE]
    clear hE HB
    go_wp2
    go_ret
    refine ⟨G4.out.trans (drewN_grown w4 _ _), fun f h => (by rw [HN.out] at h; cases h), fun x y h => ?_⟩
    rw [HN.out] at h
    simp only [Except.ok.injEq, Prod.mk.injEq] at h
    obtain ⟨rfl, rfl⟩ := h
    exact ⟨⟨_, rfl, XU.out⟩, R4.out⟩
  · have HN : Hid (bodyE l a p = .error 5) := by show _ = _; rw [HB.out, if_neg hE]
    rw [show decide (ys = four (Crc.check ck)) = false from decide_eq_false hE]
    clear hE HB
    go_wp2
    exact ⟨rfl, G4.out.trans (drewN_grown w4 _ _), fun f h => by rw [HN.out] at h; cases h; rfl, fun x y h => by rw [HN.out] at h; cases h⟩
end Go.Proofs.Ytdnbcfochlfopaa.Rd
