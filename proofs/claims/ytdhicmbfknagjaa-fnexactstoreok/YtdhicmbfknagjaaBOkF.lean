/- BatchOk of the program. -/
import Derived.Test.YtdhicmbfknagjaaBOkE
namespace Go.Proofs.Ytdhicmbfknagjaa.BOk
set_option maxRecDepth 8000
open Go.RowKit
open Recs
set_option linter.unusedVariables false

theorem seven {w : World} {g tp : Nat} {t : Bat} {hv : Value} (h : w.heap[g]? = some (.cells (BatW.batArr t hv) tp (0, 0))) : w.cell? ⟨g, 0, none⟩ = some (.int .i64 t.base) ∧ w.cell? ⟨g, 1, none⟩ = some (.int .i64 t.epoch) ∧ w.cell? ⟨g, 2, none⟩ = some (.int .i64 t.producer) ∧
    w.cell? ⟨g, 3, none⟩ = some (.int .i64 t.turn) ∧ w.cell? ⟨g, 4, none⟩ = some (.int .i64 t.seq) ∧ w.cell? ⟨g, 5, none⟩ = some (.int .i64 t.flags) ∧ w.cell? ⟨g, 6, none⟩ = some hv :=
  ⟨cell_of_row w g 0 _ tp (0, 0) h, cell_of_row w g 1 _ tp (0, 0) h, cell_of_row w g 2 _ tp (0, 0) h, cell_of_row w g 3 _ tp (0, 0) h, cell_of_row w g 4 _ tp (0, 0) h, cell_of_row w g 5 _ tp (0, 0) h, cell_of_row w g 6 _ tp (0, 0) h⟩
set_option maxHeartbeats 1600000 in
theorem impl_any (v : Value) (t : Bat) (w : World) (lo b : Nat) (hv : BatAt w lo b v t) (hb : b ≤ w.heap.size) :
    Calls Try.prog 110 #[v] w fun e w' => e = .returned (.bool (batOk t)) ∧ Below w.heap.size w w' := by
  rw [← same]
  obtain ⟨rv, rfl, hr⟩ := hv
  have HR := Seg.hid hr
  obtain ⟨H, ⟨hn, A, c, rfl, hcell⟩, hheads⟩ := hr
  have HC := Seg.hid hcell; have HH := Seg.hid hheads
  clear hcell hheads
  unfold batVal
  unfold batI
  go_enter Try.func110, Try.ntmps110
  go_wp2_with fail
  refine (records_any _ t.recs (w.alloc _) lo b (HR.out.below ((below1 w _).mono hb)) (by rw [hsz]; omega)).mono ?_
  rintro e w1 ⟨rfl, b1⟩
  have B1 := Seg.hid (chain (below1 w _) b1)
  have T1 : Hid (w1.heap[w.heap.size]? = some (.cells (BatW.batArr t (.slice A t.recs.length c)) 118 (0, 0))) := (b1.block w.heap.size (by rw [hsz]; omega)).trans (heap_alloc_new _ _)
  have z1 : w.heap.size < w1.heap.size := (Array.getElem?_eq_some_iff.1 T1.out).1
  clear b1
  generalize h1 : (inR (t.recs.length : Int) 1 40 && t.recs.all ROk.okR) = V1
  have RN : V1 = true → 1 ≤ (t.recs.length : Int) ∧ (t.recs.length : Int) ≤ 40 := fun h => by
    rw [h, Bool.and_eq_true] at h1
    simpa [inR] using h1.1
  cases V1 with
  | false =>
    have HV1 := Seg.hid h1
    clear h1
    clear RN
    go_wp2
    go_ret
    exact ⟨Seg.ret_bool (by rw [HV1.out]; simp), B1.out⟩
  | true =>
  have HV1 := Seg.hid h1
  clear h1
  have rn := RN rfl
  clear RN
  obtain ⟨c0, c1, c2, c3, c4, c5, c6⟩ := seven T1.out
  go_wp2_with fail
  clear c0 c1 c2 c3 c4 c5 c6
  refine (place_any t.base t.epoch t.producer t.turn t.seq t.flags A t.recs.length c w1 rn.2).mono ?_
  rintro e w2 ⟨rfl, b2⟩
  have B2 := Seg.hid (chain B1.out b2)
  have T2 := Seg.hid ((b2.block w.heap.size z1).trans T1.out)
  have z2 : w.heap.size < w2.heap.size := (Array.getElem?_eq_some_iff.1 T2.out).1
  clear b2
  generalize h2 : (inR t.base 0 (1000000001 - t.recs.length) && inR t.epoch 0 1000000) = V2
  cases V2 with
  | false =>
    have HV2 := Seg.hid h2
    clear h2
    go_wp2
    go_ret
    exact ⟨Seg.ret_bool (by rw [HV2.out]; simp), B2.out⟩
  | true =>
  have HV2 := Seg.hid h2
  clear h2
  obtain ⟨c0, c1, c2, c3, c4, c5, c6⟩ := seven T2.out
  go_wp2_with fail
  clear c0 c1 c2 c3 c4 c5 c6
  refine (producer_any t.base t.epoch t.producer t.turn t.seq t.flags A t.recs.length c w2 rn.2).mono ?_
  rintro e w3 ⟨rfl, b3⟩
  have B3 := Seg.hid (chain B2.out b3)
  have T3 := Seg.hid ((b3.block w.heap.size z2).trans T2.out)
  clear b3
  generalize h3 : prB t.producer t.turn t.seq t.recs.length = V3
  cases V3 with
  | false =>
    have HV3 := Seg.hid h3
    clear h3
    go_wp2
    go_ret
    exact ⟨Seg.ret_bool (by rw [HV3.out]; simp), B3.out⟩
  | true =>
  have HV3 := Seg.hid h3
  clear h3
  have HL : Hid (Lies w3 A t.recs.length c t.recs H lo b) := by
    obtain ⟨g, o, l1, l2, l3, l4, l5⟩ := HC.out.resolve_left (by omega)
    exact ⟨g, o, l1, Nat.lt_of_lt_of_le l2 (Nat.le_trans hb B3.out.size), l3, RecsW.six' l4 B3.out (by omega), fun i hi => (HH.out i hi).below (B3.out.mono hb), Nat.le_trans hb B3.out.size⟩
  obtain ⟨c0, c1, c2, c3, c4, c5, c6⟩ := seven T3.out
  go_wp2_with fail
  clear c0 c1 c2 c3 c4 c5 c6
  refine (flags_any t.base t.epoch t.producer t.turn t.seq t.flags A t.recs.length c t.recs H lo b w3 rn HL.out).mono ?_
  rintro e w4 ⟨rfl, b4⟩
  have B4 := Seg.hid (chain B3.out b4)
  clear b4
  go_wp2
  go_ret
  exact ⟨Seg.ret_bool (by rw [HV1.out, HV2.out, HV3.out]; simp), B4.out⟩
end Go.Proofs.Ytdhicmbfknagjaa.BOk
