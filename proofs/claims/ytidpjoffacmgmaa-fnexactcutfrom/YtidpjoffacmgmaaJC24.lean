/- A log cut at the front, on plain data; parts of lists in memory; BatchOk of the program. -/
import Derived.Test.YtidpjoffacmgmaaJC19
import Derived.Test.YtidpjoffacmgmaaJC13
import Derived.Test.YtidpjoffacmgmaaJC23
import Derived.Test.YtidpjoffacmgmaaJC16
namespace Go.Proofs.Ytidpjoffacmgmaa.Ft
set_option maxRecDepth 8000
open Go.RowKit
open Recs
open Bats SegW Segs LogW SrP
open LgP (logOk inR)
set_option linter.unusedVariables false
def cutF (l : Lg) (x : Int) : Lg × Bool := if (logOk l && inR x l.start l.next) = true then (⟨x, l.next, l.roll, l.segs.drop (kf (pS x) l.segs)⟩, true) else (⟨0, 0, 0, []⟩, false)
theorem row_drop {w : World} {lo b s n c k g o : Nat} {f : Nat → Nat → Value} (h : Row w lo b s (.slice (some ⟨g, o, none⟩) n c) n f) (hk : k < n) : Row w lo b s (.slice (some ⟨g, o + k * s, none⟩) (n - k) (c - k)) (n - k) (fun i j => f (k + i) j) := by
  obtain ⟨h0, A, c', h1, h2⟩ := h
  simp only [Value.slice.injEq] at h1
  obtain ⟨rfl, _, rfl⟩ := h1
  obtain ⟨g', o', h3, h4, h5, h6, h7⟩ := h2.resolve_left (by omega)
  simp only [Option.some.injEq, Addr.mk.injEq] at h3
  obtain ⟨rfl, rfl, _⟩ := h3
  refine ⟨by omega, _, _, rfl, .inr ⟨g, o + k * s, rfl, h4, by omega, fun i hi j hj => ?_, h7⟩⟩
  rw [show o + k * s + i * s + j = o + (k + i) * s + j by rw [Nat.add_mul]; omega]
  exact h6 (k + i) (by omega) j hj
theorem row_take {w : World} {lo b s n c k : Nat} {A : Option Addr} {f : Nat → Nat → Value} (h : Row w lo b s (.slice A n c) n f) (hk : k ≤ n) : Row w lo b s (.slice A k c) k f := by
  obtain ⟨h0, A', c', h1, h2⟩ := h
  simp only [Value.slice.injEq] at h1
  obtain ⟨rfl, _, rfl⟩ := h1
  refine ⟨by omega, _, _, rfl, ?_⟩
  by_cases hz : k = 0
  · exact .inl hz
  obtain ⟨g', o', h3, h4, h5, h6, h7⟩ := h2.resolve_left (by omega)
  exact .inr ⟨g', o', h3, h4, by omega, fun i hi j hj => h6 i (by omega) j hj, h7⟩
theorem getD_drop {T : Type} [Inhabited T] (l : List T) (k i : Nat) : (l.drop k).getD i default = l.getD (k + i) default := by
  rw [List.getD_eq_getElem?_getD, List.getElem?_drop, ← List.getD_eq_getElem?_getD]
theorem getD_take {T : Type} [Inhabited T] (l : List T) (k i : Nat) (h : i < k) : (l.take k).getD i default = l.getD i default := by
  rw [List.getD_eq_getElem?_getD, List.getElem?_take_of_lt h, ← List.getD_eq_getElem?_getD]
theorem segs_drop {w : World} {lo b c k g o : Nat} {ss : List Sg} (h : SegsAt w lo b (.slice (some ⟨g, o, none⟩) ss.length c) ss) (hk : k < ss.length) : SegsAt w lo b (.slice (some ⟨g, o + k * 2, none⟩) (ss.length - k) (c - k)) (ss.drop k) := by
  obtain ⟨H, h1, h2⟩ := h
  refine ⟨fun i => H (k + i), ?_, fun i hi => ?_⟩
  · rw [List.length_drop]
    exact row_eqf (row_drop h1 hk) fun i hi j hj => by simp only [segsCells, getD_drop]
  · rw [getD_drop]
    rw [List.length_drop] at hi
    exact h2 (k + i) (by omega)
theorem segs_nil {w : World} {lo b : Nat} {A : Option Addr} {c : Nat} : SegsAt w lo b (.slice A 0 c) [] := ⟨fun _ => default, ⟨by simp, A, c, rfl, .inl rfl⟩, fun i hi => absurd hi (by simp)⟩
theorem segs_take {w : World} {lo b c k : Nat} {A : Option Addr} {ss : List Sg} (h : SegsAt w lo b (.slice A ss.length c) ss) (hk : k ≤ ss.length) : SegsAt w lo b (.slice A k c) (ss.take k) := by
  obtain ⟨H, h1, h2⟩ := h
  have hl : (ss.take k).length = k := by rw [List.length_take]; omega
  refine ⟨H, ?_, fun i hi => ?_⟩
  · rw [hl]
    exact row_eqf (row_take h1 hk) fun i hi j hj => by simp only [segsCells, getD_take ss k i hi]
  · rw [hl] at hi
    rw [getD_take ss k i hi]
    exact h2 i (by omega)
theorem ok_parts {l : Lg} (h : logOk l = true) : ∃ f, LgP.segs 0 0 l.segs = some f ∧ f ≤ l.next ∧ l.segs.length ≤ 60 ∧ 0 ≤ l.start ∧ l.start ≤ l.next ∧ l.next ≤ 1000000000 := by
  unfold LgP.logOk LgP.bounds LgP.counts LgP.stands at h
  simp only [Bool.and_eq_true, decide_eq_true_eq, inR] at h
  obtain ⟨⟨⟨a1, a2⟩, ⟨a3, a4⟩, a5⟩, ⟨a6, a7⟩, a8⟩ := h
  cases hs : LgP.segs 0 0 l.segs with
  | none => rw [hs] at a8; cases a8
  | some f =>
    rw [hs] at a8
    exact ⟨f, rfl, by simpa using a8, a6, a3, a4, a2⟩
end Go.Proofs.Ytidpjoffacmgmaa.Ft
namespace Go.Proofs.Ytidpjoffacmgmaa.BOk
set_option maxRecDepth 8000
open Go.RowKit
open Recs
set_option linter.unusedVariables false

theorem seven {w : World} {g tp : Nat} {t : Bat} {hv : Value} (h : w.heap[g]? = some (.cells (BatW.batArr t hv) tp (0, 0))) : w.cell? ⟨g, 0, none⟩ = some (.int .i64 t.base) ∧ w.cell? ⟨g, 1, none⟩ = some (.int .i64 t.epoch) ∧ w.cell? ⟨g, 2, none⟩ = some (.int .i64 t.producer) ∧
    w.cell? ⟨g, 3, none⟩ = some (.int .i64 t.turn) ∧ w.cell? ⟨g, 4, none⟩ = some (.int .i64 t.seq) ∧ w.cell? ⟨g, 5, none⟩ = some (.int .i64 t.flags) ∧ w.cell? ⟨g, 6, none⟩ = some hv :=
  ⟨cell_of_row w g 0 _ tp (0, 0) h, cell_of_row w g 1 _ tp (0, 0) h, cell_of_row w g 2 _ tp (0, 0) h, cell_of_row w g 3 _ tp (0, 0) h, cell_of_row w g 4 _ tp (0, 0) h, cell_of_row w g 5 _ tp (0, 0) h, cell_of_row w g 6 _ tp (0, 0) h⟩
set_option maxHeartbeats 1600000 in
theorem impl_any (v : Value) (t : Bat) (w : World) (lo b : Nat) (hv : BatAt w lo b v t) (hb : b ≤ w.heap.size) :
    Calls Try.prog 35 #[v] w fun e w' => e = .returned (.bool (batOk t)) ∧ Below w.heap.size w w' := by
  rw [← same]
  obtain ⟨rv, rfl, hr⟩ := hv
  have HR := Seg.hid hr
  obtain ⟨H, ⟨hn, A, c, rfl, hcell⟩, hheads⟩ := hr
  have HC := Seg.hid hcell; have HH := Seg.hid hheads
  clear hcell hheads
  unfold batVal
  unfold batI
  go_enter Try.func35, Try.ntmps35
  go_wp2_with fail
  refine (records_any _ t.recs (w.alloc _) lo b (HR.out.below ((below1 w _).mono hb)) (by rw [hsz]; omega)).mono ?_
  rintro e w1 ⟨rfl, b1⟩
  have B1 := Seg.hid (chain (below1 w _) b1)
  have T1 : Hid (w1.heap[w.heap.size]? = some (.cells (BatW.batArr t (.slice A t.recs.length c)) 43 (0, 0))) := (b1.block w.heap.size (by rw [hsz]; omega)).trans (heap_alloc_new _ _)
  have z1 : w.heap.size < w1.heap.size := (Array.getElem?_eq_some_iff.1 T1.out).1
  clear b1
  generalize h1 : (inR (t.recs.length : Int) 1 40 && t.recs.all ROk.okR) = V1
  have RN : V1 = true → 1 ≤ (t.recs.length : Int) ∧ (t.recs.length : Int) ≤ 40 := fun h => by
    rw [h, Bool.and_eq_true] at h1
    simpa [inR] using h1.1
  cases V1 with
  | false =>
    have HV1 := Seg.hid h1
    clear h1
    clear RN
    go_wp2
    go_ret
    exact ⟨Seg.ret_bool (by rw [HV1.out]; simp), B1.out⟩
  | true =>
  have HV1 := Seg.hid h1
  clear h1
  have rn := RN rfl
  clear RN
  obtain ⟨c0, c1, c2, c3, c4, c5, c6⟩ := seven T1.out
  go_wp2_with fail
  clear c0 c1 c2 c3 c4 c5 c6
  refine (place_any t.base t.epoch t.producer t.turn t.seq t.flags A t.recs.length c w1 rn.2).mono ?_
  rintro e w2 ⟨rfl, b2⟩
  have B2 := Seg.hid (chain B1.out b2)
  have T2 := Seg.hid ((b2.block w.heap.size z1).trans T1.out)
  have z2 : w.heap.size < w2.heap.size := (Array.getElem?_eq_some_iff.1 T2.out).1
  clear b2
  generalize h2 : (inR t.base 0 (1000000001 - t.recs.length) && inR t.epoch 0 1000000) = V2
  cases V2 with
  | false =>
    have HV2 := Seg.hid h2
    clear h2
    go_wp2
    go_ret
    exact ⟨Seg.ret_bool (by rw [HV2.out]; simp), B2.out⟩
  | true =>
  have HV2 := Seg.hid h2
  clear h2
  obtain ⟨c0, c1, c2, c3, c4, c5, c6⟩ := seven T2.out
  go_wp2_with fail
  clear c0 c1 c2 c3 c4 c5 c6
  refine (producer_any t.base t.epoch t.producer t.turn t.seq t.flags A t.recs.length c w2 rn.2).mono ?_
  rintro e w3 ⟨rfl, b3⟩
  have B3 := Seg.hid (chain B2.out b3)
  have T3 := Seg.hid ((b3.block w.heap.size z2).trans T2.out)
  clear b3
  generalize h3 : prB t.producer t.turn t.seq t.recs.length = V3
  cases V3 with
  | false =>
    have HV3 := Seg.hid h3
    clear h3
    go_wp2
    go_ret
    exact ⟨Seg.ret_bool (by rw [HV3.out]; simp), B3.out⟩
  | true =>
  have HV3 := Seg.hid h3
  clear h3
  have HL : Hid (Lies w3 A t.recs.length c t.recs H lo b) := by
    obtain ⟨g, o, l1, l2, l3, l4, l5⟩ := HC.out.resolve_left (by omega)
    exact ⟨g, o, l1, Nat.lt_of_lt_of_le l2 (Nat.le_trans hb B3.out.size), l3, RecsW.six' l4 B3.out (by omega), fun i hi => (HH.out i hi).below (B3.out.mono hb), Nat.le_trans hb B3.out.size⟩
  obtain ⟨c0, c1, c2, c3, c4, c5, c6⟩ := seven T3.out
  go_wp2_with fail
  clear c0 c1 c2 c3 c4 c5 c6
  refine (flags_any t.base t.epoch t.producer t.turn t.seq t.flags A t.recs.length c t.recs H lo b w3 rn HL.out).mono ?_
  rintro e w4 ⟨rfl, b4⟩
  have B4 := Seg.hid (chain B3.out b4)
  clear b4
  go_wp2
  go_ret
  exact ⟨Seg.ret_bool (by rw [HV1.out, HV2.out, HV3.out]; simp), B4.out⟩
end Go.Proofs.Ytidpjoffacmgmaa.BOk
