/- BatchOk of the model and of the program: one plain function of the batch; BatchOk of the program. -/
import Derived.Test.YtdnbcfochlfopaaJH18
namespace Go.Proofs.Ytdnbcfochlfopaa.BOk
set_option maxRecDepth 8000
open Go.RowKit
open Recs
set_option linter.unusedVariables false

def batOk (t : Bat) : Bool := okB1 t.base t.epoch t.producer t.turn t.seq t.flags && !bad2 t.producer t.turn t.seq t.flags && okB3 t.base t.seq t.recs.length && t.recs.all ROk.okR && (!decide (4 ≤ t.flags) || (decide (t.recs.length = 1) && mark (t.recs.getD 0 default)))

theorem all_of {rs : List Rec} (h : ∀ i, i < rs.length → ROk.okR (rs.getD i default) = true) : rs.all ROk.okR = true := by
  rw [List.all_eq_true]
  intro x hx
  obtain ⟨i, hi, rfl⟩ := List.getElem_of_mem hx
  have := h i hi
  simpa [hi] using this
theorem all_not {rs : List Rec} {i : Nat} (hi : i < rs.length) (h : ROk.okR (rs.getD i default) = false) : rs.all ROk.okR = false := by
  rw [List.all_eq_false]
  refine ⟨rs[i], List.getElem_mem hi, ?_⟩
  have : ROk.okR rs[i] = false := by simpa [hi] using h
  rw [this]; simp
theorem all_at {rs : List Rec} {i : Nat} (hi : i < rs.length) (h : rs.all ROk.okR = true) : ROk.okR (rs.getD i default) = true := by
  rw [List.all_eq_true] at h
  have := h rs[i] (List.getElem_mem hi)
  simpa [hi] using this
theorem lies_of {w : World} {lo b n c : Nat} {A : Option Addr} {rs : List Rec} {H : Nat → Value} (hb : b ≤ w.heap.size) (hn : 1 ≤ (n : Int)) (h : n = 0 ∨ ∃ g o, A = some ⟨g, o, none⟩ ∧ g < b ∧ n ≤ c ∧ (∀ i, i < n → ∀ j, j < 6 → w.cell? ⟨g, o + i * 6 + j, none⟩ = some (recCells rs H i j)) ∧ lo ≤ g)
    (hh : ∀ i, i < n → Heads w lo b (H i) (rs.getD i default).heads) : Lies w A n c rs H lo b := by
  obtain ⟨g, o, h1, h2, h3, h4, _⟩ := h.resolve_left (by omega)
  exact ⟨g, o, h1, by omega, h3, h4, hh, hb⟩

theorem spec_any (v : Value) (t : Bat) (w : World) (lo b : Nat) (hv : BatAt w lo b v t) (hb : b ≤ w.heap.size) :
    Calls Try.prog 13 #[v] w fun e w' => e = .returned (.bool (batOk t)) ∧ Below w.heap.size w w' := by
  obtain ⟨rv, rfl, H, ⟨hn, A, c, rfl, h⟩, hh⟩ := hv
  show Calls Try.prog 13 #[bv t.base t.epoch t.producer t.turn t.seq t.flags (.slice A t.recs.length c)] w _
  unfold batOk
  cases h1 : okB1 t.base t.epoch t.producer t.turn t.seq t.flags with
  | false => exact (no1 _ _ _ _ _ _ A _ c w h1).mono fun e w' h => h
  | true =>
  cases h2 : bad2 t.producer t.turn t.seq t.flags with
  | true => exact (no2 _ _ _ _ _ _ A _ c w h1 h2).mono fun e w' h => h
  | false =>
  have hw := way_of h1 h2
  cases h3 : okB3 t.base t.seq t.recs.length with
  | false => exact (no3 _ _ _ _ _ _ A _ c w h1 hw h3).mono fun e w' h => h
  | true =>
    obtain ⟨a1, a2, a3, a4, a5, a6⟩ := okB1_parts h1
    simp only [okB3, Bool.and_eq_true, decide_eq_true_eq] at h3
    have rn : 1 ≤ (t.recs.length : Int) ∧ (t.recs.length : Int) ≤ 40 := by simpa [inR] using h3.1.1
    refine (yes3 _ _ _ _ _ _ A _ c t.recs H lo b w a1 a2 a3 a4 a5 a6 hw h3.1.1 (by omega) (by omega) (lies_of hb rn.1 h hh)).mono fun e w' hq => ?_
    obtain ⟨⟨b', rfl, hq1⟩, hq2⟩ := hq
    refine ⟨?_, hq2⟩
    rcases hq1 with ⟨rfl, i, hi, hbad⟩ | ⟨hall, hq1⟩
    · rw [all_not hi hbad]; simp
    · rw [all_of hall]
      rcases hq1 with ⟨hf, rfl⟩ | ⟨hf, rfl⟩
      · simp [hf]
      · simp [hf]

theorem records_any (v : Value) (rs : List Rec) (w : World) (lo b : Nat) (hv : RecsAt w lo b v rs) (hb : b ≤ w.heap.size) :
    Calls Try.prog 45 #[v] w fun e w' => e = .returned (.bool (inR (rs.length : Int) 1 40 && rs.all ROk.okR)) ∧ Below w.heap.size w w' := by
  obtain ⟨H, ⟨hn, A, c, rfl, h⟩, hh⟩ := hv
  cases h1 : inR (rs.length : Int) 1 40 with
  | false => exact (records_no A _ c w h1).mono fun e w' h => h
  | true =>
    have rn : 1 ≤ (rs.length : Int) ∧ (rs.length : Int) ≤ 40 := by simpa [inR] using h1
    refine (records_yes A _ c rs H lo b w h1 (lies_of hb rn.1 h hh)).mono fun e w' hq => ?_
    obtain ⟨⟨b', rfl, hq1⟩, hq2⟩ := hq
    refine ⟨?_, hq2⟩
    rcases hq1 with ⟨rfl, i, hi, hbad⟩ | ⟨rfl, hall⟩
    · rw [all_not hi hbad]; rfl
    · rw [all_of hall]; rfl

def batI (t : Bat) : Bool := (inR (t.recs.length : Int) 1 40 && t.recs.all ROk.okR) && (inR t.base 0 (1000000001 - t.recs.length) && inR t.epoch 0 1000000) && prB t.producer t.turn t.seq t.recs.length && flB t.producer t.flags t.recs.length (t.recs.getD 0 default)

theorem flags8 (fl : Int) (h : inR fl 0 7 = true) : (fl = 0 ∨ fl = 1 ∨ fl = 2 ∨ fl = 3 ∨ fl = 4 ∨ fl = 5 ∨ fl = 6 ∨ fl = 7) := by
  have : 0 ≤ fl ∧ fl ≤ 7 := by simpa [inR] using h
  omega
theorem bitsAll (fl : Int) (h : inR fl 0 7 = true) : q1 fl = o2 fl ∧ q0 fl = !o2 fl ∧ m4 fl = decide (4 ≤ fl) := by
  rcases flags8 fl h with rfl | rfl | rfl | rfl | rfl | rfl | rfl | rfl <;> decide +kernel
theorem mark_same (r : Rec) (h : ROk.okR r = true) : markI r = mark r := by
  have h1 : r.keyed = true ∨ r.key.toList = [] := by
    have : ROk.ok1 r.keyed r.key r.gone r.val = true := by
      rw [ROk.okR_eq] at h
      simp only [Bool.and_eq_true] at h
      exact h.1.2
    simp only [ROk.ok1, Bool.and_eq_true, Bool.or_eq_true] at this
    exact this.1.imp id fun h => by simpa using h
  rw [Bool.eq_iff_iff]
  simp only [markI, mark, Bool.and_eq_true, Bool.or_eq_true, decide_eq_true_eq, List.length_eq_zero_iff]
  constructor
  · rintro ⟨⟨⟨hk, hg⟩, hv⟩, hh⟩
    refine ⟨⟨⟨⟨?_, hk⟩, hg⟩, hv⟩, hh⟩
    rcases h1 with h1 | h1
    · exact h1
    · rw [h1] at hk; simp at hk
  · rintro ⟨⟨⟨⟨_, hk⟩, hg⟩, hv⟩, hh⟩
    exact ⟨⟨⟨hk, hg⟩, hv⟩, hh⟩

theorem same (t : Bat) : batI t = batOk t := by
  cases h6 : inR t.flags 0 7 with
  | false => simp [batI, batOk, flB, okB1, h6]
  | true =>
  cases hA : t.recs.all ROk.okR with
  | false => simp [batI, batOk, hA]
  | true =>
  cases hN : inR (t.recs.length : Int) 1 40 with
  | false => simp [batI, batOk, okB3, hN]
  | true =>
  have rn : 1 ≤ (t.recs.length : Int) ∧ (t.recs.length : Int) ≤ 40 := by simpa [inR] using hN
  obtain ⟨e1, e2, e3⟩ := bitsAll _ h6
  have hm := mark_same _ (all_at (i := 0) (by omega) hA)
  simp only [batI, batOk, okB1, bad2, okB3, flB, prB, h6, hA, hN, e1, e2, e3, hm, Bool.true_and, Bool.and_true]
  generalize (!decide (4 ≤ t.flags) || decide (t.recs.length = 1) && mark (t.recs.getD 0 default)) = M
  generalize decide (4 ≤ t.flags) = F
  generalize o2 t.flags = O
  rw [Bool.eq_iff_iff]
  by_cases hp : t.producer = -1
  · have hp' : t.producer < 0 := by omega
    cases M <;> cases F <;> cases O <;> simp [inR, hp] <;> omega
  · by_cases hp' : t.producer < 0
    · cases M <;> cases F <;> cases O <;> simp [inR, hp, hp'] <;> omega
    · cases M <;> cases F <;> cases O <;> simp [inR, hp, hp'] <;> omega
end Go.Proofs.Ytdnbcfochlfopaa.BOk
namespace Go.Proofs.Ytdnbcfochlfopaa.BOk
set_option maxRecDepth 8000
open Go.RowKit
open Recs
set_option linter.unusedVariables false

theorem seven {w : World} {g tp : Nat} {t : Bat} {hv : Value} (h : w.heap[g]? = some (.cells (BatW.batArr t hv) tp (0, 0))) : w.cell? ⟨g, 0, none⟩ = some (.int .i64 t.base) ∧ w.cell? ⟨g, 1, none⟩ = some (.int .i64 t.epoch) ∧ w.cell? ⟨g, 2, none⟩ = some (.int .i64 t.producer) ∧
    w.cell? ⟨g, 3, none⟩ = some (.int .i64 t.turn) ∧ w.cell? ⟨g, 4, none⟩ = some (.int .i64 t.seq) ∧ w.cell? ⟨g, 5, none⟩ = some (.int .i64 t.flags) ∧ w.cell? ⟨g, 6, none⟩ = some hv :=
  ⟨cell_of_row w g 0 _ tp (0, 0) h, cell_of_row w g 1 _ tp (0, 0) h, cell_of_row w g 2 _ tp (0, 0) h, cell_of_row w g 3 _ tp (0, 0) h, cell_of_row w g 4 _ tp (0, 0) h, cell_of_row w g 5 _ tp (0, 0) h, cell_of_row w g 6 _ tp (0, 0) h⟩
set_option maxHeartbeats 1600000 in
theorem impl_any (v : Value) (t : Bat) (w : World) (lo b : Nat) (hv : BatAt w lo b v t) (hb : b ≤ w.heap.size) :
    Calls Try.prog 12 #[v] w fun e w' => e = .returned (.bool (batOk t)) ∧ Below w.heap.size w w' := by
  rw [← same]
  obtain ⟨rv, rfl, hr⟩ := hv
  have HR := Seg.hid hr
  obtain ⟨H, ⟨hn, A, c, rfl, hcell⟩, hheads⟩ := hr
  have HC := Seg.hid hcell; have HH := Seg.hid hheads
  clear hcell hheads
  unfold batVal
  unfold batI
  go_enter Try.func12, Try.ntmps12
  go_wp2_with fail
  refine (records_any _ t.recs (w.alloc _) lo b (HR.out.below ((below1 w _).mono hb)) (by rw [hsz]; omega)).mono ?_
  rintro e w1 ⟨rfl, b1⟩
  have B1 := Seg.hid (chain (below1 w _) b1)
  have T1 : Hid (w1.heap[w.heap.size]? = some (.cells (BatW.batArr t (.slice A t.recs.length c)) 26 (0, 0))) := (b1.block w.heap.size (by rw [hsz]; omega)).trans (heap_alloc_new _ _)
  have z1 : w.heap.size < w1.heap.size := (Array.getElem?_eq_some_iff.1 T1.out).1
  clear b1
  generalize h1 : (inR (t.recs.length : Int) 1 40 && t.recs.all ROk.okR) = V1
  have RN : V1 = true → 1 ≤ (t.recs.length : Int) ∧ (t.recs.length : Int) ≤ 40 := fun h => by
    rw [h, Bool.and_eq_true] at h1
    simpa [inR] using h1.1
  cases V1 with
  | false =>
    have HV1 := Seg.hid h1
    clear h1
    clear RN
    go_wp2
    go_ret
    exact ⟨Seg.ret_bool (by rw [HV1.out]; simp), B1.out⟩
  | true =>
  have HV1 := Seg.hid h1
  clear h1
  have rn := RN rfl
  clear RN
  obtain ⟨c0, c1, c2, c3, c4, c5, c6⟩ := seven T1.out
  go_wp2_with fail
  clear c0 c1 c2 c3 c4 c5 c6
  refine (place_any t.base t.epoch t.producer t.turn t.seq t.flags A t.recs.length c w1 rn.2).mono ?_
  rintro e w2 ⟨rfl, b2⟩
  have B2 := Seg.hid (chain B1.out b2)
  have T2 := Seg.hid ((b2.block w.heap.size z1).trans T1.out)
  have z2 : w.heap.size < w2.heap.size := (Array.getElem?_eq_some_iff.1 T2.out).1
  clear b2
  generalize h2 : (inR t.base 0 (1000000001 - t.recs.length) && inR t.epoch 0 1000000) = V2
  cases V2 with
  | false =>
    have HV2 := Seg.hid h2
    clear h2
    go_wp2
    go_ret
    exact ⟨Seg.ret_bool (by rw [HV2.out]; simp), B2.out⟩
  | true =>
  have HV2 := Seg.hid h2
  clear h2
  obtain ⟨c0, c1, c2, c3, c4, c5, c6⟩ := seven T2.out
  go_wp2_with fail
  clear c0 c1 c2 c3 c4 c5 c6
  refine (producer_any t.base t.epoch t.producer t.turn t.seq t.flags A t.recs.length c w2 rn.2).mono ?_
  rintro e w3 ⟨rfl, b3⟩
  have B3 := Seg.hid (chain B2.out b3)
  have T3 := Seg.hid ((b3.block w.heap.size z2).trans T2.out)
  clear b3
  generalize h3 : prB t.producer t.turn t.seq t.recs.length = V3
  cases V3 with
  | false =>
    have HV3 := Seg.hid h3
    clear h3
    go_wp2
    go_ret
    exact ⟨Seg.ret_bool (by rw [HV3.out]; simp), B3.out⟩
  | true =>
  have HV3 := Seg.hid h3
  clear h3
  have HL : Hid (Lies w3 A t.recs.length c t.recs H lo b) := by
    obtain ⟨g, o, l1, l2, l3, l4, l5⟩ := HC.out.resolve_left (by omega)
    exact ⟨g, o, l1, Nat.lt_of_lt_of_le l2 (Nat.le_trans hb B3.out.size), l3, RecsW.six' l4 B3.out (by omega), fun i hi => (HH.out i hi).below (B3.out.mono hb), Nat.le_trans hb B3.out.size⟩
  obtain ⟨c0, c1, c2, c3, c4, c5, c6⟩ := seven T3.out
  go_wp2_with fail
  clear c0 c1 c2 c3 c4 c5 c6
  refine (flags_any t.base t.epoch t.producer t.turn t.seq t.flags A t.recs.length c t.recs H lo b w3 rn HL.out).mono ?_
  rintro e w4 ⟨rfl, b4⟩
  have B4 := Seg.hid (chain B3.out b4)
  clear b4
  go_wp2
  go_ret
  exact ⟨Seg.ret_bool (by rw [HV1.out, HV2.out, HV3.out]; simp), B4.out⟩
end Go.Proofs.Ytdnbcfochlfopaa.BOk
