/- BatchOk of the model and of the program: one plain function of the batch. -/
import Derived.Test.YtdhicmbfknagjaaBOkI
namespace Go.Proofs.Ytdhicmbfknagjaa.BOk
set_option maxRecDepth 8000
open Go.RowKit
open Recs
set_option linter.unusedVariables false

def batOk (t : Bat) : Bool := okB1 t.base t.epoch t.producer t.turn t.seq t.flags && !bad2 t.producer t.turn t.seq t.flags && okB3 t.base t.seq t.recs.length && t.recs.all ROk.okR && (!decide (4 ≤ t.flags) || (decide (t.recs.length = 1) && mark (t.recs.getD 0 default)))

theorem all_of {rs : List Rec} (h : ∀ i, i < rs.length → ROk.okR (rs.getD i default) = true) : rs.all ROk.okR = true := by
  rw [List.all_eq_true]
  intro x hx
  obtain ⟨i, hi, rfl⟩ := List.getElem_of_mem hx
  have := h i hi
  simpa [hi] using this
theorem all_not {rs : List Rec} {i : Nat} (hi : i < rs.length) (h : ROk.okR (rs.getD i default) = false) : rs.all ROk.okR = false := by
  rw [List.all_eq_false]
  refine ⟨rs[i], List.getElem_mem hi, ?_⟩
  have : ROk.okR rs[i] = false := by simpa [hi] using h
  rw [this]; simp
theorem all_at {rs : List Rec} {i : Nat} (hi : i < rs.length) (h : rs.all ROk.okR = true) : ROk.okR (rs.getD i default) = true := by
  rw [List.all_eq_true] at h
  have := h rs[i] (List.getElem_mem hi)
  simpa [hi] using this
theorem lies_of {w : World} {lo b n c : Nat} {A : Option Addr} {rs : List Rec} {H : Nat → Value} (hb : b ≤ w.heap.size) (hn : 1 ≤ (n : Int)) (h : n = 0 ∨ ∃ g o, A = some ⟨g, o, none⟩ ∧ g < b ∧ n ≤ c ∧ (∀ i, i < n → ∀ j, j < 6 → w.cell? ⟨g, o + i * 6 + j, none⟩ = some (recCells rs H i j)) ∧ lo ≤ g)
    (hh : ∀ i, i < n → Heads w lo b (H i) (rs.getD i default).heads) : Lies w A n c rs H lo b := by
  obtain ⟨g, o, h1, h2, h3, h4, _⟩ := h.resolve_left (by omega)
  exact ⟨g, o, h1, by omega, h3, h4, hh, hb⟩

theorem spec_any (v : Value) (t : Bat) (w : World) (lo b : Nat) (hv : BatAt w lo b v t) (hb : b ≤ w.heap.size) :
    Calls Try.prog 72 #[v] w fun e w' => e = .returned (.bool (batOk t)) ∧ Below w.heap.size w w' := by
  obtain ⟨rv, rfl, H, ⟨hn, A, c, rfl, h⟩, hh⟩ := hv
  show Calls Try.prog 72 #[bv t.base t.epoch t.producer t.turn t.seq t.flags (.slice A t.recs.length c)] w _
  unfold batOk
  cases h1 : okB1 t.base t.epoch t.producer t.turn t.seq t.flags with
  | false => exact (no1 _ _ _ _ _ _ A _ c w h1).mono fun e w' h => h
  | true =>
  cases h2 : bad2 t.producer t.turn t.seq t.flags with
  | true => exact (no2 _ _ _ _ _ _ A _ c w h1 h2).mono fun e w' h => h
  | false =>
  have hw := way_of h1 h2
  cases h3 : okB3 t.base t.seq t.recs.length with
  | false => exact (no3 _ _ _ _ _ _ A _ c w h1 hw h3).mono fun e w' h => h
  | true =>
    obtain ⟨a1, a2, a3, a4, a5, a6⟩ := okB1_parts h1
    simp only [okB3, Bool.and_eq_true, decide_eq_true_eq] at h3
    have rn : 1 ≤ (t.recs.length : Int) ∧ (t.recs.length : Int) ≤ 40 := by simpa [inR] using h3.1.1
    refine (yes3 _ _ _ _ _ _ A _ c t.recs H lo b w a1 a2 a3 a4 a5 a6 hw h3.1.1 (by omega) (by omega) (lies_of hb rn.1 h hh)).mono fun e w' hq => ?_
    obtain ⟨⟨b', rfl, hq1⟩, hq2⟩ := hq
    refine ⟨?_, hq2⟩
    rcases hq1 with ⟨rfl, i, hi, hbad⟩ | ⟨hall, hq1⟩
    · rw [all_not hi hbad]; simp
    · rw [all_of hall]
      rcases hq1 with ⟨hf, rfl⟩ | ⟨hf, rfl⟩
      · simp [hf]
      · simp [hf]

theorem records_any (v : Value) (rs : List Rec) (w : World) (lo b : Nat) (hv : RecsAt w lo b v rs) (hb : b ≤ w.heap.size) :
    Calls Try.prog 130 #[v] w fun e w' => e = .returned (.bool (inR (rs.length : Int) 1 40 && rs.all ROk.okR)) ∧ Below w.heap.size w w' := by
  obtain ⟨H, ⟨hn, A, c, rfl, h⟩, hh⟩ := hv
  cases h1 : inR (rs.length : Int) 1 40 with
  | false => exact (records_no A _ c w h1).mono fun e w' h => h
  | true =>
    have rn : 1 ≤ (rs.length : Int) ∧ (rs.length : Int) ≤ 40 := by simpa [inR] using h1
    refine (records_yes A _ c rs H lo b w h1 (lies_of hb rn.1 h hh)).mono fun e w' hq => ?_
    obtain ⟨⟨b', rfl, hq1⟩, hq2⟩ := hq
    refine ⟨?_, hq2⟩
    rcases hq1 with ⟨rfl, i, hi, hbad⟩ | ⟨rfl, hall⟩
    · rw [all_not hi hbad]; rfl
    · rw [all_of hall]; rfl

def batI (t : Bat) : Bool := (inR (t.recs.length : Int) 1 40 && t.recs.all ROk.okR) && (inR t.base 0 (1000000001 - t.recs.length) && inR t.epoch 0 1000000) && prB t.producer t.turn t.seq t.recs.length && flB t.producer t.flags t.recs.length (t.recs.getD 0 default)

theorem flags8 (fl : Int) (h : inR fl 0 7 = true) : (fl = 0 ∨ fl = 1 ∨ fl = 2 ∨ fl = 3 ∨ fl = 4 ∨ fl = 5 ∨ fl = 6 ∨ fl = 7) := by
  have : 0 ≤ fl ∧ fl ≤ 7 := by simpa [inR] using h
  omega
theorem bitsAll (fl : Int) (h : inR fl 0 7 = true) : q1 fl = o2 fl ∧ q0 fl = !o2 fl ∧ m4 fl = decide (4 ≤ fl) := by
  rcases flags8 fl h with rfl | rfl | rfl | rfl | rfl | rfl | rfl | rfl <;> decide +kernel
theorem mark_same (r : Rec) (h : ROk.okR r = true) : markI r = mark r := by
  have h1 : r.keyed = true ∨ r.key.toList = [] := by
    have : ROk.ok1 r.keyed r.key r.gone r.val = true := by
      rw [ROk.okR_eq] at h
      simp only [Bool.and_eq_true] at h
      exact h.1.2
    simp only [ROk.ok1, Bool.and_eq_true, Bool.or_eq_true] at this
    exact this.1.imp id fun h => by simpa using h
  rw [Bool.eq_iff_iff]
  simp only [markI, mark, Bool.and_eq_true, Bool.or_eq_true, decide_eq_true_eq, List.length_eq_zero_iff]
  constructor
  · rintro ⟨⟨⟨hk, hg⟩, hv⟩, hh⟩
    refine ⟨⟨⟨⟨?_, hk⟩, hg⟩, hv⟩, hh⟩
    rcases h1 with h1 | h1
    · exact h1
    · rw [h1] at hk; simp at hk
  · rintro ⟨⟨⟨⟨_, hk⟩, hg⟩, hv⟩, hh⟩
    exact ⟨⟨⟨hk, hg⟩, hv⟩, hh⟩

theorem same (t : Bat) : batI t = batOk t := by
  cases h6 : inR t.flags 0 7 with
  | false => simp [batI, batOk, flB, okB1, h6]
  | true =>
  cases hA : t.recs.all ROk.okR with
  | false => simp [batI, batOk, hA]
  | true =>
  cases hN : inR (t.recs.length : Int) 1 40 with
  | false => simp [batI, batOk, okB3, hN]
  | true =>
  have rn : 1 ≤ (t.recs.length : Int) ∧ (t.recs.length : Int) ≤ 40 := by simpa [inR] using hN
  obtain ⟨e1, e2, e3⟩ := bitsAll _ h6
  have hm := mark_same _ (all_at (i := 0) (by omega) hA)
  simp only [batI, batOk, okB1, bad2, okB3, flB, prB, h6, hA, hN, e1, e2, e3, hm, Bool.true_and, Bool.and_true]
  generalize (!decide (4 ≤ t.flags) || decide (t.recs.length = 1) && mark (t.recs.getD 0 default)) = M
  generalize decide (4 ≤ t.flags) = F
  generalize o2 t.flags = O
  rw [Bool.eq_iff_iff]
  by_cases hp : t.producer = -1
  · have hp' : t.producer < 0 := by omega
    cases M <;> cases F <;> cases O <;> simp [inR, hp] <;> omega
  · by_cases hp' : t.producer < 0
    · cases M <;> cases F <;> cases O <;> simp [inR, hp, hp'] <;> omega
    · cases M <;> cases F <;> cases O <;> simp [inR, hp, hp'] <;> omega
end Go.Proofs.Ytdhicmbfknagjaa.BOk
