/- The copy at a place, found among the places where its first four bytes stand; The finder's key and run. -/
import Derived.RegionTactic
import Derived.Deep.QuietTactic
import Derived.BigQuiet
import Derived.Laws.Rows
import Derived.BigRegion
import Derived.WalkSmall
import Derived.Outline
import Derived.Test.YtojalklkpnaofaaRows
import Derived.Test.YtojalklkpnaofaaJF23
namespace Go.Proofs.Ytojalklkpnaofaa.SqM
set_option maxRecDepth 8000
set_option linter.unusedVariables false
/-- The same four bytes stand at both places. -/
def alike (l : List Int) (i j : Nat) : Bool := decide (l.getD i 0 = l.getD j 0) && decide (l.getD (i + 1) 0 = l.getD (j + 1) 0) && decide (l.getD (i + 2) 0 = l.getD (j + 2) 0) && decide (l.getD (i + 3) 0 = l.getD (j + 3) 0)
theorem alike_iff {l : List Int} {at_ e : Nat} (he : e ≤ at_) (hl : at_ + 4 ≤ l.length) : 4 ≤ rn l at_ e ↔ alike l at_ (at_ - e) = true := by
  have key : ∀ j, at_ + j - e = at_ - e + j := fun j => by omega
  constructor
  · intro h
    simp only [alike, Bool.and_eq_true, decide_eq_true_eq]
    have g : ∀ j, j < 4 → l.getD (at_ + j) 0 = l.getD (at_ - e + j) 0 := fun j hj => by rw [← key j]; exact rn_in (by omega)
    exact ⟨⟨⟨g 0 (by omega), g 1 (by omega)⟩, g 2 (by omega)⟩, g 3 (by omega)⟩
  · intro h
    simp only [alike, Bool.and_eq_true, decide_eq_true_eq] at h
    refine rn_ge (by omega) hl (fun j hj => ?_)
    rw [key j]
    match j, hj with
    | 0, _ => exact h.1.1.1
    | 1, _ => exact h.1.1.2
    | 2, _ => exact h.1.2
    | 3, _ => exact h.2
/-- The best of those distances from 1 to D at which four bytes are alike. -/
structure Best4 (l : List Int) (at_ D L d : Nat) : Prop where
  le : d ≤ D
  no : d = 0 → L = 0
  is : 0 < d → L = rn l at_ d ∧ 4 ≤ L
  far : ∀ e, 0 < e → e ≤ D → 4 ≤ rn l at_ e → rn l at_ e ≤ L
  near : ∀ e, 0 < e → e < d → rn l at_ e < L
theorem Best4.start (l : List Int) (at_ : Nat) : Best4 l at_ 0 0 0 := ⟨Nat.le_refl _, fun _ => rfl, fun h => absurd h (by omega), fun e h h' => by omega, fun e h h' => by omega⟩
/-- No four bytes are alike at the distances between. -/
theorem Best4.skip {l : List Int} {at_ D D' L d : Nat} (h : Best4 l at_ D L d) (hD : D ≤ D') (hn : ∀ e, D < e → e ≤ D' → rn l at_ e < 4) : Best4 l at_ D' L d :=
  ⟨by have := h.le; omega, h.no, h.is, fun e h1 h2 h3 => by
    by_cases he : e ≤ D
    · exact h.far e h1 he h3
    · have := hn e (by omega) h2; omega, h.near⟩
theorem Best4.worse {l : List Int} {at_ D L d : Nat} (h : Best4 l at_ D L d) (hr : rn l at_ (D + 1) ≤ L) : Best4 l at_ (D + 1) L d :=
  ⟨by have := h.le; omega, h.no, h.is, fun e h1 h2 h3 => by
    by_cases he : e = D + 1
    · subst he; exact hr
    · exact h.far e h1 (by omega) h3, h.near⟩
theorem Best4.better {l : List Int} {at_ D L d : Nat} (h : Best4 l at_ D L d) (h4 : 4 ≤ rn l at_ (D + 1)) (hr : L < rn l at_ (D + 1)) : Best4 l at_ (D + 1) (rn l at_ (D + 1)) (D + 1) :=
  ⟨Nat.le_refl _, fun h => by omega, fun _ => ⟨rfl, h4⟩, fun e h1 h2 h3 => by
    by_cases he : e = D + 1
    · subst he; exact Nat.le_refl _
    · have := h.far e h1 (by omega) h3; omega, fun e h1 h2 => by
    by_cases h3 : 4 ≤ rn l at_ e
    · have := h.far e h1 (by omega) h3; omega
    · omega⟩
/-- It is as long as can be: no other is longer. -/
theorem Best4.full {l : List Int} {at_ D D' L d : Nat} (h : Best4 l at_ D L d) (hD : d ≤ D') (hf : ∀ e, rn l at_ e ≤ L) : Best4 l at_ D' L d := ⟨hD, h.no, h.is, fun e _ _ _ => hf e, h.near⟩
theorem Best4.cut {l : List Int} {at_ D D' L d : Nat} (h : Best4 l at_ D L d) (hD : D' ≤ D) (hd : d ≤ D') : Best4 l at_ D' L d := ⟨hd, h.no, h.is, fun e h1 h2 h3 => h.far e h1 (by omega) h3, h.near⟩
theorem cp_of_best4 {l : List Int} {at_ L d : Nat} (h : Best4 l at_ (min 4096 at_) L d) : cp l at_ = (L, d) := by
  have hb := bestF_best l at_ (min 4096 at_)
  by_cases hd : d = 0
  · have hL := h.no hd
    have hlt : (bestF l at_ (min 4096 at_)).1 < 4 := by
      rcases Nat.lt_or_ge (bestF l at_ (min 4096 at_)).1 4 with h1 | h1
      · exact h1
      · have hp : 0 < (bestF l at_ (min 4096 at_)).2 := by
          rcases Nat.eq_zero_or_pos (bestF l at_ (min 4096 at_)).2 with h0 | h0
          · have := hb.no h0; omega
          · exact h0
        have hi := hb.is hp
        have := h.far _ hp hb.le (by omega)
        omega
    rw [cp, if_pos hlt, hL, hd]
  · have hi := h.is (by omega)
    have B : Best l at_ (min 4096 at_) L d := ⟨h.le, h.no, fun _ => ⟨hi.1, by omega⟩, fun e h1 h2 => by
      by_cases h3 : 4 ≤ rn l at_ e
      · exact h.far e h1 h2 h3
      · omega, h.near⟩
    rw [cp_of_best B, if_neg (by omega)]

/-- The places below m where the same four bytes stand. -/
def pos (l : List Int) (m at_ : Nat) : List Nat := (List.range m).filter (fun j => alike l at_ j)
end Go.Proofs.Ytojalklkpnaofaa.SqM
namespace Go.Proofs.Ytojalklkpnaofaa.SqK
set_option maxRecDepth 8000
open Go.RowKit
open SqM
set_option linter.unusedVariables false
/-- The finder: the bytes and the map. -/
def fv (g o n c M : Nat) : Value := .agg #[.slice (some ⟨g, o, none⟩) n c, .map (some M)]
def k4 (l : List Int) (i : Nat) : Array Value := #[.int .u8 (l.getD i 0), .int .u8 (l.getD (i + 1) 0), .int .u8 (l.getD (i + 2) 0), .int .u8 (l.getD (i + 3) 0)]

theorem info36 : (Try.prog.info? 114).map (·.size) = some 4 := by kernel_rfl
def runR (l : List Int) (fr at_ beat : Nat) : Nat := if l.getD (fr + beat) 0 = l.getD (at_ + beat) 0 then rn l at_ (at_ - fr) else 0
set_option maxHeartbeats 800000 in
theorem key_any (g o c M at_ : Nat) (l : List Int) (w : World) (hl : l.length ≤ 60000) (hc : l.length ≤ c) (hg : g < w.heap.size) (hat : at_ + 4 ≤ l.length)
    (ha : ∀ i, i < l.length → w.cell? ⟨g, o + i, none⟩ = some (.int .u8 (l.getD i 0))) :
    Calls Try.prog 92 #[fv g o l.length c M, .int .i64 at_] w fun e w' => e = .returned (.agg (k4 l at_)) ∧ Below w.heap.size w w' := by
  unfold fv
  have c0 := ha at_ (by omega)
  have c1 := ha (at_ + 1) (by omega)
  have c2 := ha (at_ + 2) (by omega)
  have c3 := ha (at_ + 3) (by omega)
  clear ha
  unfold k4
  generalize l.getD at_ 0 = x0 at *
  generalize l.getD (at_ + 1) 0 = x1 at *
  generalize l.getD (at_ + 2) 0 = x2 at *
  generalize l.getD (at_ + 3) 0 = x3 at *
  have i0 : (0 : Int) ≤ (at_ : Int) := by omega
  have i1 : (at_ : Int) < (l.length : Int) := by omega
  have i2 : (at_ : Int) + 1 < (l.length : Int) := by omega
  have i3 : (at_ : Int) + 2 < (l.length : Int) := by omega
  have i4 : (at_ : Int) + 3 < (l.length : Int) := by omega
  go_enter Try.func92, Try.ntmps92
  go_wp2_with fail
  go_region
  go_wp2
  exact bodyPost_ret (v := .agg #[.int .u8 x0, .int .u8 x1, .int .u8 x2, .int .u8 x3]) (results_cell_row rfl _ _ (w.heap.size + 1) _ _ _ _ rfl (heap_alloc2_new w _ _) Try.underlying114 rfl info36) rfl ⟨rfl, (((Below.refl _ _).alloc (Nat.le_refl _) _).alloc (by simp) _).drew⟩

set_option maxRecDepth 6000 in
set_option maxHeartbeats 1600000 in
theorem run_any (g o c M fr at_ beat lg : Nat) (l : List Int) (w : World) (hl : l.length ≤ 60000) (hc : l.length ≤ c) (hg : g < w.heap.size) (hfr : fr < at_) (hbt : beat < lg) (hat : at_ + lg ≤ l.length) (hlg : lg = min (l.length - at_) 67)
    (ha : ∀ i, i < l.length → w.cell? ⟨g, o + i, none⟩ = some (.int .u8 (l.getD i 0))) :
    Calls Try.prog 93 #[fv g o l.length c M, .int .i64 fr, .int .i64 at_, .int .i64 beat, .int .i64 lg] w fun e w' => e = .returned (.int .i64 (runR l fr at_ beat)) ∧ Below w.heap.size w w' := by
  unfold fv
  have HA := Seg.hid ha
  have HLG := Seg.hid hlg
  clear ha hlg
  go_enter Try.func93, Try.ntmps93
  have e1 : (0 : Int) ≤ (fr : Int) + (beat : Int) := by omega
  have e2 : (fr : Int) + (beat : Int) < (l.length : Int) := by omega
  have e3 : (0 : Int) ≤ (at_ : Int) + (beat : Int) := by omega
  have e4 : (at_ : Int) + (beat : Int) < (l.length : Int) := by omega
  have t1 : ((fr : Int) + (beat : Int)).toNat = fr + beat := by omega
  have t2 : ((at_ : Int) + (beat : Int)).toNat = at_ + beat := by omega
  have c1 := HA.out (fr + beat) (by omega)
  have c2 := HA.out (at_ + beat) (by omega)
  generalize hx : l.getD (fr + beat) 0 = x at c1
  generalize hy : l.getD (at_ + beat) 0 = y at c2
  have HX := Seg.hid hx
  have HY := Seg.hid hy
  clear hx hy
  cases hsame : (x != y) with
  | true =>
    have HN : Hid (runR l fr at_ beat = 0) := by
      show runR l fr at_ beat = 0
      rw [runR, if_neg]
      rw [HX.out, HY.out]
      simpa using hsame
    go_wp2_with fail
    go_quiet (fail)
    go_wp2
    go_ret
    exact ⟨by rw [HN.out]; rfl, below_drewN ((Below.refl _ _).alloc (Nat.le_refl _) _) _⟩
  | false =>
    have HN : Hid (runR l fr at_ beat = rn l at_ (at_ - fr)) := by
      show runR l fr at_ beat = rn l at_ (at_ - fr)
      rw [runR, if_pos]
      rw [HX.out, HY.out]
      simpa using hsame
    go_wp2_with fail
    go_quiet (fail)
    go_wp2
    clear c1 c2 hsame e1 e2 e3 e4 t1 t2
    go_loopw [11] (fun v wr => ∃ n q : Nat, v = .int .i64 n ∧ n ≤ lg ∧ wr = (w.alloc (.cells #[.slice (some ⟨g, o, none⟩) l.length c, .map (some M)] 107)).drewN q ∧ Hid (∀ j, j < n → l.getD (at_ + j) 0 = l.getD (fr + j) 0)) (fun v _ => lg - (intOf v).toNat)
    case atStart => exact ⟨0, _, rfl, by omega, rfl, fun j hj => absurd hj (by omega)⟩
    case round =>
      obtain ⟨n, q, rfl, hn, rfl, HJ⟩ := hrel
      by_cases hlt : n < lg
      · have f0 : (n : Int) < (lg : Int) := by omega
        have f1 : (0 : Int) ≤ (fr : Int) + (n : Int) := by omega
        have f2 : (fr : Int) + (n : Int) < (l.length : Int) := by omega
        have f3 : (0 : Int) ≤ (at_ : Int) + (n : Int) := by omega
        have f4 : (at_ : Int) + (n : Int) < (l.length : Int) := by omega
        have t1 : ((fr : Int) + (n : Int)).toNat = fr + n := by omega
        have t2 : ((at_ : Int) + (n : Int)).toNat = at_ + n := by omega
        have c1 := HA.out (fr + n) (by omega)
        have c2 := HA.out (at_ + n) (by omega)
        generalize hx : l.getD (fr + n) 0 = x' at c1
        generalize hy : l.getD (at_ + n) 0 = y' at c2
        have HX' := Seg.hid hx
        have HY' := Seg.hid hy
        clear hx hy
        cases hsame : (x' == y') with
        | true =>
          have HE : Hid (l.getD (at_ + n) 0 = l.getD (fr + n) 0) := by
            show _ = _
            rw [HX'.out, HY'.out]
            have : x' = y' := by simpa using hsame
            exact this.symm
          go_wp2_with fail
          go_quiet (fail)
          go_wp2
          go_roundw
          case rel =>
            refine ⟨n + 1, _, by go_num, by omega, rfl, fun j hj => ?_⟩
            by_cases he : j = n
            · subst he; exact HE.out
            · exact HJ.out j (by omega)
          case measure => simp [intOf]; omega
        | false =>
          have HR : Hid (n = rn l at_ (at_ - fr)) := by
            have hg := HLG.out
            refine rn_is (by omega) (by omega) (fun j hj => ?_) (fun _ _ => ?_)
            · rw [show at_ + j - (at_ - fr) = fr + j by omega]; exact HJ.out j hj
            · rw [show at_ + n - (at_ - fr) = fr + n by omega, HX'.out, HY'.out]
              intro h
              rw [h] at hsame
              simp at hsame
          go_wp2_with fail
          go_quiet (fail)
          go_wp2
          go_ret
          exact ⟨by rw [HN.out, ← HR.out]; rfl, below_drewN (below_drewN ((Below.refl _ _).alloc (Nat.le_refl _) _) _) _⟩
      · obtain rfl : n = lg := by omega
        have f0 : decide ((n : Int) < (n : Int)) = false := by simp
        have HR : Hid (n = rn l at_ (at_ - fr)) := by
          have hg := HLG.out
          refine rn_is (by omega) (by omega) (fun j hj => ?_) (fun _ _ => by omega)
          rw [show at_ + j - (at_ - fr) = fr + j by omega]; exact HJ.out j hj
        go_wp2_with fail
        go_quiet (fail)
        go_wp2
        go_ret
        exact ⟨by rw [HN.out, ← HR.out]; rfl, below_drewN (below_drewN ((Below.refl _ _).alloc (Nat.le_refl _) _) _) _⟩
end Go.Proofs.Ytojalklkpnaofaa.SqK
