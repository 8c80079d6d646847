/- The end of an Epoch, on plain data; The program's search for an offset among Segments and among Batches. -/
import Derived.BigQuiet
import Derived.Laws.BitsLemmas
import Derived.Deep.RegionHeld3
import Derived.Test.YtimnihaieifkcaaJP24
import Derived.Test.YtimnihaieifkcaaJP20
namespace Go.Proofs.Ytimnihaieifkcaa.EoP
set_option maxRecDepth 8000
open Recs SegW LogW SrP BfP
set_option linter.unusedVariables false
def endB (x : Int) : Int → Int → List Bat → Int × Int
  | f, n, [] => (f, n)
  | f, n, b :: t => if x < b.epoch then (f, b.base) else endB x b.epoch n t
def told (start : Int) (r : Int × Int) : Int × Int := if r.1 < 0 then (0, start) else r
def endF (l : Lg) (x : Int) : Int × Int := told l.start (endB x (-1) l.next (flatB l.segs))
def endOf (l : Lg) (x : Int) : Int × Int := if LgP.logOk l = true then endF l x else (0, 0)
/-- The Epoch of the last batch, f where there is none. -/
def lastE : Int → List Bat → Int
  | f, [] => f
  | f, b :: t => lastE b.epoch t
def sm (bs : List Bat) : Bool := decide (0 < bs.length)
theorem endB_app {x n : Int} : ∀ {a r : List Bat} {f : Int}, (∀ y ∈ a, ¬ x < y.epoch) → endB x f n (a ++ r) = endB x (lastE f a) n r
  | [], r, f, _ => rfl
  | y :: t, r, f, h => by
    show (if x < y.epoch then (f, y.base) else endB x y.epoch n (t ++ r)) = _
    rw [if_neg (h y (by simp)), endB_app (a := t) (fun z hz => h z (by simp [hz]))]
    rfl
theorem endB_stop {x n f : Int} {a r : List Bat} {y : Bat} (h : ∀ z ∈ a, ¬ x < z.epoch) (hy : x < y.epoch) : endB x f n (a ++ y :: r) = (lastE f a, y.base) := by
  rw [endB_app h]
  show (if x < y.epoch then (_, y.base) else _) = _
  rw [if_pos hy]
theorem endB_all {x n f : Int} {a : List Bat} (h : ∀ z ∈ a, ¬ x < z.epoch) : endB x f n a = (lastE f a, n) := by
  have := endB_app (x := x) (n := n) (r := []) (f := f) h
  rw [List.append_nil] at this
  rw [this]
  rfl
theorem lastE_app : ∀ {a : List Bat} {f : Int} {y : Bat}, lastE f (a ++ [y]) = y.epoch
  | [], f, y => rfl
  | z :: t, f, y => lastE_app (a := t)
theorem sm_app {a : List Bat} {y : Bat} : sm (a ++ [y]) = true := by simp [sm]
theorem epoch0 {b : Bat} (h : BOk.batOk b = true) : 0 ≤ b.epoch := by
  simp only [BOk.batOk, BOk.okB1, BOk.okB3, BOk.inR, Bool.and_eq_true, decide_eq_true_eq] at h
  omega
theorem lastE_some : ∀ {a : List Bat} {f g : Int}, 0 < a.length → lastE f a = lastE g a
  | [], _, _, h => by simp at h
  | z :: t, f, g, _ => rfl
theorem lastE_pos : ∀ {a : List Bat} {f : Int}, 0 ≤ f → (∀ y ∈ a, 0 ≤ y.epoch) → 0 ≤ lastE f a
  | [], f, h, _ => h
  | z :: t, f, h, hk => lastE_pos (a := t) (hk z (by simp)) (fun y hy => hk y (by simp [hy]))
theorem told_of {start e : Int} {a : List Bat} (h : ∀ y ∈ a, 0 ≤ y.epoch) : told start (lastE (-1) a, e) = if sm a = true then (lastE 0 a, e) else (0, start) := by
  by_cases ha : 0 < a.length
  · have := lastE_pos (a := a) (Int.le_refl 0) h
    rw [lastE_some (g := 0) ha, told, if_neg (by omega), if_pos (by simp [sm, ha])]
  · have : a = [] := by cases a with | nil => rfl | cons z t => simp at ha
    subst this
    rfl
theorem from_zero : ∀ {bs : List Bat}, (∀ b ∈ bs, BOk.batOk b = true) → fromB 0 bs = bs
  | [], _ => rfl
  | b :: t, h => by
    have hb := LgP.okLen (h b (by simp))
    unfold fromB
    rw [List.filter_cons_of_pos (by unfold pB bEnd; simp only [decide_eq_true_eq]; omega)]
    exact congrArg _ (from_zero (fun y hy => h y (by simp [hy])))
end Go.Proofs.Ytimnihaieifkcaa.EoP
namespace Go.Proofs.Ytimnihaieifkcaa.SrW
set_option maxRecDepth 8000
open Go.RowKit
open Recs (hsz below1 below2 chain chainD BatAt RecsAt)
open Bats SegW Segs LogW SrP
set_option linter.unusedVariables false
set_option maxHeartbeats 800000 in
theorem ask_seg (A : Option Addr) (c h1 h2 i : Nat) (x : Int) (ss : List Sg) (w : World) (lo b : Nat) (hv : SegsAt w lo b (.slice A ss.length c) ss) (hb : b ≤ w.heap.size) (hi : i < ss.length) (hl : (ss.getD i default).bats.length ≤ 1048576) (hok : ∀ k, k < (ss.getD i default).bats.length → BOk.batOk ((ss.getD i default).bats.getD k default) = true)
    (hn : ss.length ≤ 1048576) (c1 : w.cell? ⟨h1, 0, none⟩ = some (.slice A ss.length c)) (c2 : w.cell? ⟨h2, 0, none⟩ = some (.int .i64 x)) (l1 : h1 < w.heap.size) (l2 : h2 < w.heap.size) :
    Calls Try.prog 78 #[.int .i64 i, .pointer (some ⟨h1, 0, none⟩), .pointer (some ⟨h2, 0, none⟩)] w fun e w' => e = .returned (.bool (pS x (ss.getD i default))) ∧ Below w.heap.size w w' := by
  obtain ⟨H, ⟨_, A', c', hsl, hrow⟩, hh⟩ := hv
  simp only [Value.slice.injEq] at hsl
  obtain ⟨rfl, _, rfl⟩ := hsl
  obtain ⟨g, o, rfl, hg, hc, hcell, _⟩ := hrow.resolve_left (by omega)
  obtain ⟨e0, e1⟩ := Segs.six hcell i hi
  have HI := Seg.hid (hh i hi)
  have HOK := Seg.hid hok
  clear hcell hh hrow hok
  have q0 : (0 : Int) ≤ (i : Int) := by omega
  have q1 : (i : Int) < (ss.length : Int) := by omega
  generalize ss.getD i default = s at *
  obtain ⟨K, ⟨_, Ah, ch, hHj, hrow2⟩, hk⟩ := HI.out
  rw [hHj] at e1
  have HR2 := Seg.hid hrow2; have HK := Seg.hid hk
  clear hHj hrow2 hk
  by_cases hz : s.bats.length = 0
  · rw [hz] at e1
    have HP : Hid (pS x s = true) := by show _ = _; simp [pS, hz]
    clear hz
    go_enter Try.func78, Try.ntmps78
    go_wp2_with fail
    go_quiet (fail)
    go_wp2
    go_ret
    exact ⟨by rw [HP.out]; rfl, below_drewN (Below.refl _ _) _⟩
  · obtain ⟨g2, o2, rfl, hg2, hc2, hcell2, _⟩ := HR2.out.resolve_left hz
    have hz1 : decide ((s.bats.length : Int) = 0) = false := decide_eq_false (by omega)
    have hz2 : ((s.bats.length : Int) == 0) = false := beq_false_of_ne (by omega)
    have z0 : (0 : Int) ≤ (s.bats.length : Int) - 1 := by omega
    have z1 : (s.bats.length : Int) - 1 < (s.bats.length : Int) := by omega
    have z2 : (1 : Int) ≤ (s.bats.length : Int) := by omega
    have z3 : 0 < s.bats.length := by omega
    have z4 : s.bats.length - 1 < s.bats.length := by omega
    have zw : IntKind.i64.wrap ((s.bats.length : Int) - 1) = (s.bats.length : Int) - 1 := by rw [IntKind.wrap_i64]; omega
    have DD := Bats.six hcell2 (s.bats.length - 1) (by omega)
    have HP : Hid (pS x s = decide (x < (s.bats.getD (s.bats.length - 1) default).base + (s.bats.getD (s.bats.length - 1) default).recs.length)) := by show _ = _; simp [pS, hz, sEnd, bEnd]
    have BA : Hid (BatAt w lo b (.agg (BatW.batArr (s.bats.getD (s.bats.length - 1) default) (K (s.bats.length - 1)))) (s.bats.getD (s.bats.length - 1) default)) := ⟨_, rfl, HK.out _ (by omega)⟩
    have OK1 := Seg.hid (HOK.out (s.bats.length - 1) (by omega))
    obtain ⟨_, ⟨_, A3, c3, hK3, _⟩, _⟩ := HK.out (s.bats.length - 1) (by omega)
    obtain ⟨d0, d1, d2, d3, d4, d5, d6⟩ := DD
    rw [hK3] at d6 BA
    clear hK3 hcell2
    generalize s.bats.getD (s.bats.length - 1) default = t at *
    go_enter Try.func78, Try.ntmps78
    go_wp2_with fail
    have KW : Hid (∀ w', Below w.heap.size w w' → w'.cell? ⟨h2, 0, none⟩ = some (.int .i64 x) ∧ w'.cell? ⟨g2, o2 + (s.bats.length - 1) * 7, none⟩ = some (.int .i64 t.base) ∧ w'.cell? ⟨g2, o2 + (s.bats.length - 1) * 7 + 1, none⟩ = some (.int .i64 t.epoch) ∧ w'.cell? ⟨g2, o2 + (s.bats.length - 1) * 7 + 2, none⟩ = some (.int .i64 t.producer) ∧ w'.cell? ⟨g2, o2 + (s.bats.length - 1) * 7 + 3, none⟩ = some (.int .i64 t.turn) ∧ w'.cell? ⟨g2, o2 + (s.bats.length - 1) * 7 + 4, none⟩ = some (.int .i64 t.seq) ∧ w'.cell? ⟨g2, o2 + (s.bats.length - 1) * 7 + 5, none⟩ = some (.int .i64 t.flags) ∧ w'.cell? ⟨g2, o2 + (s.bats.length - 1) * 7 + 6, none⟩ = some (.slice A3 t.recs.length c3)) := fun w' bl => ⟨(bl.cell (p := ⟨h2, 0, none⟩) l2).trans c2, (bl.cell (p := ⟨g2, _, none⟩) (by show g2 < _; omega)).trans d0, (bl.cell (p := ⟨g2, _, none⟩) (by show g2 < _; omega)).trans d1, (bl.cell (p := ⟨g2, _, none⟩) (by show g2 < _; omega)).trans d2, (bl.cell (p := ⟨g2, _, none⟩) (by show g2 < _; omega)).trans d3, (bl.cell (p := ⟨g2, _, none⟩) (by show g2 < _; omega)).trans d4, (bl.cell (p := ⟨g2, _, none⟩) (by show g2 < _; omega)).trans d5, (bl.cell (p := ⟨g2, _, none⟩) (by show g2 < _; omega)).trans d6⟩
    go_region_held3 (fun w' => w'.cell? ⟨h2, 0, none⟩ = some (.int .i64 x) ∧ w'.cell? ⟨g2, o2 + (s.bats.length - 1) * 7, none⟩ = some (.int .i64 t.base) ∧ w'.cell? ⟨g2, o2 + (s.bats.length - 1) * 7 + 1, none⟩ = some (.int .i64 t.epoch) ∧ w'.cell? ⟨g2, o2 + (s.bats.length - 1) * 7 + 2, none⟩ = some (.int .i64 t.producer) ∧ w'.cell? ⟨g2, o2 + (s.bats.length - 1) * 7 + 3, none⟩ = some (.int .i64 t.turn) ∧ w'.cell? ⟨g2, o2 + (s.bats.length - 1) * 7 + 4, none⟩ = some (.int .i64 t.seq) ∧ w'.cell? ⟨g2, o2 + (s.bats.length - 1) * 7 + 5, none⟩ = some (.int .i64 t.flags) ∧ w'.cell? ⟨g2, o2 + (s.bats.length - 1) * 7 + 6, none⟩ = some (.slice A3 t.recs.length c3)) (first | go_keep | exact K1.out | exact KW.out _ (Below.refl _ _).drew)
      (first | (go_at_call 54; refine (LgI.behind_any _ t w.drew lo b BA.out OK1.out).mono ?_; rintro e w1 ⟨rfl, b1⟩; have B1 : Hid (Below w.heap.size w w1) := ⟨b1.os, b1.tape, b1.output, b1.size, b1.block⟩; have K1 := Seg.hid (KW.out w1 B1.out); clear b1))
    go_wp2
    go_ret
    exact ⟨by rw [HP.out]; rfl, B1.out⟩
set_option maxHeartbeats 800000 in
theorem ask_bat (A : Option Addr) (c h1 h2 i : Nat) (x : Int) (ts : List Recs.Bat) (w : World) (lo b : Nat) (hv : BatsAt w lo b (.slice A ts.length c) ts) (hb : b ≤ w.heap.size) (hi : i < ts.length) (hok : BOk.batOk (ts.getD i default) = true)
    (hn : ts.length ≤ 1048576) (c1 : w.cell? ⟨h1, 0, none⟩ = some (.slice A ts.length c)) (c2 : w.cell? ⟨h2, 0, none⟩ = some (.int .i64 x)) (l1 : h1 < w.heap.size) (l2 : h2 < w.heap.size) :
    Calls Try.prog 79 #[.int .i64 i, .pointer (some ⟨h1, 0, none⟩), .pointer (some ⟨h2, 0, none⟩)] w fun e w' => e = .returned (.bool (pB x (ts.getD i default))) ∧ Below w.heap.size w w' := by
  obtain ⟨H, ⟨_, A', c', hsl, hrow⟩, hh⟩ := hv
  simp only [Value.slice.injEq] at hsl
  obtain ⟨rfl, _, rfl⟩ := hsl
  obtain ⟨g, o, rfl, hg, hc, hcell, _⟩ := hrow.resolve_left (by omega)
  obtain ⟨d0, d1, d2, d3, d4, d5, d6⟩ := Bats.six hcell i hi
  have BA : Hid (BatAt w lo b (.agg (BatW.batArr (ts.getD i default) (H i))) (ts.getD i default)) := ⟨_, rfl, hh i hi⟩
  have OK1 := Seg.hid hok
  obtain ⟨_, ⟨_, A3, c3, hK3, _⟩, _⟩ := hh i hi
  rw [hK3] at d6 BA
  have HP : Hid (pB x (ts.getD i default) = decide (x < (ts.getD i default).base + (ts.getD i default).recs.length)) := rfl
  clear hcell hh hrow hok hK3
  have q0 : (0 : Int) ≤ (i : Int) := by omega
  have q1 : (i : Int) < (ts.length : Int) := by omega
  generalize ts.getD i default = t at *
  go_enter Try.func79, Try.ntmps79
  go_wp2_with fail
  go_region_with (go_at_call 54; refine (LgI.behind_any _ t w.drew lo b BA.out OK1.out).mono ?_; rintro e w1 ⟨rfl, b1⟩; have B1 : Hid (Below w.heap.size w w1) := ⟨b1.os, b1.tape, b1.output, b1.size, b1.block⟩; have c2' : w1.cell? ⟨h2, 0, none⟩ = some (.int .i64 x) := (B1.out.cell (p := ⟨h2, 0, none⟩) l2).trans c2; clear b1)
  all_goals
    go_wp2
    go_ret
    exact ⟨by rw [HP.out]; rfl, B1.out⟩

end Go.Proofs.Ytimnihaieifkcaa.SrW
