/- Part: how it lies in memory; what the law's measure and copier answer. -/
import Derived.Test.YtafgakddhoabjaaTRpls
import Derived.Test.YtafgakddhoabjaaLsI
namespace Go.Proofs.Ytafgakddhoabjaa.Ls
set_option maxRecDepth 8000
open Go.RowKit
open Recs
open SegW (Sg)
open LogW (Lg)
set_option linter.unusedVariables false
structure Prt where
  reps : List Rpl
  leader : Int
  epoch : Int
  insync : List Int
  known : List Int
  least : Int
  deriving Inhabited
def EPrt : Elt Prt := fun w S f u => LAt 6 ERpl w S (f 0) u.reps ∧ f 1 = .int .i64 u.leader ∧ f 2 = .int .i64 u.epoch ∧ IntsAt w S (f 3) u.insync ∧ IntsAt w S (f 4) u.known ∧ f 5 = .int .i64 u.least
theorem keepsPrt : Keeps 6 EPrt := fun w w' S f f' t h hk hf => by
  obtain ⟨h0, h1, h2, h3, h4, h5⟩ := h
  exact ⟨by rw [hf 0 (by omega)]; exact h0.keep keepsRpl hk, by rw [hf 1 (by omega)]; exact h1, by rw [hf 2 (by omega)]; exact h2, by rw [hf 3 (by omega)]; exact h3.keep keepsI hk, by rw [hf 4 (by omega)]; exact h4.keep keepsI hk, by rw [hf 5 (by omega)]; exact h5⟩
theorem growsPrt : Grows EPrt := fun w S S' f t h hs => by
  obtain ⟨h0, h1, h2, h3, h4, h5⟩ := h
  exact ⟨h0.mono growsRpl hs, h1, h2, h3.mono growsI hs, h4.mono growsI hs, h5⟩
def arrPrt (f : Nat → Value) : Array Value := #[f 0, f 1, f 2, f 3, f 4, f 5]
theorem onePrt {w : World} {S : Nat → Prop} {f : Nat → Value} {u : Prt} (h : EPrt w S f u) : (arrPrt f).all (·.oneCell') = true := by
  obtain ⟨h0, h1, h2, h3, h4, h5⟩ := h
  have o0 : (f 0).oneCell' = true := h0.one
  have o1 : (f 1).oneCell' = true := by rw [h1]; rfl
  have o2 : (f 2).oneCell' = true := by rw [h2]; rfl
  have o3 : (f 3).oneCell' = true := h3.one
  have o4 : (f 4).oneCell' = true := h4.one
  have o5 : (f 5).oneCell' = true := by rw [h5]; rfl
  simp [arrPrt, o0, o1, o2, o3, o4, o5]
def PrtAt (w : World) (S : Nat → Prop) (v : Value) (u : Prt) : Prop := ∃ f, v = .agg (arrPrt f) ∧ EPrt w S f u
abbrev PrtsAt := LAt 6 EPrt
theorem PrtAt.keep {w w' : World} {S : Nat → Prop} {v : Value} {u : Prt} (h : PrtAt w S v u) (hk : ∀ g, S g → w'.heap[g]? = w.heap[g]?) : PrtAt w' S v u := by
  obtain ⟨f, h1, h2⟩ := h
  exact ⟨f, h1, keepsPrt _ _ _ _ _ _ h2 hk (fun _ _ => rfl)⟩
theorem PrtAt.mono {w : World} {S S' : Nat → Prop} {v : Value} {u : Prt} (h : PrtAt w S v u) (hs : ∀ g, S g → S' g) : PrtAt w S' v u := by
  obtain ⟨f, h1, h2⟩ := h
  exact ⟨f, h1, growsPrt _ _ _ _ _ h2 hs⟩
theorem PrtAt.below {w w' : World} {B : Nat} {S : Nat → Prop} {v : Value} {u : Prt} (h : PrtAt w S v u) (hb : Below B w w') (hs : ∀ g, S g → g < B) : PrtAt w' S v u := h.keep fun g hg => hb.block g (hs g hg)
def szPrt (u : Prt) : Nat := szL szRpl (u.reps) + (u.insync).length + (u.known).length
def FinePrt (u : Prt) : Prop := FineL FineRpl u.reps ∧ I64 u.leader ∧ I64 u.epoch ∧ FineL I64 u.insync ∧ FineL I64 u.known ∧ I64 u.least
theorem infoPrt : (Try.prog.info? 25).map (·.size) = some 6 := by kernel_rfl
theorem infoZPrt : (Try.prog.info? 25).map (fun i => (i.zero, i.size, i.bytes)) = some (some (.agg #[.slice none 0 0, .int .i64 0, .int .i64 0, .slice none 0 0, .slice none 0 0, .int .i64 0]), 6, 96) := by kernel_rfl
set_option maxHeartbeats 1600000 in
theorem eqPart_any (v v' : Value) (u : Prt) (w : World) (S S' : Nat → Prop) (hv : PrtAt w S v u) (hv' : PrtAt w S' v' u) (hS : ∀ g, S g → g < w.heap.size) (hS' : ∀ g, S' g → g < w.heap.size) :
    Calls Try.prog 6 #[v, v'] w fun e w' => e = .returned (.bool true) ∧ Below w.heap.size w w' := by
  obtain ⟨f, rfl, y0, y1, y2, y3, y4, y5⟩ := hv
  obtain ⟨f', rfl, y0', y1', y2', y3', y4', y5'⟩ := hv'
  try simp only [arrPrt]
  obtain ⟨A0, c0, g0⟩ := y0.form
  rw [g0] at y0 ⊢
  have H0 := Seg.hid y0
  clear y0 g0
  rw [show f 1 = _ from y1]
  clear y1
  rw [show f 2 = _ from y2]
  clear y2
  obtain ⟨A3, c3, g3⟩ := y3.form
  rw [g3] at y3 ⊢
  have H3 := Seg.hid y3
  clear y3 g3
  obtain ⟨A4, c4, g4⟩ := y4.form
  rw [g4] at y4 ⊢
  have H4 := Seg.hid y4
  clear y4 g4
  rw [show f 5 = _ from y5]
  clear y5
  try simp only [arrPrt]
  obtain ⟨A0', c0', g0'⟩ := y0'.form
  rw [g0'] at y0' ⊢
  have H0' := Seg.hid y0'
  clear y0' g0'
  rw [show f' 1 = _ from y1']
  clear y1'
  rw [show f' 2 = _ from y2']
  clear y2'
  obtain ⟨A3', c3', g3'⟩ := y3'.form
  rw [g3'] at y3' ⊢
  have H3' := Seg.hid y3'
  clear y3' g3'
  obtain ⟨A4', c4', g4'⟩ := y4'.form
  rw [g4'] at y4' ⊢
  have H4' := Seg.hid y4'
  clear y4' g4'
  rw [show f' 5 = _ from y5']
  clear y5'
  go_enter Try.func6, Try.ntmps6
  go_wp2_with fail
  refine (eqReplicaS_any _ _ u.reps ((w.alloc _).alloc _) S S' (H0.out.below keepsRpl (below2 w _ _) hS) (H0'.out.below keepsRpl (below2 w _ _) hS') (fun g hg => by rw [hsz, hsz]; have := hS g hg; omega) (fun g hg => by rw [hsz, hsz]; have := hS' g hg; omega)).mono ?_
  rintro e w1 ⟨rfl, b1⟩
  have B1 := Seg.hid (chain (below2 w _ _) b1)
  have Ta1 : Hid (w1.heap[w.heap.size]? = some (.cells #[.slice A0 u.reps.length c0, .int .i64 u.leader, .int .i64 u.epoch, .slice A3 u.insync.length c3, .slice A4 u.known.length c4, .int .i64 u.least] 25 (0, 0))) := (b1.block w.heap.size (by rw [hsz, hsz]; omega)).trans (at2z w _ _)
  have Tb1 : Hid (w1.heap[w.heap.size + 1]? = some (.cells #[.slice A0' u.reps.length c0', .int .i64 u.leader, .int .i64 u.epoch, .slice A3' u.insync.length c3', .slice A4' u.known.length c4', .int .i64 u.least] 25 (0, 0))) := (b1.block (w.heap.size + 1) (by rw [hsz, hsz]; omega)).trans (at2y w _ _)
  have s1 : w.heap.size + 1 < w1.heap.size := (Array.getElem?_eq_some_iff.1 Tb1.out).1
  have pa11 : w1.cell? ⟨w.heap.size, 1, none⟩ = some (.int .i64 u.leader) := cell_of_row w1 _ 1 _ _ (0, 0) Ta1.out
  have pb11 : w1.cell? ⟨w.heap.size + 1, 1, none⟩ = some (.int .i64 u.leader) := cell_of_row w1 _ 1 _ _ (0, 0) Tb1.out
  have pa12 : w1.cell? ⟨w.heap.size, 2, none⟩ = some (.int .i64 u.epoch) := cell_of_row w1 _ 2 _ _ (0, 0) Ta1.out
  have pb12 : w1.cell? ⟨w.heap.size + 1, 2, none⟩ = some (.int .i64 u.epoch) := cell_of_row w1 _ 2 _ _ (0, 0) Tb1.out
  have pa13 : w1.cell? ⟨w.heap.size, 3, none⟩ = some (.slice A3 u.insync.length c3) := cell_of_row w1 _ 3 _ _ (0, 0) Ta1.out
  have pb13 : w1.cell? ⟨w.heap.size + 1, 3, none⟩ = some (.slice A3' u.insync.length c3') := cell_of_row w1 _ 3 _ _ (0, 0) Tb1.out
  clear b1
  go_wp2_with fail
  refine (eqIntS_any _ _ u.insync w1 S S' (H3.out.below keepsI B1.out hS) (H3'.out.below keepsI B1.out hS') (fun g hg => Nat.lt_of_lt_of_le (hS g hg) B1.out.size) (fun g hg => Nat.lt_of_lt_of_le (hS' g hg) B1.out.size)).mono ?_
  rintro e w2 ⟨rfl, b2⟩
  have B2 := Seg.hid (chain B1.out b2)
  have Ta2 : Hid (w2.heap[w.heap.size]? = some (.cells #[.slice A0 u.reps.length c0, .int .i64 u.leader, .int .i64 u.epoch, .slice A3 u.insync.length c3, .slice A4 u.known.length c4, .int .i64 u.least] 25 (0, 0))) := (b2.block w.heap.size (by omega)).trans Ta1.out
  have Tb2 : Hid (w2.heap[w.heap.size + 1]? = some (.cells #[.slice A0' u.reps.length c0', .int .i64 u.leader, .int .i64 u.epoch, .slice A3' u.insync.length c3', .slice A4' u.known.length c4', .int .i64 u.least] 25 (0, 0))) := (b2.block (w.heap.size + 1) (by omega)).trans Tb1.out
  have s2 : w.heap.size + 1 < w2.heap.size := (Array.getElem?_eq_some_iff.1 Tb2.out).1
  have pa24 : w2.cell? ⟨w.heap.size, 4, none⟩ = some (.slice A4 u.known.length c4) := cell_of_row w2 _ 4 _ _ (0, 0) Ta2.out
  have pb24 : w2.cell? ⟨w.heap.size + 1, 4, none⟩ = some (.slice A4' u.known.length c4') := cell_of_row w2 _ 4 _ _ (0, 0) Tb2.out
  clear b2
  go_wp2_with fail
  refine (eqIntS_any _ _ u.known w2 S S' (H4.out.below keepsI B2.out hS) (H4'.out.below keepsI B2.out hS') (fun g hg => Nat.lt_of_lt_of_le (hS g hg) B2.out.size) (fun g hg => Nat.lt_of_lt_of_le (hS' g hg) B2.out.size)).mono ?_
  rintro e w3 ⟨rfl, b3⟩
  have B3 := Seg.hid (chain B2.out b3)
  have Ta3 : Hid (w3.heap[w.heap.size]? = some (.cells #[.slice A0 u.reps.length c0, .int .i64 u.leader, .int .i64 u.epoch, .slice A3 u.insync.length c3, .slice A4 u.known.length c4, .int .i64 u.least] 25 (0, 0))) := (b3.block w.heap.size (by omega)).trans Ta2.out
  have Tb3 : Hid (w3.heap[w.heap.size + 1]? = some (.cells #[.slice A0' u.reps.length c0', .int .i64 u.leader, .int .i64 u.epoch, .slice A3' u.insync.length c3', .slice A4' u.known.length c4', .int .i64 u.least] 25 (0, 0))) := (b3.block (w.heap.size + 1) (by omega)).trans Tb2.out
  have s3 : w.heap.size + 1 < w3.heap.size := (Array.getElem?_eq_some_iff.1 Tb3.out).1
  have pa35 : w3.cell? ⟨w.heap.size, 5, none⟩ = some (.int .i64 u.least) := cell_of_row w3 _ 5 _ _ (0, 0) Ta3.out
  have pb35 : w3.cell? ⟨w.heap.size + 1, 5, none⟩ = some (.int .i64 u.least) := cell_of_row w3 _ 5 _ _ (0, 0) Tb3.out
  clear b3
  go_wp2
  go_ret
  exact ⟨rfl, B3.out⟩
end Go.Proofs.Ytafgakddhoabjaa.Ls
