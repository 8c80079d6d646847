/- What ReadBatch defers; A batch that is none: the faults ahead of its records; ReadBatch of them. -/
import Derived.Defers
import Derived.Recover
import Derived.Deep.RegionHeld3
import Derived.Test.YtdnbcfochlfopaaJH22
import Derived.Test.YtdnbcfochlfopaaJH23
namespace Go.Proofs.Ytdnbcfochlfopaa.Rd
set_option maxRecDepth 8000
open Go.RowKit
open RdP
open Recs
set_option linter.unusedVariables false

/-- The four variables that the deferred function holds. -/
structure Vars (w : World) (N : Nat) (x : Int) : Prop where
  at_ : w.heap[N]? = some (.cells #[.int .i64 x] 3 (0, 0))
  bat : ∃ a : Array Value, a.size = 7 ∧ w.heap[N + 1]? = some (.cells a 26 (0, 0))
  nxt : ∃ a, w.heap[N + 1 + 1]? = some (.cells #[.int .i64 a] 3 (0, 0))
  cod : ∃ a, w.heap[N + 1 + 1 + 1]? = some (.cells #[.int .i64 a] 3 (0, 0))

/-- How the deferred function leaves it. -/
structure Left (w w' : World) (N : Nat) (x f : Int) (e : Exit) (a : Act) : Prop where
  ex : e = .normal
  de : a.defers = []
  bat : w'.heap[N + 1]? = some (.cells #[.int .i64 0, .int .i64 0, .int .i64 0, .int .i64 0, .int .i64 0, .int .i64 0, .slice none 0 0] 26 (0, 0))
  nxt : w'.heap[N + 1 + 1]? = some (.cells #[.int .i64 x] 3 (0, 0))
  cod : w'.heap[N + 1 + 1 + 1]? = some (.cells #[.int .i64 f] 3 (0, 0))
  bl : Below N w w'
/-- What the deferred function leaves behind a fault. -/
structure Caught (w w' : World) (N : Nat) (x f : Int) : Prop where
  bat : w'.heap[N + 1]? = some (.cells #[.int .i64 0, .int .i64 0, .int .i64 0, .int .i64 0, .int .i64 0, .int .i64 0, .slice none 0 0] 26 (0, 0))
  nxt : w'.heap[N + 1 + 1]? = some (.cells #[.int .i64 x] 3 (0, 0))
  cod : w'.heap[N + 1 + 1 + 1]? = some (.cells #[.int .i64 f] 3 (0, 0))
  bl : Below N w w'
theorem frame_eq (a b c d v : Value) : #[a, b, c, d] ++ ((Array.replicate 18 undef).setIfInBounds 3 v).setIfInBounds 0 v = #[a, b, c, d, v, undef, undef, v, undef, undef, undef, undef, undef, undef, undef, undef, undef, undef, undef, undef, undef, undef] := by
  apply Array.ext'
  simp [List.replicate]
theorem nil_eq (v : Value) (w : World) : (binOp .eql 20 (.iface 65 v) .nilIface).run Try.prog w = .ok (.bool false) w := by kernel_rfl
theorem nil_nil (w : World) : (binOp .eql 20 .nilIface .nilIface).run Try.prog w = .ok (.bool true) w := by kernel_rfl
theorem is_fault (v : Value) (w : World) : (Instr.typeAssert (.iface 65 v) 20 65 true).run Try.prog w = .ok (.tuple #[v, .bool true]) w := by kernel_rfl
set_option maxHeartbeats 400000 in
theorem catch_fault (N : Nat) (x f : Int) (older : List PanicEntry) (w : World) (hv : Vars w N x) :
    CallsD Try.prog 50 #[.pointer (some ⟨N, 0, none⟩), .pointer (some ⟨N + 1, 0, none⟩), .pointer (some ⟨N + 1 + 1, 0, none⟩), .pointer (some ⟨N + 1 + 1 + 1, 0, none⟩)] (.panicking (flt f :: older)) w fun e u' w' =>
      e = .returned (.tuple #[]) ∧ u' = .panicking ({ flt f with recovered := true } :: older) ∧ Caught w w' N x f := by
  refine callsD_of_wpS Try.func50 rfl fun c₀ cs hu => ?_
  unfold flt at hu
  apply wpS_seq
  apply wpS_region
  simp [wpOpsS, go_sem, recoverD, hu, Try.ntmps50, Exit.thenS]
  refine wpS_of_wp (Code.wp_mono (Q := fun e a' w' => Left w w' N x f e a') ?_ ?_)
  · rintro e a' w' h
    obtain ⟨rfl, hd, h1, h2, h3, h4⟩ := h
    refine ⟨hd, _, rfl, .tuple #[], ?_, rfl, rfl, h1, h2, h3, h4⟩
    simp [results, Try.results50]
  have HV := Seg.hid hv
  clear hu hv
  have hq : ∀ (v : Value) (w : World), (binOp .eql 20 (.iface 65 v) .nilIface).run Try.prog w = .ok (.bool false) w := nil_eq
  have hta := is_fault
  rw [frame_eq]
  go_wp2
  obtain ⟨v1, v2, ⟨a3, v3⟩, ⟨a4, v4⟩⟩ := HV.out
  obtain ⟨ar, har, v2⟩ := v2
  obtain ⟨b0, b1, b2, b3, b4, b5, b6, rfl⟩ := OpenR.array7 har
  have lt4 := (Array.getElem?_eq_some_iff.1 v4).1
  have B1 : Hid (Below N w (w.alloc (.cells #[.int .i64 f] 65 (0, 0)))) := (Below.refl _ _).alloc (by omega) _
  have W1 : Hid ((w.alloc (.cells #[.int .i64 f] 65 (0, 0))).heap[w.heap.size]? = some (.cells #[.int .i64 f] 65 (0, 0))) := heap_alloc_new _ _
  have U1 := (heap_alloc_old w (.cells #[.int .i64 f] 65 (0, 0)) (show N < _ by omega)).trans v1
  have U2 := (heap_alloc_old w (.cells #[.int .i64 f] 65 (0, 0)) (show N + 1 < _ by omega)).trans v2
  have U3 := (heap_alloc_old w (.cells #[.int .i64 f] 65 (0, 0)) (show N + 1 + 1 < _ by omega)).trans v3
  have U4 := (heap_alloc_old w (.cells #[.int .i64 f] 65 (0, 0)) (show N + 1 + 1 + 1 < _ by omega)).trans v4
  obtain ⟨w1, hw1⟩ : ∃ z, w.alloc (.cells #[.int .i64 f] 65 (0, 0)) = z := ⟨_, rfl⟩
  obtain ⟨M, hM⟩ : ∃ z, w.heap.size = z := ⟨_, rfl⟩
  rw [hw1] at B1 W1 U1 U2 U3 U4 ⊢
  rw [hM] at W1 lt4 ⊢
  clear hw1 v1 v2 v3 v4 har hM
  have X1 := Seg.hid U1; have X2 := Seg.hid U2; have X3 := Seg.hid U3; have X4 := Seg.hid U4
  have e1 : w1.cell? ⟨N, 0, none⟩ = some (.int .i64 x) := cell_of_row w1 _ 0 _ _ (0, 0) U1
  have e2 : w1.cell? ⟨M, 0, none⟩ = some (.int .i64 f) := cell_of_row w1 _ 0 _ _ (0, 0) W1.out
  have H5 := Seg.hid (Cells.there_of U2)
  have n1 : ¬ N = N + 1 := by omega
  clear U1 U2 U3 U4
  have g0 : w1.cell? ⟨N + 1, 0, none⟩ = some b0 := cell_of_row w1 _ 0 _ _ (0, 0) X2.out
  have z0 : w1.frozen? ⟨N + 1, 0, none⟩ = false := frozen_of_row w1 _ 0 _ _ X2.out
  have g1 : w1.cell? ⟨N + 1, 1, none⟩ = some b1 := cell_of_row w1 _ 1 _ _ (0, 0) X2.out
  have z1 : w1.frozen? ⟨N + 1, 1, none⟩ = false := frozen_of_row w1 _ 1 _ _ X2.out
  have g2 : w1.cell? ⟨N + 1, 2, none⟩ = some b2 := cell_of_row w1 _ 2 _ _ (0, 0) X2.out
  have z2 : w1.frozen? ⟨N + 1, 2, none⟩ = false := frozen_of_row w1 _ 2 _ _ X2.out
  have g3 : w1.cell? ⟨N + 1, 3, none⟩ = some b3 := cell_of_row w1 _ 3 _ _ (0, 0) X2.out
  have z3 : w1.frozen? ⟨N + 1, 3, none⟩ = false := frozen_of_row w1 _ 3 _ _ X2.out
  have g4 : w1.cell? ⟨N + 1, 4, none⟩ = some b4 := cell_of_row w1 _ 4 _ _ (0, 0) X2.out
  have z4 : w1.frozen? ⟨N + 1, 4, none⟩ = false := frozen_of_row w1 _ 4 _ _ X2.out
  have g5 : w1.cell? ⟨N + 1, 5, none⟩ = some b5 := cell_of_row w1 _ 5 _ _ (0, 0) X2.out
  have z5 : w1.frozen? ⟨N + 1, 5, none⟩ = false := frozen_of_row w1 _ 5 _ _ X2.out
  have g6 : w1.cell? ⟨N + 1, 6, none⟩ = some b6 := cell_of_row w1 _ 6 _ _ (0, 0) X2.out
  have z6 : w1.frozen? ⟨N + 1, 6, none⟩ = false := frozen_of_row w1 _ 6 _ _ X2.out
  have g7 : w1.cell? ⟨N + 1 + 1, 0, none⟩ = some (.int .i64 a3) := cell_of_row w1 _ 0 _ _ (0, 0) X3.out
  have z7 : w1.frozen? ⟨N + 1 + 1, 0, none⟩ = false := frozen_of_row w1 _ 0 _ _ X3.out
  have g8 : w1.cell? ⟨N + 1 + 1 + 1, 0, none⟩ = some (.int .i64 a4) := cell_of_row w1 _ 0 _ _ (0, 0) X4.out
  have z8 : w1.frozen? ⟨N + 1 + 1 + 1, 0, none⟩ = false := frozen_of_row w1 _ 0 _ _ X4.out
  go_region
  obtain ⟨w2, hw2⟩ : ∃ z, w1.setCells (N + 1) 0 (#[.int .i64 0, .int .i64 0, .int .i64 0, .int .i64 0, .int .i64 0, .int .i64 0, .slice none 0 0] : Array Value).toList = z := ⟨_, rfl⟩
  have Y2 : w2.heap[N + 1]? = some (.cells #[.int .i64 0, .int .i64 0, .int .i64 0, .int .i64 0, .int .i64 0, .int .i64 0, .slice none 0 0] 26 (0, 0)) := by rw [← hw2]; exact Cells.whole X2.out rfl
  have Y3 : w2.heap[N + 1 + 1]? = some (.cells #[.int .i64 a3] 3 (0, 0)) := by rw [← hw2]; exact (Cells.heap_setCells_other _ _ (by omega)).trans X3.out
  have Y4 : w2.heap[N + 1 + 1 + 1]? = some (.cells #[.int .i64 a4] 3 (0, 0)) := by rw [← hw2]; exact (Cells.heap_setCells_other _ _ (by omega)).trans X4.out
  have YB : Below N w w2 := by rw [← hw2]; exact Cells.below_setCells (by omega) _ _ _ _ B1.out
  show Left w (((w1.setCells (N + 1) 0 (#[.int .i64 0, .int .i64 0, .int .i64 0, .int .i64 0, .int .i64 0, .int .i64 0, .slice none 0 0] : Array Value).toList).setCell ⟨N + 1 + 1, 0, none⟩ (.int .i64 x)).setCell ⟨N + 1 + 1 + 1, 0, none⟩ (.int .i64 f)).drew N x f _ _
  rw [hw2]
  refine ⟨rfl, rfl, ?_, ?_, ?_, ?_⟩
  · exact (heap_setCell_other _ ⟨N + 1 + 1 + 1, 0, none⟩ (N + 1) _ (by show N + 1 ≠ N + 1 + 1 + 1; omega)).trans ((heap_setCell_other _ ⟨N + 1 + 1, 0, none⟩ (N + 1) _ (by show N + 1 ≠ N + 1 + 1; omega)).trans Y2)
  · exact (heap_setCell_other _ ⟨N + 1 + 1 + 1, 0, none⟩ (N + 1 + 1) _ (by show N + 1 + 1 ≠ N + 1 + 1 + 1; omega)).trans (heap_setCell_same w2 (N + 1 + 1) 0 _ _ (.int .i64 x) Y3)
  · exact heap_setCell_same _ (N + 1 + 1 + 1) 0 _ _ (.int .i64 f) ((heap_setCell_other w2 ⟨N + 1 + 1, 0, none⟩ (N + 1 + 1 + 1) _ (by show N + 1 + 1 + 1 ≠ N + 1 + 1; omega)).trans Y4)
  · exact ((YB.setCell (p := ⟨N + 1 + 1, 0, none⟩) (by show N ≤ N + 1 + 1; omega) _).setCell (p := ⟨N + 1 + 1 + 1, 0, none⟩) (by show N ≤ N + 1 + 1 + 1; omega) _).drew
end Go.Proofs.Ytdnbcfochlfopaa.Rd
namespace Go.Proofs.Ytdnbcfochlfopaa.Rd
set_option maxRecDepth 8000
open Go.RowKit
open RdP
open Recs
set_option linter.unusedVariables false

theorem idle_eq (a b c d v : Value) : #[a, b, c, d] ++ ((Array.replicate 18 undef).setIfInBounds 3 v).setIfInBounds 0 v = #[a, b, c, d, v, undef, undef, v, undef, undef, undef, undef, undef, undef, undef, undef, undef, undef, undef, undef, undef, undef] := frame_eq a b c d v
/-- How the deferred function leaves it when nothing was wrong. -/
structure Idle (w w' : World) (e : Exit) (a : Act) : Prop where
  ex : e = .ret
  de : a.defers = []
  eq : w' = w
set_option maxHeartbeats 400000 in
theorem catch_idle (N : Nat) (w : World) :
    CallsD Try.prog 50 #[.pointer (some ⟨N, 0, none⟩), .pointer (some ⟨N + 1, 0, none⟩), .pointer (some ⟨N + 1 + 1, 0, none⟩), .pointer (some ⟨N + 1 + 1 + 1, 0, none⟩)] .returning w fun e u' w' =>
      e = .returned (.tuple #[]) ∧ u' = .returning ∧ w' = w := by
  refine callsD_of_wpS Try.func50 rfl fun c₀ cs hu => ?_
  apply wpS_seq
  apply wpS_region
  simp [wpOpsS, go_sem, recoverD, hu, Try.ntmps50, Exit.thenS]
  refine wpS_of_wp (Code.wp_mono (Q := fun e a' w' => Idle w w' e a') ?_ ?_)
  · rintro e a' w' h
    obtain ⟨rfl, hd, rfl⟩ := h
    refine ⟨hd, .returning, ?_, .tuple #[], ?_, rfl, rfl, rfl⟩
    · rw [← hu]
    · simp [results, Try.results50]
  clear hu
  have hq := nil_nil
  rw [idle_eq]
  go_wp2
  exact ⟨rfl, rfl, rfl⟩

/-- What stands ahead of the records: the version, the numbers, the body's bytes, and the place behind all. -/
def preE (l : List Int) (x : Int) : Except Int ((Int × Bat × List Int) × Nat) :=
  match verR l x with
  | .error f => .error f
  | .ok (ver, p) =>
  match headR ver l p with
  | none => .error 4
  | some (t, p2) =>
  match bodyE l x.toNat p2 with
  | .error f => .error f
  | .ok (xs, q) => .ok ((ver, t, xs), q)
theorem verR_le {l : List Int} {x ver : Int} {p : Nat} (h : verR l x = .ok (ver, p)) : p ≤ l.length ∧ 0 ≤ x ∧ p = x.toNat + 2 := by
  unfold verR at h
  split at h
  · cases h
  · split at h
    · cases h
    · split at h
      · cases h
      · split at h
        · cases h
        · simp only [Except.ok.injEq, Prod.mk.injEq] at h
          omega
theorem headR_le {ver : Int} {l : List Int} {p q : Nat} {t : Bat} (h : headR ver l p = some (t, q)) : q ≤ l.length ∧ p < q := by
  unfold headR at h
  rcases h0 : num l p with _ | ⟨b, p1⟩
  · rw [h0] at h; cases h
  rw [h0] at h
  simp only at h
  rcases h1 : num l p1 with _ | ⟨b1, p2⟩
  · rw [h1] at h; cases h
  rw [h1] at h
  simp only at h
  have a0 := num_lt h0; have a1 := num_lt h1
  split at h
  · rcases h2 : num l p2 with _ | ⟨b2, p3⟩
    · rw [h2] at h; cases h
    rw [h2] at h
    simp only at h
    rcases h3 : num l p3 with _ | ⟨b3, p4⟩
    · rw [h3] at h; cases h
    rw [h3] at h
    simp only at h
    rcases h4 : num l p4 with _ | ⟨b4, p5⟩
    · rw [h4] at h; cases h
    rw [h4] at h
    simp only at h
    rcases h5 : num l p5 with _ | ⟨b5, p6⟩
    · rw [h5] at h; cases h
    rw [h5] at h
    simp only [Option.some.injEq, Prod.mk.injEq] at h
    have a2 := num_lt h2; have a3 := num_lt h3; have a4 := num_lt h4; have a5 := num_lt h5; have := num_le h5
    omega
  · rcases h2 : num l p2 with _ | ⟨b2, p3⟩
    · rw [h2] at h; cases h
    rw [h2] at h
    simp only [Option.some.injEq, Prod.mk.injEq] at h
    have a2 := num_lt h2; have := num_le h2
    omega

set_option maxHeartbeats 1600000 in
theorem batch_err (G : Nat) (v : Value) (l : List Int) (x f : Int) (w : World) (hr : RdrI w G v x) (hd : Dat w G v l) (hf : preE l x = .error f) :
    Calls Try.prog 51 #[.pointer (some ⟨G, 0, none⟩)] w fun e w' => e = .panicked [flt f] ∧ w.grownBy w' (some G) := by
  have HD := Seg.hid hd
  have hG : G < w.heap.size := (Array.getElem?_eq_some_iff.1 hr).1
  have c1 : w.cell? ⟨G, 1, none⟩ = some (.int .i64 x) := cell_of_row w G 1 _ _ (0, 0) hr
  have G0 : Hid (∀ o : Obj, w.grownBy (w.alloc o) (some G)) := fun o => World.grownBy_alloc _ _ _
  have R0 : Hid (∀ o : Obj, RdrI (w.alloc o) G v x) := fun o => (heap_alloc_old w o hG).trans hr
  have HF := Seg.hid hf
  clear hr hd hf
  go_enter Try.func51, Try.ntmps51
  go_wp2_with fail
  refine (version_any G v l x (w.alloc _) (R0.out _) (HD.out.keep (G0.out _))).mono ?_
  rintro e w1 S
  rcases hv : verR l x with f1 | ⟨ver, p⟩
  · have h := HF.out
    rw [preE, hv] at h
    obtain rfl : f1 = f := by simpa using h
    obtain rfl := S.no _ hv
    exact ⟨rfl, rfl, (G0.out _).trans S.gr⟩
  obtain ⟨⟨u, rfl, rfl⟩, hR1⟩ := S.yes ver p hv
  have R1 := Seg.hid hR1; have G1 := Seg.hid ((G0.out _).trans S.gr); have D1 := Seg.hid (HD.out.keep G1.out)
  obtain ⟨hp, hx0, hpx⟩ := verR_le hv
  obtain ⟨a, rfl⟩ := Int.eq_ofNat_of_zero_le hx0
  have HV := Seg.hid hv
  have hap : a < p := by omega
  clear S hR1 hv hx0 hpx c1
  go_wp2_with fail
  refine (head_any G v l p ver w1 R1.out D1.out hp).mono ?_
  rintro e w2 S
  rcases hh : headR ver l p with _ | ⟨t, p2⟩
  · have h := HF.out
    rw [preE, HV.out] at h
    simp only [hh] at h
    obtain rfl : (4 : Int) = f := by simpa using h
    obtain rfl := S.no hh
    exact ⟨rfl, rfl, G1.out.trans S.gr⟩
  obtain ⟨⟨u2, rfl, rfl⟩, hR2⟩ := S.yes t p2 hh
  have R2 := Seg.hid hR2; have G2 := Seg.hid (G1.out.trans S.gr)
  obtain ⟨hp2, hpp⟩ := headR_le hh
  have HH := Seg.hid hh
  clear S hR2 hh
  have G3 : Hid (∀ o : Obj, w.grownBy (w2.alloc o) (some G)) := fun o => G2.out.trans (World.grownBy_alloc _ _ _)
  have R3 : Hid (∀ o : Obj, Rdr (w2.alloc o) G v p2) := fun o => (heap_alloc_old w2 o (rd_lt R2.out)).trans R2.out
  unfold batVal
  go_wp2_with fail
  refine (body_any G v l a p2 (w2.alloc _) (R3.out _) (HD.out.keep (G3.out _)) hp2 (by omega)).mono ?_
  rintro e w4 S
  have h := HF.out
  rw [preE, HV.out] at h
  simp only [HH.out, Int.toNat_natCast] at h
  rcases hb : bodyE l a p2 with f4 | ⟨xs, q⟩
  · rw [hb] at h
    obtain rfl : f4 = f := by simpa using h
    obtain rfl := S.no _ hb
    exact ⟨rfl, rfl, (G3.out _).trans S.gr⟩
  · rw [hb] at h
    cases h

theorem five (w : World) (o1 o2 o3 o4 o5 : Obj) (x : Int) (v : Value) (z1 z2 : Int) (ar : Array Value) (h1 : o1 = .cells #[.int .i64 x] 3 (0, 0)) (h2 : o2 = .cells ar 26 (0, 0)) (h2' : ar.size = 7) (h3 : o3 = .cells #[.int .i64 z1] 3 (0, 0)) (h4 : o4 = .cells #[.int .i64 z2] 3 (0, 0)) (h5 : o5 = .cells #[v, .int .i64 x] 68 (0, 0)) :
    Vars (((((w.alloc o1).alloc o2).alloc o3).alloc o4).alloc o5) w.heap.size x ∧ RdrI (((((w.alloc o1).alloc o2).alloc o3).alloc o4).alloc o5) (w.heap.size + 1 + 1 + 1 + 1) v x := by
  have s1 := hsz w o1
  have s2 := (hsz (w.alloc o1) o2).trans (by rw [s1])
  have s3 := (hsz ((w.alloc o1).alloc o2) o3).trans (by rw [s2])
  have s4 := (hsz (((w.alloc o1).alloc o2).alloc o3) o4).trans (by rw [s3])
  have a1 : (w.alloc o1).heap[w.heap.size]? = some o1 := heap_alloc_new w o1
  have a2 : ((w.alloc o1).alloc o2).heap[w.heap.size + 1]? = some o2 := by rw [← s1]; exact heap_alloc_new _ o2
  have a3 : (((w.alloc o1).alloc o2).alloc o3).heap[w.heap.size + 1 + 1]? = some o3 := by rw [← s2]; exact heap_alloc_new _ o3
  have a4 : ((((w.alloc o1).alloc o2).alloc o3).alloc o4).heap[w.heap.size + 1 + 1 + 1]? = some o4 := by rw [← s3]; exact heap_alloc_new _ o4
  have a5 : (((((w.alloc o1).alloc o2).alloc o3).alloc o4).alloc o5).heap[w.heap.size + 1 + 1 + 1 + 1]? = some o5 := by rw [← s4]; exact heap_alloc_new _ o5
  have up : ∀ (W : World) (o p : Obj) (k : Nat), W.heap[k]? = some p → (W.alloc o).heap[k]? = some p := fun W o p k h => (heap_alloc_old W o (Array.getElem?_eq_some_iff.1 h).1).trans h
  subst h1 h2 h3 h4 h5
  exact ⟨⟨up _ _ _ _ (up _ _ _ _ (up _ _ _ _ (up _ _ _ _ a1))), ⟨ar, h2', up _ _ _ _ (up _ _ _ _ (up _ _ _ _ a2))⟩, ⟨z1, up _ _ _ _ (up _ _ _ _ a3)⟩, ⟨z2, up _ _ _ _ a4⟩⟩, a5⟩
set_option maxHeartbeats 1600000 in
theorem read_err (v : Value) (l : List Int) (x f : Int) (w : World) (hs : Seg.Seg w v l) (hb : Seg.Byt l) (hin : l.length = 0 ∨ ∀ g, v.ownBlock = some g → g < w.heap.size) (hf : preE l x = .error f) :
    Calls Try.prog 14 #[v, .int .i64 x] w fun e w' => e = .returned (.tuple #[.agg #[.int .i64 0, .int .i64 0, .int .i64 0, .int .i64 0, .int .i64 0, .int .i64 0, .slice none 0 0], .int .i64 x, .int .i64 f]) ∧ Below w.heap.size w w' := by
  have hmf : ∀ (fn : Fn) (first cap : Array Value) (w : World), (Instr.makeFunc fn first cap).run Try.prog w = .ok (.func fn first cap) w := fun _ _ _ _ => rfl
  have HS := Seg.hid hs; have HB := Seg.hid hb; have HI := Seg.hid hin; have HF := Seg.hid hf
  have fm : ∃ A c, v = .slice A l.length c := by
    rcases hs.2 with ⟨A, c, rfl, rfl⟩ | ⟨g, o, cap, rfl, _⟩
    · exact ⟨A, c, rfl⟩
    · exact ⟨_, _, rfl⟩
  obtain ⟨A, c, rfl⟩ := fm
  clear hs hb hin hf
  go_enter_defers Try.func14, Try.ntmps14
  go_wp2_with fail
  obtain ⟨w5, hw5⟩ : ∃ z, ((((w.alloc (.cells #[.int .i64 x] 3 (0, 0))).alloc (.cells #[.int .i64 0, .int .i64 0, .int .i64 0, .int .i64 0, .int .i64 0, .int .i64 0, .slice none 0 0] 26 (0, 0))).alloc (.cells #[.int .i64 0] 3 (0, 0))).alloc (.cells #[.int .i64 0] 3 (0, 0))).alloc (.cells #[.slice A l.length c, .int .i64 x] 68 (0, 0)) = z := ⟨_, rfl⟩
  have B5 : Hid (Below w.heap.size w w5) := by
    rw [← hw5]
    exact ((below3 w _ _ _).alloc (by rw [hsz, hsz, hsz]; omega) _).alloc (by rw [hsz, hsz, hsz, hsz]; omega) _
  have V5 : Hid (Vars w5 w.heap.size x ∧ RdrI w5 (w.heap.size + 1 + 1 + 1 + 1) (.slice A l.length c) x) := by
    rw [← hw5]
    exact five w _ _ _ _ _ _ _ _ _ _ rfl rfl rfl rfl rfl rfl
  rw [hw5]
  clear hw5
  have D5 : Hid (Dat w5 (w.heap.size + 1 + 1 + 1 + 1) (.slice A l.length c) l) := by
    refine ⟨?_, HB.out, HI.out.imp id fun h g hg => ⟨Nat.lt_of_lt_of_le (h g hg) B5.out.size, by have := h g hg; omega⟩⟩
    rcases HI.out with hz | hlt
    · obtain rfl : l = [] := List.length_eq_zero_iff.1 hz
      exact ⟨by simp, .inl ⟨A, c, rfl, rfl⟩⟩
    · exact HS.out.below B5.out hlt
  refine (batch_err (w.heap.size + 1 + 1 + 1 + 1) _ l x f w5 V5.out.2 D5.out HF.out).mono ?_
  rintro e w6 ⟨rfl, gr⟩
  have V6 : Hid (Vars w6 w.heap.size x) := by
    obtain ⟨h1, ⟨ar, h2, h3⟩, ⟨a4, h4⟩, ⟨a5, h5⟩⟩ := V5.out.1
    exact ⟨PuT.kept h1 gr (by omega), ⟨ar, h2, PuT.kept h3 gr (by omega)⟩, ⟨a4, PuT.kept h4 gr (by omega)⟩, ⟨a5, PuT.kept h5 gr (by omega)⟩⟩
  have B6 : Hid (Below w.heap.size w w6) := B5.out.grown gr B5.out.size (fun k hk => by cases hk; omega)
  clear gr
  refine leaves_cons (f := 50) (args := #[.pointer (some ⟨w.heap.size, 0, none⟩), .pointer (some ⟨w.heap.size + 1, 0, none⟩), .pointer (some ⟨w.heap.size + 1 + 1, 0, none⟩), .pointer (some ⟨w.heap.size + 1 + 1 + 1, 0, none⟩)]) (by simp) (by simp [go_sem]) ?_
  refine (catch_fault w.heap.size x f [] w6 V6.out).mono ?_
  rintro e u' w7 ⟨rfl, rfl, C⟩
  have B7 := Seg.hid (B6.out.trans C.bl)
  obtain ⟨k0, k1, k2, k3, k4, k5, k6⟩ := BOk.seven (t := ⟨0, 0, 0, 0, 0, 0, []⟩) C.bat
  have k7 : w7.cell? ⟨w.heap.size + 1 + 1, 0, none⟩ = some (.int .i64 x) := cell_of_row w7 _ 0 _ _ (0, 0) C.nxt
  have k8 : w7.cell? ⟨w.heap.size + 1 + 1 + 1, 0, none⟩ = some (.int .i64 f) := cell_of_row w7 _ 0 _ _ (0, 0) C.cod
  clear C
  simp [Leaves, settle, results, Try.results14, go_sem, k0, k1, k2, k3, k4, k5, k6, k7, k8]
  exact B7.out
end Go.Proofs.Ytdnbcfochlfopaa.Rd
