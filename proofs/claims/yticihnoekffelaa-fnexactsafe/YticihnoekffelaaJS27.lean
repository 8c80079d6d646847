/- The end of an Epoch, on plain data; The program's lastEpoch; A right Part, on plain data; what stands while the program checks a replica. -/
import Derived.Scope
import Derived.Test.YticihnoekffelaaJS11
import Derived.Test.YticihnoekffelaaJS18
import Derived.Test.YticihnoekffelaaJS23
import Derived.Test.YticihnoekffelaaJS24
import Derived.Test.YticihnoekffelaaJS25
import Derived.Test.YticihnoekffelaaJS26
namespace Go.Proofs.Yticihnoekffelaa.EoP
set_option maxRecDepth 8000
open Recs SegW LogW SrP BfP
set_option linter.unusedVariables false
def endB (x : Int) : Int → Int → List Bat → Int × Int
  | f, n, [] => (f, n)
  | f, n, b :: t => if x < b.epoch then (f, b.base) else endB x b.epoch n t
def told (start : Int) (r : Int × Int) : Int × Int := if r.1 < 0 then (0, start) else r
def endF (l : Lg) (x : Int) : Int × Int := told l.start (endB x (-1) l.next (flatB l.segs))
def endOf (l : Lg) (x : Int) : Int × Int := if LgP.logOk l = true then endF l x else (0, 0)
/-- The Epoch of the last batch, f where there is none. -/
def lastE : Int → List Bat → Int
  | f, [] => f
  | f, b :: t => lastE b.epoch t
def sm (bs : List Bat) : Bool := decide (0 < bs.length)
theorem endB_app {x n : Int} : ∀ {a r : List Bat} {f : Int}, (∀ y ∈ a, ¬ x < y.epoch) → endB x f n (a ++ r) = endB x (lastE f a) n r
  | [], r, f, _ => rfl
  | y :: t, r, f, h => by
    show (if x < y.epoch then (f, y.base) else endB x y.epoch n (t ++ r)) = _
    rw [if_neg (h y (by simp)), endB_app (a := t) (fun z hz => h z (by simp [hz]))]
    rfl
theorem endB_stop {x n f : Int} {a r : List Bat} {y : Bat} (h : ∀ z ∈ a, ¬ x < z.epoch) (hy : x < y.epoch) : endB x f n (a ++ y :: r) = (lastE f a, y.base) := by
  rw [endB_app h]
  show (if x < y.epoch then (_, y.base) else _) = _
  rw [if_pos hy]
theorem endB_all {x n f : Int} {a : List Bat} (h : ∀ z ∈ a, ¬ x < z.epoch) : endB x f n a = (lastE f a, n) := by
  have := endB_app (x := x) (n := n) (r := []) (f := f) h
  rw [List.append_nil] at this
  rw [this]
  rfl
theorem lastE_app : ∀ {a : List Bat} {f : Int} {y : Bat}, lastE f (a ++ [y]) = y.epoch
  | [], f, y => rfl
  | z :: t, f, y => lastE_app (a := t)
theorem sm_app {a : List Bat} {y : Bat} : sm (a ++ [y]) = true := by simp [sm]
theorem epoch0 {b : Bat} (h : BOk.batOk b = true) : 0 ≤ b.epoch := by
  simp only [BOk.batOk, BOk.okB1, BOk.okB3, BOk.inR, Bool.and_eq_true, decide_eq_true_eq] at h
  omega
theorem lastE_some : ∀ {a : List Bat} {f g : Int}, 0 < a.length → lastE f a = lastE g a
  | [], _, _, h => by simp at h
  | z :: t, f, g, _ => rfl
theorem lastE_pos : ∀ {a : List Bat} {f : Int}, 0 ≤ f → (∀ y ∈ a, 0 ≤ y.epoch) → 0 ≤ lastE f a
  | [], f, h, _ => h
  | z :: t, f, h, hk => lastE_pos (a := t) (hk z (by simp)) (fun y hy => hk y (by simp [hy]))
theorem told_of {start e : Int} {a : List Bat} (h : ∀ y ∈ a, 0 ≤ y.epoch) : told start (lastE (-1) a, e) = if sm a = true then (lastE 0 a, e) else (0, start) := by
  by_cases ha : 0 < a.length
  · have := lastE_pos (a := a) (Int.le_refl 0) h
    rw [lastE_some (g := 0) ha, told, if_neg (by omega), if_pos (by simp [sm, ha])]
  · have : a = [] := by cases a with | nil => rfl | cons z t => simp at ha
    subst this
    rfl
theorem from_zero : ∀ {bs : List Bat}, (∀ b ∈ bs, BOk.batOk b = true) → fromB 0 bs = bs
  | [], _ => rfl
  | b :: t, h => by
    have hb := LgP.okLen (h b (by simp))
    unfold fromB
    rw [List.filter_cons_of_pos (by unfold pB bEnd; simp only [decide_eq_true_eq]; omega)]
    exact congrArg _ (from_zero (fun y hy => h y (by simp [hy])))
end Go.Proofs.Yticihnoekffelaa.EoP
namespace Go.Proofs.Yticihnoekffelaa.Eo
set_option maxRecDepth 8000
open Go.RowKit Go.Shelf
open Recs
open Bats SegW Segs LogW BfP EoP BfI
open LgP (logOk)
open Of (okB_flat batchesFrom_any keeps_of_below kp_of_below block_own)
set_option linter.unusedVariables false
attribute [local go_sem] Oper.semAt_some
/-- Between two rounds. -/
structure LI (w2 : World) (a : Nat) {w0 : World} {lo b : Nat} (pre : List (It w0 lo b)) (W : World) : Prop where
  f : W.heap[a]? = some (.cells #[.int .i64 (lastE 0 (pre.map bt))] 3 (0, 0))
  kp : ∀ y, y < w2.heap.size → y ≠ a → W.heap[y]? = w2.heap[y]?
  os : W.os = w2.os ∧ W.tape = w2.tape ∧ W.output = w2.output
  size : w2.heap.size ≤ W.heap.size
theorem LI.own {w2 : World} {a : Nat} {w0 : World} {lo b : Nat} {pre : List (It w0 lo b)} {W W' : World} {row : Option Nat} (ha : a < w2.heap.size) (h : LI w2 a pre W) (hg : W.grownBy W' row) (hr : ∀ r, row = some r → w2.heap.size ≤ r ∧ ∃ o : Obj, W.heap[r]? = some o ∧ o.isCells = false) : LI w2 a pre W' := by
  have k : ∀ y, y < w2.heap.size → W'.heap[y]? = W.heap[y]? := fun y hy => hg.block y (by have := h.size; omega) (fun e => by have := (hr y e.symm).1; omega)
  exact ⟨(k _ ha).trans h.f, fun y h1 h2 => (k y h1).trans (h.kp y h1 h2), ⟨hg.os.trans h.os.1, hg.tape.trans h.os.2.1, hg.output.trans h.os.2.2⟩, Nat.le_trans h.size hg.size⟩
set_option maxHeartbeats 3200000 in
theorem lastEpoch_core (ss : List Sg) (f : Int) (A : Option Addr) (c : Nat) (w : World) (lo b : Nat) (hb : b ≤ w.heap.size) (hl : ss.length ≤ 1048576) (hf : ∀ i, i < ss.length → FewS (ss.getD i default)) (hok : LgP.segs 0 0 ss = some f) (FL : (flatB ss).length ≤ 400) (hs : SegsAt w lo b (.slice A ss.length c) ss) :
    Calls Try.prog 87 #[.slice A ss.length c] w fun e w' => e = .returned (.int .i64 (lastE 0 (flatB ss))) ∧ Below w.heap.size w w' := by
  have HS := Seg.hid hs
  have HF := Seg.hid hf
  have K1 := Seg.hid hok
  clear hs hf hok
  refine (callsIn_wide (n := 5)).1 ?_
  refine callsIn_of_wp_marks Try.func87 rfl trivial ?_ rfl
  simp only [Try.ntmps87, List.size_toArray, List.length_cons, List.length_nil, Nat.reduceAdd, Nat.reduceSub, Array.replicate_succ, Array.replicate_zero, List.push_toArray, List.append_toArray, List.nil_append, List.cons_append]
  gi_wp2
  refine ⟨trivial, ?_⟩
  refine (callsIn_wide.2 (batchesFrom_any _ 0 A ss.length c (w.alloc _) rfl)).mono ?_
  rintro e w2 ⟨rfl, a1, a2, b2, a3⟩
  rw [hsz] at a1 a2 a3
  gi_wp2
  have B2 := Seg.hid (chain (below1 w _) b2)
  have F2 : Hid (w2.heap[w.heap.size]? = some (.cells #[.int .i64 0] 3 (0, 0))) := (b2.block w.heap.size (by rw [hsz]; omega)).trans (heap_alloc_new _ _)
  have hs2 : w.heap.size + 2 < w2.heap.size := by omega
  have HS2 := Seg.hid (HS.out.below (B2.out.mono hb))
  have v6 : w.heap.size < w2.heap.size := by omega
  clear b2
  obtain ⟨V, hVV⟩ : ∃ V : Nat → Prop, ∀ k, V k ↔ k = w.heap.size := ⟨_, fun _ => Iff.rfl⟩
  have HSTOP := stops 4 (by omega) V w2.heap.size 400 (w.heap.size + 1) (w.heap.size + 1 + 1) lo b c A 0 f ss w2 HS2.out (by omega) (Nat.le_refl _) (fun k h => by have := (hVV k).1 h; omega) a1 (by omega) a2 (by omega) hl HF.out K1.out (Nat.le_trans (List.length_filter_le _ _) FL)
  have HVV := Seg.hid hVV
  clear a1 a2 a3 hVV
  have FZ : Hid (fromB 0 (flatB ss) = flatB ss) := from_zero (okB_flat K1.out)
  rw [FZ.out] at HSTOP
  refine wpIn_rangeFunc_ownH rfl (by omega) (gf := 71) (lb := #[.pointer (some ⟨w.heap.size + 1, 0, none⟩), .pointer (some ⟨w.heap.size + 1 + 1, 0, none⟩)]) rfl trivial (enters_of Try.func71 (by kernel_rfl) rfl)
    HSTOP kp_t (kp_b (Nat.le_refl _)) (Below.refl _ _) (fun _ => rfl)
    (fun pre W => LI w2 w.heap.size pre W)
    (fun c' pre W => False)
    (fun s A B row hs hg hr => LI.own v6 hs hg hr)
    (fun c' s A B row hs hg hr => hs)
    ⟨F2.out, fun _ _ _ => rfl, ⟨rfl, rfl, rfl⟩, Nat.le_refl _⟩
    (fun p a' W => ∃ Bx, w2.heap.size ≤ Bx ∧ W.heap[Bx]? = some (.cells (BatW.batArr p.1.1 p.1.2) 58 (0, 0)) ∧ a' = { tmps := #[.slice A ss.length c, undef, .int .i64 0, .pointer (some ⟨w.heap.size, 0, none⟩), .pointer (some ⟨Bx, 0, none⟩), .slice A ss.length c, .func (.func 71) #[] #[.pointer (some ⟨w.heap.size + 1, 0, none⟩), .pointer (some ⟨w.heap.size + 1 + 1, 0, none⟩)], batVal p.1.1 p.1.2, undef, undef, undef], defers := [] })
    (fun p a' s W W' row hs hg hr => ⟨hs.choose, hs.choose_spec.1, block_own (β := Unit) w2.heap.size _ _ _ s W W' row hs.choose_spec.2.1 hg hr, hs.choose_spec.2.2⟩) ?assign ?body ?done ?stop
  case assign =>
    rintro l' pre ⟨⟨t, v⟩, hrecs, hfew, hok⟩ W K hi hK
    obtain ⟨_, ⟨_, A6, c6, hv6, _⟩, _⟩ := id hrecs
    have hv7 : v = .slice A6 t.recs.length c6 := hv6
    clear hv6
    subst hv7
    unfold batVal
    gi_wp2
    exact hK _ _ (keeps_of_below (below1 W _)) (kp_of_below (below1 W _)) (LI.own v6 (row := none) hi ⟨(below1 W _).os, (below1 W _).tape, (below1 W _).output, (below1 W _).size, fun k hk _ => (below1 W _).block k hk⟩ (fun r e => by cases e)) ⟨W.heap.size, hi.size, heap_alloc_new _ _, rfl⟩
  case body =>
    rintro l' pre ⟨⟨t, v⟩, hrecs, hfew, hok⟩ a' W hl' ⟨r, hr⟩ hOI ⟨Bx, hBx, hbx, rfl⟩ hlen
    have HI := Seg.hid hOI
    obtain ⟨H, ⟨_, A6, c6, hv6, hrow⟩, hh⟩ := id hrecs
    have hv7 : v = .slice A6 t.recs.length c6 := hv6
    clear hv6 hr
    subst hv7
    have hbx' : W.heap[Bx]? = some (.cells (BatW.batArr t (.slice A6 t.recs.length c6)) 58 (0, 0)) := hbx
    have hsW := hOI.size
    have hBxl : Bx < W.heap.size := (Array.getElem?_eq_some_iff.1 hbx').1
    have e1 : W.cell? ⟨Bx, 1, none⟩ = some (.int .i64 t.epoch) := cell_of_row W Bx 1 _ _ (0, 0) hbx'
    obtain ⟨fv, hfv⟩ : ∃ fv, lastE 0 (pre.map bt) = fv := ⟨_, rfl⟩
    have q6 := hOI.f
    rw [hfv] at q6
    have Q6 := Seg.hid q6
    have f6 : W.cell? ⟨w.heap.size, 0, none⟩ = some (.int .i64 fv) := cell_of_row W w.heap.size 0 _ _ (0, 0) q6
    have g6 := frozen_of_row W w.heap.size 0 _ _ q6
    clear hOI hbx hbx' hrow hh q6 hfv
    have y6 : w.heap.size < W.heap.size := by omega
    gi_wp2
    refine ⟨⟨by simp, fun q o' h1' h2' h3' => ?_⟩, ⟨rfl, rfl, rfl, by simp, fun k hk hne => ?_⟩, ?_, fun y h1 h2 => ?_, HI.out.os, by simpa using hsW⟩
    · exact (heap_setCell_other _ _ _ _ (by show q ≠ w.heap.size; omega)).trans h2'
    · exact heap_setCell_other _ _ _ _ (fun e => hne (.inl ((HVV.out k).2 e)))
    · rw [List.map_append, show [(⟨(t, .slice A6 t.recs.length c6), hrecs, hfew, hok⟩ : It w2 lo b)].map bt = [t] from rfl, lastE_app]
      exact heap_setCell_same W w.heap.size 0 _ _ _ Q6.out
    · exact (heap_setCell_other _ _ _ _ h2).trans (HI.out.kp y h1 h2)
  case done =>
    rintro D ys W hD hS hI hK
    have hz := hI.size
    have HE : Hid (lastE 0 (flatB ss) = lastE 0 (ys.map bt)) := by show _ = _; rw [hS]
    have BE : Hid (Below w.heap.size w W) := ⟨hI.os.1.trans B2.out.os, hI.os.2.1.trans B2.out.tape, hI.os.2.2.trans B2.out.output, by omega, fun k hk => (hI.kp k (by omega) (by omega)).trans (B2.out.block k hk)⟩
    have q6 := hI.f
    generalize lastE 0 (ys.map bt) = fv at *
    have f6 : W.cell? ⟨w.heap.size, 0, none⟩ = some (.int .i64 fv) := cell_of_row W w.heap.size 0 _ _ (0, 0) q6
    clear hI q6 hS
    gi_wp2
    refine ⟨by simp, .inl ⟨_, _, rfl, run_takeDeferred hK, ?_⟩⟩
    exact ⟨_, results_tmp rfl _ _ _, by rw [HE.out]; rfl, BE.out.trans (belowK_b (w := w) (Nat.le_refl _) W D _ _ (by omega) hK rfl rfl)⟩
  case stop =>
    rintro D c' pre W hD hS hX hK
    exact hX.elim
theorem lastEpoch_any (v : Value) (ss : List Sg) (f : Int) (w : World) (lo b : Nat) (hb : b ≤ w.heap.size) (hl : ss.length ≤ 1048576) (hf : ∀ i, i < ss.length → FewS (ss.getD i default)) (hok : LgP.segs 0 0 ss = some f) (FL : (flatB ss).length ≤ 400) (hs : SegsAt w lo b v ss) :
    Calls Try.prog 87 #[v] w fun e w' => e = .returned (.int .i64 (lastE 0 (flatB ss))) ∧ Below w.heap.size w w' := by
  obtain ⟨_, ⟨_, A, c, rfl, _⟩, _⟩ := id hs
  exact lastEpoch_core ss f A c w lo b hb hl hf hok FL hs
end Go.Proofs.Yticihnoekffelaa.Eo
namespace Go.Proofs.Yticihnoekffelaa.PoP
set_option maxRecDepth 8000
open Go.RowKit
open Ls Asc
open Recs (hsz below1 below2 chain chainD Bat)
open SegW (Sg)
open LogW (Lg LogAt)
open LgP (logOk)
open BfP (flatB)
open EoP (lastE)
set_option linter.unusedVariables false
def lg (r : Rpl) : Lg := ⟨r.start, r.next, r.roll, r.segs⟩
def repOk (e : Int) (r : Rpl) : Bool := logOk (lg r) && (inR r.start r.mark r.next && decide (lastE 0 (flatB r.segs) ≤ e))
def reps (e : Int) : List Rpl → Bool
  | [] => true
  | r :: t => repOk e r && reps e t
def lead (p : Prt) : Bool := if p.leader = -1 then true else inR 0 p.leader ((p.reps.length : Int) - 1) && ((p.reps.getD p.leader.toNat default).up && has p.leader p.insync)
def insy (p : Prt) : Bool := decide (0 < p.insync.length) && asc ((p.reps.length : Int) - 1) (-1) p.insync
def known (p : Prt) : Bool := nums p.known p.reps.length 1000000000
def front (p : Prt) : Bool := inR 1 p.reps.length 5 && (inR 1 p.least 5 && inR 0 p.epoch 1000000)
def part (p : Prt) : Bool := front p && (reps p.epoch p.reps && (insy p && (lead p && known p)))
/-- A Part's value: three lists and three numbers. -/
theorem form {w : World} {S : Nat → Prop} {v : Value} {p : Prt} (h : PrtAt w S v p) : ∃ A0 c0 A3 c3 A4 c4, v = .agg #[.slice A0 p.reps.length c0, .int .i64 p.leader, .int .i64 p.epoch, .slice A3 p.insync.length c3, .slice A4 p.known.length c4, .int .i64 p.least] := by
  obtain ⟨f, rfl, y0, y1, y2, y3, y4, y5⟩ := h
  obtain ⟨A0, c0, g0⟩ := y0.form
  obtain ⟨A3, c3, g3⟩ := y3.form
  obtain ⟨A4, c4, g4⟩ := y4.form
  exact ⟨A0, c0, A3, c3, A4, c4, by rw [← g0, ← y1, ← y2, ← g3, ← g4, ← y5]; rfl⟩
theorem parts {w : World} {S : Nat → Prop} {p : Prt} {a b c d e f : Value} (h : PrtAt w S (.agg #[a, b, c, d, e, f]) p) : LAt 6 ERpl w S a p.reps ∧ IntsAt w S d p.insync ∧ IntsAt w S e p.known := by
  obtain ⟨f, hf, y0, y1, y2, y3, y4, y5⟩ := h
  simp only [arrPrt, Value.agg.injEq, Array.mk.injEq, List.cons.injEq, and_true] at hf
  exact ⟨hf.1 ▸ y0, hf.2.2.2.1 ▸ y3, hf.2.2.2.2.1 ▸ y4⟩
/-- A replica of a list: its six cells. -/
theorem rpl_cells {w : World} {lo b : Nat} {g o i : Nat} {r : Rpl} {F : Nat → Value} (h : ∀ j, j < 6 → w.cell? ⟨g, o + i * 6 + j, none⟩ = some (F j)) (he : ERpl w (seg lo b) F r) :
    ∃ A3 c3, (w.cell? ⟨g, o + i * 6, none⟩ = some (.int .i64 r.start) ∧ w.cell? ⟨g, o + i * 6 + 1, none⟩ = some (.int .i64 r.next) ∧ w.cell? ⟨g, o + i * 6 + 2, none⟩ = some (.int .i64 r.roll) ∧ w.cell? ⟨g, o + i * 6 + 3, none⟩ = some (.slice A3 r.segs.length c3) ∧
      w.cell? ⟨g, o + i * 6 + 4, none⟩ = some (.int .i64 r.mark) ∧ w.cell? ⟨g, o + i * 6 + 5, none⟩ = some (.bool r.up)) ∧ LogAt w lo b (.agg #[.int .i64 r.start, .int .i64 r.next, .int .i64 r.roll, .slice A3 r.segs.length c3]) (lg r) := by
  obtain ⟨y0, y1, y2, y3, y4, y5⟩ := he
  obtain ⟨A3, c3, g3⟩ := y3.form
  refine ⟨A3, c3, ⟨?_, ?_, ?_, ?_, ?_, ?_⟩, .slice A3 r.segs.length c3, rfl, ?_⟩
  · rw [← y0]; exact h 0 (by omega)
  · rw [← y1]; exact h 1 (by omega)
  · rw [← y2]; exact h 2 (by omega)
  · rw [← g3]; exact h 3 (by omega)
  · rw [← y4]; exact h 4 (by omega)
  · rw [← y5]; exact h 5 (by omega)
  · rw [← g3]; exact OldL.segs y3
/-- What stands: the replica's copy in block pr, the Part in block pp. -/
structure Rr (w wx : World) (pp pr : Nat) (r : Rpl) (p : Prt) (A0 A3 A4 AS : Option Addr) (c0 c3 c4 cS : Nat) : Prop where
  rr : wx.heap[pr]? = some (.cells #[.int .i64 r.start, .int .i64 r.next, .int .i64 r.roll, .slice AS r.segs.length cS, .int .i64 r.mark, .bool r.up] 69 (0, 0))
  rp : wx.heap[pp]? = some (.cells #[.slice A0 p.reps.length c0, .int .i64 p.leader, .int .i64 p.epoch, .slice A3 p.insync.length c3, .slice A4 p.known.length c4, .int .i64 p.least] 44 (0, 0))
  bel : Below w.heap.size w wx
section
variable {w wx : World} {pp pr : Nat} {r : Rpl} {p : Prt} {A0 A3 A4 AS : Option Addr} {c0 c3 c4 cS : Nat}
theorem Rr.next {w' : World} (h : Rr w wx pp pr r p A0 A3 A4 AS c0 c3 c4 cS) (b : Below wx.heap.size wx w') : Rr w w' pp pr r p A0 A3 A4 AS c0 c3 c4 cS :=
  ⟨(b.block pr (Array.getElem?_eq_some_iff.1 h.rr).1).trans h.rr, (b.block pp (Array.getElem?_eq_some_iff.1 h.rp).1).trans h.rp, chain h.bel b⟩
theorem Rr.drew (h : Rr w wx pp pr r p A0 A3 A4 AS c0 c3 c4 cS) : Rr w wx.drew pp pr r p A0 A3 A4 AS c0 c3 c4 cS := ⟨h.rr, h.rp, h.bel.drew⟩
theorem Rr.cells (h : Rr w wx pp pr r p A0 A3 A4 AS c0 c3 c4 cS) : wx.cell? ⟨pr, 0, none⟩ = some (.int .i64 r.start) ∧ wx.cell? ⟨pr, 1, none⟩ = some (.int .i64 r.next) ∧ wx.cell? ⟨pr, 2, none⟩ = some (.int .i64 r.roll) ∧ wx.cell? ⟨pr, 3, none⟩ = some (.slice AS r.segs.length cS) ∧ wx.cell? ⟨pr, 4, none⟩ = some (.int .i64 r.mark) ∧ wx.cell? ⟨pr, 5, none⟩ = some (.bool r.up) :=
  ⟨cell_of_row wx _ 0 _ _ (0, 0) h.rr, cell_of_row wx _ 1 _ _ (0, 0) h.rr, cell_of_row wx _ 2 _ _ (0, 0) h.rr, cell_of_row wx _ 3 _ _ (0, 0) h.rr, cell_of_row wx _ 4 _ _ (0, 0) h.rr, cell_of_row wx _ 5 _ _ (0, 0) h.rr⟩
theorem Rr.cellp (h : Rr w wx pp pr r p A0 A3 A4 AS c0 c3 c4 cS) : wx.cell? ⟨pp, 0, none⟩ = some (.slice A0 p.reps.length c0) ∧ wx.cell? ⟨pp, 2, none⟩ = some (.int .i64 p.epoch) ∧ wx.cell? ⟨pp, 4, none⟩ = some (.slice A4 p.known.length c4) :=
  ⟨cell_of_row wx _ 0 _ _ (0, 0) h.rp, cell_of_row wx _ 2 _ _ (0, 0) h.rp, cell_of_row wx _ 4 _ _ (0, 0) h.rp⟩
end
end Go.Proofs.Yticihnoekffelaa.PoP
