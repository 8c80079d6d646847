/- What every range over batchesFrom wants; The program's lastEpoch. -/
import Derived.Scope
import Derived.BigQuiet
import Derived.Test.YtimnihaieifkcaaJP27
import Derived.Test.YtimnihaieifkcaaJP12
import Derived.Test.YtimnihaieifkcaaJP25
namespace Go.Proofs.Ytimnihaieifkcaa.Of
set_option maxRecDepth 8000
open Go.RowKit Go.Shelf
open Recs
open Bats SegW Segs LogW BfP BfI
open LgP (logOk)
set_option linter.unusedVariables false
attribute [local go_sem] Oper.semAt_some
theorem at1 (w : World) (o : Obj) : (w.alloc o).heap[w.heap.size]? = some o := heap_alloc_new _ _
theorem four {w : World} {g ty : Nat} {t : Lg} {v : Value} (h : w.heap[g]? = some (.cells (logArr t v) ty (0, 0))) : w.cell? ⟨g, 0, none⟩ = some (.int .i64 t.start) ∧ w.cell? ⟨g, 1, none⟩ = some (.int .i64 t.next) ∧ w.cell? ⟨g, 2, none⟩ = some (.int .i64 t.roll) ∧ w.cell? ⟨g, 3, none⟩ = some v :=
  ⟨cell_of_row w g 0 _ _ (0, 0) h, cell_of_row w g 1 _ _ (0, 0) h, cell_of_row w g 2 _ _ (0, 0) h, cell_of_row w g 3 _ _ (0, 0) h⟩
theorem flat_count : ∀ ss : List Sg, (flatB ss).length = LgP.many ss
  | [] => rfl
  | s :: t => by simp only [flatB, List.length_append, flat_count t, LgP.many]
theorem okB_flat {ss : List Sg} {f e f' : Int} (h : LgP.segs f e ss = some f') : ∀ b ∈ flatB ss, BOk.batOk b = true := by
  have key : ∀ (ss : List Sg) (f e f' : Int), LgP.segs f e ss = some f' → ∀ b ∈ flatB ss, BOk.batOk b = true := by
    intro ss
    induction ss with
    | nil => intro f e f' _ b hb; simp [flatB] at hb
    | cons s t ih =>
      intro f e f' h b hb
      obtain ⟨h1, h2, f1, e1, h3, h4⟩ := SrP.segs_head h
      simp only [flatB, List.mem_append] at hb
      rcases hb with hb | hb
      · obtain ⟨k, hk, rfl⟩ := List.getElem_of_mem hb
        have := SrP.bats_ok _ _ _ _ _ h3 k hk
        rw [List.getD_eq_getElem?_getD, List.getElem?_eq_getElem hk] at this
        simpa using this
      · exact ih f1 e1 f' h4 b hb
  exact key ss f e f' h
theorem ok_all {l : Lg} (h : logOk l = true) : ∃ f, LgP.segs 0 0 l.segs = some f ∧ f ≤ l.next ∧ l.segs.length ≤ 60 ∧ 0 ≤ l.start ∧ l.start ≤ l.next ∧ l.next ≤ 1000000000 ∧ LgP.many l.segs ≤ 400 := by
  unfold LgP.logOk LgP.bounds LgP.counts LgP.stands at h
  simp only [Bool.and_eq_true, decide_eq_true_eq, LgP.inR] at h
  obtain ⟨⟨⟨a1, a2⟩, ⟨a3, a4⟩, a5⟩, ⟨a6, a7⟩, a8⟩ := h
  cases hs : LgP.segs 0 0 l.segs with
  | none => rw [hs] at a8; cases a8
  | some f =>
    rw [hs] at a8
    exact ⟨f, rfl, by simpa using a8, a6, a3, a4, a2, a7⟩
theorem batchesFrom_any (v : Value) (x : Int) (A : Option Addr) (m c : Nat) (w : World) (hv : v = .slice A m c) :
    Calls Try.prog 55 #[v, .int .i64 x] w fun e w' => e = .returned (.func (.func 67) #[] #[.pointer (some ⟨w.heap.size, 0, none⟩), .pointer (some ⟨w.heap.size + 1, 0, none⟩)]) ∧ w'.cell? ⟨w.heap.size, 0, none⟩ = some v ∧ w'.cell? ⟨w.heap.size + 1, 0, none⟩ = some (.int .i64 x) ∧ Below w.heap.size w w' ∧ w'.heap.size = w.heap.size + 2 := by
  subst hv
  go_enter Try.func55, Try.ntmps55
  go_wp2_with fail
  go_ret
  refine ⟨rfl, ?_, ?_, below2 w _ _, by rw [hsz, hsz]⟩
  · exact cell_of_row _ w.heap.size 0 _ _ (0, 0) (((below1 _ _).block _ (by rw [hsz]; omega)).trans (heap_alloc_new _ _))
  · have := heap_alloc_new (w.alloc (.cells #[.slice A m c] 39 (0, 0))) (.cells #[.int .i64 x] 3 (0, 0))
    rw [hsz] at this
    exact cell_of_row _ (w.heap.size + 1) 0 _ _ (0, 0) this
theorem kp_of_below {V : Nat → Prop} {n₀ : Nat} {W W' : World} (h : Below W.heap.size W W') : Kp V n₀ W W' := ⟨h.os, h.tape, h.output, h.size, fun k hk _ => h.block k hk⟩
theorem keeps_of_below {B : Nat} {W W' : World} (h : Below W.heap.size W W') : KeepsFrom B W W' := ⟨h.size, fun k o _ hk _ => (h.block k (Array.getElem?_eq_some_iff.1 hk).1).trans hk⟩
theorem block_own {β : Type} (B : Nat) (g ty : Nat) (cs : Array Value) : OwnFrom B (fun (_ : β) W => W.heap[g]? = some (.cells cs ty (0, 0))) := fun _ W W' row hs hg hr => (hg.block g (Array.getElem?_eq_some_iff.1 hs).1 (fun e => by
  obtain ⟨_, o, ho, hc⟩ := hr g e.symm
  rw [hs] at ho
  cases ho
  cases hc)).trans hs
end Go.Proofs.Ytimnihaieifkcaa.Of
namespace Go.Proofs.Ytimnihaieifkcaa.Eo
set_option maxRecDepth 8000
open Go.RowKit Go.Shelf
open Recs
open Bats SegW Segs LogW BfP EoP BfI
open LgP (logOk)
open Of (okB_flat batchesFrom_any keeps_of_below kp_of_below block_own)
set_option linter.unusedVariables false
attribute [local go_sem] Oper.semAt_some
/-- Between two rounds. -/
structure LI (w2 : World) (a : Nat) {w0 : World} {lo b : Nat} (pre : List (It w0 lo b)) (W : World) : Prop where
  f : W.heap[a]? = some (.cells #[.int .i64 (lastE 0 (pre.map bt))] 3 (0, 0))
  kp : ∀ y, y < w2.heap.size → y ≠ a → W.heap[y]? = w2.heap[y]?
  os : W.os = w2.os ∧ W.tape = w2.tape ∧ W.output = w2.output
  size : w2.heap.size ≤ W.heap.size
theorem LI.own {w2 : World} {a : Nat} {w0 : World} {lo b : Nat} {pre : List (It w0 lo b)} {W W' : World} {row : Option Nat} (ha : a < w2.heap.size) (h : LI w2 a pre W) (hg : W.grownBy W' row) (hr : ∀ r, row = some r → w2.heap.size ≤ r ∧ ∃ o : Obj, W.heap[r]? = some o ∧ o.isCells = false) : LI w2 a pre W' := by
  have k : ∀ y, y < w2.heap.size → W'.heap[y]? = W.heap[y]? := fun y hy => hg.block y (by have := h.size; omega) (fun e => by have := (hr y e.symm).1; omega)
  exact ⟨(k _ ha).trans h.f, fun y h1 h2 => (k y h1).trans (h.kp y h1 h2), ⟨hg.os.trans h.os.1, hg.tape.trans h.os.2.1, hg.output.trans h.os.2.2⟩, Nat.le_trans h.size hg.size⟩
set_option maxHeartbeats 3200000 in
theorem lastEpoch_core (ss : List Sg) (f : Int) (A : Option Addr) (c : Nat) (w : World) (lo b : Nat) (hb : b ≤ w.heap.size) (hl : ss.length ≤ 1048576) (hf : ∀ i, i < ss.length → FewS (ss.getD i default)) (hok : LgP.segs 0 0 ss = some f) (FL : (flatB ss).length ≤ 400) (hs : SegsAt w lo b (.slice A ss.length c) ss) :
    Calls Try.prog 42 #[.slice A ss.length c] w fun e w' => e = .returned (.int .i64 (lastE 0 (flatB ss))) ∧ Below w.heap.size w w' := by
  have HS := Seg.hid hs
  have HF := Seg.hid hf
  have K1 := Seg.hid hok
  clear hs hf hok
  refine (callsIn_wide (n := 5)).1 ?_
  refine callsIn_of_wp_marks Try.func42 rfl trivial ?_ rfl
  simp only [Try.ntmps42, List.size_toArray, List.length_cons, List.length_nil, Nat.reduceAdd, Nat.reduceSub, Array.replicate_succ, Array.replicate_zero, List.push_toArray, List.append_toArray, List.nil_append, List.cons_append]
  gi_wp2
  refine ⟨trivial, ?_⟩
  refine (callsIn_wide.2 (batchesFrom_any _ 0 A ss.length c (w.alloc _) rfl)).mono ?_
  rintro e w2 ⟨rfl, a1, a2, b2, a3⟩
  rw [hsz] at a1 a2 a3
  gi_wp2
  have B2 := Seg.hid (chain (below1 w _) b2)
  have F2 : Hid (w2.heap[w.heap.size]? = some (.cells #[.int .i64 0] 3 (0, 0))) := (b2.block w.heap.size (by rw [hsz]; omega)).trans (heap_alloc_new _ _)
  have hs2 : w.heap.size + 2 < w2.heap.size := by omega
  have HS2 := Seg.hid (HS.out.below (B2.out.mono hb))
  have v6 : w.heap.size < w2.heap.size := by omega
  clear b2
  obtain ⟨V, hVV⟩ : ∃ V : Nat → Prop, ∀ k, V k ↔ k = w.heap.size := ⟨_, fun _ => Iff.rfl⟩
  have HSTOP := stops 4 (by omega) V w2.heap.size 400 (w.heap.size + 1) (w.heap.size + 1 + 1) lo b c A 0 f ss w2 HS2.out (by omega) (Nat.le_refl _) (fun k h => by have := (hVV k).1 h; omega) a1 (by omega) a2 (by omega) hl HF.out K1.out (Nat.le_trans (List.length_filter_le _ _) FL)
  have HVV := Seg.hid hVV
  clear a1 a2 a3 hVV
  have FZ : Hid (fromB 0 (flatB ss) = flatB ss) := from_zero (okB_flat K1.out)
  rw [FZ.out] at HSTOP
  refine wpIn_rangeFunc_ownH rfl (by omega) (gf := 67) (lb := #[.pointer (some ⟨w.heap.size + 1, 0, none⟩), .pointer (some ⟨w.heap.size + 1 + 1, 0, none⟩)]) rfl trivial (enters_of Try.func67 (by kernel_rfl) rfl)
    HSTOP kp_t (kp_b (Nat.le_refl _)) (Below.refl _ _) (fun _ => rfl)
    (fun pre W => LI w2 w.heap.size pre W)
    (fun c' pre W => False)
    (fun s A B row hs hg hr => LI.own v6 hs hg hr)
    (fun c' s A B row hs hg hr => hs)
    ⟨F2.out, fun _ _ _ => rfl, ⟨rfl, rfl, rfl⟩, Nat.le_refl _⟩
    (fun p a' W => ∃ Bx, w2.heap.size ≤ Bx ∧ W.heap[Bx]? = some (.cells (BatW.batArr p.1.1 p.1.2) 64 (0, 0)) ∧ a' = { tmps := #[.slice A ss.length c, undef, .int .i64 0, .pointer (some ⟨w.heap.size, 0, none⟩), .pointer (some ⟨Bx, 0, none⟩), .slice A ss.length c, .func (.func 67) #[] #[.pointer (some ⟨w.heap.size + 1, 0, none⟩), .pointer (some ⟨w.heap.size + 1 + 1, 0, none⟩)], batVal p.1.1 p.1.2, undef, undef, undef], defers := [] })
    (fun p a' s W W' row hs hg hr => ⟨hs.choose, hs.choose_spec.1, block_own (β := Unit) w2.heap.size _ _ _ s W W' row hs.choose_spec.2.1 hg hr, hs.choose_spec.2.2⟩) ?assign ?body ?done ?stop
  case assign =>
    rintro l' pre ⟨⟨t, v⟩, hrecs, hfew, hok⟩ W K hi hK
    obtain ⟨_, ⟨_, A6, c6, hv6, _⟩, _⟩ := id hrecs
    have hv7 : v = .slice A6 t.recs.length c6 := hv6
    clear hv6
    subst hv7
    unfold batVal
    gi_wp2
    exact hK _ _ (keeps_of_below (below1 W _)) (kp_of_below (below1 W _)) (LI.own v6 (row := none) hi ⟨(below1 W _).os, (below1 W _).tape, (below1 W _).output, (below1 W _).size, fun k hk _ => (below1 W _).block k hk⟩ (fun r e => by cases e)) ⟨W.heap.size, hi.size, heap_alloc_new _ _, rfl⟩
  case body =>
    rintro l' pre ⟨⟨t, v⟩, hrecs, hfew, hok⟩ a' W hl' ⟨r, hr⟩ hOI ⟨Bx, hBx, hbx, rfl⟩ hlen
    have HI := Seg.hid hOI
    obtain ⟨H, ⟨_, A6, c6, hv6, hrow⟩, hh⟩ := id hrecs
    have hv7 : v = .slice A6 t.recs.length c6 := hv6
    clear hv6 hr
    subst hv7
    have hbx' : W.heap[Bx]? = some (.cells (BatW.batArr t (.slice A6 t.recs.length c6)) 64 (0, 0)) := hbx
    have hsW := hOI.size
    have hBxl : Bx < W.heap.size := (Array.getElem?_eq_some_iff.1 hbx').1
    have e1 : W.cell? ⟨Bx, 1, none⟩ = some (.int .i64 t.epoch) := cell_of_row W Bx 1 _ _ (0, 0) hbx'
    obtain ⟨fv, hfv⟩ : ∃ fv, lastE 0 (pre.map bt) = fv := ⟨_, rfl⟩
    have q6 := hOI.f
    rw [hfv] at q6
    have Q6 := Seg.hid q6
    have f6 : W.cell? ⟨w.heap.size, 0, none⟩ = some (.int .i64 fv) := cell_of_row W w.heap.size 0 _ _ (0, 0) q6
    have g6 := frozen_of_row W w.heap.size 0 _ _ q6
    clear hOI hbx hbx' hrow hh q6 hfv
    have y6 : w.heap.size < W.heap.size := by omega
    gi_wp2
    refine ⟨⟨by simp, fun q o' h1' h2' h3' => ?_⟩, ⟨rfl, rfl, rfl, by simp, fun k hk hne => ?_⟩, ?_, fun y h1 h2 => ?_, HI.out.os, by simpa using hsW⟩
    · exact (heap_setCell_other _ _ _ _ (by show q ≠ w.heap.size; omega)).trans h2'
    · exact heap_setCell_other _ _ _ _ (fun e => hne (.inl ((HVV.out k).2 e)))
    · rw [List.map_append, show [(⟨(t, .slice A6 t.recs.length c6), hrecs, hfew, hok⟩ : It w2 lo b)].map bt = [t] from rfl, lastE_app]
      exact heap_setCell_same W w.heap.size 0 _ _ _ Q6.out
    · exact (heap_setCell_other _ _ _ _ h2).trans (HI.out.kp y h1 h2)
  case done =>
    rintro D ys W hD hS hI hK
    have hz := hI.size
    have HE : Hid (lastE 0 (flatB ss) = lastE 0 (ys.map bt)) := by show _ = _; rw [hS]
    have BE : Hid (Below w.heap.size w W) := ⟨hI.os.1.trans B2.out.os, hI.os.2.1.trans B2.out.tape, hI.os.2.2.trans B2.out.output, by omega, fun k hk => (hI.kp k (by omega) (by omega)).trans (B2.out.block k hk)⟩
    have q6 := hI.f
    generalize lastE 0 (ys.map bt) = fv at *
    have f6 : W.cell? ⟨w.heap.size, 0, none⟩ = some (.int .i64 fv) := cell_of_row W w.heap.size 0 _ _ (0, 0) q6
    clear hI q6 hS
    gi_wp2
    refine ⟨by simp, .inl ⟨_, _, rfl, run_takeDeferred hK, ?_⟩⟩
    exact ⟨_, results_tmp rfl _ _ _, by rw [HE.out]; rfl, BE.out.trans (belowK_b (w := w) (Nat.le_refl _) W D _ _ (by omega) hK rfl rfl)⟩
  case stop =>
    rintro D c' pre W hD hS hX hK
    exact hX.elim
theorem lastEpoch_any (v : Value) (ss : List Sg) (f : Int) (w : World) (lo b : Nat) (hb : b ≤ w.heap.size) (hl : ss.length ≤ 1048576) (hf : ∀ i, i < ss.length → FewS (ss.getD i default)) (hok : LgP.segs 0 0 ss = some f) (FL : (flatB ss).length ≤ 400) (hs : SegsAt w lo b v ss) :
    Calls Try.prog 42 #[v] w fun e w' => e = .returned (.int .i64 (lastE 0 (flatB ss))) ∧ Below w.heap.size w w' := by
  obtain ⟨_, ⟨_, A, c, rfl, _⟩, _⟩ := id hs
  exact lastEpoch_core ss f A c w lo b hb hl hf hok FL hs
end Go.Proofs.Ytimnihaieifkcaa.Eo
