/- The program's EndOf. -/
import Derived.Scope
import Derived.BigQuiet
import Derived.Test.YteaiceeapambdaaEoP
import Derived.Test.YteaiceeapambdaaOfB
import Derived.Test.YteaiceeapambdaaLgK
namespace Go.Proofs.Yteaiceeapambdaa.Eo
set_option maxRecDepth 8000
open Go.RowKit Go.Shelf
open Recs
open Bats SegW Segs LogW BfP EoP BfI
open LgP (logOk)
open Of (four ok_all flat_count okB_flat batchesFrom_any keeps_of_below kp_of_below block_own)
set_option linter.unusedVariables false
attribute [local go_sem] Oper.semAt_some
/-- The three variables, wherever they lie. -/
structure Bx (w1 wr : World) (a6 a7 a8 : Nat) (n : Int) : Prop where
  f : wr.heap[a6]? = some (.cells #[.int .i64 0] 3 (0, 0))
  e : wr.heap[a7]? = some (.cells #[.int .i64 n] 3 (0, 0))
  s : wr.heap[a8]? = some (.cells #[.bool false] 4 (0, 0))
  bel : Below w1.heap.size w1 wr
  lo : w1.heap.size ≤ a6 ∧ w1.heap.size ≤ a7 ∧ w1.heap.size ≤ a8
  ne : a6 ≠ a7 ∧ a6 ≠ a8 ∧ a7 ≠ a8
theorem three (w1 : World) (o1 o2 o3 : Obj) : (((w1.alloc o1).alloc o2).alloc o3).drew.heap[w1.heap.size]? = some o1 ∧ (((w1.alloc o1).alloc o2).alloc o3).drew.heap[w1.heap.size + 1]? = some o2 ∧ (((w1.alloc o1).alloc o2).alloc o3).drew.heap[w1.heap.size + 1 + 1]? = some o3 ∧ Below w1.heap.size w1 (((w1.alloc o1).alloc o2).alloc o3).drew :=
  ⟨((below1 _ _).block _ (by rw [hsz, hsz]; omega)).trans (((below1 _ _).block _ (by rw [hsz]; omega)).trans (heap_alloc_new _ _)), at3 w1 _ _ _, Cells.at3' w1 _ _ _, (below3 w1 _ _ _).drew⟩
/-- Between two rounds. -/
structure EI (x n : Int) (w2 : World) (a6 a7 a8 : Nat) {w0 : World} {lo b : Nat} (pre : List (It w0 lo b)) (W : World) : Prop where
  none : ∀ y ∈ pre.map bt, ¬ x < y.epoch
  f : W.heap[a6]? = some (.cells #[.int .i64 (lastE 0 (pre.map bt))] 3 (0, 0))
  e : W.heap[a7]? = some (.cells #[.int .i64 n] 3 (0, 0))
  s : W.heap[a8]? = some (.cells #[.bool (sm (pre.map bt))] 4 (0, 0))
  kp : ∀ y, y < w2.heap.size → y ≠ a6 → y ≠ a8 → W.heap[y]? = w2.heap[y]?
  os : W.os = w2.os ∧ W.tape = w2.tape ∧ W.output = w2.output
  size : w2.heap.size ≤ W.heap.size
/-- Behind a round that has left. -/
structure EX (x : Int) (w2 : World) (a6 a7 a8 : Nat) (c : Code) {w0 : World} {lo b : Nat} (pre : List (It w0 lo b)) (W : World) : Prop where
  code : c = .exit 0
  val : ∃ p y, pre.map bt = p ++ [y] ∧ (∀ z ∈ p, ¬ x < z.epoch) ∧ x < y.epoch ∧ W.heap[a6]? = some (.cells #[.int .i64 (lastE 0 p)] 3 (0, 0)) ∧ W.heap[a7]? = some (.cells #[.int .i64 y.base] 3 (0, 0)) ∧ W.heap[a8]? = some (.cells #[.bool (sm p)] 4 (0, 0))
  kp : ∀ y, y < w2.heap.size → y ≠ a6 → y ≠ a7 → y ≠ a8 → W.heap[y]? = w2.heap[y]?
  os : W.os = w2.os ∧ W.tape = w2.tape ∧ W.output = w2.output
  size : w2.heap.size ≤ W.heap.size
theorem grown_old {w2 W W' : World} {row : Option Nat} (hz : w2.heap.size ≤ W.heap.size) (hg : W.grownBy W' row) (hr : ∀ r, row = some r → w2.heap.size ≤ r ∧ ∃ o : Obj, W.heap[r]? = some o ∧ o.isCells = false) : ∀ y, y < w2.heap.size → W'.heap[y]? = W.heap[y]? := fun y hy => hg.block y (by omega) (fun e => by have := (hr y e.symm).1; omega)
theorem EI.own {x n : Int} {w2 : World} {a6 a7 a8 : Nat} {w0 : World} {lo b : Nat} {pre : List (It w0 lo b)} {W W' : World} {row : Option Nat} (ha : a6 < w2.heap.size ∧ a7 < w2.heap.size ∧ a8 < w2.heap.size) (h : EI x n w2 a6 a7 a8 pre W) (hg : W.grownBy W' row) (hr : ∀ r, row = some r → w2.heap.size ≤ r ∧ ∃ o : Obj, W.heap[r]? = some o ∧ o.isCells = false) : EI x n w2 a6 a7 a8 pre W' := by
  have k := grown_old h.size hg hr
  exact ⟨h.none, (k _ ha.1).trans h.f, (k _ ha.2.1).trans h.e, (k _ ha.2.2).trans h.s, fun y h1 h2 h3 => (k y h1).trans (h.kp y h1 h2 h3), ⟨hg.os.trans h.os.1, hg.tape.trans h.os.2.1, hg.output.trans h.os.2.2⟩, Nat.le_trans h.size hg.size⟩
theorem EX.own {x : Int} {w2 : World} {a6 a7 a8 : Nat} {c : Code} {w0 : World} {lo b : Nat} {pre : List (It w0 lo b)} {W W' : World} {row : Option Nat} (ha : a6 < w2.heap.size ∧ a7 < w2.heap.size ∧ a8 < w2.heap.size) (h : EX x w2 a6 a7 a8 c pre W) (hg : W.grownBy W' row) (hr : ∀ r, row = some r → w2.heap.size ≤ r ∧ ∃ o : Obj, W.heap[r]? = some o ∧ o.isCells = false) : EX x w2 a6 a7 a8 c pre W' := by
  have k := grown_old h.size hg hr
  obtain ⟨p, y, v1, v2, v3, v4, v5, v6⟩ := h.val
  exact ⟨h.code, ⟨p, y, v1, v2, v3, (k _ ha.1).trans v4, (k _ ha.2.1).trans v5, (k _ ha.2.2).trans v6⟩, fun y h1 h2 h3 h4 => (k y h1).trans (h.kp y h1 h2 h3 h4), ⟨hg.os.trans h.os.1, hg.tape.trans h.os.2.1, hg.output.trans h.os.2.2⟩, Nat.le_trans h.size hg.size⟩
theorem EI.below {x n : Int} {w w2 : World} {a6 a7 a8 : Nat} {w0 : World} {lo b : Nat} {pre : List (It w0 lo b)} {W : World} (h : EI x n w2 a6 a7 a8 pre W) (B : Below w.heap.size w w2) (h6 : w.heap.size ≤ a6) (h8 : w.heap.size ≤ a8) : Below w.heap.size w W :=
  ⟨h.os.1.trans B.os, h.os.2.1.trans B.tape, h.os.2.2.trans B.output, Nat.le_trans B.size h.size, fun k hk => (h.kp k (Nat.lt_of_lt_of_le hk B.size) (by omega) (by omega)).trans (B.block k hk)⟩
theorem EX.below {x : Int} {w w2 : World} {a6 a7 a8 : Nat} {c : Code} {w0 : World} {lo b : Nat} {pre : List (It w0 lo b)} {W : World} (h : EX x w2 a6 a7 a8 c pre W) (B : Below w.heap.size w w2) (h6 : w.heap.size ≤ a6) (h7 : w.heap.size ≤ a7) (h8 : w.heap.size ≤ a8) : Below w.heap.size w W :=
  ⟨h.os.1.trans B.os, h.os.2.1.trans B.tape, h.os.2.2.trans B.output, Nat.le_trans B.size h.size, fun k hk => (h.kp k (Nat.lt_of_lt_of_le hk B.size) (by omega) (by omega) (by omega)).trans (B.block k hk)⟩
set_option maxHeartbeats 3200000 in
theorem end_core (l : Lg) (x : Int) (A : Option Addr) (c : Nat) (w : World) (lo b : Nat) (hb : b ≤ w.heap.size) (hf : FewL l) (hok : logOk l = true) (hs : SegsAt w lo b (.slice A l.segs.length c) l.segs) :
    Calls Try.prog 14 #[logVal l (.slice A l.segs.length c), .int .i64 x] w fun e w' => e = .returned (.tuple #[.int .i64 (endF l x).1, .int .i64 (endF l x).2]) ∧ Below w.heap.size w w' := by
  have HS := Seg.hid hs
  have HF := Seg.hid hf
  clear hs hf
  unfold logVal
  obtain ⟨f, k1, k2, k3, k4, k5, k6, k7⟩ := ok_all hok
  have K1 := Seg.hid k1
  have FL : (flatB l.segs).length ≤ 400 := by rw [flat_count]; exact k7
  clear hok k1
  refine (callsIn_wide (n := 5)).1 ?_
  refine callsIn_of_wp_marks Try.func14 rfl trivial ?_ rfl
  simp only [Try.ntmps14, List.size_toArray, List.length_cons, List.length_nil, Nat.reduceAdd, Nat.reduceSub, Array.replicate_succ, Array.replicate_zero, List.push_toArray, List.append_toArray, List.nil_append, List.cons_append]
  gi_wp2
  rename_i K aK
  refine wpIn_wide.2 ?_
  have B1 : Hid (Below w.heap.size w ((w.alloc (.cells #[.int .i64 l.start, .int .i64 l.next, .int .i64 l.roll, .slice A l.segs.length c] 30 (0, 0))).alloc (.cells #[.int .i64 x] 3 (0, 0)))) := below2 w _ _
  have T1 : Hid (((w.alloc (.cells #[.int .i64 l.start, .int .i64 l.next, .int .i64 l.roll, .slice A l.segs.length c] 30 (0, 0))).alloc (.cells #[.int .i64 x] 3 (0, 0))).heap[w.heap.size]? = some (.cells (logArr l (.slice A l.segs.length c)) 30 (0, 0))) := ((below1 _ _).block _ (by rw [hsz]; omega)).trans (heap_alloc_new _ _)
  have X1 : Hid (((w.alloc (.cells #[.int .i64 l.start, .int .i64 l.next, .int .i64 l.roll, .slice A l.segs.length c] 30 (0, 0))).alloc (.cells #[.int .i64 x] 3 (0, 0))).heap[w.heap.size + 1]? = some (.cells #[.int .i64 x] 3 (0, 0))) := by
    have := heap_alloc_new (w.alloc (.cells #[.int .i64 l.start, .int .i64 l.next, .int .i64 l.roll, .slice A l.segs.length c] 30 (0, 0))) (.cells #[.int .i64 x] 3 (0, 0))
    rw [hsz] at this
    exact this
  have s1 : w.heap.size + 1 < ((w.alloc (.cells #[.int .i64 l.start, .int .i64 l.next, .int .i64 l.roll, .slice A l.segs.length c] 30 (0, 0))).alloc (.cells #[.int .i64 x] 3 (0, 0))).heap.size := by rw [hsz, hsz]; omega
  generalize (w.alloc (.cells #[.int .i64 l.start, .int .i64 l.next, .int .i64 l.roll, .slice A l.segs.length c] 30 (0, 0))).alloc (.cells #[.int .i64 x] 3 (0, 0)) = w1 at *
  have J : ∀ (a6 a7 a8 : Nat) (wr : World), Bx w1 wr a6 a7 a8 l.next → K ⟨#[.agg #[.int .i64 l.start, .int .i64 l.next, .int .i64 l.roll, .slice A l.segs.length c], .int .i64 x, .pointer (some ⟨w.heap.size, 0, none⟩), .pointer (some ⟨w.heap.size + 1, 0, none⟩), .int .i64 0, .int .i64 0, .pointer (some ⟨a6, 0, none⟩), .pointer (some ⟨a7, 0, none⟩), .pointer (some ⟨a8, 0, none⟩), undef, .pointer (some ⟨w.heap.size, 1, none⟩), .int .i64 l.next, undef, undef, undef, undef, undef, undef, undef, undef, undef, undef, undef, undef, undef, undef, undef, undef, undef, undef], []⟩ wr := by
    intro a6 a7 a8 wr D
    refine aK _ _ ?_
    clear aK
    have B2' := Seg.hid (chain B1.out D.bel)
    have T2' := Seg.hid ((D.bel.block w.heap.size (by omega)).trans T1.out)
    have X2' := Seg.hid ((D.bel.block (w.heap.size + 1) (by omega)).trans X1.out)
    have DB := Seg.hid D
    obtain ⟨l6, l7, l8⟩ := D.lo
    obtain ⟨n1, n2, n3⟩ := D.ne
    have hz := D.bel.size
    have u6 : a6 < wr.heap.size := (Array.getElem?_eq_some_iff.1 D.f).1
    have u7 : a7 < wr.heap.size := (Array.getElem?_eq_some_iff.1 D.e).1
    have u8 : a8 < wr.heap.size := (Array.getElem?_eq_some_iff.1 D.s).1
    clear D
    obtain ⟨c0, c1, c2, c3⟩ := four T2'.out
    gi_wp2
    refine ⟨trivial, ?_⟩
    refine (callsIn_wide.2 (batchesFrom_any _ 0 A l.segs.length c wr rfl)).mono ?_
    rintro e w2 ⟨rfl, a1, a2, b2, a3⟩
    gi_wp2
    have B2 := Seg.hid (chain B2'.out b2)
    have F2 := Seg.hid ((b2.block a6 u6).trans DB.out.f)
    have E2 := Seg.hid ((b2.block a7 u7).trans DB.out.e)
    have S2 := Seg.hid ((b2.block a8 u8).trans DB.out.s)
    have T2 := Seg.hid ((b2.block w.heap.size (by omega)).trans T2'.out)
    have X2 := Seg.hid ((b2.block (w.heap.size + 1) (by omega)).trans X2'.out)
    have hs2 : wr.heap.size + 1 < w2.heap.size := by omega
    have HS2 := Seg.hid (HS.out.below (B2.out.mono hb))
    have BIG : w.heap.size ≤ w2.heap.size := B2.out.size
    have v6 : a6 < w2.heap.size := by omega
    have v7 : a7 < w2.heap.size := by omega
    have v8 : a8 < w2.heap.size := by omega
    clear b2 c0 c1 c2 c3 DB T2' X2' B2'
    obtain ⟨V, hVV⟩ : ∃ V : Nat → Prop, ∀ k, V k ↔ (k = a6 ∨ k = a8) := ⟨_, fun _ => Iff.rfl⟩
    have HSTOP := stops 4 (by omega) V w2.heap.size 400 wr.heap.size (wr.heap.size + 1) lo b c A 0 f l.segs w2 HS2.out (by omega) (Nat.le_refl _) (fun k h => by have := (hVV k).1 h; omega) a1 (by omega) a2 (by omega) (by omega) (fun i hi => HF.out.1.2 i hi) K1.out (Nat.le_trans (List.length_filter_le _ _) FL)
    have HVV := Seg.hid hVV
    clear a1 a2 a3 hVV
    have FZ : Hid (fromB 0 (flatB l.segs) = flatB l.segs) := from_zero (okB_flat K1.out)
    rw [FZ.out] at HSTOP
    refine wpIn_rangeFunc_ownH rfl (by omega) (gf := 36) (lb := #[.pointer (some ⟨wr.heap.size, 0, none⟩), .pointer (some ⟨wr.heap.size + 1, 0, none⟩)]) rfl trivial (enters_of Try.func36 (by kernel_rfl) rfl)
      HSTOP kp_t (kp_b (Nat.le_refl _)) (Below.refl _ _) (fun _ => rfl)
      (fun pre W => EI x l.next w2 a6 a7 a8 pre W)
      (fun c' pre W => EX x w2 a6 a7 a8 c' pre W)
      (fun s A B row hs hg hr => EI.own ⟨v6, v7, v8⟩ hs hg hr)
      (fun c' s A B row hs hg hr => EX.own ⟨v6, v7, v8⟩ hs hg hr)
      ⟨fun y hy => by simp at hy, F2.out, E2.out, S2.out, fun _ _ _ _ => rfl, ⟨rfl, rfl, rfl⟩, Nat.le_refl _⟩
      (fun p a' W => ∃ Bx, w2.heap.size ≤ Bx ∧ W.heap[Bx]? = some (.cells (BatW.batArr p.1.1 p.1.2) 40 (0, 0)) ∧ a' = { tmps := #[.agg #[.int .i64 l.start, .int .i64 l.next, .int .i64 l.roll, .slice A l.segs.length c], .int .i64 x, .pointer (some ⟨w.heap.size, 0, none⟩), .pointer (some ⟨w.heap.size + 1, 0, none⟩), .int .i64 0, .int .i64 0, .pointer (some ⟨a6, 0, none⟩), .pointer (some ⟨a7, 0, none⟩), .pointer (some ⟨a8, 0, none⟩), .pointer (some ⟨Bx, 0, none⟩), .pointer (some ⟨w.heap.size, 1, none⟩), .int .i64 l.next, .pointer (some ⟨w.heap.size, 3, none⟩), .slice A l.segs.length c, .func (.func 36) #[] #[.pointer (some ⟨wr.heap.size, 0, none⟩), .pointer (some ⟨wr.heap.size + 1, 0, none⟩)], batVal p.1.1 p.1.2, undef, undef, undef, undef, undef, undef, undef, undef, undef, undef, undef, undef, undef, undef], defers := [] })
      (fun p a' s W W' row hs hg hr => ⟨hs.choose, hs.choose_spec.1, block_own (β := Unit) w2.heap.size _ _ _ s W W' row hs.choose_spec.2.1 hg hr, hs.choose_spec.2.2⟩) ?assign ?body ?done ?stop
    case assign =>
      rintro l' pre ⟨⟨t, v⟩, hrecs, hfew, hok⟩ W K hi hK
      obtain ⟨_, ⟨_, A6, c6, hv6, _⟩, _⟩ := id hrecs
      have hv7 : v = .slice A6 t.recs.length c6 := hv6
      clear hv6
      subst hv7
      unfold batVal
      gi_wp2
      exact hK _ _ (keeps_of_below (below1 W _)) (kp_of_below (below1 W _)) (EI.own ⟨v6, v7, v8⟩ (row := none) hi ⟨(below1 W _).os, (below1 W _).tape, (below1 W _).output, (below1 W _).size, fun k hk _ => (below1 W _).block k hk⟩ (fun r e => by cases e)) ⟨W.heap.size, hi.size, heap_alloc_new _ _, rfl⟩
    case body =>
      rintro l' pre ⟨⟨t, v⟩, hrecs, hfew, hok⟩ a' W hl' ⟨r, hr⟩ hOI ⟨Bx, hBx, hbx, rfl⟩ hlen
      have HI := Seg.hid hOI
      obtain ⟨H, ⟨_, A6, c6, hv6, hrow⟩, hh⟩ := id hrecs
      have hv7 : v = .slice A6 t.recs.length c6 := hv6
      clear hv6 hr
      subst hv7
      have hbx' : W.heap[Bx]? = some (.cells (BatW.batArr t (.slice A6 t.recs.length c6)) 40 (0, 0)) := hbx
      have BX := Seg.hid hbx'
      have hsW := hOI.size
      have hBxl : Bx < W.heap.size := (Array.getElem?_eq_some_iff.1 hbx').1
      have e0 : W.cell? ⟨Bx, 0, none⟩ = some (.int .i64 t.base) := cell_of_row W Bx 0 _ _ (0, 0) hbx'
      have e1 : W.cell? ⟨Bx, 1, none⟩ = some (.int .i64 t.epoch) := cell_of_row W Bx 1 _ _ (0, 0) hbx'
      have x0 : W.cell? ⟨w.heap.size + 1, 0, none⟩ = some (.int .i64 x) := cell_of_row W (w.heap.size + 1) 0 _ _ (0, 0) ((hOI.kp (w.heap.size + 1) (by omega) (by omega) (by omega)).trans X2.out)
      obtain ⟨fv, hfv⟩ : ∃ fv, lastE 0 (pre.map bt) = fv := ⟨_, rfl⟩
      obtain ⟨sv, hsv⟩ : ∃ sv, sm (pre.map bt) = sv := ⟨_, rfl⟩
      have q6 := hOI.f
      have q7 := hOI.e
      have q8 := hOI.s
      rw [hfv] at q6
      rw [hsv] at q8
      have Q6 := Seg.hid q6; have Q7 := Seg.hid q7; have Q8 := Seg.hid q8
      have f6 : W.cell? ⟨a6, 0, none⟩ = some (.int .i64 fv) := cell_of_row W a6 0 _ _ (0, 0) q6
      have f7 : W.cell? ⟨a7, 0, none⟩ = some (.int .i64 l.next) := cell_of_row W a7 0 _ _ (0, 0) q7
      have f8 : W.cell? ⟨a8, 0, none⟩ = some (.bool sv) := cell_of_row W a8 0 _ _ (0, 0) q8
      have g6 := frozen_of_row W a6 0 _ _ q6
      have g7 := frozen_of_row W a7 0 _ _ q7
      have g8 := frozen_of_row W a8 0 _ _ q8
      have HFV := Seg.hid hfv; have HSV := Seg.hid hsv
      clear hOI hbx hbx' hrow hh q6 q7 q8 hfv hsv
      have y6 : a6 < W.heap.size := by omega
      have y7 : a7 < W.heap.size := by omega
      have y8 : a8 < W.heap.size := by omega
      by_cases hx : x < t.epoch
      · have hd : decide (x < t.epoch) = true := decide_eq_true hx
        gi_wp2
        refine ⟨⟨by simp, fun q o' h1' h2' h3' => ?_⟩, rfl, ⟨pre.map bt, t, by rw [List.map_append]; rfl, HI.out.none, hx, ?_, ?_, ?_⟩, fun y h1 h2 h3 h4 => ?_, HI.out.os, by simpa using hsW⟩
        · exact (heap_setCell_other _ _ _ _ (by show q ≠ a7; omega)).trans h2'
        · rw [heap_setCell_other _ _ _ _ (by show a6 ≠ a7; omega), HFV.out]; exact Q6.out
        · exact heap_setCell_same W a7 0 _ _ _ Q7.out
        · rw [heap_setCell_other _ _ _ _ (by show a8 ≠ a7; omega), HSV.out]; exact Q8.out
        · exact (heap_setCell_other _ _ _ _ (by show y ≠ a7; exact h3)).trans (HI.out.kp y h1 h2 h4)
      · have hd : decide (x < t.epoch) = false := decide_eq_false hx
        gi_wp2
        refine ⟨⟨by simp, fun q o' h1' h2' h3' => ?_⟩, ⟨rfl, rfl, rfl, by simp, fun k hk hne => ?_⟩, fun y hy => ?_, ?_, ?_, ?_, fun y h1 h2 h3 => ?_, HI.out.os, by simpa using hsW⟩
        · exact (heap_setCell_other _ _ _ _ (by show q ≠ a8; omega)).trans ((heap_setCell_other _ _ _ _ (by show q ≠ a6; omega)).trans h2')
        · exact (heap_setCell_other _ _ _ _ (fun e => hne (.inl ((HVV.out k).2 (.inr e))))).trans (heap_setCell_other _ _ _ _ (fun e => hne (.inl ((HVV.out k).2 (.inl e)))))
        · rw [List.map_append] at hy
          rcases List.mem_append.1 hy with hy | hy
          · exact HI.out.none y hy
          · rw [List.mem_singleton.1 hy]; show ¬ x < t.epoch; omega
        · rw [List.map_append, show [(⟨(t, .slice A6 t.recs.length c6), hrecs, hfew, hok⟩ : It w2 lo b)].map bt = [t] from rfl, lastE_app, heap_setCell_other _ _ _ _ (by show a6 ≠ a8; omega)]
          exact heap_setCell_same W a6 0 _ _ _ Q6.out
        · rw [heap_setCell_other _ _ _ _ (by show a7 ≠ a8; omega), heap_setCell_other _ _ _ _ (by show a7 ≠ a6; omega)]
          exact Q7.out
        · rw [List.map_append, show [(⟨(t, .slice A6 t.recs.length c6), hrecs, hfew, hok⟩ : It w2 lo b)].map bt = [t] from rfl, sm_app]
          exact heap_setCell_same _ a8 0 _ _ _ ((heap_setCell_other _ _ _ _ (by show a8 ≠ a6; omega)).trans Q8.out)
        · exact (heap_setCell_other _ _ _ _ (by show y ≠ a8; exact h3)).trans ((heap_setCell_other _ _ _ _ (by show y ≠ a6; exact h2)).trans (HI.out.kp y h1 h2 h3))
    case done =>
      rintro D ys W hD hS hI hK
      have hz := hI.size
      have k0 := (hI.kp w.heap.size (by omega) (by omega) (by omega)).trans T2.out
      obtain ⟨c0, c1, c2, c3⟩ := four k0
      have HE : Hid (endF l x = if sm (ys.map bt) = true then (lastE 0 (ys.map bt), l.next) else (0, l.start)) := by
        show _ = _
        unfold endF
        rw [← hS, endB_all hI.none, told_of (fun y hy => by rw [hS] at hy; exact epoch0 (okB_flat K1.out y hy))]
      have BE : Hid (Below w.heap.size w W) := hI.below B2.out (by omega) (by omega)
      have q6 := hI.f
      have q7 := hI.e
      have q8 := hI.s
      generalize lastE 0 (ys.map bt) = fv at *
      generalize sm (ys.map bt) = sv at *
      have f6 : W.cell? ⟨a6, 0, none⟩ = some (.int .i64 fv) := cell_of_row W a6 0 _ _ (0, 0) q6
      have f7 : W.cell? ⟨a7, 0, none⟩ = some (.int .i64 l.next) := cell_of_row W a7 0 _ _ (0, 0) q7
      have f8 : W.cell? ⟨a8, 0, none⟩ = some (.bool sv) := cell_of_row W a8 0 _ _ (0, 0) q8
      clear hI q6 q7 q8 k0 c1 c2 c3 hS
      cases sv with
      | false =>
        gi_wp2
        rename_i Kb aKb
        refine wpIn_wide.2 ?_
        go_quiet (fail)
        refine aKb _ _ ?_
        gi_wp2
        refine ⟨by simp, .inl ⟨_, _, rfl, run_takeDeferred hK, ?_⟩⟩
        exact ⟨_, results_tmp2 rfl _ _ _, by rw [HE.out]; rfl, (⟨BE.out.os, BE.out.tape, BE.out.output, BE.out.size, BE.out.block⟩ : Below w.heap.size w (W.drewN _)).trans (belowK_b (w := w) (Nat.le_refl _) (W.drewN _) D _ _ (by omega) hK rfl rfl)⟩
      | true =>
        gi_wp2
        rename_i Kb aKb
        refine wpIn_wide.2 ?_
        go_quiet (fail)
        refine aKb _ _ ?_
        gi_wp2
        refine ⟨by simp, .inl ⟨_, _, rfl, run_takeDeferred hK, ?_⟩⟩
        exact ⟨_, results_tmp2 rfl _ _ _, by rw [HE.out]; rfl, (⟨BE.out.os, BE.out.tape, BE.out.output, BE.out.size, BE.out.block⟩ : Below w.heap.size w (W.drewN _)).trans (belowK_b (w := w) (Nat.le_refl _) (W.drewN _) D _ _ (by omega) hK rfl rfl)⟩
    case stop =>
      rintro D c' pre W hD hS hX hK
      obtain rfl := hX.code
      have hz := hX.size
      have k0 := (hX.kp w.heap.size (by omega) (by omega) (by omega) (by omega)).trans T2.out
      obtain ⟨c0, c1, c2, c3⟩ := four k0
      obtain ⟨p, y, v1, v2, v3, q6, q7, q8⟩ := hX.val
      have HE : Hid (endF l x = if sm p = true then (lastE 0 p, y.base) else (0, l.start)) := by
        show _ = _
        obtain ⟨rest, hrest⟩ := hS
        unfold endF
        rw [← hrest, v1, List.append_assoc, show [y] ++ rest = y :: rest from rfl, endB_stop v2 v3, told_of (fun z hz => epoch0 (okB_flat K1.out z (by rw [← hrest, v1]; simp [hz])))]
      have BE : Hid (Below w.heap.size w W) := hX.below B2.out (by omega) (by omega) (by omega)
      generalize lastE 0 p = fv at *
      generalize sm p = sv at *
      have f6 : W.cell? ⟨a6, 0, none⟩ = some (.int .i64 fv) := cell_of_row W a6 0 _ _ (0, 0) q6
      have f7 : W.cell? ⟨a7, 0, none⟩ = some (.int .i64 y.base) := cell_of_row W a7 0 _ _ (0, 0) q7
      have f8 : W.cell? ⟨a8, 0, none⟩ = some (.bool sv) := cell_of_row W a8 0 _ _ (0, 0) q8
      clear hX q6 q7 q8 k0 c1 c2 c3 hS v1 v2 v3
      cases sv with
      | false =>
        gi_wp2
        rename_i Kb aKb
        refine wpIn_wide.2 ?_
        go_quiet (fail)
        refine aKb _ _ ?_
        gi_wp2
        refine ⟨by simp, .inl ⟨_, _, rfl, run_takeDeferred hK, ?_⟩⟩
        exact ⟨_, results_tmp2 rfl _ _ _, by rw [HE.out]; rfl, (⟨BE.out.os, BE.out.tape, BE.out.output, BE.out.size, BE.out.block⟩ : Below w.heap.size w (W.drewN _)).trans (belowK_b (w := w) (Nat.le_refl _) (W.drewN _) D _ _ (by omega) hK rfl rfl)⟩
      | true =>
        gi_wp2
        rename_i Kb aKb
        refine wpIn_wide.2 ?_
        go_quiet (fail)
        refine aKb _ _ ?_
        gi_wp2
        refine ⟨by simp, .inl ⟨_, _, rfl, run_takeDeferred hK, ?_⟩⟩
        exact ⟨_, results_tmp2 rfl _ _ _, by rw [HE.out]; rfl, (⟨BE.out.os, BE.out.tape, BE.out.output, BE.out.size, BE.out.block⟩ : Below w.heap.size w (W.drewN _)).trans (belowK_b (w := w) (Nat.le_refl _) (W.drewN _) D _ _ (by omega) hK rfl rfl)⟩
  clear aK
  obtain ⟨c0, c1, c2, c3⟩ := four T1.out
  have hw0 : w.heap.size < w1.heap.size := by omega
  have hw01 : w.heap.size < w1.heap.size + 1 := by omega
  have hw02 : w.heap.size < w1.heap.size + 1 + 1 := by omega
  clear c0 c2 c3
  go_region
  all_goals
    refine J _ _ _ _ ⟨?_, ?_, ?_, (three w1 _ _ _).2.2.2, ⟨by omega, by omega, by omega⟩, ⟨by omega, by omega, by omega⟩⟩ <;> first | exact (three w1 _ _ _).1 | exact (three w1 _ _ _).2.1 | exact (three w1 _ _ _).2.2.1
theorem end_any (v : Value) (l : Lg) (x : Int) (w : World) (lo b : Nat) (hv : LogAt w lo b v l) (hb : b ≤ w.heap.size) (hf : FewL l) :
    Calls Try.prog 7 #[v, .int .i64 x] w fun e w' => e = .returned (.tuple #[.int .i64 (endOf l x).1, .int .i64 (endOf l x).2]) ∧ Below w.heap.size w w' := by
  obtain ⟨sv, rfl, hs⟩ := hv
  obtain ⟨_, ⟨_, A, c, rfl, _⟩, _⟩ := id hs
  have HS := Seg.hid hs
  have HV : Hid (LogAt w lo b (logVal l (.slice A l.segs.length c)) l) := ⟨_, rfl, hs⟩
  have HF := Seg.hid hf
  clear hs hf
  unfold logVal at HV ⊢
  go_enter Try.func7, Try.ntmps7
  go_wp2_with fail
  refine (LgI.impl_any _ l (w.alloc _) lo b (HV.out.below ((below1 w _).mono hb)) (by rw [hsz]; omega) HF.out).mono ?_
  rintro e w1 ⟨rfl, b1⟩
  have B1 := Seg.hid (chain (below1 w _) b1)
  have T1 : Hid (w1.heap[w.heap.size]? = some (.cells (logArr l (.slice A l.segs.length c)) 30 (0, 0))) := (b1.block w.heap.size (by rw [hsz]; omega)).trans (heap_alloc_new _ _)
  have s1 := b1.size
  rw [hsz] at s1
  clear b1
  cases hok : logOk l with
  | false =>
    have HC : Hid (endOf l x = (0, 0)) := by show _ = _; simp [endOf, hok]
    clear hok
    go_wp2_with fail
    (try simp only [Exit.inBlock, Exit.then])
    refine bodyPost_ret (results_tmp2 rfl _ _ _) rfl ?_
    exact ⟨by rw [HC.out]; rfl, B1.out⟩
  | true =>
    have HC : Hid (endOf l x = endF l x) := by show _ = _; simp [endOf, hok]
    have HOK := Seg.hid hok
    clear hok
    obtain ⟨c0, c1, c2, c3⟩ := four T1.out
    go_wp2_with fail
    refine (end_core l x A c w1 lo b (by omega) HF.out HOK.out (HS.out.below (B1.out.mono hb))).mono ?_
    rintro e w2 ⟨rfl, b2⟩
    have B2 := Seg.hid (chain B1.out b2)
    clear b2
    generalize endF l x = r at *
    go_wp2_with fail
    (try simp only [Exit.inBlock, Exit.then])
    refine bodyPost_ret (results_tmp2 rfl _ _ _) rfl ?_
    exact ⟨by rw [HC.out]; rfl, B2.out⟩
end Go.Proofs.Yteaiceeapambdaa.Eo
