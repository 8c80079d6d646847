/- LogOk of the program: at every log; The program's OffsetAt. -/
import Derived.Scope
import Derived.Test.YtojalklkpnaofaaJF20
import Derived.Test.YtojalklkpnaofaaJF15
import Derived.Test.YtojalklkpnaofaaJF19
namespace Go.Proofs.Ytojalklkpnaofaa.LgI
set_option maxRecDepth 8000
open Go.RowKit
open LgP (inR many logOk)
open Bats SegW Segs LogW
open Recs (hsz Row below1 below2 BatAt RecsAt batVal Bat chain)
set_option linter.unusedVariables false
set_option maxHeartbeats 800000 in
theorem impl_zero (l : Lg) (A : Option Addr) (c : Nat) (w : World) (lo b : Nat) (hs : SegsAt w lo b (.slice A 0 c) l.segs) (hb : b ≤ w.heap.size) (hf : FewL l) (h : LgP.bounds l = true) (h2 : LgP.counts l.segs = true) (hz : l.segs.length = 0) :
    Calls Try.prog 20 #[logVal l (.slice A 0 c)] w fun e w' => e = .returned (.bool true) ∧ Below w.heap.size w w' := by
  have HS := Seg.hid hs
  have hnx : 0 ≤ l.next := by
    simp only [LgP.bounds, inR, Bool.and_eq_true, decide_eq_true_eq] at h
    omega
  have HB := Seg.hid h
  have HC := Seg.hid h2
  clear h h2 hs
  unfold logVal
  go_enter Try.func20, Try.ntmps20
  go_wp2_with fail
  refine (bounds_any l.start l.next l.roll _ true HB.out _).mono ?_
  rintro e w1 ⟨rfl, b1⟩
  have B1 := Seg.hid (chain (below1 w _) b1)
  have T1 : w1.heap[w.heap.size]? = some (.cells (logArr l (.slice A 0 c)) 29 (0, 0)) := (b1.block w.heap.size (by rw [hsz]; omega)).trans (heap_alloc_new _ _)
  have c3 : w1.cell? ⟨w.heap.size, 3, none⟩ = some (.slice A 0 c) := cell_of_row w1 _ 3 _ _ (0, 0) T1
  have hs1 := b1.size
  rw [hsz] at hs1
  have TT := Seg.hid T1
  clear b1 T1
  go_wp2_with fail
  refine (counts_any _ l.segs w1 lo b true HC.out (HS.out.below (B1.out.mono hb)) (Nat.le_trans hb B1.out.size) hf.1.1 hf.1.2).mono ?_
  rintro e w2 ⟨rfl, b2⟩
  have B2 := Seg.hid (chain B1.out b2)
  have T2 := (b2.block w.heap.size (by omega)).trans TT.out
  have d3 : w2.cell? ⟨w.heap.size, 3, none⟩ = some (.slice A 0 c) := cell_of_row w2 _ 3 _ _ (0, 0) T2
  have d1 : w2.cell? ⟨w.heap.size, 1, none⟩ = some (.int .i64 l.next) := cell_of_row w2 _ 1 _ _ (0, 0) T2
  clear b2 TT c3 T2
  go_wp2_with fail
  go_loop [3, 4, 21] (fun fr ep i => fr = .int .i64 0 ∧ ep = .int .i64 0 ∧ i = .int .i64 0) (fun _ _ _ => 0)
  case atStart => exact ⟨rfl, rfl, rfl⟩
  case round =>
    obtain ⟨rfl, rfl, rfl⟩ := hrel
    go_wp2
    go_ret
    exact ⟨rfl, B2.out⟩
theorem impl_any (v : Value) (l : Lg) (w : World) (lo b : Nat) (hv : LogAt w lo b v l) (hb : b ≤ w.heap.size) (hf : FewL l) :
    Calls Try.prog 20 #[v] w fun e w' => e = .returned (.bool (logOk l)) ∧ Below w.heap.size w w' := by
  unfold logOk
  cases h1 : LgP.bounds l with
  | false => exact impl_no1 v l w lo b hv hb h1
  | true =>
  cases h2 : LgP.counts l.segs with
  | false => exact impl_no2 v l w lo b hv hb hf h1 h2
  | true =>
  obtain ⟨rv, rfl, hs⟩ := hv
  have hs' := hs
  obtain ⟨H, ⟨hn, A, c, rfl, h⟩, hh⟩ := hs'
  by_cases hz : l.segs.length = 0
  · have e : (true && (true && LgP.stands l.next (LgP.segs 0 0 l.segs))) = true := by
      rw [List.length_eq_zero_iff.1 hz]
      simp only [LgP.bounds, inR, Bool.and_eq_true, decide_eq_true_eq] at h1
      simp [LgP.segs, LgP.stands]
      omega
    rw [e]
    rw [hz] at hs ⊢
    exact impl_zero l A c w lo b hs hb hf h1 h2 hz
  obtain ⟨g, o, rfl, hg, hc, hcell, _⟩ := h.resolve_left hz
  exact impl_core l g o c H w lo b hs hb hf h1 h2 hc (by omega) hh hcell
end Go.Proofs.Ytojalklkpnaofaa.LgI
namespace Go.Proofs.Ytojalklkpnaofaa.Of
set_option maxRecDepth 8000
open Go.RowKit Go.Shelf
open Recs
open Bats SegW Segs LogW BfP OfP BfI
open LgP (logOk)
set_option linter.unusedVariables false
attribute [local go_sem] Oper.semAt_some
theorem batchesFrom_any (v : Value) (x : Int) (A : Option Addr) (m c : Nat) (w : World) (hv : v = .slice A m c) :
    Calls Try.prog 21 #[v, .int .i64 x] w fun e w' => e = .returned (.func (.func 41) #[] #[.pointer (some ⟨w.heap.size, 0, none⟩), .pointer (some ⟨w.heap.size + 1, 0, none⟩)]) ∧ w'.cell? ⟨w.heap.size, 0, none⟩ = some v ∧ w'.cell? ⟨w.heap.size + 1, 0, none⟩ = some (.int .i64 x) ∧ Below w.heap.size w w' ∧ w'.heap.size = w.heap.size + 2 := by
  subst hv
  go_enter Try.func21, Try.ntmps21
  go_wp2_with fail
  go_ret
  refine ⟨rfl, ?_, ?_, below2 w _ _, by rw [hsz, hsz]⟩
  · exact cell_of_row _ w.heap.size 0 _ _ (0, 0) (((below1 _ _).block _ (by rw [hsz]; omega)).trans (heap_alloc_new _ _))
  · have := heap_alloc_new (w.alloc (.cells #[.slice A m c] 27 (0, 0))) (.cells #[.int .i64 x] 3 (0, 0))
    rw [hsz] at this
    exact cell_of_row _ (w.heap.size + 1) 0 _ _ (0, 0) this
/-- What has come ends at the batch that has it. -/
def Stp {w0 : World} {lo b : Nat} (start x : Int) (pre : List (It w0 lo b)) (v : Int) : Prop := ∃ p y, pre.map bt = p ++ [y] ∧ (∀ z ∈ p, hitB start x z = none) ∧ hitB start x y = some v
theorem kp_of_below {V : Nat → Prop} {n₀ : Nat} {W W' : World} (h : Below W.heap.size W W') : Kp V n₀ W W' := ⟨h.os, h.tape, h.output, h.size, fun k hk _ => h.block k hk⟩
theorem keeps_of_below {B : Nat} {W W' : World} (h : Below W.heap.size W W') : KeepsFrom B W W' := ⟨h.size, fun k o _ hk _ => (h.block k (Array.getElem?_eq_some_iff.1 hk).1).trans hk⟩
theorem block_own {β : Type} (B : Nat) (g ty : Nat) (cs : Array Value) : OwnFrom B (fun (_ : β) W => W.heap[g]? = some (.cells cs ty (0, 0))) := fun _ W W' row hs hg hr => (hg.block g (Array.getElem?_eq_some_iff.1 hs).1 (fun e => by
  obtain ⟨_, o, ho, hc⟩ := hr g e.symm
  rw [hs] at ho
  cases ho
  cases hc)).trans hs
/-- Between two rounds. -/
structure OI (start x : Int) (w2 : World) {w0 : World} {lo b : Nat} (pre : List (It w0 lo b)) (W : World) : Prop where
  none : ∀ y ∈ pre.map bt, hitB start x y = Option.none
  bel : Below w2.heap.size w2 W
/-- Behind a round that has left. -/
structure OX (start x : Int) (w : World) (g : Nat) (c : Code) {w0 : World} {lo b : Nat} (pre : List (It w0 lo b)) (W : World) : Prop where
  code : c = .exit 0
  val : ∃ v, W.cell? ⟨g, 0, Option.none⟩ = some (.int .i64 v) ∧ Stp start x pre v
  bel : Below w.heap.size w W
set_option maxHeartbeats 3200000 in
theorem offset_core (l : Lg) (x : Int) (A : Option Addr) (c : Nat) (w : World) (lo b : Nat) (hb : b ≤ w.heap.size) (hf : FewL l) (hs : SegsAt w lo b (.slice A l.segs.length c) l.segs) :
    Calls Try.prog 8 #[logVal l (.slice A l.segs.length c), .int .i64 x] w fun e w' => e = .returned (.int .i64 (offs l x)) ∧ Below w.heap.size w w' := by
  have HS := Seg.hid hs
  have HV : Hid (LogAt w lo b (logVal l (.slice A l.segs.length c)) l) := ⟨_, rfl, hs⟩
  have HF := Seg.hid hf
  clear hs hf
  unfold logVal at HV ⊢
  refine (callsIn_wide (n := 5)).1 ?_
  refine callsIn_of_wp_marks Try.func8 rfl trivial ?_ rfl
  simp only [Try.ntmps8, List.size_toArray, List.length_cons, List.length_nil, Nat.reduceAdd, Nat.reduceSub, Array.replicate_succ, Array.replicate_zero, List.push_toArray, List.append_toArray, List.nil_append, List.cons_append]
  gi_wp2
  refine wpIn_wide.2 (wp_scope_straight ((wpIn_wide (n := 5)).1 ?_))
  gi_wp2
  refine ⟨trivial, ?_⟩
  refine (callsIn_wide.2 (LgI.impl_any _ l ((w.alloc _).alloc _) lo b (HV.out.below ((below2 w _ _).mono hb)) (by rw [hsz, hsz]; omega) HF.out)).mono ?_
  rintro e w1 ⟨rfl, b1⟩
  have B1 := Seg.hid (chain (below2 w _ _) b1)
  have T1 : Hid (w1.heap[w.heap.size]? = some (.cells (logArr l (.slice A l.segs.length c)) 29 (0, 0))) := (b1.block w.heap.size (by rw [hsz, hsz]; omega)).trans (((below1 _ _).block _ (by rw [hsz]; omega)).trans (heap_alloc_new _ _))
  have X1 : Hid (w1.heap[w.heap.size + 1]? = some (.cells #[.int .i64 x] 3 (0, 0))) := (b1.block (w.heap.size + 1) (by rw [hsz, hsz]; omega)).trans (by have := heap_alloc_new (w.alloc (.cells #[.int .i64 l.start, .int .i64 l.next, .int .i64 l.roll, .slice A l.segs.length c] 29 (0, 0))) (.cells #[.int .i64 x] 3 (0, 0)); rw [hsz] at this; exact this)
  have s1 := b1.size
  rw [hsz, hsz] at s1
  clear b1
  cases hok : logOk l with
  | false =>
    have HC : Hid (offs l x = -1) := by show _ = _; simp [offs, hok]
    clear hok
    gi_wp2
    exact ⟨_, results_tmp rfl _ _ _, by rw [HC.out]; rfl, B1.out⟩
  | true =>
  have HC : Hid (offs l x = offAt l.start x (fromB l.start (flatB l.segs))) := by show _ = _; rw [off_from]; simp [offs, hok]
  obtain ⟨f, k1, k2, k3, k4, k5, k6, k7⟩ := ok_all hok
  have K1 := Seg.hid k1
  have FL : (flatB l.segs).length ≤ 400 := by rw [flat_count]; exact k7
  clear hok k1
  obtain ⟨c0, c1, c2, c3⟩ := four T1.out
  have hw1 : w.heap.size < w1.heap.size := by omega
  gi_wp2
  rename_i K aK
  refine wpIn_label ?_
  refine aK _ _ ?_
  clear aK
  gi_wp2
  refine ⟨trivial, ?_⟩
  refine (callsIn_wide.2 (batchesFrom_any _ l.start A l.segs.length c (w1.alloc _) rfl)).mono ?_
  rintro e w2 ⟨rfl, a1, a2, b2, a3⟩
  rw [hsz] at a1 a2 a3
  gi_wp2
  have b12 := Seg.hid (chain (below1 w1 _) b2)
  have B2 := Seg.hid (chain B1.out b12.out)
  have FND : Hid (w2.heap[w1.heap.size]? = some (.cells #[.int .i64 (-1)] 3 (0, 0))) := (b2.block w1.heap.size (by rw [hsz]; omega)).trans (heap_alloc_new _ _)
  have T2 := Seg.hid ((b12.out.block w.heap.size (by omega)).trans T1.out)
  have X2 := Seg.hid ((b12.out.block (w.heap.size + 1) (by omega)).trans X1.out)
  have hs2 : w1.heap.size + 2 < w2.heap.size := by omega
  have BIG : w.heap.size ≤ w2.heap.size := B2.out.size
  have HS2 := Seg.hid (HS.out.below (B2.out.mono hb))
  clear b2 c0 c1 c2 c3
  have HSTOP := stops 4 (by omega) (fun _ => False) w2.heap.size 400 (w1.heap.size + 1) (w1.heap.size + 1 + 1) lo b c A l.start f l.segs w2 HS2.out (by omega) (Nat.le_refl _) (fun k h => h.elim) a1 (by omega) a2 (by omega) (by omega) (fun i hi => HF.out.1.2 i hi) K1.out (Nat.le_trans (List.length_filter_le _ _) FL)
  clear a1 a2 a3
  refine wpIn_rangeFunc_ownH rfl (by omega) (gf := 41) (lb := #[.pointer (some ⟨w1.heap.size + 1, 0, none⟩), .pointer (some ⟨w1.heap.size + 1 + 1, 0, none⟩)]) rfl trivial (enters_of Try.func41 (by kernel_rfl) rfl)
    HSTOP kp_t (kp_b (Nat.le_refl _)) (Below.refl _ _) (fun _ => rfl)
    (fun pre W => OI l.start x w2 pre W)
    (fun c' pre W => OX l.start x w w1.heap.size c' pre W)
    (fun s A B row hs hg hr => ⟨hs.none, ownFrom_below (β := Unit) (Nat.le_refl _) (Nat.le_refl _) () A B row hs.bel hg hr⟩)
    (fun c' s A B row hs hg hr => ⟨hs.code, ⟨hs.val.choose, cell_kept hs.val.choose_spec.1 hg (fun r e => (hr r e).2), hs.val.choose_spec.2⟩, ownFrom_below (β := Unit) (Nat.le_refl _) BIG () A B row hs.bel hg hr⟩)
    ⟨fun y hy => by simp at hy, Below.refl _ _⟩
    (fun p a' W => ∃ Bx, w2.heap.size ≤ Bx ∧ W.heap[Bx]? = some (.cells (BatW.batArr p.1.1 p.1.2) 44 (0, 0)) ∧ a' = { tmps := #[.agg #[.int .i64 l.start, .int .i64 l.next, .int .i64 l.roll, .slice A l.segs.length c], .int .i64 x, .pointer (some ⟨w.heap.size, 0, none⟩), .pointer (some ⟨w.heap.size + 1, 0, none⟩), .int .i64 0, .pointer (some ⟨w1.heap.size, 0, none⟩), .pointer (some ⟨Bx, 0, none⟩), undef, undef, .agg #[.int .i64 l.start, .int .i64 l.next, .int .i64 l.roll, .slice A l.segs.length c], .bool true, .bool false, .pointer (some ⟨w.heap.size, 3, none⟩), .slice A l.segs.length c, .pointer (some ⟨w.heap.size, 0, none⟩), .int .i64 l.start, .func (.func 41) #[] #[.pointer (some ⟨w1.heap.size + 1, 0, none⟩), .pointer (some ⟨w1.heap.size + 1 + 1, 0, none⟩)], batVal p.1.1 p.1.2, undef, undef, undef, undef, undef, undef, undef, undef, undef, undef, undef, undef, undef, undef, undef, undef, undef, undef, undef, undef, undef, undef, undef, undef, undef, undef, undef], defers := [] })
    (fun p a' s W W' row hs hg hr => ⟨hs.choose, hs.choose_spec.1, block_own (β := Unit) w2.heap.size _ _ _ s W W' row hs.choose_spec.2.1 hg hr, hs.choose_spec.2.2⟩) ?assign ?body ?done ?stop
  case assign =>
    rintro l' pre ⟨⟨t, v⟩, hrecs, hfew, hok⟩ W K hi hK
    obtain ⟨_, ⟨_, A6, c6, hv6, _⟩, _⟩ := id hrecs
    have hv7 : v = .slice A6 t.recs.length c6 := hv6
    clear hv6
    subst hv7
    unfold batVal
    gi_wp2
    exact hK _ _ (keeps_of_below (below1 W _)) (kp_of_below (below1 W _)) ⟨hi.none, hi.bel.alloc hi.bel.size _⟩ ⟨W.heap.size, hi.bel.size, heap_alloc_new _ _, rfl⟩
  case body =>
    rintro l' pre ⟨⟨t, v⟩, hrecs, hfew, hok⟩ a' W hl' ⟨r, hr⟩ hOI ⟨Bx, hBx, hbx, rfl⟩ hlen
    obtain ⟨hnone, hB⟩ := hOI
    obtain ⟨H, ⟨_, A6, c6, hv6, hrow⟩, hh⟩ := id hrecs
    have HHD := Seg.hid hh
    have hv7 : v = .slice A6 t.recs.length c6 := hv6
    clear hv6 hr
    subst hv7
    have hrow' : t.recs.length = 0 ∨ ∃ g o, A6 = some ⟨g, o, none⟩ ∧ g < b ∧ t.recs.length ≤ c6 ∧ (∀ i, i < t.recs.length → ∀ j, j < 6 → w2.cell? ⟨g, o + i * 6 + j, none⟩ = some (recCells t.recs H i j)) ∧ lo ≤ g := hrow
    have HROW := Seg.hid hrow'
    have OKT := LgP.okLen (b := t) hok
    have hbx' : W.heap[Bx]? = some (.cells (BatW.batArr t (.slice A6 t.recs.length c6)) 44 (0, 0)) := hbx
    have BX := Seg.hid hbx'
    have HN := Seg.hid hnone
    have BW := Seg.hid hB
    have hsW := hB.size
    have hBxl : Bx < W.heap.size := (Array.getElem?_eq_some_iff.1 hbx').1
    have CEL : Hid (∀ wx, Below W.heap.size W wx → wx.cell? ⟨Bx, 0, none⟩ = some (.int .i64 t.base) ∧ wx.cell? ⟨Bx, 6, none⟩ = some (.slice A6 t.recs.length c6) ∧ wx.cell? ⟨w.heap.size, 0, none⟩ = some (.int .i64 l.start) ∧ wx.cell? ⟨w.heap.size + 1, 0, none⟩ = some (.int .i64 x) ∧ wx.cell? ⟨w1.heap.size, 0, none⟩ = some (.int .i64 (-1)) ∧ wx.frozen? ⟨w1.heap.size, 0, none⟩ = false) := fun wx bx => by
      have q1 := (bx.block Bx hBxl).trans BX.out
      have q2 := (bx.block w.heap.size (by omega)).trans ((BW.out.block w.heap.size (by omega)).trans T2.out)
      have q3 := (bx.block (w.heap.size + 1) (by omega)).trans ((BW.out.block (w.heap.size + 1) (by omega)).trans X2.out)
      have q4 := (bx.block w1.heap.size (by omega)).trans ((BW.out.block w1.heap.size (by omega)).trans FND.out)
      exact ⟨cell_of_row wx Bx 0 _ _ (0, 0) q1, cell_of_row wx Bx 6 _ _ (0, 0) q1, (four q2).1, cell_of_row wx (w.heap.size + 1) 0 _ _ (0, 0) q3, cell_of_row wx w1.heap.size 0 _ _ (0, 0) q4, frozen_of_row wx w1.heap.size 0 _ _ q4⟩
    clear hnone hB hbx hbx' hrow hrow' hh
    obtain ⟨e0, e6, _⟩ := CEL.out W (Below.refl _ _)
    unfold batVal
    gi_wp2
    clear e0 e6
    gi_loopw [21] (fun i wk => ∃ (k : Nat), k ≤ t.recs.length ∧ i = .int .i64 k ∧ Hid ((∀ y, y < k → qu l.start x t y = false) ∧ Below W.heap.size W wk)) (fun i _ => t.recs.length - (intOf i).toNat)
    case atStart => exact ⟨0, Nat.zero_le _, rfl, fun y hy => absurd hy (by omega), Below.refl _ _⟩
    case round =>
      obtain ⟨k, hk, rfl, HK⟩ := hrel
      obtain ⟨e0, e6, l0, x0, f0, f1⟩ := CEL.out wr HK.out.2
      have hsr := HK.out.2.size
      by_cases hkl : k < t.recs.length
      · have q0 : (0 : Int) ≤ (k : Int) := by omega
        have q1 : (k : Int) < (t.recs.length : Int) := by omega
        obtain ⟨g2, o2, rfl, hg2, hc2, hcell2, _⟩ := HROW.out.resolve_left (by omega)
        obtain ⟨r0, r1, r2, r3, r4, r5⟩ := RecsW.six (fun i hi q hq => by rw [HK.out.2.cell (p := ⟨g2, o2 + i * 6 + q, none⟩) (by show g2 < _; omega), BW.out.cell (p := ⟨g2, o2 + i * 6 + q, none⟩) (by show g2 < _; omega)]; exact hcell2 i hi q hq) k hkl
        obtain ⟨_, A7, c7, hH7, _⟩ : Heads w2 lo b (H k) (t.recs.getD k default).heads := HHD.out k hkl
        have NXK : Hid (qu l.start x t k = false → ∀ y, y < k + 1 → qu l.start x t y = false) := fun hn y hy => by
          by_cases e : y = k
          · rw [e]; exact hn
          · exact HK.out.1 y (by omega)
        have HIT : Hid (qu l.start x t k = true → hitB l.start x t = some (t.base + (k : Int))) := fun hq => hit_some HK.out.1 hkl hq
        have QK : Hid (qu l.start x t k = (decide (l.start ≤ t.base + (k : Int)) && decide (x ≤ (t.recs.getD k default).time))) := rfl
        have BLK := Seg.hid HK.out.2
        clear hcell2 HK
        rw [hH7] at r5
        clear hH7
        generalize t.recs.getD k default = rk at *
        have hk40 : (k : Int) ≤ 1000 := by omega
        have ht0 : 0 ≤ t.base := OKT.1
        have ht1 : t.base ≤ 1000000000 := OKT.2.1
        have hw1r : w1.heap.size < wr.heap.size := by omega
        have hwr : w.heap.size < wr.heap.size := by omega
        have hwr1 : w.heap.size + 1 < wr.heap.size := by omega
        have hBxr : Bx < wr.heap.size := by omega
        by_cases hA : l.start ≤ t.base + (k : Int)
        · have hd : decide (l.start ≤ t.base + (k : Int)) = true := decide_eq_true hA
          by_cases hB : x ≤ rk.time
          · have hd2 : decide (x ≤ rk.time) = true := decide_eq_true hB
            have HT := Seg.hid (HIT.out (by rw [QK.out, hd, hd2]; rfl))
            gi_wp2
            refine ⟨?_, rfl, ⟨t.base + (k : Int), ?_, ⟨pre.map bt, t, by rw [List.map_append]; rfl, HN.out, HT.out⟩⟩, ?_⟩
            · have hsz9 : wr.heap.size ≤ ((wr.setCell ⟨w1.heap.size, 0, none⟩ (.int .i64 (t.base + (k : Int)))).alloc (.cells #[.int .i64 rk.time, .bool rk.keyed, .string rk.key, .bool rk.gone, .string rk.val, .slice A7 rk.heads.length c7] 47 (0, 0))).heap.size := by rw [hsz, World.size_setCell]; omega
              refine ⟨by omega, fun q o' h1' h2' h3' => ?_⟩
              have hq : q < W.heap.size := (Array.getElem?_eq_some_iff.1 h2').1
              exact ((below1 _ _).block _ (by rw [World.size_setCell]; omega)).trans ((heap_setCell_other _ _ _ _ (by show q ≠ w1.heap.size; omega)).trans ((BLK.out.block q hq).trans h2'))
            · rw [(below1 (wr.setCell ⟨w1.heap.size, 0, none⟩ (.int .i64 (t.base + (k : Int)))) _).cell (p := ⟨w1.heap.size, 0, none⟩) (by rw [World.size_setCell]; exact hw1r)]
              exact World.cell?_setCell_same' _ _ _ (by rw [f0]; rfl)
            · exact chain (((B2.out.trans (BW.out.mono BIG)).trans (BLK.out.mono (by omega))).setCell (p := ⟨w1.heap.size, 0, none⟩) (by show w.heap.size ≤ w1.heap.size; omega) _) (below1 _ _)
          · have hd2 : decide (x ≤ rk.time) = false := decide_eq_false hB
            have NK := Seg.hid (NXK.out (by rw [QK.out, hd, hd2]; rfl))
            gi_wp2
            go_roundw
            case rel => exact ⟨k + 1, by omega, by go_num, NK.out, chain BLK.out (below1 wr _)⟩
            case measure => simp [intOf]; omega
        · have hd : decide (l.start ≤ t.base + (k : Int)) = false := decide_eq_false hA
          have NK := Seg.hid (NXK.out (by rw [QK.out, hd]; rfl))
          gi_wp2
          go_roundw
          case rel => exact ⟨k + 1, by omega, by go_num, NK.out, chain BLK.out (below1 wr _)⟩
          case measure => simp [intOf]; omega
      · have HN2 : Hid (∀ y ∈ (pre ++ [(⟨(t, .slice A6 t.recs.length c6), hrecs, hfew, hok⟩ : It w2 lo b)]).map bt, hitB l.start x y = none) := fun y hy => by
          rw [List.map_append, List.mem_append] at hy
          rcases hy with hy | hy
          · exact HN.out y hy
          · simp only [List.map_cons, List.map_nil, List.mem_singleton, bt] at hy
            rw [hy]
            exact hit_none (fun z hz => HK.out.1 z (by omega))
        have BLK := Seg.hid HK.out.2
        have q1 : ¬ (k : Int) < (t.recs.length : Int) := by omega
        clear HK
        gi_wp2
        exact ⟨keeps_of_below BLK.out, kp_of_below BLK.out, HN2.out, BW.out.trans (BLK.out.mono hsW)⟩
  case done =>
    rintro D ys W hD hS hI hK
    have q4 := (hI.bel.block w1.heap.size (by omega)).trans FND.out
    have f0 : W.cell? ⟨w1.heap.size, 0, none⟩ = some (.int .i64 (-1)) := cell_of_row W w1.heap.size 0 _ _ (0, 0) q4
    have HE : Hid (offs l x = -1) := by show _ = _; rw [HC.out, ← hS]; exact off_none' hI.none
    have BE : Hid (Below w.heap.size w W) := B2.out.trans (hI.bel.mono BIG)
    clear q4
    gi_wp2
    refine ⟨by simp, .inl ⟨_, _, rfl, run_takeDeferred hK, ?_⟩⟩
    exact ⟨_, results_tmp rfl _ _ _, by rw [HE.out]; rfl, BE.out.trans (belowK_b (w := w) (Nat.le_refl _) W D _ _ (by omega) hK rfl rfl)⟩
  case stop =>
    rintro D c' pre W hD hS hX hK
    obtain rfl := hX.code
    obtain ⟨v, f0, p, y, hp, hn, hy⟩ := hX.val
    have HE : Hid (offs l x = v) := by
      show _ = _
      obtain ⟨rest, hrest⟩ := hS
      rw [HC.out, ← hrest, hp, List.append_assoc]
      exact off_stop hn hy
    have BE : Hid (Below w.heap.size w W) := hX.bel
    clear hX hp hn hy hS
    gi_wp2
    refine ⟨by simp, .inl ⟨_, _, rfl, run_takeDeferred hK, ?_⟩⟩
    exact ⟨_, results_tmp rfl _ _ _, by rw [HE.out]; rfl, BE.out.trans (belowK_b (w := w) (Nat.le_refl _) W D _ _ (by omega) hK rfl rfl)⟩
theorem offset_any (v : Value) (l : Lg) (x : Int) (w : World) (lo b : Nat) (hv : LogAt w lo b v l) (hb : b ≤ w.heap.size) (hf : FewL l) :
    Calls Try.prog 8 #[v, .int .i64 x] w fun e w' => e = .returned (.int .i64 (offs l x)) ∧ Below w.heap.size w w' := by
  obtain ⟨sv, rfl, hs⟩ := hv
  obtain ⟨_, ⟨_, A, c, rfl, _⟩, _⟩ := id hs
  exact offset_core l x A c w lo b hb hf hs
end Go.Proofs.Ytojalklkpnaofaa.Of
