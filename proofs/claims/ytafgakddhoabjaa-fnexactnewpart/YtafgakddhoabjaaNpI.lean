/- NewPart of the program. -/
import Derived.Test.YtafgakddhoabjaaNpP
import Derived.Deep.Cut
namespace Go.Proofs.Ytafgakddhoabjaa.NpP
set_option maxRecDepth 8000
open Go.RowKit
open Ls Ow
open Recs (hsz below1 below2 chain chainD)
set_option linter.unusedVariables false
theorem onZ : (#[.slice none 0 0, .int .i64 0, .int .i64 0, .slice none 0 0, .slice none 0 0, .int .i64 0] : Array Value).all (·.oneCell') = true := by simp [Value.oneCell']
theorem on6 {a b c : Value} {l : Int} (ha : a.oneCell' = true) (hb : b.oneCell' = true) (hc : c.oneCell' = true) : (#[a, .int .i64 0, .int .i64 1, b, c, .int .i64 l] : Array Value).all (·.oneCell') = true := by
  have h1 : ∀ z : Int, (Value.int .i64 z).oneCell' = true := fun _ => rfl
  simp [ha, hb, hc, h1]
theorem one_of {w : World} {B e s n : Nat} {v : Value} {xs : List Value} (h : w.ownsRow B e s v n xs) : v.oneCell' = true := by
  rcases h.2 with ⟨rfl, _⟩ | ⟨g', cap', cur, rfl, _⟩ <;> rfl
theorem rws_nil (B : Nat) (w : World) (roll : Int) : Rws B w (ents roll 0 0 0 (.slice none 0 0) (.slice none 0 0) (.slice none 0 0)) := by
  refine ⟨fun i hi => ?_, fun i j hi hj hij x hx => ?_⟩
  · have hi3 : i < 3 := hi
    match i, hi3 with
    | 0, _ => exact World.ownsRow_nil _ _ _ _
    | 1, _ => exact World.ownsRow_nil _ _ _ _
    | 2, _ => exact World.ownsRow_nil _ _ _ _
  · have hi3 : i < 3 := hi
    match i, hi3 with
    | 0, _ => simp [ents, Value.ownBlock] at hx
    | 1, _ => simp [ents, Value.ownBlock] at hx
    | 2, _ => simp [ents, Value.ownBlock] at hx
theorem nl_form (roll : Int) : NewL.nl 0 roll = NewL.lv 0 0 (if inR 1 roll 20000 = true then roll else 0) := by
  have e : NewL.inR roll 1 20000 = inR 1 roll 20000 := rfl
  have e0 : NewL.inR 0 0 1000000000 = true := rfl
  unfold NewL.nl
  rw [e, e0, Bool.true_and]
  cases inR 1 roll 20000 <;> rfl
/-- The end: the variable's Part is stored into the result's block. -/
theorem done {w wr : World} {B pq k : Nat} {least roll : Int} {fr : Nat → Option Obj} {vR vI vK : Value} (h : Sp w wr B pq least roll fr k k k vR vI vK) (hk : k ≤ 5) (hr : wr.heap[w.heap.size]? = some (.cells #[.slice none 0 0, .int .i64 0, .int .i64 0, .slice none 0 0, .slice none 0 0, .int .i64 0] 25 (0, 0))) (hB : w.heap.size < B) :
    PrtOwn (wr.setCells w.heap.size 0 (#[vR, .int .i64 0, .int .i64 1, vI, vK, .int .i64 least] : Array Value).toList) (seg w.heap.size (wr.setCells w.heap.size 0 (#[vR, .int .i64 0, .int .i64 1, vI, vK, .int .i64 least] : Array Value).toList).heap.size) (.agg #[vR, .int .i64 0, .int .i64 1, vI, vK, .int .i64 least]) ⟨List.replicate k (nr roll), 0, 1, numL k, zerL k, least⟩ := by
  rw [Cells.size_setCells]
  have := prt_own (fun y => B ≤ y ∧ y < wr.heap.size) h hk (fun y h1 h2 => ⟨h1, h2⟩)
  obtain ⟨f, h1, h2⟩ := this.keep (w' := wr.setCells w.heap.size 0 (#[vR, .int .i64 0, .int .i64 1, vI, vK, .int .i64 least] : Array Value).toList) (by rw [Cells.size_setCells]; exact Nat.le_refl _) (fun g hg => Cells.heap_setCells_other _ _ (by have := hg.1; omega))
  refine ⟨f, h1, ?_⟩
  obtain ⟨a, Q, q1, q2, l⟩ := h2
  exact ⟨a, Q, fun i y hy => ⟨by have := (q1 i y hy).1; omega, (q1 i y hy).2⟩, q2, l⟩
set_option maxHeartbeats 3200000 in
theorem impl_any (r l roll : Int) (w : World) : Calls Try.prog 5 #[.int .i64 r, .int .i64 l, .int .i64 roll] w fun e w' => ∃ v, e = .returned v ∧ PrtOwn w' (seg w.heap.size w'.heap.size) v (newP r l roll) ∧ Below w.heap.size w w' := by
  obtain ⟨i0, hi, hz0, hz1, hz2⟩ := info_parts infoZRpl
  obtain ⟨j0, hj, hy0, hy1, hy2⟩ := info_parts infoI
  go_enter Try.func5, Try.ntmps5
  go_wp2_with fail
  refine (NewL.impl_any 0 roll (w.alloc _)).mono ?_
  rintro e w1 ⟨rfl, b1⟩
  rw [nl_form]
  obtain ⟨cc, hcc⟩ : ∃ cc, (if inR 1 roll 20000 = true then roll else 0) = cc := ⟨_, rfl⟩
  rw [hcc]
  have HC := Seg.hid hcc
  clear hcc
  unfold NewL.lv
  have s1 := b1.size
  rw [hsz] at s1
  have R1 : Hid (w1.heap[w.heap.size]? = some (.cells #[.slice none 0 0, .int .i64 0, .int .i64 0, .slice none 0 0, .slice none 0 0, .int .i64 0] 25 (0, 0))) := (b1.block w.heap.size (by rw [hsz]; omega)).trans (heap_alloc_new _ _)
  have B1 := Seg.hid (chain (below1 w _) b1)
  clear b1
  go_upto_region 2 with fail
  have R2 : Hid ((w1.alloc (.cells #[.int .i64 0, .int .i64 0, .int .i64 cc, .slice none 0 0] 32 (0, 0))).heap[w.heap.size]? = some (.cells #[.slice none 0 0, .int .i64 0, .int .i64 0, .slice none 0 0, .slice none 0 0, .int .i64 0] 25 (0, 0))) := ((below1 w1 _).block w.heap.size (by omega)).trans R1.out
  have L2 : Hid ((w1.alloc (.cells #[.int .i64 0, .int .i64 0, .int .i64 cc, .slice none 0 0] 32 (0, 0))).heap[w1.heap.size]? = some (.cells #[.int .i64 0, .int .i64 0, .int .i64 cc, .slice none 0 0] 32 (0, 0))) := heap_alloc_new _ _
  have B2 : Hid (Below w.heap.size w (w1.alloc (.cells #[.int .i64 0, .int .i64 0, .int .i64 cc, .slice none 0 0] 32 (0, 0)))) := chain B1.out (below1 w1 _)
  have s2 : Hid (w1.heap.size < (w1.alloc (.cells #[.int .i64 0, .int .i64 0, .int .i64 cc, .slice none 0 0] 32 (0, 0))).heap.size) := by show _ < _; rw [hsz]; omega
  generalize w1.alloc (.cells #[.int .i64 0, .int .i64 0, .int .i64 cc, .slice none 0 0] 32 (0, 0)) = w2 at *
  clear R1 B1
  have c0 : w2.cell? ⟨w1.heap.size, 0, none⟩ = some (.int .i64 0) := cell_of_row w2 _ 0 _ _ (0, 0) L2.out
  have c1 : w2.cell? ⟨w1.heap.size, 1, none⟩ = some (.int .i64 0) := cell_of_row w2 _ 1 _ _ (0, 0) L2.out
  have c2 : w2.cell? ⟨w1.heap.size, 2, none⟩ = some (.int .i64 cc) := cell_of_row w2 _ 2 _ _ (0, 0) L2.out
  have c3 : w2.cell? ⟨w1.heap.size, 3, none⟩ = some (.slice none 0 0) := cell_of_row w2 _ 3 _ _ (0, 0) L2.out
  go_wp2_with fail
  cases g1 : inR 1 r 5 with
  | false =>
    refine (InB.within_b _ _ _ false g1 _).mono ?_
    rintro e wq ⟨rfl, rfl⟩
    have Z := Seg.hid (newP_no (r := r) (l := l) (roll := roll) (by simp [good, g1]))
    clear g1 c0 c1 c2 c3 hi hz0 hz1 hz2 hj hy0 hy1 hy2
    have RR : Hid (w2.heap[w.heap.size]? = some (.cells #[.slice none 0 0, .int .i64 0, .int .i64 0, .slice none 0 0, .slice none 0 0, .int .i64 0] 25 (0, 0))) := R2.out
    have BB : Hid (Below w.heap.size w w2) := B2.out
    have H5 := Seg.hid (Cells.there_of RR.out)
    have H4 := Seg.hid (Cells.whole (vs := #[.slice none 0 0, .int .i64 0, .int .i64 0, .slice none 0 0, .slice none 0 0, .int .i64 0]) RR.out rfl)
    have B9 := Seg.hid (Cells.below_setCells (g := w.heap.size) (Nat.le_refl _) (#[.slice none 0 0, .int .i64 0, .int .i64 0, .slice none 0 0, .slice none 0 0, .int .i64 0] : Array Value).toList 0 _ _ BB.out)
    go_wp2_with (refine wpList_store_mid rfl 25 _ _ rfl w.heap.size 0 #[.slice none 0 0, .int .i64 0, .int .i64 0, .slice none 0 0, .slice none 0 0, .int .i64 0] rfl rfl H5.out infoPrt onZ ?_)
    exact bodyPost_ret (v := .agg #[.slice none 0 0, .int .i64 0, .int .i64 0, .slice none 0 0, .slice none 0 0, .int .i64 0]) (results_cell_row rfl _ _ w.heap.size _ _ _ _ rfl H4.out Try.underlying25 rfl infoPrt) rfl ⟨_, rfl, by rw [Z.out]; exact prt_nil _ _, B9.out⟩
  | true =>
  refine (InB.within_b _ _ _ true g1 _).mono ?_
  rintro e wq ⟨rfl, rfl⟩
  have K1 := Seg.hid g1
  clear g1
  go_wp2_with fail
  cases g2 : inR 1 l r with
  | false =>
    refine (InB.within_b _ _ _ false g2 _).mono ?_
    rintro e wq ⟨rfl, rfl⟩
    have Z := Seg.hid (newP_no (r := r) (l := l) (roll := roll) (by simp [good, g2]))
    clear g2 c0 c1 c2 c3 hi hz0 hz1 hz2 hj hy0 hy1 hy2
    have RR : Hid (w2.heap[w.heap.size]? = some (.cells #[.slice none 0 0, .int .i64 0, .int .i64 0, .slice none 0 0, .slice none 0 0, .int .i64 0] 25 (0, 0))) := R2.out
    have BB : Hid (Below w.heap.size w w2) := B2.out
    have H5 := Seg.hid (Cells.there_of RR.out)
    have H4 := Seg.hid (Cells.whole (vs := #[.slice none 0 0, .int .i64 0, .int .i64 0, .slice none 0 0, .slice none 0 0, .int .i64 0]) RR.out rfl)
    have B9 := Seg.hid (Cells.below_setCells (g := w.heap.size) (Nat.le_refl _) (#[.slice none 0 0, .int .i64 0, .int .i64 0, .slice none 0 0, .slice none 0 0, .int .i64 0] : Array Value).toList 0 _ _ BB.out)
    go_wp2_with (refine wpList_store_mid rfl 25 _ _ rfl w.heap.size 0 #[.slice none 0 0, .int .i64 0, .int .i64 0, .slice none 0 0, .slice none 0 0, .int .i64 0] rfl rfl H5.out infoPrt onZ ?_)
    exact bodyPost_ret (v := .agg #[.slice none 0 0, .int .i64 0, .int .i64 0, .slice none 0 0, .slice none 0 0, .int .i64 0]) (results_cell_row rfl _ _ w.heap.size _ _ _ _ rfl H4.out Try.underlying25 rfl infoPrt) rfl ⟨_, rfl, by rw [Z.out]; exact prt_nil _ _, B9.out⟩
  | true =>
  refine (InB.within_b _ _ _ true g2 _).mono ?_
  rintro e wq ⟨rfl, rfl⟩
  have K2 := Seg.hid g2
  clear g2
  go_wp2_with fail
  cases g3 : inR 1 roll 20000 with
  | false =>
    have hc0 : cc = 0 := by rw [← HC.out, g3]; rfl
    refine (NewL.bounds_any 0 0 cc _ false (by rw [hc0]; rfl) w2).mono ?_
    rintro e w3 ⟨rfl, b3⟩
    have Z := Seg.hid (newP_no (r := r) (l := l) (roll := roll) (by simp [good, g3]))
    have R3 := Seg.hid ((b3.block w.heap.size (Array.getElem?_eq_some_iff.1 R2.out).1).trans R2.out)
    have B3 := Seg.hid (chain B2.out b3)
    clear g3 c0 c1 c2 c3 hi hz0 hz1 hz2 hj hy0 hy1 hy2 hc0 b3
    have RR : Hid (w3.heap[w.heap.size]? = some (.cells #[.slice none 0 0, .int .i64 0, .int .i64 0, .slice none 0 0, .slice none 0 0, .int .i64 0] 25 (0, 0))) := R3.out
    have BB : Hid (Below w.heap.size w w3) := B3.out
    have H5 := Seg.hid (Cells.there_of RR.out)
    have H4 := Seg.hid (Cells.whole (vs := #[.slice none 0 0, .int .i64 0, .int .i64 0, .slice none 0 0, .slice none 0 0, .int .i64 0]) RR.out rfl)
    have B9 := Seg.hid (Cells.below_setCells (g := w.heap.size) (Nat.le_refl _) (#[.slice none 0 0, .int .i64 0, .int .i64 0, .slice none 0 0, .slice none 0 0, .int .i64 0] : Array Value).toList 0 _ _ BB.out)
    go_wp2_with (refine wpList_store_mid rfl 25 _ _ rfl w.heap.size 0 #[.slice none 0 0, .int .i64 0, .int .i64 0, .slice none 0 0, .slice none 0 0, .int .i64 0] rfl rfl H5.out infoPrt onZ ?_)
    exact bodyPost_ret (v := .agg #[.slice none 0 0, .int .i64 0, .int .i64 0, .slice none 0 0, .slice none 0 0, .int .i64 0]) (results_cell_row rfl _ _ w.heap.size _ _ _ _ rfl H4.out Try.underlying25 rfl infoPrt) rfl ⟨_, rfl, by rw [Z.out]; exact prt_nil _ _, B9.out⟩
  | true =>
  have hc0 : cc = roll := by rw [← HC.out, g3]; rfl
  subst hc0
  refine (NewL.bounds_any 0 0 cc _ true (by have e : NewL.inR cc 1 20000 = inR 1 cc 20000 := rfl; rw [e, g3]; rfl) w2).mono ?_
  rintro e w3 ⟨rfl, b3⟩
  have GD : Hid (good r l cc = true) := by show _ = _; simp [good, K1.out, K2.out, g3]
  have Z := Seg.hid (newP_yes GD.out)
  obtain ⟨m, rfl⟩ : ∃ m : Nat, r = (m : Int) := ⟨r.toNat, by have := K1.out; simp [inR] at this; omega⟩
  have hm : 1 ≤ m ∧ m ≤ 5 := by have := K1.out; simp [inR] at this; omega
  have R3 := Seg.hid ((b3.block w.heap.size (Array.getElem?_eq_some_iff.1 R2.out).1).trans R2.out)
  have L3 := Seg.hid ((b3.block w1.heap.size s2.out).trans L2.out)
  have B3 := Seg.hid (chain B2.out b3)
  have s3 : w1.heap.size < w3.heap.size := (Array.getElem?_eq_some_iff.1 L3.out).1
  clear c0 c1 c2 c3 b3 R2 L2 B2 s2 g3 HC K1 K2
  go_upto_region 5 with fail
  obtain ⟨B, hB⟩ : ∃ B, w3.heap.size + 1 = B := ⟨_, rfl⟩
  have S0 : Hid (Sp w (w3.alloc (.cells #[.slice none 0 0, .int .i64 0, .int .i64 1, .slice none 0 0, .slice none 0 0, .int .i64 l] 25 (0, 0))) B w3.heap.size l cc (fun x => w3.heap[x]?) 0 0 0 (.slice none 0 0) (.slice none 0 0) (.slice none 0 0)) :=
    ⟨rws_nil _ _ _, heap_alloc_new _ _, fun x hx hn => (below1 w3 _).block x (by omega), chain B3.out (below1 w3 _), by rw [hsz]; omega, B3.out.size, by omega⟩
  have HB := Seg.hid hB
  clear hB
  go_wp2_with fail
  go_loopw [30] (fun i wr => ∃ (k : Nat) (vR vI vK : Value), k ≤ m ∧ i = .int .i64 k ∧ Sp w wr B w3.heap.size l cc (fun x => w3.heap[x]?) k k k vR vI vK) (fun i _ => m - (intOf i).toNat)
  case atStart => exact ⟨0, _, _, _, Nat.zero_le _, rfl, S0.out⟩
  case round =>
    clear S0
    obtain ⟨k, vR, vI, vK, hk, rfl, HS⟩ := hrel
    have HQ := Seg.hid HS
    clear HS
    by_cases hlt : k < m
    · have h1 : (k : Int) < (m : Int) := by omega
      obtain ⟨d0, d3, d4⟩ := HQ.out.cells
      have LL : wr.heap[w1.heap.size]? = some (.cells #[.int .i64 0, .int .i64 0, .int .i64 cc, .slice none 0 0] 32 (0, 0)) := (HQ.out.front w1.heap.size (by have := HB.out; omega) (by omega)).trans L3.out
      have c0 : wr.cell? ⟨w1.heap.size, 0, none⟩ = some (.int .i64 0) := cell_of_row wr _ 0 _ _ (0, 0) LL
      have c1 : wr.cell? ⟨w1.heap.size, 1, none⟩ = some (.int .i64 0) := cell_of_row wr _ 1 _ _ (0, 0) LL
      have c2 : wr.cell? ⟨w1.heap.size, 2, none⟩ = some (.int .i64 cc) := cell_of_row wr _ 2 _ _ (0, 0) LL
      have c3 : wr.cell? ⟨w1.heap.size, 3, none⟩ = some (.slice none 0 0) := cell_of_row wr _ 3 _ _ (0, 0) LL
      have hlw : w3.heap.size < wr.heap.size := (Array.getElem?_eq_some_iff.1 HQ.out.row).1
      have hBz := HQ.out.size
      have OW0 : Hid (∀ o, (wr.alloc o).ownsRow B 35 6 vR k (repR cc k)) := fun o => Seg.owns_below HQ.out.own0 (below1 wr o)
      clear LL
      go_upto_region 9 with (at_builtin; (refine wpList_append_lies _ rfl _ _ 22 rfl B 35 i0 _ 6 64 Try.underlying22 hi hz0 hz1 hz2 rfl (by decide) vR k (repR cc k) rfl (OW0.out _) ⟨wr.heap.size, 0, none⟩ 1 1 (pr cc).toList rfl rfl (World.news_of_block (cs := pr cc) (heap_alloc_new wr _)) (by simp [pr, Value.oneCell']) (by decide) (by unfold maxLen; omega) (by omega) (by rw [hsz]; omega) (wr.heap.size + 1) (hsz wr _) ?_; intro g9 cap9 w9 hown9 gr9 hat9 hlt9; have D0 := Seg.hid (HQ.out.push0 (below1 wr _) hown9 gr9 hat9 (by omega)); obtain ⟨q6, p6⟩ := D0.out.1; clear hown9 gr9 hat9 hlt9))
      have S1 := Seg.hid D0.out.2
      clear D0 q6 p6 d0 d3 d4 c0 c1 c2 c3 OW0 hlw hBz
      generalize hv1 : Value.slice (some ⟨g9, 0, none⟩) (k + 1) cap9 = vR1 at *
      generalize w9.setCell ⟨w3.heap.size, 0, none⟩ vR1 = wa at *
      obtain ⟨d0, d3, d4⟩ := S1.out.cells
      have hlw : w3.heap.size < wa.heap.size := (Array.getElem?_eq_some_iff.1 S1.out.row).1
      have hBz := S1.out.size
      have OW1 : Hid (∀ o, (wa.alloc o).ownsRow B 3 1 vI k ((numL k).map (Value.int .i64))) := fun o => Seg.owns_below S1.out.own1 (below1 wa o)
      clear hv1
      go_upto_region 10 with (at_builtin; (refine wpList_append_lies _ rfl _ _ 23 rfl B 3 j0 _ 1 8 Try.underlying23 hj hy0 hy1 hy2 rfl (by decide) vI k ((numL k).map (Value.int .i64)) rfl (OW1.out _) ⟨wa.heap.size, 0, none⟩ 1 1 [Value.int .i64 (k : Int)] rfl rfl (World.news_of_block (cs := #[Value.int .i64 (k : Int)]) (heap_alloc_new wa _)) (by simp [Value.oneCell']) (by decide) (by unfold maxLen; omega) (by omega) (by rw [hsz]; omega) (wa.heap.size + 1) (hsz wa _) ?_; intro g9 cap9 w9 hown9 gr9 hat9 hlt9; have D1 := Seg.hid (S1.out.push1 (below1 wa _) hown9 gr9 hat9 (by omega)); obtain ⟨q6, p6⟩ := D1.out.1; clear hown9 gr9 hat9 hlt9))
      have S2 := Seg.hid D1.out.2
      clear D1 q6 p6 d0 d3 d4 OW1 hlw hBz S1
      generalize hv2 : Value.slice (some ⟨g9, 0, none⟩) (k + 1) cap9 = vI1 at *
      generalize w9.setCell ⟨w3.heap.size, 3, none⟩ vI1 = wb at *
      obtain ⟨d0, d3, d4⟩ := S2.out.cells
      have hlw : w3.heap.size < wb.heap.size := (Array.getElem?_eq_some_iff.1 S2.out.row).1
      have hBz := S2.out.size
      have OW2 : Hid (∀ o, (wb.alloc o).ownsRow B 3 1 vK k ((zerL k).map (Value.int .i64))) := fun o => Seg.owns_below S2.out.own2 (below1 wb o)
      clear hv2
      go_upto_region 11 with (at_builtin; (refine wpList_append_lies _ rfl _ _ 23 rfl B 3 j0 _ 1 8 Try.underlying23 hj hy0 hy1 hy2 rfl (by decide) vK k ((zerL k).map (Value.int .i64)) rfl (OW2.out _) ⟨wb.heap.size, 0, none⟩ 1 1 [Value.int .i64 0] rfl rfl (World.news_of_block (cs := #[Value.int .i64 0]) (heap_alloc_new wb _)) (by simp [Value.oneCell']) (by decide) (by unfold maxLen; omega) (by omega) (by rw [hsz]; omega) (wb.heap.size + 1) (hsz wb _) ?_; intro g9 cap9 w9 hown9 gr9 hat9 hlt9; have D2 := Seg.hid (S2.out.push2 (below1 wb _) hown9 gr9 hat9 (by omega)); obtain ⟨q6, p6⟩ := D2.out.1; clear hown9 gr9 hat9 hlt9))
      have S3 := Seg.hid D2.out.2
      clear D2 q6 p6 d0 d3 d4 OW2 hlw hBz S2
      go_wp2
      go_roundw
      case rel => exact ⟨k + 1, _, _, _, by omega, by go_num, S3.out⟩
      case measure => simp [intOf]; omega
    · have hk' : k = m := by omega
      subst hk'
      have RR : Hid (wr.heap[w.heap.size]? = some (.cells #[.slice none 0 0, .int .i64 0, .int .i64 0, .slice none 0 0, .slice none 0 0, .int .i64 0] 25 (0, 0))) := (HQ.out.front w.heap.size (by have := HB.out; have := B3.out.size; omega) (by omega)).trans R3.out
      have PO : Hid (PrtOwn (wr.setCells w.heap.size 0 (#[vR, .int .i64 0, .int .i64 1, vI, vK, .int .i64 l] : Array Value).toList) (seg w.heap.size (wr.setCells w.heap.size 0 (#[vR, .int .i64 0, .int .i64 1, vI, vK, .int .i64 l] : Array Value).toList).heap.size) (.agg #[vR, .int .i64 0, .int .i64 1, vI, vK, .int .i64 l]) (newP k l cc)) := by
        show PrtOwn _ _ _ _
        rw [Z.out]
        have := done HQ.out hm.2 RR.out (by have := HB.out; have := B3.out.size; omega)
        simpa using this
      have H5 := Seg.hid (Cells.there_of RR.out)
      have H4 := Seg.hid (Cells.whole (vs := #[vR, .int .i64 0, .int .i64 1, vI, vK, .int .i64 l]) RR.out rfl)
      have B9 := Seg.hid (Cells.below_setCells (g := w.heap.size) (Nat.le_refl _) (#[vR, .int .i64 0, .int .i64 1, vI, vK, .int .i64 l] : Array Value).toList 0 _ _ HQ.out.bel)
      have ON := Seg.hid (on6 (l := l) (one_of HQ.out.own0) (one_of HQ.out.own1) (one_of HQ.out.own2))
      go_wp2_with (first | (refine wpList_load_row rfl 25 _ rfl w3.heap.size rfl _ _ _ _ HQ.out.row Try.underlying25 rfl infoPrt ?_) | (refine wpList_store_mid rfl 25 _ _ rfl w.heap.size 0 #[vR, .int .i64 0, .int .i64 1, vI, vK, .int .i64 l] rfl rfl H5.out infoPrt ON.out ?_))
      exact bodyPost_ret (v := .agg #[vR, .int .i64 0, .int .i64 1, vI, vK, .int .i64 l]) (results_cell_row rfl _ _ w.heap.size _ _ _ _ rfl H4.out Try.underlying25 rfl infoPrt) rfl ⟨_, rfl, PO.out, B9.out⟩
end Go.Proofs.Ytafgakddhoabjaa.NpP
