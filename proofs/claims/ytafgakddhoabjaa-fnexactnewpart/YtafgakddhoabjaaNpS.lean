/- NewPart of the model. -/
import Derived.Test.YtafgakddhoabjaaNpI
import Derived.Deep.RegionLaw
namespace Go.Proofs.Ytafgakddhoabjaa.NpP
set_option maxRecDepth 8000
open Go.RowKit
open Ls Ow
open Recs (hsz below1 below2 chain chainD)
set_option linter.unusedVariables false
set_option maxHeartbeats 6400000 in
theorem spec_any (r l roll : Int) (w : World) : Calls Try.prog 4 #[.int .i64 r, .int .i64 l, .int .i64 roll] w fun e w' => ∃ v, e = .returned v ∧ PrtOwn w' (seg w.heap.size w'.heap.size) v (newP r l roll) ∧ Below w.heap.size w w' := by
  obtain ⟨i0, hi, hz0, hz1, hz2⟩ := info_parts infoZRpl
  obtain ⟨j0, hj, hy0, hy1, hy2⟩ := info_parts infoI
  go_enter Try.func4, Try.ntmps4
  go_upto_region 1 with fail
  have R2 : Hid ((w.alloc (.cells #[.slice none 0 0, .int .i64 0, .int .i64 0, .slice none 0 0, .slice none 0 0, .int .i64 0] 25 (0, 0))).heap[w.heap.size]? = some (.cells #[.slice none 0 0, .int .i64 0, .int .i64 0, .slice none 0 0, .slice none 0 0, .int .i64 0] 25 (0, 0))) := heap_alloc_new _ _
  have B2 : Hid (Below w.heap.size w (w.alloc (.cells #[.slice none 0 0, .int .i64 0, .int .i64 0, .slice none 0 0, .slice none 0 0, .int .i64 0] 25 (0, 0)))) := below1 _ _
  generalize w.alloc (.cells #[.slice none 0 0, .int .i64 0, .int .i64 0, .slice none 0 0, .slice none 0 0, .int .i64 0] 25 (0, 0)) = w2 at *
  go_wp2_with fail
  cases g1 : inR 1 r 5 with
  | false =>
    refine (InB.l1In_b _ _ _ false g1 _).mono ?_
    rintro e wq ⟨rfl, rfl⟩
    have Z := Seg.hid (newP_no (r := r) (l := l) (roll := roll) (by simp [good, g1]))
    clear g1 hi hz0 hz1 hz2 hj hy0 hy1 hy2
    have RR : Hid (w2.heap[w.heap.size]? = some (.cells #[.slice none 0 0, .int .i64 0, .int .i64 0, .slice none 0 0, .slice none 0 0, .int .i64 0] 25 (0, 0))) := R2.out
    have BB : Hid (Below w.heap.size w w2) := B2.out
    have H5 := Seg.hid (Cells.there_of RR.out)
    have H4 := Seg.hid (Cells.whole (vs := #[.slice none 0 0, .int .i64 0, .int .i64 0, .slice none 0 0, .slice none 0 0, .int .i64 0]) RR.out rfl)
    have B9 := Seg.hid (Cells.below_setCells (g := w.heap.size) (Nat.le_refl _) (#[.slice none 0 0, .int .i64 0, .int .i64 0, .slice none 0 0, .slice none 0 0, .int .i64 0] : Array Value).toList 0 _ _ BB.out)
    go_wp2_with (refine wpList_store_mid rfl 25 _ _ rfl w.heap.size 0 #[.slice none 0 0, .int .i64 0, .int .i64 0, .slice none 0 0, .slice none 0 0, .int .i64 0] rfl rfl H5.out infoPrt onZ ?_)
    exact bodyPost_ret (v := .agg #[.slice none 0 0, .int .i64 0, .int .i64 0, .slice none 0 0, .slice none 0 0, .int .i64 0]) (results_cell_row rfl _ _ w.heap.size _ _ _ _ rfl H4.out Try.underlying25 rfl infoPrt) rfl ⟨_, rfl, by rw [Z.out]; exact prt_nil _ _, B9.out⟩
  | true =>
  refine (InB.l1In_b _ _ _ true g1 _).mono ?_
  rintro e wq ⟨rfl, rfl⟩
  have K1 := Seg.hid g1
  clear g1
  go_wp2_with fail
  cases g2 : inR 1 l r with
  | false =>
    refine (InB.l1In_b _ _ _ false g2 _).mono ?_
    rintro e wq ⟨rfl, rfl⟩
    have Z := Seg.hid (newP_no (r := r) (l := l) (roll := roll) (by simp [good, g2]))
    clear g2 hi hz0 hz1 hz2 hj hy0 hy1 hy2
    have RR : Hid (w2.heap[w.heap.size]? = some (.cells #[.slice none 0 0, .int .i64 0, .int .i64 0, .slice none 0 0, .slice none 0 0, .int .i64 0] 25 (0, 0))) := R2.out
    have BB : Hid (Below w.heap.size w w2) := B2.out
    have H5 := Seg.hid (Cells.there_of RR.out)
    have H4 := Seg.hid (Cells.whole (vs := #[.slice none 0 0, .int .i64 0, .int .i64 0, .slice none 0 0, .slice none 0 0, .int .i64 0]) RR.out rfl)
    have B9 := Seg.hid (Cells.below_setCells (g := w.heap.size) (Nat.le_refl _) (#[.slice none 0 0, .int .i64 0, .int .i64 0, .slice none 0 0, .slice none 0 0, .int .i64 0] : Array Value).toList 0 _ _ BB.out)
    go_wp2_with (refine wpList_store_mid rfl 25 _ _ rfl w.heap.size 0 #[.slice none 0 0, .int .i64 0, .int .i64 0, .slice none 0 0, .slice none 0 0, .int .i64 0] rfl rfl H5.out infoPrt onZ ?_)
    exact bodyPost_ret (v := .agg #[.slice none 0 0, .int .i64 0, .int .i64 0, .slice none 0 0, .slice none 0 0, .int .i64 0]) (results_cell_row rfl _ _ w.heap.size _ _ _ _ rfl H4.out Try.underlying25 rfl infoPrt) rfl ⟨_, rfl, by rw [Z.out]; exact prt_nil _ _, B9.out⟩
  | true =>
  refine (InB.l1In_b _ _ _ true g2 _).mono ?_
  rintro e wq ⟨rfl, rfl⟩
  have K2 := Seg.hid g2
  clear g2
  go_wp2_with fail
  cases g3 : inR 1 roll 20000 with
  | false =>
    refine (InB.l1In_b _ _ _ false g3 _).mono ?_
    rintro e wq ⟨rfl, rfl⟩
    have Z := Seg.hid (newP_no (r := r) (l := l) (roll := roll) (by simp [good, g3]))
    clear g3 hi hz0 hz1 hz2 hj hy0 hy1 hy2
    have RR : Hid (w2.heap[w.heap.size]? = some (.cells #[.slice none 0 0, .int .i64 0, .int .i64 0, .slice none 0 0, .slice none 0 0, .int .i64 0] 25 (0, 0))) := R2.out
    have BB : Hid (Below w.heap.size w w2) := B2.out
    have H5 := Seg.hid (Cells.there_of RR.out)
    have H4 := Seg.hid (Cells.whole (vs := #[.slice none 0 0, .int .i64 0, .int .i64 0, .slice none 0 0, .slice none 0 0, .int .i64 0]) RR.out rfl)
    have B9 := Seg.hid (Cells.below_setCells (g := w.heap.size) (Nat.le_refl _) (#[.slice none 0 0, .int .i64 0, .int .i64 0, .slice none 0 0, .slice none 0 0, .int .i64 0] : Array Value).toList 0 _ _ BB.out)
    go_wp2_with (refine wpList_store_mid rfl 25 _ _ rfl w.heap.size 0 #[.slice none 0 0, .int .i64 0, .int .i64 0, .slice none 0 0, .slice none 0 0, .int .i64 0] rfl rfl H5.out infoPrt onZ ?_)
    exact bodyPost_ret (v := .agg #[.slice none 0 0, .int .i64 0, .int .i64 0, .slice none 0 0, .slice none 0 0, .int .i64 0]) (results_cell_row rfl _ _ w.heap.size _ _ _ _ rfl H4.out Try.underlying25 rfl infoPrt) rfl ⟨_, rfl, by rw [Z.out]; exact prt_nil _ _, B9.out⟩
  | true =>
  refine (InB.l1In_b _ _ _ true g3 _).mono ?_
  rintro e wq ⟨rfl, rfl⟩
  have NL : Hid (NewL.nl 0 roll = .agg #[.int .i64 0, .int .i64 0, .int .i64 roll, .slice none 0 0]) := by show _ = _; rw [nl_form, g3]; rfl
  have GD : Hid (good r l roll = true) := by show _ = _; simp [good, K1.out, K2.out, g3]
  have Z := Seg.hid (newP_yes GD.out)
  obtain ⟨m, rfl⟩ : ∃ m : Nat, r = (m : Int) := ⟨r.toNat, by have := K1.out; simp [inR] at this; omega⟩
  have hm : 1 ≤ m ∧ m ≤ 5 := by have := K1.out; simp [inR] at this; omega
  have s3 : w.heap.size < w2.heap.size := (Array.getElem?_eq_some_iff.1 R2.out).1
  clear g3 K1 K2
  go_upto_region 4 with fail
  obtain ⟨B, hB⟩ : ∃ B, w2.heap.size + 1 = B := ⟨_, rfl⟩
  have S0 : Hid (Sp w (w2.alloc (.cells #[.slice none 0 0, .int .i64 0, .int .i64 1, .slice none 0 0, .slice none 0 0, .int .i64 l] 25 (0, 0))) B w2.heap.size l roll (fun x => w2.heap[x]?) 0 0 0 (.slice none 0 0) (.slice none 0 0) (.slice none 0 0)) :=
    ⟨rws_nil _ _ _, heap_alloc_new _ _, fun x hx hn => (below1 w2 _).block x (by omega), chain B2.out (below1 w2 _), by rw [hsz]; omega, B2.out.size, by omega⟩
  have HB := Seg.hid hB
  clear hB
  go_wp2_with fail
  go_loopw [8] (fun i wr => ∃ (k : Nat) (vR vI vK : Value), k ≤ m ∧ i = .int .i64 k ∧ Sp w wr B w2.heap.size l roll (fun x => w2.heap[x]?) k k k vR vI vK) (fun i _ => m - (intOf i).toNat)
  case atStart => exact ⟨0, _, _, _, Nat.zero_le _, rfl, S0.out⟩
  case round =>
    clear S0
    obtain ⟨k, vR, vI, vK, hk, rfl, HS⟩ := hrel
    have HQ := Seg.hid HS
    clear HS
    by_cases hlt : k < m
    · have h1 : (k : Int) < (m : Int) := by omega
      obtain ⟨d0, d3, d4⟩ := HQ.out.cells
      have d0d : wr.drew.cell? ⟨w2.heap.size, 0, none⟩ = some vR := d0
      have hlw : w2.heap.size < wr.heap.size := (Array.getElem?_eq_some_iff.1 HQ.out.row).1
      have hBz := HQ.out.size
      have OW0 : Hid (∀ w8 o, Below wr.heap.size wr w8 → (w8.alloc o).ownsRow B 35 6 vR k (repR roll k)) := fun w8 o b => Seg.owns_below HQ.out.own0 (chain b (below1 w8 o))
      go_wp2_with fail
      go_region_law
        ((first | (go_simp; go_at_call 10; refine (NewL.spec_any 0 roll wr.drew).mono ?_; rintro e w8 ⟨rfl, b8'⟩; have b8 : Hid (Below wr.heap.size wr w8) := ⟨b8'.os, b8'.tape, b8'.output, b8'.size, b8'.block⟩; have s8 := b8.out.size; have K8 : w8.cell? ⟨w2.heap.size, 0, none⟩ = some vR := (b8.out.cell (p := ⟨w2.heap.size, 0, none⟩) hlw).trans d0; have hl8 : w2.heap.size < w8.heap.size := (Nat.lt_of_lt_of_le hlw s8); clear b8'; rw [NL.out]) | (refine step_append_lies _ (by rfl) _ _ _ (by rfl) B 35 i0 _ 6 64 Try.underlying22 hi hz0 hz1 hz2 rfl (by decide) vR k (repR roll k) (by rfl) (OW0.out _ _ b8.out) ⟨w8.heap.size, 0, none⟩ 1 1 (pr roll).toList (by rfl) (by rfl) (World.news_of_block (cs := pr roll) (heap_alloc_new w8 _)) (by simp [pr, Value.oneCell']) (by decide) (by unfold maxLen; omega) (by omega) (by rw [hsz]; omega) (w8.heap.size + 1) (hsz w8 _) ?_; intro g9 cap9 w9 hown9 gr9 hat9 hlt9; have D0 := Seg.hid (HQ.out.push0 (chain b8.out (below1 w8 _)) hown9 gr9 hat9 (by omega)); have q6 := D0.out.1.1; have p6 := D0.out.1.2; clear hown9 gr9 hat9 hlt9)))
      all_goals
        have S1 := Seg.hid D0.out.2
        clear D0 q6 p6 d0 d0d d3 d4 OW0 hlw hBz b8 s8 K8 hl8
        generalize hv1 : Value.slice (some ⟨g9, 0, none⟩) (k + 1) cap9 = vR1 at *
        generalize w9.setCell ⟨w2.heap.size, 0, none⟩ vR1 = wa at *
        obtain ⟨d0, d3, d4⟩ := S1.out.cells
        have hlw : w2.heap.size < wa.heap.size := (Array.getElem?_eq_some_iff.1 S1.out.row).1
        have hBz := S1.out.size
        have OW1 : Hid (∀ o, (wa.alloc o).ownsRow B 3 1 vI k ((numL k).map (Value.int .i64))) := fun o => Seg.owns_below S1.out.own1 (below1 wa o)
        clear hv1
        go_upto_region 9 with (at_builtin; (refine wpList_append_lies _ rfl _ _ 23 rfl B 3 j0 _ 1 8 Try.underlying23 hj hy0 hy1 hy2 rfl (by decide) vI k ((numL k).map (Value.int .i64)) rfl (OW1.out _) ⟨wa.heap.size, 0, none⟩ 1 1 [Value.int .i64 (k : Int)] rfl rfl (World.news_of_block (cs := #[Value.int .i64 (k : Int)]) (heap_alloc_new wa _)) (by simp [Value.oneCell']) (by decide) (by unfold maxLen; omega) (by omega) (by rw [hsz]; omega) (wa.heap.size + 1) (hsz wa _) ?_; intro g9 cap9 w9 hown9 gr9 hat9 hlt9; have D1 := Seg.hid (S1.out.push1 (below1 wa _) hown9 gr9 hat9 (by omega)); obtain ⟨q6, p6⟩ := D1.out.1; clear hown9 gr9 hat9 hlt9))
        have S2 := Seg.hid D1.out.2
        clear D1 q6 p6 d0 d3 d4 OW1 hlw hBz S1
        generalize hv2 : Value.slice (some ⟨g9, 0, none⟩) (k + 1) cap9 = vI1 at *
        generalize w9.setCell ⟨w2.heap.size, 3, none⟩ vI1 = wb at *
        obtain ⟨d0, d3, d4⟩ := S2.out.cells
        have hlw : w2.heap.size < wb.heap.size := (Array.getElem?_eq_some_iff.1 S2.out.row).1
        have hBz := S2.out.size
        have OW2 : Hid (∀ o, (wb.alloc o).ownsRow B 3 1 vK k ((zerL k).map (Value.int .i64))) := fun o => Seg.owns_below S2.out.own2 (below1 wb o)
        clear hv2
        go_upto_region 6 with (at_builtin; (refine wpList_append_lies _ rfl _ _ 23 rfl B 3 j0 _ 1 8 Try.underlying23 hj hy0 hy1 hy2 rfl (by decide) vK k ((zerL k).map (Value.int .i64)) rfl (OW2.out _) ⟨wb.heap.size, 0, none⟩ 1 1 [Value.int .i64 0] rfl rfl (World.news_of_block (cs := #[Value.int .i64 0]) (heap_alloc_new wb _)) (by simp [Value.oneCell']) (by decide) (by unfold maxLen; omega) (by omega) (by rw [hsz]; omega) (wb.heap.size + 1) (hsz wb _) ?_; intro g9 cap9 w9 hown9 gr9 hat9 hlt9; have D2 := Seg.hid (S2.out.push2 (below1 wb _) hown9 gr9 hat9 (by omega)); obtain ⟨q6, p6⟩ := D2.out.1; clear hown9 gr9 hat9 hlt9))
        have S3 := Seg.hid D2.out.2
        clear D2 q6 p6 d0 d3 d4 OW2 hlw hBz S2
        go_wp2
        go_roundw
        case rel => exact ⟨k + 1, _, _, _, by omega, by go_num, S3.out⟩
        case measure => simp [intOf]; omega
    · have hk' : k = m := by omega
      subst hk'
      have RR : Hid (wr.heap[w.heap.size]? = some (.cells #[.slice none 0 0, .int .i64 0, .int .i64 0, .slice none 0 0, .slice none 0 0, .int .i64 0] 25 (0, 0))) := (HQ.out.front w.heap.size (by have := HB.out; omega) (by omega)).trans R2.out
      have PO : Hid (PrtOwn (wr.setCells w.heap.size 0 (#[vR, .int .i64 0, .int .i64 1, vI, vK, .int .i64 l] : Array Value).toList) (seg w.heap.size (wr.setCells w.heap.size 0 (#[vR, .int .i64 0, .int .i64 1, vI, vK, .int .i64 l] : Array Value).toList).heap.size) (.agg #[vR, .int .i64 0, .int .i64 1, vI, vK, .int .i64 l]) (newP k l roll)) := by
        show PrtOwn _ _ _ _
        rw [Z.out]
        have := done HQ.out hm.2 RR.out (by have := HB.out; omega)
        simpa using this
      have H5 := Seg.hid (Cells.there_of RR.out)
      have H4 := Seg.hid (Cells.whole (vs := #[vR, .int .i64 0, .int .i64 1, vI, vK, .int .i64 l]) RR.out rfl)
      have B9 := Seg.hid (Cells.below_setCells (g := w.heap.size) (Nat.le_refl _) (#[vR, .int .i64 0, .int .i64 1, vI, vK, .int .i64 l] : Array Value).toList 0 _ _ HQ.out.bel)
      have ON := Seg.hid (on6 (l := l) (one_of HQ.out.own0) (one_of HQ.out.own1) (one_of HQ.out.own2))
      go_wp2_with (first | (refine wpList_load_row rfl 25 _ rfl w2.heap.size rfl _ _ _ _ HQ.out.row Try.underlying25 rfl infoPrt ?_) | (refine wpList_store_mid rfl 25 _ _ rfl w.heap.size 0 #[vR, .int .i64 0, .int .i64 1, vI, vK, .int .i64 l] rfl rfl H5.out infoPrt ON.out ?_))
      exact bodyPost_ret (v := .agg #[vR, .int .i64 0, .int .i64 1, vI, vK, .int .i64 l]) (results_cell_row rfl _ _ w.heap.size _ _ _ _ rfl H4.out Try.underlying25 rfl infoPrt) rfl ⟨_, rfl, PO.out, B9.out⟩
end Go.Proofs.Ytafgakddhoabjaa.NpP
