/- settle of the program. -/
import Derived.Deep.AppendLies
import Derived.Maps.OwnIn
import Derived.Test.YtdnfnjlnfmafkaaJVS27
namespace Go.Proofs.Ytdnfnjlnfmafkaa.SdI
set_option maxRecDepth 8000
open Go.RowKit Go.Shelf Go.Maps
open Ls Ow SdQ SdM SdL SdP SdJ
open Recs (hsz below1 below2 chain chainD Bat batVal RecsAt FewB)
open Bats SegW Segs LogW BfP BfI Of
open EoP (from_zero)
open LgP (logOk)
set_option linter.unusedVariables false
attribute [local go_sem] Oper.semAt_some
set_option maxHeartbeats 6400000 in
theorem settle_core (l : Lg) (A : Option Addr) (c : Nat) (w : World) (lo b : Nat) (hb : b ≤ w.heap.size) (hf : FewL l) (hs : SegsAt w lo b (.slice A l.segs.length c) l.segs) (hok : logOk l = true) :
    Calls Try.prog 22 #[logVal l (.slice A l.segs.length c)] w fun e w' => ∃ gv, e = .returned (.tuple #[.int .i64 (least l.next (settled l).1), gv]) ∧ GonsOwn w' (seg w.heap.size w'.heap.size) gv (settled l).2 ∧ Below w.heap.size w w' := by
  obtain ⟨i0, hi, hz0, hz1, hz2⟩ := info_parts infoZGon
  have HS := Seg.hid hs
  have HF := Seg.hid hf
  obtain ⟨f, k1, k2, k3, k4, k5, k6, k7⟩ := ok_all hok
  have K1 := Seg.hid k1
  have FL : (flatB l.segs).length ≤ 400 := by rw [flat_count]; exact k7
  have OKB := Seg.hid (okB_flat k1)
  have hmm := @run_makeMap Try.prog
  clear hs hf hok k1
  unfold logVal
  refine (callsIn_wide (n := 5)).1 ?_
  refine callsIn_of_wp_marks Try.func22 rfl trivial ?_ rfl
  simp only [Try.ntmps22, List.size_toArray, List.length_cons, List.length_nil, Nat.reduceAdd, Nat.reduceSub, Array.replicate_succ, Array.replicate_zero, List.push_toArray, List.append_toArray, List.nil_append, List.cons_append]
  gi_wp2
  refine ⟨trivial, ?_⟩
  obtain ⟨w1, hw1⟩ : ∃ w1, (((((w.alloc (.cells #[.int .i64 l.start, .int .i64 l.next, .int .i64 l.roll, .slice A l.segs.length c] 31 (0, 0))).alloc (.map #[] 0)).alloc (.cells #[] 50 (0, 0))).alloc (.cells #[.map (some (w.heap.size + 1))] 82 (0, 0))).alloc (.cells #[.slice (some ⟨w.heap.size + 1 + 1, 0, none⟩) 0 0] 41 (0, 0))) = w1 := ⟨_, rfl⟩
  have B1 : Hid (Below w.heap.size w w1) := by
    show Below _ _ _
    rw [← hw1]
    exact ((((Below.refl _ w).alloc (Nat.le_refl _) _).alloc (by simp) _).alloc (by simp; omega) _ |>.alloc (by simp; omega) _).alloc (by simp; omega) _
  obtain ⟨t1, m1, g1, v1, u1, z1⟩ := five w _ _ _ _ _ |> fun h => hw1 ▸ h
  have T1 := Seg.hid t1; have M1 := Seg.hid m1; have G1 := Seg.hid g1; have V1 := Seg.hid v1; have U1 := Seg.hid u1; have Z1 := Seg.hid z1
  clear t1 m1 g1 v1 u1 z1
  rw [hw1]
  clear hw1
  refine (callsIn_wide.2 (batchesFrom_any _ 0 A l.segs.length c w1 rfl)).mono ?_
  rintro e w2 ⟨rfl, a1, a2, b2, a3⟩
  have A3 := Seg.hid a3
  clear a3
  gi_wp2
  have z1 := Z1.out
  have a3 := A3.out
  have B2 := Seg.hid (chain B1.out b2)
  have T2 := Seg.hid ((b2.block w.heap.size (by omega)).trans T1.out)
  have J0 : Hid (JG w w2 (w.heap.size + 1) (w.heap.size + 1 + 1 + 1) (w.heap.size + 1 + 1 + 1 + 1) (w.heap.size + 1 + 1) 0 [] [] w2) := by
    refine ⟨⟨.map [], ?_, mp_nil⟩, (b2.block _ (by omega)).trans V1.out, ⟨_, (b2.block _ (by omega)).trans U1.out, ⟨rfl, .inr ⟨_, 0, #[], rfl, by omega, (b2.block _ (by omega)).trans G1.out, Nat.le_refl _, by unfold maxLen; omega, rfl, rfl⟩⟩, fun x hx => .inl (by simpa [Value.ownBlock] using hx.symm)⟩, fun _ _ _ _ _ => rfl, ⟨rfl, rfl, rfl⟩, Nat.le_refl _⟩
    have mm := World.ownsMap_made (w.alloc (.cells #[] 50 (0, 0))) Try.prog 3 (plainElem (H := Unit) Try.prog 3)
    obtain ⟨es, clock, hbk, r⟩ := mm
    rw [heap_alloc_new] at hbk
    cases hbk
    exact ⟨_, _, (b2.block _ (by omega)).trans M1.out, r⟩
  have OD : Hid (Ord w2 (w.heap.size + 1) (w.heap.size + 1 + 1 + 1) (w.heap.size + 1 + 1 + 1 + 1) (w.heap.size + 1 + 1)) := ⟨by omega, by omega, by omega, by omega, by omega, by omega, by omega, by omega, by omega, by omega⟩
  have HS2 := Seg.hid (HS.out.below (B2.out.mono hb))
  have BIG : w.heap.size ≤ w2.heap.size := B2.out.size
  clear b2
  obtain ⟨V, hVV⟩ : ∃ V : Nat → Prop, ∀ k, V k ↔ (k = (w.heap.size + 1) ∨ k = (w.heap.size + 1 + 1 + 1 + 1) ∨ k = (w.heap.size + 1 + 1)) := ⟨_, fun _ => Iff.rfl⟩
  have HSTOP := stops 4 (by omega) V w2.heap.size 400 w1.heap.size (w1.heap.size + 1) lo b c A 0 f l.segs w2 HS2.out (by omega) (Nat.le_refl _) (fun k h => by have := (hVV k).1 h; omega) a1 (by omega) a2 (by omega) (by omega) (fun i hi => HF.out.1.2 i hi) K1.out (Nat.le_trans (List.length_filter_le _ _) FL)
  have HVV := Seg.hid hVV
  clear a1 a2 hVV a3 z1
  have FZ : Hid (fromB 0 (flatB l.segs) = flatB l.segs) := from_zero OKB.out
  rw [FZ.out] at HSTOP
  refine wpIn_rangeFunc_ownH rfl (by omega) (gf := 44) (lb := #[.pointer (some ⟨w1.heap.size, 0, none⟩), .pointer (some ⟨w1.heap.size + 1, 0, none⟩)]) rfl trivial (enters_of Try.func44 (by kernel_rfl) rfl)
    HSTOP kp_t (kp_b (Nat.le_refl _)) (Below.refl _ _) (fun _ => rfl)
    (fun pre W => JS w w2 (w.heap.size + 1) (w.heap.size + 1 + 1 + 1) (w.heap.size + 1 + 1 + 1 + 1) (w.heap.size + 1 + 1) pre W)
    (fun c' pre W => False)
    (fun s A B row hs hg hr => JG.grown OD.out hs hg hr)
    (fun c' s A B row hs hg hr => hs)
    J0.out
    (fun p a' W => ∃ Bx, w2.heap.size ≤ Bx ∧ W.heap[Bx]? = some (.cells (BatW.batArr p.1.1 p.1.2) 48 (0, 0)) ∧ a' = { tmps := #[.agg #[.int .i64 l.start, .int .i64 l.next, .int .i64 l.roll, .slice A l.segs.length c], .pointer (some ⟨w.heap.size, 0, none⟩), .int .i64 0, .slice none 0 0, .pointer (some ⟨w.heap.size + 1 + 1 + 1, 0, none⟩), .pointer (some ⟨w.heap.size + 1 + 1 + 1 + 1, 0, none⟩), .pointer (some ⟨Bx, 0, none⟩), undef, undef, .map (some (w.heap.size + 1)), .slice (some ⟨w.heap.size + 1 + 1, 0, none⟩) 0 0, .pointer (some ⟨w.heap.size, 3, none⟩), .slice A l.segs.length c, .func (.func 44) #[] #[.pointer (some ⟨w1.heap.size, 0, none⟩), .pointer (some ⟨w1.heap.size + 1, 0, none⟩)], batVal p.1.1 p.1.2, undef, undef, undef, undef, undef, undef, undef, undef, undef, undef, undef, undef, undef, undef, undef, undef, undef, undef, undef, undef, undef, undef, undef, undef], defers := [] })
    (fun p a' s W W' row hs hg hr => ⟨hs.choose, hs.choose_spec.1, block_own (β := Unit) w2.heap.size _ _ _ s W W' row hs.choose_spec.2.1 hg hr, hs.choose_spec.2.2⟩) ?assign ?body ?done ?stop
  case assign =>
    rintro l' pre ⟨⟨t, v⟩, hrecs, hfew, hok⟩ W K hi hK
    obtain ⟨_, ⟨_, A6, c6, hv6, _⟩, _⟩ := id hrecs
    have hv7 : v = .slice A6 t.recs.length c6 := hv6
    clear hv6
    subst hv7
    unfold batVal
    gi_wp2
    exact hK _ _ (keeps_of_below (below1 W _)) (kp_of_below (below1 W _)) (JG.later OD.out hi (below1 W _)) ⟨W.heap.size, hi.size, heap_alloc_new _ _, rfl⟩
  case body =>
    rintro l' pre ⟨⟨t, v⟩, hrecs, hfew, hok⟩ a' W hl' ⟨r, hr⟩ hOI ⟨Bx, hBx, hbx, rfl⟩ hlen
    obtain ⟨H, ⟨_, A6, c6, hv6, hrow⟩, hh⟩ := id hrecs
    have hv7 : v = .slice A6 t.recs.length c6 := hv6
    clear hv6 hr
    subst hv7
    have JW : Hid (JG w w2 (w.heap.size + 1) (w.heap.size + 1 + 1 + 1) (w.heap.size + 1 + 1 + 1 + 1) (w.heap.size + 1 + 1) pre.length (runB ([], []) (pre.map bt)).1 (runB ([], []) (pre.map bt)).2 W) := hOI
    have hbx' : W.heap[Bx]? = some (.cells (BatW.batArr t (.slice A6 t.recs.length c6)) 48 (0, 0)) := hbx
    have BX := Seg.hid hbx'
    have hBxl : Bx < W.heap.size := (Array.getElem?_eq_some_iff.1 hbx').1
    have FLG := Seg.hid (ok_flags hok)
    have OKT := Seg.hid (LgP.okLen (b := t) hok)
    have e0 : W.cell? ⟨Bx, 0, none⟩ = some (.int .i64 t.base) := cell_of_row W Bx 0 _ _ (0, 0) hbx'
    have e1 : W.cell? ⟨Bx, 1, none⟩ = some (.int .i64 t.epoch) := cell_of_row W Bx 1 _ _ (0, 0) hbx'
    have e2 : W.cell? ⟨Bx, 2, none⟩ = some (.int .i64 t.producer) := cell_of_row W Bx 2 _ _ (0, 0) hbx'
    have e3 : W.cell? ⟨Bx, 3, none⟩ = some (.int .i64 t.turn) := cell_of_row W Bx 3 _ _ (0, 0) hbx'
    have e4 : W.cell? ⟨Bx, 4, none⟩ = some (.int .i64 t.seq) := cell_of_row W Bx 4 _ _ (0, 0) hbx'
    have e5 : W.cell? ⟨Bx, 5, none⟩ = some (.int .i64 t.flags) := cell_of_row W Bx 5 _ _ (0, 0) hbx'
    have e6 : W.cell? ⟨Bx, 6, none⟩ = some (.slice A6 t.recs.length c6) := cell_of_row W Bx 6 _ _ (0, 0) hbx'
    have q4 : W.cell? ⟨w.heap.size + 1 + 1 + 1, 0, none⟩ = some (.map (some (w.heap.size + 1))) := cell_of_row W _ 0 _ _ (0, 0) JW.out.r4
    have HROW : Hid (t.recs.length = 0 ∨ ∃ g o, A6 = some ⟨g, o, none⟩ ∧ g < b ∧ t.recs.length ≤ c6 ∧ (∀ i, i < t.recs.length → ∀ j, j < 6 → w2.cell? ⟨g, o + i * 6 + j, none⟩ = some (Recs.recCells t.recs H i j)) ∧ lo ≤ g) := hrow
    have NL : Hid (pre.length < 400) := hlen
    clear hOI hbx hbx' hrow hh hlen
    unfold batVal
    gi_wp2
    refine ⟨trivial, ?_⟩
    refine (CallsIn.inRound l' (callsIn_wide.2 (pass_any t A6 c6 (w.heap.size + 1) pre.length _ W JW.out.map (by have := NL.out; omega) FLG.out.1 FLG.out.2.1 FLG.out.2.2))).mono ?_
    rintro e w8 ⟨rfl, hm8, hg8⟩
    clear e0 e1 e2 e3 e4 e5 e6 q4
    have J8 := Seg.hid (JG.pass OD.out JW.out hg8 hm8)
    obtain ⟨gv, x1, x2, x3⟩ := JW.out.ex
    have X2 := Seg.hid x2; have X3 := Seg.hid x3
    have Y1 : Hid (w8.heap[(w.heap.size + 1 + 1 + 1 + 1)]? = some (.cells #[gv] 41 (0, 0))) := (hg8.block _ (by have := JW.out.size; have := OD.out.l3; omega) (fun e => by simp only [Option.some.injEq] at e; omega)).trans x1
    have Y2 : Hid (w8.ownsRow w.heap.size 50 3 gv (runB ([], []) (pre.map bt)).2.length (gcells (runB ([], []) (pre.map bt)).2)) := by
      refine row_kept x2 (fun x hx => ?_)
      obtain ⟨cs, tt, hc⟩ := row_cells x2 x hx
      refine hg8.block x (Array.getElem?_eq_some_iff.1 hc).1 (fun e => ?_)
      have h1 := x3 x hx
      have h2 := OD.out.l1
      cases e
      omega
    have C8 : Hid (Ch W w8 (w.heap.size + 1) (w.heap.size + 1 + 1 + 1 + 1) gv) := Ch.of_pass hg8
    have B8x := Seg.hid ((hg8.block Bx hBxl (fun e => by have := OD.out.l1; cases e; omega)).trans BX.out)
    have R8 : Hid (∀ y, y < b → w8.heap[y]? = w2.heap[y]?) := fun y hy => by
      have h1 := OD.out.l1
      have h2 := JW.out.size
      exact (hg8.block y (by omega) (fun e => by cases e; omega)).trans (JW.out.keep y (by omega) (by omega) (by omega) (by omega))
    have SL : Hid ((pre ++ [(⟨(t, .slice A6 t.recs.length c6), hrecs, hfew, hok⟩ : It w2 lo b)]).length = pre.length + 1) := by show _ = _; simp
    have SR : Hid (runB ([], []) ((pre ++ [(⟨(t, .slice A6 t.recs.length c6), hrecs, hfew, hok⟩ : It w2 lo b)]).map bt) = stp (runB ([], []) (pre.map bt)) t) := by show _ = _; rw [List.map_append]; exact run_app _ _ _
    have GL : Hid ((runB ([], []) (pre.map bt)).2.length ≤ 400) := by show _ ≤ _; have h1 := gs_le (pre.map bt) ([], []); have h2 := NL.out; simp at h1; omega
    have SF := Seg.hid (step_fst (runB ([], []) (pre.map bt)) t)
    have SS := Seg.hid (step_snd (runB ([], []) (pre.map bt)) t)
    have EM : Hid ((psd (runB ([], []) (pre.map bt)).1 t).2 = true → mk t = true) := fun h => by
      unfold psd at h
      split at h
      · assumption
      · cases h
    clear x1 x2 x3 hg8 hm8 JW
    generalize runB ([], []) (pre.map bt) = rs at *
    generalize (psd rs.1 t).1 = gn at *
    generalize (psd rs.1 t).2 = en at *
    cases en with
    | false =>
      have S2 : Hid ((stp rs t).2 = rs.2) := SS.out.trans (by simp)
      gi_wp2
      exact ⟨Ch.keeps OD.out (C8.out.later (below1 w8 _)) X2.out, Ch.kp HVV.out (C8.out.later (below1 w8 _)) X3.out, by show JG _ _ _ _ _ _ _ _ _ _; rw [SL.out, SR.out, SF.out, S2.out]; exact JG.later OD.out J8.out (below1 w8 _)⟩
    | true =>
    obtain ⟨g2, o2, rfl, hg2, hc2, hcell2, _⟩ := HROW.out.resolve_left (by have := OKT.out; omega)
    have kk : w8.cell? ⟨g2, o2 + 2, none⟩ = some (.string (key0 t)) := by
      have h1 := hcell2 0 (by have := OKT.out; omega) 2 (by omega)
      rw [World.cell?_of_block (w := w2) (a := ⟨g2, o2 + 2, none⟩) (R8.out g2 hg2)]
      have h2 : o2 + 0 * 6 + 2 = o2 + 2 := by omega
      rw [h2] at h1
      exact h1
    have f6 : w8.cell? ⟨Bx, 6, none⟩ = some (.slice (some ⟨g2, o2, none⟩) t.recs.length c6) := cell_of_row w8 Bx 6 _ _ (0, 0) B8x.out
    have l6 : Bx < w8.heap.size := (Array.getElem?_eq_some_iff.1 B8x.out).1
    have lg2 : g2 < w8.heap.size := by have h1 := R8.out g2 hg2; have h2 := C8.out.size; omega
    have n0 : (0 : Int) < (t.recs.length : Int) := by have := OKT.out; omega
    have n1 : 0 < t.recs.length := by omega
    have AB : Hid (abort t = decide ((key0 t).toList = [97, 98, 111, 114, 116])) := rfl
    clear hcell2
    generalize key0 t = ky at *
    by_cases hab : ky.toList = [97, 98, 111, 114, 116]
    · have hb2 : (ky.toList == [97, 98, 111, 114, 116]) = true := by simp [hab]
      have S2 : Hid ((stp rs t).2 = rs.2 ++ [gn]) := SS.out.trans (by rw [AB.out]; simp [hab])
      clear hab
      have y5 : w8.cell? ⟨w.heap.size + 1 + 1 + 1 + 1, 0, none⟩ = some gv := cell_of_row w8 _ 0 _ _ (0, 0) Y1.out
      have l5 : w.heap.size + 1 + 1 + 1 + 1 < w8.heap.size := (Array.getElem?_eq_some_iff.1 Y1.out).1
      have OW : Hid (((w8.alloc (.cells #[.int .i64 gn.producer, .int .i64 gn.first, .int .i64 gn.last] 50 (0, 0))).alloc (.cells #[.int .i64 gn.producer, .int .i64 gn.first, .int .i64 gn.last] 50 (0, 0))).ownsRow w.heap.size 50 3 gv rs.2.length (gcells rs.2)) := Seg.owns_below Y2.out (below2 w8 _ _)
      have NW : Hid (∀ j u, ([.int .i64 gn.producer, .int .i64 gn.first, .int .i64 gn.last] : List Value)[j]? = some u → ((w8.alloc (.cells #[.int .i64 gn.producer, .int .i64 gn.first, .int .i64 gn.last] 50 (0, 0))).alloc (.cells #[.int .i64 gn.producer, .int .i64 gn.first, .int .i64 gn.last] 50 (0, 0))).cell? ((⟨w8.heap.size + 1, 0, none⟩ : Addr).add j) = some u) := World.news_of_block (cs := #[.int .i64 gn.producer, .int .i64 gn.first, .int .i64 gn.last]) (at2y w8 _ _)
      have gl := GL.out
      gi_wp2_with (gi_at_builtin; refine wpListIn_append_own_at _ rfl _ _ 41 rfl w.heap.size 50 i0 _ 3 24 Try.underlying41 hi hz0 hz1 hz2 rfl (by decide) gv rs.2.length (gcells rs.2) rfl OW.out ⟨w8.heap.size + 1, 0, none⟩ 1 1 [.int .i64 gn.producer, .int .i64 gn.first, .int .i64 gn.last] rfl rfl NW.out (by simp [Value.oneCell']) (by unfold maxLen; omega) (by omega) (by rw [hsz, hsz]; omega) ?_; intro v9 w11 hown9 gr9 hnil9 hat9; have D9 := Seg.hid (JG.push OD.out J8.out Y1.out Y2.out X3.out (below2 w8 _ _) hown9 gr9 hat9); have E9 : Hid (Ch W w11 (w.heap.size + 1) (w.heap.size + 1 + 1 + 1 + 1) gv) := (C8.out.later (below2 w8 _ _)).grown gr9; obtain ⟨g9, cap9, rfl⟩ := form_row hown9; have q6 := D9.out.1.1; have p6 := D9.out.1.2; clear hown9 gr9 hnil9 hat9)
      exact ⟨Ch.keeps OD.out (E9.out.set _) X2.out, Ch.kp HVV.out (E9.out.set _) X3.out, by show JG _ _ _ _ _ _ _ _ _ _; rw [SL.out, SR.out, SF.out, S2.out]; exact D9.out.2⟩
    · have hb2 : (ky.toList == [97, 98, 111, 114, 116]) = false := beq_false_of_ne hab
      have S2 : Hid ((stp rs t).2 = rs.2) := SS.out.trans (by rw [AB.out]; simp [hab])
      clear hab
      gi_wp2
      exact ⟨Ch.keeps OD.out (C8.out.later (below1 w8 _)) X2.out, Ch.kp HVV.out (C8.out.later (below1 w8 _)) X3.out, by show JG _ _ _ _ _ _ _ _ _ _; rw [SL.out, SR.out, SF.out, S2.out]; exact JG.later OD.out J8.out (below1 w8 _)⟩
  case done =>
    rintro D ys W hD hS hI hK
    have JW : Hid (JG w w2 (w.heap.size + 1) (w.heap.size + 1 + 1 + 1) (w.heap.size + 1 + 1 + 1 + 1) (w.heap.size + 1 + 1) ys.length (settled l).1 (settled l).2 W) := by
      have h1 : ys.map bt = flatB l.segs := hS
      have h2 : JG w w2 (w.heap.size + 1) (w.heap.size + 1 + 1 + 1) (w.heap.size + 1 + 1 + 1 + 1) (w.heap.size + 1 + 1) ys.length (runB ([], []) (ys.map bt)).1 (runB ([], []) (ys.map bt)).2 W := hI
      rw [h1] at h2
      exact h2
    have UQ : Hid (Uniq (settled l).1) := uniq_run _ _ uniq_nil
    have GL : Hid ((settled l).2.length ≤ 1048576) := by show _ ≤ _; have := gs_le (flatB l.segs) ([], []); unfold settled; simp at this; omega
    obtain ⟨gv, x1, x2, x3⟩ := JW.out.ex
    have X1 := Seg.hid x1; have X2 := Seg.hid x2; have X3 := Seg.hid x3
    have KD := Seg.hid hK
    have zz := JW.out.size
    have z2 := OD.out.l3
    have TL := Seg.hid ((JW.out.keep w.heap.size (by have := OD.out.l1; omega) (by omega) (by omega) (by omega)).trans T2.out)
    have ST : Hid (∀ wx, Below W.heap.size W wx → wx.cell? ⟨w.heap.size + 1 + 1 + 1, 0, none⟩ = some (.map (some (w.heap.size + 1))) ∧ wx.cell? ⟨w.heap.size, 1, none⟩ = some (.int .i64 l.next) ∧ wx.cell? ⟨w.heap.size + 1 + 1 + 1 + 1, 0, none⟩ = some gv) := fun wx bx => ⟨cell_of_row wx _ 0 _ _ (0, 0) ((bx.block _ (by have := OD.out.l2; omega)).trans JW.out.r4), cell_of_row wx _ 1 _ _ (0, 0) ((bx.block _ (by omega)).trans TL.out), cell_of_row wx _ 0 _ _ (0, 0) ((bx.block _ (by omega)).trans X1.out)⟩
    have LC : Hid (∀ wx, Below W.heap.size W wx → Calls Try.prog 43 #[.map (some (w.heap.size + 1)), .int .i64 l.next] wx fun e w' => e = .returned (.int .i64 (least l.next (settled l).1)) ∧ Below wx.heap.size wx w') := fun wx bx => (least_any l.next _ _ _ wx (map_kept (row := none) JW.out.map ⟨bx.os, bx.tape, bx.output, bx.size, fun k hk _ => bx.block k hk⟩ (by simp)) UQ.out).mono fun e w' ⟨h1, h2⟩ => ⟨h1, h2.os, h2.tape, h2.output, h2.size, fun k hk => h2.block k hk (by simp)⟩
    clear hS hI hK x1 x2 x3
    obtain ⟨y1, y2, y3⟩ := ST.out W (Below.refl _ _)
    gi_wp2
    rename_i K aK
    refine wpIn_wide.2 ?_
    go_region_held3 (fun w' => w'.cell? ⟨w.heap.size + 1 + 1 + 1, 0, none⟩ = some (.map (some (w.heap.size + 1))) ∧ w'.cell? ⟨w.heap.size, 1, none⟩ = some (.int .i64 l.next) ∧ w'.cell? ⟨w.heap.size + 1 + 1 + 1 + 1, 0, none⟩ = some gv) (first | go_keep | exact ST.out _ (Below.refl _ _).drew | exact ST.out _ B8.out | exact ST.out _ (Below.refl _ _))
      (first | (go_at_call 43; refine (LC.out _ (Below.refl _ _).drew).mono ?_; rintro e w8 ⟨rfl, b8⟩; have B8 : Hid (Below W.heap.size W w8) := ⟨b8.os, b8.tape, b8.output, b8.size, b8.block⟩; clear b8))
    refine aK _ _ ?_
    have lD : D < W.heap.size := (Array.getElem?_eq_some_iff.1 KD.out).1
    have hK8 : w8.heap[D]? = some (.deferred (some [])) := (B8.out.block D lD).trans KD.out
    have BE : Hid (Below w.heap.size w W) := ⟨JW.out.os.1.trans B2.out.os, JW.out.os.2.1.trans B2.out.tape, JW.out.os.2.2.trans B2.out.output, Nat.le_trans B2.out.size zz, fun x hx => (JW.out.keep x (by omega) (by omega) (by omega) (by omega)).trans (B2.out.block x hx)⟩
    have BF := Seg.hid (chain BE.out B8.out)
    gi_wp2
    refine ⟨by simp, .inl ⟨_, _, rfl, run_takeDeferred hK8, ?_⟩⟩
    have hgp := grownBy_putObj' w8 D (.deferred none)
    refine ⟨_, results_tmp2 rfl _ _ _, gv, rfl, ?_, BF.out.trans (belowK_b (w := w) (Nat.le_refl _) w8 D _ _ (by omega) hK8 rfl rfl)⟩
    refine own_gons (base := w.heap.size) _ (row_kept X2.out (fun x hx => ?_)) GL.out (fun x hx => ?_)
    · obtain ⟨cs, tt, hc⟩ := row_cells X2.out x hx
      have lx : x < W.heap.size := (Array.getElem?_eq_some_iff.1 hc).1
      have nx : x ≠ D := fun e => by rw [e, KD.out] at hc; cases hc
      exact (hgp.block x (by have := B8.out.size; omega) (fun e => nx (by cases e; rfl))).trans (B8.out.block x lx)
    · obtain ⟨cs, tt, hc⟩ := row_cells X2.out x hx
      have lx : x < W.heap.size := (Array.getElem?_eq_some_iff.1 hc).1
      have h1 := X3.out x hx
      have h2 := B8.out.size
      exact ⟨by omega, Nat.lt_of_lt_of_le (Nat.lt_of_lt_of_le lx h2) hgp.size⟩
  case stop =>
    rintro D c' pre W hD hS hX hK
    exact hX.elim
theorem settle_any (v : Value) (l : Lg) (w : World) (lo b : Nat) (hv : LogAt w lo b v l) (hb : b ≤ w.heap.size) (hf : FewL l) (hok : logOk l = true) :
    Calls Try.prog 22 #[v] w fun e w' => ∃ gv, e = .returned (.tuple #[.int .i64 (least l.next (settled l).1), gv]) ∧ GonsOwn w' (seg w.heap.size w'.heap.size) gv (settled l).2 ∧ Below w.heap.size w w' := by
  obtain ⟨sv, rfl, hs⟩ := hv
  obtain ⟨_, ⟨_, A, c, rfl, _⟩, _⟩ := id hs
  exact settle_core l A c w lo b hb hf hs hok
end Go.Proofs.Ytdnfnjlnfmafkaa.SdI
