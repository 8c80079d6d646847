/- The program's ReadFrom, walked; A variable of struct type with a list in it that grows by append, and what lies beside it. -/
import Derived.Test.YtojalklkpnaofaaJF41
import Derived.Test.YtojalklkpnaofaaJF38
namespace Go.Proofs.Ytojalklkpnaofaa.Ft
set_option maxRecDepth 8000
open Go.RowKit Go.Shelf
open Recs
open Bats SegW Segs LogW BfP RfP Zs BfI
open LgP (logOk inR)
open Of (four ok_all flat_count batchesFrom_any keeps_of_below kp_of_below block_own)
set_option linter.unusedVariables false
attribute [local go_sem] Oper.semAt_some
/-- Between two rounds: list and left in their boxes. -/
def PI {w0 : World} {lo b : Nat} (w2 : World) (n0 LB : Nat) (V : Nat → Prop) (y : Int) (pre : List (It w0 lo b)) (W : World) : Prop :=
  ∃ A1 c1, PF w2 W n0 V (.slice A1 (pre.map bt).length c1) (pre.map bt) ∧ W.heap[n0 + 1]? = some (.cells #[.slice A1 (pre.map bt).length c1] 33 (0, 0)) ∧ W.heap[LB]? = some (.cells #[.int .i64 (y - (sizes (pre.map bt) : Int))] 3 (0, 0)) ∧ ∀ rest, rd y 0 (pre.map bt ++ rest) = pre.map bt ++ rd (y - (sizes (pre.map bt) : Int)) (pre.map bt).length rest
/-- Behind a round that has left. -/
structure PX {w0 : World} {lo b : Nat} (w2 : World) (n0 : Nat) (V : Nat → Prop) (y : Int) (c : Code) (pre : List (It w0 lo b)) (W : World) : Prop where
  code : c = .exit 0
  val : ∃ us A1 c1, PF w2 W n0 V (.slice A1 us.length c1) us ∧ W.heap[n0 + 1]? = some (.cells #[.slice A1 us.length c1] 33 (0, 0)) ∧ ∀ rest, rd y 0 (pre.map bt ++ rest) = us
theorem pf_own {w2 W W' : World} {n0 : Nat} {V : Nat → Prop} {v : Value} {us : List Bat} {row : Option Nat} (h : PF w2 W n0 V v us) (hg : W.grownBy W' row) (hr : ∀ r, row = some r → w2.heap.size ≤ r ∧ ∃ o : Obj, W.heap[r]? = some o ∧ o.isCells = false) : PF w2 W' n0 V v us :=
  h.grownC hg (fun r e => .inl ⟨(hr r e).1, fun hc => by
    obtain ⟨_, o, ho, hc'⟩ := hr r e
    obtain ⟨cs, t, fr, h'⟩ := hc
    rw [h'] at ho
    cases ho
    cases hc'⟩)
theorem sizes_it {w0 : World} {lo b : Nat} : ∀ pre : List (It w0 lo b), sizes (pre.map bt) ≤ pre.length * 100000
  | [] => by simp [sizes]
  | p :: r => by
    have := sizes_it r
    have := size_le p.2.2.2
    simp only [List.map_cons, sizes, List.length_cons, Nat.succ_mul]
    show size p.1.1 + _ ≤ _
    omega
theorem nx {w0 : World} {lo b : Nat} {w2 W W9 w10 w11 : World} {n0 LB : Nat} {V : Nat → Prop} {y : Int} {us : List Bat} {A1 : Option Addr} {c1 : Nat} {t : Bat} {g9 cap9 a z : Nat} {o : Obj} {pre : List (It w0 lo b)} {it : It w0 lo b}
    (hus : (pre ++ [it]).map bt = us ++ [t]) (hV1 : V (n0 + 1)) (hn1 : n0 + 1 < LB) (hLB : LB < w2.heap.size) (ha : sizes us = a) (hz : size t = z)
    (P9 : PF w2 W9 n0 V (.slice A1 us.length c1) us) (K9 : KeepsFrom w2.heap.size W W9) (KP9 : Kp V w2.heap.size W W9)
    (LB9 : W9.heap[n0 + 1]? = some (.cells #[.slice A1 us.length c1] 33 (0, 0))) (LF9 : W9.heap[LB]? = some (.cells #[.int .i64 (y - (a : Int) - (z : Int))] 3 (0, 0)))
    (b10 : Below W9.heap.size W9 w10) (gr : (w10.alloc o).grownBy w11 (Value.slice A1 us.length c1).ownBlock)
    (D : PF w2 w11 n0 V (.slice (some ⟨g9, 0, none⟩) (us.length + 1) cap9) (us ++ [t]))
    (hN : ∀ rest, rd y 0 ((pre ++ [it]).map bt ++ rest) = (us ++ [t]) ++ rd (y - ((a + z : Nat) : Int)) (us ++ [t]).length rest) :
    w11.cell? ⟨n0 + 1, 0, none⟩ = some (.slice A1 us.length c1) ∧ w11.frozen? ⟨n0 + 1, 0, none⟩ = false ∧ KeepsFrom w2.heap.size W (w11.setCell ⟨n0 + 1, 0, none⟩ (.slice (some ⟨g9, 0, none⟩) (us.length + 1) cap9)) ∧ Kp V w2.heap.size W (w11.setCell ⟨n0 + 1, 0, none⟩ (.slice (some ⟨g9, 0, none⟩) (us.length + 1) cap9)) ∧ PI w2 n0 LB V y (pre ++ [it]) (w11.setCell ⟨n0 + 1, 0, none⟩ (.slice (some ⟨g9, 0, none⟩) (us.length + 1) cap9)) := by
  have z9 := P9.size
  have z10 := b10.size
  have gs := gr.size
  rw [hsz] at gs
  have hn := P9.n0.1
  have vo : ∀ k, (Value.slice A1 us.length c1).ownBlock = some k → (k = n0 ∨ w2.heap.size ≤ k) ∧ IsC W9 k := P9.out
  have far : ∀ k, k < W9.heap.size → some k ≠ (Value.slice A1 us.length c1).ownBlock → w11.heap[k]? = W9.heap[k]? := fun k hk hne => (gr.block k (by rw [hsz]; omega) hne).trans (((below1 _ _).block _ (by omega)).trans (b10.block k hk))
  have LB11 := (far (n0 + 1) (by omega) (fun e => by have := (vo _ e.symm).1; omega)).trans LB9
  have LF11 := (far LB (by omega) (fun e => by have := (vo _ e.symm).1; omega)).trans LF9
  refine ⟨cell_of_row w11 (n0 + 1) 0 _ _ (0, 0) LB11, frozen_of_row w11 (n0 + 1) 0 _ _ LB11, ⟨by rw [World.size_setCell]; have := K9.size; omega, fun q o' h1 h2 h3 => ?_⟩, ?_, ?_⟩
  · have q9 := K9.same q o' h1 h2 h3
    rw [heap_setCell_other _ _ _ _ (by show q ≠ n0 + 1; omega), far q (Array.getElem?_eq_some_iff.1 q9).1 (fun e => ?_)]
    · exact q9
    · obtain ⟨cs, t', fr, hc⟩ := (vo q e.symm).2
      rw [hc] at q9
      cases q9
      cases h3
  · have hk9 := KP9.size
    refine ⟨gr.os.trans (b10.os.trans KP9.os), gr.tape.trans (b10.tape.trans KP9.tape), gr.output.trans (b10.output.trans KP9.output), by rw [World.size_setCell]; omega, fun k hk hne => ?_⟩
    rw [heap_setCell_other _ _ _ _ (fun e => hne (.inl (by rw [show k = n0 + 1 from e]; exact hV1))), far k (by omega) (fun e => ?_)]
    · exact KP9.block k hk hne
    · rcases (vo k e.symm).1 with e1 | e1
      · exact hne (.inl (e1 ▸ P9.n0.2))
      · exact hne (.inr e1)
  · refine ⟨some ⟨g9, 0, none⟩, cap9, ?_, ?_, ?_, ?_⟩
    · rw [hus, List.length_append, List.length_singleton]
      exact D.grownC (row := some (n0 + 1)) (grownBy_setCell' w11 (n0 + 1) _) (fun r e => .inr (by cases e; exact ⟨by omega, hV1, by omega⟩))
    · rw [hus, List.length_append, List.length_singleton]
      exact heap_setCell_same w11 (n0 + 1) 0 _ _ _ LB11
    · rw [hus, sizes_app, ha, heap_setCell_other _ _ _ _ (by show LB ≠ n0 + 1; omega), LF11]
      simp only [sizes, hz, Nat.add_zero]
      rw [show y - ((a + z : Nat) : Int) = y - (a : Int) - (z : Int) by omega]
    · intro rest
      rw [hN rest, hus, sizes_app, ha]
      simp only [sizes, hz, Nat.add_zero]
set_option maxHeartbeats 3200000 in
theorem readFrom_core (l : Lg) (x y : Int) (A : Option Addr) (c : Nat) (w : World) (lo b : Nat) (hb : b ≤ w.heap.size) (hf : FewL l) (hyb : y ≤ 9223372036854775807) (hs : SegsAt w lo b (.slice A l.segs.length c) l.segs) :
    Calls Try.prog 11 #[logVal l (.slice A l.segs.length c), .int .i64 x, .int .i64 y] w fun e w' => ∃ v, e = .returned (.tuple #[v, .int .i64 (reads l x y).2]) ∧ OwnB w' (seg w.heap.size w'.heap.size) v (reads l x y).1 ∧ Below w.heap.size w w' := by
  obtain ⟨i0, hi, hz0, hz1, hz2⟩ := info_parts infoB
  have HS := Seg.hid hs
  have HV : Hid (LogAt w lo b (logVal l (.slice A l.segs.length c)) l) := ⟨_, rfl, hs⟩
  have HF := Seg.hid hf
  clear hs hf
  unfold logVal at HV ⊢
  refine (callsIn_wide (n := 5)).1 ?_
  refine callsIn_of_wp_marks Try.func11 rfl trivial ?_ rfl
  simp only [Try.ntmps11, List.size_toArray, List.length_cons, List.length_nil, Nat.reduceAdd, Nat.reduceSub, Array.replicate_succ, Array.replicate_zero, List.push_toArray, List.append_toArray, List.nil_append, List.cons_append]
  gi_wp2
  refine ⟨trivial, ?_⟩
  refine (callsIn_wide.2 (LgI.impl_any _ l (((w.alloc _).alloc _).alloc _) lo b (HV.out.below ((below3 w _ _ _).mono hb)) (by rw [hsz, hsz, hsz]; omega) HF.out)).mono ?_
  rintro e w1 ⟨rfl, b1⟩
  have B1 := Seg.hid (chain (below3 w _ _ _) b1)
  have T1 : Hid (w1.heap[w.heap.size]? = some (.cells (logArr l (.slice A l.segs.length c)) 29 (0, 0))) := (b1.block w.heap.size (by rw [hsz, hsz, hsz]; omega)).trans (((below1 _ _).block _ (by rw [hsz, hsz]; omega)).trans (((below1 _ _).block _ (by rw [hsz]; omega)).trans (heap_alloc_new _ _)))
  have E1 : Hid (w1.heap[w.heap.size + 1]? = some (.cells #[] 44 (0, 0))) := (b1.block (w.heap.size + 1) (by rw [hsz, hsz, hsz]; omega)).trans (at3 w _ _ _)
  have L1 : Hid (w1.heap[w.heap.size + 1 + 1]? = some (.cells #[.slice (some ⟨w.heap.size + 1, 0, none⟩) 0 0] 33 (0, 0))) := (b1.block (w.heap.size + 1 + 1) (by rw [hsz, hsz, hsz]; omega)).trans (Cells.at3' w _ _ _)
  have s1 := b1.size
  rw [hsz, hsz, hsz] at s1
  clear b1
  have NIL : Hid (∀ wx : World, OwnB wx (seg w.heap.size wx.heap.size) (.slice (some ⟨w.heap.size + 1, 0, none⟩) 0 0) []) := fun wx => LOwn.nil _ _ _ _
  have lc : w1.cell? ⟨w.heap.size + 1 + 1, 0, none⟩ = some (.slice (some ⟨w.heap.size + 1, 0, none⟩) 0 0) := cell_of_row w1 (w.heap.size + 1 + 1) 0 _ _ (0, 0) L1.out
  cases hok : logOk l with
  | false =>
    have HC : Hid (reads l x y = ([], 1)) := by show _ = _; simp [reads, hok]
    clear hok
    gi_wp2
    exact ⟨_, results_tmp2 rfl _ _ _, .slice (some ⟨w.heap.size + 1, 0, none⟩) 0 0, by rw [HC.out]; rfl, by rw [HC.out]; exact NIL.out _, B1.out⟩
  | true =>
  obtain ⟨c0, c1, c2, c3⟩ := four T1.out
  by_cases hy : y < 0
  · have HC : Hid (reads l x y = ([], 1)) := by show _ = _; simp [reads, hok]; omega
    clear hok
    gi_wp2
    exact ⟨_, results_tmp2 rfl _ _ _, .slice (some ⟨w.heap.size + 1, 0, none⟩) 0 0, by rw [HC.out]; rfl, by rw [HC.out]; exact NIL.out _, B1.out⟩
  have hy0 : decide (y < 0) = false := decide_eq_false hy
  have hw1 : w.heap.size < w1.heap.size := by omega
  have RD : Hid (∀ t, inR x l.start l.next = t → reads l x y = if t = true then (rd y 0 (fromB x (flatB l.segs)), 0) else ([], 4)) := fun t ht => by unfold reads; rw [if_pos (by rw [hok, decide_eq_true (show (0 : Int) ≤ y by omega)]; rfl), ht]
  cases hin : (decide (l.start ≤ x) && decide (x ≤ l.next)) with
  | false =>
    have HC : Hid (reads l x y = ([], 4)) := RD.out false hin
    clear hok
    gi_wp2
    refine ⟨trivial, ?_⟩
    refine (callsIn_wide.2 (InB.within_b x l.start l.next false hin w1)).mono ?_
    rintro e w1' ⟨rfl, rfl⟩
    clear hin
    gi_wp2
    exact ⟨_, results_tmp2 rfl _ _ _, .slice (some ⟨w.heap.size + 1, 0, none⟩) 0 0, by rw [HC.out]; rfl, by rw [HC.out]; exact NIL.out _, B1.out⟩
  | true =>
  have HC : Hid (reads l x y = (rd y 0 (fromB x (flatB l.segs)), 0)) := RD.out true hin
  obtain ⟨f, k1, k2, k3, k4, k5, k6, k7⟩ := ok_all hok
  have K1 := Seg.hid k1
  have FL : (flatB l.segs).length ≤ 400 := by rw [flat_count]; exact k7
  clear hok k1
  gi_wp2
  refine ⟨trivial, ?_⟩
  refine (callsIn_wide.2 (InB.within_b x l.start l.next true hin w1)).mono ?_
  rintro e w1' ⟨rfl, rfl⟩
  clear hin lc
  gi_wp2
  refine ⟨trivial, ?_⟩
  refine (callsIn_wide.2 (batchesFrom_any _ x A l.segs.length c (w1.alloc _) rfl)).mono ?_
  rintro e w2 ⟨rfl, a1, a2, b2, a3⟩
  rw [hsz] at a1 a2 a3
  gi_wp2
  have b12 := Seg.hid (chain (below1 w1 _) b2)
  have B2 := Seg.hid (chain B1.out b12.out)
  have LF2 : Hid (w2.heap[w1.heap.size]? = some (.cells #[.int .i64 y] 3 (0, 0))) := (b2.block w1.heap.size (by rw [hsz]; omega)).trans (heap_alloc_new _ _)
  have L2 := Seg.hid ((b12.out.block (w.heap.size + 1 + 1) (by omega)).trans L1.out)
  have E2 := Seg.hid ((b12.out.block (w.heap.size + 1) (by omega)).trans E1.out)
  have hs2 : w1.heap.size + 2 < w2.heap.size := by omega
  have BIG : w.heap.size ≤ w2.heap.size := B2.out.size
  have HS2 := Seg.hid (HS.out.below (B2.out.mono hb))
  clear b2 c0 c1 c2 c3 T1 E1 L1
  obtain ⟨V, hV0⟩ : ∃ V : Nat → Prop, V = fun k => k = w.heap.size + 1 ∨ k = w.heap.size + 1 + 1 ∨ k = w1.heap.size := ⟨_, rfl⟩
  have HVV : Hid (∀ k, V k ↔ (k = w.heap.size + 1 ∨ k = w.heap.size + 1 + 1 ∨ k = w1.heap.size)) := fun k => by rw [hV0]
  clear hV0
  have HSTOP := stops 4 (by omega) V w2.heap.size 400 (w1.heap.size + 1) (w1.heap.size + 1 + 1) lo b c A x f l.segs w2 HS2.out (by omega) (Nat.le_refl _) (fun k h => by have := (HVV.out k).1 h; omega) a1 (by omega) a2 (by omega) (by omega) (fun i hi => HF.out.1.2 i hi) K1.out (Nat.le_trans (List.length_filter_le _ _) FL)
  have P0 : Hid (PF w2 w2 (w.heap.size + 1) V (.slice (some ⟨w.heap.size + 1, 0, none⟩) 0 0) []) := by
    refine ⟨⟨fun _ => default, fun _ _ => False, ⟨?_, fun i hi => absurd hi (by simp), fun i hi => absurd hi (by simp), fun i j hi => absurd hi (by simp)⟩, fun i hi => absurd hi (by simp)⟩, fun _ _ _ => rfl, fun q hq => ?_, ⟨rfl, rfl, rfl⟩, Nat.le_refl _, by omega, (HVV.out _).2 (.inl rfl)⟩
    · exact ⟨rfl, .inr ⟨w.heap.size + 1, 0, #[], rfl, Nat.le_refl _, E2.out, Nat.le_refl _, Nat.zero_le _, rfl, by simp⟩⟩
    · simp only [Value.ownBlock, Option.some.injEq] at hq
      exact ⟨.inl hq.symm, hq ▸ ⟨_, _, _, E2.out⟩⟩
  clear a1 a2 a3
  refine wpIn_rangeFunc_ownH rfl (by omega) (gf := 41) (lb := #[.pointer (some ⟨w1.heap.size + 1, 0, none⟩), .pointer (some ⟨w1.heap.size + 1 + 1, 0, none⟩)]) rfl trivial (enters_of Try.func41 (by kernel_rfl) rfl)
    HSTOP kp_t (kp_b (Nat.le_refl _)) (Below.refl _ _) (fun _ => rfl)
    (fun pre W => PI w2 (w.heap.size + 1) w1.heap.size V y pre W)
    (fun c' pre W => PX w2 (w.heap.size + 1) V y c' pre W)
    (fun s A B row hs hg hr => by
      obtain ⟨A1, c1, h1, h2, h3, h4⟩ := hs
      exact ⟨A1, c1, pf_own h1 hg hr, block_own (β := Unit) w2.heap.size _ _ _ () A B row h2 hg hr, block_own (β := Unit) w2.heap.size _ _ _ () A B row h3 hg hr, h4⟩)
    (fun c' s A B row hs hg hr => by
      obtain ⟨us, A1, c1, h1, h2, h3⟩ := hs.val
      exact ⟨hs.code, us, A1, c1, pf_own h1 hg hr, block_own (β := Unit) w2.heap.size _ _ _ () A B row h2 hg hr, h3⟩)
    ⟨some ⟨w.heap.size + 1, 0, none⟩, 0, P0.out, L2.out, by simpa [sizes] using LF2.out, fun rest => by simp [sizes]⟩
    (fun p a' W => ∃ Bx, w2.heap.size ≤ Bx ∧ W.heap[Bx]? = some (.cells (BatW.batArr p.1.1 p.1.2) 44 (0, 0)) ∧ a' = { tmps := #[.agg #[.int .i64 l.start, .int .i64 l.next, .int .i64 l.roll, .slice A l.segs.length c], .int .i64 x, .int .i64 y, .pointer (some ⟨w.heap.size, 0, none⟩), undef, undef, .slice none 0 0, .int .i64 0, .pointer (some ⟨w.heap.size + 1 + 1, 0, none⟩), .pointer (some ⟨w1.heap.size, 0, none⟩), .pointer (some ⟨Bx, 0, none⟩), .slice (some ⟨w.heap.size + 1, 0, none⟩) 0 0, .agg #[.int .i64 l.start, .int .i64 l.next, .int .i64 l.roll, .slice A l.segs.length c], .bool true, .bool false, .bool false, .int .i64 y, .bool false, .bool false, undef, .int .i64 x, .pointer (some ⟨w.heap.size, 0, none⟩), .int .i64 l.start, .pointer (some ⟨w.heap.size, 1, none⟩), .int .i64 l.next, .bool true, .bool false, undef, .int .i64 y, .pointer (some ⟨w.heap.size, 3, none⟩), .slice A l.segs.length c, .int .i64 x, .func (.func 41) #[] #[.pointer (some ⟨w1.heap.size + 1, 0, none⟩), .pointer (some ⟨w1.heap.size + 1 + 1, 0, none⟩)], batVal p.1.1 p.1.2, undef, undef, undef, undef, undef, undef, undef, undef, undef, undef, undef, undef, undef, undef, undef, undef, undef], defers := [] })
    (fun p a' s W W' row hs hg hr => ⟨hs.choose, hs.choose_spec.1, block_own (β := Unit) w2.heap.size _ _ _ s W W' row hs.choose_spec.2.1 hg hr, hs.choose_spec.2.2⟩) ?assign ?body ?done ?stop
  case assign =>
    rintro l' pre ⟨⟨t, v⟩, hrecs, hfew, hok⟩ W K hPI hK
    obtain ⟨_, ⟨_, A6, c6, hv6, _⟩, _⟩ := id hrecs
    have hv7 : v = .slice A6 t.recs.length c6 := hv6
    clear hv6
    subst hv7
    obtain ⟨A1, c1, h1, h2, h3, h4⟩ := hPI
    have hW := h1.size
    unfold batVal
    gi_wp2
    exact hK _ _ (keeps_of_below (below1 W _)) (kp_of_below (below1 W _)) ⟨A1, c1, h1.later (below1 W _), ((below1 _ _).block _ (by omega)).trans h2, ((below1 _ _).block _ (by omega)).trans h3, h4⟩ ⟨W.heap.size, hW, heap_alloc_new _ _, rfl⟩
  case body =>
    rintro l' pre ⟨⟨t, v⟩, hrecs, hfew, hok⟩ a' W hl' ⟨r, hr⟩ hPI ⟨Bx, hBx, hbx, rfl⟩ hlen
    obtain ⟨H, ⟨_, A6, c6, hv6, hrow⟩, hh⟩ := id hrecs
    have hv7 : v = .slice A6 t.recs.length c6 := hv6
    clear hv6 hrow hh
    subst hv7
    obtain ⟨A1, c1, h1, h2, h3, h4⟩ := hPI
    have PF0 := Seg.hid h1
    have LB0 := Seg.hid h2
    have LF0 := Seg.hid h3
    have RD0 := Seg.hid h4
    have hbx' : W.heap[Bx]? = some (.cells (BatW.batArr t (.slice A6 t.recs.length c6)) 44 (0, 0)) := hbx
    have BX := Seg.hid hbx'
    have hBxl : Bx < W.heap.size := (Array.getElem?_eq_some_iff.1 hbx').1
    have hW := h1.size
    have SI := sizes_it pre
    have zs := size_le (t := t) hok
    have ULEN : Hid ((pre.map bt).length = pre.length) := by show _ = _; simp
    clear h1 h2 h3 h4 hbx hbx'
    obtain ⟨us, hus⟩ : ∃ us, pre.map bt = us := ⟨_, rfl⟩
    rw [hus] at PF0 LB0 LF0 RD0 SI ULEN
    have HUS := Seg.hid hus
    clear hus
    obtain ⟨a, ha⟩ : ∃ a, sizes us = a := ⟨_, rfl⟩
    rw [ha] at LF0 RD0 SI
    have HA := Seg.hid ha
    clear ha
    have hul : us.length ≤ 400 := by rw [ULEN.out]; omega
    have ha4 : (a : Int) ≤ 40000000 := by omega
    obtain ⟨z, hz⟩ : ∃ z, size t = z := ⟨_, rfl⟩
    rw [hz] at zs
    have HZ := Seg.hid hz
    clear hz
    have BATX : Hid (∀ wx, Below W.heap.size W wx → BatAt wx lo b (.agg (BatW.batArr t (.slice A6 t.recs.length c6))) t) := fun wx bx => ⟨_, rfl, RecsAt.keep (w := w2) hrecs fun q _ hq => (bx.block q (by omega)).trans (PF0.out.keep q (by omega) (fun hq' => by have := (HVV.out q).1 hq'; omega))⟩
    have BSZ : Hid (∀ wx, Below W.heap.size W wx → CallsIn (Fence.wide.inRound l') (5 - 1 - 1 - 1) Try.prog 28 #[.agg #[.int .i64 t.base, .int .i64 t.epoch, .int .i64 t.producer, .int .i64 t.turn, .int .i64 t.seq, .int .i64 t.flags, .slice A6 t.recs.length c6]] wx fun e w' => e = .returned (.int .i64 z) ∧ Below wx.heap.size wx w') := fun wx bx => by
      have := Zs.batchSize_any _ t wx lo b (BATX.out wx bx) (by have := bx.size; omega)
      rw [HZ.out] at this
      exact CallsIn.inRound l' (callsIn_wide.2 this)
    have hLBW : w1.heap.size < W.heap.size := by omega
    have hLW : w.heap.size + 1 + 1 < W.heap.size := by omega
    have lf : W.cell? ⟨w1.heap.size, 0, none⟩ = some (.int .i64 (y - (a : Int))) := cell_of_row W w1.heap.size 0 _ _ (0, 0) LF0.out
    have lff := frozen_of_row W w1.heap.size 0 _ _ LF0.out
    have lc : W.cell? ⟨w.heap.size + 1 + 1, 0, none⟩ = some (.slice A1 us.length c1) := cell_of_row W (w.heap.size + 1 + 1) 0 _ _ (0, 0) LB0.out
    have lcf := frozen_of_row W (w.heap.size + 1 + 1) 0 _ _ LB0.out
    obtain ⟨e0, e1, e2, e3, e4, e5, e6⟩ := seven BX.out
    have wz : IntKind.i64.wrap (y - (a : Int) - (z : Int)) = y - (a : Int) - (z : Int) := by rw [IntKind.wrap_i64]; omega
    have hnn : 1 ≤ 5 - 1 - 1 := by omega
    have hfol : Try.prog.follows Departure.mixedOrders = true := by kernel_rfl
    gi_wp2
    rename_i Qb K aK
    gi_region_with_o (first | (refine ⟨trivial, ?_⟩; gi_at_call 28; refine (BSZ.out W.drew (Below.refl _ _).drew).mono ?_; rintro e w8 ⟨rfl, b8⟩; have B8 : Hid (Below W.heap.size W w8) := ⟨b8.os, b8.tape, b8.output, b8.size, b8.block⟩; have lf8 : w8.cell? ⟨w1.heap.size, 0, none⟩ = some (.int .i64 (y - (a : Int))) := (b8.cell (p := ⟨w1.heap.size, 0, none⟩) hLBW).trans lf; have lff8 : w8.frozen? ⟨w1.heap.size, 0, none⟩ = false := (b8.frozen (p := ⟨w1.heap.size, 0, none⟩) hLBW).trans lff; clear b8) | (gi_at_call 28; refine (BSZ.out W.drew (Below.refl _ _).drew).mono ?_; rintro e w8 ⟨rfl, b8⟩; have B8 : Hid (Below W.heap.size W w8) := ⟨b8.os, b8.tape, b8.output, b8.size, b8.block⟩; have lf8 : w8.cell? ⟨w1.heap.size, 0, none⟩ = some (.int .i64 (y - (a : Int))) := (b8.cell (p := ⟨w1.heap.size, 0, none⟩) hLBW).trans lf; have lff8 : w8.frozen? ⟨w1.heap.size, 0, none⟩ = false := (b8.frozen (p := ⟨w1.heap.size, 0, none⟩) hLBW).trans lff; clear b8))
    all_goals
      refine aK _ _ ?_
      clear aK lf lff lc lcf e0 e1 e2 e3 e4 e5 e6 BSZ
      have s8 := B8.out.size
      have PF9 : Hid (PF w2 (w8.setCell ⟨w1.heap.size, 0, none⟩ (.int .i64 (y - (a : Int) - (z : Int)))) (w.heap.size + 1) V (.slice A1 us.length c1) us) := (PF0.out.later B8.out).grownC (row := some w1.heap.size) ⟨rfl, rfl, rfl, by simp, fun k _ hk => heap_setCell_other w8 ⟨w1.heap.size, 0, none⟩ k _ (fun e => hk (by simp [e]))⟩ (fun r e => .inr (by cases e; exact ⟨by omega, (HVV.out _).2 (.inr (.inr rfl)), by omega⟩))
      have LF9 : Hid ((w8.setCell ⟨w1.heap.size, 0, none⟩ (.int .i64 (y - (a : Int) - (z : Int)))).heap[w1.heap.size]? = some (.cells #[.int .i64 (y - (a : Int) - (z : Int))] 3 (0, 0))) := heap_setCell_same w8 w1.heap.size 0 _ _ _ ((B8.out.block _ hLBW).trans LF0.out)
      have LB9 : Hid ((w8.setCell ⟨w1.heap.size, 0, none⟩ (.int .i64 (y - (a : Int) - (z : Int)))).heap[w.heap.size + 1 + 1]? = some (.cells #[.slice A1 us.length c1] 33 (0, 0))) := (heap_setCell_other w8 ⟨w1.heap.size, 0, none⟩ (w.heap.size + 1 + 1) _ (by show _ ≠ w1.heap.size; omega)).trans ((B8.out.block _ hLW).trans LB0.out)
      have BX9 : Hid ((w8.setCell ⟨w1.heap.size, 0, none⟩ (.int .i64 (y - (a : Int) - (z : Int)))).heap[Bx]? = some (.cells (BatW.batArr t (.slice A6 t.recs.length c6)) 44 (0, 0))) := (heap_setCell_other w8 ⟨w1.heap.size, 0, none⟩ Bx _ (by show _ ≠ w1.heap.size; omega)).trans ((B8.out.block _ hBxl).trans BX.out)
      have hz9 : w8.heap.size = (w8.setCell ⟨w1.heap.size, 0, none⟩ (.int .i64 (y - (a : Int) - (z : Int)))).heap.size := by simp
      have KW9 : KeepsFrom w2.heap.size W (w8.setCell ⟨w1.heap.size, 0, none⟩ (.int .i64 (y - (a : Int) - (z : Int)))) := ⟨by rw [World.size_setCell]; exact s8, fun q o' h1' h2' h3' => (heap_setCell_other _ _ _ _ (by show q ≠ w1.heap.size; omega)).trans ((B8.out.block q (Array.getElem?_eq_some_iff.1 h2').1).trans h2')⟩
      have KPW9 : Kp V w2.heap.size W (w8.setCell ⟨w1.heap.size, 0, none⟩ (.int .i64 (y - (a : Int) - (z : Int)))) := ⟨B8.out.os, B8.out.tape, B8.out.output, by rw [World.size_setCell]; exact s8, fun q hq hne => (heap_setCell_other _ _ _ _ (fun e => hne (.inl ((HVV.out _).2 (.inr (.inr e)))))).trans (B8.out.block q hq)⟩
      have BAT9 : Hid (∀ wx, Below (w8.setCell ⟨w1.heap.size, 0, none⟩ (.int .i64 (y - (a : Int) - (z : Int)))).heap.size (w8.setCell ⟨w1.heap.size, 0, none⟩ (.int .i64 (y - (a : Int) - (z : Int)))) wx → BatAt wx lo b (.agg (BatW.batArr t (.slice A6 t.recs.length c6))) t) := fun wx bx => ⟨_, rfl, RecsAt.keep (w := w2) hrecs fun q _ hq => (bx.block q (by rw [World.size_setCell]; omega)).trans (PF9.out.keep q (by omega) (fun hq' => by have := (HVV.out q).1 hq'; omega))⟩
      clear lf8 lff8
      generalize w8.setCell ⟨w1.heap.size, 0, none⟩ (.int .i64 (y - (a : Int) - (z : Int))) = W9 at *
      have lf : W9.cell? ⟨w1.heap.size, 0, none⟩ = some (.int .i64 (y - (a : Int) - (z : Int))) := cell_of_row W9 w1.heap.size 0 _ _ (0, 0) LF9.out
      have lc : W9.cell? ⟨w.heap.size + 1 + 1, 0, none⟩ = some (.slice A1 us.length c1) := cell_of_row W9 (w.heap.size + 1 + 1) 0 _ _ (0, 0) LB9.out
      have lcf := frozen_of_row W9 (w.heap.size + 1 + 1) 0 _ _ LB9.out
      obtain ⟨e0, e1, e2, e3, e4, e5, e6⟩ := seven BX9.out
      have HZ9 := Seg.hid hz9
      have S9 : W.heap.size ≤ W9.heap.size := by omega
      clear hz9 s8 B8
      have KF9 : Hid (KeepsFrom w2.heap.size W W9) := KW9
      have KP9 : Hid (Kp V w2.heap.size W W9) := KPW9
      clear KW9 KPW9
      have MAP : Hid (∀ rest, (pre ++ [(⟨(t, .slice A6 t.recs.length c6), hrecs, hfew, hok⟩ : It w2 lo b)]).map bt ++ rest = us ++ (t :: rest)) := fun rest => by rw [List.map_append, HUS.out, List.append_assoc]; rfl
      by_cases hst : y - (a : Int) - (z : Int) < 0 ∧ 0 < us.length
      · have g1 : decide (y - (a : Int) - (z : Int) < 0) = true := decide_eq_true hst.1
        have g2 : decide ((0 : Int) < (us.length : Int)) = true := decide_eq_true (by omega)
        have ANS : Hid (∀ rest, rd y 0 ((pre ++ [(⟨(t, .slice A6 t.recs.length c6), hrecs, hfew, hok⟩ : It w2 lo b)]).map bt ++ rest) = us) := fun rest => by
          rw [MAP.out, RD0.out, rd_stop ⟨by rw [HZ.out]; exact hst.1, hst.2⟩, List.append_nil]
        gi_wp2
        exact ⟨KF9.out, rfl, us, A1, c1, PF9.out, LB9.out, ANS.out⟩
      have NXT : Hid (∀ rest, rd y 0 ((pre ++ [(⟨(t, .slice A6 t.recs.length c6), hrecs, hfew, hok⟩ : It w2 lo b)]).map bt ++ rest) = (us ++ [t]) ++ rd (y - ((a + z : Nat) : Int)) (us ++ [t]).length rest) := fun rest => by
        rw [MAP.out, RD0.out, rd_go (by rw [HZ.out]; exact hst), List.append_assoc, List.length_append, List.length_singleton, HZ.out, show y - ((a + z : Nat) : Int) = y - (a : Int) - (z : Int) by omega]
        rfl
      have CPY : Hid (∀ wx, Below W9.heap.size W9 wx → CallsIn (Fence.wide.inRound l') (5 - 1 - 1 - 1) Try.prog 29 #[.agg #[.int .i64 t.base, .int .i64 t.epoch, .int .i64 t.producer, .int .i64 t.turn, .int .i64 t.seq, .int .i64 t.flags, .slice A6 t.recs.length c6]] wx fun e w' => ∃ rv, e = .returned (batVal t rv) ∧ OwnR w' (seg wx.heap.size w'.heap.size) rv t.recs ∧ Below wx.heap.size wx w') := fun wx bx =>
        CallsIn.inRound l' (callsIn_wide.2 (copyBatch_any _ t wx lo b (BAT9.out wx bx) (by have := bx.size; omega) hfew))
      obtain ⟨F, P, hG, hP⟩ := PF9.out.grow
      have HG := Seg.hid hG
      have HP := Seg.hid hP
      have MP1 : Hid ((pre ++ [(⟨(t, .slice A6 t.recs.length c6), hrecs, hfew, hok⟩ : It w2 lo b)]).map bt = us ++ [t]) := by show _ = _; rw [List.map_append, HUS.out]; rfl
      have hn1 : w.heap.size + 1 + 1 < w1.heap.size := by omega
      have hLB : w1.heap.size < w2.heap.size := by omega
      clear hG hP MAP
      by_cases hst1 : y - (a : Int) - (z : Int) < 0
      · have g1 : decide (y - (a : Int) - (z : Int) < 0) = true := decide_eq_true hst1
        have g2 : decide ((0 : Int) < (us.length : Int)) = false := decide_eq_false (by omega)
        gi_wp2
        refine wpIn_region_any (by assumption) ?_
        (try (change wpAnyIn _ _ _ _ _ _ _ _ _ (World.drew _)))
        refine wpAnyIn_ready (rs := [0, 1]) (by kernel_rfl) (by simp) (AllReadyIn.cons rfl (fun K2 hK => ?_) (AllReadyIn.cons rfl (fun K2 hK => ?_) AllReadyIn.nil))
        · go_simp; refine hK _ _ ?_; clear hK K2
          refine wpAnyIn_ready (rs := [1]) (by kernel_rfl) (by simp) (AllReadyIn.cons rfl (fun K2 hK => ?_) AllReadyIn.nil)
          go_simp; refine hK _ _ ?_; clear hK K2
          refine wpAnyIn_ready (rs := [2]) (by kernel_rfl) (by simp) (AllReadyIn.cons rfl (fun K2 hK => ?_) AllReadyIn.nil)
          go_simp; first | (refine ⟨trivial, ?_⟩; gi_at_call 29; refine (CPY.out W9.drew (Below.refl _ _).drew).mono ?_; rintro e w10 ⟨rv8, rfl, ow8, b10⟩; obtain ⟨A8, c8, hA8⟩ := LOwn.form ow8; subst hA8; have B10 : Hid (Below W9.heap.size W9 w10) := ⟨b10.os, b10.tape, b10.output, b10.size, b10.block⟩; have O8 : Hid (OwnR w10 (seg W9.heap.size w10.heap.size) (.slice A8 t.recs.length c8) t.recs) := ow8; have K8 : w10.cell? ⟨w.heap.size + 1 + 1, 0, none⟩ = some (.slice A1 us.length c1) := (B10.out.cell (p := ⟨w.heap.size + 1 + 1, 0, none⟩) (by show w.heap.size + 1 + 1 < _; omega)).trans lc; have hl8 : w.heap.size + 1 + 1 < w10.heap.size := (by have := B10.out.size; omega); clear ow8 b10; unfold batVal) | (gi_at_call 29; refine (CPY.out W9.drew (Below.refl _ _).drew).mono ?_; rintro e w10 ⟨rv8, rfl, ow8, b10⟩; obtain ⟨A8, c8, hA8⟩ := LOwn.form ow8; subst hA8; have B10 : Hid (Below W9.heap.size W9 w10) := ⟨b10.os, b10.tape, b10.output, b10.size, b10.block⟩; have O8 : Hid (OwnR w10 (seg W9.heap.size w10.heap.size) (.slice A8 t.recs.length c8) t.recs) := ow8; have K8 : w10.cell? ⟨w.heap.size + 1 + 1, 0, none⟩ = some (.slice A1 us.length c1) := (B10.out.cell (p := ⟨w.heap.size + 1 + 1, 0, none⟩) (by show w.heap.size + 1 + 1 < _; omega)).trans lc; have hl8 : w.heap.size + 1 + 1 < w10.heap.size := (by have := B10.out.size; omega); clear ow8 b10; unfold batVal)
          (try dsimp only); refine hK _ _ ?_; clear hK K2
          refine wpAnyIn_ready (rs := [3]) (by kernel_rfl) (by simp) (AllReadyIn.cons rfl (fun K2 hK => ?_) AllReadyIn.nil)
          go_simp; refine hK _ _ ?_; clear hK K2
          refine wpAnyIn_ready (rs := [4]) (by kernel_rfl) (by simp) (AllReadyIn.cons rfl (fun K2 hK => ?_) AllReadyIn.nil)
          obtain ⟨g9, cap9, w11, hr9, hown9, gr9, hat9, hlt9⟩ := run_append_lies (P := Try.prog) (w10.alloc (.cells (BatW.batArr t (.slice A8 t.recs.length c8)) 44 (0, 0))) 33 33 (w.heap.size + 1) 44 i0 _ 7 72 Try.underlying33 hi hz0 hz1 hz2 rfl (by decide) (.slice A1 us.length c1) us.length ((List.range (us.length * 7)).map F) (World.ownsRow.alloc (own_keep HG.out.own (fun q _ hq => B10.out.block q hq)) _) ⟨w10.heap.size, 0, none⟩ 1 1 (BatW.batArr t (.slice A8 t.recs.length c8)).toList (by rfl) (World.news_of_block (cs := BatW.batArr t (.slice A8 t.recs.length c8)) (heap_alloc_new w10 _)) (by simp [BatW.batArr, Value.oneCell']) (by decide) (by unfold maxLen; omega) (by omega) (by rw [hsz]; omega) (w10.heap.size + 1) (hsz w10 _); refine AppIn.stepIn_append (by rfl) _ _ _ (by rfl) (by rfl) (by rfl) hr9 ?_; clear hr9; have D9 := Seg.hid (PF.push PF9.out HG.out HP.out B10.out O8.out hown9 gr9 hat9); have NX := Seg.hid (nx (y := y) MP1.out ((HVV.out _).2 (.inr (.inl rfl))) hn1 hLB HA.out HZ.out PF9.out KF9.out KP9.out LB9.out LF9.out B10.out gr9 D9.out NXT.out); have q6 := NX.out.1; have p6 := NX.out.2.1; clear hown9 gr9 hat9 hlt9
          refine hK _ _ ?_; clear hK K2
          refine wpAnyIn_ready (rs := [5]) (by kernel_rfl) (by simp) (AllReadyIn.cons rfl (fun K2 hK => ?_) AllReadyIn.nil)
          go_simp; refine hK _ _ ?_; clear hK K2
          refine wpAnyIn_done (by kernel_rfl) ?_ _
          exact NX.out.2.2
        · go_simp; refine hK _ _ ?_; clear hK K2
          refine wpAnyIn_ready (rs := [0, 2]) (by kernel_rfl) (by simp) (AllReadyIn.cons rfl (fun K2 hK => ?_) (AllReadyIn.cons rfl (fun K2 hK => ?_) AllReadyIn.nil))
          · go_simp; refine hK _ _ ?_; clear hK K2
            refine wpAnyIn_ready (rs := [2]) (by kernel_rfl) (by simp) (AllReadyIn.cons rfl (fun K2 hK => ?_) AllReadyIn.nil)
            go_simp; first | (refine ⟨trivial, ?_⟩; gi_at_call 29; refine (CPY.out W9.drew (Below.refl _ _).drew).mono ?_; rintro e w10 ⟨rv8, rfl, ow8, b10⟩; obtain ⟨A8, c8, hA8⟩ := LOwn.form ow8; subst hA8; have B10 : Hid (Below W9.heap.size W9 w10) := ⟨b10.os, b10.tape, b10.output, b10.size, b10.block⟩; have O8 : Hid (OwnR w10 (seg W9.heap.size w10.heap.size) (.slice A8 t.recs.length c8) t.recs) := ow8; have K8 : w10.cell? ⟨w.heap.size + 1 + 1, 0, none⟩ = some (.slice A1 us.length c1) := (B10.out.cell (p := ⟨w.heap.size + 1 + 1, 0, none⟩) (by show w.heap.size + 1 + 1 < _; omega)).trans lc; have hl8 : w.heap.size + 1 + 1 < w10.heap.size := (by have := B10.out.size; omega); clear ow8 b10; unfold batVal) | (gi_at_call 29; refine (CPY.out W9.drew (Below.refl _ _).drew).mono ?_; rintro e w10 ⟨rv8, rfl, ow8, b10⟩; obtain ⟨A8, c8, hA8⟩ := LOwn.form ow8; subst hA8; have B10 : Hid (Below W9.heap.size W9 w10) := ⟨b10.os, b10.tape, b10.output, b10.size, b10.block⟩; have O8 : Hid (OwnR w10 (seg W9.heap.size w10.heap.size) (.slice A8 t.recs.length c8) t.recs) := ow8; have K8 : w10.cell? ⟨w.heap.size + 1 + 1, 0, none⟩ = some (.slice A1 us.length c1) := (B10.out.cell (p := ⟨w.heap.size + 1 + 1, 0, none⟩) (by show w.heap.size + 1 + 1 < _; omega)).trans lc; have hl8 : w.heap.size + 1 + 1 < w10.heap.size := (by have := B10.out.size; omega); clear ow8 b10; unfold batVal)
            (try dsimp only); refine hK _ _ ?_; clear hK K2
            refine wpAnyIn_ready (rs := [3]) (by kernel_rfl) (by simp) (AllReadyIn.cons rfl (fun K2 hK => ?_) AllReadyIn.nil)
            go_simp; refine hK _ _ ?_; clear hK K2
            refine wpAnyIn_ready (rs := [4]) (by kernel_rfl) (by simp) (AllReadyIn.cons rfl (fun K2 hK => ?_) AllReadyIn.nil)
            obtain ⟨g9, cap9, w11, hr9, hown9, gr9, hat9, hlt9⟩ := run_append_lies (P := Try.prog) (w10.alloc (.cells (BatW.batArr t (.slice A8 t.recs.length c8)) 44 (0, 0))) 33 33 (w.heap.size + 1) 44 i0 _ 7 72 Try.underlying33 hi hz0 hz1 hz2 rfl (by decide) (.slice A1 us.length c1) us.length ((List.range (us.length * 7)).map F) (World.ownsRow.alloc (own_keep HG.out.own (fun q _ hq => B10.out.block q hq)) _) ⟨w10.heap.size, 0, none⟩ 1 1 (BatW.batArr t (.slice A8 t.recs.length c8)).toList (by rfl) (World.news_of_block (cs := BatW.batArr t (.slice A8 t.recs.length c8)) (heap_alloc_new w10 _)) (by simp [BatW.batArr, Value.oneCell']) (by decide) (by unfold maxLen; omega) (by omega) (by rw [hsz]; omega) (w10.heap.size + 1) (hsz w10 _); refine AppIn.stepIn_append (by rfl) _ _ _ (by rfl) (by rfl) (by rfl) hr9 ?_; clear hr9; have D9 := Seg.hid (PF.push PF9.out HG.out HP.out B10.out O8.out hown9 gr9 hat9); have NX := Seg.hid (nx (y := y) MP1.out ((HVV.out _).2 (.inr (.inl rfl))) hn1 hLB HA.out HZ.out PF9.out KF9.out KP9.out LB9.out LF9.out B10.out gr9 D9.out NXT.out); have q6 := NX.out.1; have p6 := NX.out.2.1; clear hown9 gr9 hat9 hlt9
            refine hK _ _ ?_; clear hK K2
            refine wpAnyIn_ready (rs := [5]) (by kernel_rfl) (by simp) (AllReadyIn.cons rfl (fun K2 hK => ?_) AllReadyIn.nil)
            go_simp; refine hK _ _ ?_; clear hK K2
            refine wpAnyIn_done (by kernel_rfl) ?_ _
            exact NX.out.2.2
          · go_simp; first | (refine ⟨trivial, ?_⟩; gi_at_call 29; refine (CPY.out W9.drew (Below.refl _ _).drew).mono ?_; rintro e w10 ⟨rv8, rfl, ow8, b10⟩; obtain ⟨A8, c8, hA8⟩ := LOwn.form ow8; subst hA8; have B10 : Hid (Below W9.heap.size W9 w10) := ⟨b10.os, b10.tape, b10.output, b10.size, b10.block⟩; have O8 : Hid (OwnR w10 (seg W9.heap.size w10.heap.size) (.slice A8 t.recs.length c8) t.recs) := ow8; have K8 : w10.cell? ⟨w.heap.size + 1 + 1, 0, none⟩ = some (.slice A1 us.length c1) := (B10.out.cell (p := ⟨w.heap.size + 1 + 1, 0, none⟩) (by show w.heap.size + 1 + 1 < _; omega)).trans lc; have hl8 : w.heap.size + 1 + 1 < w10.heap.size := (by have := B10.out.size; omega); clear ow8 b10; unfold batVal) | (gi_at_call 29; refine (CPY.out W9.drew (Below.refl _ _).drew).mono ?_; rintro e w10 ⟨rv8, rfl, ow8, b10⟩; obtain ⟨A8, c8, hA8⟩ := LOwn.form ow8; subst hA8; have B10 : Hid (Below W9.heap.size W9 w10) := ⟨b10.os, b10.tape, b10.output, b10.size, b10.block⟩; have O8 : Hid (OwnR w10 (seg W9.heap.size w10.heap.size) (.slice A8 t.recs.length c8) t.recs) := ow8; have K8 : w10.cell? ⟨w.heap.size + 1 + 1, 0, none⟩ = some (.slice A1 us.length c1) := (B10.out.cell (p := ⟨w.heap.size + 1 + 1, 0, none⟩) (by show w.heap.size + 1 + 1 < _; omega)).trans lc; have hl8 : w.heap.size + 1 + 1 < w10.heap.size := (by have := B10.out.size; omega); clear ow8 b10; unfold batVal)
            (try dsimp only); refine hK _ _ ?_; clear hK K2
            refine wpAnyIn_ready (rs := [0, 3]) (by kernel_rfl) (by simp) (AllReadyIn.cons rfl (fun K2 hK => ?_) (AllReadyIn.cons rfl (fun K2 hK => ?_) AllReadyIn.nil))
            · go_simp; refine hK _ _ ?_; clear hK K2
              refine wpAnyIn_ready (rs := [3]) (by kernel_rfl) (by simp) (AllReadyIn.cons rfl (fun K2 hK => ?_) AllReadyIn.nil)
              go_simp; refine hK _ _ ?_; clear hK K2
              refine wpAnyIn_ready (rs := [4]) (by kernel_rfl) (by simp) (AllReadyIn.cons rfl (fun K2 hK => ?_) AllReadyIn.nil)
              obtain ⟨g9, cap9, w11, hr9, hown9, gr9, hat9, hlt9⟩ := run_append_lies (P := Try.prog) (w10.alloc (.cells (BatW.batArr t (.slice A8 t.recs.length c8)) 44 (0, 0))) 33 33 (w.heap.size + 1) 44 i0 _ 7 72 Try.underlying33 hi hz0 hz1 hz2 rfl (by decide) (.slice A1 us.length c1) us.length ((List.range (us.length * 7)).map F) (World.ownsRow.alloc (own_keep HG.out.own (fun q _ hq => B10.out.block q hq)) _) ⟨w10.heap.size, 0, none⟩ 1 1 (BatW.batArr t (.slice A8 t.recs.length c8)).toList (by rfl) (World.news_of_block (cs := BatW.batArr t (.slice A8 t.recs.length c8)) (heap_alloc_new w10 _)) (by simp [BatW.batArr, Value.oneCell']) (by decide) (by unfold maxLen; omega) (by omega) (by rw [hsz]; omega) (w10.heap.size + 1) (hsz w10 _); refine AppIn.stepIn_append (by rfl) _ _ _ (by rfl) (by rfl) (by rfl) hr9 ?_; clear hr9; have D9 := Seg.hid (PF.push PF9.out HG.out HP.out B10.out O8.out hown9 gr9 hat9); have NX := Seg.hid (nx (y := y) MP1.out ((HVV.out _).2 (.inr (.inl rfl))) hn1 hLB HA.out HZ.out PF9.out KF9.out KP9.out LB9.out LF9.out B10.out gr9 D9.out NXT.out); have q6 := NX.out.1; have p6 := NX.out.2.1; clear hown9 gr9 hat9 hlt9
              refine hK _ _ ?_; clear hK K2
              refine wpAnyIn_ready (rs := [5]) (by kernel_rfl) (by simp) (AllReadyIn.cons rfl (fun K2 hK => ?_) AllReadyIn.nil)
              go_simp; refine hK _ _ ?_; clear hK K2
              refine wpAnyIn_done (by kernel_rfl) ?_ _
              exact NX.out.2.2
            · go_simp; refine hK _ _ ?_; clear hK K2
              refine wpAnyIn_ready (rs := [0]) (by kernel_rfl) (by simp) (AllReadyIn.cons rfl (fun K2 hK => ?_) AllReadyIn.nil)
              go_simp; refine hK _ _ ?_; clear hK K2
              refine wpAnyIn_ready (rs := [4]) (by kernel_rfl) (by simp) (AllReadyIn.cons rfl (fun K2 hK => ?_) AllReadyIn.nil)
              obtain ⟨g9, cap9, w11, hr9, hown9, gr9, hat9, hlt9⟩ := run_append_lies (P := Try.prog) (w10.alloc (.cells (BatW.batArr t (.slice A8 t.recs.length c8)) 44 (0, 0))) 33 33 (w.heap.size + 1) 44 i0 _ 7 72 Try.underlying33 hi hz0 hz1 hz2 rfl (by decide) (.slice A1 us.length c1) us.length ((List.range (us.length * 7)).map F) (World.ownsRow.alloc (own_keep HG.out.own (fun q _ hq => B10.out.block q hq)) _) ⟨w10.heap.size, 0, none⟩ 1 1 (BatW.batArr t (.slice A8 t.recs.length c8)).toList (by rfl) (World.news_of_block (cs := BatW.batArr t (.slice A8 t.recs.length c8)) (heap_alloc_new w10 _)) (by simp [BatW.batArr, Value.oneCell']) (by decide) (by unfold maxLen; omega) (by omega) (by rw [hsz]; omega) (w10.heap.size + 1) (hsz w10 _); refine AppIn.stepIn_append (by rfl) _ _ _ (by rfl) (by rfl) (by rfl) hr9 ?_; clear hr9; have D9 := Seg.hid (PF.push PF9.out HG.out HP.out B10.out O8.out hown9 gr9 hat9); have NX := Seg.hid (nx (y := y) MP1.out ((HVV.out _).2 (.inr (.inl rfl))) hn1 hLB HA.out HZ.out PF9.out KF9.out KP9.out LB9.out LF9.out B10.out gr9 D9.out NXT.out); have q6 := NX.out.1; have p6 := NX.out.2.1; clear hown9 gr9 hat9 hlt9
              refine hK _ _ ?_; clear hK K2
              refine wpAnyIn_ready (rs := [5]) (by kernel_rfl) (by simp) (AllReadyIn.cons rfl (fun K2 hK => ?_) AllReadyIn.nil)
              go_simp; refine hK _ _ ?_; clear hK K2
              refine wpAnyIn_done (by kernel_rfl) ?_ _
              exact NX.out.2.2
      · have g1 : decide (y - (a : Int) - (z : Int) < 0) = false := decide_eq_false hst1
        gi_wp2
        refine wpIn_region_any (by assumption) ?_
        (try (change wpAnyIn _ _ _ _ _ _ _ _ _ (World.drew _)))
        refine wpAnyIn_ready (rs := [0, 1]) (by kernel_rfl) (by simp) (AllReadyIn.cons rfl (fun K2 hK => ?_) (AllReadyIn.cons rfl (fun K2 hK => ?_) AllReadyIn.nil))
        · go_simp; refine hK _ _ ?_; clear hK K2
          refine wpAnyIn_ready (rs := [1]) (by kernel_rfl) (by simp) (AllReadyIn.cons rfl (fun K2 hK => ?_) AllReadyIn.nil)
          go_simp; refine hK _ _ ?_; clear hK K2
          refine wpAnyIn_ready (rs := [2]) (by kernel_rfl) (by simp) (AllReadyIn.cons rfl (fun K2 hK => ?_) AllReadyIn.nil)
          go_simp; first | (refine ⟨trivial, ?_⟩; gi_at_call 29; refine (CPY.out W9.drew (Below.refl _ _).drew).mono ?_; rintro e w10 ⟨rv8, rfl, ow8, b10⟩; obtain ⟨A8, c8, hA8⟩ := LOwn.form ow8; subst hA8; have B10 : Hid (Below W9.heap.size W9 w10) := ⟨b10.os, b10.tape, b10.output, b10.size, b10.block⟩; have O8 : Hid (OwnR w10 (seg W9.heap.size w10.heap.size) (.slice A8 t.recs.length c8) t.recs) := ow8; have K8 : w10.cell? ⟨w.heap.size + 1 + 1, 0, none⟩ = some (.slice A1 us.length c1) := (B10.out.cell (p := ⟨w.heap.size + 1 + 1, 0, none⟩) (by show w.heap.size + 1 + 1 < _; omega)).trans lc; have hl8 : w.heap.size + 1 + 1 < w10.heap.size := (by have := B10.out.size; omega); clear ow8 b10; unfold batVal) | (gi_at_call 29; refine (CPY.out W9.drew (Below.refl _ _).drew).mono ?_; rintro e w10 ⟨rv8, rfl, ow8, b10⟩; obtain ⟨A8, c8, hA8⟩ := LOwn.form ow8; subst hA8; have B10 : Hid (Below W9.heap.size W9 w10) := ⟨b10.os, b10.tape, b10.output, b10.size, b10.block⟩; have O8 : Hid (OwnR w10 (seg W9.heap.size w10.heap.size) (.slice A8 t.recs.length c8) t.recs) := ow8; have K8 : w10.cell? ⟨w.heap.size + 1 + 1, 0, none⟩ = some (.slice A1 us.length c1) := (B10.out.cell (p := ⟨w.heap.size + 1 + 1, 0, none⟩) (by show w.heap.size + 1 + 1 < _; omega)).trans lc; have hl8 : w.heap.size + 1 + 1 < w10.heap.size := (by have := B10.out.size; omega); clear ow8 b10; unfold batVal)
          (try dsimp only); refine hK _ _ ?_; clear hK K2
          refine wpAnyIn_ready (rs := [3]) (by kernel_rfl) (by simp) (AllReadyIn.cons rfl (fun K2 hK => ?_) AllReadyIn.nil)
          go_simp; refine hK _ _ ?_; clear hK K2
          refine wpAnyIn_ready (rs := [4]) (by kernel_rfl) (by simp) (AllReadyIn.cons rfl (fun K2 hK => ?_) AllReadyIn.nil)
          obtain ⟨g9, cap9, w11, hr9, hown9, gr9, hat9, hlt9⟩ := run_append_lies (P := Try.prog) (w10.alloc (.cells (BatW.batArr t (.slice A8 t.recs.length c8)) 44 (0, 0))) 33 33 (w.heap.size + 1) 44 i0 _ 7 72 Try.underlying33 hi hz0 hz1 hz2 rfl (by decide) (.slice A1 us.length c1) us.length ((List.range (us.length * 7)).map F) (World.ownsRow.alloc (own_keep HG.out.own (fun q _ hq => B10.out.block q hq)) _) ⟨w10.heap.size, 0, none⟩ 1 1 (BatW.batArr t (.slice A8 t.recs.length c8)).toList (by rfl) (World.news_of_block (cs := BatW.batArr t (.slice A8 t.recs.length c8)) (heap_alloc_new w10 _)) (by simp [BatW.batArr, Value.oneCell']) (by decide) (by unfold maxLen; omega) (by omega) (by rw [hsz]; omega) (w10.heap.size + 1) (hsz w10 _); refine AppIn.stepIn_append (by rfl) _ _ _ (by rfl) (by rfl) (by rfl) hr9 ?_; clear hr9; have D9 := Seg.hid (PF.push PF9.out HG.out HP.out B10.out O8.out hown9 gr9 hat9); have NX := Seg.hid (nx (y := y) MP1.out ((HVV.out _).2 (.inr (.inl rfl))) hn1 hLB HA.out HZ.out PF9.out KF9.out KP9.out LB9.out LF9.out B10.out gr9 D9.out NXT.out); have q6 := NX.out.1; have p6 := NX.out.2.1; clear hown9 gr9 hat9 hlt9
          refine hK _ _ ?_; clear hK K2
          refine wpAnyIn_ready (rs := [5]) (by kernel_rfl) (by simp) (AllReadyIn.cons rfl (fun K2 hK => ?_) AllReadyIn.nil)
          go_simp; refine hK _ _ ?_; clear hK K2
          refine wpAnyIn_done (by kernel_rfl) ?_ _
          exact NX.out.2.2
        · go_simp; refine hK _ _ ?_; clear hK K2
          refine wpAnyIn_ready (rs := [0, 2]) (by kernel_rfl) (by simp) (AllReadyIn.cons rfl (fun K2 hK => ?_) (AllReadyIn.cons rfl (fun K2 hK => ?_) AllReadyIn.nil))
          · go_simp; refine hK _ _ ?_; clear hK K2
            refine wpAnyIn_ready (rs := [2]) (by kernel_rfl) (by simp) (AllReadyIn.cons rfl (fun K2 hK => ?_) AllReadyIn.nil)
            go_simp; first | (refine ⟨trivial, ?_⟩; gi_at_call 29; refine (CPY.out W9.drew (Below.refl _ _).drew).mono ?_; rintro e w10 ⟨rv8, rfl, ow8, b10⟩; obtain ⟨A8, c8, hA8⟩ := LOwn.form ow8; subst hA8; have B10 : Hid (Below W9.heap.size W9 w10) := ⟨b10.os, b10.tape, b10.output, b10.size, b10.block⟩; have O8 : Hid (OwnR w10 (seg W9.heap.size w10.heap.size) (.slice A8 t.recs.length c8) t.recs) := ow8; have K8 : w10.cell? ⟨w.heap.size + 1 + 1, 0, none⟩ = some (.slice A1 us.length c1) := (B10.out.cell (p := ⟨w.heap.size + 1 + 1, 0, none⟩) (by show w.heap.size + 1 + 1 < _; omega)).trans lc; have hl8 : w.heap.size + 1 + 1 < w10.heap.size := (by have := B10.out.size; omega); clear ow8 b10; unfold batVal) | (gi_at_call 29; refine (CPY.out W9.drew (Below.refl _ _).drew).mono ?_; rintro e w10 ⟨rv8, rfl, ow8, b10⟩; obtain ⟨A8, c8, hA8⟩ := LOwn.form ow8; subst hA8; have B10 : Hid (Below W9.heap.size W9 w10) := ⟨b10.os, b10.tape, b10.output, b10.size, b10.block⟩; have O8 : Hid (OwnR w10 (seg W9.heap.size w10.heap.size) (.slice A8 t.recs.length c8) t.recs) := ow8; have K8 : w10.cell? ⟨w.heap.size + 1 + 1, 0, none⟩ = some (.slice A1 us.length c1) := (B10.out.cell (p := ⟨w.heap.size + 1 + 1, 0, none⟩) (by show w.heap.size + 1 + 1 < _; omega)).trans lc; have hl8 : w.heap.size + 1 + 1 < w10.heap.size := (by have := B10.out.size; omega); clear ow8 b10; unfold batVal)
            (try dsimp only); refine hK _ _ ?_; clear hK K2
            refine wpAnyIn_ready (rs := [3]) (by kernel_rfl) (by simp) (AllReadyIn.cons rfl (fun K2 hK => ?_) AllReadyIn.nil)
            go_simp; refine hK _ _ ?_; clear hK K2
            refine wpAnyIn_ready (rs := [4]) (by kernel_rfl) (by simp) (AllReadyIn.cons rfl (fun K2 hK => ?_) AllReadyIn.nil)
            obtain ⟨g9, cap9, w11, hr9, hown9, gr9, hat9, hlt9⟩ := run_append_lies (P := Try.prog) (w10.alloc (.cells (BatW.batArr t (.slice A8 t.recs.length c8)) 44 (0, 0))) 33 33 (w.heap.size + 1) 44 i0 _ 7 72 Try.underlying33 hi hz0 hz1 hz2 rfl (by decide) (.slice A1 us.length c1) us.length ((List.range (us.length * 7)).map F) (World.ownsRow.alloc (own_keep HG.out.own (fun q _ hq => B10.out.block q hq)) _) ⟨w10.heap.size, 0, none⟩ 1 1 (BatW.batArr t (.slice A8 t.recs.length c8)).toList (by rfl) (World.news_of_block (cs := BatW.batArr t (.slice A8 t.recs.length c8)) (heap_alloc_new w10 _)) (by simp [BatW.batArr, Value.oneCell']) (by decide) (by unfold maxLen; omega) (by omega) (by rw [hsz]; omega) (w10.heap.size + 1) (hsz w10 _); refine AppIn.stepIn_append (by rfl) _ _ _ (by rfl) (by rfl) (by rfl) hr9 ?_; clear hr9; have D9 := Seg.hid (PF.push PF9.out HG.out HP.out B10.out O8.out hown9 gr9 hat9); have NX := Seg.hid (nx (y := y) MP1.out ((HVV.out _).2 (.inr (.inl rfl))) hn1 hLB HA.out HZ.out PF9.out KF9.out KP9.out LB9.out LF9.out B10.out gr9 D9.out NXT.out); have q6 := NX.out.1; have p6 := NX.out.2.1; clear hown9 gr9 hat9 hlt9
            refine hK _ _ ?_; clear hK K2
            refine wpAnyIn_ready (rs := [5]) (by kernel_rfl) (by simp) (AllReadyIn.cons rfl (fun K2 hK => ?_) AllReadyIn.nil)
            go_simp; refine hK _ _ ?_; clear hK K2
            refine wpAnyIn_done (by kernel_rfl) ?_ _
            exact NX.out.2.2
          · go_simp; first | (refine ⟨trivial, ?_⟩; gi_at_call 29; refine (CPY.out W9.drew (Below.refl _ _).drew).mono ?_; rintro e w10 ⟨rv8, rfl, ow8, b10⟩; obtain ⟨A8, c8, hA8⟩ := LOwn.form ow8; subst hA8; have B10 : Hid (Below W9.heap.size W9 w10) := ⟨b10.os, b10.tape, b10.output, b10.size, b10.block⟩; have O8 : Hid (OwnR w10 (seg W9.heap.size w10.heap.size) (.slice A8 t.recs.length c8) t.recs) := ow8; have K8 : w10.cell? ⟨w.heap.size + 1 + 1, 0, none⟩ = some (.slice A1 us.length c1) := (B10.out.cell (p := ⟨w.heap.size + 1 + 1, 0, none⟩) (by show w.heap.size + 1 + 1 < _; omega)).trans lc; have hl8 : w.heap.size + 1 + 1 < w10.heap.size := (by have := B10.out.size; omega); clear ow8 b10; unfold batVal) | (gi_at_call 29; refine (CPY.out W9.drew (Below.refl _ _).drew).mono ?_; rintro e w10 ⟨rv8, rfl, ow8, b10⟩; obtain ⟨A8, c8, hA8⟩ := LOwn.form ow8; subst hA8; have B10 : Hid (Below W9.heap.size W9 w10) := ⟨b10.os, b10.tape, b10.output, b10.size, b10.block⟩; have O8 : Hid (OwnR w10 (seg W9.heap.size w10.heap.size) (.slice A8 t.recs.length c8) t.recs) := ow8; have K8 : w10.cell? ⟨w.heap.size + 1 + 1, 0, none⟩ = some (.slice A1 us.length c1) := (B10.out.cell (p := ⟨w.heap.size + 1 + 1, 0, none⟩) (by show w.heap.size + 1 + 1 < _; omega)).trans lc; have hl8 : w.heap.size + 1 + 1 < w10.heap.size := (by have := B10.out.size; omega); clear ow8 b10; unfold batVal)
            (try dsimp only); refine hK _ _ ?_; clear hK K2
            refine wpAnyIn_ready (rs := [0, 3]) (by kernel_rfl) (by simp) (AllReadyIn.cons rfl (fun K2 hK => ?_) (AllReadyIn.cons rfl (fun K2 hK => ?_) AllReadyIn.nil))
            · go_simp; refine hK _ _ ?_; clear hK K2
              refine wpAnyIn_ready (rs := [3]) (by kernel_rfl) (by simp) (AllReadyIn.cons rfl (fun K2 hK => ?_) AllReadyIn.nil)
              go_simp; refine hK _ _ ?_; clear hK K2
              refine wpAnyIn_ready (rs := [4]) (by kernel_rfl) (by simp) (AllReadyIn.cons rfl (fun K2 hK => ?_) AllReadyIn.nil)
              obtain ⟨g9, cap9, w11, hr9, hown9, gr9, hat9, hlt9⟩ := run_append_lies (P := Try.prog) (w10.alloc (.cells (BatW.batArr t (.slice A8 t.recs.length c8)) 44 (0, 0))) 33 33 (w.heap.size + 1) 44 i0 _ 7 72 Try.underlying33 hi hz0 hz1 hz2 rfl (by decide) (.slice A1 us.length c1) us.length ((List.range (us.length * 7)).map F) (World.ownsRow.alloc (own_keep HG.out.own (fun q _ hq => B10.out.block q hq)) _) ⟨w10.heap.size, 0, none⟩ 1 1 (BatW.batArr t (.slice A8 t.recs.length c8)).toList (by rfl) (World.news_of_block (cs := BatW.batArr t (.slice A8 t.recs.length c8)) (heap_alloc_new w10 _)) (by simp [BatW.batArr, Value.oneCell']) (by decide) (by unfold maxLen; omega) (by omega) (by rw [hsz]; omega) (w10.heap.size + 1) (hsz w10 _); refine AppIn.stepIn_append (by rfl) _ _ _ (by rfl) (by rfl) (by rfl) hr9 ?_; clear hr9; have D9 := Seg.hid (PF.push PF9.out HG.out HP.out B10.out O8.out hown9 gr9 hat9); have NX := Seg.hid (nx (y := y) MP1.out ((HVV.out _).2 (.inr (.inl rfl))) hn1 hLB HA.out HZ.out PF9.out KF9.out KP9.out LB9.out LF9.out B10.out gr9 D9.out NXT.out); have q6 := NX.out.1; have p6 := NX.out.2.1; clear hown9 gr9 hat9 hlt9
              refine hK _ _ ?_; clear hK K2
              refine wpAnyIn_ready (rs := [5]) (by kernel_rfl) (by simp) (AllReadyIn.cons rfl (fun K2 hK => ?_) AllReadyIn.nil)
              go_simp; refine hK _ _ ?_; clear hK K2
              refine wpAnyIn_done (by kernel_rfl) ?_ _
              exact NX.out.2.2
            · go_simp; refine hK _ _ ?_; clear hK K2
              refine wpAnyIn_ready (rs := [0]) (by kernel_rfl) (by simp) (AllReadyIn.cons rfl (fun K2 hK => ?_) AllReadyIn.nil)
              go_simp; refine hK _ _ ?_; clear hK K2
              refine wpAnyIn_ready (rs := [4]) (by kernel_rfl) (by simp) (AllReadyIn.cons rfl (fun K2 hK => ?_) AllReadyIn.nil)
              obtain ⟨g9, cap9, w11, hr9, hown9, gr9, hat9, hlt9⟩ := run_append_lies (P := Try.prog) (w10.alloc (.cells (BatW.batArr t (.slice A8 t.recs.length c8)) 44 (0, 0))) 33 33 (w.heap.size + 1) 44 i0 _ 7 72 Try.underlying33 hi hz0 hz1 hz2 rfl (by decide) (.slice A1 us.length c1) us.length ((List.range (us.length * 7)).map F) (World.ownsRow.alloc (own_keep HG.out.own (fun q _ hq => B10.out.block q hq)) _) ⟨w10.heap.size, 0, none⟩ 1 1 (BatW.batArr t (.slice A8 t.recs.length c8)).toList (by rfl) (World.news_of_block (cs := BatW.batArr t (.slice A8 t.recs.length c8)) (heap_alloc_new w10 _)) (by simp [BatW.batArr, Value.oneCell']) (by decide) (by unfold maxLen; omega) (by omega) (by rw [hsz]; omega) (w10.heap.size + 1) (hsz w10 _); refine AppIn.stepIn_append (by rfl) _ _ _ (by rfl) (by rfl) (by rfl) hr9 ?_; clear hr9; have D9 := Seg.hid (PF.push PF9.out HG.out HP.out B10.out O8.out hown9 gr9 hat9); have NX := Seg.hid (nx (y := y) MP1.out ((HVV.out _).2 (.inr (.inl rfl))) hn1 hLB HA.out HZ.out PF9.out KF9.out KP9.out LB9.out LF9.out B10.out gr9 D9.out NXT.out); have q6 := NX.out.1; have p6 := NX.out.2.1; clear hown9 gr9 hat9 hlt9
              refine hK _ _ ?_; clear hK K2
              refine wpAnyIn_ready (rs := [5]) (by kernel_rfl) (by simp) (AllReadyIn.cons rfl (fun K2 hK => ?_) AllReadyIn.nil)
              go_simp; refine hK _ _ ?_; clear hK K2
              refine wpAnyIn_done (by kernel_rfl) ?_ _
              exact NX.out.2.2
  case done =>
    rintro D ys W hD hS hI hK
    obtain ⟨A1, c1, h1, h2, h3, h4⟩ := hI
    have hz := h1.size
    have f0 : W.cell? ⟨w.heap.size + 1 + 1, 0, none⟩ = some (.slice A1 (ys.map bt).length c1) := cell_of_row W (w.heap.size + 1 + 1) 0 _ _ (0, 0) h2
    have HE : Hid (reads l x y = (ys.map bt, 0)) := by
      show _ = _
      have h5 := h4 []
      rw [List.append_nil] at h5
      rw [HC.out, ← hS, h5]
      simp [rd]
    have UB : Hid ((ys.map bt).length ≤ 400) := by
      show _ ≤ _
      have h6 := congrArg Prod.fst (HC.out.symm.trans HE.out)
      rw [← show rd y 0 (fromB x (flatB l.segs)) = ys.map bt from h6]
      exact Nat.le_trans (rd_le _ _ _) (Nat.le_trans (List.length_filter_le _ _) FL)
    have PE : Hid (∀ o', PF w2 (W.putObj D o') (w.heap.size + 1) V (.slice A1 (ys.map bt).length c1) (ys.map bt)) := fun o' => pf_own h1 (grownBy_putObj' W D o') (fun r e => by cases e; exact ⟨hD, _, hK, rfl⟩)
    have OE : Hid (∀ o', OwnB (W.putObj D o') (seg w.heap.size (W.putObj D o').heap.size) (.slice A1 (ys.map bt).length c1) (ys.map bt)) := fun o' => by
      obtain ⟨F, P, hG, hP⟩ := (PE.out o').grow
      exact LOwn.mono (LGrow.own ⟨F, P, hG⟩ (Nat.le_trans UB.out (by decide))) (fun q hq => ⟨Nat.le_trans (by omega) hq.1, hq.2⟩)
    have BE : Hid (∀ o', Below w.heap.size w (W.putObj D o')) := fun o' => (PE.out o').below (fun k h => by have := (HVV.out k).1 h; omega) B2.out
    clear h1 h2 h3 h4 hS PE UB
    generalize ys.map bt = us at *
    gi_wp2
    refine ⟨by simp, .inl ⟨_, _, rfl, run_takeDeferred hK, ?_⟩⟩
    exact ⟨_, results_tmp2 rfl _ _ _, .slice A1 us.length c1, by rw [HE.out]; rfl, by rw [HE.out]; exact OE.out _, BE.out _⟩
  case stop =>
    rintro D c' pre W hD hS hX hK
    obtain rfl := hX.code
    obtain ⟨us, A1, c1, h1, h2, h3⟩ := hX.val
    have hz := h1.size
    have f0 : W.cell? ⟨w.heap.size + 1 + 1, 0, none⟩ = some (.slice A1 us.length c1) := cell_of_row W (w.heap.size + 1 + 1) 0 _ _ (0, 0) h2
    have HE : Hid (reads l x y = (us, 0)) := by
      show _ = _
      obtain ⟨rest, hrest⟩ := hS
      rw [HC.out, ← hrest, h3 rest]
    have UB : Hid (us.length ≤ 400) := by
      show _ ≤ _
      have h6 := congrArg Prod.fst (HC.out.symm.trans HE.out)
      rw [← show rd y 0 (fromB x (flatB l.segs)) = us from h6]
      exact Nat.le_trans (rd_le _ _ _) (Nat.le_trans (List.length_filter_le _ _) FL)
    have PE : Hid (∀ o', PF w2 (W.putObj D o') (w.heap.size + 1) V (.slice A1 us.length c1) us) := fun o' => pf_own h1 (grownBy_putObj' W D o') (fun r e => by cases e; exact ⟨hD, _, hK, rfl⟩)
    have OE : Hid (∀ o', OwnB (W.putObj D o') (seg w.heap.size (W.putObj D o').heap.size) (.slice A1 us.length c1) us) := fun o' => by
      obtain ⟨F, P, hG, hP⟩ := (PE.out o').grow
      exact LOwn.mono (LGrow.own ⟨F, P, hG⟩ (Nat.le_trans UB.out (by decide))) (fun q hq => ⟨Nat.le_trans (by omega) hq.1, hq.2⟩)
    have BE : Hid (∀ o', Below w.heap.size w (W.putObj D o')) := fun o' => (PE.out o').below (fun k h => by have := (HVV.out k).1 h; omega) B2.out
    clear hX h1 h2 h3 hS
    gi_wp2
    refine ⟨by simp, .inl ⟨_, _, rfl, run_takeDeferred hK, ?_⟩⟩
    exact ⟨_, results_tmp2 rfl _ _ _, .slice A1 us.length c1, by rw [HE.out]; rfl, by rw [HE.out]; exact OE.out _, BE.out _⟩
theorem readFrom_any (v : Value) (l : Lg) (x y : Int) (w : World) (lo b : Nat) (hv : LogAt w lo b v l) (hb : b ≤ w.heap.size) (hf : FewL l) (hyb : y ≤ 9223372036854775807) :
    Calls Try.prog 11 #[v, .int .i64 x, .int .i64 y] w fun e w' => ∃ v, e = .returned (.tuple #[v, .int .i64 (reads l x y).2]) ∧ OwnB w' (seg w.heap.size w'.heap.size) v (reads l x y).1 ∧ Below w.heap.size w w' := by
  obtain ⟨sv, rfl, hs⟩ := hv
  obtain ⟨_, ⟨_, A, c, rfl, _⟩, _⟩ := id hs
  exact readFrom_core l x y A c w lo b hb hf hyb hs
end Go.Proofs.Ytojalklkpnaofaa.Ft
namespace Go.Proofs.Ytojalklkpnaofaa.Ft
set_option maxRecDepth 8000
open Go.RowKit
open Recs
set_option linter.unusedVariables false
section
variable {T : Type} [Inhabited T] {ty nf : Nat} {EO : World → (Nat → Prop) → (Nat → Value) → T → Prop}
/-- Blocks w.heap.size .. are the call's variables, m of them; q: the one with the list, in its cell p; 'fr': what the others hold. -/
structure GV (ty nf : Nat) (EO : World → (Nat → Prop) → (Nat → Value) → T → Prop) (w wr : World) (m q tyO : Nat) (row : Value → Array Value) (fr : Nat → Option Obj) (v : Value) (us : List T) : Prop where
  grow : LGrow ty nf EO wr (w.heap.size + m) v us
  out : wr.heap[q]? = some (.cells (row v) tyO (0, 0))
  front : ∀ x, w.heap.size ≤ x → x < w.heap.size + m → x ≠ q → wr.heap[x]? = fr x
  bel : Below w.heap.size w wr
  size : w.heap.size + m ≤ wr.heap.size
/-- Later, where no variable was written. -/
theorem GV.later (hE : Keeps nf EO) {w wr w' : World} {m q tyO : Nat} {row : Value → Array Value} {fr : Nat → Option Obj} {v : Value} {us : List T} (h : GV ty nf EO w wr m q tyO row fr v us) (hq : q < w.heap.size + m) (b : Below wr.heap.size wr w') : GV ty nf EO w w' m q tyO row fr v us := by
  have hs := h.size
  exact ⟨h.grow.below hE b, (b.block q (by omega)).trans h.out, fun x h1 h2 h3 => (b.block x (by omega)).trans (h.front x h1 h2 h3), chain h.bel b, Nat.le_trans hs b.size⟩
/-- One element more: w8: ahead of the element's own block o; w9: behind append. -/
theorem GV.push (hE : Keeps nf EO) {w wr w8 w9 : World} {m q p tyO : Nat} {row : Value → Array Value} {fr : Nat → Option Obj} {v : Value} {us : List T} {F : Nat → Value} {P : Nat → Nat → Prop} {t : T} {Q : Nat → Prop} {news : List Value} {o : Obj} {g cap : Nat} (h : GV ty nf EO w wr m q tyO row fr v us) (hq1 : w.heap.size ≤ q) (hq2 : q < w.heap.size + m)
    (hcell : (row v)[p]? = some v) (hrow : ∀ v', (row v).setIfInBounds p v' = row v') (hG : LGr ty nf EO wr (w.heap.size + m) v us F P) (b8 : Below wr.heap.size wr w8) (he : EO (w8.alloc o) Q (fun q => news.getD q default) t) (hQ : ∀ x, Q x → wr.heap.size ≤ x ∧ x < w8.heap.size) (hl : news.length = nf)
    (hown : w9.ownsRow (w.heap.size + m) ty nf (.slice (some ⟨g, 0, none⟩) (us.length + 1) cap) (us.length + 1) ((List.range (us.length * nf)).map F ++ news)) (gr : (w8.alloc o).grownBy w9 v.ownBlock) (hg : v.ownBlock = some g ∨ g = w8.heap.size + 1) :
    GV ty nf EO w (w9.setCell ⟨q, p, none⟩ (.slice (some ⟨g, 0, none⟩) (us.length + 1) cap)) m q tyO row fr (.slice (some ⟨g, 0, none⟩) (us.length + 1) cap) (us ++ [t]) ∧ w9.cell? ⟨q, p, none⟩ = some v ∧ w9.frozen? ⟨q, p, none⟩ = false := by
  have s8 := b8.size
  have hz := h.size
  have gs := gr.size
  rw [hsz] at gs
  have hvb : ∀ x, v.ownBlock = some x → w.heap.size + m ≤ x ∧ x < wr.heap.size := fun x hx => World.ownsRow.lt hG.own x hx
  have k9 : ∀ x, x < w.heap.size + m → w9.heap[x]? = wr.heap[x]? := fun x hx => by
    rw [gr.block x (by rw [hsz]; omega) (fun e => by have := hvb x e.symm; omega), heap_alloc_old _ _ (by omega), b8.block x (by omega)]
  have O9 := (k9 q hq2).trans h.out
  have D9 := LGr.push hE (w2 := w8.alloc o) (w3 := w9) (g := g) (cap := cap) (Q := Q) (t := t) (news := news) hG h.size (by rw [hsz]; omega) (fun x _ hx => by rw [heap_alloc_old _ _ (by omega), b8.block x hx]) he (fun x hx => by rw [hsz]; obtain ⟨x1, x2⟩ := hQ x hx; exact ⟨x1, by omega⟩) hl hown gr (by rw [hsz]; exact hg)
  have B9 : Below w.heap.size w w9 := ⟨gr.os.trans (b8.os.trans h.bel.os), gr.tape.trans (b8.tape.trans h.bel.tape), gr.output.trans (b8.output.trans h.bel.output), by omega, fun x hx => (k9 x (by omega)).trans (h.bel.block x hx)⟩
  refine ⟨⟨D9.keep hE (by simp) (fun x hx _ => heap_setCell_other _ _ _ _ (by show x ≠ q; omega)), ?_, fun x h1 h2 h3 => (heap_setCell_other _ _ _ _ (by show x ≠ q; exact h3)).trans ((k9 x h2).trans (h.front x h1 h2 h3)), B9.setCell (p := ⟨q, p, none⟩) hq1 _, by simp; omega⟩, ?_, ?_⟩
  · rw [← hrow]
    exact heap_setCell_same w9 q p _ _ _ O9
  · rw [cell_of_row w9 q p _ _ (0, 0) O9]
    exact hcell
  · exact frozen_of_row w9 q p _ _ O9
end
end Go.Proofs.Ytojalklkpnaofaa.Ft
