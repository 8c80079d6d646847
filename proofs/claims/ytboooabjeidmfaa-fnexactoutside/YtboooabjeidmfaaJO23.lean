/- The program's Query.beside. -/
import Derived.Test.YtboooabjeidmfaaJO18
import Derived.Test.YtboooabjeidmfaaJO20
import Derived.Test.YtboooabjeidmfaaJO21
import Derived.Test.YtboooabjeidmfaaJO22
namespace Go.Proofs.Ytboooabjeidmfaa.YwI
set_option maxRecDepth 8000
open Go.RowKit
open Ls Lp QyP QsP QtP QuP YcP YsP YtP QsI XqP YtI YvP YsI
open Recs (hsz below1 below2 below3 chain)
set_option linter.unusedVariables false
theorem put2 {w wx : World} {b : Nat} {x y z x' y' z' : Value} (h : wx.heap[b]? = some (.cells #[x, y, z] 62 (0, 0))) (hb : Below w.heap.size w wx) (hb2 : w.heap.size ≤ b) : (wx.setCells b 0 [x', y', z']).heap[b]? = some (.cells #[x', y', z'] 62 (0, 0)) ∧ Below w.heap.size w (wx.setCells b 0 [x', y', z']) :=
  ⟨Cells.whole (vs := #[x', y', z']) h rfl, Cells.below_setCells hb2 _ _ _ _ hb⟩
set_option maxHeartbeats 12800000 in
theorem be_any (q : Qry) (A5 : Option Addr) (c5 : Nat) (A6 : Option Addr) (c6 : Nat) (A10 : Option Addr) (c10 : Nat) (v : Value) (l : List Src) (w : World) (S : Nat → Prop) (hv : LAt 3 ESrc w S v l) (hS : ∀ g, S g → g < w.heap.size) (hl : srcsOk l = true) :
    Calls Try.prog 86 #[.agg (qrow q A5 c5 A6 c6 A10 c10), v] w fun e w' => ∃ A c, e = .returned (.tuple #[sv (bsR q l) A c, .bool (bsB q l)]) ∧ LAt 1 EStr w' S (.slice A (bsR q l).cols.length c) (bsR q l).cols ∧ Below w.heap.size w w' := by
  have HV := Seg.hid hv
  have HL := Seg.hid hl
  obtain ⟨A0, c0, rfl⟩ := hv.form
  clear hv hl
  obtain ⟨W2, hW2⟩ : ∃ W2, (w.alloc (.cells (qrow q A5 c5 A6 c6 A10 c10) 39 (0, 0))).alloc (.cells #[.string ⟨#[]⟩, .bool false, .slice none 0 0] 62 (0, 0)) = W2 := ⟨_, rfl⟩
  have N2 : Hid (Below w.heap.size w W2) := by show Below _ _ _; rw [← hW2]; exact below2 _ _ _
  have T0 : Hid (W2.heap[w.heap.size]? = some (.cells (qrow q A5 c5 A6 c6 A10 c10) 39 (0, 0))) := by
    show _ = _
    rw [← hW2, (below1 _ _).block _ (by rw [hsz]; omega)]
    exact heap_alloc_new _ _
  have T1 : Hid (W2.heap[w.heap.size + 1]? = some (.cells #[.string ⟨#[]⟩, .bool false, .slice none 0 0] 62 (0, 0))) := by
    show _ = _
    rw [← hW2]
    have := heap_alloc_new (w.alloc (.cells (qrow q A5 c5 A6 c6 A10 c10) 39 (0, 0))) (.cells #[.string ⟨#[]⟩, .bool false, .slice none 0 0] 62 (0, 0))
    rwa [hsz] at this
  have CS : Hid (∀ n t wx, Below w.heap.size w wx → Calls Try.prog 85 #[.slice A0 l.length c0, .string n, .bool t] wx fun e w' => ∃ A c, e = .returned (.tuple #[sv (srcR l n) A c, .bool (srcB l n t)]) ∧ LAt 1 EStr w' S (.slice A (srcR l n).cols.length c) (srcR l n).cols ∧ Below wx.heap.size wx w') := fun n t wx b => src_any _ l n t wx S (LAt.below keepsSrc HV.out b hS) (fun y hy => Nat.lt_of_lt_of_le (hS y hy) b.size)
  obtain ⟨p0, p1, p2, p3, p4, -, -, -, -, -, -⟩ := qcells T0.out
  have z1 : w.heap.size + 1 < W2.heap.size := (Array.getElem?_eq_some_iff.1 T1.out).1
  obtain ⟨ej, hej⟩ : ∃ e, (q.jn.toList == []) = e := ⟨_, rfl⟩
  have EJ : Hid (em q.jn = ej) := hej
  go_enter Try.func86, Try.ntmps86
  cases ej with
  | false =>
    have RA : Hid (bsR q l = srcR l q.jn) := by show _ = _; rw [bsR, EJ.out]; rfl
    have RB : Hid (bsB q l = (srcB l q.jn false && hasT (srcR l q.jn).cols q.on)) := by show _ = _; rw [bsB, EJ.out]; rfl
    go_wp2_with fail
    try rw [hW2]
    refine (CS.out q.jn false _ (by first | exact N2.out | (rw [hW2]; exact N2.out))).mono ?_
    rintro e w6 ⟨A', c', rfl, hl6, b6⟩
    have OKS : Hid (srcB l q.jn false = true → 0 < (srcR l q.jn).cols.length) := fun h => (ok_cols (b_ok HL.out h)).1
    obtain ⟨s, hs⟩ : ∃ s, srcR l q.jn = s := ⟨_, rfl⟩
    rw [hs] at hl6 RA RB OKS ⊢
    obtain ⟨K, hK⟩ : ∃ K, srcB l q.jn false = K := ⟨_, rfl⟩
    rw [hK] at RB OKS ⊢
    try rw [hW2] at b6
    have B6 := Seg.hid (chain N2.out b6)
    have Q6 := Seg.hid ((b6.block _ (by omega)).trans T0.out)
    have Z6 := Seg.hid ((b6.block _ z1).trans T1.out)
    have L6 := Seg.hid hl6
    clear hl6 b6 hs hK p0 p1 p2 p3 p4
    have z6 : w.heap.size + 1 < w6.heap.size := (Array.getElem?_eq_some_iff.1 Z6.out).1
    obtain ⟨w7, hw7⟩ : ∃ w7, w6.alloc (.cells #[.string s.name, .bool s.tab, .slice A' s.cols.length c'] 62 (0, 0)) = w7 := ⟨_, rfl⟩
    have T7 : Hid (w7.heap[w6.heap.size]? = some (.cells #[.string s.name, .bool s.tab, .slice A' s.cols.length c'] 62 (0, 0))) := by show _ = _; rw [← hw7]; exact heap_alloc_new _ _
    have N7 : Hid (Below w6.heap.size w6 w7) := by show Below _ _ _; rw [← hw7]; exact below1 _ _
    go_upto_region 3 with fail
    try rw [hw7]
    clear hw7
    have Q7 := Seg.hid ((N7.out.block _ (by omega)).trans Q6.out)
    have Z7 := Seg.hid ((N7.out.block _ z6).trans Z6.out)
    have L7 := Seg.hid (LAt.below keepsStr L6.out N7.out (fun y hy => Nat.lt_of_lt_of_le (hS y hy) B6.out.size))
    have B7 := Seg.hid (chain B6.out N7.out)
    obtain ⟨q0, q1, q2, -, -, -⟩ := threeB T7.out
    obtain ⟨m0, m1, m2, f0, f1, f2⟩ := threeB Z7.out
    obtain ⟨-, -, -, r3, -, -, -, -, -, -, -⟩ := qcells Q7.out
    have hne : w6.heap.size ≠ w.heap.size + 1 := by omega
    have hne2 : w.heap.size + 1 ≠ w6.heap.size := by omega
    have hne3 : w.heap.size ≠ w.heap.size + 1 := by omega
    have hne4 : w.heap.size + 1 ≠ w.heap.size := by omega
    have P7 := Seg.hid (put2 (x' := .string s.name) (y' := .bool s.tab) (z' := .slice A' s.cols.length c') (wx := w7) Z7.out B7.out (by omega))
    have P8 := Seg.hid (put2 (x' := .string s.name) (y' := .bool s.tab) (z' := .slice A' s.cols.length c') (wx := w7.drew) Z7.out B7.out.drew (by omega))
    have LZ : Hid (∀ wx : World, Below w.heap.size w wx → LAt 1 EStr wx S (.slice A' s.cols.length c') s.cols) := fun wx b => LAt.keep keepsStr L7.out (fun y hy => (b.block y (hS y hy)).trans (B7.out.block y (hS y hy)).symm)
    cases K with
    | false =>
      refine wp_region_held_drew (S := (fun w' => w'.cell? ⟨w6.heap.size, 0, none⟩ = some (.string s.name) ∧ w'.cell? ⟨w6.heap.size, 1, none⟩ = some (.bool s.tab) ∧ w'.cell? ⟨w6.heap.size, 2, none⟩ = some (.slice A' s.cols.length c') ∧ w'.cell? ⟨w.heap.size, 3, none⟩ = some (.string q.on))) (by kernel_rfl) ⟨q0, q1, q2, r3⟩ (fun hHeld => ?_)
      refine HdK.tke 0 (some 20) (.agg #[.string s.name, .bool s.tab, .slice A' s.cols.length c']) rfl rfl ?_
      try simp only [Act.put, List.setIfInBounds_toArray, List.set_cons_zero, List.set_cons_succ]
      refine HdK.tke 1 (some 21) (.bool false) rfl rfl ?_
      try simp only [Act.put, List.setIfInBounds_toArray, List.set_cons_zero, List.set_cons_succ]
      refine HdK.tke 2 (some 22) (.bool false) rfl rfl ?_
      try simp only [Act.put, List.setIfInBounds_toArray, List.set_cons_zero, List.set_cons_succ]
      refine HdK.skp 3 (some 23) rfl rfl ?_
      try simp only [Act.put, List.setIfInBounds_toArray, List.set_cons_zero, List.set_cons_succ]
      refine HdK.skp 4 (some 24) rfl rfl ?_
      try simp only [Act.put, List.setIfInBounds_toArray, List.set_cons_zero, List.set_cons_succ]
      refine HdK.skp 5 (some 25) rfl rfl ?_
      try simp only [Act.put, List.setIfInBounds_toArray, List.set_cons_zero, List.set_cons_succ]
      refine HdK.skp 6 (some 26) rfl rfl ?_
      try simp only [Act.put, List.setIfInBounds_toArray, List.set_cons_zero, List.set_cons_succ]
      refine HdK.skp 7 (some 27) rfl rfl ?_
      try simp only [Act.put, List.setIfInBounds_toArray, List.set_cons_zero, List.set_cons_succ]
      refine HdK.tke 8 (some 28) (.bool false) rfl rfl ?_
      try simp only [Act.put, List.setIfInBounds_toArray, List.set_cons_zero, List.set_cons_succ]
      refine wpAnyH_ready (rs := [9]) (by kernel_rfl) (by simp) ?_
      refine AllReadyH.cons rfl (fun K hK => ?_) AllReadyH.nil
      refine HdK.step_store_mid rfl 62 _ _ rfl (w.heap.size + 1) 0 #[.string s.name, .bool s.tab, .slice A' s.cols.length c'] rfl rfl (Cells.there_of (w := w7.drew) (cs := #[.string ⟨#[]⟩, .bool false, .slice none 0 0]) Z7.out) info3 (by simp [Value.oneCell']) ?_
      have T9 := Seg.hid ((Cells.heap_setCells_other (g := w.heap.size + 1) (k := w6.heap.size) [.string s.name, .bool s.tab, .slice A' s.cols.length c'] (o := 0) w7.drew hne).trans T7.out)
      have Q9 := Seg.hid ((Cells.heap_setCells_other (g := w.heap.size + 1) (k := w.heap.size) [.string s.name, .bool s.tab, .slice A' s.cols.length c'] (o := 0) w7.drew hne3).trans Q7.out)
      obtain ⟨a0, a1, a2, -, -, -⟩ := threeB T9.out
      obtain ⟨-, -, -, a3, -, -, -, -, -, -, -⟩ := qcells Q9.out
      refine hK.out _ _ ⟨a0, a1, a2, a3⟩ (fun hHeld => ?_)
      clear hK K
      try simp only [Act.put, List.setIfInBounds_toArray]
      refine HdK.tke 10 (some 5) (.bool false) rfl rfl ?_
      try simp only [Act.put]
      refine wpAnyH_done (by kernel_rfl) ?_ _
      clear q0 q1 q2 m0 m1 m2 f0 f1 f2 r3 a0 a1 a2 a3
      go_wp2
      exact bodyPost_ret (v := .tuple #[.agg #[.string s.name, .bool s.tab, .slice A' s.cols.length c'], .bool (false)]) (R2.results_row_tmp rfl _ _ (w.heap.size + 1) 62 #[.string s.name, .bool s.tab, .slice A' s.cols.length c'] (0, 0) _ _ rfl rfl P8.out.1 Try.underlying62 rfl info3) rfl ⟨A', c', by rw [RA.out, RB.out]; rfl, by rw [RA.out]; exact LZ.out _ P8.out.2, P8.out.2⟩
    | true =>
      have CC : Hid (∀ wx, w7.heap = wx.heap → Calls Try.prog 83 #[.slice A' s.cols.length c', .string q.on] wx fun e w' => e = .returned (.bool (hasT s.cols q.on)) ∧ wx = w') := fun wx b => YcI.con_any _ s.cols q.on wx S (LAt.keep keepsStr L7.out (fun y hy => by rw [b])) (fun y hy => by rw [← b]; exact Nat.lt_of_lt_of_le (hS y hy) B7.out.size)
      obtain ⟨G, hG⟩ : ∃ G, hasT s.cols q.on = G := ⟨_, rfl⟩
      rw [hG] at CC RB
      clear hG
      go_region_held3 (fun w' => w'.cell? ⟨w6.heap.size, 0, none⟩ = some (.string s.name) ∧ w'.cell? ⟨w6.heap.size, 1, none⟩ = some (.bool s.tab) ∧ w'.cell? ⟨w6.heap.size, 2, none⟩ = some (.slice A' s.cols.length c') ∧ w'.cell? ⟨w.heap.size, 3, none⟩ = some (.string q.on)) (first | exact ⟨q0, q1, q2, r3⟩ | go_keep) (first | (go_at_call 83; refine (CC.out w7.drew rfl).mono ?_; rintro e w8 ⟨rfl, rfl⟩))
      all_goals
        clear q0 q1 q2 m0 m1 m2 f0 f1 f2 r3
        go_wp2
        exact bodyPost_ret (v := .tuple #[.agg #[.string s.name, .bool s.tab, .slice A' s.cols.length c'], .bool (G)]) (R2.results_row_tmp rfl _ _ (w.heap.size + 1) 62 #[.string s.name, .bool s.tab, .slice A' s.cols.length c'] (0, 0) _ _ rfl rfl (by first | exact P7.out.1 | exact P8.out.1) Try.underlying62 rfl info3) rfl ⟨A', c', by rw [RA.out, RB.out]; rfl, by rw [RA.out]; exact LZ.out _ (by first | exact P7.out.2 | exact P8.out.2 | exact P7.out.2.drew | exact P8.out.2.drew), (by first | exact P7.out.2 | exact P8.out.2 | exact P7.out.2.drew | exact P8.out.2.drew)⟩
  | true =>
    have RA : Hid (bsR q l = srcR l q.lk) := by show _ = _; rw [bsR, EJ.out]; rfl
    have RB : Hid (bsB q l = (srcB l q.lk true && hd (srcR l q.lk).cols q.on)) := by show _ = _; rw [bsB, EJ.out]; rfl
    go_wp2_with fail
    try rw [hW2]
    refine (CS.out q.lk true _ (by first | exact N2.out | (rw [hW2]; exact N2.out))).mono ?_
    rintro e w6 ⟨A', c', rfl, hl6, b6⟩
    have OKS : Hid (srcB l q.lk true = true → 0 < (srcR l q.lk).cols.length) := fun h => (ok_cols (b_ok HL.out h)).1
    obtain ⟨s, hs⟩ : ∃ s, srcR l q.lk = s := ⟨_, rfl⟩
    rw [hs] at hl6 RA RB OKS ⊢
    obtain ⟨K, hK⟩ : ∃ K, srcB l q.lk true = K := ⟨_, rfl⟩
    rw [hK] at RB OKS ⊢
    try rw [hW2] at b6
    have B6 := Seg.hid (chain N2.out b6)
    have Q6 := Seg.hid ((b6.block _ (by omega)).trans T0.out)
    have Z6 := Seg.hid ((b6.block _ z1).trans T1.out)
    have L6 := Seg.hid hl6
    clear hl6 b6 hs hK p0 p1 p2 p3 p4
    have z6 : w.heap.size + 1 < w6.heap.size := (Array.getElem?_eq_some_iff.1 Z6.out).1
    obtain ⟨w7, hw7⟩ : ∃ w7, w6.alloc (.cells #[.string s.name, .bool s.tab, .slice A' s.cols.length c'] 62 (0, 0)) = w7 := ⟨_, rfl⟩
    have T7 : Hid (w7.heap[w6.heap.size]? = some (.cells #[.string s.name, .bool s.tab, .slice A' s.cols.length c'] 62 (0, 0))) := by show _ = _; rw [← hw7]; exact heap_alloc_new _ _
    have N7 : Hid (Below w6.heap.size w6 w7) := by show Below _ _ _; rw [← hw7]; exact below1 _ _
    go_upto_region 5 with fail
    try rw [hw7]
    clear hw7
    have Q7 := Seg.hid ((N7.out.block _ (by omega)).trans Q6.out)
    have Z7 := Seg.hid ((N7.out.block _ z6).trans Z6.out)
    have L7 := Seg.hid (LAt.below keepsStr L6.out N7.out (fun y hy => Nat.lt_of_lt_of_le (hS y hy) B6.out.size))
    have B7 := Seg.hid (chain B6.out N7.out)
    obtain ⟨q0, q1, q2, -, -, -⟩ := threeB T7.out
    obtain ⟨m0, m1, m2, f0, f1, f2⟩ := threeB Z7.out
    obtain ⟨-, -, -, r3, -, -, -, -, -, -, -⟩ := qcells Q7.out
    have hne : w6.heap.size ≠ w.heap.size + 1 := by omega
    have hne2 : w.heap.size + 1 ≠ w6.heap.size := by omega
    have hne3 : w.heap.size ≠ w.heap.size + 1 := by omega
    have hne4 : w.heap.size + 1 ≠ w.heap.size := by omega
    have P7 := Seg.hid (put2 (x' := .string s.name) (y' := .bool s.tab) (z' := .slice A' s.cols.length c') (wx := w7) Z7.out B7.out (by omega))
    have P8 := Seg.hid (put2 (x' := .string s.name) (y' := .bool s.tab) (z' := .slice A' s.cols.length c') (wx := w7.drew) Z7.out B7.out.drew (by omega))
    have LZ : Hid (∀ wx : World, Below w.heap.size w wx → LAt 1 EStr wx S (.slice A' s.cols.length c') s.cols) := fun wx b => LAt.keep keepsStr L7.out (fun y hy => (b.block y (hS y hy)).trans (B7.out.block y (hS y hy)).symm)
    cases K with
    | false =>
      refine wp_region_held_drew (S := (fun w' => w'.cell? ⟨w6.heap.size, 0, none⟩ = some (.string s.name) ∧ w'.cell? ⟨w6.heap.size, 1, none⟩ = some (.bool s.tab) ∧ w'.cell? ⟨w6.heap.size, 2, none⟩ = some (.slice A' s.cols.length c') ∧ w'.cell? ⟨w.heap.size, 3, none⟩ = some (.string q.on))) (by kernel_rfl) ⟨q0, q1, q2, r3⟩ (fun hHeld => ?_)
      refine HdK.tke 0 (some 36) (.agg #[.string s.name, .bool s.tab, .slice A' s.cols.length c']) rfl rfl ?_
      try simp only [Act.put, List.setIfInBounds_toArray, List.set_cons_zero, List.set_cons_succ]
      refine HdK.tke 1 (some 37) (.bool false) rfl rfl ?_
      try simp only [Act.put, List.setIfInBounds_toArray, List.set_cons_zero, List.set_cons_succ]
      refine HdK.tke 2 (some 38) (.bool false) rfl rfl ?_
      try simp only [Act.put, List.setIfInBounds_toArray, List.set_cons_zero, List.set_cons_succ]
      refine HdK.skp 3 (some 39) rfl rfl ?_
      try simp only [Act.put, List.setIfInBounds_toArray, List.set_cons_zero, List.set_cons_succ]
      refine HdK.skp 4 (some 40) rfl rfl ?_
      try simp only [Act.put, List.setIfInBounds_toArray, List.set_cons_zero, List.set_cons_succ]
      refine HdK.skp 5 (some 41) rfl rfl ?_
      try simp only [Act.put, List.setIfInBounds_toArray, List.set_cons_zero, List.set_cons_succ]
      refine HdK.skp 6 (some 42) rfl rfl ?_
      try simp only [Act.put, List.setIfInBounds_toArray, List.set_cons_zero, List.set_cons_succ]
      refine HdK.skp 7 (some 43) rfl rfl ?_
      try simp only [Act.put, List.setIfInBounds_toArray, List.set_cons_zero, List.set_cons_succ]
      refine HdK.skp 8 (some 44) rfl rfl ?_
      try simp only [Act.put, List.setIfInBounds_toArray, List.set_cons_zero, List.set_cons_succ]
      refine HdK.skp 9 (some 45) rfl rfl ?_
      try simp only [Act.put, List.setIfInBounds_toArray, List.set_cons_zero, List.set_cons_succ]
      refine HdK.tke 10 (some 46) (.bool false) rfl rfl ?_
      try simp only [Act.put, List.setIfInBounds_toArray, List.set_cons_zero, List.set_cons_succ]
      refine wpAnyH_ready (rs := [11]) (by kernel_rfl) (by simp) ?_
      refine AllReadyH.cons rfl (fun K hK => ?_) AllReadyH.nil
      refine HdK.step_store_mid rfl 62 _ _ rfl (w.heap.size + 1) 0 #[.string s.name, .bool s.tab, .slice A' s.cols.length c'] rfl rfl (Cells.there_of (w := w7.drew) (cs := #[.string ⟨#[]⟩, .bool false, .slice none 0 0]) Z7.out) info3 (by simp [Value.oneCell']) ?_
      have T9 := Seg.hid ((Cells.heap_setCells_other (g := w.heap.size + 1) (k := w6.heap.size) [.string s.name, .bool s.tab, .slice A' s.cols.length c'] (o := 0) w7.drew hne).trans T7.out)
      have Q9 := Seg.hid ((Cells.heap_setCells_other (g := w.heap.size + 1) (k := w.heap.size) [.string s.name, .bool s.tab, .slice A' s.cols.length c'] (o := 0) w7.drew hne3).trans Q7.out)
      obtain ⟨a0, a1, a2, -, -, -⟩ := threeB T9.out
      obtain ⟨-, -, -, a3, -, -, -, -, -, -, -⟩ := qcells Q9.out
      refine hK.out _ _ ⟨a0, a1, a2, a3⟩ (fun hHeld => ?_)
      clear hK K
      try simp only [Act.put, List.setIfInBounds_toArray]
      refine HdK.tke 12 (some 5) (.bool false) rfl rfl ?_
      try simp only [Act.put]
      refine wpAnyH_done (by kernel_rfl) ?_ _
      clear q0 q1 q2 m0 m1 m2 f0 f1 f2 r3 a0 a1 a2 a3
      go_wp2
      exact bodyPost_ret (v := .tuple #[.agg #[.string s.name, .bool s.tab, .slice A' s.cols.length c'], .bool (false)]) (R2.results_row_tmp rfl _ _ (w.heap.size + 1) 62 #[.string s.name, .bool s.tab, .slice A' s.cols.length c'] (0, 0) _ _ rfl rfl P8.out.1 Try.underlying62 rfl info3) rfl ⟨A', c', by rw [RA.out, RB.out]; rfl, by rw [RA.out]; exact LZ.out _ P8.out.2, P8.out.2⟩
    | true =>
      obtain ⟨gc, oc, hgS, dc⟩ : ∃ gc oc, S gc ∧ A' = some ⟨gc, oc, none⟩ ∧ w7.cell? ⟨gc, oc, none⟩ = some (.string (s.cols.getD 0 default)) := by
        have hp := OKS.out rfl
        obtain ⟨hn, A2, c2, e, h⟩ := L7.out
        cases e
        obtain ⟨g, o, F, rfl, hg, hc, hcell, hel⟩ := h.resolve_left (by omega)
        refine ⟨g, o, hg, rfl, ?_⟩
        have e : F 0 0 = .string (s.cols.getD 0 default) := hel 0 hp
        have cc := hcell 0 hp 0 (by omega)
        rw [e] at cc
        simpa using cc
      obtain ⟨ea, d0⟩ := dc
      subst ea
      have hgl := hS gc hgS
      have hlp := OKS.out rfl
      have hl1 : (0 : Int) < (s.cols.length : Int) := by omega
      have hn5 : gc ≠ w.heap.size + 1 := by omega
      have hn6 : w.heap.size + 1 ≠ gc := by omega
      rw [hd] at RB
      generalize s.cols.getD 0 default = m0' at *
      obtain ⟨G, hG⟩ : ∃ G, (m0'.toList == q.on.toList) = G := ⟨_, rfl⟩
      rw [hG] at RB
      go_region_held3 (fun w' => w'.cell? ⟨w6.heap.size, 0, none⟩ = some (.string s.name) ∧ w'.cell? ⟨w6.heap.size, 1, none⟩ = some (.bool s.tab) ∧ w'.cell? ⟨w6.heap.size, 2, none⟩ = some (.slice (some ⟨gc, oc, none⟩) s.cols.length c') ∧ w'.cell? ⟨w.heap.size, 3, none⟩ = some (.string q.on) ∧ w'.cell? ⟨gc, oc, none⟩ = some (.string m0')) (first | exact ⟨q0, q1, q2, r3, d0⟩ | go_keep) (fail)
      all_goals
        clear q0 q1 q2 m0 m1 m2 f0 f1 f2 r3 d0
        go_wp2
        exact bodyPost_ret (v := .tuple #[.agg #[.string s.name, .bool s.tab, .slice (some ⟨gc, oc, none⟩) s.cols.length c'], .bool (G)]) (R2.results_row_tmp rfl _ _ (w.heap.size + 1) 62 #[.string s.name, .bool s.tab, .slice (some ⟨gc, oc, none⟩) s.cols.length c'] (0, 0) _ _ rfl rfl (by first | exact P7.out.1 | exact P8.out.1) Try.underlying62 rfl info3) rfl ⟨(some ⟨gc, oc, none⟩), c', by rw [RA.out, RB.out]; rfl, by rw [RA.out]; exact LZ.out _ (by first | exact P7.out.2 | exact P8.out.2 | exact P7.out.2.drew | exact P8.out.2.drew), (by first | exact P7.out.2 | exact P8.out.2 | exact P7.out.2.drew | exact P8.out.2.drew)⟩
end Go.Proofs.Ytboooabjeidmfaa.YwI
