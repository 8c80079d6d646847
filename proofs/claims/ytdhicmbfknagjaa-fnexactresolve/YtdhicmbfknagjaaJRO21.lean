/- The model's SchemaOk: the names, gathered; Which field a field reads, and what may be read, on plain data. -/
import Derived.Deep.RegionHeld3
import Derived.Deep.RegionLaw
import Derived.BigQuiet
import Derived.Test.YtdhicmbfknagjaaJRO19
import Derived.Test.YtdhicmbfknagjaaJRO20
namespace Go.Proofs.Ytdhicmbfknagjaa.ScS
set_option maxRecDepth 8000
open Go.RowKit
open Ls Lp VkP VkR ScP ScM ScN ScI
open Recs (hsz below1 below2 below3 chain chainD)
set_option linter.unusedVariables false
abbrev Row (w : World) (B : Nat) (v : Value) (ns : List ByteArray) : Prop := w.ownsRow B 9 1 v ns.length (ns.map Value.string)
theorem Row.keep {w w' : World} {B : Nat} {v : Value} {ns : List ByteArray} (h : Row w B v ns) (hb : Below w.heap.size w w') : Row w' B v ns := by
  refine ⟨h.1, ?_⟩
  rcases h.2 with ⟨h1, h2⟩ | ⟨g, cap, cur, h1, hb', hg, r⟩
  · exact .inl ⟨h1, h2⟩
  · exact .inr ⟨g, cap, cur, h1, hb', (hb.block g (Array.getElem?_eq_some_iff.1 hg).1).trans hg, r⟩
theorem Row.lt {w : World} {B : Nat} {v : Value} {ns : List ByteArray} (h : Row w B v ns) : ∀ x, v.ownBlock = some x → B ≤ x ∧ x < w.heap.size := fun x hx => World.ownsRow.lt h x hx
def allN (fs : List Fld) : List ByteArray := fs.flatMap nms
theorem allN_step {fs : List Fld} {k : Nat} (h : k < fs.length) : allN (fs.take (k + 1)) = allN (fs.take k) ++ nms (fs.getD k default) := by
  unfold allN
  rw [List.take_succ_eq_append_getElem h, List.flatMap_append]
  simp [h]
theorem allN_len : ∀ (fs : List Fld), fs.all fA = true → (allN fs).length ≤ 5 * fs.length
  | [], _ => by simp [allN]
  | f :: fs, h => by
    simp only [List.all_cons, Bool.and_eq_true] at h
    have h1 := allN_len fs h.2
    have h2 : (nms f).length ≤ 5 := by
      have := h.1
      simp [fA] at this
      simp [nms]
      omega
    simp only [allN, List.flatMap_cons, List.length_append, List.length_cons] at h1 ⊢
    omega
theorem val_true {f : Fld} (h1 : kOk f.kind = true) (h2 : f.was.length ≤ 4) (h3 : val f = true) : fA f = true := by simp [fA, h1, h2, h3]
theorem row_put {w : World} {B n : Nat} {v : Value} {ns : List ByteArray} {f : Fld} (h : w.ownsRow B 9 1 v (ns.length + 1 + f.was.length) (ns.map Value.string ++ [Value.string f.name] ++ f.was.map Value.string)) : Row w B v (ns ++ nms f) := by
  have e1 : (ns ++ nms f).length = ns.length + 1 + f.was.length := by simp [nms]; omega
  have e2 : (ns ++ nms f).map Value.string = ns.map Value.string ++ [Value.string f.name] ++ f.was.map Value.string := by simp [nms]
  unfold Row
  rw [e1, e2]
  exact h
theorem grew {w5 w6 : World} {v : Value} {o : Obj} {x : Nat} (hx : x < w5.heap.size) (hne : v.ownBlock ≠ some x) (gr : (w5.drew.alloc o).grownBy w6 v.ownBlock) : w6.heap[x]? = w5.heap[x]? := by
  rw [gr.block x (by rw [hsz]; exact Nat.lt_succ_of_lt hx) (fun h => hne h.symm)]
  exact (below1 w5.drew o).block x hx
theorem grewB {B : Nat} {w w5 w6 : World} {v : Value} {o : Obj} (b : Below B w w5) (hv : ∀ x, x < B → v.ownBlock ≠ some x) (hB : B ≤ w5.heap.size) (gr : (w5.drew.alloc o).grownBy w6 v.ownBlock) : Below B w w6 :=
  (b.drew.alloc (by exact hB) o).grown gr (by rw [hsz]; exact Nat.le_succ_of_le hB) (fun x hx => by
    rcases Nat.lt_or_ge x B with h | h
    · exact absurd hx (hv x h)
    · exact h)
theorem cells11 {w1 : World} {gb : Nat} {f : Fld} {A B : Option Addr} {c d : Nat} (h : w1.heap[gb]? = some (.cells (frow f A c B d) 86 (0, 0))) : w1.cell? ⟨gb, 0, none⟩ = some (.string f.name) ∧ w1.cell? ⟨gb, 1, none⟩ = some (.int .i64 f.kind) ∧ w1.cell? ⟨gb, 2, none⟩ = some (.bool f.lst) ∧ w1.cell? ⟨gb, 3, none⟩ = some (.bool f.may) ∧ w1.cell? ⟨gb, 4, none⟩ = some (.slice A f.was.length c) ∧ w1.cell? ⟨gb, 5, none⟩ = some (.bool f.fixd) ∧ w1.cell? ⟨gb, 6, none⟩ = some (.int .i64 f.vk) ∧ w1.cell? ⟨gb, 7, none⟩ = some (.int .i64 f.vn) ∧ w1.cell? ⟨gb, 8, none⟩ = some (.string f.vt) ∧ w1.cell? ⟨gb, 9, none⟩ = some (.bool f.vl) ∧ w1.cell? ⟨gb, 10, none⟩ = some (.slice B f.vi.length d) :=
  ⟨cell_of_row w1 _ 0 _ _ (0, 0) h, cell_of_row w1 _ 1 _ _ (0, 0) h, cell_of_row w1 _ 2 _ _ (0, 0) h, cell_of_row w1 _ 3 _ _ (0, 0) h, cell_of_row w1 _ 4 _ _ (0, 0) h, cell_of_row w1 _ 5 _ _ (0, 0) h, cell_of_row w1 _ 6 _ _ (0, 0) h, cell_of_row w1 _ 7 _ _ (0, 0) h, cell_of_row w1 _ 8 _ _ (0, 0) h, cell_of_row w1 _ 9 _ _ (0, 0) h, cell_of_row w1 _ 10 _ _ (0, 0) h⟩
theorem sz_all {fs : List Fld} (h : szL szFld fs ≤ 1048576) {j : Nat} (hj : j < (allN fs).length) : ((allN fs).getD j default).size ≤ 1048576 := by
  have hm : (allN fs)[j] ∈ fs.flatMap nms := List.getElem_mem hj
  rw [List.getD_eq_getElem?_getD, List.getElem?_eq_getElem hj]
  simp only [Option.getD_some]
  generalize (allN fs)[j] = x at hm
  obtain ⟨f, hf, hx⟩ := List.mem_flatMap.1 hm
  obtain ⟨i, hi, rfl⟩ := List.getElem_of_mem hf
  obtain ⟨q, hq, rfl⟩ := List.getElem_of_mem hx
  have h1 := szL_one szFld h hi
  rw [List.getD_eq_getElem?_getD, List.getElem?_eq_getElem hi, Option.getD_some] at h1
  have h2 := sz_nms h1 hq
  rw [List.getD_eq_getElem?_getD, List.getElem?_eq_getElem hq] at h2
  exact h2
theorem dst_take {ns : List ByteArray} {k : Nat} (h : k < ns.length) : dst [] (ns.take (k + 1)) = (dst [] (ns.take k) && !hs (ns.take k) (ns.getD k default)) := by
  rw [List.take_succ_eq_append_getElem h, dst_append]
  simp [dst, h]
theorem dst_bad {ns : List ByteArray} {k : Nat} (h : k < ns.length) (hb : hs (ns.take k) (ns.getD k default) = true) : dst [] ns = false := by
  have e : dst [] ns = (dst [] (ns.take (k + 1)) && dst (ns.take (k + 1)) (ns.drop (k + 1))) := by
    have := dst_append (ns.take (k + 1)) [] (ns.drop (k + 1))
    rw [List.take_append_drop] at this
    simpa using this
  rw [e, dst_take h, hb]
  simp
theorem hs_at {ns : List ByteArray} {k j : Nat} (hj : j < k) (hk : k < ns.length) {n : ByteArray} (h : ((ns.getD j default).toList == n.toList) = true) : hs (ns.take k) n = true := by
  unfold hs
  rw [List.any_eq_true]
  refine ⟨ns.getD j default, ?_, h⟩
  have hj' : j < ns.length := by omega
  rw [List.getD_eq_getElem?_getD, List.getElem?_eq_getElem hj']
  simp only [Option.getD_some]
  rw [List.mem_take_iff_getElem]
  exact ⟨j, by omega, rfl⟩
theorem hs_no {ns : List ByteArray} {k : Nat} (hk : k < ns.length) {n : ByteArray} (h : ∀ j, j < k → ((ns.getD j default).toList == n.toList) = false) : hs (ns.take k) n = false := by
  unfold hs
  rw [List.any_eq_false]
  intro m hm
  rw [List.mem_take_iff_getElem] at hm
  obtain ⟨j, hj, rfl⟩ := hm
  have := h j (by omega)
  have hj' : j < ns.length := by omega
  rw [List.getD_eq_getElem?_getD, List.getElem?_eq_getElem hj'] at this
  simpa using this
set_option maxHeartbeats 6400000 in
theorem first_any (x : Value) (s : Sch) (w : World) (S : Nat → Prop) (hx : SchAt w S x s) (hS : ∀ g, S g → g < w.heap.size) (hf : szSch s ≤ 1048576) :
    Calls Try.prog 46 #[x] w fun e w' => e = .returned (.bool (sok s)) ∧ Below w.heap.size w w' := by
  obtain ⟨A0, c0, rfl, hl⟩ := formS hx
  obtain ⟨A, c, g, o, F, e, OP, hn⟩ := opn hl hS
  cases e
  have HO := Seg.hid OP
  have HZ := Seg.hid (sz_fields hf)
  have TN : Hid (s.name.size ≤ maxLen) := by show _ ≤ _; have := sz_sname hf; unfold maxLen; omega
  clear hx hl OP hf
  have R0 : Hid (sok s = (Nm.nameOk s.name && inR 1 s.fields.length 20 && run [] s.fields)) := rfl
  obtain ⟨i0, hi, hz0, hz1, hz2⟩ := info_parts infoS
  go_enter Try.func46, Try.ntmps46
  cases hy : Nm.nameOk s.name with
  | false =>
    have R : Hid (sok s = false) := by show _ = _; rw [R0.out]; simp [hy]
    have HY := Seg.hid hy
    clear hy
    go_wp2_with (go_at_call 37; refine (Nm.spec_q _ _ HY.out _ TN.out).mono ?_; rintro e w5 ⟨rfl, rfl⟩)
    go_ret
    exact ⟨by rw [R.out]; rfl, below1 _ _⟩
  | true =>
  cases hk : inR 1 s.fields.length 20 with
  | false =>
    have R : Hid (sok s = false) := by show _ = _; rw [R0.out]; simp [hk]
    have HY := Seg.hid hy
    have HK := Seg.hid hk
    clear hy hk
    go_wp2_with (first | (go_at_call 37; refine (Nm.spec_q _ _ HY.out _ TN.out).mono ?_; rintro e w5 ⟨rfl, rfl⟩) | (go_at_call 35; refine (InB.l1In_b _ _ _ _ HK.out _).mono ?_; rintro e w5 ⟨rfl, rfl⟩))
    go_ret
    exact ⟨by rw [R.out]; rfl, below1 _ _⟩
  | true =>
    have R : Hid (sok s = (s.fields.all fA && (allN s.fields).all Nm.nameOk && dst [] (allN s.fields))) := by show _ = _; rw [R0.out, run_eq]; simp [hy, hk, allN]
    have h20 := inR_true hk
    have HY := Seg.hid hy
    have HK := Seg.hid hk
    clear hy hk
    go_upto_region 4 with (first | (go_at_call 37; refine (Nm.spec_q _ _ HY.out _ TN.out).mono ?_; rintro e w5 ⟨rfl, rfl⟩) | (go_at_call 35; refine (InB.l1In_b _ _ _ _ HK.out _).mono ?_; rintro e w5 ⟨rfl, rfl⟩))
    obtain ⟨w1, hw1⟩ : ∃ w1, (w.alloc (.cells (srow s A0 c0) 43 (0, 0))).alloc (.cells #[] 9 (0, 0)) = w1 := ⟨_, rfl⟩
    have B1 : Hid (Below w.heap.size w w1) := by show Below _ _ _; rw [← hw1]; exact below2 _ _ _
    have P1 : Hid (w1.heap[w.heap.size]? = some (.cells (srow s A0 c0) 43 (0, 0))) := by show _ = _; rw [← hw1]; exact at2z w _ _
    have O1 : Hid (Row w1 (w.heap.size + 1) (.slice (some ⟨w.heap.size + 1, 0, none⟩) 0 0) (allN (s.fields.take 0))) := by
      have hg : w1.heap[w.heap.size + 1]? = some (.cells #[] 9 (0, 0)) := by rw [← hw1]; exact at2y w _ _
      show Row _ _ _ _
      simp only [List.take_zero, allN, List.flatMap_nil]
      exact ⟨rfl, .inr ⟨w.heap.size + 1, 0, #[], rfl, by omega, hg, by simp, by unfold maxLen; omega, rfl, rfl⟩⟩
    rw [hw1]
    clear hw1
    go_wp2
    go_loopw [3, 4] (fun vn i wr => ∃ (k : Nat), k ≤ s.fields.length ∧ i = .int .i64 k ∧ Hid (Below w.heap.size w wr ∧ wr.heap[w.heap.size]? = some (.cells (srow s A0 c0) 43 (0, 0)) ∧ Row wr (w.heap.size + 1) vn (allN (s.fields.take k)) ∧ (s.fields.take k).all fA = true)) (fun _ i _ => s.fields.length - (intOf i).toNat)
    case atStart => exact ⟨0, Nat.zero_le _, rfl, B1.out, P1.out, O1.out, by simp⟩
    case round =>
      clear B1 P1 O1
      obtain ⟨k, hk, rfl, HG⟩ := hrel
      obtain ⟨v, hv3⟩ : ∃ v, v = u3 := ⟨_, rfl⟩
      rw [← hv3] at HG ⊢
      clear hv3
      have hwr : w.heap.size < wr.heap.size := (Array.getElem?_eq_some_iff.1 HG.out.2.1).1
      have p1 : wr.cell? ⟨w.heap.size, 1, none⟩ = some (.slice A0 s.fields.length c0) := cell_of_row wr _ 1 _ _ (0, 0) HG.out.2.1
      by_cases hlt : k < s.fields.length
      · obtain ⟨ea, hc, hgw⟩ := HO.out.addr.resolve_left (by omega)
        subst ea
        obtain ⟨A', c', B', d', hfl, d0, d1, d2, d3, d4, d5, d6, d7, d8, d9, d10⟩ := fld_at HO.out hS HG.out.1 hlt
        have h0 : (0 : Int) ≤ (k : Int) := by omega
        have h1 : (k : Int) < (s.fields.length : Int) := by omega
        have SF : Hid (szFld (s.fields.getD k default) ≤ 1048576) := szL_one szFld HZ.out hlt
        have ST := Seg.hid (allN_step hlt)
        have NX := Seg.hid (all_next fA s.fields k hlt HG.out.2.2.2)
        have BX := Seg.hid (all_bad fA s.fields k hlt)
        have LN : Hid ((allN (s.fields.take k)).length ≤ 100) := by
          show _ ≤ _
          have h5 := allN_len _ HG.out.2.2.2
          simp only [List.length_take] at h5
          omega
        have HFL := Seg.hid hfl
        have BW := Seg.hid HG.out.1
        have PW := Seg.hid HG.out.2.1
        have OW := Seg.hid HG.out.2.2.1
        clear HG hfl
        generalize s.fields.getD k default = f at *
        generalize allN (s.fields.take k) = ns at *
        obtain ⟨w5, hw5⟩ : ∃ w5, wr.alloc (.cells #[.string f.name, .int .i64 f.kind, .bool f.lst, .bool f.may, .slice A' f.was.length c', .bool f.fixd, .int .i64 f.vk, .int .i64 f.vn, .string f.vt, .bool f.vl, .slice B' f.vi.length d'] 86 (0, 0)) = w5 := ⟨_, rfl⟩
        have T5 : Hid (w5.heap[wr.heap.size]? = some (.cells (frow f A' c' B' d') 86 (0, 0))) := by show _ = _; rw [← hw5]; exact heap_alloc_new _ _
        have N5 : Hid (Below wr.heap.size wr w5) := by show Below _ _ _; rw [← hw5]; exact below1 _ _
        have O5 : Hid (Row w5 (w.heap.size + 1) v ns) := OW.out.keep N5.out
        have s5 : wr.heap.size < w5.heap.size := (Array.getElem?_eq_some_iff.1 T5.out).1
        have LV := Seg.hid OW.out.lt
        go_upto_region 8 with fail
        try rw [hw5]
        clear hw5 d0 d1 d2 d3 d4 d5 d6 d7 d8 d9 d10
        have q0 : w5.cell? ⟨wr.heap.size, 0, none⟩ = some (.string f.name) := cell_of_row w5 _ 0 _ _ (0, 0) T5.out
        have q1 : w5.cell? ⟨wr.heap.size, 1, none⟩ = some (.int .i64 f.kind) := cell_of_row w5 _ 1 _ _ (0, 0) T5.out
        have q4 : w5.cell? ⟨wr.heap.size, 4, none⟩ = some (.slice A' f.was.length c') := cell_of_row w5 _ 4 _ _ (0, 0) T5.out
        cases hkk : kOk f.kind with
        | false =>
          have RF : Hid (sok s = false) := by show _ = _; rw [R.out, BX.out (by simp [fA, hkk])]; rfl
          have HKF : Hid (inR 1 f.kind 4 = false) := hkk
          clear hkk
          go_wp2_with (go_at_call 35; refine (InB.l1In_b _ _ _ _ HKF.out _).mono ?_; rintro e w6 ⟨rfl, rfl⟩)
          go_ret
          exact ⟨by rw [RF.out]; rfl, chain BW.out N5.out⟩
        | true =>
        have HKF : Hid (inR 1 f.kind 4 = true) := hkk
        by_cases h4 : 4 < f.was.length
        · have RF : Hid (sok s = false) := by
            show _ = _
            have : ¬ f.was.length ≤ 4 := by omega
            rw [R.out, BX.out (by simp [fA, this])]; rfl
          have qq : (4 : Int) < (f.was.length : Int) := by omega
          clear hkk
          go_wp2_with (go_at_call 35; refine (InB.l1In_b _ _ _ _ HKF.out _).mono ?_; rintro e w6 ⟨rfl, rfl⟩)
          go_ret
          exact ⟨by rw [RF.out]; rfl, chain BW.out N5.out⟩
        have qq : ¬ (4 : Int) < (f.was.length : Int) := by omega
        have VT : Hid (val f = true → fA f = true) := fun h => val_true hkk (by omega) h
        have VF : Hid (val f = false → fA f = false) := fun h => by simp [fA, h]
        clear hkk
        have NW : Hid (∀ w', Below w.heap.size w w' → f.was.length ≠ 0 → ∃ ad, A' = some ad ∧ ∀ j u, (f.was.map Value.string)[j]? = some u → w'.cell? (ad.add j) = some u) := fun w' b => by
          obtain ⟨A2, c2, B2, d2, e2, hw2, -⟩ := form HFL.out
          simp only [frow, Value.agg.injEq, Array.mk.injEq, List.cons.injEq, Value.slice.injEq, true_and, and_true] at e2
          have eA : A' = A2 := e2.1.1
          have ec : c' = c2 := e2.1.2
          rw [← eA, ← ec] at hw2
          exact was_news (w := wr) hw2 (fun g hg => by rw [b.block g (hS g hg), BW.out.block g (hS g hg)])
        go_upto_region 10 with (go_at_call 35; refine (InB.l1In_b _ _ _ _ HKF.out _).mono ?_; rintro e w6 ⟨rfl, rfl⟩)
        have hne : v.ownBlock ≠ some wr.heap.size := fun h => by have := LV.out _ h; omega
        have GB : Hid (∀ x, x ≤ w.heap.size → v.ownBlock ≠ some x) := fun x hx h => by have := (LV.out _ h).1; omega
        go_region_law ((first | (refine AppW.step_append_all _ (by rfl) _ _ 81 (by rfl) (w.heap.size + 1) 9 i0 _ 1 16 Try.underlying81 hi hz0 hz1 hz2 rfl (by decide) v ns.length (ns.map Value.string) (by rfl) (O5.out.drew.alloc _) (some ⟨w5.heap.size, 0, none⟩) 1 1 [.string f.name] (by rfl) (by rfl) (fun _ => ⟨_, rfl, World.news_of_block (cs := #[.string f.name]) (heap_alloc_new _ _)⟩) (by simp [Value.oneCell']) (by have := LN.out; unfold maxLen; omega) (by have := LN.out; omega) (by show _ ≤ (w5.drew.alloc _).heap.size; rw [hsz]; show _ ≤ w5.heap.size + 1; omega) ?_; intro v6 w6 own6 gr6 vb6; have T6 : Hid (w6.heap[wr.heap.size]? = some (.cells (frow f A' c' B' d') 86 (0, 0))) := (grew s5 hne gr6).trans T5.out; have P6 : Hid (w6.heap[w.heap.size]? = some (.cells (srow s (some ⟨g, o, none⟩) c0) 43 (0, 0))) := (grew (Nat.lt_trans hwr s5) (GB.out _ (Nat.le_refl _)) gr6).trans ((N5.out.block _ hwr).trans PW.out); have B6 : Hid (Below w.heap.size w w6) := grewB (chain BW.out N5.out) (fun x hx => GB.out x (Nat.le_of_lt hx)) (by omega) gr6; have V6 : Hid (∀ x, v6.ownBlock = some x → w.heap.size + 1 ≤ x ∧ x ≠ wr.heap.size) := (fun x hx => by rcases vb6 with h | h; exact ⟨(LV.out x (h ▸ hx)).1, by have := (LV.out x (h ▸ hx)).2; omega⟩; have hx' : some (w5.heap.size + 1) = some x := (by rw [← hx, h]; exact congrArg some (hsz w5 _).symm); injection hx' with hx''; exact ⟨by omega, by omega⟩); have O6 := Seg.hid own6; have s6 : w5.heap.size + 1 ≤ w6.heap.size := Nat.le_trans (Nat.le_of_eq (hsz w5 _).symm) gr6.size; clear own6 gr6 vb6; have r0 : w6.cell? ⟨wr.heap.size, 0, none⟩ = some (.string f.name) := cell_of_row w6 _ 0 _ _ (0, 0) T6.out; have r4 : w6.cell? ⟨wr.heap.size, 4, none⟩ = some (.slice A' f.was.length c') := cell_of_row w6 _ 4 _ _ (0, 0) T6.out) | (refine AppW.step_append_all _ (by rfl) _ _ 81 (by rfl) (w.heap.size + 1) 9 i0 _ 1 16 Try.underlying81 hi hz0 hz1 hz2 rfl (by decide) v6 (ns.length + 1) _ (by rfl) O6.out A' f.was.length c' (f.was.map Value.string) (by rfl) (by simp) (NW.out _ B6.out) (by simp [Value.oneCell']) (by have := LN.out; unfold maxLen; omega) (by have := LN.out; omega) (by omega) ?_; intro v7 w7 own7 gr7 vb7; have T7 : Hid (w7.heap[wr.heap.size]? = some (.cells (frow f A' c' B' d') 86 (0, 0))) := (gr7.block _ (by omega) (fun h => (V6.out _ h.symm).2 rfl)).trans T6.out; have P7 : Hid (w7.heap[w.heap.size]? = some (.cells (srow s (some ⟨g, o, none⟩) c0) 43 (0, 0))) := (gr7.block _ (by omega) (fun h => by have := (V6.out _ h.symm).1; omega)).trans P6.out; have B7 : Hid (Below w.heap.size w w7) := B6.out.grown gr7 (by omega) (fun x hx => by have := (V6.out _ hx).1; omega); have O7 : Hid (Row w7 (w.heap.size + 1) v7 (ns ++ nms f)) := row_put (n := 0) own7; have s7 : wr.heap.size < w7.heap.size := (by have := gr7.size; omega); clear own7 gr7 vb7; have t0 : w7.cell? ⟨wr.heap.size, 0, none⟩ = some (.string f.name) := cell_of_row w7 _ 0 _ _ (0, 0) T7.out; have t4 : w7.cell? ⟨wr.heap.size, 4, none⟩ = some (.slice A' f.was.length c') := cell_of_row w7 _ 4 _ _ (0, 0) T7.out)))
        all_goals
          clear r0 r4 t0 t4 q0 q1 q4 T6 P6 V6 O6
          obtain ⟨e0, e1, e2, e3, e4, e5, e6, e7, e8, e9, e10⟩ := cells11 T7.out
          have hSw : ∀ g, S g → g < w7.heap.size := fun g hg => Nat.lt_of_lt_of_le (hS g hg) B7.out.size
          have HF7 : Hid (FldAt w7 S (.agg (frow f A' c' B' d')) f) := HFL.out.keep (fun g hg => by rw [B7.out.block g (hS g hg), BW.out.block g (hS g hg)])
          have VB : Hid (VluAt w7 S (.agg (vrow (vluOf f) B' d')) (vluOf f)) := by
            obtain ⟨A2, c2, B2, d2, e2, -, hw2⟩ := form HF7.out
            simp only [frow, Value.agg.injEq, Array.mk.injEq, List.cons.injEq, Value.slice.injEq, true_and, and_true] at e2
            have eA : B' = B2 := e2.2.1
            have ec : d' = d2 := e2.2.2
            rw [← eA, ← ec] at hw2
            exact inner hw2
          have NEXT : Hid (∀ w8, Below w7.heap.size w7 w8 → fA f = true → (Below w.heap.size w w8 ∧ w8.heap[w.heap.size]? = some (.cells (srow s (some ⟨g, o, none⟩) c0) 43 (0, 0)) ∧ Row w8 (w.heap.size + 1) v7 (allN (s.fields.take (k + 1))) ∧ (s.fields.take (k + 1)).all fA = true)) := fun w8 b h => ⟨chain B7.out b, (b.block _ (by omega)).trans P7.out, by rw [ST.out]; exact O7.out.keep b, NX.out h⟩
          have BAD : Hid (fA f = false → sok s = false) := fun h => by rw [R.out, BX.out h]; rfl
          have VD : Hid (val f = if f.fixd = true then vof f.kind f.lst f.may (vluOf f) else zero (vluOf f)) := rfl
          clear NW HKF LV GB NX BX ST
          obtain ⟨fx, hfx⟩ : ∃ b, f.fixd = b := ⟨_, rfl⟩
          cases fx with
          | true =>
            have R4 : Hid (val f = vof f.kind f.lst f.may (vluOf f)) := by show _ = _; rw [VD.out]; simp [hfx]
            have CV : Hid (Calls Try.prog 83 #[.agg #[.string f.name, .int .i64 f.kind, .bool f.lst, .bool f.may, .slice A' f.was.length c', .bool true, .int .i64 f.vk, .int .i64 f.vn, .string f.vt, .bool f.vl, .slice B' f.vi.length d'], .agg (vrow (vluOf f) B' d')] w7 fun e w' => e = .returned (.bool (val f)) ∧ Below w7.heap.size w7 w') := by
              have h := VkS.of_any _ _ f (vluOf f) w7 S HF7.out VB.out hSw (sz_inner f SF.out)
              rw [frow, hfx, ← R4.out] at h
              exact h
            clear R4 VD
            obtain ⟨bv, hbv⟩ : ∃ b, val f = b := ⟨_, rfl⟩
            rw [hbv] at CV VT VF
            cases bv with
            | true =>
              have HA := Seg.hid (VT.out rfl)
              clear hbv VT VF
              go_wp2_with (go_at_call 83; refine (CV.out).mono ?_; rintro e w8 ⟨rfl, b8⟩; have N8 := Seg.hid (NEXT.out w8 b8 HA.out); have g5 := (b8.cell (p := ⟨wr.heap.size, 5, none⟩) s7).trans e5; clear b8)
              go_roundw
              case rel => exact ⟨k + 1, by omega, by go_num, N8.out⟩
              case measure => simp [intOf]; omega
            | false =>
              have HA := Seg.hid (BAD.out (VF.out rfl))
              clear hbv VT VF
              go_wp2_with (go_at_call 83; refine (CV.out).mono ?_; rintro e w8 ⟨rfl, b8⟩; have N8 := Seg.hid (chain B7.out b8); have g5 := (b8.cell (p := ⟨wr.heap.size, 5, none⟩) s7).trans e5; clear b8)
              go_ret
              exact ⟨by rw [HA.out]; rfl, N8.out⟩
          | false =>
            have R4 : Hid (val f = zero (vluOf f)) := by show _ = _; rw [VD.out]; simp [hfx]
            have CV : Hid (Calls Try.prog 84 #[.agg (vrow (vluOf f) B' d'), .agg #[.int .i64 0, .int .i64 0, .string ⟨#[]⟩, .bool false, .slice none 0 0]] w7 fun e w' => e = .returned (.bool (val f)) ∧ Below w7.heap.size w7 w') := by
              have h := VkS.same_any (vluOf f) B' d' w7
              rw [← R4.out] at h
              exact h
            clear R4 VD
            obtain ⟨bv, hbv⟩ : ∃ b, val f = b := ⟨_, rfl⟩
            rw [hbv] at CV VT VF
            cases bv with
            | true =>
              have HA := Seg.hid (VT.out rfl)
              clear hbv VT VF
              go_wp2_with (go_at_call 84; refine (CV.out).mono ?_; rintro e w8 ⟨rfl, b8⟩; have N8 := Seg.hid (NEXT.out w8 b8 HA.out); clear b8)
              go_roundw
              case rel => exact ⟨k + 1, by omega, by go_num, N8.out⟩
              case measure => simp [intOf]; omega
            | false =>
              have HA := Seg.hid (BAD.out (VF.out rfl))
              clear hbv VT VF
              go_wp2_with (go_at_call 84; refine (CV.out).mono ?_; rintro e w8 ⟨rfl, b8⟩; have N8 := Seg.hid (chain B7.out b8); clear b8)
              go_ret
              exact ⟨by rw [HA.out]; rfl, N8.out⟩
      · obtain rfl : k = s.fields.length := by omega
        have e1 := HG.out.2.2.2
        have e2 := HG.out.2.2.1
        rw [List.take_length] at e1 e2
        have h5 := allN_len _ e1
        have R2 : Hid (sok s = ((allN s.fields).all Nm.nameOk && dst [] (allN s.fields))) := by show _ = _; rw [R.out, e1]; simp
        have BW := Seg.hid HG.out.1
        have LT := Seg.hid (strs_row e2 (by omega))
        have hl100 : (allN s.fields).length ≤ 100 := by omega
        have HSZ : Hid (∀ j, j < (allN s.fields).length → ((allN s.fields).getD j default).size ≤ 1048576) := fun j hj => sz_all HZ.out hj
        clear HG e1 e2 h5
        generalize allN s.fields = ns at *
        obtain ⟨wE, hE⟩ : ∃ x, x = wr := ⟨_, rfl⟩
        subst hE
        obtain ⟨An, cn, gn, on, Fn, rfl, OP, hnn⟩ := opn LT.out (fun g hg => hg.2)
        have HP := Seg.hid OP
        clear OP LT
        have SZN : Hid (∀ j, j < ns.length → (ns.getD j default).size ≤ 1048576) := HSZ.out
        go_wp2
        go_loopw [6] (fun i wq => ∃ (m : Nat), m ≤ ns.length ∧ i = .int .i64 m ∧ Hid (Qt wE wq ∧ (ns.take m).all Nm.nameOk = true ∧ dst [] (ns.take m) = true)) (fun i _ => ns.length - (intOf i).toNat)
        case atStart => exact ⟨0, Nat.zero_le _, rfl, Qt.refl _, by simp, rfl⟩
        case round =>
          obtain ⟨wq, hq⟩ : ∃ x, x = wr := ⟨_, rfl⟩
          subst hq
          obtain ⟨m, hm, rfl, HG⟩ := hrel
          by_cases hlt : m < ns.length
          · obtain ⟨ea, hc, hgw⟩ := HP.out.addr.resolve_left (by omega)
            subst ea
            have CE : Hid (∀ wx, Qt wE wx → ∀ j, j < ns.length → wx.cell? ⟨gn, on + j, none⟩ = some (.string (ns.getD j default))) := fun wx q j hj => strs_cell HP.out (by rw [q.heap]) hj
            have d0 := CE.out wq HG.out.1 m hlt
            have h0 : (0 : Int) ≤ (m : Int) := by omega
            have h1 : (m : Int) < (ns.length : Int) := by omega
            have TZ : Hid ((ns.getD m default).size ≤ maxLen) := by show _ ≤ _; have := SZN.out m hlt; unfold maxLen; omega
            have NX := Seg.hid (all_next Nm.nameOk ns m hlt HG.out.2.1)
            have BX := Seg.hid (all_bad Nm.nameOk ns m hlt)
            have DT := Seg.hid (dst_take hlt)
            have DB : Hid (hs (ns.take m) (ns.getD m default) = true → dst [] ns = false) := dst_bad hlt
            have HA : Hid (∀ j, j < m → ((ns.getD j default).toList == (ns.getD m default).toList) = true → hs (ns.take m) (ns.getD m default) = true) := fun j hj h => hs_at hj hlt h
            have HN : Hid ((∀ j, j < m → ((ns.getD j default).toList == (ns.getD m default).toList) = false) → hs (ns.take m) (ns.getD m default) = false) := fun h => hs_no hlt h
            have QW := Seg.hid HG.out.1
            have DW := Seg.hid HG.out.2.2
            clear HG
            generalize hnm : ns.getD m default = nm at *
            have BWQ : Hid (∀ wx, Qt wE wx → Below w.heap.size w wx) := fun wx q => chain BW.out (q.bel _)
            cases hy : Nm.nameOk nm with
            | false =>
              have RF : Hid (sok s = false) := by show _ = _; rw [R2.out, BX.out hy]; rfl
              have HY2 := Seg.hid hy
              clear hy hnm
              go_wp2_with (go_at_call 37; refine (Nm.spec_q _ _ HY2.out _ TZ.out).mono ?_; rintro e w6 ⟨rfl, rfl⟩)
              go_ret
              exact ⟨by rw [RF.out]; rfl, BWQ.out _ QW.out⟩
            | true =>
              have NY : Hid ((ns.take (m + 1)).all Nm.nameOk = true) := NX.out hy
              have HY2 := Seg.hid hy
              have HNM := Seg.hid hnm
              clear hy hnm NX BX
              go_wp2_with (go_at_call 37; refine (Nm.spec_q _ _ HY2.out _ TZ.out).mono ?_; rintro e w6 ⟨rfl, rfl⟩)
              go_loopw [7] (fun i wy => ∃ (j : Nat), j ≤ m ∧ i = .int .i64 j ∧ Hid (Qt wE wy ∧ ∀ y, y < j → ((ns.getD y default).toList == nm.toList) = false)) (fun i _ => m - (intOf i).toNat)
              case atStart => exact ⟨0, Nat.zero_le _, rfl, QW.out, fun y hy => absurd hy (by omega)⟩
              case round =>
                obtain ⟨wy, hy3⟩ : ∃ x, x = wr := ⟨_, rfl⟩
                subst hy3
                obtain ⟨j, hj, rfl, HI⟩ := hrel
                by_cases hjl : j < m
                · have f0 := CE.out wy HI.out.1 j (by omega)
                  have f1 : wy.cell? ⟨gn, on + m, none⟩ = some (.string nm) := by rw [CE.out wy HI.out.1 m hlt, HNM.out]
                  have j0 : (0 : Int) ≤ (j : Int) := by omega
                  have j1 : (j : Int) < (ns.length : Int) := by omega
                  have j2 : (j : Int) < (m : Int) := by omega
                  obtain ⟨b, hb⟩ : ∃ b, ((ns.getD j default).toList == nm.toList) = b := ⟨_, rfl⟩
                  have HB := Seg.hid hb
                  have HAJ := Seg.hid (HA.out j hjl)
                  have QY := Seg.hid HI.out.1
                  have IY := Seg.hid HI.out.2
                  clear HI
                  generalize hnj : ns.getD j default = nj at *
                  have HNJ := Seg.hid hnj
                  clear hnj
                  cases b with
                  | true =>
                    have RF : Hid (sok s = false) := by show _ = _; rw [R2.out, DB.out (HAJ.out HB.out)]; simp
                    go_wp2_with fail
                    go_quiet (fail)
                    all_goals
                      go_wp2
                      go_ret
                      exact ⟨by rw [RF.out]; rfl, BWQ.out _ (QY.out.drewN _)⟩
                  | false =>
                    have IZ : Hid (∀ y, y < j + 1 → ((ns.getD y default).toList == nm.toList) = false) := fun y hy => by
                      rcases Nat.lt_or_ge y j with h | h
                      · exact IY.out y h
                      · obtain rfl : y = j := by omega
                        rw [HNJ.out]; exact HB.out
                    go_wp2_with fail
                    go_quiet (fail)
                    all_goals
                      go_wp2
                      go_roundw
                      case rel => exact ⟨j + 1, by omega, by go_num, QY.out.drewN _, IZ.out⟩
                      case measure => simp [intOf]; omega
                · obtain rfl : j = m := by omega
                  have ND : Hid (dst [] (ns.take (j + 1)) = true) := by show _ = _; rw [DT.out, DW.out, HN.out HI.out.2]; rfl
                  have j2 : ¬ (j : Int) < (j : Int) := by omega
                  go_wp2
                  go_roundw
                  case rel => exact ⟨j + 1, by omega, by go_num, HI.out.1, NY.out, ND.out⟩
                  case measure => simp [intOf]; omega
          · obtain rfl : m = ns.length := by omega
            have RF : Hid (sok s = true) := by
              show _ = _
              have a1 := HG.out.2.1
              have a2 := HG.out.2.2
              rw [List.take_length] at a1 a2
              rw [R2.out, a1, a2]; rfl
            go_wp2
            go_ret
            exact ⟨by rw [RF.out]; rfl, chain BW.out (HG.out.1.bel _)⟩
end Go.Proofs.Ytdhicmbfknagjaa.ScS
namespace Go.Proofs.Ytdhicmbfknagjaa.MaP
set_option maxRecDepth 8000
open Go.RowKit
open Ls Lp VkP VkR ScP ScS
set_option linter.unusedVariables false
def fndF (n : ByteArray) : Nat → List Fld → Int
  | _, [] => -1
  | i, f :: fs => if (f.name.toList == n.toList) = true then i else fndF n (i + 1) fs
/-- The place of the first field of a name, -1: there is none. -/
def fnd (ws : List Fld) (n : ByteArray) : Int := fndF n 0 ws
theorem fndF_no (n : ByteArray) : ∀ (ws : List Fld) (i : Nat), (∀ f ∈ ws, (f.name.toList == n.toList) = false) → fndF n i ws = -1
  | [], _, _ => rfl
  | f :: fs, i, h => by
    rw [fndF, if_neg (by rw [h f (by simp)]; simp)]
    exact fndF_no n fs (i + 1) (fun g hg => h g (by simp [hg]))
theorem fndF_app (n : ByteArray) (bs : List Fld) : ∀ (xs : List Fld) (i : Nat), (∀ f ∈ xs, (f.name.toList == n.toList) = false) → fndF n i (xs ++ bs) = fndF n (i + xs.length) bs
  | [], i, _ => by simp
  | f :: fs, i, h => by
    rw [List.cons_append, fndF, if_neg (by rw [h f (by simp)]; simp), fndF_app n bs fs (i + 1) (fun g hg => h g (by simp [hg]))]
    congr 1
    simp only [List.length_cons]
    omega
theorem fndF_yes (n : ByteArray) (bs : List Fld) : ∀ (xs : List Fld) (i : Nat), fndF n i xs ≠ -1 → fndF n i (xs ++ bs) = fndF n i xs
  | [], i, h => absurd rfl h
  | f :: fs, i, h => by
    rw [List.cons_append, fndF, fndF]
    split
    · rfl
    · next h1 => exact fndF_yes n bs fs (i + 1) (by rw [fndF, if_neg h1] at h; exact h)
theorem fndF_ge (n : ByteArray) : ∀ (ws : List Fld) (i : Nat), fndF n i ws = -1 ∨ ∃ j : Nat, j < ws.length ∧ fndF n i ws = (i + j : Nat) ∧ ((ws.getD j default).name.toList == n.toList) = true
  | [], i => .inl rfl
  | f :: fs, i => by
    rw [fndF]
    split
    · next h => exact .inr ⟨0, by simp, by simp, by simpa using h⟩
    · rcases fndF_ge n fs (i + 1) with h | ⟨j, h1, h2, h3⟩
      · exact .inl h
      · exact .inr ⟨j + 1, by simp only [List.length_cons]; omega, by rw [h2]; congr 1; omega, by simpa using h3⟩
theorem fndF_all (n : ByteArray) : ∀ (ws : List Fld) (i : Nat), fndF n i ws = -1 → ∀ f ∈ ws, (f.name.toList == n.toList) = false
  | [], _, _, f, hf => by simp at hf
  | g :: gs, i, h, f, hf => by
    rw [fndF] at h
    split at h
    · omega
    · next h1 =>
      rcases List.mem_cons.1 hf with rfl | hf
      · simpa using h1
      · exact fndF_all n gs (i + 1) h f hf
theorem fnd_some {ws : List Fld} {n : ByteArray} (h : 0 ≤ fnd ws n) : fnd ws n < ws.length ∧ ((ws.getD (fnd ws n).toNat default).name.toList == n.toList) = true := by
  rcases fndF_ge n ws 0 with h1 | ⟨j, h1, h2, h3⟩
  · unfold fnd at h; omega
  · have e : fnd ws n = (j : Int) := by unfold fnd; rw [h2]; simp
    rw [e]
    exact ⟨by omega, by simpa using h3⟩
theorem fnd_neg {ws : List Fld} {n : ByteArray} (h : ¬ 0 ≤ fnd ws n) : fnd ws n = -1 := by
  rcases fndF_ge n ws 0 with h1 | ⟨j, h1, h2, h3⟩
  · exact h1
  · exact absurd (show 0 ≤ fnd ws n by unfold fnd; rw [h2]; omega) h
theorem fnd_few (ws : List Fld) (n : ByteArray) : -1 ≤ fnd ws n ∧ fnd ws n < max 1 ws.length := by
  by_cases h : 0 ≤ fnd ws n
  · have := (fnd_some h).1; omega
  · rw [fnd_neg h]; omega
theorem fnd_no {ws : List Fld} {n : ByteArray} (h : ∀ j, j < ws.length → ((ws.getD j default).name.toList == n.toList) = false) : fnd ws n = -1 := fndF_no n ws 0 fun f hf => by
  obtain ⟨j, hj, rfl⟩ := List.getElem_of_mem hf
  have := h j hj
  rwa [List.getD_eq_getElem?_getD, List.getElem?_eq_getElem hj, Option.getD_some] at this
theorem fnd_at {ws : List Fld} {n : ByteArray} {j : Nat} (hj : j < ws.length) (h : ∀ y, y < j → ((ws.getD y default).name.toList == n.toList) = false) (he : ((ws.getD j default).name.toList == n.toList) = true) : fnd ws n = j := by
  have e : ws = ws.take j ++ ws.drop j := (List.take_append_drop j ws).symm
  unfold fnd
  rw [e, fndF_app n _ _ _ (fun f hf => ?_), drop_cons hj, fndF, if_pos he]
  · simp; omega
  · rw [List.mem_take_iff_getElem] at hf
    obtain ⟨y, hy, rfl⟩ := hf
    have hy' : y < ws.length := by omega
    have := h y (by omega)
    rwa [List.getD_eq_getElem?_getD, List.getElem?_eq_getElem hy', Option.getD_some] at this
theorem fnd_push {ws : List Fld} {f : Fld} (n : ByteArray) : fnd (ws ++ [f]) n = if 0 ≤ fnd ws n then fnd ws n else if (f.name.toList == n.toList) = true then (ws.length : Int) else -1 := by
  by_cases h : 0 ≤ fnd ws n
  · rw [if_pos h]
    exact fndF_yes n [f] ws 0 (by unfold fnd at h; omega)
  · rw [if_neg h]
    have hn := fndF_all n ws 0 (fnd_neg h)
    unfold fnd
    rw [fndF_app n _ _ _ hn]
    simp [fndF]
/-- The place of the first of some names that is one. -/
def plc (ws : List Fld) : List ByteArray → Int
  | [] => -1
  | n :: ns => if 0 ≤ fnd ws n then fnd ws n else plc ws ns
theorem plc_step {ws : List Fld} {ns : List ByteArray} {k : Nat} (h : k < ns.length) : plc ws (ns.drop k) = if 0 ≤ fnd ws (ns.getD k default) then fnd ws (ns.getD k default) else plc ws (ns.drop (k + 1)) := by rw [drop_cons h, plc]
theorem plc_range (ws : List Fld) : ∀ ns : List ByteArray, plc ws ns = -1 ∨ (0 ≤ plc ws ns ∧ plc ws ns < ws.length ∧ hs ns (ws.getD (plc ws ns).toNat default).name = true)
  | [] => .inl rfl
  | n :: ns => by
    rw [plc]
    split
    · next h =>
      have h1 := fnd_some h
      refine .inr ⟨h, h1.1, ?_⟩
      have h2 := h1.2
      simp only [beq_iff_eq] at h2
      unfold hs
      rw [List.any_cons, h2]
      simp
    · rcases plc_range ws ns with h | ⟨h1, h2, h3⟩
      · exact .inl h
      · refine .inr ⟨h1, h2, ?_⟩
        unfold hs at h3 ⊢
        rw [List.any_cons, h3]
        simp
def mtch (r w : Sch) : List Int := r.fields.map fun f => plc w.fields (nms f)
def matchL (r w : Sch) : List Int := if (sok r && sok w) = true then mtch r w else []
theorem hs_append (a b : List ByteArray) (n : ByteArray) : hs (a ++ b) n = (hs a n || hs b n) := by simp [hs]
theorem dst_hs : ∀ (ns seen : List ByteArray), dst seen ns = true → ∀ m ∈ ns, hs seen m = false
  | [], _, _, m, hm => by simp at hm
  | n :: ns, seen, h, m, hm => by
    simp only [dst, Bool.and_eq_true, Bool.not_eq_true'] at h
    rcases List.mem_cons.1 hm with rfl | hm
    · exact h.1
    · have := dst_hs ns (seen ++ [n]) h.2 m hm
      rw [hs_append] at this
      simp only [Bool.or_eq_false_iff] at this
      exact this.1
theorem sok_dst {s : Sch} (h : sok s = true) : dst [] (allN s.fields) = true ∧ s.fields.length ≤ 20 ∧ s.fields.all fA = true := by
  simp only [sok, Bool.and_eq_true] at h
  have h1 := h.2
  rw [run_eq] at h1
  simp only [Bool.and_eq_true] at h1
  have h2 := inR_true h.1.2
  exact ⟨h1.2, by omega, h1.1.1⟩
theorem apart {fs : List Fld} (h : dst [] (allN fs) = true) {i k : Nat} (hk : k < i) (hi : i < fs.length) {m : ByteArray} (hm : m ∈ nms (fs.getD i default)) : hs (nms (fs.getD k default)) m = false := by
  have e : allN fs = allN (fs.take i) ++ (nms (fs.getD i default) ++ allN (fs.drop (i + 1))) := by
    have := congrArg allN (List.take_append_drop i fs).symm
    rw [this, drop_cons hi]
    simp [allN]
  rw [e, dst_append] at h
  simp only [Bool.and_eq_true] at h
  have h1 := dst_hs _ _ h.2 m (List.mem_append_left _ hm)
  rw [List.nil_append] at h1
  have hkl : k < (fs.take i).length := by rw [List.length_take]; omega
  have e2 : allN (fs.take i) = allN ((fs.take i).take k) ++ (nms ((fs.take i).getD k default) ++ allN ((fs.take i).drop (k + 1))) := by
    have := congrArg allN (List.take_append_drop k (fs.take i)).symm
    rw [this, drop_cons hkl]
    simp [allN]
  rw [e2, hs_append, hs_append] at h1
  simp only [Bool.or_eq_false_iff] at h1
  have e3 : (fs.take i).getD k default = fs.getD k default := by
    rw [List.getD_eq_getElem?_getD, List.getD_eq_getElem?_getD, List.getElem?_take_of_lt hk]
  rw [e3] at h1
  exact h1.2.1
theorem new_name {fs : List Fld} (h : dst [] (allN fs) = true) {k : Nat} (hk : k < fs.length) : fnd (fs.take k) (fs.getD k default).name = -1 := fnd_no fun j hj => by
  have hjk : j < k := by rw [List.length_take] at hj; omega
  have e3 : (fs.take k).getD j default = fs.getD j default := by
    rw [List.getD_eq_getElem?_getD, List.getD_eq_getElem?_getD, List.getElem?_take_of_lt hjk]
  rw [e3]
  have := apart h hjk hk (m := (fs.getD k default).name) (by simp [nms])
  unfold hs nms at this
  rw [List.any_cons, Bool.or_eq_false_iff] at this
  exact this.1
end Go.Proofs.Ytdhicmbfknagjaa.MaP
