/- putTextIf and putHeads of the program; writeBody of the program. -/
import Derived.Test.YtojalklkpnaofaaJF27
import Derived.Test.YtojalklkpnaofaaJF03
namespace Go.Proofs.Ytojalklkpnaofaa.PuT
set_option maxRecDepth 8000
open Go.RowKit
open Seg (B)
open SqP (Out grow)
open Nums (put)
open PuI (Ext below_grown out_below out_lt putInts_any)
open AppS (appS)
open WrP
open Recs (Hd Rec Heads below1 hsz hdCells)
set_option linter.unusedVariables false

theorem Ext.from {w w1 w' : World} {base g : Nat} {l : List Int} {e : Ending} (hb : Below w.heap.size w w1) (h : Ext w1 w' base g l e) : Ext w w' base g l e := by
  obtain ⟨⟨g', c', h1, h2, h3⟩, h4⟩ := h
  have := hb.size
  exact ⟨⟨g', c', h1, h2, by omega⟩, (below_grown hb _).trans h4⟩
theorem Ext.then {w w1 w2 : World} {base g g1 : Nat} {l : List Int} {e : Ending} (gr : w.grownBy w1 (some g)) (h1 : g1 = g ∨ w.heap.size ≤ g1) (h : Ext w1 w2 base g1 l e) : Ext w w2 base g l e := by
  obtain ⟨⟨g', c', a1, a2, a3⟩, a4⟩ := h
  have := gr.size
  exact ⟨⟨g', c', a1, a2, by omega⟩, grow gr a4 h1⟩
/-- One thing more is put. -/
theorem Ext.more {w w1 w2 : World} {base g g1 g2 cap2 n : Nat} {l : List Int} (gr : w.grownBy w1 (some g)) (h1 : g1 = g ∨ w.heap.size ≤ g1) (o2 : Out w2 base g2 cap2 l) (gr2 : w1.grownBy w2 (some g1)) (h2 : g2 = g1 ∨ g2 = w1.heap.size) (hn : n = l.length) :
    Ext w w2 base g l (.returned (.slice (some ⟨g2, 0, none⟩) n cap2)) := by
  have := gr.size
  exact ⟨⟨g2, cap2, by rw [hn], o2, by omega⟩, grow gr gr2 h1⟩
/-- A new row of numbers. -/
theorem new_cells (w : World) (ns : List Int) (t : TypeId) : ∀ j, j < ns.length → (w.alloc (.cells (ns.map (Value.int .i64)).toArray t)).cell? ⟨w.heap.size, j, none⟩ = some (.int .i64 (ns.getD j 0)) := fun j hj => by
  rw [cell_of_row _ _ j _ _ _ (heap_alloc_new _ _)]
  simp [hj]
theorem new_lt (w : World) (o : Obj) : w.heap.size < (w.alloc o).heap.size := by rw [hsz]; omega
theorem out_ne {w : World} {base g cap : Nat} {l : List Int} (h : Out w base g cap l) : w.heap.size ≠ g := by have := (out_lt h).2; omega
theorem one_in {x : Int} (h : -9223372036854775808 ≤ x ∧ x ≤ 9223372036854775807) : ∀ y ∈ [x], -9223372036854775808 ≤ y ∧ y ≤ 9223372036854775807 := fun y hy => by simp at hy; subst hy; exact h
theorem two_in {x z : Int} (h : -9223372036854775808 ≤ x ∧ x ≤ 9223372036854775807) (h' : -9223372036854775808 ≤ z ∧ z ≤ 9223372036854775807) : ∀ y ∈ [x, z], -9223372036854775808 ≤ y ∧ y ≤ 9223372036854775807 := fun y hy => by
  simp at hy
  rcases hy with rfl | rfl
  · exact h
  · exact h'
theorem nums1 (x : Int) : numsB [x] = put x := by simp [numsB]
theorem nums2 (x y : Int) : numsB [x, y] = put x ++ put y := by simp [numsB]

/-- putInts with a new list, as the walk meets it. -/
theorem ints_new (g cap base : Nat) (out ns : List Int) (w : World) (t : TypeId) (gn : Nat) (hgn : w.heap.size = gn) (hn : ns.length ≤ 100) (ho1 : out.length ≤ 5000000) (hr : ∀ x ∈ ns, -9223372036854775808 ≤ x ∧ x ≤ 9223372036854775807) (ho : Out w base g cap out) (hbase : base ≤ w.heap.size) :
    Calls Try.prog 71 #[.slice (some ⟨g, 0, none⟩) out.length cap, .slice (some ⟨gn, 0, none⟩) ns.length ns.length] (w.alloc (.cells (ns.map (Value.int .i64)).toArray t)) fun e w' => Ext w w' base g (out ++ numsB ns) e := by
  subst hgn
  exact (putInts_any g cap base w.heap.size ns.length out ns (w.alloc (.cells (ns.map (Value.int .i64)).toArray t)) hn ho1 (Nat.le_refl _) hr (World.ownsRow.alloc ho _) (by rw [hsz]; omega) (out_ne ho) (new_lt w _) (new_cells w ns t)).mono fun e w' h => Ext.from (below1 w _) h
theorem kept {w w' : World} {g k : Nat} {x : Obj} (h : w.heap[k]? = some x) (gr : w.grownBy w' (some g)) (hne : k ≠ g) : w'.heap[k]? = some x := (gr.block k (Array.getElem?_eq_some_iff.1 h).1 (by simpa using hne)).trans h

set_option maxHeartbeats 800000 in
theorem putTextIf_any (g cap base : Nat) (out : List Int) (b : Bool) (s : ByteArray) (w : World) (ho1 : out.length ≤ 900000) (hs : s.size ≤ 1000) (ho : Out w base g cap out) (hbase : base ≤ w.heap.size) :
    Calls Try.prog 81 #[.slice (some ⟨g, 0, none⟩) out.length cap, .bool b, .string s] w fun e w' => Ext w w' base g (out ++ txtIf b s) e := by
  have HO := Seg.hid ho
  clear ho
  cases b with
  | false =>
    obtain ⟨l1, hl1⟩ : ∃ l1, out ++ txtIf false s = l1 := ⟨_, rfl⟩
    rw [hl1]
    have HL1 := Seg.hid hl1
    clear hl1
    go_enter Try.func81, Try.ntmps81
    go_wp2_with fail
    refine (ints_new g cap base out [-1] w 3 _ rfl (by decide) (by omega) (one_in (by omega)) HO.out hbase).mono ?_
    rintro e w1 hE
    rw [nums1] at hE
    have hE : Ext w w1 base g (out ++ txtIf false s) e := hE
    rw [HL1.out] at hE
    have HE := Seg.hid hE
    obtain ⟨⟨g1, cap1, rfl, o1, h1⟩, gr⟩ := hE
    clear o1 h1 gr
    go_wp2
    go_ret
    exact HE.out
  | true =>
    go_enter Try.func81, Try.ntmps81
    go_wp2_with fail
    refine (ints_new g cap base out [(s.size : Int)] w 3 _ rfl (by simp) (by omega) (one_in (by omega)) HO.out hbase).mono ?_
    rintro e w1 hE
    rw [nums1] at hE
    have hpl := WrP.put_le (s.size : Int) (by omega)
    obtain ⟨l1, hl1⟩ : ∃ l1, out ++ put (s.size : Int) = l1 := ⟨_, rfl⟩
    have hll : l1.length ≤ 900010 := by rw [← hl1, List.length_append]; omega
    have HL1 := Seg.hid hl1
    rw [hl1] at hE
    clear hl1
    obtain ⟨⟨g1, cap1, rfl, o1, h1⟩, gr⟩ := hE
    have O1 := Seg.hid o1; have G1 := Seg.hid gr; have A1 := Seg.hid h1
    have hz := gr.size
    clear o1 h1 gr
    go_wp2_with (at_builtin; refine appS rfl (.tmp 16) (.tmp 17) rfl base g1 cap1 l1 s ?hs ?ho ?hx ?hb ?hba ?_; (case hs => rfl); (case ho => exact O1.out); (case hx => rfl); (case hb => omega); (case hba => omega); intro g3 cap3 w3 o3 gr3 at3; have EX : Hid (Ext w w3 base g (out ++ txtIf true s) (.returned (.slice (some ⟨g3, 0, none⟩) (l1.length + s.size) cap3))) := Ext.more G1.out A1.out (by have h := o3; rw [← HL1.out, List.append_assoc] at h; exact h) gr3 at3 (by rw [← HL1.out]; simp [txtIf, txt_len, Nat.add_assoc]); clear o3 gr3 at3)
    go_ret
    exact EX.out

theorem heads_cells {w wr : World} {gh o n g base lo b : Nat} {hs : List Hd} (h : ∀ i, i < n → ∀ j, j < 2 → w.cell? ⟨gh, o + i * 2 + j, none⟩ = some (hdCells hs i j)) (gr : w.grownBy wr (some g)) (hne : gh ≠ g) :
    ∀ i, i < n → ∀ j, j < 2 → wr.cell? ⟨gh, o + i * 2 + j, none⟩ = some (hdCells hs i j) := fun i hi j hj => gr.cell (h i hi j hj) (by simpa using hne)

set_option maxHeartbeats 1600000 in
theorem putHeads_any (g cap base lo b : Nat) (out : List Int) (hv : Value) (hs : List Hd) (w : World) (ho1 : out.length ≤ 800000) (hl : hs.length ≤ 1000) (hk : hs.all ROk.okH = true) (hh : Heads w lo b hv hs) (hbb : b ≤ base) (ho : Out w base g cap out) (hbase : base ≤ w.heap.size) :
    Calls Try.prog 82 #[.slice (some ⟨g, 0, none⟩) out.length cap, hv] w fun e w' => Ext w w' base g (out ++ hds hs) e := by
  obtain ⟨hn, A, c, rfl, hrow⟩ := hh
  have HR := Seg.hid hrow; have HO := Seg.hid ho; have HK := Seg.hid hk
  have hgb := (out_lt ho).1
  have HBL := Seg.hid (hdsB_le hs hk)
  clear hrow ho hk
  go_enter Try.func82, Try.ntmps82
  go_wp2_with fail
  refine (ints_new g cap base out [(hs.length : Int)] w 3 _ rfl (by simp) (by omega) (one_in (by omega)) HO.out hbase).mono ?_
  rintro e w1 hE
  rw [nums1] at hE
  have hpl := WrP.put_le (hs.length : Int) (by omega)
  obtain ⟨l1, hl1⟩ : ∃ l1, out ++ put (hs.length : Int) = l1 := ⟨_, rfl⟩
  have hll : l1.length ≤ 800010 := by rw [← hl1, List.length_append]; omega
  have HT : Hid (out ++ hds hs = l1 ++ hdsB hs) := by show _ = _; rw [← hl1, hds, List.append_assoc]
  rw [hl1] at hE
  clear hl1
  have HE := Seg.hid hE
  obtain ⟨⟨g1, cap1, rfl, o1, h1⟩, gr⟩ := hE
  clear o1 h1 gr
  go_wp2
  go_loopw [0, 14] (fun v i wr => ∃ (k : Nat) (cur : List Int), i = .int .i64 k ∧ k ≤ hs.length ∧ Ext w wr base g cur (.returned v) ∧ Hid (cur ++ hdsB (hs.drop k) = l1 ++ hdsB hs)) (fun _ i _ => hs.length - (intOf i).toNat)
  case atStart => exact ⟨0, l1, rfl, Nat.zero_le _, HE.out, rfl⟩
  case round =>
    clear HE
    obtain ⟨k, cur, rfl, hle, hE, HQ⟩ := hrel
    obtain ⟨⟨g2, cap2, hv2, o2, h2⟩, gr2⟩ := hE
    simp only [Ending.returned.injEq] at hv2
    subst hv2
    have O2 := Seg.hid o2; have G2 := Seg.hid gr2; have A2 := Seg.hid h2
    have z2 := gr2.size
    have hcl : cur.length ≤ 1050000 := by
      have h1 := congrArg List.length HQ.out
      have h3 := HBL.out
      simp only [List.length_append] at h1
      omega
    clear o2 h2 gr2
    by_cases hlt : k < hs.length
    · obtain ⟨gh, o, rfl, hgh, hc, hcell, _⟩ := HR.out.resolve_left (by omega)
      obtain ⟨c0, c1⟩ := Heads.cell0 (heads_cells (lo := lo) (b := b) (base := base) hcell G2.out (by omega)) k hlt
      obtain ⟨hk1, hk2⟩ := okH_parts (List.all_eq_true.1 HK.out (hs.getD k default) (by simp [hlt]))
      have HQ' : Hid (cur ++ (hd (hs.getD k default) ++ hdsB (hs.drop (k + 1))) = l1 ++ hdsB hs) := by rw [← hdsB_at hlt]; exact HQ.out
      generalize hs.getD k default = hk at *
      have h0 : (0 : Int) ≤ (k : Int) := by omega
      have h1 : (k : Int) < (hs.length : Int) := by omega
      clear hcell
      obtain ⟨hvar, hve⟩ : ∃ o : Obj, o = .cells #[.string hk.key, .string hk.val] 90 (0, 0) := ⟨_, rfl⟩
      have hpl1 := WrP.put_le (hk.key.size : Int) (by omega)
      have hpl2 := WrP.put_le (hk.val.size : Int) (by omega)
      go_wp2_with fail
      refine (ints_new g2 cap2 base cur [(hk.key.size : Int), (hk.val.size : Int)] (wr.alloc _) 3 _ (hsz wr _) (by simp) (by omega) (two_in (by omega) (by omega)) (World.ownsRow.alloc O2.out _) (by rw [hsz]; omega)).mono ?_
      rintro e w3 hE
      rw [nums2] at hE
      obtain ⟨l3, hl3⟩ : ∃ l3, cur ++ (put (hk.key.size : Int) ++ put (hk.val.size : Int)) = l3 := ⟨_, rfl⟩
      have hl3l : l3.length ≤ 1050020 := by rw [← hl3]; simp only [List.length_append]; omega
      rw [hl3] at hE
      have HL3 := Seg.hid hl3
      obtain ⟨⟨g3, cap3, rfl, o3, h3⟩, gr3⟩ := hE
      have O3 := Seg.hid o3
      have z3 := gr3.size
      rw [hsz] at h3 z3
      have n2 := out_ne O2.out
      have n3 : wr.heap.size ≠ g3 := by omega
      have V3 := Seg.hid (kept (heap_alloc_new wr _) gr3 n2)
      have G3 : Hid (wr.grownBy w3 (some g2)) := (World.grownBy_alloc _ _ _).trans gr3
      have H3 : Hid (g3 = g2 ∨ wr.heap.size ≤ g3) := (by omega : g3 = g2 ∨ wr.heap.size ≤ g3)
      have d0 : w3.cell? ⟨wr.heap.size, 0, none⟩ = some (.string hk.key) := cell_of_row w3 _ 0 _ _ (0, 0) V3.out
      clear o3 gr3 hl3 hve
      go_wp2_with (first | (at_builtin; refine appS rfl (.tmp 27) (.tmp 29) rfl base g3 cap3 l3 hk.key ?hs ?ho ?hx ?hb ?hba ?_; (case hs => rfl); (case ho => exact O3.out); (case hx => rfl); (case hb => omega); (case hba => omega); intro g4 cap4 w4 o4 gr4 at4; have O4 := Seg.hid o4; have G4 := Seg.hid (grow G3.out gr4 H3.out); have A4 : Hid (g4 = g2 ∨ wr.heap.size ≤ g4) := (by have := H3.out; omega : g4 = g2 ∨ wr.heap.size ≤ g4); have z4 := gr4.size; have n4 : wr.heap.size ≠ g4 := (by omega); have V4 := Seg.hid (kept V3.out gr4 n3); have d1 : w4.cell? ⟨wr.heap.size, 1, none⟩ = some (.string hk.val) := (cell_of_row w4 _ 1 _ _ (0, 0) V4.out); clear o4 gr4 at4) | (at_builtin; refine appS rfl (.tmp 31) (.tmp 33) rfl base g4 cap4 (l3 ++ txt hk.key) hk.val ?hs ?ho ?hx ?hb ?hba ?_; (case hs => rw [List.length_append, txt_len]; rfl); (case ho => exact O4.out); (case hx => rfl); (case hb => rw [List.length_append, txt_len]; omega); (case hba => omega); intro g5 cap5 w5 o5 gr5 at5; have E5 : Hid (Ext wr w5 base g2 (l3 ++ txt hk.key ++ txt hk.val) (.returned (.slice (some ⟨g5, 0, none⟩) (l3.length + (txt hk.key).length + hk.val.size) cap5))) := Ext.more G4.out A4.out o5 gr5 at5 (by simp only [List.length_append, txt_len]); clear o5 gr5 at5))
      go_roundw
      case rel =>
        refine ⟨k + 1, l3 ++ txt hk.key ++ txt hk.val, by go_num, by omega, Ext.then G2.out A2.out E5.out, ?_⟩
        show _ = _
        rw [← HQ'.out, ← HL3.out, hd]
        simp only [List.append_assoc]
      case measure => simp [intOf]; omega
    · obtain rfl : k = hs.length := by omega
      have HE : Hid (cur = out ++ hds hs) := by
        have := HQ.out
        rw [List.drop_length, hdsB, List.append_nil] at this
        rw [this]
        exact HT.out.symm
      go_wp2
      go_ret
      exact ⟨⟨g2, cap2, by rw [← HE.out]; rfl, HE.out ▸ O2.out, A2.out⟩, G2.out⟩
end Go.Proofs.Ytojalklkpnaofaa.PuT
namespace Go.Proofs.Ytojalklkpnaofaa.WrB
set_option maxRecDepth 8000
open Go.RowKit
open Seg (B)
open SqP (Out grow)
open Nums (put)
open PuI (Ext below_grown out_below out_lt)
open PuT (ints_new kept one_in nums1 putTextIf_any putHeads_any)
open WrP
open Recs (Hd Rec Heads RecsAt below1 hsz recCells)
set_option linter.unusedVariables false

/-- A round's variable lies at the old end of memory; what is out is this. -/
structure Mid (wr w : World) (base g1 : Nat) (X : Obj) (cur : List Int) (g2 cap2 : Nat) : Prop where
  out : Out w base g2 cap2 cur
  at_ : g2 = g1 ∨ wr.heap.size + 1 ≤ g2
  lt : g1 < wr.heap.size
  gr : (wr.alloc X).grownBy w (some g1)
  var : w.heap[wr.heap.size]? = some X
theorem Mid.start {wr : World} {base g1 cap1 : Nat} {X : Obj} {cur : List Int} (h : Out wr base g1 cap1 cur) : Mid wr (wr.alloc X) base g1 X cur g1 cap1 :=
  ⟨World.ownsRow.alloc h _, .inl rfl, (out_lt h).2, World.grownBy.refl _ _, heap_alloc_new _ _⟩
theorem Mid.step {wr w w' : World} {base g1 g2 cap2 : Nat} {X : Obj} {cur l : List Int} {e : Ending} (h : Mid wr w base g1 X cur g2 cap2) (E : Ext w w' base g2 l e) :
    ∃ g3 cap3, e = .returned (.slice (some ⟨g3, 0, none⟩) l.length cap3) ∧ Mid wr w' base g1 X l g3 cap3 := by
  obtain ⟨⟨g3, cap3, rfl, o3, h3⟩, gr3⟩ := E
  have s1 := h.gr.size
  rw [hsz] at s1
  have a := h.at_; have b := h.lt
  refine ⟨g3, cap3, rfl, o3, by omega, b, ?_, kept h.var gr3 (by omega)⟩
  exact grow h.gr gr3 (by rw [hsz]; omega)
theorem Mid.size {wr w : World} {base g1 g2 cap2 : Nat} {X : Obj} {cur : List Int} (h : Mid wr w base g1 X cur g2 cap2) : wr.heap.size < w.heap.size := by
  have := h.gr.size
  rw [hsz] at this
  omega
theorem Mid.below {w0 wr w : World} {base g1 g2 cap2 : Nat} {X : Obj} {cur : List Int} (h : Mid wr w base g1 X cur g2 cap2) (hb : Below base w0 wr) (hg : base ≤ g1) : Below base w0 w := by
  have := h.lt
  exact (hb.alloc (by omega) _).grown h.gr (by rw [hsz]; omega) (fun k hk => by cases hk; exact hg)

/-- Where the body stands: what is out, the records from the k-th on are still to be put. -/
structure AtB (w wr : World) (ver : Int) (rs : List Rec) (k : Nat) (tm : Int) (v : Value) (cur : List Int) : Prop where
  le : k ≤ rs.length
  tl : 0 ≤ tm ∧ tm ≤ 1000000000000
  ou : ∃ g cap, v = .slice (some ⟨g, 0, none⟩) cur.length cap ∧ Out wr w.heap.size g cap cur
  eq : cur ++ recs ver tm (rs.drop k) = body ver rs
  bl : Below w.heap.size w wr
theorem AtB.next {w wr w' : World} {ver tm : Int} {rs : List Rec} {k g1 g2 cap2 : Nat} {v : Value} {cur : List Int} {X : Obj} {r : Rec} (h : AtB w wr ver rs k tm v cur) (hk : k < rs.length) (hr : rs.getD k default = r) (hok : ROk.okR r = true)
    (hb : w.heap.size ≤ g1) (M : Mid wr w' w.heap.size g1 X (cur ++ rec1 ver tm r) g2 cap2) {n : Nat} (hn : n = (cur ++ rec1 ver tm r).length) : AtB w w' ver rs (k + 1) r.time (.slice (some ⟨g2, 0, none⟩) n cap2) (cur ++ rec1 ver tm r) := by
  obtain ⟨t1, t2, _⟩ := okR_parts hok
  refine ⟨hk, ⟨t1, t2⟩, ⟨g2, cap2, by rw [hn], M.out⟩, ?_, M.below h.bl hb⟩
  rw [← h.eq, recs_at ver tm hk, hr, List.append_assoc]
theorem AtB.len {w wr : World} {ver tm : Int} {rs : List Rec} {k : Nat} {v : Value} {cur : List Int} (h : AtB w wr ver rs k tm v cur) (ha : rs.all ROk.okR = true) (hl : rs.length ≤ 40) : cur.length ≤ 37000 := by
  have h1 := congrArg List.length h.eq
  have h2 := body_le ver rs ha hl
  rw [List.length_append] at h1
  omega
theorem all_at {rs : List Rec} {i : Nat} (hi : i < rs.length) (h : rs.all ROk.okR = true) : ROk.okR (rs.getD i default) = true := by
  rw [List.all_eq_true] at h
  have := h rs[i] (List.getElem_mem hi)
  simpa [hi] using this

/-- The six cells of a record's variable. -/
theorem six_of {w : World} {x tp : Nat} {t : Int} {kd : Bool} {k : ByteArray} {gn : Bool} {v : ByteArray} {hv : Value} (h : w.heap[x]? = some (.cells #[.int .i64 t, .bool kd, .string k, .bool gn, .string v, hv] tp (0, 0))) :
    w.cell? ⟨x, 0, none⟩ = some (.int .i64 t) ∧ w.cell? ⟨x, 1, none⟩ = some (.bool kd) ∧ w.cell? ⟨x, 2, none⟩ = some (.string k) ∧ w.cell? ⟨x, 3, none⟩ = some (.bool gn) ∧ w.cell? ⟨x, 4, none⟩ = some (.string v) ∧ w.cell? ⟨x, 5, none⟩ = some hv :=
  ⟨cell_of_row w _ 0 _ _ (0, 0) h, cell_of_row w _ 1 _ _ (0, 0) h, cell_of_row w _ 2 _ _ (0, 0) h, cell_of_row w _ 3 _ _ (0, 0) h, cell_of_row w _ 4 _ _ (0, 0) h, cell_of_row w _ 5 _ _ (0, 0) h⟩

set_option maxHeartbeats 3200000 in
theorem writeBody_any (v : Value) (rs : List Rec) (ver : Int) (w : World) (lo b : Nat) (hv : RecsAt w lo b v rs) (hb : b ≤ w.heap.size) (hl : rs.length ≤ 40) (ha : rs.all ROk.okR = true) :
    Calls Try.prog 69 #[v, .int .i64 ver] w fun e w' => ∃ g cap, e = .returned (.slice (some ⟨g, 0, none⟩) (body ver rs).length cap) ∧ Out w' w.heap.size g cap (body ver rs) ∧ Below w.heap.size w w' := by
  obtain ⟨H, ⟨hn, A, c, rfl, hrow⟩, hh⟩ := hv
  have HR := Seg.hid hrow; have HA := Seg.hid ha; have HH := Seg.hid hh
  clear hrow ha hh
  go_enter Try.func69, Try.ntmps69
  go_wp2_with fail
  refine (ints_new w.heap.size 0 w.heap.size [] [(rs.length : Int)] (w.alloc _) 3 _ (hsz w _) (by simp) (by simp) (one_in (by omega)) (World.ownsRow_lit w #[] 0 (Nat.le_refl _) (Nat.zero_le _) rfl) (by rw [hsz]; omega)).mono ?_
  rintro e w1 hE
  rw [nums1, List.nil_append] at hE
  obtain ⟨l1, hl1⟩ : ∃ l1, put (rs.length : Int) = l1 := ⟨_, rfl⟩
  have HL1 := Seg.hid hl1
  rw [hl1] at hE
  clear hl1
  obtain ⟨⟨g1, cap1, rfl, o1, h1⟩, gr1⟩ := hE
  have A0 : Hid (AtB w w1 ver rs 0 0 (.slice (some ⟨g1, 0, none⟩) l1.length cap1) l1) := ⟨Nat.zero_le _, ⟨by decide, by decide⟩, ⟨g1, cap1, rfl, o1⟩, (by rw [← HL1.out]; rfl), (below1 w _).grown gr1 (by rw [hsz]; omega) (fun k hk => by cases hk; exact Nat.le_refl _)⟩
  clear o1 h1 gr1
  go_wp2
  go_loopw [5, 6, 16] (fun v t i wr => ∃ (k : Nat) (tm : Int) (cur : List Int), i = .int .i64 k ∧ t = .int .i64 tm ∧ AtB w wr ver rs k tm v cur) (fun _ _ i _ => rs.length - (intOf i).toNat)
  case atStart => exact ⟨0, 0, l1, rfl, rfl, A0.out⟩
  case round =>
    clear A0
    obtain ⟨k, tm, cur, rfl, rfl, P⟩ := hrel
    have HP := Seg.hid P
    have hcl := P.len HA.out hl
    have hle := P.le
    obtain ⟨tl0, tl1⟩ := P.tl
    obtain ⟨g2, cap2, rfl, o2⟩ := P.ou
    have O2 := Seg.hid o2
    have hg2 := (out_lt o2).1
    have hbl := P.bl.size
    clear P o2
    by_cases hlt : k < rs.length
    · obtain ⟨gr, o, rfl, hgr, hc, hcell, _⟩ := HR.out.resolve_left (by omega)
      obtain ⟨c0, c1, c2, c3, c4, c5⟩ := RecsW.six (RecsW.six' hcell HP.out.bl (by omega)) k hlt
      have HHk := Seg.hid (HH.out k hlt)
      obtain ⟨_, Ah, ch, hHe, _⟩ := HH.out k hlt
      rw [hHe] at c5 HHk
      have OK := Seg.hid (all_at hlt HA.out)
      obtain ⟨r, hr⟩ : ∃ r, rs.getD k default = r := ⟨_, rfl⟩
      have HRk := Seg.hid hr
      rw [hr] at c0 c1 c2 c3 c4 c5 HHk OK
      obtain ⟨q1, q2, q3, q4, q5, q6⟩ := okR_parts OK.out
      have Q6 := Seg.hid q6
      have h0 : (0 : Int) ≤ (k : Int) := by omega
      have h1 : (k : Int) < (rs.length : Int) := by omega
      clear hcell hr hHe q6
      have d1 := WrP.put_le (r.time - tm) (by omega)
      have d2 := WrP.txtIf_le r.keyed r.key q3
      have d3 := WrP.txtIf_le (!r.gone) r.val q4
      go_wp2_with fail
      refine (ints_new g2 cap2 w.heap.size cur [r.time - tm] (wr.alloc _) 3 _ (hsz wr _) (by simp) (by omega) (one_in (by omega)) (World.ownsRow.alloc O2.out _) (by rw [hsz]; omega)).mono ?_
      rintro e w3 hE
      rw [nums1] at hE
      obtain ⟨l3, hl3⟩ : ∃ l3, cur ++ put (r.time - tm) = l3 := ⟨_, rfl⟩
      have hl3l : l3.length ≤ 38000 := by rw [← hl3, List.length_append]; omega
      rw [hl3] at hE
      have HL3 := Seg.hid hl3
      obtain ⟨g3, cap3, rfl, m3⟩ := (Mid.start O2.out).step hE
      have M3 := Seg.hid m3
      have s3 := m3.size
      obtain ⟨e0, e1, e2, e3, e4, e5⟩ := six_of m3.var
      clear m3 hE hl3
      go_wp2_with fail
      refine (putTextIf_any g3 cap3 w.heap.size l3 r.keyed r.key w3 (by omega) (by omega) M3.out.out (by omega)).mono ?_
      rintro e w4 hE
      obtain ⟨l4, hl4⟩ : ∃ l4, l3 ++ txtIf r.keyed r.key = l4 := ⟨_, rfl⟩
      have hl4l : l4.length ≤ 38200 := by rw [← hl4, List.length_append]; omega
      rw [hl4] at hE
      have HL4 := Seg.hid hl4
      obtain ⟨g4, cap4, rfl, m4⟩ := M3.out.step hE
      have M4 := Seg.hid m4
      have s4 := m4.size
      clear e0 e1 e2 e3 e4 e5
      obtain ⟨e0, e1, e2, e3, e4, e5⟩ := six_of m4.var
      clear m4 hE hl4
      go_wp2_with fail
      refine (putTextIf_any g4 cap4 w.heap.size l4 (!r.gone) r.val w4 (by omega) (by omega) M4.out.out (by omega)).mono ?_
      rintro e w5 hE
      obtain ⟨l5, hl5⟩ : ∃ l5, l4 ++ txtIf (!r.gone) r.val = l5 := ⟨_, rfl⟩
      have hl5l : l5.length ≤ 38400 := by rw [← hl5, List.length_append]; omega
      rw [hl5] at hE
      have HL5 := Seg.hid hl5
      obtain ⟨g5, cap5, rfl, m5⟩ := M4.out.step hE
      have M5 := Seg.hid m5
      have s5 := m5.size
      clear e0 e1 e2 e3 e4 e5
      obtain ⟨e0, e1, e2, e3, e4, e5⟩ := six_of m5.var
      clear m5 hE hl5
      by_cases hv2 : ver = 2
      · have ht2 : (ver == 2) = true := by simp [hv2]
        have HF : Hid (l5 ++ hds r.heads = cur ++ rec1 ver tm r) := by
          show _ = _
          rw [← HL5.out, ← HL4.out, ← HL3.out, rec1, hdsV, if_pos hv2]
          simp only [List.append_assoc]
        clear hv2
        go_wp2_with fail
        refine (putHeads_any g5 cap5 w.heap.size lo b l5 _ r.heads w5 (by omega) (by omega) Q6.out (HHk.out.below ((M5.out.below HP.out.bl hg2).mono hb)) hb M5.out.out (by omega)).mono ?_
        rintro e w6 hE
        rw [HF.out] at hE
        obtain ⟨g6, cap6, rfl, m6⟩ := M5.out.step hE
        have N6 := Seg.hid (fun n hn => AtB.next (n := n) HP.out hlt HRk.out OK.out hg2 m6 hn)
        clear m6 hE
        go_wp2
        go_roundw
        case rel => exact ⟨k + 1, r.time, _, by go_num, rfl, N6.out _ (by simp)⟩
        case measure => simp [intOf]; omega
      · have ht2 : (ver == 2) = false := by simp [hv2]
        have HF : Hid (l5 = cur ++ rec1 ver tm r) := by
          show _ = _
          rw [← HL5.out, ← HL4.out, ← HL3.out, rec1, hdsV, if_neg hv2]
          simp only [List.append_assoc, List.append_nil]
        clear hv2
        have N6 : Hid (AtB w w5 ver rs (k + 1) r.time (.slice (some ⟨g5, 0, none⟩) l5.length cap5) (cur ++ rec1 ver tm r)) := AtB.next HP.out hlt HRk.out OK.out hg2 (HF.out ▸ M5.out) (by rw [HF.out])
        go_wp2
        go_roundw
        case rel => exact ⟨k + 1, r.time, _, by go_num, rfl, N6.out⟩
        case measure => simp [intOf]; omega
    · obtain rfl : k = rs.length := by omega
      have HE : Hid (cur = body ver rs) := by
        have := HP.out.eq
        rw [List.drop_length, recs, List.append_nil] at this
        exact this
      go_wp2
      go_ret
      exact ⟨g2, cap2, by rw [← HE.out]; rfl, HE.out ▸ O2.out, HP.out.bl⟩
end Go.Proofs.Ytojalklkpnaofaa.WrB
