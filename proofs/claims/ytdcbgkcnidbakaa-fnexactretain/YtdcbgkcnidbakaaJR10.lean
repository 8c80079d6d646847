/- putTextIf and putHeads of the program; What the law's helpers over a list of Records answer. -/
import Derived.Test.YtdcbgkcnidbakaaJR09
import Derived.Test.YtdcbgkcnidbakaaJR06
namespace Go.Proofs.Ytdcbgkcnidbakaa.PuT
set_option maxRecDepth 8000
open Go.RowKit
open Seg (B)
open SqP (Out grow)
open Nums (put)
open PuI (Ext below_grown out_below out_lt putInts_any)
open AppS (appS)
open WrP
open Recs (Hd Rec Heads below1 hsz hdCells)
set_option linter.unusedVariables false

theorem Ext.from {w w1 w' : World} {base g : Nat} {l : List Int} {e : Ending} (hb : Below w.heap.size w w1) (h : Ext w1 w' base g l e) : Ext w w' base g l e := by
  obtain ⟨⟨g', c', h1, h2, h3⟩, h4⟩ := h
  have := hb.size
  exact ⟨⟨g', c', h1, h2, by omega⟩, (below_grown hb _).trans h4⟩
theorem Ext.then {w w1 w2 : World} {base g g1 : Nat} {l : List Int} {e : Ending} (gr : w.grownBy w1 (some g)) (h1 : g1 = g ∨ w.heap.size ≤ g1) (h : Ext w1 w2 base g1 l e) : Ext w w2 base g l e := by
  obtain ⟨⟨g', c', a1, a2, a3⟩, a4⟩ := h
  have := gr.size
  exact ⟨⟨g', c', a1, a2, by omega⟩, grow gr a4 h1⟩
/-- One thing more is put. -/
theorem Ext.more {w w1 w2 : World} {base g g1 g2 cap2 n : Nat} {l : List Int} (gr : w.grownBy w1 (some g)) (h1 : g1 = g ∨ w.heap.size ≤ g1) (o2 : Out w2 base g2 cap2 l) (gr2 : w1.grownBy w2 (some g1)) (h2 : g2 = g1 ∨ g2 = w1.heap.size) (hn : n = l.length) :
    Ext w w2 base g l (.returned (.slice (some ⟨g2, 0, none⟩) n cap2)) := by
  have := gr.size
  exact ⟨⟨g2, cap2, by rw [hn], o2, by omega⟩, grow gr gr2 h1⟩
/-- A new row of numbers. -/
theorem new_cells (w : World) (ns : List Int) (t : TypeId) : ∀ j, j < ns.length → (w.alloc (.cells (ns.map (Value.int .i64)).toArray t)).cell? ⟨w.heap.size, j, none⟩ = some (.int .i64 (ns.getD j 0)) := fun j hj => by
  rw [cell_of_row _ _ j _ _ _ (heap_alloc_new _ _)]
  simp [hj]
theorem new_lt (w : World) (o : Obj) : w.heap.size < (w.alloc o).heap.size := by rw [hsz]; omega
theorem out_ne {w : World} {base g cap : Nat} {l : List Int} (h : Out w base g cap l) : w.heap.size ≠ g := by have := (out_lt h).2; omega
theorem one_in {x : Int} (h : -9223372036854775808 ≤ x ∧ x ≤ 9223372036854775807) : ∀ y ∈ [x], -9223372036854775808 ≤ y ∧ y ≤ 9223372036854775807 := fun y hy => by simp at hy; subst hy; exact h
theorem two_in {x z : Int} (h : -9223372036854775808 ≤ x ∧ x ≤ 9223372036854775807) (h' : -9223372036854775808 ≤ z ∧ z ≤ 9223372036854775807) : ∀ y ∈ [x, z], -9223372036854775808 ≤ y ∧ y ≤ 9223372036854775807 := fun y hy => by
  simp at hy
  rcases hy with rfl | rfl
  · exact h
  · exact h'
theorem nums1 (x : Int) : numsB [x] = put x := by simp [numsB]
theorem nums2 (x y : Int) : numsB [x, y] = put x ++ put y := by simp [numsB]

/-- putInts with a new list, as the walk meets it. -/
theorem ints_new (g cap base : Nat) (out ns : List Int) (w : World) (t : TypeId) (gn : Nat) (hgn : w.heap.size = gn) (hn : ns.length ≤ 100) (ho1 : out.length ≤ 5000000) (hr : ∀ x ∈ ns, -9223372036854775808 ≤ x ∧ x ≤ 9223372036854775807) (ho : Out w base g cap out) (hbase : base ≤ w.heap.size) :
    Calls Try.prog 79 #[.slice (some ⟨g, 0, none⟩) out.length cap, .slice (some ⟨gn, 0, none⟩) ns.length ns.length] (w.alloc (.cells (ns.map (Value.int .i64)).toArray t)) fun e w' => Ext w w' base g (out ++ numsB ns) e := by
  subst hgn
  exact (putInts_any g cap base w.heap.size ns.length out ns (w.alloc (.cells (ns.map (Value.int .i64)).toArray t)) hn ho1 (Nat.le_refl _) hr (World.ownsRow.alloc ho _) (by rw [hsz]; omega) (out_ne ho) (new_lt w _) (new_cells w ns t)).mono fun e w' h => Ext.from (below1 w _) h
theorem kept {w w' : World} {g k : Nat} {x : Obj} (h : w.heap[k]? = some x) (gr : w.grownBy w' (some g)) (hne : k ≠ g) : w'.heap[k]? = some x := (gr.block k (Array.getElem?_eq_some_iff.1 h).1 (by simpa using hne)).trans h

set_option maxHeartbeats 800000 in
theorem putTextIf_any (g cap base : Nat) (out : List Int) (b : Bool) (s : ByteArray) (w : World) (ho1 : out.length ≤ 900000) (hs : s.size ≤ 1000) (ho : Out w base g cap out) (hbase : base ≤ w.heap.size) :
    Calls Try.prog 84 #[.slice (some ⟨g, 0, none⟩) out.length cap, .bool b, .string s] w fun e w' => Ext w w' base g (out ++ txtIf b s) e := by
  have HO := Seg.hid ho
  clear ho
  cases b with
  | false =>
    obtain ⟨l1, hl1⟩ : ∃ l1, out ++ txtIf false s = l1 := ⟨_, rfl⟩
    rw [hl1]
    have HL1 := Seg.hid hl1
    clear hl1
    go_enter Try.func84, Try.ntmps84
    go_wp2_with fail
    refine (ints_new g cap base out [-1] w 3 _ rfl (by decide) (by omega) (one_in (by omega)) HO.out hbase).mono ?_
    rintro e w1 hE
    rw [nums1] at hE
    have hE : Ext w w1 base g (out ++ txtIf false s) e := hE
    rw [HL1.out] at hE
    have HE := Seg.hid hE
    obtain ⟨⟨g1, cap1, rfl, o1, h1⟩, gr⟩ := hE
    clear o1 h1 gr
    go_wp2
    go_ret
    exact HE.out
  | true =>
    go_enter Try.func84, Try.ntmps84
    go_wp2_with fail
    refine (ints_new g cap base out [(s.size : Int)] w 3 _ rfl (by simp) (by omega) (one_in (by omega)) HO.out hbase).mono ?_
    rintro e w1 hE
    rw [nums1] at hE
    have hpl := WrP.put_le (s.size : Int) (by omega)
    obtain ⟨l1, hl1⟩ : ∃ l1, out ++ put (s.size : Int) = l1 := ⟨_, rfl⟩
    have hll : l1.length ≤ 900010 := by rw [← hl1, List.length_append]; omega
    have HL1 := Seg.hid hl1
    rw [hl1] at hE
    clear hl1
    obtain ⟨⟨g1, cap1, rfl, o1, h1⟩, gr⟩ := hE
    have O1 := Seg.hid o1; have G1 := Seg.hid gr; have A1 := Seg.hid h1
    have hz := gr.size
    clear o1 h1 gr
    go_wp2_with (at_builtin; refine appS rfl (.tmp 16) (.tmp 17) rfl base g1 cap1 l1 s ?hs ?ho ?hx ?hb ?hba ?_; (case hs => rfl); (case ho => exact O1.out); (case hx => rfl); (case hb => omega); (case hba => omega); intro g3 cap3 w3 o3 gr3 at3; have EX : Hid (Ext w w3 base g (out ++ txtIf true s) (.returned (.slice (some ⟨g3, 0, none⟩) (l1.length + s.size) cap3))) := Ext.more G1.out A1.out (by have h := o3; rw [← HL1.out, List.append_assoc] at h; exact h) gr3 at3 (by rw [← HL1.out]; simp [txtIf, txt_len, Nat.add_assoc]); clear o3 gr3 at3)
    go_ret
    exact EX.out

theorem heads_cells {w wr : World} {gh o n g base lo b : Nat} {hs : List Hd} (h : ∀ i, i < n → ∀ j, j < 2 → w.cell? ⟨gh, o + i * 2 + j, none⟩ = some (hdCells hs i j)) (gr : w.grownBy wr (some g)) (hne : gh ≠ g) :
    ∀ i, i < n → ∀ j, j < 2 → wr.cell? ⟨gh, o + i * 2 + j, none⟩ = some (hdCells hs i j) := fun i hi j hj => gr.cell (h i hi j hj) (by simpa using hne)

set_option maxHeartbeats 1600000 in
theorem putHeads_any (g cap base lo b : Nat) (out : List Int) (hv : Value) (hs : List Hd) (w : World) (ho1 : out.length ≤ 800000) (hl : hs.length ≤ 1000) (hk : hs.all ROk.okH = true) (hh : Heads w lo b hv hs) (hbb : b ≤ base) (ho : Out w base g cap out) (hbase : base ≤ w.heap.size) :
    Calls Try.prog 85 #[.slice (some ⟨g, 0, none⟩) out.length cap, hv] w fun e w' => Ext w w' base g (out ++ hds hs) e := by
  obtain ⟨hn, A, c, rfl, hrow⟩ := hh
  have HR := Seg.hid hrow; have HO := Seg.hid ho; have HK := Seg.hid hk
  have hgb := (out_lt ho).1
  have HBL := Seg.hid (hdsB_le hs hk)
  clear hrow ho hk
  go_enter Try.func85, Try.ntmps85
  go_wp2_with fail
  refine (ints_new g cap base out [(hs.length : Int)] w 3 _ rfl (by simp) (by omega) (one_in (by omega)) HO.out hbase).mono ?_
  rintro e w1 hE
  rw [nums1] at hE
  have hpl := WrP.put_le (hs.length : Int) (by omega)
  obtain ⟨l1, hl1⟩ : ∃ l1, out ++ put (hs.length : Int) = l1 := ⟨_, rfl⟩
  have hll : l1.length ≤ 800010 := by rw [← hl1, List.length_append]; omega
  have HT : Hid (out ++ hds hs = l1 ++ hdsB hs) := by show _ = _; rw [← hl1, hds, List.append_assoc]
  rw [hl1] at hE
  clear hl1
  have HE := Seg.hid hE
  obtain ⟨⟨g1, cap1, rfl, o1, h1⟩, gr⟩ := hE
  clear o1 h1 gr
  go_wp2
  go_loopw [0, 14] (fun v i wr => ∃ (k : Nat) (cur : List Int), i = .int .i64 k ∧ k ≤ hs.length ∧ Ext w wr base g cur (.returned v) ∧ Hid (cur ++ hdsB (hs.drop k) = l1 ++ hdsB hs)) (fun _ i _ => hs.length - (intOf i).toNat)
  case atStart => exact ⟨0, l1, rfl, Nat.zero_le _, HE.out, rfl⟩
  case round =>
    clear HE
    obtain ⟨k, cur, rfl, hle, hE, HQ⟩ := hrel
    obtain ⟨⟨g2, cap2, hv2, o2, h2⟩, gr2⟩ := hE
    simp only [Ending.returned.injEq] at hv2
    subst hv2
    have O2 := Seg.hid o2; have G2 := Seg.hid gr2; have A2 := Seg.hid h2
    have z2 := gr2.size
    have hcl : cur.length ≤ 1050000 := by
      have h1 := congrArg List.length HQ.out
      have h3 := HBL.out
      simp only [List.length_append] at h1
      omega
    clear o2 h2 gr2
    by_cases hlt : k < hs.length
    · obtain ⟨gh, o, rfl, hgh, hc, hcell, _⟩ := HR.out.resolve_left (by omega)
      obtain ⟨c0, c1⟩ := Heads.cell0 (heads_cells (lo := lo) (b := b) (base := base) hcell G2.out (by omega)) k hlt
      obtain ⟨hk1, hk2⟩ := okH_parts (List.all_eq_true.1 HK.out (hs.getD k default) (by simp [hlt]))
      have HQ' : Hid (cur ++ (hd (hs.getD k default) ++ hdsB (hs.drop (k + 1))) = l1 ++ hdsB hs) := by rw [← hdsB_at hlt]; exact HQ.out
      generalize hs.getD k default = hk at *
      have h0 : (0 : Int) ≤ (k : Int) := by omega
      have h1 : (k : Int) < (hs.length : Int) := by omega
      clear hcell
      obtain ⟨hvar, hve⟩ : ∃ o : Obj, o = .cells #[.string hk.key, .string hk.val] 83 (0, 0) := ⟨_, rfl⟩
      have hpl1 := WrP.put_le (hk.key.size : Int) (by omega)
      have hpl2 := WrP.put_le (hk.val.size : Int) (by omega)
      go_wp2_with fail
      refine (ints_new g2 cap2 base cur [(hk.key.size : Int), (hk.val.size : Int)] (wr.alloc _) 3 _ (hsz wr _) (by simp) (by omega) (two_in (by omega) (by omega)) (World.ownsRow.alloc O2.out _) (by rw [hsz]; omega)).mono ?_
      rintro e w3 hE
      rw [nums2] at hE
      obtain ⟨l3, hl3⟩ : ∃ l3, cur ++ (put (hk.key.size : Int) ++ put (hk.val.size : Int)) = l3 := ⟨_, rfl⟩
      have hl3l : l3.length ≤ 1050020 := by rw [← hl3]; simp only [List.length_append]; omega
      rw [hl3] at hE
      have HL3 := Seg.hid hl3
      obtain ⟨⟨g3, cap3, rfl, o3, h3⟩, gr3⟩ := hE
      have O3 := Seg.hid o3
      have z3 := gr3.size
      rw [hsz] at h3 z3
      have n2 := out_ne O2.out
      have n3 : wr.heap.size ≠ g3 := by omega
      have V3 := Seg.hid (kept (heap_alloc_new wr _) gr3 n2)
      have G3 : Hid (wr.grownBy w3 (some g2)) := (World.grownBy_alloc _ _ _).trans gr3
      have H3 : Hid (g3 = g2 ∨ wr.heap.size ≤ g3) := (by omega : g3 = g2 ∨ wr.heap.size ≤ g3)
      have d0 : w3.cell? ⟨wr.heap.size, 0, none⟩ = some (.string hk.key) := cell_of_row w3 _ 0 _ _ (0, 0) V3.out
      clear o3 gr3 hl3 hve
      go_wp2_with (first | (at_builtin; refine appS rfl (.tmp 27) (.tmp 29) rfl base g3 cap3 l3 hk.key ?hs ?ho ?hx ?hb ?hba ?_; (case hs => rfl); (case ho => exact O3.out); (case hx => rfl); (case hb => omega); (case hba => omega); intro g4 cap4 w4 o4 gr4 at4; have O4 := Seg.hid o4; have G4 := Seg.hid (grow G3.out gr4 H3.out); have A4 : Hid (g4 = g2 ∨ wr.heap.size ≤ g4) := (by have := H3.out; omega : g4 = g2 ∨ wr.heap.size ≤ g4); have z4 := gr4.size; have n4 : wr.heap.size ≠ g4 := (by omega); have V4 := Seg.hid (kept V3.out gr4 n3); have d1 : w4.cell? ⟨wr.heap.size, 1, none⟩ = some (.string hk.val) := (cell_of_row w4 _ 1 _ _ (0, 0) V4.out); clear o4 gr4 at4) | (at_builtin; refine appS rfl (.tmp 31) (.tmp 33) rfl base g4 cap4 (l3 ++ txt hk.key) hk.val ?hs ?ho ?hx ?hb ?hba ?_; (case hs => rw [List.length_append, txt_len]; rfl); (case ho => exact O4.out); (case hx => rfl); (case hb => rw [List.length_append, txt_len]; omega); (case hba => omega); intro g5 cap5 w5 o5 gr5 at5; have E5 : Hid (Ext wr w5 base g2 (l3 ++ txt hk.key ++ txt hk.val) (.returned (.slice (some ⟨g5, 0, none⟩) (l3.length + (txt hk.key).length + hk.val.size) cap5))) := Ext.more G4.out A4.out o5 gr5 at5 (by simp only [List.length_append, txt_len]); clear o5 gr5 at5))
      go_roundw
      case rel =>
        refine ⟨k + 1, l3 ++ txt hk.key ++ txt hk.val, by go_num, by omega, Ext.then G2.out A2.out E5.out, ?_⟩
        show _ = _
        rw [← HQ'.out, ← HL3.out, hd]
        simp only [List.append_assoc]
      case measure => simp [intOf]; omega
    · obtain rfl : k = hs.length := by omega
      have HE : Hid (cur = out ++ hds hs) := by
        have := HQ.out
        rw [List.drop_length, hdsB, List.append_nil] at this
        rw [this]
        exact HT.out.symm
      go_wp2
      go_ret
      exact ⟨⟨g2, cap2, by rw [← HE.out]; rfl, HE.out ▸ O2.out, A2.out⟩, G2.out⟩
end Go.Proofs.Ytdcbgkcnidbakaa.PuT
namespace Go.Proofs.Ytdcbgkcnidbakaa.RecsW
set_option maxRecDepth 8000
open Go.RowKit
open Recs
set_option linter.unusedVariables false

/-- The six cells of element i. -/
theorem six {w : World} {g o n : Nat} {rs : List Rec} {H : Nat → Value} (h : ∀ i, i < n → ∀ j, j < 6 → w.cell? ⟨g, o + i * 6 + j, none⟩ = some (recCells rs H i j)) (i : Nat) (hi : i < n) :
    w.cell? ⟨g, o + i * 6, none⟩ = some (.int .i64 (rs.getD i default).time) ∧ w.cell? ⟨g, o + i * 6 + 1, none⟩ = some (.bool (rs.getD i default).keyed) ∧ w.cell? ⟨g, o + i * 6 + 2, none⟩ = some (.string (rs.getD i default).key) ∧
    w.cell? ⟨g, o + i * 6 + 3, none⟩ = some (.bool (rs.getD i default).gone) ∧ w.cell? ⟨g, o + i * 6 + 4, none⟩ = some (.string (rs.getD i default).val) ∧ w.cell? ⟨g, o + i * 6 + 5, none⟩ = some (H i) :=
  ⟨h i hi 0 (by omega), h i hi 1 (by omega), h i hi 2 (by omega), h i hi 3 (by omega), h i hi 4 (by omega), h i hi 5 (by omega)⟩
/-- .. in a later world. -/
theorem six' {w w' : World} {g o n : Nat} {rs : List Rec} {H : Nat → Value} (h : ∀ i, i < n → ∀ j, j < 6 → w.cell? ⟨g, o + i * 6 + j, none⟩ = some (recCells rs H i j)) (hb : Below w.heap.size w w') (hg : g < w.heap.size) :
    ∀ i, i < n → ∀ j, j < 6 → w'.cell? ⟨g, o + i * 6 + j, none⟩ = some (recCells rs H i j) := fun i hi j hj => by rw [hb.cell (p := ⟨g, o + i * 6 + j, none⟩) hg]; exact h i hi j hj

theorem szRecordS_none (A : Option Addr) (c : Nat) (l : Int) (w : World) (h3 : -1 ≤ l) (h4 : l ≤ 1048576) :
    Calls Try.prog 70 #[.slice A 0 c, .int .i64 l] w fun e w' => ∃ r, e = .returned (.int .i64 r) ∧ -1 ≤ r ∧ r ≤ l ∧ Below w.heap.size w w' := by
  go_enter Try.func70, Try.ntmps70
  by_cases hlt : l < 0
  · go_wp2
    go_ret
    exact ⟨_, rfl, by omega, by omega, Below.refl _ _⟩
  go_wp2
  go_loop [1, 5] (fun x i => i = .int .i64 0 ∧ ∃ r, x = .int .i64 r ∧ 0 ≤ r ∧ r ≤ l) (fun _ _ => 0)
  case atStart => exact ⟨rfl, _, rfl, by omega, by omega⟩
  case round =>
    obtain ⟨rfl, r, rfl, hr0, hr1⟩ := hrel
    go_wp2
    go_ret
    exact ⟨r, rfl, by omega, by omega, Below.refl _ _⟩

set_option maxHeartbeats 400000 in
theorem szRecordS_core (g o n c b : Nat) (rs : List Rec) (H : Nat → Value) (l : Int) (w : World) (h3 : -1 ≤ l) (h4 : l ≤ 1048576) (hn : n ≤ 9223372036854775807) (hc : n ≤ c) (hg : g < w.heap.size) (lo : Nat) (hb : b ≤ w.heap.size)
    (hf : ∀ i, i < n → FineR (rs.getD i default)) (hh : ∀ i, i < n → Heads w lo b (H i) (rs.getD i default).heads)
    (ha : ∀ i, i < n → ∀ j, j < 6 → w.cell? ⟨g, o + i * 6 + j, none⟩ = some (recCells rs H i j)) :
    Calls Try.prog 70 #[.slice (some ⟨g, o, none⟩) n c, .int .i64 l] w fun e w' => ∃ r, e = .returned (.int .i64 r) ∧ -1 ≤ r ∧ r ≤ l ∧ (0 ≤ r → (n : Int) ≤ l ∧ ∀ i, i < n → FewR (rs.getD i default)) ∧ Below w.heap.size w w' := by
  have HA := Seg.hid ha
  have HK := Seg.hid hf
  have HH := Seg.hid hh
  clear ha hf hh
  go_enter Try.func70, Try.ntmps70
  by_cases hlt : l - (n : Int) < 0
  · go_wp2
    go_ret
    exact ⟨_, rfl, by omega, by omega, fun h => absurd h (by omega), Below.refl _ _⟩
  go_wp2
  go_loopw [1, 5] (fun x i wr => ∃ (k : Nat) (r : Int), k ≤ n ∧ x = .int .i64 r ∧ i = .int .i64 k ∧ 0 ≤ r ∧ r ≤ l ∧ Hid (Below w.heap.size w wr ∧ ∀ i, i < k → FewR (rs.getD i default))) (fun _ i _ => n - (intOf i).toNat)
  case atStart => exact ⟨0, l - n, Nat.zero_le _, rfl, rfl, by omega, by omega, Below.refl _ _, fun i hi => absurd hi (by omega)⟩
  case round =>
    obtain ⟨k, r, hk, rfl, rfl, hr0, hr1, HB⟩ := hrel
    by_cases hlt2 : k < n
    · obtain ⟨c0, c1, c2, c3, c4, c5⟩ := six (six' HA.out HB.out.1 hg) k hlt2
      have RA : Hid (RecAt wr lo b (.agg #[.int .i64 (rs.getD k default).time, .bool (rs.getD k default).keyed, .string (rs.getD k default).key, .bool (rs.getD k default).gone, .string (rs.getD k default).val, H k]) (rs.getD k default)) := ⟨_, rfl, (HH.out k hlt2).below (HB.out.1.mono hb)⟩
      have h0 : (0 : Int) ≤ (k : Int) := by omega
      have h1 : (k : Int) < (n : Int) := by omega
      have hbr : b ≤ wr.heap.size := Nat.le_trans hb HB.out.1.size
      generalize hrk : rs.getD k default = rk at *
      go_wp2_with fail
      refine (RecW.szRecord_any _ rk r wr lo b (by omega) (by omega) RA.out hbr (hrk ▸ HK.out k hlt2)).mono ?_
      rintro e w1 ⟨r1, rfl, hr2, hr3, hfw, b1⟩
      have B1 := Seg.hid (chain HB.out.1 b1)
      have FW := Seg.hid hfw
      clear b1 hfw
      by_cases hneg : r1 < 0
      · go_wp2
        go_ret
        exact ⟨-1, rfl, by omega, by omega, fun h => absurd h (by omega), B1.out⟩
      · go_wp2
        go_roundw
        case rel =>
          refine ⟨k + 1, r1, by omega, rfl, by go_num, by omega, by omega, B1.out, fun i hi => ?_⟩
          by_cases he : i = k
          · subst he; rw [hrk]; exact FW.out (by omega)
          · exact HB.out.2 i (by omega)
        case measure => simp [intOf]; omega
    · have : k = n := by omega
      subst this
      go_wp2
      go_ret
      exact ⟨r, rfl, by omega, by omega, fun _ => ⟨by omega, HB.out.2⟩, HB.out.1⟩

theorem szRecordS_any (v : Value) (rs : List Rec) (l : Int) (w : World) (lo b : Nat) (h3 : -1 ≤ l) (h4 : l ≤ 1048576) (hv : RecsAt w lo b v rs) (hb : b ≤ w.heap.size) (hf : ∀ i, i < rs.length → FineR (rs.getD i default)) :
    Calls Try.prog 70 #[v, .int .i64 l] w fun e w' => ∃ r, e = .returned (.int .i64 r) ∧ -1 ≤ r ∧ r ≤ l ∧ (0 ≤ r → (rs.length : Int) ≤ l ∧ ∀ i, i < rs.length → FewR (rs.getD i default)) ∧ Below w.heap.size w w' := by
  obtain ⟨H, ⟨hn, A, c, rfl, h⟩, hh⟩ := hv
  by_cases hz : rs.length = 0
  · rw [hz]
    exact (szRecordS_none A c l w h3 h4).mono fun e w' ⟨r, a1, a2, a3, a4⟩ => ⟨r, a1, a2, a3, fun h => ⟨by omega, fun i hi => absurd hi (by omega)⟩, a4⟩
  obtain ⟨g, o, rfl, hg, hc, hcell, _⟩ := h.resolve_left hz
  exact szRecordS_core g o rs.length c b rs H l w h3 h4 hn hc (by omega) lo hb hf hh hcell
end Go.Proofs.Ytdcbgkcnidbakaa.RecsW
