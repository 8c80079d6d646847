/- putTextIf and putHeads of the program; A reader's steps: number, oneByte, take. -/
import Derived.BigQuiet
import Derived.Test.YtdnbcfochlfopaaJH10
import Derived.Test.YtdnbcfochlfopaaJH07
import Derived.Test.YtdnbcfochlfopaaJH08
namespace Go.Proofs.Ytdnbcfochlfopaa.PuT
set_option maxRecDepth 8000
open Go.RowKit
open Seg (B)
open SqP (Out grow)
open Nums (put)
open PuI (Ext below_grown out_below out_lt putInts_any)
open AppS (appS)
open WrP
open Recs (Hd Rec Heads below1 hsz hdCells)
set_option linter.unusedVariables false

theorem Ext.from {w w1 w' : World} {base g : Nat} {l : List Int} {e : Ending} (hb : Below w.heap.size w w1) (h : Ext w1 w' base g l e) : Ext w w' base g l e := by
  obtain ⟨⟨g', c', h1, h2, h3⟩, h4⟩ := h
  have := hb.size
  exact ⟨⟨g', c', h1, h2, by omega⟩, (below_grown hb _).trans h4⟩
theorem Ext.then {w w1 w2 : World} {base g g1 : Nat} {l : List Int} {e : Ending} (gr : w.grownBy w1 (some g)) (h1 : g1 = g ∨ w.heap.size ≤ g1) (h : Ext w1 w2 base g1 l e) : Ext w w2 base g l e := by
  obtain ⟨⟨g', c', a1, a2, a3⟩, a4⟩ := h
  have := gr.size
  exact ⟨⟨g', c', a1, a2, by omega⟩, grow gr a4 h1⟩
/-- One thing more is put. -/
theorem Ext.more {w w1 w2 : World} {base g g1 g2 cap2 n : Nat} {l : List Int} (gr : w.grownBy w1 (some g)) (h1 : g1 = g ∨ w.heap.size ≤ g1) (o2 : Out w2 base g2 cap2 l) (gr2 : w1.grownBy w2 (some g1)) (h2 : g2 = g1 ∨ g2 = w1.heap.size) (hn : n = l.length) :
    Ext w w2 base g l (.returned (.slice (some ⟨g2, 0, none⟩) n cap2)) := by
  have := gr.size
  exact ⟨⟨g2, cap2, by rw [hn], o2, by omega⟩, grow gr gr2 h1⟩
/-- A new row of numbers. -/
theorem new_cells (w : World) (ns : List Int) (t : TypeId) : ∀ j, j < ns.length → (w.alloc (.cells (ns.map (Value.int .i64)).toArray t)).cell? ⟨w.heap.size, j, none⟩ = some (.int .i64 (ns.getD j 0)) := fun j hj => by
  rw [cell_of_row _ _ j _ _ _ (heap_alloc_new _ _)]
  simp [hj]
theorem new_lt (w : World) (o : Obj) : w.heap.size < (w.alloc o).heap.size := by rw [hsz]; omega
theorem out_ne {w : World} {base g cap : Nat} {l : List Int} (h : Out w base g cap l) : w.heap.size ≠ g := by have := (out_lt h).2; omega
theorem one_in {x : Int} (h : -9223372036854775808 ≤ x ∧ x ≤ 9223372036854775807) : ∀ y ∈ [x], -9223372036854775808 ≤ y ∧ y ≤ 9223372036854775807 := fun y hy => by simp at hy; subst hy; exact h
theorem two_in {x z : Int} (h : -9223372036854775808 ≤ x ∧ x ≤ 9223372036854775807) (h' : -9223372036854775808 ≤ z ∧ z ≤ 9223372036854775807) : ∀ y ∈ [x, z], -9223372036854775808 ≤ y ∧ y ≤ 9223372036854775807 := fun y hy => by
  simp at hy
  rcases hy with rfl | rfl
  · exact h
  · exact h'
theorem nums1 (x : Int) : numsB [x] = put x := by simp [numsB]
theorem nums2 (x y : Int) : numsB [x, y] = put x ++ put y := by simp [numsB]

/-- putInts with a new list, as the walk meets it. -/
theorem ints_new (g cap base : Nat) (out ns : List Int) (w : World) (t : TypeId) (gn : Nat) (hgn : w.heap.size = gn) (hn : ns.length ≤ 100) (ho1 : out.length ≤ 5000000) (hr : ∀ x ∈ ns, -9223372036854775808 ≤ x ∧ x ≤ 9223372036854775807) (ho : Out w base g cap out) (hbase : base ≤ w.heap.size) :
    Calls Try.prog 37 #[.slice (some ⟨g, 0, none⟩) out.length cap, .slice (some ⟨gn, 0, none⟩) ns.length ns.length] (w.alloc (.cells (ns.map (Value.int .i64)).toArray t)) fun e w' => Ext w w' base g (out ++ numsB ns) e := by
  subst hgn
  exact (putInts_any g cap base w.heap.size ns.length out ns (w.alloc (.cells (ns.map (Value.int .i64)).toArray t)) hn ho1 (Nat.le_refl _) hr (World.ownsRow.alloc ho _) (by rw [hsz]; omega) (out_ne ho) (new_lt w _) (new_cells w ns t)).mono fun e w' h => Ext.from (below1 w _) h
theorem kept {w w' : World} {g k : Nat} {x : Obj} (h : w.heap[k]? = some x) (gr : w.grownBy w' (some g)) (hne : k ≠ g) : w'.heap[k]? = some x := (gr.block k (Array.getElem?_eq_some_iff.1 h).1 (by simpa using hne)).trans h

set_option maxHeartbeats 800000 in
theorem putTextIf_any (g cap base : Nat) (out : List Int) (b : Bool) (s : ByteArray) (w : World) (ho1 : out.length ≤ 900000) (hs : s.size ≤ 1000) (ho : Out w base g cap out) (hbase : base ≤ w.heap.size) :
    Calls Try.prog 69 #[.slice (some ⟨g, 0, none⟩) out.length cap, .bool b, .string s] w fun e w' => Ext w w' base g (out ++ txtIf b s) e := by
  have HO := Seg.hid ho
  clear ho
  cases b with
  | false =>
    obtain ⟨l1, hl1⟩ : ∃ l1, out ++ txtIf false s = l1 := ⟨_, rfl⟩
    rw [hl1]
    have HL1 := Seg.hid hl1
    clear hl1
    go_enter Try.func69, Try.ntmps69
    go_wp2_with fail
    refine (ints_new g cap base out [-1] w 3 _ rfl (by decide) (by omega) (one_in (by omega)) HO.out hbase).mono ?_
    rintro e w1 hE
    rw [nums1] at hE
    have hE : Ext w w1 base g (out ++ txtIf false s) e := hE
    rw [HL1.out] at hE
    have HE := Seg.hid hE
    obtain ⟨⟨g1, cap1, rfl, o1, h1⟩, gr⟩ := hE
    clear o1 h1 gr
    go_wp2
    go_ret
    exact HE.out
  | true =>
    go_enter Try.func69, Try.ntmps69
    go_wp2_with fail
    refine (ints_new g cap base out [(s.size : Int)] w 3 _ rfl (by simp) (by omega) (one_in (by omega)) HO.out hbase).mono ?_
    rintro e w1 hE
    rw [nums1] at hE
    have hpl := WrP.put_le (s.size : Int) (by omega)
    obtain ⟨l1, hl1⟩ : ∃ l1, out ++ put (s.size : Int) = l1 := ⟨_, rfl⟩
    have hll : l1.length ≤ 900010 := by rw [← hl1, List.length_append]; omega
    have HL1 := Seg.hid hl1
    rw [hl1] at hE
    clear hl1
    obtain ⟨⟨g1, cap1, rfl, o1, h1⟩, gr⟩ := hE
    have O1 := Seg.hid o1; have G1 := Seg.hid gr; have A1 := Seg.hid h1
    have hz := gr.size
    clear o1 h1 gr
    go_wp2_with (at_builtin; refine appS rfl (.tmp 16) (.tmp 17) rfl base g1 cap1 l1 s ?hs ?ho ?hx ?hb ?hba ?_; (case hs => rfl); (case ho => exact O1.out); (case hx => rfl); (case hb => omega); (case hba => omega); intro g3 cap3 w3 o3 gr3 at3; have EX : Hid (Ext w w3 base g (out ++ txtIf true s) (.returned (.slice (some ⟨g3, 0, none⟩) (l1.length + s.size) cap3))) := Ext.more G1.out A1.out (by have h := o3; rw [← HL1.out, List.append_assoc] at h; exact h) gr3 at3 (by rw [← HL1.out]; simp [txtIf, txt_len, Nat.add_assoc]); clear o3 gr3 at3)
    go_ret
    exact EX.out

theorem heads_cells {w wr : World} {gh o n g base lo b : Nat} {hs : List Hd} (h : ∀ i, i < n → ∀ j, j < 2 → w.cell? ⟨gh, o + i * 2 + j, none⟩ = some (hdCells hs i j)) (gr : w.grownBy wr (some g)) (hne : gh ≠ g) :
    ∀ i, i < n → ∀ j, j < 2 → wr.cell? ⟨gh, o + i * 2 + j, none⟩ = some (hdCells hs i j) := fun i hi j hj => gr.cell (h i hi j hj) (by simpa using hne)

set_option maxHeartbeats 1600000 in
theorem putHeads_any (g cap base lo b : Nat) (out : List Int) (hv : Value) (hs : List Hd) (w : World) (ho1 : out.length ≤ 800000) (hl : hs.length ≤ 1000) (hk : hs.all ROk.okH = true) (hh : Heads w lo b hv hs) (hbb : b ≤ base) (ho : Out w base g cap out) (hbase : base ≤ w.heap.size) :
    Calls Try.prog 70 #[.slice (some ⟨g, 0, none⟩) out.length cap, hv] w fun e w' => Ext w w' base g (out ++ hds hs) e := by
  obtain ⟨hn, A, c, rfl, hrow⟩ := hh
  have HR := Seg.hid hrow; have HO := Seg.hid ho; have HK := Seg.hid hk
  have hgb := (out_lt ho).1
  have HBL := Seg.hid (hdsB_le hs hk)
  clear hrow ho hk
  go_enter Try.func70, Try.ntmps70
  go_wp2_with fail
  refine (ints_new g cap base out [(hs.length : Int)] w 3 _ rfl (by simp) (by omega) (one_in (by omega)) HO.out hbase).mono ?_
  rintro e w1 hE
  rw [nums1] at hE
  have hpl := WrP.put_le (hs.length : Int) (by omega)
  obtain ⟨l1, hl1⟩ : ∃ l1, out ++ put (hs.length : Int) = l1 := ⟨_, rfl⟩
  have hll : l1.length ≤ 800010 := by rw [← hl1, List.length_append]; omega
  have HT : Hid (out ++ hds hs = l1 ++ hdsB hs) := by show _ = _; rw [← hl1, hds, List.append_assoc]
  rw [hl1] at hE
  clear hl1
  have HE := Seg.hid hE
  obtain ⟨⟨g1, cap1, rfl, o1, h1⟩, gr⟩ := hE
  clear o1 h1 gr
  go_wp2
  go_loopw [0, 14] (fun v i wr => ∃ (k : Nat) (cur : List Int), i = .int .i64 k ∧ k ≤ hs.length ∧ Ext w wr base g cur (.returned v) ∧ Hid (cur ++ hdsB (hs.drop k) = l1 ++ hdsB hs)) (fun _ i _ => hs.length - (intOf i).toNat)
  case atStart => exact ⟨0, l1, rfl, Nat.zero_le _, HE.out, rfl⟩
  case round =>
    clear HE
    obtain ⟨k, cur, rfl, hle, hE, HQ⟩ := hrel
    obtain ⟨⟨g2, cap2, hv2, o2, h2⟩, gr2⟩ := hE
    simp only [Ending.returned.injEq] at hv2
    subst hv2
    have O2 := Seg.hid o2; have G2 := Seg.hid gr2; have A2 := Seg.hid h2
    have z2 := gr2.size
    have hcl : cur.length ≤ 1050000 := by
      have h1 := congrArg List.length HQ.out
      have h3 := HBL.out
      simp only [List.length_append] at h1
      omega
    clear o2 h2 gr2
    by_cases hlt : k < hs.length
    · obtain ⟨gh, o, rfl, hgh, hc, hcell, _⟩ := HR.out.resolve_left (by omega)
      obtain ⟨c0, c1⟩ := Heads.cell0 (heads_cells (lo := lo) (b := b) (base := base) hcell G2.out (by omega)) k hlt
      obtain ⟨hk1, hk2⟩ := okH_parts (List.all_eq_true.1 HK.out (hs.getD k default) (by simp [hlt]))
      have HQ' : Hid (cur ++ (hd (hs.getD k default) ++ hdsB (hs.drop (k + 1))) = l1 ++ hdsB hs) := by rw [← hdsB_at hlt]; exact HQ.out
      generalize hs.getD k default = hk at *
      have h0 : (0 : Int) ≤ (k : Int) := by omega
      have h1 : (k : Int) < (hs.length : Int) := by omega
      clear hcell
      obtain ⟨hvar, hve⟩ : ∃ o : Obj, o = .cells #[.string hk.key, .string hk.val] 100 (0, 0) := ⟨_, rfl⟩
      have hpl1 := WrP.put_le (hk.key.size : Int) (by omega)
      have hpl2 := WrP.put_le (hk.val.size : Int) (by omega)
      go_wp2_with fail
      refine (ints_new g2 cap2 base cur [(hk.key.size : Int), (hk.val.size : Int)] (wr.alloc _) 3 _ (hsz wr _) (by simp) (by omega) (two_in (by omega) (by omega)) (World.ownsRow.alloc O2.out _) (by rw [hsz]; omega)).mono ?_
      rintro e w3 hE
      rw [nums2] at hE
      obtain ⟨l3, hl3⟩ : ∃ l3, cur ++ (put (hk.key.size : Int) ++ put (hk.val.size : Int)) = l3 := ⟨_, rfl⟩
      have hl3l : l3.length ≤ 1050020 := by rw [← hl3]; simp only [List.length_append]; omega
      rw [hl3] at hE
      have HL3 := Seg.hid hl3
      obtain ⟨⟨g3, cap3, rfl, o3, h3⟩, gr3⟩ := hE
      have O3 := Seg.hid o3
      have z3 := gr3.size
      rw [hsz] at h3 z3
      have n2 := out_ne O2.out
      have n3 : wr.heap.size ≠ g3 := by omega
      have V3 := Seg.hid (kept (heap_alloc_new wr _) gr3 n2)
      have G3 : Hid (wr.grownBy w3 (some g2)) := (World.grownBy_alloc _ _ _).trans gr3
      have H3 : Hid (g3 = g2 ∨ wr.heap.size ≤ g3) := (by omega : g3 = g2 ∨ wr.heap.size ≤ g3)
      have d0 : w3.cell? ⟨wr.heap.size, 0, none⟩ = some (.string hk.key) := cell_of_row w3 _ 0 _ _ (0, 0) V3.out
      clear o3 gr3 hl3 hve
      go_wp2_with (first | (at_builtin; refine appS rfl (.tmp 27) (.tmp 29) rfl base g3 cap3 l3 hk.key ?hs ?ho ?hx ?hb ?hba ?_; (case hs => rfl); (case ho => exact O3.out); (case hx => rfl); (case hb => omega); (case hba => omega); intro g4 cap4 w4 o4 gr4 at4; have O4 := Seg.hid o4; have G4 := Seg.hid (grow G3.out gr4 H3.out); have A4 : Hid (g4 = g2 ∨ wr.heap.size ≤ g4) := (by have := H3.out; omega : g4 = g2 ∨ wr.heap.size ≤ g4); have z4 := gr4.size; have n4 : wr.heap.size ≠ g4 := (by omega); have V4 := Seg.hid (kept V3.out gr4 n3); have d1 : w4.cell? ⟨wr.heap.size, 1, none⟩ = some (.string hk.val) := (cell_of_row w4 _ 1 _ _ (0, 0) V4.out); clear o4 gr4 at4) | (at_builtin; refine appS rfl (.tmp 31) (.tmp 33) rfl base g4 cap4 (l3 ++ txt hk.key) hk.val ?hs ?ho ?hx ?hb ?hba ?_; (case hs => rw [List.length_append, txt_len]; rfl); (case ho => exact O4.out); (case hx => rfl); (case hb => rw [List.length_append, txt_len]; omega); (case hba => omega); intro g5 cap5 w5 o5 gr5 at5; have E5 : Hid (Ext wr w5 base g2 (l3 ++ txt hk.key ++ txt hk.val) (.returned (.slice (some ⟨g5, 0, none⟩) (l3.length + (txt hk.key).length + hk.val.size) cap5))) := Ext.more G4.out A4.out o5 gr5 at5 (by simp only [List.length_append, txt_len]); clear o5 gr5 at5))
      go_roundw
      case rel =>
        refine ⟨k + 1, l3 ++ txt hk.key ++ txt hk.val, by go_num, by omega, Ext.then G2.out A2.out E5.out, ?_⟩
        show _ = _
        rw [← HQ'.out, ← HL3.out, hd]
        simp only [List.append_assoc]
      case measure => simp [intOf]; omega
    · obtain rfl : k = hs.length := by omega
      have HE : Hid (cur = out ++ hds hs) := by
        have := HQ.out
        rw [List.drop_length, hdsB, List.append_nil] at this
        rw [this]
        exact HT.out.symm
      go_wp2
      go_ret
      exact ⟨⟨g2, cap2, by rw [← HE.out]; rfl, HE.out ▸ O2.out, A2.out⟩, G2.out⟩
end Go.Proofs.Ytdnbcfochlfopaa.PuT
namespace Go.Proofs.Ytdnbcfochlfopaa.Rd
set_option maxRecDepth 8000
open Go.RowKit
open RdP
open Recs (hsz below1)
set_option linter.unusedVariables false

/-- A reader at a place. -/
def Rdr (w : World) (G : Nat) (v : Value) (p : Nat) : Prop := w.heap[G]? = some (.cells #[v, .int .i64 (p : Int)] 68 (0, 0))
/-- The bytes that it reads lie elsewhere. -/
structure Dat (w : World) (G : Nat) (v : Value) (l : List Int) : Prop where
  seg : Seg.Seg w v l
  byt : Seg.Byt l
  far : l.length = 0 ∨ ∀ g, v.ownBlock = some g → g < w.heap.size ∧ g ≠ G
theorem Dat.keep {w w' : World} {G : Nat} {v : Value} {l : List Int} (h : Dat w G v l) (gr : w.grownBy w' (some G)) : Dat w' G v l := by
  refine ⟨?_, h.byt, h.far.imp id fun hf g hg => ⟨Nat.lt_of_lt_of_le (hf g hg).1 gr.size, (hf g hg).2⟩⟩
  obtain ⟨h1, h2⟩ := h.seg
  refine ⟨h1, ?_⟩
  rcases h2 with ⟨A, c, rfl, rfl⟩ | ⟨g, o, cap, rfl, h3, h4, h5⟩
  · exact .inl ⟨A, c, rfl, rfl⟩
  · refine .inr ⟨g, o, cap, rfl, h3, h4, fun i hi => gr.cell (h5 i hi) ?_⟩
    have := (h.far.resolve_left (by omega)) g rfl
    simpa using this.2
theorem Dat.form {w : World} {G : Nat} {v : Value} {l : List Int} (h : Dat w G v l) : ∃ A c, v = .slice A l.length c := by
  rcases h.seg.2 with ⟨A, c, rfl, rfl⟩ | ⟨g, o, cap, rfl, _⟩
  · exact ⟨A, c, rfl⟩
  · exact ⟨_, _, rfl⟩
/-- A fault, as it is panicked with. -/
def flt (f : Int) : PanicEntry := { v := .iface 65 (.agg #[.int .i64 f]), recovered := false }
/-- What a step of a reader comes to. -/
structure Step {α : Type} (w w' : World) (G : Nat) (v : Value) (f : Int) (o : Option (α × Nat)) (val : World → α → Value → Prop) (e : Ending) : Prop where
  gr : w.grownBy w' (some G)
  no : o = none → e = .panicked [flt f]
  yes : ∀ x q, o = some (x, q) → (∃ u, e = .returned u ∧ val w' x u) ∧ Rdr w' G v q

theorem scan_le (l : List Int) (a : Nat) : ∀ (f k u : Nat) (r : Nat × Nat), Nums.scanF l a f k u = some r → r.2 ≤ l.length
  | 0, k, u, r, h => by simp [Nums.scanF] at h
  | f + 1, k, u, r, h => by
    rw [Nums.scanF] at h
    split at h
    · split at h
      · simp at h
      · split at h
        · split at h
          · simp at h
          · simp only [Option.some.injEq] at h
            rw [← h]
            show a + k + 1 ≤ _
            omega
        · exact scan_le l a f (k + 1) _ r h
    · simp at h
theorem num_le {l : List Int} {p : Nat} {n : Int} {q : Nat} (h : num l p = some (n, q)) : q ≤ l.length := by
  unfold num Nums.scan at h
  simp only [Option.map_eq_some_iff, Prod.mk.injEq] at h
  obtain ⟨r, h1, h2, h3⟩ := h
  have := scan_le l p _ _ _ r h1
  omega

theorem scan_gt (l : List Int) (a : Nat) : ∀ (f k u : Nat) (r : Nat × Nat), Nums.scanF l a f k u = some r → a + k < r.2
  | 0, k, u, r, h => by simp [Nums.scanF] at h
  | f + 1, k, u, r, h => by
    rw [Nums.scanF] at h
    split at h
    · split at h
      · simp at h
      · split at h
        · split at h
          · simp at h
          · simp only [Option.some.injEq] at h
            rw [← h]
            show a + k < a + k + 1
            omega
        · have := scan_gt l a f (k + 1) _ r h
          omega
    · simp at h
theorem num_lt {l : List Int} {p : Nat} {n : Int} {q : Nat} (h : num l p = some (n, q)) : p < q := by
  unfold num Nums.scan at h
  simp only [Option.map_eq_some_iff, Prod.mk.injEq] at h
  obtain ⟨r, h1, h2, h3⟩ := h
  have := scan_gt l p _ _ _ r h1
  omega

set_option maxHeartbeats 400000 in
theorem getInt_zero (A : Option Addr) (c : Nat) (w : World) : Calls Try.prog 16 #[.slice A 0 c, .int .i64 0] w fun e w' => e = .returned (.tuple (Nums.got none)) ∧ w = w' := by
  cases A with
  | some a =>
    obtain ⟨g, o, sp⟩ := a
    go_enter Try.func16, Try.ntmps16
    go_wp2
    all_goals
      go_loop [22] (fun i => i = .int .i64 0) (fun _ => 0)
      case atStart => rfl
      case round =>
        subst hrel
        go_wp2
        go_ret3
        exact ⟨rfl, rfl⟩
  | none =>
    go_enter Try.func16, Try.ntmps16
    go_wp2
    all_goals
      go_loop [22] (fun i => i = .int .i64 0) (fun _ => 0)
      case atStart => rfl
      case round =>
        subst hrel
        go_wp2
        go_ret3
        exact ⟨rfl, rfl⟩
theorem getInt_seg (v : Value) (l : List Int) (p : Nat) (w : World) (hs : Seg.Seg w v l) (hb : Seg.Byt l) (hp : p ≤ l.length) : Calls Try.prog 16 #[v, .int .i64 p] w fun e w' => e = .returned (.tuple (Nums.got (Nums.scan l p 0 0))) ∧ w = w' := by
  obtain ⟨h1, h2⟩ := hs
  rcases h2 with ⟨A, c, rfl, rfl⟩ | ⟨g, o, cap, rfl, h3, h4, h5⟩
  · obtain rfl : p = 0 := by simpa using hp
    rw [Nums.scan_short (by simp)]
    exact getInt_zero A c w
  · by_cases hlt : p < l.length
    · exact Get.impl_in g o l.length cap p l w h1 h3 rfl hlt h5 hb
    · obtain rfl : p = l.length := by omega
      rw [Nums.scan_short (by omega)]
      exact Get.impl_end g o l.length cap w h1 h3

theorem getInt_q (v : Value) (l : List Int) (p : Nat) (w : World) (hs : Seg.Seg w v l) (hb : Seg.Byt l) (hp : p ≤ l.length) (r : Option (Nat × Nat)) (hr : Nums.scan l p 0 0 = r) (V : Array Value) (hV : Nums.got r = V) : Calls Try.prog 16 #[v, .int .i64 p] w fun e w' => e = .returned (.tuple V) ∧ w' = w := by
  subst hr hV
  exact (getInt_seg v l p w hs hb hp).mono fun e w' ⟨h1, h2⟩ => ⟨h1, h2.symm⟩

theorem drewN_grown (w : World) (n : Nat) (r : Option Nat) : w.grownBy (w.drewN n) r := PuI.below_grown (below_drewN (Below.refl _ _) n) r
theorem rd_cells {w : World} {G p : Nat} {v : Value} (h : Rdr w G v p) : w.cell? ⟨G, 0, none⟩ = some v ∧ w.cell? ⟨G, 1, none⟩ = some (.int .i64 (p : Int)) ∧ w.frozen? ⟨G, 1, none⟩ = false :=
  ⟨cell_of_row w G 0 _ _ (0, 0) h, cell_of_row w G 1 _ _ (0, 0) h, frozen_of_row w G 1 _ _ h⟩
theorem rd_set {w : World} {G p q : Nat} {v : Value} (h : Rdr w G v p) : Rdr (w.setCell ⟨G, 1, none⟩ (.int .i64 (q : Int))) G v q := by
  have := heap_setCell_same w G 1 _ _ (.int .i64 (q : Int)) h
  exact this
theorem set_grown (w : World) (G q : Nat) (x : Value) : w.grownBy (w.setCell ⟨G, q, none⟩ x) (some G) := ⟨rfl, rfl, rfl, by simp, fun k _ hk => heap_setCell_other w ⟨G, q, none⟩ k x (fun e => hk (by simp [e]))⟩

set_option maxHeartbeats 800000 in
theorem number_any (G : Nat) (v : Value) (l : List Int) (p : Nat) (f : Int) (w : World) (hr : Rdr w G v p) (hd : Dat w G v l) (hp : p ≤ l.length) :
    Calls Try.prog 105 #[.pointer (some ⟨G, 0, none⟩), .int .i64 f] w fun e w' => Step w w' G v f (num l p) (fun _ n u => u = .int .i64 n) e := by
  have HR := Seg.hid hr; have HD := Seg.hid hd
  obtain ⟨A, c, rfl⟩ := hd.form
  obtain ⟨c0, c1, f1⟩ := rd_cells hr
  clear hr hd
  rcases hs : Nums.scan l p 0 0 with _ | ⟨u, nx⟩
  · have HN : Hid (num l p = none) := by show _ = _; rw [num, hs]; rfl
    have HS := Seg.hid hs
    clear hs
    go_enter Try.func105, Try.ntmps105
    go_wp2_with fail
    go_quiet (first | (go_at_call 16; refine Calls.quiet_of_same (getInt_q _ l p _ (HD.out.seg.drewN _) HD.out.byt hp none HS.out #[.int .i64 0, .int .i64 0, .bool false] rfl)))
    go_wp2
    exact ⟨rfl, drewN_grown w _ _, fun _ => rfl, fun x q h => by rw [HN.out] at h; cases h⟩
  · have HN : Hid (num l p = some (Nums.unf u, nx)) := by show _ = _; rw [num, hs]; rfl
    have HS := Seg.hid hs
    clear hs
    go_enter Try.func105, Try.ntmps105
    go_wp2_with fail
    go_quiet (first | (go_at_call 16; refine Calls.quiet_of_same (getInt_q _ l p _ (HD.out.seg.drewN _) HD.out.byt hp (some (u, nx)) HS.out #[.int .i64 (Nums.unf u), .int .i64 (nx : Int), .bool true] rfl)))
    go_wp2
    go_ret
    refine ⟨(drewN_grown w _ _).trans (set_grown _ G 1 _), fun h => (by rw [HN.out] at h; cases h), fun x q h => ?_⟩
    rw [HN.out] at h
    simp only [Option.some.injEq, Prod.mk.injEq] at h
    obtain ⟨rfl, rfl⟩ := h
    exact ⟨⟨_, rfl, rfl⟩, rd_set (w := w.drewN _) HR.out⟩

theorem within_q (x lo hi : Int) (b : Bool) (hb : (decide (lo ≤ x) && decide (x ≤ hi)) = b) (w : World) : Calls Try.prog 79 #[.int .i64 x, .int .i64 lo, .int .i64 hi] w fun e w' => e = .returned (.bool b) ∧ w' = w :=
  (ROk.within_b x lo hi b hb w).mono fun e w' ⟨h1, h2⟩ => ⟨h1, h2.symm⟩

/-- A reader at whatever place. -/
def RdrI (w : World) (G : Nat) (v : Value) (x : Int) : Prop := w.heap[G]? = some (.cells #[v, .int .i64 x] 68 (0, 0))
set_option maxHeartbeats 800000 in
theorem oneByte_out (G : Nat) (v : Value) (l : List Int) (x : Int) (w : World) (hr : RdrI w G v x) (hd : Dat w G v l) (hx : ¬ (0 ≤ x ∧ x < l.length)) :
    Calls Try.prog 104 #[.pointer (some ⟨G, 0, none⟩)] w fun e w' => e = .panicked [flt 1] ∧ w.grownBy w' (some G) := by
  have hll := hd.seg.1
  obtain ⟨A, c, rfl⟩ := hd.form
  have c0 : w.cell? ⟨G, 0, none⟩ = some (.slice A l.length c) := cell_of_row w G 0 _ _ (0, 0) hr
  have c1 : w.cell? ⟨G, 1, none⟩ = some (.int .i64 x) := cell_of_row w G 1 _ _ (0, 0) hr
  have HX : Hid ((decide (0 ≤ x) && decide (x ≤ (l.length : Int) - 1)) = false) := by
    show _ = _
    rw [Bool.and_eq_false_iff, decide_eq_false_iff_not, decide_eq_false_iff_not]
    omega
  clear hr hd hx
  go_enter Try.func104, Try.ntmps104
  go_wp2_with fail
  go_quiet (first | (go_at_call 79; refine Calls.quiet_of_same (within_q _ _ _ _ HX.out _)))
  go_wp2
  exact ⟨rfl, rfl, drewN_grown w _ _⟩

set_option maxHeartbeats 800000 in
theorem oneByte_in (G : Nat) (v : Value) (l : List Int) (p : Nat) (w : World) (hr : Rdr w G v p) (hd : Dat w G v l) (hp : p < l.length) :
    Calls Try.prog 104 #[.pointer (some ⟨G, 0, none⟩)] w fun e w' => e = .returned (.int .i64 (l.getD p 0)) ∧ Rdr w' G v (p + 1) ∧ w.grownBy w' (some G) := by
  have HR := Seg.hid hr
  obtain ⟨h1, h2⟩ := hd.seg
  rcases h2 with ⟨A, c, rfl, rfl⟩ | ⟨g, o, c, rfl, h3, h4, h5⟩
  · simp at hp
  have hne := (hd.far.resolve_left (by omega)) g rfl
  have hby := hd.byt p
  have CK := Seg.hid (h5 p hp)
  obtain ⟨c0, c1, f1⟩ := rd_cells hr
  have HX : Hid ((decide ((0 : Int) ≤ (p : Int)) && decide ((p : Int) ≤ (l.length : Int) - 1)) = true) := by
    show _ = _
    rw [Bool.and_eq_true, decide_eq_true_eq, decide_eq_true_eq]
    omega
  have i0 : (0 : Int) ≤ (p : Int) := by omega
  have i1 : (p : Int) < (l.length : Int) := by omega
  clear hr hd h5
  generalize l.getD p 0 = y at *
  go_enter Try.func104, Try.ntmps104
  go_wp2_with fail
  go_quiet (first | (go_at_call 79; refine Calls.quiet_of_same (within_q _ _ _ _ HX.out _)))
  have G1 : Hid (w.grownBy (w.drewN nq) (some G)) := drewN_grown w nq _
  have R1 : Hid (Rdr (w.drewN nq) G (.slice (some ⟨g, o, none⟩) l.length c) p) := HR.out
  have C1 : Hid ((w.drewN nq).cell? ⟨g, o + p, none⟩ = some (.int .u8 y)) := CK.out
  obtain ⟨w1, hw1⟩ : ∃ x, w.drewN nq = x := ⟨_, rfl⟩
  rw [hw1] at G1 R1 C1 ⊢
  clear hw1 c0 c1 f1
  obtain ⟨c0, c1, f1⟩ := rd_cells R1.out
  have RS : Hid (Rdr (w1.setCell ⟨G, 1, none⟩ (.int .i64 ((p : Int) + 1))) G (.slice (some ⟨g, o, none⟩) l.length c) (p + 1)) := rd_set (q := p + 1) R1.out
  have ck2 : (w1.setCell ⟨G, 1, none⟩ (.int .i64 ((p : Int) + 1))).cell? ⟨g, o + p, none⟩ = some (.int .u8 y) := by
    rw [World.cell?_setCell_other _ _ _ _ (fun e => hne.2 (by have := congrArg Addr.block e; exact this.symm))]
    exact C1.out
  obtain ⟨d0, d1, _⟩ := rd_cells RS.out
  have G2 := Seg.hid (G1.out.trans (set_grown w1 G 1 (.int .i64 ((p : Int) + 1))))
  go_wp2_with fail
  obtain ⟨w2, hw2⟩ : ∃ x, w1.setCell ⟨G, 1, none⟩ (.int .i64 ((p : Int) + 1)) = x := ⟨_, rfl⟩
  rw [hw2] at RS ck2 d0 d1 G2 ⊢
  clear hw2
  have e1 : (((p + 1 : Nat) : Int) - 1) = (p : Int) := by omega
  go_quiet (fail)
  go_wp2
  go_ret
  exact ⟨rfl, RS.out, G2.out.trans (drewN_grown w2 _ _)⟩
end Go.Proofs.Ytdnbcfochlfopaa.Rd
