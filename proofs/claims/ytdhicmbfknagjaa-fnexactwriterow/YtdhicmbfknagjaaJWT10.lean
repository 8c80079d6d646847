/- putTextIf and putHeads of the program; Texts appended to a row of one's own: a law for regions that draw; l2Text of the model (parted from WrT). -/
import Derived.Deep.RegionHeld3
import Derived.Test.YtdhicmbfknagjaaJWT09
namespace Go.Proofs.Ytdhicmbfknagjaa.PuT
set_option maxRecDepth 8000
open Go.RowKit
open Seg (B)
open SqP (Out grow)
open Nums (put)
open PuI (Ext below_grown out_below out_lt putInts_any)
open AppS (appS)
open WrP
open Recs (Hd Rec Heads below1 hsz hdCells)
set_option linter.unusedVariables false

theorem Ext.from {w w1 w' : World} {base g : Nat} {l : List Int} {e : Ending} (hb : Below w.heap.size w w1) (h : Ext w1 w' base g l e) : Ext w w' base g l e := by
  obtain ⟨⟨g', c', h1, h2, h3⟩, h4⟩ := h
  have := hb.size
  exact ⟨⟨g', c', h1, h2, by omega⟩, (below_grown hb _).trans h4⟩
theorem Ext.then {w w1 w2 : World} {base g g1 : Nat} {l : List Int} {e : Ending} (gr : w.grownBy w1 (some g)) (h1 : g1 = g ∨ w.heap.size ≤ g1) (h : Ext w1 w2 base g1 l e) : Ext w w2 base g l e := by
  obtain ⟨⟨g', c', a1, a2, a3⟩, a4⟩ := h
  have := gr.size
  exact ⟨⟨g', c', a1, a2, by omega⟩, grow gr a4 h1⟩
/-- One thing more is put. -/
theorem Ext.more {w w1 w2 : World} {base g g1 g2 cap2 n : Nat} {l : List Int} (gr : w.grownBy w1 (some g)) (h1 : g1 = g ∨ w.heap.size ≤ g1) (o2 : Out w2 base g2 cap2 l) (gr2 : w1.grownBy w2 (some g1)) (h2 : g2 = g1 ∨ g2 = w1.heap.size) (hn : n = l.length) :
    Ext w w2 base g l (.returned (.slice (some ⟨g2, 0, none⟩) n cap2)) := by
  have := gr.size
  exact ⟨⟨g2, cap2, by rw [hn], o2, by omega⟩, grow gr gr2 h1⟩
/-- A new row of numbers. -/
theorem new_cells (w : World) (ns : List Int) (t : TypeId) : ∀ j, j < ns.length → (w.alloc (.cells (ns.map (Value.int .i64)).toArray t)).cell? ⟨w.heap.size, j, none⟩ = some (.int .i64 (ns.getD j 0)) := fun j hj => by
  rw [cell_of_row _ _ j _ _ _ (heap_alloc_new _ _)]
  simp [hj]
theorem new_lt (w : World) (o : Obj) : w.heap.size < (w.alloc o).heap.size := by rw [hsz]; omega
theorem out_ne {w : World} {base g cap : Nat} {l : List Int} (h : Out w base g cap l) : w.heap.size ≠ g := by have := (out_lt h).2; omega
theorem one_in {x : Int} (h : -9223372036854775808 ≤ x ∧ x ≤ 9223372036854775807) : ∀ y ∈ [x], -9223372036854775808 ≤ y ∧ y ≤ 9223372036854775807 := fun y hy => by simp at hy; subst hy; exact h
theorem two_in {x z : Int} (h : -9223372036854775808 ≤ x ∧ x ≤ 9223372036854775807) (h' : -9223372036854775808 ≤ z ∧ z ≤ 9223372036854775807) : ∀ y ∈ [x, z], -9223372036854775808 ≤ y ∧ y ≤ 9223372036854775807 := fun y hy => by
  simp at hy
  rcases hy with rfl | rfl
  · exact h
  · exact h'
theorem nums1 (x : Int) : numsB [x] = put x := by simp [numsB]
theorem nums2 (x y : Int) : numsB [x, y] = put x ++ put y := by simp [numsB]

/-- putInts with a new list, as the walk meets it. -/
theorem ints_new (g cap base : Nat) (out ns : List Int) (w : World) (t : TypeId) (gn : Nat) (hgn : w.heap.size = gn) (hn : ns.length ≤ 100) (ho1 : out.length ≤ 5000000) (hr : ∀ x ∈ ns, -9223372036854775808 ≤ x ∧ x ≤ 9223372036854775807) (ho : Out w base g cap out) (hbase : base ≤ w.heap.size) :
    Calls Try.prog 100 #[.slice (some ⟨g, 0, none⟩) out.length cap, .slice (some ⟨gn, 0, none⟩) ns.length ns.length] (w.alloc (.cells (ns.map (Value.int .i64)).toArray t)) fun e w' => Ext w w' base g (out ++ numsB ns) e := by
  subst hgn
  exact (putInts_any g cap base w.heap.size ns.length out ns (w.alloc (.cells (ns.map (Value.int .i64)).toArray t)) hn ho1 (Nat.le_refl _) hr (World.ownsRow.alloc ho _) (by rw [hsz]; omega) (out_ne ho) (new_lt w _) (new_cells w ns t)).mono fun e w' h => Ext.from (below1 w _) h
theorem kept {w w' : World} {g k : Nat} {x : Obj} (h : w.heap[k]? = some x) (gr : w.grownBy w' (some g)) (hne : k ≠ g) : w'.heap[k]? = some x := (gr.block k (Array.getElem?_eq_some_iff.1 h).1 (by simpa using hne)).trans h

theorem heads_cells {w wr : World} {gh o n g base lo b : Nat} {hs : List Hd} (h : ∀ i, i < n → ∀ j, j < 2 → w.cell? ⟨gh, o + i * 2 + j, none⟩ = some (hdCells hs i j)) (gr : w.grownBy wr (some g)) (hne : gh ≠ g) :
    ∀ i, i < n → ∀ j, j < 2 → wr.cell? ⟨gh, o + i * 2 + j, none⟩ = some (hdCells hs i j) := fun i hi j hj => gr.cell (h i hi j hj) (by simpa using hne)

end Go.Proofs.Ytdhicmbfknagjaa.PuT
namespace Go.Proofs.Ytdhicmbfknagjaa.WxS
set_option maxRecDepth 8000
open Go.RowKit
open Seg (B)
open SqP (Out app grow)
open Nums (put)
open PuI (Ext below_grown out_below out_lt out_cell)
open PuT (kept)
open AppS (appS run_appS)
open WrP
open Recs
set_option linter.unusedVariables false

theorem step_appS {w : World} {ops : Array Oper} {o : Oper} {a : Act} {K : Act → World → Prop} {Q : Exit → Act → World → Prop} {E : Prop} (hgd : o.guard = none) (s x : Operand) (ho : o.op = .call { callee := .builtin .append, args := #[s, x], argTypes := #[52, 9] })
    (base g cap : Nat) (l : List Int) (t : ByteArray) (hs : a.eval s = .slice (some ⟨g, 0, none⟩) l.length cap) (hown : Out w base g cap l) (hx : a.eval x = .string t) (hb : l.length + t.size ≤ 10000000) (hbase : base ≤ w.heap.size)
    (h : ∀ g' cap' w', Out w' base g' cap' (l ++ txt t) → w.grownBy w' (some g) → (g' = g ∨ g' = w.heap.size) → K (a.put o.dst (.slice (some ⟨g', 0, none⟩) (l.length + t.size) cap')) w') : if Region.wanted o (yielded ops a.tmps) = true then Oper.wp Try.prog o a w K Q else E := by
  have hw : Region.wanted o (yielded ops a.tmps) = true := by simp [Region.wanted, hgd]
  rw [if_pos hw]
  obtain ⟨g', cap', w', hr, h2, h3, h4⟩ := run_appS w o.type base g cap l hown t hb hbase
  unfold Oper.wp execOp
  simp only [ho, resolve, invoke, builtin, Sem.run_bind, Sem.run_pure, Result.andThen_ok, List.map_toArray, List.map_cons, List.map_nil, hs, hx, hr]
  exact h g' cap' w' h2 h3 h4

/-- A number put behind what is out. -/
theorem num_ext {w w2 w3 : World} {base g g3 cap3 : Nat} {cur : List Int} {x : Int} (hb : Below w.heap.size w w2) (o3 : Out w3 base g3 cap3 (cur ++ put x)) (gr : w2.grownBy w3 (some g)) (h3 : g3 = g ∨ g3 = w2.heap.size) : Ext w w3 base g (cur ++ put x) (.returned (.slice (some ⟨g3, 0, none⟩) (cur.length + (put x).length) cap3)) :=
  PuT.Ext.more (below_grown hb (some g)) (.inl rfl) o3 gr h3 (by rw [List.length_append])

set_option maxHeartbeats 800000 in
theorem l2Text_any (g cap base : Nat) (out : List Int) (s : ByteArray) (w : World) (ho1 : out.length ≤ 900000) (hs : s.size ≤ 1000) (ho : Out w base g cap out) (hbase : base ≤ w.heap.size) :
    Calls Try.prog 94 #[.slice (some ⟨g, 0, none⟩) out.length cap, .string s] w fun e w' => Ext w w' base g (out ++ txtIf true s) e := by
  have HO := Seg.hid ho
  clear ho
  go_enter Try.func94, Try.ntmps94
  go_wp2_with fail
  refine (Put.spec_any (s.size : Int) w (by omega) (by omega)).mono ?_
  rintro e w2 ⟨g2, cap2, rfl, o2, b2⟩
  obtain ⟨x, hx⟩ : ∃ x : Int, (s.size : Int) = x := ⟨_, rfl⟩
  have hpl := put_le x (by omega)
  have hpl2 : (put (s.size : Int)).length = (put x).length := by rw [hx]
  rw [hpl2]
  rw [hx] at o2
  have HX := Seg.hid hx
  have O2 := Seg.hid o2; have B2 := Seg.hid b2
  have z2 := b2.size
  clear o2 b2 hx hpl2
  go_wp2_with (first | (at_builtin; refine app rfl (.tmp 5) (.tmp 8) rfl base g cap out (put x) ?zzs ?zzo ⟨g2, 0, none⟩ cap2 ?zzx ?zzn ?zzm ?zzb ?zzba ?_; (case zzs => rfl); (case zzo => exact out_below HO.out B2.out); (case zzx => rfl); (case zzn => exact fun j hj => out_cell (l := put x) O2.out j hj); (case zzm => exact Nums.put_pos x); (case zzb => omega); (case zzba => omega); intro g3 cap3 w3 o3 gr3 at3; have O3 := Seg.hid o3; have E3 := Seg.hid (num_ext B2.out o3 gr3 at3); have z3 := gr3.size; clear o3 gr3 at3) | (at_builtin; refine appS rfl (.tmp 9) (.tmp 10) rfl base g3 cap3 (out ++ put x) s ?zzs ?zzo ?zzx ?zzb ?zzba ?_; (case zzs => rw [List.length_append]; rfl); (case zzo => exact O3.out); (case zzx => rfl); (case zzb => rw [List.length_append]; omega); (case zzba => omega); intro g4 cap4 w4 o4 gr4 at4; have E4 : Hid (Ext w w4 base g (out ++ put x ++ txt s) (.returned (.slice (some ⟨g4, 0, none⟩) (out.length + (put x).length + s.size) cap4))) := (by obtain ⟨⟨ga, ca, ea, oa, ha⟩, gra⟩ := E3.out; simp only [Ending.returned.injEq, Value.slice.injEq, Option.some.injEq, Addr.mk.injEq, and_true] at ea; obtain ⟨rfl, _, rfl⟩ := ea; exact PuT.Ext.more gra ha o4 gr4 at4 (by simp only [List.length_append, txt_len]) : Ext w w4 base g (out ++ put x ++ txt s) (.returned (.slice (some ⟨g4, 0, none⟩) (out.length + (put x).length + s.size) cap4))); clear o4 gr4 at4))
  go_ret
  have e1 : out ++ txtIf true s = out ++ put x ++ txt s := by rw [txtIf, if_pos rfl, HX.out, List.append_assoc]
  rw [e1]
  exact E4.out

end Go.Proofs.Ytdhicmbfknagjaa.WxS
