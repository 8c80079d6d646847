/- putInts of the program; A text's bytes appended to a row of one's own: where the row lies then; putTextIf and putHeads of the program. -/
import Derived.Lib.AppendStr
import Derived.Test.YtoplbemolnpngaaGreatJP13
import Derived.Test.YtoplbemolnpngaaGreatJP14
namespace Go.Proofs.YtoplbemolnpngaaGreat.PuI
set_option maxRecDepth 8000
open Go.RowKit
open Seg (B)
open SqP (Out app grow)
open Nums (put)
open WrP (numsB)
set_option linter.unusedVariables false

/-- What is answered: a row of the call's own with these bytes; nothing that was there is turned but the row that came in. -/
structure Ext (w w' : World) (base g : Nat) (l : List Int) (e : Ending) : Prop where
  ex : ∃ g' cap', e = .returned (.slice (some ⟨g', 0, none⟩) l.length cap') ∧ Out w' base g' cap' l ∧ (g' = g ∨ w.heap.size ≤ g')
  gr : w.grownBy w' (some g)
theorem below_grown {w w' : World} (h : Below w.heap.size w w') (r : Option Nat) : w.grownBy w' r := ⟨h.os, h.tape, h.output, h.size, fun k hk _ => h.block k hk⟩
theorem out_below {w w' : World} {base g cap : Nat} {l : List Int} (h : Out w base g cap l) (hb : Below w.heap.size w w') : Out w' base g cap l := Seg.owns_below h hb
theorem out_lt {w : World} {base g cap : Nat} {l : List Int} (h : Out w base g cap l) : base ≤ g ∧ g < w.heap.size := (Seg.owns_cap h).2.2
theorem out_cell {w : World} {base g cap : Nat} {l : List Int} (h : Out w base g cap l) (j : Nat) (hj : j < l.length) : w.cell? ((⟨g, 0, none⟩ : Addr).add j) = some (.int .u8 (l.getD j 0)) := by
  rw [SqP.add_at, Nat.zero_add]
  exact Seg.owns_cell h j hj

/-- The numbers from the k-th on are still to be put. -/
structure At (w wr : World) (g base : Nat) (ns out : List Int) (k : Nat) (v : Value) (cur : List Int) : Prop where
  le : k ≤ ns.length
  ou : ∃ g' cap, v = .slice (some ⟨g', 0, none⟩) cur.length cap ∧ Out wr base g' cap cur ∧ (g' = g ∨ w.heap.size ≤ g')
  eq : cur ++ numsB (ns.drop k) = out ++ numsB ns
  gr : w.grownBy wr (some g)
theorem At.next {w wr w2 w3 : World} {g base k g1 g3 cap3 : Nat} {ns out cur : List Int} {v : Value} {x : Int} (h : At w wr g base ns out k v cur) (hk : k < ns.length) (hx : ns.getD k 0 = x) (hb : Below wr.heap.size wr w2) (h1 : g1 = g ∨ w.heap.size ≤ g1)
    (o3 : Out w3 base g3 cap3 (cur ++ put x)) (gr : w2.grownBy w3 (some g1)) (h3 : g3 = g1 ∨ g3 = w2.heap.size) : At w w3 g base ns out (k + 1) (.slice (some ⟨g3, 0, none⟩) (cur.length + (put x).length) cap3) (cur ++ put x) := by
  have s1 := h.gr.size; have s2 := hb.size
  refine ⟨hk, ⟨g3, cap3, by rw [List.length_append], o3, by omega⟩, ?_, grow (h.gr.trans (below_grown hb _)) gr h1⟩
  rw [← h.eq, WrP.numsB_at hk, hx, List.append_assoc]
theorem numsB_le : ∀ (ns : List Int), (∀ x ∈ ns, -9223372036854775808 ≤ x ∧ x ≤ 9223372036854775807) → (numsB ns).length ≤ 10 * ns.length
  | [], _ => by simp [numsB]
  | n :: r, h => by
    have a := Nums.put_len (h n (by simp)).1 (h n (by simp)).2
    have b := numsB_le r fun x hx => h x (by simp [hx])
    simp only [numsB, List.length_append, List.length_cons]
    omega

set_option maxHeartbeats 1600000 in
theorem putInts_any (g cap base gn c : Nat) (out ns : List Int) (w : World) (hn : ns.length ≤ 100) (ho1 : out.length ≤ 5000000) (hc : ns.length ≤ c)
    (hr : ∀ x ∈ ns, -9223372036854775808 ≤ x ∧ x ≤ 9223372036854775807)
    (ho : Out w base g cap out) (hbase : base ≤ w.heap.size) (hgn : gn ≠ g) (hgl : gn < w.heap.size) (hcell : ∀ j, j < ns.length → w.cell? ⟨gn, j, none⟩ = some (.int .i64 (ns.getD j 0))) :
    Calls Tryz.prog 100 #[.slice (some ⟨g, 0, none⟩) out.length cap, .slice (some ⟨gn, 0, none⟩) ns.length c] w fun e w' => Ext w w' base g (out ++ numsB ns) e := by
  have HC := Seg.hid hcell; have HO := Seg.hid ho; have HR := Seg.hid hr
  have NL := Seg.hid (numsB_le ns hr)
  clear hcell ho hr
  go_enter Tryz.func100, Tryz.ntmps100
  go_wp2
  go_loopw [0, 9] (fun v i wr => ∃ (k : Nat) (cur : List Int), i = .int .i64 k ∧ At w wr g base ns out k v cur) (fun _ i _ => ns.length - (intOf i).toNat)
  case atStart => exact ⟨0, out, rfl, Nat.zero_le _, ⟨g, cap, rfl, HO.out, .inl rfl⟩, rfl, World.grownBy.refl _ _⟩
  case round =>
    obtain ⟨k, cur, rfl, P⟩ := hrel
    have HP := Seg.hid P
    obtain ⟨g1, cap1, rfl, o1, hg1⟩ := P.ou
    have hle := P.le
    have hcl : cur.length ≤ 5001000 := by
      have h1 := congrArg List.length P.eq
      have h2 := NL.out
      simp only [List.length_append] at h1
      omega
    have hs1 := P.gr.size
    have HO1 := Seg.hid o1
    clear P o1
    by_cases hlt : k < ns.length
    · have ck : wr.cell? ⟨gn, k, none⟩ = some (.int .i64 (ns.getD k 0)) := HP.out.gr.cell (HC.out k hlt) (by simpa using hgn)
      obtain ⟨x, hx⟩ : ∃ x, ns.getD k 0 = x := ⟨_, rfl⟩
      have hxr : -9223372036854775808 ≤ x ∧ x ≤ 9223372036854775807 := HR.out x (by rw [← hx]; simp [hlt])
      have hpl := Nums.put_len hxr.1 hxr.2
      have HX := Seg.hid hx
      rw [hx] at ck
      clear hx
      have h0 : (0 : Int) ≤ (k : Int) := by omega
      have h1 : (k : Int) < (ns.length : Int) := by omega
      go_wp2_with fail
      refine (Put.impl_any x wr hxr.1 hxr.2).mono ?_
      rintro e w2 ⟨g2, cap2, rfl, o2, b2⟩
      have O2 := Seg.hid o2; have B2 := Seg.hid b2
      have z2 := b2.size
      clear o2 b2
      go_wp2_with (at_builtin; refine app rfl (.tmp 13) (.tmp 15) rfl base g1 cap1 cur (put x) ?hs ?ho ⟨g2, 0, none⟩ cap2 ?hx ?hn ?hm ?hb ?hba ?_; (case hs => rfl); (case ho => exact out_below HO1.out B2.out); (case hx => rfl); (case hn => exact fun j hj => out_cell (l := put x) O2.out j hj); (case hm => exact Nums.put_pos x); (case hb => omega); (case hba => omega); intro g3 cap3 w3 o3 gr3 at3; have NX := Seg.hid (At.next HP.out hlt HX.out B2.out hg1 o3 gr3 at3); clear o3 gr3 at3)
      go_roundw
      case rel => exact ⟨k + 1, _, by go_num, NX.out⟩
      case measure => simp [intOf]; omega
    · obtain rfl : k = ns.length := by omega
      have HE : Hid (cur = out ++ numsB ns) := by
        have := HP.out.eq
        rw [List.drop_length, numsB, List.append_nil] at this
        exact this
      go_wp2
      go_ret
      exact ⟨⟨g1, cap1, by rw [← HE.out]; rfl, HE.out ▸ HO1.out, hg1⟩, HP.out.gr⟩
end Go.Proofs.YtoplbemolnpngaaGreat.PuI
namespace Go.Proofs.YtoplbemolnpngaaGreat.AppS
set_option maxRecDepth 8000
open Go.RowKit
open Seg (B)
open SqP (Out)
open WrP (txt txt_len)
set_option linter.unusedVariables false
theorem strB (s : ByteArray) : Lib.strCells s = B (txt s) := by simp [Lib.strCells, B, txt]
theorem run_appS (w : World) (ty : TypeId) (base g cap : Nat) (l : List Int) (hown : Out w base g cap l) (s : ByteArray) (hb : l.length + s.size ≤ 10000000) (hbase : base ≤ w.heap.size) :
    ∃ g' cap' w', (Builtin.append_ #[78, 9] ty #[.slice (some ⟨g, 0, none⟩) l.length cap, .string s]).run Tryz.prog w = .ok (.slice (some ⟨g', 0, none⟩) (l.length + s.size) cap') w' ∧
      Out w' base g' cap' (l ++ txt s) ∧ w.grownBy w' (some g) ∧ (g' = g ∨ g' = w.heap.size) := by
  obtain ⟨i0, hi, hz0, hz1, hz2⟩ := info_parts SqP.infoB
  have hlen : (B (l ++ txt s)).length = (l.length + s.size) * 1 := by simp [B, txt_len]
  have hBl : (B l).length = l.length := by simp [B]
  have happ : B (l ++ txt s) = B l ++ Lib.strCells s := by rw [strB]; simp [B]
  have hsl : (l ++ txt s).length = l.length + s.size := by rw [List.length_append, txt_len]
  rcases hown.2 with ⟨h', _⟩ | ⟨g0, cap0, cur, heq, hbg, hg, hnc, hcm, hcs, htake⟩
  · simp at h'
  simp only [Value.slice.injEq, Option.some.injEq, Addr.mk.injEq, and_true, true_and] at heq
  obtain ⟨rfl, rfl⟩ := heq
  by_cases hroom : l.length + s.size ≤ cap
  · have hcs' : cur.size = cap := by simpa using hcs
    have hr := Lib.run_append_room_string (P := Tryz.prog) w 78 9 ty 5 i0 Tryz.underlying78 Tryz.underlying9 hi hz1 g l.length cap cur hg s hroom (by omega)
    refine ⟨g, cap, _, hr, ?_, ⟨rfl, rfl, rfl, by simp, fun k _ hk => setRow_other w g k _ (fun e => hk (by simp [e]))⟩, .inl rfl⟩
    unfold Out
    rw [hsl]
    refine ⟨hlen, .inr ⟨g, cap, _, rfl, hbg, setRow_heap w g cur _ 5 _ hg, hroom, hcm, ?_, ?_⟩⟩
    · simp only [List.size_toArray, List.length_append, List.length_take, List.length_drop, Array.length_toList, Lib.strCells_length]
      omega
    · have ht' : cur.toList.take l.length = B l := by simpa using htake
      rw [ht', ← hlen, happ]
      exact List.take_left
  · have holds : ∀ j u, (B l)[j]? = some u → w.cell? ((⟨g, 0, none⟩ : Addr).add j) = some u := World.ownsRow.cells hown (g := g) rfl
    have hr := Lib.run_append_grow_string (P := Tryz.prog) w 78 9 ty 5 i0 (.int .u8 0) Tryz.underlying78 Tryz.underlying9 hi hz0 ⟨g, 0, none⟩ l.length cap (B l) (by rw [hz1]; simpa using hBl) holds s (by omega) (by omega) (by rw [hz2]; exact growslice_fits (by omega) (by omega))
    have hge := grownCap_ge w (l.length + s.size) cap 5
    have hcm2 : grownCap w (l.length + s.size) cap 5 ≤ maxLen := grownCap_le_maxLen w (l.length + s.size) cap 5 (by unfold maxLen; omega)
    refine ⟨_, _, _, hr, ?_, ⟨rfl, rfl, rfl, by simp, fun k hk _ => heap_alloc_old w.drew _ hk⟩, .inr rfl⟩
    unfold Out
    rw [hsl]
    refine ⟨hlen, .inr ⟨w.heap.size, _, _, rfl, hbase, heap_alloc_new w.drew _, hge, hcm2, ?_, ?_⟩⟩
    · have hz1' : (Value.int IntKind.u8 0).cells.size = 1 := rfl
      simp only [Array.size_append, List.size_toArray, size_zeroCells, hz1', hBl, Lib.strCells_length]
      omega
    · rw [happ] at hlen ⊢
      simp only [Array.toList_append]
      rw [← hlen]
      exact List.take_left

theorem appS {w : World} {ops : Array Oper} {rest : List Oper} {o : Oper} {a : Act} {Q : Exit → Act → World → Prop} (hgd : o.guard = none) (s x : Operand) (ho : o.op = .call { callee := .builtin .append, args := #[s, x], argTypes := #[78, 9] })
    (base g cap : Nat) (l : List Int) (t : ByteArray) (hs : a.eval s = .slice (some ⟨g, 0, none⟩) l.length cap) (hown : Out w base g cap l) (hx : a.eval x = .string t) (hb : l.length + t.size ≤ 10000000) (hbase : base ≤ w.heap.size)
    (h : ∀ g' cap' w', Out w' base g' cap' (l ++ txt t) → w.grownBy w' (some g) → (g' = g ∨ g' = w.heap.size) → wpList Tryz.prog ops Q rest (a.put o.dst (.slice (some ⟨g', 0, none⟩) (l.length + t.size) cap')) w') : wpList Tryz.prog ops Q (o :: rest) a w := by
  refine wpList_plain hgd fun K hK => ?_
  obtain ⟨g', cap', w', hr, h2, h3, h4⟩ := run_appS w o.type base g cap l hown t hb hbase
  unfold Oper.wp execOp
  simp only [ho, resolve, invoke, builtin, Sem.run_bind, Sem.run_pure, Result.andThen_ok, List.map_toArray, List.map_cons, List.map_nil, hs, hx, hr]
  exact hK _ _ (h g' cap' w' h2 h3 h4)
end Go.Proofs.YtoplbemolnpngaaGreat.AppS
namespace Go.Proofs.YtoplbemolnpngaaGreat.PuT
set_option maxRecDepth 8000
open Go.RowKit
open Seg (B)
open SqP (Out grow)
open Nums (put)
open PuI (Ext below_grown out_below out_lt putInts_any)
open AppS (appS)
open WrP
open Recs (Hd Rec Heads below1 hsz hdCells)
set_option linter.unusedVariables false

theorem Ext.from {w w1 w' : World} {base g : Nat} {l : List Int} {e : Ending} (hb : Below w.heap.size w w1) (h : Ext w1 w' base g l e) : Ext w w' base g l e := by
  obtain ⟨⟨g', c', h1, h2, h3⟩, h4⟩ := h
  have := hb.size
  exact ⟨⟨g', c', h1, h2, by omega⟩, (below_grown hb _).trans h4⟩
theorem Ext.then {w w1 w2 : World} {base g g1 : Nat} {l : List Int} {e : Ending} (gr : w.grownBy w1 (some g)) (h1 : g1 = g ∨ w.heap.size ≤ g1) (h : Ext w1 w2 base g1 l e) : Ext w w2 base g l e := by
  obtain ⟨⟨g', c', a1, a2, a3⟩, a4⟩ := h
  have := gr.size
  exact ⟨⟨g', c', a1, a2, by omega⟩, grow gr a4 h1⟩
/-- One thing more is put. -/
theorem Ext.more {w w1 w2 : World} {base g g1 g2 cap2 n : Nat} {l : List Int} (gr : w.grownBy w1 (some g)) (h1 : g1 = g ∨ w.heap.size ≤ g1) (o2 : Out w2 base g2 cap2 l) (gr2 : w1.grownBy w2 (some g1)) (h2 : g2 = g1 ∨ g2 = w1.heap.size) (hn : n = l.length) :
    Ext w w2 base g l (.returned (.slice (some ⟨g2, 0, none⟩) n cap2)) := by
  have := gr.size
  exact ⟨⟨g2, cap2, by rw [hn], o2, by omega⟩, grow gr gr2 h1⟩
/-- A new row of numbers. -/
theorem new_cells (w : World) (ns : List Int) (t : TypeId) : ∀ j, j < ns.length → (w.alloc (.cells (ns.map (Value.int .i64)).toArray t)).cell? ⟨w.heap.size, j, none⟩ = some (.int .i64 (ns.getD j 0)) := fun j hj => by
  rw [cell_of_row _ _ j _ _ _ (heap_alloc_new _ _)]
  simp [hj]
theorem new_lt (w : World) (o : Obj) : w.heap.size < (w.alloc o).heap.size := by rw [hsz]; omega
theorem out_ne {w : World} {base g cap : Nat} {l : List Int} (h : Out w base g cap l) : w.heap.size ≠ g := by have := (out_lt h).2; omega
theorem one_in {x : Int} (h : -9223372036854775808 ≤ x ∧ x ≤ 9223372036854775807) : ∀ y ∈ [x], -9223372036854775808 ≤ y ∧ y ≤ 9223372036854775807 := fun y hy => by simp at hy; subst hy; exact h
theorem two_in {x z : Int} (h : -9223372036854775808 ≤ x ∧ x ≤ 9223372036854775807) (h' : -9223372036854775808 ≤ z ∧ z ≤ 9223372036854775807) : ∀ y ∈ [x, z], -9223372036854775808 ≤ y ∧ y ≤ 9223372036854775807 := fun y hy => by
  simp at hy
  rcases hy with rfl | rfl
  · exact h
  · exact h'
theorem nums1 (x : Int) : numsB [x] = put x := by simp [numsB]
theorem nums2 (x y : Int) : numsB [x, y] = put x ++ put y := by simp [numsB]

/-- putInts with a new list, as the walk meets it. -/
theorem ints_new (g cap base : Nat) (out ns : List Int) (w : World) (t : TypeId) (gn : Nat) (hgn : w.heap.size = gn) (hn : ns.length ≤ 100) (ho1 : out.length ≤ 5000000) (hr : ∀ x ∈ ns, -9223372036854775808 ≤ x ∧ x ≤ 9223372036854775807) (ho : Out w base g cap out) (hbase : base ≤ w.heap.size) :
    Calls Tryz.prog 100 #[.slice (some ⟨g, 0, none⟩) out.length cap, .slice (some ⟨gn, 0, none⟩) ns.length ns.length] (w.alloc (.cells (ns.map (Value.int .i64)).toArray t)) fun e w' => Ext w w' base g (out ++ numsB ns) e := by
  subst hgn
  exact (putInts_any g cap base w.heap.size ns.length out ns (w.alloc (.cells (ns.map (Value.int .i64)).toArray t)) hn ho1 (Nat.le_refl _) hr (World.ownsRow.alloc ho _) (by rw [hsz]; omega) (out_ne ho) (new_lt w _) (new_cells w ns t)).mono fun e w' h => Ext.from (below1 w _) h
theorem kept {w w' : World} {g k : Nat} {x : Obj} (h : w.heap[k]? = some x) (gr : w.grownBy w' (some g)) (hne : k ≠ g) : w'.heap[k]? = some x := (gr.block k (Array.getElem?_eq_some_iff.1 h).1 (by simpa using hne)).trans h

set_option maxHeartbeats 800000 in
theorem putTextIf_any (g cap base : Nat) (out : List Int) (b : Bool) (s : ByteArray) (w : World) (ho1 : out.length ≤ 900000) (hs : s.size ≤ 1000) (ho : Out w base g cap out) (hbase : base ≤ w.heap.size) :
    Calls Tryz.prog 102 #[.slice (some ⟨g, 0, none⟩) out.length cap, .bool b, .string s] w fun e w' => Ext w w' base g (out ++ txtIf b s) e := by
  have HO := Seg.hid ho
  clear ho
  cases b with
  | false =>
    obtain ⟨l1, hl1⟩ : ∃ l1, out ++ txtIf false s = l1 := ⟨_, rfl⟩
    rw [hl1]
    have HL1 := Seg.hid hl1
    clear hl1
    go_enter Tryz.func102, Tryz.ntmps102
    go_wp2_with fail
    refine (ints_new g cap base out [-1] w 3 _ rfl (by decide) (by omega) (one_in (by omega)) HO.out hbase).mono ?_
    rintro e w1 hE
    rw [nums1] at hE
    have hE : Ext w w1 base g (out ++ txtIf false s) e := hE
    rw [HL1.out] at hE
    have HE := Seg.hid hE
    obtain ⟨⟨g1, cap1, rfl, o1, h1⟩, gr⟩ := hE
    clear o1 h1 gr
    go_wp2
    go_ret
    exact HE.out
  | true =>
    go_enter Tryz.func102, Tryz.ntmps102
    go_wp2_with fail
    refine (ints_new g cap base out [(s.size : Int)] w 3 _ rfl (by simp) (by omega) (one_in (by omega)) HO.out hbase).mono ?_
    rintro e w1 hE
    rw [nums1] at hE
    have hpl := WrP.put_le (s.size : Int) (by omega)
    obtain ⟨l1, hl1⟩ : ∃ l1, out ++ put (s.size : Int) = l1 := ⟨_, rfl⟩
    have hll : l1.length ≤ 900010 := by rw [← hl1, List.length_append]; omega
    have HL1 := Seg.hid hl1
    rw [hl1] at hE
    clear hl1
    obtain ⟨⟨g1, cap1, rfl, o1, h1⟩, gr⟩ := hE
    have O1 := Seg.hid o1; have G1 := Seg.hid gr; have A1 := Seg.hid h1
    have hz := gr.size
    clear o1 h1 gr
    go_wp2_with (at_builtin; refine appS rfl (.tmp 16) (.tmp 17) rfl base g1 cap1 l1 s ?hs ?ho ?hx ?hb ?hba ?_; (case hs => rfl); (case ho => exact O1.out); (case hx => rfl); (case hb => omega); (case hba => omega); intro g3 cap3 w3 o3 gr3 at3; have EX : Hid (Ext w w3 base g (out ++ txtIf true s) (.returned (.slice (some ⟨g3, 0, none⟩) (l1.length + s.size) cap3))) := Ext.more G1.out A1.out (by have h := o3; rw [← HL1.out, List.append_assoc] at h; exact h) gr3 at3 (by rw [← HL1.out]; simp [txtIf, txt_len, Nat.add_assoc]); clear o3 gr3 at3)
    go_ret
    exact EX.out

theorem heads_cells {w wr : World} {gh o n g base lo b : Nat} {hs : List Hd} (h : ∀ i, i < n → ∀ j, j < 2 → w.cell? ⟨gh, o + i * 2 + j, none⟩ = some (hdCells hs i j)) (gr : w.grownBy wr (some g)) (hne : gh ≠ g) :
    ∀ i, i < n → ∀ j, j < 2 → wr.cell? ⟨gh, o + i * 2 + j, none⟩ = some (hdCells hs i j) := fun i hi j hj => gr.cell (h i hi j hj) (by simpa using hne)

set_option maxHeartbeats 1600000 in
theorem putHeads_any (g cap base lo b : Nat) (out : List Int) (hv : Value) (hs : List Hd) (w : World) (ho1 : out.length ≤ 800000) (hl : hs.length ≤ 1000) (hk : hs.all ROk.okH = true) (hh : Heads w lo b hv hs) (hbb : b ≤ base) (ho : Out w base g cap out) (hbase : base ≤ w.heap.size) :
    Calls Tryz.prog 103 #[.slice (some ⟨g, 0, none⟩) out.length cap, hv] w fun e w' => Ext w w' base g (out ++ hds hs) e := by
  obtain ⟨hn, A, c, rfl, hrow⟩ := hh
  have HR := Seg.hid hrow; have HO := Seg.hid ho; have HK := Seg.hid hk
  have hgb := (out_lt ho).1
  have HBL := Seg.hid (hdsB_le hs hk)
  clear hrow ho hk
  go_enter Tryz.func103, Tryz.ntmps103
  go_wp2_with fail
  refine (ints_new g cap base out [(hs.length : Int)] w 3 _ rfl (by simp) (by omega) (one_in (by omega)) HO.out hbase).mono ?_
  rintro e w1 hE
  rw [nums1] at hE
  have hpl := WrP.put_le (hs.length : Int) (by omega)
  obtain ⟨l1, hl1⟩ : ∃ l1, out ++ put (hs.length : Int) = l1 := ⟨_, rfl⟩
  have hll : l1.length ≤ 800010 := by rw [← hl1, List.length_append]; omega
  have HT : Hid (out ++ hds hs = l1 ++ hdsB hs) := by show _ = _; rw [← hl1, hds, List.append_assoc]
  rw [hl1] at hE
  clear hl1
  have HE := Seg.hid hE
  obtain ⟨⟨g1, cap1, rfl, o1, h1⟩, gr⟩ := hE
  clear o1 h1 gr
  go_wp2
  go_loopw [0, 14] (fun v i wr => ∃ (k : Nat) (cur : List Int), i = .int .i64 k ∧ k ≤ hs.length ∧ Ext w wr base g cur (.returned v) ∧ Hid (cur ++ hdsB (hs.drop k) = l1 ++ hdsB hs)) (fun _ i _ => hs.length - (intOf i).toNat)
  case atStart => exact ⟨0, l1, rfl, Nat.zero_le _, HE.out, rfl⟩
  case round =>
    clear HE
    obtain ⟨k, cur, rfl, hle, hE, HQ⟩ := hrel
    obtain ⟨⟨g2, cap2, hv2, o2, h2⟩, gr2⟩ := hE
    simp only [Ending.returned.injEq] at hv2
    subst hv2
    have O2 := Seg.hid o2; have G2 := Seg.hid gr2; have A2 := Seg.hid h2
    have z2 := gr2.size
    have hcl : cur.length ≤ 1050000 := by
      have h1 := congrArg List.length HQ.out
      have h3 := HBL.out
      simp only [List.length_append] at h1
      omega
    clear o2 h2 gr2
    by_cases hlt : k < hs.length
    · obtain ⟨gh, o, rfl, hgh, hc, hcell, _⟩ := HR.out.resolve_left (by omega)
      obtain ⟨c0, c1⟩ := Heads.cell0 (heads_cells (lo := lo) (b := b) (base := base) hcell G2.out (by omega)) k hlt
      obtain ⟨hk1, hk2⟩ := okH_parts (List.all_eq_true.1 HK.out (hs.getD k default) (by simp [hlt]))
      have HQ' : Hid (cur ++ (hd (hs.getD k default) ++ hdsB (hs.drop (k + 1))) = l1 ++ hdsB hs) := by rw [← hdsB_at hlt]; exact HQ.out
      generalize hs.getD k default = hk at *
      have h0 : (0 : Int) ≤ (k : Int) := by omega
      have h1 : (k : Int) < (hs.length : Int) := by omega
      clear hcell
      obtain ⟨hvar, hve⟩ : ∃ o : Obj, o = .cells #[.string hk.key, .string hk.val] 95 (0, 0) := ⟨_, rfl⟩
      have hpl1 := WrP.put_le (hk.key.size : Int) (by omega)
      have hpl2 := WrP.put_le (hk.val.size : Int) (by omega)
      go_wp2_with fail
      refine (ints_new g2 cap2 base cur [(hk.key.size : Int), (hk.val.size : Int)] (wr.alloc _) 3 _ (hsz wr _) (by simp) (by omega) (two_in (by omega) (by omega)) (World.ownsRow.alloc O2.out _) (by rw [hsz]; omega)).mono ?_
      rintro e w3 hE
      rw [nums2] at hE
      obtain ⟨l3, hl3⟩ : ∃ l3, cur ++ (put (hk.key.size : Int) ++ put (hk.val.size : Int)) = l3 := ⟨_, rfl⟩
      have hl3l : l3.length ≤ 1050020 := by rw [← hl3]; simp only [List.length_append]; omega
      rw [hl3] at hE
      have HL3 := Seg.hid hl3
      obtain ⟨⟨g3, cap3, rfl, o3, h3⟩, gr3⟩ := hE
      have O3 := Seg.hid o3
      have z3 := gr3.size
      rw [hsz] at h3 z3
      have n2 := out_ne O2.out
      have n3 : wr.heap.size ≠ g3 := by omega
      have V3 := Seg.hid (kept (heap_alloc_new wr _) gr3 n2)
      have G3 : Hid (wr.grownBy w3 (some g2)) := (World.grownBy_alloc _ _ _).trans gr3
      have H3 : Hid (g3 = g2 ∨ wr.heap.size ≤ g3) := (by omega : g3 = g2 ∨ wr.heap.size ≤ g3)
      have d0 : w3.cell? ⟨wr.heap.size, 0, none⟩ = some (.string hk.key) := cell_of_row w3 _ 0 _ _ (0, 0) V3.out
      clear o3 gr3 hl3 hve
      go_wp2_with (first | (at_builtin; refine appS rfl (.tmp 27) (.tmp 29) rfl base g3 cap3 l3 hk.key ?hs ?ho ?hx ?hb ?hba ?_; (case hs => rfl); (case ho => exact O3.out); (case hx => rfl); (case hb => omega); (case hba => omega); intro g4 cap4 w4 o4 gr4 at4; have O4 := Seg.hid o4; have G4 := Seg.hid (grow G3.out gr4 H3.out); have A4 : Hid (g4 = g2 ∨ wr.heap.size ≤ g4) := (by have := H3.out; omega : g4 = g2 ∨ wr.heap.size ≤ g4); have z4 := gr4.size; have n4 : wr.heap.size ≠ g4 := (by omega); have V4 := Seg.hid (kept V3.out gr4 n3); have d1 : w4.cell? ⟨wr.heap.size, 1, none⟩ = some (.string hk.val) := (cell_of_row w4 _ 1 _ _ (0, 0) V4.out); clear o4 gr4 at4) | (at_builtin; refine appS rfl (.tmp 31) (.tmp 33) rfl base g4 cap4 (l3 ++ txt hk.key) hk.val ?hs ?ho ?hx ?hb ?hba ?_; (case hs => rw [List.length_append, txt_len]; rfl); (case ho => exact O4.out); (case hx => rfl); (case hb => rw [List.length_append, txt_len]; omega); (case hba => omega); intro g5 cap5 w5 o5 gr5 at5; have E5 : Hid (Ext wr w5 base g2 (l3 ++ txt hk.key ++ txt hk.val) (.returned (.slice (some ⟨g5, 0, none⟩) (l3.length + (txt hk.key).length + hk.val.size) cap5))) := Ext.more G4.out A4.out o5 gr5 at5 (by simp only [List.length_append, txt_len]); clear o5 gr5 at5))
      go_roundw
      case rel =>
        refine ⟨k + 1, l3 ++ txt hk.key ++ txt hk.val, by go_num, by omega, Ext.then G2.out A2.out E5.out, ?_⟩
        show _ = _
        rw [← HQ'.out, ← HL3.out, hd]
        simp only [List.append_assoc]
      case measure => simp [intOf]; omega
    · obtain rfl : k = hs.length := by omega
      have HE : Hid (cur = out ++ hds hs) := by
        have := HQ.out
        rw [List.drop_length, hdsB, List.append_nil] at this
        rw [this]
        exact HT.out.symm
      go_wp2
      go_ret
      exact ⟨⟨g2, cap2, by rw [← HE.out]; rfl, HE.out ▸ O2.out, A2.out⟩, G2.out⟩
end Go.Proofs.YtoplbemolnpngaaGreat.PuT
