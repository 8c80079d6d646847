/- putInts of the program; A text's bytes appended to a row of one's own: where the row lies then. -/
import Derived.Lib.AppendStr
import Derived.Test.YtdhicmbfknagjaaJWT07
import Derived.Test.YtdhicmbfknagjaaJWT08
namespace Go.Proofs.Ytdhicmbfknagjaa.PuI
set_option maxRecDepth 8000
open Go.RowKit
open Seg (B)
open SqP (Out app grow)
open Nums (put)
open WrP (numsB)
set_option linter.unusedVariables false

/-- What is answered: a row of the call's own with these bytes; nothing that was there is turned but the row that came in. -/
structure Ext (w w' : World) (base g : Nat) (l : List Int) (e : Ending) : Prop where
  ex : ∃ g' cap', e = .returned (.slice (some ⟨g', 0, none⟩) l.length cap') ∧ Out w' base g' cap' l ∧ (g' = g ∨ w.heap.size ≤ g')
  gr : w.grownBy w' (some g)
theorem below_grown {w w' : World} (h : Below w.heap.size w w') (r : Option Nat) : w.grownBy w' r := ⟨h.os, h.tape, h.output, h.size, fun k hk _ => h.block k hk⟩
theorem out_below {w w' : World} {base g cap : Nat} {l : List Int} (h : Out w base g cap l) (hb : Below w.heap.size w w') : Out w' base g cap l := Seg.owns_below h hb
theorem out_lt {w : World} {base g cap : Nat} {l : List Int} (h : Out w base g cap l) : base ≤ g ∧ g < w.heap.size := (Seg.owns_cap h).2.2
theorem out_cell {w : World} {base g cap : Nat} {l : List Int} (h : Out w base g cap l) (j : Nat) (hj : j < l.length) : w.cell? ((⟨g, 0, none⟩ : Addr).add j) = some (.int .u8 (l.getD j 0)) := by
  rw [SqP.add_at, Nat.zero_add]
  exact Seg.owns_cell h j hj

/-- The numbers from the k-th on are still to be put. -/
structure At (w wr : World) (g base : Nat) (ns out : List Int) (k : Nat) (v : Value) (cur : List Int) : Prop where
  le : k ≤ ns.length
  ou : ∃ g' cap, v = .slice (some ⟨g', 0, none⟩) cur.length cap ∧ Out wr base g' cap cur ∧ (g' = g ∨ w.heap.size ≤ g')
  eq : cur ++ numsB (ns.drop k) = out ++ numsB ns
  gr : w.grownBy wr (some g)
theorem At.next {w wr w2 w3 : World} {g base k g1 g3 cap3 : Nat} {ns out cur : List Int} {v : Value} {x : Int} (h : At w wr g base ns out k v cur) (hk : k < ns.length) (hx : ns.getD k 0 = x) (hb : Below wr.heap.size wr w2) (h1 : g1 = g ∨ w.heap.size ≤ g1)
    (o3 : Out w3 base g3 cap3 (cur ++ put x)) (gr : w2.grownBy w3 (some g1)) (h3 : g3 = g1 ∨ g3 = w2.heap.size) : At w w3 g base ns out (k + 1) (.slice (some ⟨g3, 0, none⟩) (cur.length + (put x).length) cap3) (cur ++ put x) := by
  have s1 := h.gr.size; have s2 := hb.size
  refine ⟨hk, ⟨g3, cap3, by rw [List.length_append], o3, by omega⟩, ?_, grow (h.gr.trans (below_grown hb _)) gr h1⟩
  rw [← h.eq, WrP.numsB_at hk, hx, List.append_assoc]
theorem numsB_le : ∀ (ns : List Int), (∀ x ∈ ns, -9223372036854775808 ≤ x ∧ x ≤ 9223372036854775807) → (numsB ns).length ≤ 10 * ns.length
  | [], _ => by simp [numsB]
  | n :: r, h => by
    have a := Nums.put_len (h n (by simp)).1 (h n (by simp)).2
    have b := numsB_le r fun x hx => h x (by simp [hx])
    simp only [numsB, List.length_append, List.length_cons]
    omega

set_option maxHeartbeats 1600000 in
theorem putInts_any (g cap base gn c : Nat) (out ns : List Int) (w : World) (hn : ns.length ≤ 100) (ho1 : out.length ≤ 5000000) (hc : ns.length ≤ c)
    (hr : ∀ x ∈ ns, -9223372036854775808 ≤ x ∧ x ≤ 9223372036854775807)
    (ho : Out w base g cap out) (hbase : base ≤ w.heap.size) (hgn : gn ≠ g) (hgl : gn < w.heap.size) (hcell : ∀ j, j < ns.length → w.cell? ⟨gn, j, none⟩ = some (.int .i64 (ns.getD j 0))) :
    Calls Try.prog 100 #[.slice (some ⟨g, 0, none⟩) out.length cap, .slice (some ⟨gn, 0, none⟩) ns.length c] w fun e w' => Ext w w' base g (out ++ numsB ns) e := by
  have HC := Seg.hid hcell; have HO := Seg.hid ho; have HR := Seg.hid hr
  have NL := Seg.hid (numsB_le ns hr)
  clear hcell ho hr
  go_enter Try.func100, Try.ntmps100
  go_wp2
  go_loopw [0, 9] (fun v i wr => ∃ (k : Nat) (cur : List Int), i = .int .i64 k ∧ At w wr g base ns out k v cur) (fun _ i _ => ns.length - (intOf i).toNat)
  case atStart => exact ⟨0, out, rfl, Nat.zero_le _, ⟨g, cap, rfl, HO.out, .inl rfl⟩, rfl, World.grownBy.refl _ _⟩
  case round =>
    obtain ⟨k, cur, rfl, P⟩ := hrel
    have HP := Seg.hid P
    obtain ⟨g1, cap1, rfl, o1, hg1⟩ := P.ou
    have hle := P.le
    have hcl : cur.length ≤ 5001000 := by
      have h1 := congrArg List.length P.eq
      have h2 := NL.out
      simp only [List.length_append] at h1
      omega
    have hs1 := P.gr.size
    have HO1 := Seg.hid o1
    clear P o1
    by_cases hlt : k < ns.length
    · have ck : wr.cell? ⟨gn, k, none⟩ = some (.int .i64 (ns.getD k 0)) := HP.out.gr.cell (HC.out k hlt) (by simpa using hgn)
      obtain ⟨x, hx⟩ : ∃ x, ns.getD k 0 = x := ⟨_, rfl⟩
      have hxr : -9223372036854775808 ≤ x ∧ x ≤ 9223372036854775807 := HR.out x (by rw [← hx]; simp [hlt])
      have hpl := Nums.put_len hxr.1 hxr.2
      have HX := Seg.hid hx
      rw [hx] at ck
      clear hx
      have h0 : (0 : Int) ≤ (k : Int) := by omega
      have h1 : (k : Int) < (ns.length : Int) := by omega
      go_wp2_with fail
      refine (Put.impl_any x wr hxr.1 hxr.2).mono ?_
      rintro e w2 ⟨g2, cap2, rfl, o2, b2⟩
      have O2 := Seg.hid o2; have B2 := Seg.hid b2
      have z2 := b2.size
      clear o2 b2
      go_wp2_with (at_builtin; refine app rfl (.tmp 13) (.tmp 15) rfl base g1 cap1 cur (put x) ?hs ?ho ⟨g2, 0, none⟩ cap2 ?hx ?hn ?hm ?hb ?hba ?_; (case hs => rfl); (case ho => exact out_below HO1.out B2.out); (case hx => rfl); (case hn => exact fun j hj => out_cell (l := put x) O2.out j hj); (case hm => exact Nums.put_pos x); (case hb => omega); (case hba => omega); intro g3 cap3 w3 o3 gr3 at3; have NX := Seg.hid (At.next HP.out hlt HX.out B2.out hg1 o3 gr3 at3); clear o3 gr3 at3)
      go_roundw
      case rel => exact ⟨k + 1, _, by go_num, NX.out⟩
      case measure => simp [intOf]; omega
    · obtain rfl : k = ns.length := by omega
      have HE : Hid (cur = out ++ numsB ns) := by
        have := HP.out.eq
        rw [List.drop_length, numsB, List.append_nil] at this
        exact this
      go_wp2
      go_ret
      exact ⟨⟨g1, cap1, by rw [← HE.out]; rfl, HE.out ▸ HO1.out, hg1⟩, HP.out.gr⟩
end Go.Proofs.Ytdhicmbfknagjaa.PuI
namespace Go.Proofs.Ytdhicmbfknagjaa.AppS
set_option maxRecDepth 8000
open Go.RowKit
open Seg (B)
open SqP (Out)
open WrP (txt txt_len)
set_option linter.unusedVariables false
theorem strB (s : ByteArray) : Lib.strCells s = B (txt s) := by simp [Lib.strCells, B, txt]
theorem run_appS (w : World) (ty : TypeId) (base g cap : Nat) (l : List Int) (hown : Out w base g cap l) (s : ByteArray) (hb : l.length + s.size ≤ 10000000) (hbase : base ≤ w.heap.size) :
    ∃ g' cap' w', (Builtin.append_ #[52, 9] ty #[.slice (some ⟨g, 0, none⟩) l.length cap, .string s]).run Try.prog w = .ok (.slice (some ⟨g', 0, none⟩) (l.length + s.size) cap') w' ∧
      Out w' base g' cap' (l ++ txt s) ∧ w.grownBy w' (some g) ∧ (g' = g ∨ g' = w.heap.size) := by
  obtain ⟨i0, hi, hz0, hz1, hz2⟩ := info_parts SqP.infoB
  have hlen : (B (l ++ txt s)).length = (l.length + s.size) * 1 := by simp [B, txt_len]
  have hBl : (B l).length = l.length := by simp [B]
  have happ : B (l ++ txt s) = B l ++ Lib.strCells s := by rw [strB]; simp [B]
  have hsl : (l ++ txt s).length = l.length + s.size := by rw [List.length_append, txt_len]
  rcases hown.2 with ⟨h', _⟩ | ⟨g0, cap0, cur, heq, hbg, hg, hnc, hcm, hcs, htake⟩
  · simp at h'
  simp only [Value.slice.injEq, Option.some.injEq, Addr.mk.injEq, and_true, true_and] at heq
  obtain ⟨rfl, rfl⟩ := heq
  by_cases hroom : l.length + s.size ≤ cap
  · have hcs' : cur.size = cap := by simpa using hcs
    have hr := Lib.run_append_room_string (P := Try.prog) w 52 9 ty 5 i0 Try.underlying52 Try.underlying9 hi hz1 g l.length cap cur hg s hroom (by omega)
    refine ⟨g, cap, _, hr, ?_, ⟨rfl, rfl, rfl, by simp, fun k _ hk => setRow_other w g k _ (fun e => hk (by simp [e]))⟩, .inl rfl⟩
    unfold Out
    rw [hsl]
    refine ⟨hlen, .inr ⟨g, cap, _, rfl, hbg, setRow_heap w g cur _ 5 _ hg, hroom, hcm, ?_, ?_⟩⟩
    · simp only [List.size_toArray, List.length_append, List.length_take, List.length_drop, Array.length_toList, Lib.strCells_length]
      omega
    · have ht' : cur.toList.take l.length = B l := by simpa using htake
      rw [ht', ← hlen, happ]
      exact List.take_left
  · have holds : ∀ j u, (B l)[j]? = some u → w.cell? ((⟨g, 0, none⟩ : Addr).add j) = some u := World.ownsRow.cells hown (g := g) rfl
    have hr := Lib.run_append_grow_string (P := Try.prog) w 52 9 ty 5 i0 (.int .u8 0) Try.underlying52 Try.underlying9 hi hz0 ⟨g, 0, none⟩ l.length cap (B l) (by rw [hz1]; simpa using hBl) holds s (by omega) (by omega) (by rw [hz2]; exact growslice_fits (by omega) (by omega))
    have hge := grownCap_ge w (l.length + s.size) cap 5
    have hcm2 : grownCap w (l.length + s.size) cap 5 ≤ maxLen := grownCap_le_maxLen w (l.length + s.size) cap 5 (by unfold maxLen; omega)
    refine ⟨_, _, _, hr, ?_, ⟨rfl, rfl, rfl, by simp, fun k hk _ => heap_alloc_old w.drew _ hk⟩, .inr rfl⟩
    unfold Out
    rw [hsl]
    refine ⟨hlen, .inr ⟨w.heap.size, _, _, rfl, hbase, heap_alloc_new w.drew _, hge, hcm2, ?_, ?_⟩⟩
    · have hz1' : (Value.int IntKind.u8 0).cells.size = 1 := rfl
      simp only [Array.size_append, List.size_toArray, size_zeroCells, hz1', hBl, Lib.strCells_length]
      omega
    · rw [happ] at hlen ⊢
      simp only [Array.toList_append]
      rw [← hlen]
      exact List.take_left

theorem appS {w : World} {ops : Array Oper} {rest : List Oper} {o : Oper} {a : Act} {Q : Exit → Act → World → Prop} (hgd : o.guard = none) (s x : Operand) (ho : o.op = .call { callee := .builtin .append, args := #[s, x], argTypes := #[52, 9] })
    (base g cap : Nat) (l : List Int) (t : ByteArray) (hs : a.eval s = .slice (some ⟨g, 0, none⟩) l.length cap) (hown : Out w base g cap l) (hx : a.eval x = .string t) (hb : l.length + t.size ≤ 10000000) (hbase : base ≤ w.heap.size)
    (h : ∀ g' cap' w', Out w' base g' cap' (l ++ txt t) → w.grownBy w' (some g) → (g' = g ∨ g' = w.heap.size) → wpList Try.prog ops Q rest (a.put o.dst (.slice (some ⟨g', 0, none⟩) (l.length + t.size) cap')) w') : wpList Try.prog ops Q (o :: rest) a w := by
  refine wpList_plain hgd fun K hK => ?_
  obtain ⟨g', cap', w', hr, h2, h3, h4⟩ := run_appS w o.type base g cap l hown t hb hbase
  unfold Oper.wp execOp
  simp only [ho, resolve, invoke, builtin, Sem.run_bind, Sem.run_pure, Result.andThen_ok, List.map_toArray, List.map_cons, List.map_nil, hs, hx, hr]
  exact hK _ _ (h g' cap' w' h2 h3 h4)
end Go.Proofs.Ytdhicmbfknagjaa.AppS
