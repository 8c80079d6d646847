/- What the program's kinds write. -/
import Derived.Deep.RegionHeld3
import Derived.Deep.RegionLaw
import Derived.Test.YtikfffeiemlnoabJWR10
import Derived.Test.YtikfffeiemlnoabJWR21
import Derived.Test.YtikfffeiemlnoabJWR22
namespace Go.Proofs.Ytikfffeiemlnoab.WwI
set_option maxRecDepth 8000
open Go.RowKit
open Ls Lp VkP VkR VkI WwP
open SqP (Out app)
open Nums (put)
open PuI (Ext below_grown out_below out_lt out_cell)
open PuT (ints_new nums1 one_in)
open WrP (txt txt_len numsB)
open Recs (hsz below1 below2 below3 chain chainD)
set_option linter.unusedVariables false
theorem kept1 {w w' : World} {g gb q : Nat} {x : Value} (h : w.cell? ⟨gb, q, none⟩ = some x) (gr : w.grownBy w' (some g)) (hne : gb ≠ g) : w'.cell? ⟨gb, q, none⟩ = some x := gr.cell h (by simpa using hne)
set_option maxHeartbeats 1600000 in
theorem flagW (n : Int) (t : ByteArray) (g cap base : Nat) (out : List Int) (w : World) (hn : 0 ≤ n ∧ n ≤ 1) (ho1 : out.length ≤ 900000) (ho : Out w base g cap out) (hbase : base ≤ w.heap.size) :
    Calls Try.prog 110 #[.agg #[], .slice (some ⟨g, 0, none⟩) out.length cap, .agg #[.int .i64 n, .string t]] w fun e w' => Ext w w' base g (out ++ [n]) e := by
  have HO := Seg.hid ho
  clear ho
  go_enter Try.func110, Try.ntmps110
  go_upto_region 1 with fail
  obtain ⟨w2, hw2⟩ : ∃ w2, (w.alloc (.cells #[] 118 (0, 0))).alloc (.cells #[.int .i64 n, .string t] 69 (0, 0)) = w2 := ⟨_, rfl⟩
  have B2 : Hid (Below w.heap.size w w2) := by show Below _ _ _; rw [← hw2]; exact below2 _ _ _
  have O2 : Hid (Out w2 base g cap out) := by show Out _ _ _ _ _; rw [← hw2]; exact World.ownsRow.alloc (World.ownsRow.alloc HO.out _) _
  have c1 : w2.cell? ⟨w.heap.size + 1, 0, none⟩ = some (.int .i64 n) := by rw [← hw2]; exact cell_of_row _ _ 0 _ _ (0, 0) (at2y w _ _)
  have hb2 : base ≤ w2.heap.size := by have := B2.out.size; omega
  try rw [hw2]
  clear hw2
  rcases (show n = 0 ∨ n = 1 by omega) with rfl | rfl
  · go_wp2_with (at_builtin; refine app rfl (.tmp 7) (.tmp 11) rfl base g cap out [0] ?zzs ?zzo ⟨w2.heap.size, 0, none⟩ 1 ?zzx ?zzn ?zzm ?zzb ?zzba ?_; (case zzs => rfl); (case zzo => exact World.ownsRow.alloc O2.out _); (case zzx => rfl); (case zzn => exact SqP.one_new w2 _ _); (case zzm => decide); (case zzb => simp; omega); (case zzba => simp; omega); intro g3 cap3 w3 o3 gr3 at3; have EX : Hid (Ext w w3 base g (out ++ [0]) (.returned (.slice (some ⟨g3, 0, none⟩) (out.length + 1) cap3))) := PuT.Ext.from B2.out (PuT.Ext.more (below_grown (below1 w2 _) (some g)) (.inl rfl) o3 gr3 at3 (by simp)); clear o3 gr3 at3)
    go_ret
    exact EX.out
  · go_wp2_with (at_builtin; refine app rfl (.tmp 7) (.tmp 11) rfl base g cap out [1] ?zzs ?zzo ⟨w2.heap.size, 0, none⟩ 1 ?zzx ?zzn ?zzm ?zzb ?zzba ?_; (case zzs => rfl); (case zzo => exact World.ownsRow.alloc O2.out _); (case zzx => rfl); (case zzn => exact SqP.one_new w2 _ _); (case zzm => decide); (case zzb => simp; omega); (case zzba => simp; omega); intro g3 cap3 w3 o3 gr3 at3; have EX : Hid (Ext w w3 base g (out ++ [1]) (.returned (.slice (some ⟨g3, 0, none⟩) (out.length + 1) cap3))) := PuT.Ext.from B2.out (PuT.Ext.more (below_grown (below1 w2 _) (some g)) (.inl rfl) o3 gr3 at3 (by simp)); clear o3 gr3 at3)
    go_ret
    exact EX.out
set_option maxHeartbeats 1600000 in
theorem numW (lo hi n : Int) (t : ByteArray) (g cap base : Nat) (out : List Int) (w : World) (hn : -1000000000000000 ≤ n ∧ n ≤ 1000000000000000) (ho1 : out.length ≤ 900000) (ho : Out w base g cap out) (hbase : base ≤ w.heap.size) :
    Calls Try.prog 105 #[.agg #[.int .i64 lo, .int .i64 hi], .slice (some ⟨g, 0, none⟩) out.length cap, .agg #[.int .i64 n, .string t]] w fun e w' => Ext w w' base g (out ++ put n) e := by
  have HO := Seg.hid ho
  clear ho
  obtain ⟨l1, hl1⟩ : ∃ l1, out ++ put n = l1 := ⟨_, rfl⟩
  rw [hl1]
  have HL1 := Seg.hid hl1
  clear hl1
  go_enter Try.func105, Try.ntmps105
  go_wp2_with fail
  refine (ints_new g cap base out [n] ((w.alloc _).alloc _) 3 _ (by rw [hsz, hsz]) (by simp) (by omega) (one_in (by omega)) (World.ownsRow.alloc (World.ownsRow.alloc HO.out _) _) (by rw [hsz, hsz]; omega)).mono ?_
  rintro e w1 hE
  rw [nums1, HL1.out] at hE
  have HE := Seg.hid (PuT.Ext.from (below2 w _ _) hE)
  obtain ⟨⟨g1, cap1, rfl, o1, h1⟩, gr⟩ := hE
  clear o1 h1 gr
  go_wp2
  go_ret
  exact HE.out
set_option maxHeartbeats 3200000 in
theorem textW (n : Int) (t : ByteArray) (g cap base : Nat) (out : List Int) (w : World) (ht : t.size ≤ 1000) (ho1 : out.length ≤ 900000) (ho : Out w base g cap out) (hbase : base ≤ w.heap.size) :
    Calls Try.prog 115 #[.agg #[], .slice (some ⟨g, 0, none⟩) out.length cap, .agg #[.int .i64 n, .string t]] w fun e w' => Ext w w' base g (out ++ (put (t.size : Int) ++ txt t)) e := by
  have HO := Seg.hid ho
  have hgl := (out_lt ho).2
  clear ho
  go_enter Try.func115, Try.ntmps115
  go_upto_region 1 with fail
  obtain ⟨w2, hw2⟩ : ∃ w2, (w.alloc (.cells #[] 119 (0, 0))).alloc (.cells #[.int .i64 n, .string t] 69 (0, 0)) = w2 := ⟨_, rfl⟩
  have B2 : Hid (Below w.heap.size w w2) := by show Below _ _ _; rw [← hw2]; exact below2 _ _ _
  have O2 : Hid (Out w2 base g cap out) := by show Out _ _ _ _ _; rw [← hw2]; exact World.ownsRow.alloc (World.ownsRow.alloc HO.out _) _
  have c1 : w2.cell? ⟨w.heap.size + 1, 1, none⟩ = some (.string t) := by rw [← hw2]; exact cell_of_row _ _ 1 _ _ (0, 0) (at2y w _ _)
  have s2 : w2.heap.size = w.heap.size + 2 := by rw [← hw2, hsz, hsz]
  have S2 := Seg.hid s2
  have hb2 : base ≤ w2.heap.size := by omega
  have hbl : w.heap.size + 1 < w2.heap.size := by omega
  have hbg : w.heap.size + 1 ≠ g := by omega
  clear s2
  try rw [hw2]
  clear hw2
  have hpl := WrP.put_le (t.size : Int) (by omega)
  obtain ⟨l1, hl1⟩ : ∃ l1, out ++ put (t.size : Int) = l1 := ⟨_, rfl⟩
  have hll : l1.length ≤ 900010 := by rw [← hl1, List.length_append]; omega
  have HL1 := Seg.hid hl1
  clear hl1 hpl
  go_region_held3 (fun w' => w'.cell? ⟨w.heap.size + 1, 1, none⟩ = some (.string t)) (first | exact c1 | exact d1 | exact e1 | go_keep) (first | (go_at_call 69; refine (ints_new g cap base out [(t.size : Int)] w2.drew 3 _ rfl (by simp) (by omega) (one_in (by omega)) O2.out hb2).mono ?_; rintro e w5 hE; rw [nums1, HL1.out] at hE; obtain ⟨⟨g1, cap1, rfl, o1, h1⟩, gr⟩ := hE; have O5 := Seg.hid o1; have A5 : Hid (g1 = g ∨ w2.heap.size ≤ g1) := h1; have G5 : Hid (w2.grownBy w5 (some g)) := ⟨gr.os, gr.tape, gr.output, gr.size, gr.block⟩; have z5 : w2.heap.size ≤ w5.heap.size := G5.out.size; have d1 := kept1 c1 G5.out hbg; have hb5 : base ≤ w5.heap.size := Nat.le_trans hb2 z5; clear o1 h1 gr) | (refine TxS.step_appS (by rfl) (.tmp 12) (.tmp 14) (by rfl) base g1 cap1 l1 t ?zzs ?zzo ?zzx ?zzb ?zzba ?_; (case zzs => rfl); (case zzo => exact O5.out); (case zzx => rfl); (case zzb => omega); (case zzba => exact hb5); intro g3 cap3 w6 o3 gr3 at3; replace gr3 : w5.grownBy w6 (some g1) := ⟨gr3.os, gr3.tape, gr3.output, gr3.size, gr3.block⟩; replace at3 : g3 = g1 ∨ g3 = w5.heap.size := at3; have e1 := kept1 d1 gr3 (by have := A5.out; omega); have EX : Hid (Ext w w6 base g (out ++ (put (t.size : Int) ++ txt t)) (.returned (.slice (some ⟨g3, 0, none⟩) (l1.length + t.size) cap3))) := PuT.Ext.from B2.out (PuT.Ext.more G5.out A5.out (by rw [← List.append_assoc, HL1.out]; exact o3) gr3 at3 (by rw [← HL1.out]; simp [txt_len, Nat.add_assoc])); clear o3 gr3 at3))
  go_wp2
  go_ret
  exact EX.out
end Go.Proofs.Ytikfffeiemlnoab.WwI
