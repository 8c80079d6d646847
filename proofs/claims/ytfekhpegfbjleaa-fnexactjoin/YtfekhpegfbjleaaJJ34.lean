/- l2Text and l2Four of the model. (Written by gen_wrs.py.). -/
import Derived.Deep.RegionHeld3
import Derived.Test.YtfekhpegfbjleaaJJ16
import Derived.Test.YtfekhpegfbjleaaJJ17
namespace Go.Proofs.Ytfekhpegfbjleaa.WrS
set_option maxRecDepth 8000
open Go.RowKit
open Seg (B)
open SqP (Out app grow)
open Nums (put)
open PuI (Ext below_grown out_below out_lt out_cell)
open PuT (kept)
open AppS (appS run_appS)
open WrB (Mid AtB six_of all_at)
open WrP
open Recs
set_option linter.unusedVariables false

theorem step_appS {w : World} {ops : Array Oper} {o : Oper} {a : Act} {K : Act → World → Prop} {Q : Exit → Act → World → Prop} {E : Prop} (hgd : o.guard = none) (s x : Operand) (ho : o.op = .call { callee := .builtin .append, args := #[s, x], argTypes := #[67, 9] })
    (base g cap : Nat) (l : List Int) (t : ByteArray) (hs : a.eval s = .slice (some ⟨g, 0, none⟩) l.length cap) (hown : Out w base g cap l) (hx : a.eval x = .string t) (hb : l.length + t.size ≤ 10000000) (hbase : base ≤ w.heap.size)
    (h : ∀ g' cap' w', Out w' base g' cap' (l ++ txt t) → w.grownBy w' (some g) → (g' = g ∨ g' = w.heap.size) → K (a.put o.dst (.slice (some ⟨g', 0, none⟩) (l.length + t.size) cap')) w') : if Region.wanted o (yielded ops a.tmps) = true then Oper.wp Try.prog o a w K Q else E := by
  have hw : Region.wanted o (yielded ops a.tmps) = true := by simp [Region.wanted, hgd]
  rw [if_pos hw]
  obtain ⟨g', cap', w', hr, h2, h3, h4⟩ := run_appS w o.type base g cap l hown t hb hbase
  unfold Oper.wp execOp
  simp only [ho, resolve, invoke, builtin, Sem.run_bind, Sem.run_pure, Result.andThen_ok, List.map_toArray, List.map_cons, List.map_nil, hs, hx, hr]
  exact h g' cap' w' h2 h3 h4

theorem Mid.ext {wr w w' : World} {base g1 g2 cap2 g3 cap3 n : Nat} {X : Obj} {cur l : List Int} (h : Mid wr w base g1 X cur g2 cap2) (E : Ext w w' base g2 l (.returned (.slice (some ⟨g3, 0, none⟩) n cap3))) : Mid wr w' base g1 X l g3 cap3 := by
  obtain ⟨g4, cap4, e4, M⟩ := h.step E
  simp only [Ending.returned.injEq, Value.slice.injEq, Option.some.injEq, Addr.mk.injEq, and_true] at e4
  obtain ⟨rfl, _, rfl⟩ := e4
  exact M
/-- A number put behind what is out. -/
theorem num_ext {w w2 w3 : World} {base g g3 cap3 : Nat} {cur : List Int} {x : Int} (hb : Below w.heap.size w w2) (o3 : Out w3 base g3 cap3 (cur ++ put x)) (gr : w2.grownBy w3 (some g)) (h3 : g3 = g ∨ g3 = w2.heap.size) : Ext w w3 base g (cur ++ put x) (.returned (.slice (some ⟨g3, 0, none⟩) (cur.length + (put x).length) cap3)) :=
  PuT.Ext.more (below_grown hb (some g)) (.inl rfl) o3 gr h3 (by rw [List.length_append])

set_option maxHeartbeats 800000 in
theorem l2Text_any (g cap base : Nat) (out : List Int) (s : ByteArray) (w : World) (ho1 : out.length ≤ 900000) (hs : s.size ≤ 1000) (ho : Out w base g cap out) (hbase : base ≤ w.heap.size) :
    Calls Try.prog 74 #[.slice (some ⟨g, 0, none⟩) out.length cap, .string s] w fun e w' => Ext w w' base g (out ++ txtIf true s) e := by
  have HO := Seg.hid ho
  clear ho
  go_enter Try.func74, Try.ntmps74
  go_wp2_with fail
  refine (Put.spec_any (s.size : Int) w (by omega) (by omega)).mono ?_
  rintro e w2 ⟨g2, cap2, rfl, o2, b2⟩
  obtain ⟨x, hx⟩ : ∃ x : Int, (s.size : Int) = x := ⟨_, rfl⟩
  have hpl := put_le x (by omega)
  have hpl2 : (put (s.size : Int)).length = (put x).length := by rw [hx]
  rw [hpl2]
  rw [hx] at o2
  have HX := Seg.hid hx
  have O2 := Seg.hid o2; have B2 := Seg.hid b2
  have z2 := b2.size
  clear o2 b2 hx hpl2
  go_wp2_with (first | (at_builtin; refine app rfl (.tmp 5) (.tmp 8) rfl base g cap out (put x) ?zzs ?zzo ⟨g2, 0, none⟩ cap2 ?zzx ?zzn ?zzm ?zzb ?zzba ?_; (case zzs => rfl); (case zzo => exact out_below HO.out B2.out); (case zzx => rfl); (case zzn => exact fun j hj => out_cell (l := put x) O2.out j hj); (case zzm => exact Nums.put_pos x); (case zzb => omega); (case zzba => omega); intro g3 cap3 w3 o3 gr3 at3; have O3 := Seg.hid o3; have E3 := Seg.hid (num_ext B2.out o3 gr3 at3); have z3 := gr3.size; clear o3 gr3 at3) | (at_builtin; refine appS rfl (.tmp 9) (.tmp 10) rfl base g3 cap3 (out ++ put x) s ?zzs ?zzo ?zzx ?zzb ?zzba ?_; (case zzs => rw [List.length_append]; rfl); (case zzo => exact O3.out); (case zzx => rfl); (case zzb => rw [List.length_append]; omega); (case zzba => omega); intro g4 cap4 w4 o4 gr4 at4; have E4 : Hid (Ext w w4 base g (out ++ put x ++ txt s) (.returned (.slice (some ⟨g4, 0, none⟩) (out.length + (put x).length + s.size) cap4))) := (by obtain ⟨⟨ga, ca, ea, oa, ha⟩, gra⟩ := E3.out; simp only [Ending.returned.injEq, Value.slice.injEq, Option.some.injEq, Addr.mk.injEq, and_true] at ea; obtain ⟨rfl, _, rfl⟩ := ea; exact PuT.Ext.more gra ha o4 gr4 at4 (by simp only [List.length_append, txt_len]) : Ext w w4 base g (out ++ put x ++ txt s) (.returned (.slice (some ⟨g4, 0, none⟩) (out.length + (put x).length + s.size) cap4))); clear o4 gr4 at4))
  go_ret
  have e1 : out ++ txtIf true s = out ++ put x ++ txt s := by rw [txtIf, if_pos rfl, HX.out, List.append_assoc]
  rw [e1]
  exact E4.out

set_option maxHeartbeats 800000 in
theorem l2Four_any (x : Int) (w : World) (hx : 0 ≤ x ∧ x < 4294967296) :
    Calls Try.prog 58 #[.int .i64 x] w fun e w' => ∃ g', e = .returned (.slice (some ⟨g', 0, none⟩) 4 4) ∧ Out w' w.heap.size g' 4 (four x) ∧ Below w.heap.size w w' := by
  obtain ⟨x0, x1⟩ := hx
  go_enter Try.func58, Try.ntmps58
  go_wp2
  go_ret
  refine ⟨w.heap.size, rfl, ?_, below1 w _⟩
  have e1 : x / 16777216 % 256 = x / 16777216 := by omega
  have := World.ownsRow_lit (e := 5) (size := 1) (base := w.heap.size) w #[.int .u8 (x / 16777216), .int .u8 (x / 65536 % 256), .int .u8 (x / 256 % 256), .int .u8 (x % 256)] 4 (Nat.le_refl _) (by unfold maxLen; omega) rfl
  unfold Out four
  rw [e1]
  exact this

end Go.Proofs.Ytfekhpegfbjleaa.WrS
