/- The program's allBelow and countGone; l2Text and l2Four of the model. (Written by gen_wrs.py.). -/
import Derived.OwnWalk
import Derived.Deep.RegionHeld3
import Derived.Test.YtdcbgkcnidbakaaJR27
import Derived.Test.YtdcbgkcnidbakaaJR10
import Derived.Test.YtdcbgkcnidbakaaJR26
import Derived.Test.YtdcbgkcnidbakaaJR11
import Derived.Test.YtdcbgkcnidbakaaJR17
namespace Go.Proofs.Ytdcbgkcnidbakaa.Re
set_option maxRecDepth 8000
open Go.RowKit
open Recs (hsz Row below1 below2 BatAt RecsAt batVal Bat Rec chain chainD)
open Bats SegW Segs Zs ReP
set_option linter.unusedVariables false
theorem all_yes {T : Type} [Inhabited T] {p : T → Bool} : ∀ {l : List T}, (∀ i, i < l.length → p (l.getD i default) = true) → l.all p = true
  | [], _ => rfl
  | a :: t, h => by
    have h0 := h 0 (by simp)
    rw [List.getD_cons_zero] at h0
    rw [List.all_cons, h0, all_yes (l := t) (fun i hi => by have := h (i + 1) (by simpa using hi); rwa [List.getD_cons_succ] at this)]
    rfl
theorem all_no {T : Type} [Inhabited T] {p : T → Bool} {l : List T} {i : Nat} (hi : i < l.length) (h : p (l.getD i default) = false) : l.all p = false := by
  rw [List.all_eq_false]
  refine ⟨l.getD i default, ?_, by rw [h]; simp⟩
  rw [List.getD_eq_getElem?_getD, List.getElem?_eq_getElem hi]
  simp
theorem tsz_le {ss : List Sg} (h : ∀ i, i < ss.length → (ss.getD i default).bats.length ≤ 1048576 ∧ ∀ k, k < (ss.getD i default).bats.length → BOk.batOk ((ss.getD i default).bats.getD k default) = true) : ∀ k, k ≤ ss.length → tsz (ss.take k) ≤ k * 104857600000
  | 0, _ => by simp [tsz]
  | k + 1, hk => by
    have ih := tsz_le h k (by omega)
    have a1 := sizes_le (h k (by omega)).2 _ (Nat.le_refl _)
    rw [List.take_length] at a1
    have a2 := (h k (by omega)).1
    rw [tsz_take (by omega), Nat.succ_mul]
    omega
set_option maxHeartbeats 1600000 in
theorem allBelow_core (ss : List Bat) (x : Int) (A : Option Addr) (c : Nat) (w : World) (lo b : Nat) (hb : b ≤ w.heap.size) (hl : ss.length ≤ 1048576) (hf : ∀ i, i < ss.length → (ss.getD i default).recs.length ≤ 1048576) (hv : BatsAt w lo b (.slice A ss.length c) ss) :
    Calls Try.prog 34 #[.slice A ss.length c, .int .i64 x] w fun e w' => e = .returned (.bool (old x ss)) ∧ Below w.heap.size w w' := by
  have HF := Seg.hid hf
  obtain ⟨H, ⟨_, A', c', hsl, hrow⟩, hh⟩ := hv
  simp only [Value.slice.injEq] at hsl
  obtain ⟨rfl, _, rfl⟩ := hsl
  have HROW := Seg.hid hrow; have HH := Seg.hid hh
  clear hrow hh hf
  go_enter Try.func34, Try.ntmps34
  go_wp2_with fail
  go_loopw [11] (fun i wr => ∃ (j : Nat), j ≤ ss.length ∧ i = .int .i64 j ∧ Hid ((∀ y, y < j → oldB x (ss.getD y default) = true) ∧ Below w.heap.size w wr)) (fun i _ => ss.length - (intOf i).toNat)
  case atStart => exact ⟨0, Nat.zero_le _, rfl, fun y hy => absurd hy (by omega), Below.refl _ _⟩
  case round =>
    obtain ⟨j, hj, rfl, HW⟩ := hrel
    obtain ⟨wo, hwo⟩ : ∃ wo, wo = wr := ⟨wr, rfl⟩
    subst hwo
    by_cases hlt : j < ss.length
    · have h0 : (0 : Int) ≤ (j : Int) := by omega
      have h1 : (j : Int) < (ss.length : Int) := by omega
      obtain ⟨g, o, rfl, hg, hc, hcell, _⟩ := HROW.out.resolve_left (by omega)
      have hgw : g < w.heap.size := by omega
      obtain ⟨e0, e1, e2, e3, e4, e5, e6⟩ := Bats.six (fun i hi q hq => by rw [HW.out.2.cell (p := ⟨g, o + i * 7 + q, none⟩) hgw]; exact hcell i hi q hq) j hlt
      have hz := HW.out.2.size
      have NXT : Hid (oldB x (ss.getD j default) = true → ∀ y, y < j + 1 → oldB x (ss.getD y default) = true) := fun hn y hy => by
        by_cases e : y = j
        · rw [e]; exact hn
        · exact HW.out.1 y (by omega)
      have STP : Hid (oldB x (ss.getD j default) = false → old x ss = false) := fun hn => all_no hlt hn
      have BLO := Seg.hid HW.out.2
      have hrl := HF.out j hlt
      obtain ⟨H2, ⟨_, Ah, ch, hHj, hrow2⟩, hh2⟩ := HH.out j hlt
      have HROW2 := Seg.hid hrow2; have HH2 := Seg.hid hh2
      rw [hHj] at e6
      clear hcell HW hHj hrow2 hh2
      generalize ss.getD j default = tj at *
      go_wp2_with fail
      clear e0 e1 e2 e3 e4 e5 e6
      have BA : Hid (Below w.heap.size w (wo.alloc (.cells (BatW.batArr tj (.slice Ah tj.recs.length ch)) 44 (0, 0)))) := chain BLO.out (below1 wo _)
      go_loopw [18] (fun i wk => ∃ (k : Nat), k ≤ tj.recs.length ∧ i = .int .i64 k ∧ Hid ((∀ y, y < k → oldR x (tj.recs.getD y default) = true) ∧ Below w.heap.size w wk)) (fun i _ => tj.recs.length - (intOf i).toNat)
      case atStart => exact ⟨0, Nat.zero_le _, rfl, fun y hy => absurd hy (by omega), BA.out⟩
      case round =>
        obtain ⟨k, hk, rfl, HK⟩ := hrel
        by_cases hkl : k < tj.recs.length
        · have q0 : (0 : Int) ≤ (k : Int) := by omega
          have q1 : (k : Int) < (tj.recs.length : Int) := by omega
          obtain ⟨g2, o2, rfl, hg2, hc2, hcell2, _⟩ := HROW2.out.resolve_left (by omega)
          obtain ⟨r0, r1, r2, r3, r4, r5⟩ := RecsW.six (fun i hi q hq => by rw [HK.out.2.cell (p := ⟨g2, o2 + i * 6 + q, none⟩) (by show g2 < _; omega)]; exact hcell2 i hi q hq) k hkl
          obtain ⟨_, A7, c7, hH7, _⟩ := HH2.out k hkl
          have NXK : Hid (oldR x (tj.recs.getD k default) = true → ∀ y, y < k + 1 → oldR x (tj.recs.getD y default) = true) := fun hn y hy => by
            by_cases e : y = k
            · rw [e]; exact hn
            · exact HK.out.1 y (by omega)
          have NO : Hid (oldR x (tj.recs.getD k default) = false → old x ss = false) := fun hn => STP.out (all_no hkl hn)
          have BLK := Seg.hid HK.out.2
          rw [hH7] at r5
          clear hcell2 HK hH7
          generalize tj.recs.getD k default = rk at *
          by_cases hB : x ≤ rk.time
          · have HE := Seg.hid (NO.out (decide_eq_false (by omega)))
            have BE := Seg.hid (chain BLK.out (below1 wr (.cells (RecW.recArr rk (.slice A7 rk.heads.length c7)) 47 (0, 0))))
            go_wp2_with fail
            go_ret
            exact ⟨by rw [HE.out]; rfl, BE.out⟩
          · have NK := Seg.hid (NXK.out (decide_eq_true (by omega)))
            have BE := Seg.hid (chain BLK.out (below1 wr (.cells (RecW.recArr rk (.slice A7 rk.heads.length c7)) 47 (0, 0))))
            go_wp2_with fail
            go_roundw
            case rel => exact ⟨k + 1, by omega, by go_num, NK.out, BE.out⟩
            case measure => simp [intOf]; omega
        · have HN := Seg.hid (NXT.out (all_yes (fun y hy => HK.out.1 y (by omega))))
          have BLK := Seg.hid HK.out.2
          have q1 : ¬ (k : Int) < (tj.recs.length : Int) := by omega
          clear HK
          go_wp2_with fail
          go_roundw
          case rel => exact ⟨j + 1, by omega, by go_num, HN.out, BLK.out⟩
          case measure => simp [intOf]; omega
    · have HE : Hid (old x ss = true) := all_yes (fun y hy => HW.out.1 y (by omega))
      have BLK := Seg.hid HW.out.2
      have : j = ss.length := by omega
      clear HW
      subst this
      go_wp2_with fail
      go_ret
      exact ⟨by rw [HE.out]; rfl, BLK.out⟩
theorem allBelow_any (v : Value) (ss : List Bat) (x : Int) (w : World) (lo b : Nat) (hb : b ≤ w.heap.size) (hl : ss.length ≤ 1048576) (hf : ∀ i, i < ss.length → (ss.getD i default).recs.length ≤ 1048576) (hv : BatsAt w lo b v ss) :
    Calls Try.prog 34 #[v, .int .i64 x] w fun e w' => e = .returned (.bool (old x ss)) ∧ Below w.heap.size w w' := by
  obtain ⟨_, ⟨_, A, c, rfl, _⟩, _⟩ := id hv
  exact allBelow_core ss x A c w lo b hb hl hf hv
end Go.Proofs.Ytdcbgkcnidbakaa.Re
namespace Go.Proofs.Ytdcbgkcnidbakaa.WrS
set_option maxRecDepth 8000
open Go.RowKit
open Seg (B)
open SqP (Out app grow)
open Nums (put)
open PuI (Ext below_grown out_below out_lt out_cell)
open PuT (kept)
open AppS (appS run_appS)
open WrB (Mid AtB six_of all_at)
open WrP
open Recs
set_option linter.unusedVariables false

theorem step_appS {w : World} {ops : Array Oper} {o : Oper} {a : Act} {K : Act → World → Prop} {Q : Exit → Act → World → Prop} {E : Prop} (hgd : o.guard = none) (s x : Operand) (ho : o.op = .call { callee := .builtin .append, args := #[s, x], argTypes := #[71, 9] })
    (base g cap : Nat) (l : List Int) (t : ByteArray) (hs : a.eval s = .slice (some ⟨g, 0, none⟩) l.length cap) (hown : Out w base g cap l) (hx : a.eval x = .string t) (hb : l.length + t.size ≤ 10000000) (hbase : base ≤ w.heap.size)
    (h : ∀ g' cap' w', Out w' base g' cap' (l ++ txt t) → w.grownBy w' (some g) → (g' = g ∨ g' = w.heap.size) → K (a.put o.dst (.slice (some ⟨g', 0, none⟩) (l.length + t.size) cap')) w') : if Region.wanted o (yielded ops a.tmps) = true then Oper.wp Try.prog o a w K Q else E := by
  have hw : Region.wanted o (yielded ops a.tmps) = true := by simp [Region.wanted, hgd]
  rw [if_pos hw]
  obtain ⟨g', cap', w', hr, h2, h3, h4⟩ := run_appS w o.type base g cap l hown t hb hbase
  unfold Oper.wp execOp
  simp only [ho, resolve, invoke, builtin, Sem.run_bind, Sem.run_pure, Result.andThen_ok, List.map_toArray, List.map_cons, List.map_nil, hs, hx, hr]
  exact h g' cap' w' h2 h3 h4

theorem Mid.ext {wr w w' : World} {base g1 g2 cap2 g3 cap3 n : Nat} {X : Obj} {cur l : List Int} (h : Mid wr w base g1 X cur g2 cap2) (E : Ext w w' base g2 l (.returned (.slice (some ⟨g3, 0, none⟩) n cap3))) : Mid wr w' base g1 X l g3 cap3 := by
  obtain ⟨g4, cap4, e4, M⟩ := h.step E
  simp only [Ending.returned.injEq, Value.slice.injEq, Option.some.injEq, Addr.mk.injEq, and_true] at e4
  obtain ⟨rfl, _, rfl⟩ := e4
  exact M
/-- A number put behind what is out. -/
theorem num_ext {w w2 w3 : World} {base g g3 cap3 : Nat} {cur : List Int} {x : Int} (hb : Below w.heap.size w w2) (o3 : Out w3 base g3 cap3 (cur ++ put x)) (gr : w2.grownBy w3 (some g)) (h3 : g3 = g ∨ g3 = w2.heap.size) : Ext w w3 base g (cur ++ put x) (.returned (.slice (some ⟨g3, 0, none⟩) (cur.length + (put x).length) cap3)) :=
  PuT.Ext.more (below_grown hb (some g)) (.inl rfl) o3 gr h3 (by rw [List.length_append])

set_option maxHeartbeats 800000 in
theorem l2Text_any (g cap base : Nat) (out : List Int) (s : ByteArray) (w : World) (ho1 : out.length ≤ 900000) (hs : s.size ≤ 1000) (ho : Out w base g cap out) (hbase : base ≤ w.heap.size) :
    Calls Try.prog 71 #[.slice (some ⟨g, 0, none⟩) out.length cap, .string s] w fun e w' => Ext w w' base g (out ++ txtIf true s) e := by
  have HO := Seg.hid ho
  clear ho
  go_enter Try.func71, Try.ntmps71
  go_wp2_with fail
  refine (Put.spec_any (s.size : Int) w (by omega) (by omega)).mono ?_
  rintro e w2 ⟨g2, cap2, rfl, o2, b2⟩
  obtain ⟨x, hx⟩ : ∃ x : Int, (s.size : Int) = x := ⟨_, rfl⟩
  have hpl := put_le x (by omega)
  have hpl2 : (put (s.size : Int)).length = (put x).length := by rw [hx]
  rw [hpl2]
  rw [hx] at o2
  have HX := Seg.hid hx
  have O2 := Seg.hid o2; have B2 := Seg.hid b2
  have z2 := b2.size
  clear o2 b2 hx hpl2
  go_wp2_with (first | (at_builtin; refine app rfl (.tmp 5) (.tmp 8) rfl base g cap out (put x) ?zzs ?zzo ⟨g2, 0, none⟩ cap2 ?zzx ?zzn ?zzm ?zzb ?zzba ?_; (case zzs => rfl); (case zzo => exact out_below HO.out B2.out); (case zzx => rfl); (case zzn => exact fun j hj => out_cell (l := put x) O2.out j hj); (case zzm => exact Nums.put_pos x); (case zzb => omega); (case zzba => omega); intro g3 cap3 w3 o3 gr3 at3; have O3 := Seg.hid o3; have E3 := Seg.hid (num_ext B2.out o3 gr3 at3); have z3 := gr3.size; clear o3 gr3 at3) | (at_builtin; refine appS rfl (.tmp 9) (.tmp 10) rfl base g3 cap3 (out ++ put x) s ?zzs ?zzo ?zzx ?zzb ?zzba ?_; (case zzs => rw [List.length_append]; rfl); (case zzo => exact O3.out); (case zzx => rfl); (case zzb => rw [List.length_append]; omega); (case zzba => omega); intro g4 cap4 w4 o4 gr4 at4; have E4 : Hid (Ext w w4 base g (out ++ put x ++ txt s) (.returned (.slice (some ⟨g4, 0, none⟩) (out.length + (put x).length + s.size) cap4))) := (by obtain ⟨⟨ga, ca, ea, oa, ha⟩, gra⟩ := E3.out; simp only [Ending.returned.injEq, Value.slice.injEq, Option.some.injEq, Addr.mk.injEq, and_true] at ea; obtain ⟨rfl, _, rfl⟩ := ea; exact PuT.Ext.more gra ha o4 gr4 at4 (by simp only [List.length_append, txt_len]) : Ext w w4 base g (out ++ put x ++ txt s) (.returned (.slice (some ⟨g4, 0, none⟩) (out.length + (put x).length + s.size) cap4))); clear o4 gr4 at4))
  go_ret
  have e1 : out ++ txtIf true s = out ++ put x ++ txt s := by rw [txtIf, if_pos rfl, HX.out, List.append_assoc]
  rw [e1]
  exact E4.out

set_option maxHeartbeats 800000 in
theorem l2Four_any (x : Int) (w : World) (hx : 0 ≤ x ∧ x < 4294967296) :
    Calls Try.prog 59 #[.int .i64 x] w fun e w' => ∃ g', e = .returned (.slice (some ⟨g', 0, none⟩) 4 4) ∧ Out w' w.heap.size g' 4 (four x) ∧ Below w.heap.size w w' := by
  obtain ⟨x0, x1⟩ := hx
  go_enter Try.func59, Try.ntmps59
  go_wp2
  go_ret
  refine ⟨w.heap.size, rfl, ?_, below1 w _⟩
  have e1 : x / 16777216 % 256 = x / 16777216 := by omega
  have := World.ownsRow_lit (e := 5) (size := 1) (base := w.heap.size) w #[.int .u8 (x / 16777216), .int .u8 (x / 65536 % 256), .int .u8 (x / 256 % 256), .int .u8 (x % 256)] 4 (Nat.le_refl _) (by unfold maxLen; omega) rfl
  unfold Out four
  rw [e1]
  exact this

end Go.Proofs.Ytdcbgkcnidbakaa.WrS
