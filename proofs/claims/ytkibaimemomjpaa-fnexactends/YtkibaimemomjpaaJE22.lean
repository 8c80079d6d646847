/- The program's orderOk, timesOf, slices.Min and slices.Clone over lists of Arrivals. -/
import Derived.Deep.RegionHeld3
import Derived.Deep.Cut
import Derived.Test.YtkibaimemomjpaaJE14
import Derived.Test.YtkibaimemomjpaaJE18
import Derived.Test.YtkibaimemomjpaaJE09
import Derived.Test.YtkibaimemomjpaaJE10
namespace Go.Proofs.Ytkibaimemomjpaa.EdI
set_option maxRecDepth 8000
open Go.RowKit
open Ls Lp QyP QsP QtP QuP TbP IoP EdP RkP IrA
open Recs (hsz below1 below2 chain chainD)
set_option linter.unusedVariables false
set_option maxHeartbeats 1600000 in
theorem order_any (v : Value) (ns : List Int) (n : Nat) (w : World) (S : Nat → Prop) (hv : IntsAt w S v ns) (hS : ∀ g, S g → g < w.heap.size) (hn : n ≤ 1048576) :
    Calls Try.prog 60 #[v, .int .i64 n] w fun e w' => e = .returned (.bool (ordOk ns n)) ∧ w = w' := by
  obtain ⟨A, c, g, o, F, rfl, OP, hn'⟩ := opn hv hS
  have HO := Seg.hid OP
  clear hv OP
  obtain ⟨R, hR⟩ : ∃ R, ordOk ns n = R := ⟨_, rfl⟩
  rw [hR]
  have HR := Seg.hid hR
  clear hR
  obtain ⟨P, hP⟩ : ∃ P : Int → Bool, (inR 0 · ((n : Int) - 1)) = P := ⟨_, rfl⟩
  have HP : Hid (∀ x b, P x = b → (decide (0 ≤ x) && decide (x ≤ (n : Int) - 1)) = b) := fun x b h => by rw [← h, ← hP]; rfl
  have HP2 := Seg.hid hP
  have wm : IntKind.i64.wrap ((n : Int) - 1) = (n : Int) - 1 := by rw [IntKind.wrap_i64]; omega
  clear hP
  go_enter Try.func60, Try.ntmps60
  go_wp2
  go_loop [9] (fun i => ∃ k : Nat, k ≤ ns.length ∧ i = .int .i64 k ∧ Hid ((ns.take k).all P = true)) (fun i => ns.length - (intOf i).toNat)
  case atStart => exact ⟨0, Nat.zero_le _, rfl, by show _ = _; simp⟩
  case round =>
    obtain ⟨k, hk, rfl, HG⟩ := hrel
    by_cases hlt : k < ns.length
    · obtain ⟨ea, hc, hgw⟩ := HO.out.addr.resolve_left (by omega)
      subst ea
      have d0 := TbP.ints_cell HO.out hlt
      have h0 : (0 : Int) ≤ (k : Int) := by omega
      have h1 : (k : Int) < (ns.length : Int) := by omega
      have NX := Seg.hid (all_next P ns k hlt HG.out)
      have BX := Seg.hid (all_bad P ns k hlt)
      generalize ns.getD k default = nk at *
      cases hy : P nk with
      | true =>
        have NY : Hid ((ns.take (k + 1)).all P = true) := NX.out hy
        have CC := Seg.hid (InB.within_b nk 0 ((n : Int) - 1) true (HP.out nk true hy))
        clear hy NX BX
        go_wp2_with (go_at_call 82; refine (CC.out _).mono ?_; rintro e w5 ⟨rfl, rfl⟩)
        go_round
        case rel => exact ⟨k + 1, by omega, by go_num, NY.out⟩
        case measure => simp [intOf]; omega
      | false =>
        have NY : Hid (R = false) := by show _ = _; rw [← HR.out]; unfold ordOk; rw [HP2.out, BX.out hy]; rfl
        have CC := Seg.hid (InB.within_b nk 0 ((n : Int) - 1) false (HP.out nk false hy))
        clear hy NX BX
        go_wp2_with (go_at_call 82; refine (CC.out _).mono ?_; rintro e w5 ⟨rfl, rfl⟩)
        go_ret
        exact ⟨by rw [NY.out]; rfl, rfl⟩
    · have hkl : k = ns.length := by omega
      have RF : Hid (R = decide (ns.length ≤ 400)) := by show _ = _; have := HG.out; rw [hkl, List.take_length] at this; rw [← HR.out]; unfold ordOk; rw [HP2.out, this, Bool.true_and]
      have hx1 : ¬ (k : Int) < (ns.length : Int) := by omega
      have b0 : decide ((ns.length : Int) ≤ 400) = decide (ns.length ≤ 400) := by rw [decide_eq_decide]; omega
      clear hkl
      go_wp2
      go_ret
      exact ⟨by rw [RF.out]; rfl, rfl⟩
/-- The least of the first k numbers. -/
def minK (ns : List Int) : Nat → Int
  | 0 => ns.getD 0 default
  | k + 1 => if ns.getD k default < minK ns k then ns.getD k default else minK ns k
theorem min_one (ns : List Int) : minK ns 1 = ns.getD 0 default := by
  unfold minK minK
  rw [if_neg (by omega)]
set_option maxHeartbeats 1600000 in
theorem min_any (v : Value) (ns : List Int) (w : World) (S : Nat → Prop) (hv : IntsAt w S v ns) (hS : ∀ g, S g → g < w.heap.size) (hp : 0 < ns.length) (hl : ns.length ≤ 1048576) :
    Calls Try.prog 94 #[v] w fun e w' => e = .returned (.int .i64 (minK ns ns.length)) ∧ w = w' := by
  obtain ⟨A, c, g, o, F, rfl, OP, hn'⟩ := opn hv hS
  have HO := Seg.hid OP
  clear hv OP
  obtain ⟨ea, hc, hgw⟩ := HO.out.addr.resolve_left (by omega)
  subst ea
  have d0 := TbP.ints_cell HO.out hp
  rw [Nat.add_zero] at d0
  have z0 : ¬ (ns.length : Int) < 1 := by omega
  have z1 : (0 : Int) < (ns.length : Int) := by omega
  have M1 := Seg.hid (min_one ns)
  have HD : Hid (∀ k, k < ns.length → w.cell? ⟨g, o + k, none⟩ = some (.int .i64 (ns.getD k default))) := fun k hk => TbP.ints_cell HO.out hk
  obtain ⟨m0, hm0⟩ : ∃ m0, ns.getD 0 default = m0 := ⟨_, rfl⟩
  rw [hm0] at M1 d0
  clear hm0
  go_enter Try.func94, Try.ntmps94
  go_wp2
  go_loop [3, 4] (fun m i => ∃ k : Nat, 1 ≤ k ∧ k ≤ ns.length ∧ i = .int .i64 k ∧ m = .int .i64 (minK ns k)) (fun _ i => ns.length - (intOf i).toNat)
  case atStart => exact ⟨1, Nat.le_refl _, hp, rfl, by rw [M1.out]⟩
  case round =>
    clear d0 M1 z0 z1
    obtain ⟨k, hk1, hk, rfl, rfl⟩ := hrel
    by_cases hlt : k < ns.length
    · have d1 := HD.out k hlt
      have h0 : (0 : Int) ≤ (k : Int) := by omega
      have h1 : (k : Int) < (ns.length : Int) := by omega
      have NX : Hid (minK ns (k + 1) = if ns.getD k default < minK ns k then ns.getD k default else minK ns k) := rfl
      obtain ⟨m, hm⟩ : ∃ m, minK ns k = m := ⟨_, rfl⟩
      rw [hm] at NX ⊢
      have HM := Seg.hid hm
      clear hm
      generalize ns.getD k default = nk at *
      by_cases hy : nk < m
      · have NY : Hid (minK ns (k + 1) = nk) := by show _ = _; rw [NX.out, if_pos hy]
        have mm : min m nk = nk := by omega
        clear NX
        go_wp2
        go_round
        case rel => exact ⟨k + 1, by omega, by omega, by go_num, by rw [NY.out]⟩
        case measure => simp [intOf]; omega
      · have NY : Hid (minK ns (k + 1) = m) := by show _ = _; rw [NX.out, if_neg hy]
        have mm : min m nk = m := by omega
        clear NX
        go_wp2
        go_round
        case rel => exact ⟨k + 1, by omega, by omega, by go_num, by rw [NY.out]⟩
        case measure => simp [intOf]; omega
    · obtain rfl : k = ns.length := by omega
      go_wp2
      go_ret
      exact ⟨rfl, rfl⟩
def timesL (us : List Arr) : List Int := us.map (·.time)
theorem times_next {us : List Arr} {k : Nat} (hk : k < us.length) : timesL (us.take (k + 1)) = timesL (us.take k) ++ [(us.getD k default).time] := by
  unfold timesL
  rw [List.take_add_one, List.getElem?_eq_getElem hk, List.map_append]
  simp [hk]
theorem NRow_form {w : World} {B : Nat} {v : Value} {ns : List Int} (h : NRow w B v ns) : ∃ A c, v = .slice A ns.length c := by
  rcases h.2 with ⟨h1, h2⟩ | ⟨g, cap, cur, h1, -⟩
  · exact ⟨none, 0, by rw [h1, h2]⟩
  · exact ⟨_, cap, h1⟩
structure Tm (w wr : World) (us : List Arr) (k : Nat) (v : Value) : Prop where
  le : k ≤ us.length
  lie : NRow wr w.heap.size v (timesL (us.take k))
  bel : Below w.heap.size w wr
set_option maxHeartbeats 3200000 in
theorem timesOf_any (v : Value) (us : List Arr) (w : World) (S : Nat → Prop) (hv : LAt 3 EArr w S v us) (hS : ∀ g, S g → g < w.heap.size) (hl : us.length ≤ 1048576) :
    Calls Try.prog 95 #[v] w fun e w' => ∃ v', e = .returned v' ∧ NRow w' w.heap.size v' (timesL us) ∧ Below w.heap.size w w' := by
  obtain ⟨A, c, g, o, F, rfl, OP, hn⟩ := opn hv hS
  have HO := Seg.hid OP
  clear hv OP
  obtain ⟨i0, hi, hz0, hz1, hz2⟩ := info_parts infoI
  have E1 := Seg.hid (empty_row w)
  have BE : Hid (Below w.heap.size w (w.alloc (.cells #[] 3 (0, 0)))) := below1 w _
  go_enter Try.func95, Try.ntmps95
  go_wp2
  go_loopw [3, 9] (fun u i wr => ∃ k : Nat, i = .int .i64 k ∧ Hid (Tm w wr us k u)) (fun _ i _ => us.length - (intOf i).toNat)
  case atStart => exact ⟨0, rfl, Nat.zero_le _, E1.out, BE.out⟩
  case round =>
  clear E1 BE
  obtain ⟨k, rfl, HG⟩ := hrel
  have hk := HG.out.le
  by_cases hlt : k < us.length
  · obtain ⟨A', c', q0, d0, d1, d2⟩ := TbP.arr_at HO.out hS HG.out.bel hlt
    obtain ⟨ea, hc, hgw⟩ := HO.out.addr.resolve_left (by omega)
    subst ea
    have h0 : (0 : Int) ≤ (k : Int) := by omega
    have h1 : (k : Int) < (us.length : Int) := by omega
    have LQ := Seg.hid HG.out.lie
    have BQ := Seg.hid HG.out.bel
    have TN := Seg.hid (times_next hlt)
    have LN : Hid ((timesL (us.take k)).length ≤ 1048576) := by show _ ≤ _; unfold timesL; rw [List.length_map, List.length_take]; omega
    clear q0 HG
    generalize us.getD k default = ak at *
    generalize timesL (us.take k) = st at *
    obtain ⟨v3, hv3⟩ : ∃ v3, v3 = u3 := ⟨_, rfl⟩
    rw [← hv3] at LQ ⊢
    clear hv3
    obtain ⟨A9, c9, rfl⟩ := NRow_form LQ.out
    have ws0 : w.heap.size ≤ wr.heap.size := BQ.out.size
    obtain ⟨wo, hwo⟩ : ∃ wo, wr.alloc (.cells #[.int .i64 ak.time, .slice A' ak.row.length c', .bool ak.gone] 88 (0, 0)) = wo := ⟨_, rfl⟩
    have BO : Hid (Below w.heap.size w wo) := by show Below _ _ _; rw [← hwo]; exact chain BQ.out (below1 _ _)
    have LO : Hid (NRow wo w.heap.size (.slice A9 st.length c9) st) := by show NRow _ _ _ _; rw [← hwo]; exact LQ.out.keep (below1 _ _)
    have t0 : wo.cell? ⟨wr.heap.size, 0, none⟩ = some (.int .i64 ak.time) := by rw [← hwo]; exact cell_of_row _ _ 0 _ _ (0, 0) (heap_alloc_new _ _)
    have so : w.heap.size ≤ wo.heap.size := BO.out.size
    go_upto_region 5 with fail
    try rw [hwo]
    clear hwo
    have OW : Hid (∀ ob, (wo.alloc ob).ownsRow w.heap.size 3 1 (.slice A9 st.length c9) st.length (st.map (Value.int .i64))) := fun ob => LO.out.keep (below1 wo ob)
    go_wp2_with (at_builtin; (refine wpList_append_lies _ rfl _ _ 27 rfl w.heap.size 3 i0 _ 1 8 Try.underlying27 hi hz0 hz1 hz2 rfl (by decide) (.slice A9 st.length c9) st.length (st.map (Value.int .i64)) rfl (OW.out _) ⟨wo.heap.size, 0, none⟩ 1 1 [.int .i64 ak.time] rfl rfl (World.news_of_block (cs := #[.int .i64 ak.time]) (heap_alloc_new _ _)) (by simp [Value.oneCell']) (by decide) (by have := LN.out; unfold maxLen; omega) (by have := LN.out; omega) (by rw [hsz]; omega) (wo.heap.size + 1) (by rw [hsz]) ?_; intro g9 cap9 w9 hown9 gr9 hat9 hlt9; have RN := Seg.hid (NRow.put hown9); have B9 : Hid (Below w.heap.size w w9) := (chain BO.out (below1 wo _)).grown gr9 (by rw [hsz]; omega) (fun y hy => (row_lt LO.out y hy).1); clear hown9 gr9 hat9 hlt9))
    go_roundw
    case rel => exact ⟨k + 1, by go_num, hlt, by rw [TN.out]; exact RN.out, B9.out⟩
    case measure => simp [intOf]; omega
  · have hkl : k = us.length := by omega
    have LQ : Hid (NRow wr w.heap.size u3 (timesL us)) := by have := HG.out.lie; rw [hkl, List.take_length] at this; exact this
    have BQ := Seg.hid HG.out.bel
    have hx1 : ¬ (k : Int) < (us.length : Int) := by omega
    clear HG hkl
    go_wp2
    go_ret
    exact ⟨u3, rfl, LQ.out, BQ.out⟩
theorem min_least {l : List Arr} (h : ∀ a, a ∈ l → a.time ≤ 1000000000000) : ∀ k, 1 ≤ k → k ≤ l.length → minK (timesL l) k = leastA (l.take k)
  | 0, h0, _ => absurd h0 (by omega)
  | 1, _, h1 => by
    match l, h, h1 with
    | a :: r, h, _ =>
      rw [min_one]
      show a.time = leastF 1000000000000 [a]
      have := h a (by simp)
      show a.time = if a.time < 1000000000000 then a.time else 1000000000000
      split <;> omega
  | k + 2, _, h1 => by
    have ih := min_least h (k + 1) (by omega) (by omega)
    rw [minK, ih]
    unfold leastA
    rw [least_next _ (show k + 1 < l.length by omega)]
    have e : (timesL l).getD (k + 1) default = (l.getD (k + 1) default).time := by
      unfold timesL
      simp [List.getD_eq_getElem?_getD, show k + 1 < l.length by omega]
    rw [e]
theorem times_least {l : List Arr} (h : ∀ a, a ∈ l → a.time ≤ 1000000000000) (h0 : 0 < l.length) : minK (timesL l) (timesL l).length = leastA l := by
  have e : (timesL l).length = l.length := List.length_map ..
  rw [e, min_least h l.length h0 (Nat.le_refl _), List.take_length]
/-- A row of the call's own whose cells are the lists of another. -/
def LRow (w0 w : World) (S : Nat → Prop) (B : Nat) (v : Value) (n : Nat) (f : Nat → List Arr) : Prop := ∃ V : Nat → Value, w.ownsRow B 85 1 v n ((List.range n).map V) ∧ ∀ p, p < n → LAt 3 EArr w0 S (V p) (f p)
end Go.Proofs.Ytkibaimemomjpaa.EdI
