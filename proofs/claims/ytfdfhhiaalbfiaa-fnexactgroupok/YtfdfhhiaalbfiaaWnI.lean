/- WantsOk of the program. -/
import Derived.Test.YtfdfhhiaalbfiaaWnP
import Derived.Test.YtfdfhhiaalbfiaaSlI
import Derived.Test.YtfdfhhiaalbfiaaHoJ
import Derived.Deep.RegionHeld3
namespace Go.Proofs.Ytfdfhhiaalbfiaa.WnI
set_option maxRecDepth 8000
open Go.RowKit
open Ls Lp WnP Cmp HoP HoM HoI
open TpP (sl aheadO)
open Recs (hsz below1 below2 chain)
set_option linter.unusedVariables false
def rW (a b : Wnt) : Bool := sl a.name b.name
def okE (m : Wnt) : Bool := Nm.nameOk m.name && (names m.wants && slots m.has)
theorem ascL_idx {T : Type} [Inhabited T] (r : T → T → Bool) : ∀ l : List T, ascL r l = true ↔ ∀ k, k + 1 < l.length → r (l.getD k default) (l.getD (k + 1) default) = true
  | [] => by simp [ascL]
  | [a] => by simp [ascL]
  | a :: b :: t => by
    rw [ascL, Bool.and_eq_true, ascL_idx r (b :: t)]
    constructor
    · rintro ⟨h1, h2⟩ k hk
      cases k with
      | zero => simpa using h1
      | succ k => simpa using h2 k (by simpa using hk)
    · intro h
      exact ⟨by simpa using h 0 (by simp), fun k hk => by simpa using h (k + 1) (by simpa using hk)⟩
theorem wn_iff (l : List Wnt) {k : Nat} (hk : k < l.length) : wn l k = true ↔ okE (l.getD k default) = true ∧ (0 < k → rW (l.getD (k - 1) default) (l.getD k default) = true) ∧ ∀ j, j < k → ∀ t ∈ (l.getD k default).has, t ∉ (l.getD j default).has := by
  have hm : ((l.take k).any fun m => meet m (l.getD k default)) = false ↔ ∀ j, j < k → ∀ t ∈ (l.getD k default).has, t ∉ (l.getD j default).has := by
    rw [List.any_eq_false]
    constructor
    · intro h j hj t ht hc
      refine h (l.getD j default) ?_ ?_
      · have e : l.getD j default = (l.take k)[j]'(by rw [List.length_take]; omega) := by simp [show j < l.length by omega]
        rw [e]; exact List.getElem_mem _
      · unfold meet
        rw [List.any_eq_true]
        exact ⟨t, ht, isIn_iff.2 hc⟩
    · intro h m hm hc
      obtain ⟨j, hj, rfl⟩ := List.getElem_of_mem hm
      rw [List.length_take] at hj
      unfold meet at hc
      rw [List.any_eq_true] at hc
      obtain ⟨t, ht, hi⟩ := hc
      refine h j (by omega) t ht ?_
      have := isIn_iff.1 hi
      simpa [show j < l.length by omega] using this
  unfold wn okW okE
  rw [Bool.and_eq_true, Bool.not_eq_true', hm]
  simp only [Bool.and_eq_true]
  by_cases h0 : k = 0
  · subst h0
    rw [pvs_zero]
    simp only [Option.map_none, aheadO, Nat.lt_irrefl, false_imp_iff, true_and, and_true]
  · rw [pvs_pos l (by omega)]
    simp only [Option.map_some, aheadO, rW]
    constructor
    · rintro ⟨⟨⟨h1, h5⟩, h2, h3⟩, h4⟩; exact ⟨⟨h1, h2, h3⟩, fun _ => h5, h4⟩
    · rintro ⟨⟨h1, h2, h3⟩, h5, h4⟩; exact ⟨⟨⟨h1, h5 (by omega)⟩, h2, h3⟩, h4⟩
theorem has_getD (l : List Wnt) {k : Nat} (hk : k < l.length) : (l.map fun t => t.has).getD k default = (l.getD k default).has := by simp [hk]
theorem wants_asc (l : List Wnt) : wants l = (decide (l.length ≤ 30) && (ascL rW l && (l.all okE && decide (mvs (hlds 0 f0 (l.map fun t => t.has)) 0 (l.map fun t => t.has) = 0)))) := by
  have hw : wns l 0 = true ↔ ∀ k, k < l.length → wn l k = true := by simp [wns]
  rw [Bool.eq_iff_iff]
  unfold wants
  simp only [Bool.and_eq_true, decide_eq_true_eq, hw, ascL_idx, once_iff, apart_idx, List.length_map]
  refine and_congr_right fun _ => ?_
  constructor
  · intro h
    refine ⟨fun k hk => ?_, ?_, fun j k hjk hk t ht => ?_⟩
    · have := ((wn_iff l hk).1 (h (k + 1) hk)).2.1 (by omega)
      simpa using this
    · rw [List.all_eq_true]
      intro m hm
      obtain ⟨j, hj, rfl⟩ := List.getElem_of_mem hm
      have := ((wn_iff l hj).1 (h j hj)).1
      simpa [hj] using this
    · rw [has_getD l hk] at ht
      rw [has_getD l (by omega)]
      exact ((wn_iff l hk).1 (h k hk)).2.2 j hjk t ht
  · rintro ⟨h1, h2, h3⟩ k hk
    rw [List.all_eq_true] at h2
    refine (wn_iff l hk).2 ⟨?_, fun h0 => ?_, fun j hj t ht => ?_⟩
    · have := h2 l[k] (List.getElem_mem _)
      simpa [hk] using this
    · have := h1 (k - 1) (by omega)
      rw [show k - 1 + 1 = k by omega] at this
      exact this
    · have := h3 j k hj hk t (by rw [has_getD l hk]; exact ht)
      rw [has_getD l (by omega)] at this
      exact this
theorem name_small {s : ByteArray} (h : Nm.nameOk s = true) : s.size ≤ 20 := by
  simp only [Nm.nameOk, Bool.and_eq_true, decide_eq_true_eq] at h
  exact h.1.2
theorem few_of {l : List Wnt} (hn : l.length ≤ 30) (h : l.all okE = true) : Few (l.map fun t => t.has) := by
  rw [List.all_eq_true] at h
  have hs : ∀ i, i < l.length → slots (l.getD i default).has = true := fun i hi => by
    have := h l[i] (List.getElem_mem _)
    simp only [okE, Bool.and_eq_true] at this
    simpa [hi] using this.2.2
  refine ⟨by simpa using hn, fun i hi => ?_, fun i hi j hj => ?_⟩
  · have hi' : i < l.length := by simpa using hi
    rw [has_getD l hi']
    have := hs i hi'
    rw [SlI.slots_asc] at this
    simp only [Bool.and_eq_true, decide_eq_true_eq] at this
    exact this.1
  · have hi' : i < l.length := by simpa using hi
    rw [has_getD l hi'] at hj ⊢
    have := hs i hi'
    rw [SlI.slots_asc] at this
    simp only [Bool.and_eq_true, List.all_eq_true] at this
    generalize (l.getD i default).has = us at *
    have h2 := this.2.2 us[j] (List.getElem_mem _)
    have e : us.getD j default = us[j] := by simp [hj]
    rw [e]
    generalize us[j] = s at *
    simp only [okS, Bool.and_eq_true] at h2
    have h3 := name_small h2.1
    have h4 := inR_true h2.2
    exact ⟨by unfold maxLen; omega, WalkArith.wf_i64 ⟨by omega, by omega⟩⟩
set_option maxHeartbeats 1600000 in
theorem cmpW_any (a b : ByteArray) (A1 A2 A3 A4 : Option Addr) (n1 n2 n3 n4 c1 c2 c3 c4 : Nat) (w : World) :
    Calls Try.prog 108 #[.agg #[.string a, .slice A1 n1 c1, .slice A2 n2 c2], .agg #[.string b, .slice A3 n3 c3, .slice A4 n4 c4]] w fun e w' => e = .returned (.int .i64 (cmpB a b)) ∧ Below w.heap.size w w' := by
  go_enter Try.func108, Try.ntmps108
  go_wp2_with (go_at_call 106; refine (sc_any _ _ _).mono ?_; rintro e w' ⟨rfl, rfl⟩)
  go_ret
  exact ⟨rfl, below2 _ _ _⟩
def cmpN (a b : Wnt) : Int := cmpB a.name b.name
set_option maxHeartbeats 3200000 in
theorem ascW_any (x : Value) (l : List Wnt) (w : World) (S : Nat → Prop) (hv : LAt 3 EWnt w S x l) (hS : ∀ g, S g → g < w.heap.size) :
    Calls Try.prog 107 #[x, .func (.func 108) #[] #[]] w fun e w' => e = .returned (.bool (ascL rW l)) ∧ Below w.heap.size w w' := by
  obtain ⟨A, c, g, o, F, rfl, OA, n3⟩ := opn hv hS
  have HA := Seg.hid OA
  clear hv OA
  go_enter Try.func107, Try.ntmps107
  go_wp2_with fail
  go_loopw [5] (fun i wr => ∃ (k : Nat), 1 ≤ k ∧ k ≤ l.length + 1 ∧ i = .int .i64 k ∧ Hid (ascL rW (l.drop (k - 1)) = ascL rW l ∧ Below w.heap.size w wr)) (fun i _ => l.length - (intOf i).toNat)
  case atStart => exact ⟨1, by omega, by omega, rfl, rfl, Below.refl _ _⟩
  case round =>
    obtain ⟨k, hk1, hk, rfl, HR⟩ := hrel
    by_cases hlt : k < l.length
    · obtain ⟨ea, hc, hga⟩ := HA.out.addr.resolve_left (by omega)
      have hb := HR.out.2
      have OL := HA.out.later keepsWnt hS hb
      obtain ⟨tA1, tc1, tA2, tc2, ⟨d0, d1, d2⟩, _, _⟩ := wnt_cells (i := k) (fun j hj => OL.cells k hlt j hj) (OL.el k hlt)
      obtain ⟨pA1, pc1, pA2, pc2, ⟨d3, d4, d5⟩, _, _⟩ := wnt_cells (i := (k - 1)) (fun j hj => OL.cells (k - 1) (by omega) j hj) (OL.el (k - 1) (by omega))
      have HD := HR.out.1
      rw [ascL_step rW (by omega) hlt] at HD
      have HD' := Seg.hid HD
      have hgr : g < wr.heap.size := Nat.lt_of_lt_of_le hga hb.size
      have h0 : (0 : Int) ≤ (k : Int) := by omega
      have h1' : (k : Int) < (l.length : Int) := by omega
      have w1 : IntKind.i64.wrap ((k : Int) - 1) = (k : Int) - 1 := by rw [IntKind.wrap_i64] <;> omega
      have w2 : IntKind.i64.wrap ((k : Int) + 1) = (k : Int) + 1 := by rw [IntKind.wrap_i64] <;> omega
      have k2 : (0 : Int) ≤ (k : Int) - 1 := by omega
      have k3 : (k : Int) - 1 < (l.length : Int) := by omega
      have k6 : (1 : Int) ≤ (k : Int) := by omega
      clear HD OL hb
      generalize l.getD k default = tk at *
      generalize l.getD (k - 1) default = pk at *
      subst ea
      obtain ⟨q, hq⟩ : ∃ q, cmpN pk tk = q := ⟨_, rfl⟩
      have CQ : Hid (∀ wx, Calls Try.prog 108 #[.agg #[.string pk.name, .slice pA1 pk.wants.length pc1, .slice pA2 pk.has.length pc2], .agg #[.string tk.name, .slice tA1 tk.wants.length tc1, .slice tA2 tk.has.length tc2]] wx fun e w' => e = .returned (.int .i64 q) ∧ Below wx.heap.size wx w') := fun wx => by rw [← hq]; exact cmpW_any _ _ _ _ _ _ _ _ _ _ _ _ _ _ wx
      have QG : Hid (decide (0 ≤ q) = !rW pk tk) := by show _ = _; rw [← hq]; exact cmpB_geq _ _
      clear hq
      go_wp2_with fail
      go_region_held3 (fun w' => w'.cell? ⟨g, o + k * 3, none⟩ = some (.string tk.name) ∧ w'.cell? ⟨g, o + k * 3 + 1, none⟩ = some (.slice tA1 tk.wants.length tc1) ∧ w'.cell? ⟨g, o + k * 3 + 2, none⟩ = some (.slice tA2 tk.has.length tc2) ∧ w'.cell? ⟨g, o + (k - 1) * 3, none⟩ = some (.string pk.name) ∧ w'.cell? ⟨g, o + (k - 1) * 3 + 1, none⟩ = some (.slice pA1 pk.wants.length pc1) ∧ w'.cell? ⟨g, o + (k - 1) * 3 + 2, none⟩ = some (.slice pA2 pk.has.length pc2)) (first | exact ⟨d0, d1, d2, d3, d4, d5⟩ | exact ⟨r0, r1, r2, r3, r4, r5⟩ | go_keep)
        (first | (go_at_call 108; refine (CQ.out _).mono ?_; rintro e w8 ⟨rfl, b8⟩; have B8 : Hid (Below wr.heap.size wr w8) := ⟨b8.os, b8.tape, b8.output, b8.size, b8.block⟩; clear b8; have r0 := (B8.out.cell (p := ⟨g, o + k * 3, none⟩) hgr).trans d0; have r1 := (B8.out.cell (p := ⟨g, o + k * 3 + 1, none⟩) hgr).trans d1; have r2 := (B8.out.cell (p := ⟨g, o + k * 3 + 2, none⟩) hgr).trans d2; have r3 := (B8.out.cell (p := ⟨g, o + (k - 1) * 3, none⟩) hgr).trans d3; have r4 := (B8.out.cell (p := ⟨g, o + (k - 1) * 3 + 1, none⟩) hgr).trans d4; have r5 := (B8.out.cell (p := ⟨g, o + (k - 1) * 3 + 2, none⟩) hgr).trans d5))
      cases hr : rW pk tk with
      | false =>
        have Z : Hid (ascL rW l = false) := by show _ = _; rw [← HD'.out, hr]; rfl
        rw [show decide (0 ≤ q) = true by rw [QG.out, hr]; rfl]
        go_wp2
        go_ret
        exact ⟨Seg.ret_bool Z.out.symm, chain HR.out.2 B8.out⟩
      | true =>
        have Z : Hid (ascL rW (l.drop (k + 1 - 1)) = ascL rW l) := by show _ = _; rw [← HD'.out, hr]; rfl
        rw [show decide (0 ≤ q) = false by rw [QG.out, hr]; rfl]
        go_wp2
        go_roundw
        case rel => exact ⟨k + 1, by omega, by omega, by go_num, Z.out, chain HR.out.2 B8.out⟩
        case measure => simp [intOf]; omega
    · have HE := HR.out.1
      rw [ascL_end rW (by omega)] at HE
      have HE' := Seg.hid HE
      clear HE
      go_wp2
      go_ret
      exact ⟨Seg.ret_bool HE'.out, HR.out.2⟩

set_option maxHeartbeats 6400000 in
theorem impl_any (x : Value) (l : List Wnt) (w : World) (S : Nat → Prop) (hv : LAt 3 EWnt w S x l) (hS : ∀ g, S g → g < w.heap.size) (hf : szL szWnt l ≤ 1048576) :
    Calls Try.prog 72 #[x] w fun e w' => e = .returned (.bool (wants l)) ∧ Below w.heap.size w w' := by
  have HV := Seg.hid hv
  obtain ⟨A, c, g, o, F, rfl, OA, n3⟩ := opn hv hS
  have HA := Seg.hid OA
  have hn : l.length ≤ 1048576 := szL_len _ hf
  have HL : Hid (∀ i, i < l.length → szWnt (l.getD i default) ≤ 1048576) := fun i hi => szL_one _ hf hi
  clear hv OA hf n3
  have no : ∀ (w' : World), wants l = false → Below w.heap.size w w' → (Ending.returned (.bool false) = .returned (.bool (wants l)) ∧ Below w.heap.size w w') := fun w' h b => ⟨by rw [h], b⟩
  have NO := Seg.hid no
  clear no
  go_enter Try.func72, Try.ntmps72
  by_cases h1 : l.length ≤ 30
  case neg =>
    have Z : Hid (wants l = false) := by show _ = _; simp [wants, h1]
    go_wp2
    go_ret
    exact NO.out _ Z.out (Below.refl _ _)
  have KS : Hid (wants l = (ascL rW l && (l.all okE && decide (mvs (hlds 0 f0 (l.map fun t => t.has)) 0 (l.map fun t => t.has) = 0)))) := by show _ = _; rw [wants_asc]; simp [h1]
  have AC : Hid (Calls Try.prog 107 #[.slice A l.length c, .func (.func 108) #[] #[]] w fun e w' => e = .returned (.bool (ascL rW l)) ∧ Below w.heap.size w w') := ascW_any _ l w S HV.out hS
  cases ha : ascL rW l with
  | false =>
    have Z : Hid (wants l = false) := by show _ = _; rw [KS.out, ha]; rfl
    rw [ha] at AC
    go_wp2_with (go_at_call 107; refine AC.out.mono ?_; rintro e w1 ⟨rfl, b1⟩; have B1 := Seg.hid b1; clear b1)
    go_ret
    exact NO.out _ Z.out B1.out
  | true =>
  obtain ⟨bo, hbo⟩ : ∃ bo, decide (mvs (hlds 0 f0 (l.map fun t => t.has)) 0 (l.map fun t => t.has) = 0) = bo := ⟨_, rfl⟩
  have KT : Hid (wants l = (l.all okE && bo)) := by show _ = _; rw [KS.out, ha, hbo]; rfl
  have BO := Seg.hid hbo
  rw [ha] at AC
  clear KS ha hbo
  go_wp2_with (go_at_call 107; refine AC.out.mono ?_; rintro e w1 ⟨rfl, b1⟩; have B1 := Seg.hid b1; clear b1)
  clear AC
  go_loopw [15] (fun i wr => ∃ (k : Nat), k ≤ l.length ∧ i = .int .i64 k ∧ Hid ((l.drop k).all okE = l.all okE ∧ Below w.heap.size w wr)) (fun i _ => l.length - (intOf i).toNat)
  case atStart => exact ⟨0, Nat.zero_le _, rfl, rfl, B1.out⟩
  case round =>
    obtain ⟨k, hk, rfl, HR⟩ := hrel
    by_cases hlt : k < l.length
    · obtain ⟨ea, hc, hga⟩ := HA.out.addr.resolve_left (by omega)
      have hb := HR.out.2
      have OL := HA.out.later keepsWnt hS hb
      obtain ⟨A1, c1, A2, c2, ⟨d0, d1, d2⟩, LS1, LH1⟩ := wnt_cells (i := k) (fun j hj => OL.cells k hlt j hj) (OL.el k hlt)
      have HS1 := Seg.hid LS1
      have HH1 := Seg.hid LH1
      have h0 : (0 : Int) ≤ (k : Int) := by omega
      have h1' : (k : Int) < (l.length : Int) := by omega
      have hsz1 := HL.out k hlt
      have HD := HR.out.1
      rw [SlI.all_step okE hlt] at HD
      have HD' := Seg.hid HD
      have hgr : g < wr.heap.size := Nat.lt_of_lt_of_le hga hb.size
      have hwr := hb.size
      clear HD OL hb LS1 LH1
      generalize l.getD k default = tk at *
      subst ea
      have NS : tk.name.size ≤ maxLen := by unfold szWnt at hsz1; unfold maxLen; omega
      have Z1 : Hid (szL ByteArray.size tk.wants ≤ 1048576) := by show _ ≤ _; unfold szWnt at hsz1; omega
      have Z2 : Hid (szL szSlt tk.has ≤ 1048576) := by show _ ≤ _; unfold szWnt at hsz1; omega
      clear hsz1
      obtain ⟨wz, hwz⟩ : ∃ wz, wr.alloc (.cells #[.string tk.name, .slice A1 tk.wants.length c1, .slice A2 tk.has.length c2] 157 (0, 0)) = wz := ⟨_, rfl⟩
      have RZ : Hid (wz.heap[wr.heap.size]? = some (.cells #[.string tk.name, .slice A1 tk.wants.length c1, .slice A2 tk.has.length c2] 157 (0, 0))) := by show _ = _; rw [← hwz]; exact heap_alloc_new _ _
      have BR : Hid (Below wr.heap.size wr wz) := by show Below _ _ _; rw [← hwz]; exact below1 wr _
      have BI : Hid (Below w.heap.size w wz) := chain HR.out.2 BR.out
      have hlz : wr.heap.size < wz.heap.size := (Array.getElem?_eq_some_iff.1 RZ.out).1
      have hSr : ∀ g, S g → g < wr.heap.size := fun g hg => Nat.lt_of_lt_of_le (hS g hg) hwr
      have C1 : Hid (Calls Try.prog 109 #[.slice A1 tk.wants.length c1] wz fun e w' => e = .returned (.bool (names tk.wants)) ∧ Below wz.heap.size wz w') := SlI.namesOk_any _ tk.wants wz S (LAt.below keepsStr HS1.out BR.out hSr) (fun g hg => Nat.lt_trans (hSr g hg) hlz) Z1.out
      have C2 : Hid (∀ w2, Below wz.heap.size wz w2 → Calls Try.prog 75 #[.slice A2 tk.has.length c2] w2 fun e w' => e = .returned (.bool (slots tk.has)) ∧ Below w2.heap.size w2 w') := fun w2 b2 => SlI.slotsOk_any _ tk.has w2 S (LAt.below keepsSlt HH1.out (chain BR.out b2) hSr) (fun g hg => Nat.lt_of_lt_of_le (Nat.lt_trans (hSr g hg) hlz) b2.size) Z2.out
      clear HR HS1 HH1
      go_upto_region 6 with fail
      try rw [hwz]
      clear hwz d0 d1 d2
      have p0 : wz.cell? ⟨wr.heap.size, 0, none⟩ = some (.string tk.name) := cell_of_row wz _ 0 _ _ (0, 0) RZ.out
      have p1 : wz.cell? ⟨wr.heap.size, 1, none⟩ = some (.slice A1 tk.wants.length c1) := cell_of_row wz _ 1 _ _ (0, 0) RZ.out
      have p2 : wz.cell? ⟨wr.heap.size, 2, none⟩ = some (.slice A2 tk.has.length c2) := cell_of_row wz _ 2 _ _ (0, 0) RZ.out
      cases b1 : Nm.nameOk tk.name with
      | false =>
        have Z : Hid (wants l = false) := by show _ = _; rw [KT.out, ← HD'.out]; simp [okE, b1]
        have KN := Seg.hid b1
        clear b1
        go_wp2_with (first | (go_at_call 53; refine (Nm.impl_q _ _ KN.out _ NS).mono ?_; rintro e w2 ⟨rfl, rfl⟩))
        go_ret
        exact NO.out _ Z.out BI.out
      | true =>
      have KN := Seg.hid b1
      cases b2 : names tk.wants with
      | false =>
        have Z : Hid (wants l = false) := by show _ = _; rw [KT.out, ← HD'.out]; simp [okE, b2]
        rw [b2] at C1
        clear b1 b2
        go_wp2_with (first | (go_at_call 53; refine (Nm.impl_q _ _ KN.out _ NS).mono ?_; rintro e w2 ⟨rfl, rfl⟩) | (go_at_call 109; refine C1.out.mono ?_; rintro e w2 ⟨rfl, q2⟩; have B2 := Seg.hid q2; clear q2))
        go_ret
        exact NO.out _ Z.out (chain BI.out B2.out)
      | true =>
      rw [b2] at C1
      cases b3 : slots tk.has with
      | false =>
        have Z : Hid (wants l = false) := by show _ = _; rw [KT.out, ← HD'.out]; simp [okE, b3]
        rw [b3] at C2
        clear b1 b2 b3
        go_wp2_with (first | (go_at_call 53; refine (Nm.impl_q _ _ KN.out _ NS).mono ?_; rintro e w2 ⟨rfl, rfl⟩) | (go_at_call 109; refine C1.out.mono ?_; rintro e w2 ⟨rfl, q2⟩; have B2 := Seg.hid q2; have p2' := (q2.cell (p := ⟨wr.heap.size, 2, none⟩) hlz).trans p2; clear q2) | (go_at_call 75; refine (C2.out _ B2.out).mono ?_; rintro e w3 ⟨rfl, q3⟩; have B3 := Seg.hid q3; clear q3))
        go_ret
        exact NO.out _ Z.out (chain (chain BI.out B2.out) B3.out)
      | true =>
        have Z : Hid ((l.drop (k + 1)).all okE = l.all okE) := by show _ = _; rw [← HD'.out]; simp [okE, b1, b2, b3]
        rw [b3] at C2
        clear b1 b2 b3
        go_wp2_with (first | (go_at_call 53; refine (Nm.impl_q _ _ KN.out _ NS).mono ?_; rintro e w2 ⟨rfl, rfl⟩) | (go_at_call 109; refine C1.out.mono ?_; rintro e w2 ⟨rfl, q2⟩; have B2 := Seg.hid q2; have p2' := (q2.cell (p := ⟨wr.heap.size, 2, none⟩) hlz).trans p2; clear q2) | (go_at_call 75; refine (C2.out _ B2.out).mono ?_; rintro e w3 ⟨rfl, q3⟩; have B3 := Seg.hid q3; clear q3))
        go_roundw
        case rel => exact ⟨k + 1, by omega, by go_num, Z.out, chain (chain BI.out B2.out) B3.out⟩
        case measure => simp [intOf]; omega
    · have AL : Hid (l.all okE = true) := by
        show _ = _
        have h2 := HR.out.1
        rw [List.drop_eq_nil_of_le (by omega)] at h2
        rw [← h2]; rfl
      have Z : Hid (wants l = bo) := by show _ = _; rw [KT.out, AL.out]; rfl
      have FW := Seg.hid (few_of h1 AL.out)
      have C3 : Hid (Calls Try.prog 110 #[.slice A l.length c] wr fun e w' => ∃ v, e = .returned v ∧ LAt 1 ESlt2 w' (fun g => g < w'.heap.size) v (l.map fun t => t.has) ∧ Below wr.heap.size wr w') := HoI.hasOf_any _ l wr S (LAt.below keepsWnt HV.out HR.out.2 hS) (fun g hg => Nat.lt_of_lt_of_le (hS g hg) HR.out.2.size) h1
      go_wp2_with (first | (go_at_call 110; refine C3.out.mono ?_; rintro e w2 ⟨v2, rfl, lh, q2⟩; have B2 := Seg.hid q2; have H2 := Seg.hid lh; clear q2 lh) | (go_at_call 76; refine (HoI.once_any _ _ bo _ _ H2.out (fun g hg => hg) FW.out BO.out).mono ?_; rintro e w3 ⟨rfl, q3⟩; have B3 := Seg.hid q3; clear q3))
      go_ret
      exact ⟨Seg.ret_bool Z.out.symm, chain (chain HR.out.2 B2.out) B3.out⟩
end Go.Proofs.Ytfdfhhiaalbfiaa.WnI
