/- Agree of the model. -/
import Derived.Test.YtmkkdladgoilmaaAgP
import Derived.Test.YtmkkdladgoilmaaOApx
import Derived.Test.YtmkkdladgoilmaaInQ
import Derived.Deep.AppendLies
import Derived.Deep.RegionHeld3
namespace Go.Proofs.Ytmkkdladgoilmaa.AgS
set_option maxRecDepth 8000
open Go.RowKit
open Ls Lp AgP
open Recs (hsz below1 below2 chain)
set_option linter.unusedVariables false
theorem least_any (a b : Int) (w : World) : Calls Try.prog 17 #[.int .i64 a, .int .i64 b] w fun e w' => e = .returned (.int .i64 (lst a b)) ∧ w = w' := by
  by_cases h : a < b
  · have Z : Hid (lst a b = a) := by show _ = _; simp [lst, h]
    go_enter Try.func17, Try.ntmps17
    go_wp2
    go_ret
    exact ⟨by rw [Z.out]; rfl, rfl⟩
  · have Z : Hid (lst a b = b) := by show _ = _; simp [lst, h]
    go_enter Try.func17, Try.ntmps17
    go_wp2
    go_ret
    exact ⟨by rw [Z.out]; rfl, rfl⟩
set_option maxHeartbeats 6400000 in
theorem apis_any (x : Value) (l : List Apx) (w : World) (S : Nat → Prop) (hv : LAt 3 EApx w S x l) (hS : ∀ g, S g → g < w.heap.size) :
    Calls Try.prog 27 #[x] w fun e w' => e = .returned (.bool (apis l)) ∧ Below w.heap.size w w' := by
  obtain ⟨A, c, g, o, F, rfl, OA, n3⟩ := opn hv hS
  have HA := Seg.hid OA
  clear hv OA
  go_enter Try.func27, Try.ntmps27
  by_cases h1 : l.length ≤ 40
  case neg =>
    have Z : Hid (apis l = false) := by show _ = _; simp [apis, h1]
    go_wp2
    go_ret
    exact ⟨Seg.ret_bool Z.out.symm, Below.refl _ _⟩
  have KS : Hid (apis l = apg none l) := by show _ = _; simp [apis, h1]
  have no : ∀ (w' : World), apis l = false → Below w.heap.size w w' → (Ending.returned (.bool false) = .returned (.bool (apis l)) ∧ Below w.heap.size w w') := fun w' h b => ⟨by rw [h], b⟩
  have NO := Seg.hid no
  clear no
  go_wp2_with fail
  go_loopw [3] (fun i wr => ∃ (k : Nat), k ≤ l.length ∧ i = .int .i64 k ∧ Hid (apg (pvk l k) (l.drop k) = apis l ∧ Below w.heap.size w wr)) (fun i _ => l.length - (intOf i).toNat)
  case atStart => exact ⟨0, Nat.zero_le _, rfl, KS.out.symm, Below.refl _ _⟩
  case round =>
    clear KS
    obtain ⟨k, hk, rfl, HR⟩ := hrel
    by_cases hlt : k < l.length
    · obtain ⟨ea, hc, hga⟩ := HA.out.addr.resolve_left (by omega)
      have hb := HR.out.2
      have OL := HA.out.later keepsApx hS hb
      obtain ⟨d0, d1, d2⟩ := apx_cells (i := k) (fun j hj => OL.cells k hlt j hj) (OL.el k hlt)
      have PV : Hid (0 < k → wr.cell? ⟨g, o + (k - 1) * 3, none⟩ = some (.int .i64 (l.getD (k - 1) default).key) ∧ pvk l k = some (l.getD (k - 1) default).key) := fun h => ⟨(apx_cells (i := k - 1) (fun j hj => OL.cells (k - 1) (by omega) j hj) (OL.el (k - 1) (by omega))).1, by simp only [pvk]; rw [if_neg (by omega)]⟩
      have P0 : Hid (k = 0 → pvk l k = none) := fun h => by simp [pvk, h]
      have h0 : (0 : Int) ≤ (k : Int) := by omega
      have h1' : (k : Int) < (l.length : Int) := by omega
      have hgr : g < wr.heap.size := Nat.lt_of_lt_of_le hga hb.size
      have hpn := Seg.hid (pvk_next l k)
      have HD := HR.out.1
      rw [drop_cons hlt] at HD
      have HD' := Seg.hid HD
      clear HD OL hb
      generalize l.getD k default = tk at *
      generalize pvk l k = pk at *
      subst ea
      have ZF : Hid ((okA tk && ahI pk tk.key) = false → apis l = false) := fun hb => by rw [← HD'.out]; simp only [apg, hb, Bool.false_and]
      have ZT : Hid ((okA tk && ahI pk tk.key) = true → apg (pvk l (k + 1)) (l.drop (k + 1)) = apis l) := fun hb => by rw [hpn.out, ← HD'.out]; simp only [apg, hb, Bool.true_and]
      obtain ⟨wz, hwz⟩ : ∃ wz, wr.alloc (.cells #[.int .i64 tk.key, .int .i64 tk.least, .int .i64 tk.most] 38 (0, 0)) = wz := ⟨_, rfl⟩
      have RZ : Hid (wz.heap[wr.heap.size]? = some (.cells #[.int .i64 tk.key, .int .i64 tk.least, .int .i64 tk.most] 38 (0, 0))) := by show _ = _; rw [← hwz]; exact heap_alloc_new _ _
      have BI : Hid (Below w.heap.size w wz) := by show Below _ _ _; rw [← hwz]; exact chain HR.out.2 (below1 wr _)
      have CZ : Hid (∀ q, wr.cell? ⟨g, q, none⟩ = wz.cell? ⟨g, q, none⟩) := fun q => by rw [← hwz]; exact ((below1 wr _).cell (p := ⟨g, q, none⟩) hgr).symm
      have hlz : wr.heap.size < wz.heap.size := (Array.getElem?_eq_some_iff.1 RZ.out).1
      clear HR
      go_upto_region 7 with fail
      try rw [hwz]
      clear hwz d0 d1 d2
      have p0 : wz.cell? ⟨wr.heap.size, 0, none⟩ = some (.int .i64 tk.key) := cell_of_row wz _ 0 _ _ (0, 0) RZ.out
      have p1 : wz.cell? ⟨wr.heap.size, 1, none⟩ = some (.int .i64 tk.least) := cell_of_row wz _ 1 _ _ (0, 0) RZ.out
      have p2 : wz.cell? ⟨wr.heap.size, 2, none⟩ = some (.int .i64 tk.most) := cell_of_row wz _ 2 _ _ (0, 0) RZ.out
      have CA : ∀ b, inR 0 tk.key 1000 = b → Hid (∀ wx, Calls Try.prog 16 #[.int .i64 tk.key, .int .i64 0, .int .i64 1000] wx fun e w' => e = .returned (.bool b) ∧ w' = wx) := fun b hb wx => InB.l1In_q _ _ _ _ hb wx
      have CB : ∀ b, inR 0 tk.least tk.most = b → Hid (∀ wx, Calls Try.prog 16 #[.int .i64 tk.least, .int .i64 0, .int .i64 tk.most] wx fun e w' => e = .returned (.bool b) ∧ w' = wx) := fun b hb wx => InB.l1In_q _ _ _ _ hb wx
      cases b1 : inR 0 tk.key 1000 with
      | false =>
        have C1 := CA _ b1
        clear CA CB
        have Z := Seg.hid (ZF.out (by simp [okA, b1]))
        go_wp2_with fail
        go_quiet (first | (go_at_call 16; (with_reducible refine Calls.quiet_of_same (C1.out _))))
        go_wp2
        go_ret
        exact NO.out _ Z.out (chain BI.out ((Qt.refl _).drewN _ |>.bel _))
      | true =>
      have C1 := CA _ b1
      by_cases hk0 : k = 0
      · have hgd : decide ((0 : Int) < (k : Int)) = false := decide_eq_false (by omega)
        have hgd2 : decide (0 < k) = false := decide_eq_false (by omega)
        have hgd3 : ¬ 0 < k := by omega
        have hp0 := Seg.hid (P0.out hk0)
        clear hk0 P0 PV
        cases b2 : inR 0 tk.least tk.most with
        | false =>
          have C2 := CB _ b2
          clear CA CB
          have Z := Seg.hid (ZF.out (by simp [okA, b2]))
          go_wp2_with fail
          go_quiet (first | (go_at_call 16; (with_reducible refine Calls.quiet_of_same (C1.out _))) | (go_at_call 16; (with_reducible refine Calls.quiet_of_same (C2.out _))))
          go_wp2
          go_ret
          exact NO.out _ Z.out (chain BI.out ((Qt.refl _).drewN _ |>.bel _))
        | true =>
        have C2 := CB _ b2
        clear CA CB
        by_cases b3 : tk.most ≤ 1000
        case neg =>
          have m1 : decide (1000 < tk.most) = true := decide_eq_true (by omega)
          have Z := Seg.hid (ZF.out (by simp [okA, b3]))
          go_wp2_with fail
          go_quiet (first | (go_at_call 16; (with_reducible refine Calls.quiet_of_same (C1.out _))) | (go_at_call 16; (with_reducible refine Calls.quiet_of_same (C2.out _))))
          go_wp2
          go_ret
          exact NO.out _ Z.out (chain BI.out ((Qt.refl _).drewN _ |>.bel _))
        have ZY := Seg.hid (ZT.out (by rw [hp0.out]; simp [okA, b1, b2, b3, ahI]))
        have m1 : decide (1000 < tk.most) = false := decide_eq_false (by omega)
        go_wp2_with fail
        go_quiet (first | (go_at_call 16; (with_reducible refine Calls.quiet_of_same (C1.out _))) | (go_at_call 16; (with_reducible refine Calls.quiet_of_same (C2.out _))))
        go_wp2
        go_roundw
        case rel => exact ⟨k + 1, by omega, by go_num, ZY.out, chain BI.out ((Qt.refl _).drewN _ |>.bel _)⟩
        case measure => simp [intOf]; omega
      · obtain ⟨e0, hpk⟩ := PV.out (by omega)
        have f0 : wz.cell? ⟨g, o + (k - 1) * 3, none⟩ = some (.int .i64 (l.getD (k - 1) default).key) := by rw [← CZ.out]; exact e0
        have w1 : IntKind.i64.wrap ((k : Int) - 1) = (k : Int) - 1 := by rw [IntKind.wrap_i64] <;> omega
        have k2 : (0 : Int) ≤ (k : Int) - 1 := by omega
        have k3 : (k : Int) - 1 < (l.length : Int) := by omega
        have k4 : (0 : Int) < (k : Int) := by omega
        have k5 : 0 < k := by omega
        have k6 : (1 : Int) ≤ (k : Int) := by omega
        have k7 : 1 ≤ k := by omega
        clear e0 P0 PV
        generalize (l.getD (k - 1) default).key = pn at *
        have HPK := Seg.hid hpk
        clear hpk
        by_cases hge : pn < tk.key
        case neg =>
          have g1 : decide (tk.key ≤ pn) = true := decide_eq_true (by omega)
          clear CA CB
          have Z := Seg.hid (ZF.out (by rw [HPK.out]; simp [ahI, hge]))
          go_wp2_with fail
          go_quiet (first | (go_at_call 16; (with_reducible refine Calls.quiet_of_same (C1.out _))))
          go_wp2
          go_ret
          exact NO.out _ Z.out (chain BI.out ((Qt.refl _).drewN _ |>.bel _))
        have g1 : decide (tk.key ≤ pn) = false := decide_eq_false (by omega)
        cases b2 : inR 0 tk.least tk.most with
        | false =>
          have C2 := CB _ b2
          clear CA CB
          have Z := Seg.hid (ZF.out (by simp [okA, b2]))
          go_wp2_with fail
          go_quiet (first | (go_at_call 16; (with_reducible refine Calls.quiet_of_same (C1.out _))) | (go_at_call 16; (with_reducible refine Calls.quiet_of_same (C2.out _))))
          go_wp2
          go_ret
          exact NO.out _ Z.out (chain BI.out ((Qt.refl _).drewN _ |>.bel _))
        | true =>
        have C2 := CB _ b2
        clear CA CB
        by_cases b3 : tk.most ≤ 1000
        case neg =>
          have m1 : decide (1000 < tk.most) = true := decide_eq_true (by omega)
          have Z := Seg.hid (ZF.out (by simp [okA, b3]))
          go_wp2_with fail
          go_quiet (first | (go_at_call 16; (with_reducible refine Calls.quiet_of_same (C1.out _))) | (go_at_call 16; (with_reducible refine Calls.quiet_of_same (C2.out _))))
          go_wp2
          go_ret
          exact NO.out _ Z.out (chain BI.out ((Qt.refl _).drewN _ |>.bel _))
        have ZY := Seg.hid (ZT.out (by rw [HPK.out]; simp [okA, b1, b2, b3, ahI, hge]))
        have m1 : decide (1000 < tk.most) = false := decide_eq_false (by omega)
        go_wp2_with fail
        go_quiet (first | (go_at_call 16; (with_reducible refine Calls.quiet_of_same (C1.out _))) | (go_at_call 16; (with_reducible refine Calls.quiet_of_same (C2.out _))))
        go_wp2
        go_roundw
        case rel => exact ⟨k + 1, by omega, by go_num, ZY.out, chain BI.out ((Qt.refl _).drewN _ |>.bel _)⟩
        case measure => simp [intOf]; omega
    · have HE := HR.out.1
      rw [List.drop_eq_nil_of_le (by omega)] at HE
      have HE' := Seg.hid HE
      clear HE
      go_wp2
      go_ret
      exact ⟨Seg.ret_bool HE'.out, HR.out.2⟩
theorem at2z (w : World) (a b : Obj) : ((w.alloc a).alloc b).heap[w.heap.size]? = some a := ((below1 (w.alloc a) b).block _ (by rw [hsz]; omega)).trans (heap_alloc_new _ _)
theorem at2y (w : World) (a b : Obj) : ((w.alloc a).alloc b).heap[w.heap.size + 1]? = some b := by
  have := heap_alloc_new (w.alloc a) b
  rwa [hsz] at this
theorem map_getD (xs : List Value) (n : Nat) (h : xs.length = n) : (List.range n).map (fun q => xs.getD q default) = xs := by
  refine List.ext_getElem (by simp [h]) fun i h1 h2 => ?_
  simp [h2]
def acells (l : List Apx) : List Value := l.flatMap fun a => [.int .i64 a.key, .int .i64 a.least, .int .i64 a.most]
theorem acells_len : ∀ l : List Apx, (acells l).length = l.length * 3
  | [] => rfl
  | a :: r => by
    have h := acells_len r
    have e : acells (a :: r) = [Value.int .i64 a.key, .int .i64 a.least, .int .i64 a.most] ++ acells r := rfl
    rw [e, List.length_append, h, List.length_cons]
    simp only [List.length_cons, List.length_nil]
    omega
theorem acells_app (l : List Apx) (a : Apx) : acells (l ++ [a]) = acells l ++ [.int .i64 a.key, .int .i64 a.least, .int .i64 a.most] := by simp [acells]
/-- The answer that grows. -/
structure AO (w wr : World) (v : Value) (acc : List Apx) : Prop where
  own : wr.ownsRow w.heap.size 38 3 v acc.length (acells acc)
  bel : Below w.heap.size w wr
theorem AO.next {w wr w' : World} {v : Value} {acc : List Apx} (h : AO w wr v acc) (b : Below wr.heap.size wr w') : AO w w' v acc := by
  refine ⟨⟨h.own.1, ?_⟩, chain h.bel b⟩
  rcases h.own.2 with hn | ⟨g', cap, cur, h1, hbs, hgg, rest⟩
  · exact .inl hn
  · exact .inr ⟨g', cap, cur, h1, hbs, by rw [b.block g' (Array.getElem?_eq_some_iff.1 hgg).1]; exact hgg, rest⟩
theorem AO.ownB {w wr : World} {v : Value} {acc : List Apx} (h : AO w wr v acc) : ∀ x, v.ownBlock = some x → w.heap.size ≤ x := fun x hx => by
  rcases h.own.2 with ⟨h1, _⟩ | ⟨g', cap, cur, h1, h2, _⟩
  · rw [h1] at hx; cases hx
  · rw [h1] at hx; cases hx; exact h2
theorem acells_get {l : List Apx} {i j : Nat} (hi : i < l.length) (hj : j < 3) : (acells l)[i * 3 + j]? = some ([Value.int .i64 (l.getD i default).key, .int .i64 (l.getD i default).least, .int .i64 (l.getD i default).most].getD j default) := by
  induction l generalizing i with
  | nil => exact absurd hi (Nat.not_lt_zero _)
  | cons a r ih =>
    have e : acells (a :: r) = [Value.int .i64 a.key, .int .i64 a.least, .int .i64 a.most] ++ acells r := rfl
    cases i with
    | zero =>
      rw [e, Nat.zero_mul, Nat.zero_add, List.getElem?_append_left (by simpa using hj)]
      match j, hj with
      | 0, _ => rfl
      | 1, _ => rfl
      | 2, _ => rfl
    | succ i =>
      rw [e, List.getElem?_append_right (by simp only [List.length_cons, List.length_nil]; omega)]
      have := ih (i := i) (by simpa using hi)
      rw [show (i + 1) * 3 + j - [Value.int .i64 a.key, .int .i64 a.least, .int .i64 a.most].length = i * 3 + j by simp only [List.length_cons, List.length_nil]; omega, this]
      simp
theorem AO.all {w wr : World} {v : Value} {acc : List Apx} (h : AO w wr v acc) (hn : acc.length ≤ 1048576) : Ow.ApxsOwn wr (seg w.heap.size wr.heap.size) v acc := by
  refine ⟨hn, ?_⟩
  rcases h.own.2 with ⟨h1, h2⟩ | ⟨g, cap, cur, h1, h2, h3, h4, h5, h6, h7⟩
  · exact ⟨none, 0, by rw [h1, h2], .inl h2⟩
  · refine ⟨_, cap, h1, .inr ⟨g, fun q => (acells acc).getD q default, fun _ _ => False, rfl, ⟨h2, (Array.getElem?_eq_some_iff.1 h3).1⟩, fun i hi x hx => hx.elim, ⟨⟨by simp, .inr ⟨g, cap, cur, rfl, Nat.le_refl _, h3, h4, h5, h6, by rw [h7]; exact (map_getD _ _ (acells_len acc)).symm⟩⟩, rfl, fun i hi => ?_, fun i hi x hx => hx.elim, fun i j hi hj hne x hx => hx.elim⟩⟩⟩
    have e0 := acells_get hi (show 0 < 3 by omega)
    have e1 := acells_get hi (show 1 < 3 by omega)
    have e2 := acells_get hi (show 2 < 3 by omega)
    refine ⟨?_, ?_, ?_⟩
    · show (acells acc).getD (i * 3 + 0) default = _
      rw [List.getD_eq_getElem?_getD, e0]; rfl
    · show (acells acc).getD (i * 3 + 1) default = _
      rw [List.getD_eq_getElem?_getD, e1]; rfl
    · show (acells acc).getD (i * 3 + 2) default = _
      rw [List.getD_eq_getElem?_getD, e2]; rfl
set_option maxHeartbeats 6400000 in
theorem spec_any (x y : Value) (c s : List Apx) (w : World) (S : Nat → Prop) (hx : LAt 3 EApx w S x c) (hy : LAt 3 EApx w S y s) (hS : ∀ g, S g → g < w.heap.size) (h1 : szL szApx c ≤ 1048576) (h2 : szL szApx s ≤ 1048576) :
    Calls Try.prog 12 #[x, y] w fun e w' => ∃ r, e = .returned (.tuple #[r, .bool (agOk c s)]) ∧ Ow.ApxsOwn w' (seg w.heap.size w'.heap.size) r (agree c s) ∧ Below w.heap.size w w' := by
  have HX := Seg.hid hx
  have HY := Seg.hid hy
  obtain ⟨i0, hi, hz0, hz1, hz2⟩ := info_parts infoZApx
  obtain ⟨A, ca, g, o, F, rfl, OA, n3⟩ := opn hx hS
  obtain ⟨A2, cb, g2, o2, F2, rfl, OB, n4⟩ := opn hy hS
  have HA := Seg.hid OA
  have HB := Seg.hid OB
  clear hx hy OA OB h1 h2
  have CX : Hid (∀ wx, Below w.heap.size w wx → Calls Try.prog 27 #[.slice A c.length ca] wx fun e w' => e = .returned (.bool (apis c)) ∧ Below wx.heap.size wx w') := fun wx b => apis_any _ c wx S (LAt.below keepsApx HX.out b hS) (fun g hg => Nat.lt_of_lt_of_le (hS g hg) b.size)
  have CY : Hid (∀ wx, Below w.heap.size w wx → Calls Try.prog 27 #[.slice A2 s.length cb] wx fun e w' => e = .returned (.bool (apis s)) ∧ Below wx.heap.size wx w') := fun wx b => apis_any _ s wx S (LAt.below keepsApx HY.out b hS) (fun g hg => Nat.lt_of_lt_of_le (hS g hg) b.size)
  have A0 : Hid (AO w (w.alloc (.cells #[] 38 (0, 0))) (.slice (some ⟨w.heap.size, 0, none⟩) 0 0) []) := ⟨⟨rfl, .inr ⟨w.heap.size, 0, #[], rfl, Nat.le_refl _, heap_alloc_new _ _, Nat.le_refl _, Nat.zero_le _, rfl, rfl⟩⟩, below1 _ _⟩
  go_enter Try.func12, Try.ntmps12
  cases hc : apis c with
  | false =>
    have Z : Hid (agOk c s = false) := by show _ = _; simp [agOk, hc]
    have Z2 : Hid (agree c s = []) := by show _ = _; simp [agree, Z.out]
    rw [hc] at CX
    go_wp2_with (first | (go_at_call 27; (with_reducible refine (CX.out _ (below1 _ _)).mono ?_); rintro e w1 ⟨rfl, b1⟩; have B1 := Seg.hid b1; clear b1))
    go_ret2
    exact ⟨_, by rw [Z.out]; rfl, by rw [Z2.out]; exact Ow.LOwn.nil _ _ _ _, chain (below1 _ _) B1.out⟩
  | true =>
  cases hs : apis s with
  | false =>
    have Z : Hid (agOk c s = false) := by show _ = _; simp [agOk, hs]
    have Z2 : Hid (agree c s = []) := by show _ = _; simp [agree, Z.out]
    rw [hc] at CX
    rw [hs] at CY
    go_wp2_with (first | (go_at_call 27; (with_reducible refine (CX.out _ (below1 _ _)).mono ?_); rintro e w1 ⟨rfl, b1⟩; have B1 := Seg.hid b1; have D1 := Seg.hid (chain (below1 w _) b1); clear b1) | (go_at_call 27; (with_reducible refine (CY.out _ D1.out).mono ?_); rintro e w2 ⟨rfl, b2⟩; have B2 := Seg.hid b2; clear b2))
    go_ret2
    exact ⟨_, by rw [Z.out]; rfl, by rw [Z2.out]; exact Ow.LOwn.nil _ _ _ _, chain D1.out B2.out⟩
  | true =>
  have Z : Hid (agOk c s = true) := by show _ = _; simp [agOk, hc, hs]
  have Z2 : Hid (agree c s = ags s c) := by show _ = _; simp [agree, Z.out]
  have lc : c.length ≤ 40 := by simp only [apis, Bool.and_eq_true, decide_eq_true_eq] at hc; exact hc.1
  have ls : s.length ≤ 40 := by simp only [apis, Bool.and_eq_true, decide_eq_true_eq] at hs; exact hs.1
  rw [hc] at CX
  rw [hs] at CY
  clear hc hs
  go_wp2_with (first | (go_at_call 27; (with_reducible refine (CX.out _ (below1 _ _)).mono ?_); rintro e w1 ⟨rfl, b1⟩; have D1 := Seg.hid (chain (below1 w _) b1); have A1 := Seg.hid (A0.out.next b1); clear b1) | (go_at_call 27; (with_reducible refine (CY.out _ D1.out).mono ?_); rintro e w2 ⟨rfl, b2⟩; have A2' := Seg.hid (A1.out.next b2); clear b2))
  clear CX CY A0 A1 D1
  go_loopw [6, 7] (fun v i wr => ∃ (k : Nat) (acc : List Apx), k ≤ c.length ∧ i = .int .i64 k ∧ acc.length ≤ 40 * k ∧ Hid (AO w wr v acc ∧ acc ++ ags s (c.drop k) = ags s c)) (fun _ i _ => c.length - (intOf i).toNat)
  case atStart => exact ⟨0, [], Nat.zero_le _, rfl, by simp, A2'.out, rfl⟩
  case round =>
    clear A2'
    obtain ⟨k, acc, hk, rfl, hla, HR⟩ := hrel
    by_cases hlt : k < c.length
    · obtain ⟨ea, hca, hga⟩ := HA.out.addr.resolve_left (by omega)
      have OK : Hid (∀ wx, Below w.heap.size w wx → wx.cell? ⟨g, o + k * 3, none⟩ = some (.int .i64 (c.getD k default).key) ∧ wx.cell? ⟨g, o + k * 3 + 1, none⟩ = some (.int .i64 (c.getD k default).least) ∧ wx.cell? ⟨g, o + k * 3 + 2, none⟩ = some (.int .i64 (c.getD k default).most)) := fun wx b => apx_cells (i := k) (fun j hj => (HA.out.later keepsApx hS b).cells k hlt j hj) ((HA.out.later keepsApx hS b).el k hlt)
      have h0 : (0 : Int) ≤ (k : Int) := by omega
      have h1' : (k : Int) < (c.length : Int) := by omega
      have HD := HR.out.2
      rw [drop_cons hlt] at HD
      have HD' := Seg.hid HD
      have A1 := Seg.hid HR.out.1
      clear HD HR
      generalize c.getD k default = tk at *
      subst ea
      go_wp2_with fail
      go_loopw [6, 8] (fun v i wr => ∃ (m : Nat) (acc2 : List Apx), m ≤ s.length ∧ i = .int .i64 m ∧ acc2.length ≤ 40 * k + m ∧ Hid (AO w wr v acc2 ∧ acc2 ++ prs tk (s.drop m) = acc ++ prs tk s)) (fun _ i _ => s.length - (intOf i).toNat)
      case atStart => exact ⟨0, acc, Nat.zero_le _, rfl, by omega, A1.out, rfl⟩
      case round =>
        clear A1
        obtain ⟨m, acc2, hm, rfl, hlb, HI⟩ := hrel
        by_cases hlm : m < s.length
        · obtain ⟨eb, hcb, hgb⟩ := HB.out.addr.resolve_left (by omega)
          have OM := HB.out.later keepsApx hS HI.out.1.bel
          obtain ⟨e0, e1, e2⟩ := apx_cells (i := m) (fun j hj => OM.cells m hlm j hj) (OM.el m hlm)
          obtain ⟨d0, d1, d2⟩ := OK.out wr HI.out.1.bel
          have h2 : (0 : Int) ≤ (m : Int) := by omega
          have h3 : (m : Int) < (s.length : Int) := by omega
          have hgr : g < wr.heap.size := Nat.lt_of_lt_of_le hga HI.out.1.bel.size
          have hgs : g2 < wr.heap.size := Nat.lt_of_lt_of_le hgb HI.out.1.bel.size
          have HD := HI.out.2
          rw [drop_cons hlm] at HD
          have HE := Seg.hid HD
          have AI := Seg.hid HI.out.1
          clear HD HI OM
          generalize s.getD m default = tm at *
          subst eb
          go_wp2_with fail
          go_region
          · have RA : Hid (((wr.alloc (.cells #[.int .i64 tk.key, .int .i64 tk.least, .int .i64 tk.most] 38 (0, 0))).alloc (.cells #[.int .i64 tm.key, .int .i64 tm.least, .int .i64 tm.most] 38 (0, 0))).drew.heap[wr.heap.size]? = some (.cells #[.int .i64 tk.key, .int .i64 tk.least, .int .i64 tk.most] 38 (0, 0))) := (at2z wr _ _)
            have RB : Hid (((wr.alloc (.cells #[.int .i64 tk.key, .int .i64 tk.least, .int .i64 tk.most] 38 (0, 0))).alloc (.cells #[.int .i64 tm.key, .int .i64 tm.least, .int .i64 tm.most] 38 (0, 0))).drew.heap[wr.heap.size + 1]? = some (.cells #[.int .i64 tm.key, .int .i64 tm.least, .int .i64 tm.most] 38 (0, 0))) := (at2y wr _ _)
            have BZ : Hid (Below wr.heap.size wr ((wr.alloc (.cells #[.int .i64 tk.key, .int .i64 tk.least, .int .i64 tk.most] 38 (0, 0))).alloc (.cells #[.int .i64 tm.key, .int .i64 tm.least, .int .i64 tm.most] 38 (0, 0))).drew) := (below2 wr _ _).drew
            generalize ((wr.alloc (.cells #[.int .i64 tk.key, .int .i64 tk.least, .int .i64 tk.most] 38 (0, 0))).alloc (.cells #[.int .i64 tm.key, .int .i64 tm.least, .int .i64 tm.most] 38 (0, 0))).drew = wz at *
            have AZ := Seg.hid (AI.out.next BZ.out)
            have la : wr.heap.size < wz.heap.size := (Array.getElem?_eq_some_iff.1 RA.out).1
            have lb : wr.heap.size + 1 < wz.heap.size := (Array.getElem?_eq_some_iff.1 RB.out).1
            have hww : w.heap.size ≤ wz.heap.size := AZ.out.bel.size
            have p0 : wz.cell? ⟨wr.heap.size, 0, none⟩ = some (.int .i64 tk.key) := cell_of_row wz _ 0 _ _ (0, 0) RA.out
            have p1 : wz.cell? ⟨wr.heap.size, 1, none⟩ = some (.int .i64 tk.least) := cell_of_row wz _ 1 _ _ (0, 0) RA.out
            have p2 : wz.cell? ⟨wr.heap.size, 2, none⟩ = some (.int .i64 tk.most) := cell_of_row wz _ 2 _ _ (0, 0) RA.out
            have q0 : wz.cell? ⟨wr.heap.size + 1, 0, none⟩ = some (.int .i64 tm.key) := cell_of_row wz _ 0 _ _ (0, 0) RB.out
            have q1 : wz.cell? ⟨wr.heap.size + 1, 1, none⟩ = some (.int .i64 tm.least) := cell_of_row wz _ 1 _ _ (0, 0) RB.out
            have q2 : wz.cell? ⟨wr.heap.size + 1, 2, none⟩ = some (.int .i64 tm.most) := cell_of_row wz _ 2 _ _ (0, 0) RB.out
            clear d0 d1 d2 e0 e1 e2
            obtain ⟨L, hL⟩ : ∃ L, lst tk.most tm.most = L := ⟨_, rfl⟩
            have CL : Hid (∀ wx, Calls Try.prog 17 #[.int .i64 tk.most, .int .i64 tm.most] wx fun e w' => e = .returned (.int .i64 L) ∧ wx = w') := fun wx => by rw [← hL]; exact least_any _ _ wx
            have NN : Hid (agk tk tm = false → acc2 ++ prs tk (s.drop (m + 1)) = acc ++ prs tk s) := fun h => by rw [← HE.out]; simp [prs, pr, h]
            have NY : Hid (agk tk tm = true → (acc2 ++ [⟨tk.key, L, L⟩]) ++ prs tk (s.drop (m + 1)) = acc ++ prs tk s) := fun h => by rw [← HE.out, ← hL]; simp [prs, pr, h]
            have AK : Hid (agk tk tm = (decide (tk.key = tm.key) && (decide (tk.least ≤ L) && decide (tm.least ≤ L)))) := by show _ = _; rw [← hL]; rfl
            clear hL
            by_cases x1 : tk.key = tm.key
            case neg =>
              have y1 : (tk.key == tm.key) = false := by simp [x1]
              have N3 := Seg.hid (NN.out (by rw [AK.out]; simp [x1]))
              go_wp2_with (first | (go_at_call 17; refine (CL.out _).mono ?_; rintro e w3 ⟨rfl, rfl⟩))
              go_roundw
              case rel => exact ⟨m + 1, acc2, by omega, by go_num, by omega, AZ.out, N3.out⟩
              case measure => simp [intOf]; omega
            have y1 : (tk.key == tm.key) = true := by simp [x1]
            have X1 := Seg.hid x1
            clear x1
            by_cases x2 : tk.least ≤ L
            case neg =>
              have y2 : decide (tk.least ≤ L) = false := decide_eq_false x2
              have N3 := Seg.hid (NN.out (by rw [AK.out]; simp [x2]))
              go_wp2_with (first | (go_at_call 17; refine (CL.out _).mono ?_; rintro e w3 ⟨rfl, rfl⟩))
              go_roundw
              case rel => exact ⟨m + 1, acc2, by omega, by go_num, by omega, AZ.out, N3.out⟩
              case measure => simp [intOf]; omega
            have y2 : decide (tk.least ≤ L) = true := decide_eq_true x2
            by_cases x3 : tm.least ≤ L
            case neg =>
              have y3 : decide (tm.least ≤ L) = false := decide_eq_false x3
              have N3 := Seg.hid (NN.out (by rw [AK.out]; simp [x3]))
              go_wp2_with (first | (go_at_call 17; refine (CL.out _).mono ?_; rintro e w3 ⟨rfl, rfl⟩))
              go_roundw
              case rel => exact ⟨m + 1, acc2, by omega, by go_num, by omega, AZ.out, N3.out⟩
              case measure => simp [intOf]; omega
            have y3 : decide (tm.least ≤ L) = true := decide_eq_true x3
            have N3 := Seg.hid (NY.out (by rw [AK.out]; simp [X1.out, x2, x3]))
            have OW : Hid (∀ o1, (wz.alloc o1).ownsRow w.heap.size 38 3 u6 acc2.length (acells acc2)) := fun o1 => (AZ.out.next (below1 wz o1)).own
            have BW : Hid (∀ o1 w9, ((wz.alloc o1).grownBy w9 u6.ownBlock) → Below w.heap.size w w9) := fun o1 w9 h9 => (chain AZ.out.bel (below1 wz o1)).grown h9 (by rw [hsz]; omega) AZ.out.ownB
            go_wp2_with (first | (go_at_call 17; refine (CL.out _).mono ?_; rintro e w3 ⟨rfl, rfl⟩) | (at_builtin; (refine wpList_append_lies _ rfl _ _ 32 rfl w.heap.size 38 i0 _ 3 24 Try.underlying32 hi hz0 hz1 hz2 rfl (by decide) u6 acc2.length (acells acc2) rfl (OW.out _) ⟨wz.heap.size, 0, none⟩ 1 1 [.int .i64 tk.key, .int .i64 L, .int .i64 L] rfl rfl (World.news_of_block (cs := #[.int .i64 tk.key, .int .i64 L, .int .i64 L]) (heap_alloc_new _ _)) (by simp [Value.oneCell']) (by decide) (by unfold maxLen; omega) (by omega) (by rw [hsz]; omega) (wz.heap.size + 1) (by rw [hsz]) ?_; intro g9 cap9 w9 hown9 gr9 hat9 hlt9; have D9 := Seg.hid hown9; have B9 := Seg.hid (BW.out _ _ gr9); clear hown9 gr9 hat9 hlt9)))
            go_roundw
            case rel => exact ⟨m + 1, acc2 ++ [⟨tk.key, L, L⟩], by omega, by go_num, by rw [List.length_append]; simp only [List.length_cons, List.length_nil]; omega, ⟨by rw [List.length_append, acells_app]; exact D9.out, B9.out⟩, N3.out⟩
            case measure => simp [intOf]; omega
          · have RA : Hid (((wr.alloc (.cells #[.int .i64 tm.key, .int .i64 tm.least, .int .i64 tm.most] 38 (0, 0))).alloc (.cells #[.int .i64 tk.key, .int .i64 tk.least, .int .i64 tk.most] 38 (0, 0))).drew.heap[wr.heap.size + 1]? = some (.cells #[.int .i64 tk.key, .int .i64 tk.least, .int .i64 tk.most] 38 (0, 0))) := (at2y wr _ _)
            have RB : Hid (((wr.alloc (.cells #[.int .i64 tm.key, .int .i64 tm.least, .int .i64 tm.most] 38 (0, 0))).alloc (.cells #[.int .i64 tk.key, .int .i64 tk.least, .int .i64 tk.most] 38 (0, 0))).drew.heap[wr.heap.size]? = some (.cells #[.int .i64 tm.key, .int .i64 tm.least, .int .i64 tm.most] 38 (0, 0))) := (at2z wr _ _)
            have BZ : Hid (Below wr.heap.size wr ((wr.alloc (.cells #[.int .i64 tm.key, .int .i64 tm.least, .int .i64 tm.most] 38 (0, 0))).alloc (.cells #[.int .i64 tk.key, .int .i64 tk.least, .int .i64 tk.most] 38 (0, 0))).drew) := (below2 wr _ _).drew
            generalize ((wr.alloc (.cells #[.int .i64 tm.key, .int .i64 tm.least, .int .i64 tm.most] 38 (0, 0))).alloc (.cells #[.int .i64 tk.key, .int .i64 tk.least, .int .i64 tk.most] 38 (0, 0))).drew = wz at *
            have AZ := Seg.hid (AI.out.next BZ.out)
            have la : wr.heap.size + 1 < wz.heap.size := (Array.getElem?_eq_some_iff.1 RA.out).1
            have lb : wr.heap.size < wz.heap.size := (Array.getElem?_eq_some_iff.1 RB.out).1
            have hww : w.heap.size ≤ wz.heap.size := AZ.out.bel.size
            have p0 : wz.cell? ⟨wr.heap.size + 1, 0, none⟩ = some (.int .i64 tk.key) := cell_of_row wz _ 0 _ _ (0, 0) RA.out
            have p1 : wz.cell? ⟨wr.heap.size + 1, 1, none⟩ = some (.int .i64 tk.least) := cell_of_row wz _ 1 _ _ (0, 0) RA.out
            have p2 : wz.cell? ⟨wr.heap.size + 1, 2, none⟩ = some (.int .i64 tk.most) := cell_of_row wz _ 2 _ _ (0, 0) RA.out
            have q0 : wz.cell? ⟨wr.heap.size, 0, none⟩ = some (.int .i64 tm.key) := cell_of_row wz _ 0 _ _ (0, 0) RB.out
            have q1 : wz.cell? ⟨wr.heap.size, 1, none⟩ = some (.int .i64 tm.least) := cell_of_row wz _ 1 _ _ (0, 0) RB.out
            have q2 : wz.cell? ⟨wr.heap.size, 2, none⟩ = some (.int .i64 tm.most) := cell_of_row wz _ 2 _ _ (0, 0) RB.out
            clear d0 d1 d2 e0 e1 e2
            obtain ⟨L, hL⟩ : ∃ L, lst tk.most tm.most = L := ⟨_, rfl⟩
            have CL : Hid (∀ wx, Calls Try.prog 17 #[.int .i64 tk.most, .int .i64 tm.most] wx fun e w' => e = .returned (.int .i64 L) ∧ wx = w') := fun wx => by rw [← hL]; exact least_any _ _ wx
            have NN : Hid (agk tk tm = false → acc2 ++ prs tk (s.drop (m + 1)) = acc ++ prs tk s) := fun h => by rw [← HE.out]; simp [prs, pr, h]
            have NY : Hid (agk tk tm = true → (acc2 ++ [⟨tk.key, L, L⟩]) ++ prs tk (s.drop (m + 1)) = acc ++ prs tk s) := fun h => by rw [← HE.out, ← hL]; simp [prs, pr, h]
            have AK : Hid (agk tk tm = (decide (tk.key = tm.key) && (decide (tk.least ≤ L) && decide (tm.least ≤ L)))) := by show _ = _; rw [← hL]; rfl
            clear hL
            by_cases x1 : tk.key = tm.key
            case neg =>
              have y1 : (tk.key == tm.key) = false := by simp [x1]
              have N3 := Seg.hid (NN.out (by rw [AK.out]; simp [x1]))
              go_wp2_with (first | (go_at_call 17; refine (CL.out _).mono ?_; rintro e w3 ⟨rfl, rfl⟩))
              go_roundw
              case rel => exact ⟨m + 1, acc2, by omega, by go_num, by omega, AZ.out, N3.out⟩
              case measure => simp [intOf]; omega
            have y1 : (tk.key == tm.key) = true := by simp [x1]
            have X1 := Seg.hid x1
            clear x1
            by_cases x2 : tk.least ≤ L
            case neg =>
              have y2 : decide (tk.least ≤ L) = false := decide_eq_false x2
              have N3 := Seg.hid (NN.out (by rw [AK.out]; simp [x2]))
              go_wp2_with (first | (go_at_call 17; refine (CL.out _).mono ?_; rintro e w3 ⟨rfl, rfl⟩))
              go_roundw
              case rel => exact ⟨m + 1, acc2, by omega, by go_num, by omega, AZ.out, N3.out⟩
              case measure => simp [intOf]; omega
            have y2 : decide (tk.least ≤ L) = true := decide_eq_true x2
            by_cases x3 : tm.least ≤ L
            case neg =>
              have y3 : decide (tm.least ≤ L) = false := decide_eq_false x3
              have N3 := Seg.hid (NN.out (by rw [AK.out]; simp [x3]))
              go_wp2_with (first | (go_at_call 17; refine (CL.out _).mono ?_; rintro e w3 ⟨rfl, rfl⟩))
              go_roundw
              case rel => exact ⟨m + 1, acc2, by omega, by go_num, by omega, AZ.out, N3.out⟩
              case measure => simp [intOf]; omega
            have y3 : decide (tm.least ≤ L) = true := decide_eq_true x3
            have N3 := Seg.hid (NY.out (by rw [AK.out]; simp [X1.out, x2, x3]))
            have OW : Hid (∀ o1, (wz.alloc o1).ownsRow w.heap.size 38 3 u6 acc2.length (acells acc2)) := fun o1 => (AZ.out.next (below1 wz o1)).own
            have BW : Hid (∀ o1 w9, ((wz.alloc o1).grownBy w9 u6.ownBlock) → Below w.heap.size w w9) := fun o1 w9 h9 => (chain AZ.out.bel (below1 wz o1)).grown h9 (by rw [hsz]; omega) AZ.out.ownB
            go_wp2_with (first | (go_at_call 17; refine (CL.out _).mono ?_; rintro e w3 ⟨rfl, rfl⟩) | (at_builtin; (refine wpList_append_lies _ rfl _ _ 32 rfl w.heap.size 38 i0 _ 3 24 Try.underlying32 hi hz0 hz1 hz2 rfl (by decide) u6 acc2.length (acells acc2) rfl (OW.out _) ⟨wz.heap.size, 0, none⟩ 1 1 [.int .i64 tk.key, .int .i64 L, .int .i64 L] rfl rfl (World.news_of_block (cs := #[.int .i64 tk.key, .int .i64 L, .int .i64 L]) (heap_alloc_new _ _)) (by simp [Value.oneCell']) (by decide) (by unfold maxLen; omega) (by omega) (by rw [hsz]; omega) (wz.heap.size + 1) (by rw [hsz]) ?_; intro g9 cap9 w9 hown9 gr9 hat9 hlt9; have D9 := Seg.hid hown9; have B9 := Seg.hid (BW.out _ _ gr9); clear hown9 gr9 hat9 hlt9)))
            go_roundw
            case rel => exact ⟨m + 1, acc2 ++ [⟨tk.key, L, L⟩], by omega, by go_num, by rw [List.length_append]; simp only [List.length_cons, List.length_nil]; omega, ⟨by rw [List.length_append, acells_app]; exact D9.out, B9.out⟩, N3.out⟩
            case measure => simp [intOf]; omega
        · have N4 : Hid (AO w wr u6 acc2 ∧ acc2 ++ ags s (c.drop (k + 1)) = ags s c) := by
            have h5 := HI.out.2
            rw [List.drop_eq_nil_of_le (by omega)] at h5
            have h6 : acc2 = acc ++ prs tk s := by simpa [prs] using h5
            refine ⟨HI.out.1, ?_⟩
            rw [← HD'.out, h6]
            simp [ags]
          clear HI
          go_wp2
          go_roundw
          case rel => exact ⟨k + 1, acc2, by omega, by go_num, by omega, N4.out⟩
          case measure => simp [intOf]; omega
    · have N4 : Hid (Ow.ApxsOwn wr (seg w.heap.size wr.heap.size) u6 (ags s c)) := by
        have h5 := HR.out.2
        rw [List.drop_eq_nil_of_le (by omega)] at h5
        have h6 : acc = ags s c := by simpa [ags] using h5
        rw [← h6]
        exact HR.out.1.all (by omega)
      go_wp2
      go_ret2
      exact ⟨_, by rw [Z.out]; rfl, by rw [Z2.out]; exact N4.out, HR.out.1.bel⟩
end Go.Proofs.Ytmkkdladgoilmaa.AgS
