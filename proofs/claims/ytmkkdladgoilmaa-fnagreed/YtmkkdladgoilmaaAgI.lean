/- Agree of the program. -/
import Derived.Test.YtmkkdladgoilmaaAgB
import Derived.Test.YtmkkdladgoilmaaAgS
import Derived.Deep.AppendLies
namespace Go.Proofs.Ytmkkdladgoilmaa.AgI
set_option maxRecDepth 8000
open Go.RowKit
open Ls Lp AgP AgS
open Recs (hsz below1 below2 chain)
set_option linter.unusedVariables false
theorem asc_le : ∀ (l : List Apx), ascL rA l = true → ∀ i j, i ≤ j → j < l.length → (l.getD i default).key ≤ (l.getD j default).key
  | [], _, i, j, _, hj => absurd hj (Nat.not_lt_zero _)
  | [a], _, i, j, hij, hj => by
    have : j = 0 := by simp at hj; exact hj
    subst this
    obtain rfl : i = 0 := by omega
    exact Int.le_refl _
  | a :: b :: r, h, i, j, hij, hj => by
    simp only [ascL, Bool.and_eq_true, rA, decide_eq_true_eq] at h
    have ih := asc_le (b :: r) h.2
    cases i with
    | zero =>
      cases j with
      | zero => exact Int.le_refl _
      | succ j =>
        have := ih 0 j (Nat.zero_le _) (by simpa using hj)
        simp only [List.getD_cons_zero] at this
        simp only [List.getD_cons_zero, List.getD_cons_succ]
        omega
    | succ i =>
      cases j with
      | zero => omega
      | succ j =>
        simp only [List.getD_cons_succ]
        exact ih i j (by omega) (by simpa using hj)
theorem asc_lt : ∀ (l : List Apx), ascL rA l = true → ∀ i j, i < j → j < l.length → (l.getD i default).key < (l.getD j default).key
  | [], _, i, j, _, hj => absurd hj (Nat.not_lt_zero _)
  | [a], _, i, j, hij, hj => by simp at hj; omega
  | a :: b :: r, h, i, j, hij, hj => by
    have h' := h
    simp only [ascL, Bool.and_eq_true, rA, decide_eq_true_eq] at h
    have ih := asc_lt (b :: r) h.2
    cases i with
    | zero =>
      cases j with
      | zero => omega
      | succ j =>
        have := asc_le (b :: r) h.2 0 j (Nat.zero_le _) (by simpa using hj)
        simp only [List.getD_cons_zero] at this
        simp only [List.getD_cons_zero, List.getD_cons_succ]
        omega
    | succ i =>
      cases j with
      | zero => omega
      | succ j =>
        simp only [List.getD_cons_succ]
        exact ih i j (by omega) (by simpa using hj)
theorem prs_none (a : Apx) : ∀ (l : List Apx), (∀ y, y < l.length → (l.getD y default).key ≠ a.key) → prs a l = []
  | [], _ => rfl
  | b :: r, h => by
    have h0 := h 0 (by simp)
    simp only [List.getD_cons_zero] at h0
    have : agk a b = false := by simp only [agk]; rw [decide_eq_false (fun e => h0 e.symm)]; rfl
    rw [prs, pr, if_neg (by rw [this]; decide), prs_none a r fun y hy => by have := h (y + 1) (by simpa using hy); simpa only [List.getD_cons_succ] using this]
    rfl
theorem prs_one (a : Apx) : ∀ (l : List Apx) (r : Nat), r < l.length → (∀ y, y < l.length → y ≠ r → (l.getD y default).key ≠ a.key) → prs a l = pr a (l.getD r default)
  | [], r, h, _ => absurd h (Nat.not_lt_zero _)
  | b :: l, 0, _, h => by
    rw [prs, prs_none a l fun y hy => by have := h (y + 1) (by simpa using hy) (by omega); simpa only [List.getD_cons_succ] using this]
    simp
  | b :: l, r + 1, hr, h => by
    have h0 := h 0 (by simp) (by omega)
    simp only [List.getD_cons_zero] at h0
    have : agk a b = false := by simp only [agk]; rw [decide_eq_false (fun e => h0 e.symm)]; rfl
    rw [prs, pr, if_neg (by rw [this]; decide), prs_one a l r (by simpa using hr) fun y hy hne => by have := h (y + 1) (by simpa using hy) (by omega); simpa only [List.getD_cons_succ] using this]
    simp
theorem prs_at {s : List Apx} {a : Apx} {r : Nat} (h : Fs s a.key r) (hs : ascL rA s = true) : prs a s = if (decide (r < s.length) && decide ((s.getD r default).key = a.key)) = true then pr a (s.getD r default) else [] := by
  by_cases hr : r < s.length
  · by_cases he : (s.getD r default).key = a.key
    · rw [if_pos (by rw [decide_eq_true hr, decide_eq_true he]; rfl)]
      refine prs_one a s r hr fun y hy hne => ?_
      rcases Nat.lt_or_gt_of_ne hne with q | q
      · have := h.lo y q; omega
      · have := asc_lt s hs r y q hy; omega
    · rw [if_neg (by rw [decide_eq_false he]; simp)]
      refine prs_none a s fun y hy => ?_
      by_cases q : y < r
      · have := h.lo y q; omega
      · by_cases q2 : y = r
        · rw [q2]; exact he
        · have := asc_lt s hs r y (by omega) hy
          have := h.hi r (Nat.le_refl _) hr
          omega
  · rw [if_neg (by rw [decide_eq_false hr]; simp)]
    refine prs_none a s fun y hy => ?_
    have := h.lo y (by omega)
    omega
theorem lst_min (x y : Int) : (if y < x then y else x) = lst x y := by unfold lst; split <;> split <;> omega
set_option maxHeartbeats 6400000 in
theorem impl_any (x y : Value) (c s : List Apx) (w : World) (S : Nat → Prop) (hx : LAt 3 EApx w S x c) (hy : LAt 3 EApx w S y s) (hS : ∀ g, S g → g < w.heap.size) (h1 : szL szApx c ≤ 1048576) (h2 : szL szApx s ≤ 1048576) :
    Calls Try.prog 11 #[x, y] w fun e w' => ∃ r, e = .returned (.tuple #[r, .bool (agOk c s)]) ∧ Ow.ApxsOwn w' (seg w.heap.size w'.heap.size) r (agree c s) ∧ Below w.heap.size w w' := by
  have HX := Seg.hid hx
  have HY := Seg.hid hy
  obtain ⟨i0, hi, hz0, hz1, hz2⟩ := info_parts infoZApx
  obtain ⟨A, ca, g, o, F, rfl, OA, n3⟩ := opn hx hS
  obtain ⟨A2, cb, g2, o2, F2, rfl, OB, n4⟩ := opn hy hS
  have HA := Seg.hid OA
  have HB := Seg.hid OB
  clear hx hy OA OB h1 h2
  have CX : Hid (∀ wx, Below w.heap.size w wx → Calls Try.prog 24 #[.slice A c.length ca] wx fun e w' => e = .returned (.bool (apis c)) ∧ Below wx.heap.size wx w') := fun wx b => apisOk_any _ c wx S (LAt.below keepsApx HX.out b hS) (fun g hg => Nat.lt_of_lt_of_le (hS g hg) b.size)
  have CY : Hid (∀ wx, Below w.heap.size w wx → Calls Try.prog 24 #[.slice A2 s.length cb] wx fun e w' => e = .returned (.bool (apis s)) ∧ Below wx.heap.size wx w') := fun wx b => apisOk_any _ s wx S (LAt.below keepsApx HY.out b hS) (fun g hg => Nat.lt_of_lt_of_le (hS g hg) b.size)
  have A0 : Hid (AO w (w.alloc (.cells #[] 38 (0, 0))) (.slice (some ⟨w.heap.size, 0, none⟩) 0 0) []) := ⟨⟨rfl, .inr ⟨w.heap.size, 0, #[], rfl, Nat.le_refl _, heap_alloc_new _ _, Nat.le_refl _, Nat.zero_le _, rfl, rfl⟩⟩, below1 _ _⟩
  go_enter Try.func11, Try.ntmps11
  cases hc : apis c with
  | false =>
    have Z : Hid (agOk c s = false) := by show _ = _; simp [agOk, hc]
    have Z2 : Hid (agree c s = []) := by show _ = _; simp [agree, Z.out]
    rw [hc] at CX
    go_wp2_with (first | (go_at_call 24; (with_reducible refine (CX.out _ (below1 _ _)).mono ?_); rintro e w1 ⟨rfl, b1⟩; have B1 := Seg.hid b1; clear b1))
    go_ret2
    exact ⟨_, by rw [Z.out]; rfl, by rw [Z2.out]; exact Ow.LOwn.nil _ _ _ _, chain (below1 _ _) B1.out⟩
  | true =>
  cases hs : apis s with
  | false =>
    have Z : Hid (agOk c s = false) := by show _ = _; simp [agOk, hs]
    have Z2 : Hid (agree c s = []) := by show _ = _; simp [agree, Z.out]
    rw [hc] at CX
    rw [hs] at CY
    go_wp2_with (first | (go_at_call 24; (with_reducible refine (CX.out _ (below1 _ _)).mono ?_); rintro e w1 ⟨rfl, b1⟩; have B1 := Seg.hid b1; have D1 := Seg.hid (chain (below1 w _) b1); clear b1) | (go_at_call 24; (with_reducible refine (CY.out _ D1.out).mono ?_); rintro e w2 ⟨rfl, b2⟩; have B2 := Seg.hid b2; clear b2))
    go_ret2
    exact ⟨_, by rw [Z.out]; rfl, by rw [Z2.out]; exact Ow.LOwn.nil _ _ _ _, chain D1.out B2.out⟩
  | true =>
  have Z : Hid (agOk c s = true) := by show _ = _; simp [agOk, hc, hs]
  have Z2 : Hid (agree c s = ags s c) := by show _ = _; simp [agree, Z.out]
  have lc : c.length ≤ 40 := by simp only [apis, Bool.and_eq_true, decide_eq_true_eq] at hc; exact hc.1
  have ls : s.length ≤ 40 := by simp only [apis, Bool.and_eq_true, decide_eq_true_eq] at hs; exact hs.1
  have SA : Hid (ascL rA s = true) := by rw [apis_eq] at hs; simp only [Bool.and_eq_true] at hs; exact hs.2.1
  have CB : Hid (∀ wx (a : Apx), Below w.heap.size w wx → Calls Try.prog 25 #[.slice A2 s.length cb, .agg (arow a), .func (.func 26) #[] #[]] wx fun e w' => An s a wx e w') := fun wx a b => bin_any _ s a wx S (LAt.below keepsApx HY.out b hS) (fun g hg => Nat.lt_of_lt_of_le (hS g hg) b.size) ls (asc_le s SA.out)
  rw [hc] at CX
  rw [hs] at CY
  clear hc hs
  go_wp2_with (first | (go_at_call 24; (with_reducible refine (CX.out _ (below1 _ _)).mono ?_); rintro e w1 ⟨rfl, b1⟩; have D1 := Seg.hid (chain (below1 w _) b1); have A1 := Seg.hid (A0.out.next b1); clear b1) | (go_at_call 24; (with_reducible refine (CY.out _ D1.out).mono ?_); rintro e w2 ⟨rfl, b2⟩; have A2' := Seg.hid (A1.out.next b2); clear b2))
  clear CX CY A0 A1 D1
  go_loopw [6, 24] (fun v i wr => ∃ (k : Nat) (acc : List Apx), k ≤ c.length ∧ i = .int .i64 k ∧ acc.length ≤ k ∧ Hid (AO w wr v acc ∧ acc ++ ags s (c.drop k) = ags s c)) (fun _ i _ => c.length - (intOf i).toNat)
  case atStart => exact ⟨0, [], Nat.zero_le _, rfl, by simp, A2'.out, rfl⟩
  case round =>
    clear A2'
    obtain ⟨k, acc, hk, rfl, hla, HR⟩ := hrel
    by_cases hlt : k < c.length
    · obtain ⟨ea, hca, hga⟩ := HA.out.addr.resolve_left (by omega)
      have OL := HA.out.later keepsApx hS HR.out.1.bel
      obtain ⟨d0, d1, d2⟩ := apx_cells (i := k) (fun j hj => OL.cells k hlt j hj) (OL.el k hlt)
      have h0 : (0 : Int) ≤ (k : Int) := by omega
      have h1' : (k : Int) < (c.length : Int) := by omega
      have hgr : g < wr.heap.size := Nat.lt_of_lt_of_le hga HR.out.1.bel.size
      have HD := HR.out.2
      rw [drop_cons hlt] at HD
      have HD' := Seg.hid HD
      have AR := Seg.hid HR.out.1
      clear HD HR OL
      generalize c.getD k default = tk at *
      subst ea
      go_upto_region 7 with fail
      obtain ⟨w7, hw7⟩ : ∃ w7, wr.alloc (.cells (arow tk) 38 (0, 0)) = w7 := ⟨_, rfl⟩
      rw [hw7]
      have R7 : Hid (w7.heap[wr.heap.size]? = some (.cells (arow tk) 38 (0, 0))) := by show _ = _; rw [← hw7]; exact heap_alloc_new _ _
      have A7 : Hid (AO w w7 u6 acc) := by show AO _ _ _ _; rw [← hw7]; exact AR.out.next (below1 _ _)
      clear hw7 AR d0 d1 d2
      have l7 : wr.heap.size < w7.heap.size := (Array.getElem?_eq_some_iff.1 R7.out).1
      have e0 : w7.cell? ⟨wr.heap.size, 0, none⟩ = some (.int .i64 tk.key) := cell_of_row w7 _ 0 _ _ (0, 0) R7.out
      have e1 : w7.cell? ⟨wr.heap.size, 1, none⟩ = some (.int .i64 tk.least) := cell_of_row w7 _ 1 _ _ (0, 0) R7.out
      have e2 : w7.cell? ⟨wr.heap.size, 2, none⟩ = some (.int .i64 tk.most) := cell_of_row w7 _ 2 _ _ (0, 0) R7.out
      go_upto_region 8 with (first | (go_at_call 25; refine (CB.out w7 tk A7.out.bel).mono ?_; rintro e w8 ⟨r, he8, fs, b8⟩; obtain ⟨fl, hfl⟩ : ∃ fl, (decide (r < s.length) && decide ((s.getD r default).key = tk.key)) = fl := ⟨_, rfl⟩; rw [hfl] at he8; subst he8; have HF := Seg.hid hfl; clear hfl; have FS := Seg.hid fs; have B8 := Seg.hid b8; clear fs b8))
      have A8 := Seg.hid (A7.out.next B8.out)
      have R8 := Seg.hid ((B8.out.block _ l7).trans R7.out)
      have l8 : wr.heap.size < w8.heap.size := (Array.getElem?_eq_some_iff.1 R8.out).1
      have PS := Seg.hid (prs_at FS.out SA.out)
      have hww : w.heap.size ≤ w8.heap.size := A8.out.bel.size
      clear e0 e1 e2
      rw [HF.out] at PS
      have hfl := HF.out
      clear HF
      cases fl with
      | false =>
        have NX : Hid (acc ++ ags s (c.drop (k + 1)) = ags s c) := by show _ = _; rw [← HD'.out, ags, PS.out]; simp
        clear hfl
        go_wp2_with fail
        go_roundw
        case rel => exact ⟨k + 1, acc, by omega, by go_num, by omega, A8.out, NX.out⟩
        case measure => simp [intOf]; omega
      | true =>
      rw [if_pos rfl] at PS
      have hr : r < s.length := by simp only [Bool.and_eq_true, decide_eq_true_eq] at hfl; exact hfl.1
      have HK : Hid ((s.getD r default).key = tk.key) := by simp only [Bool.and_eq_true, decide_eq_true_eq] at hfl; exact hfl.2
      obtain ⟨eb, hcb, hgb⟩ := HB.out.addr.resolve_left (by omega)
      have OM := HB.out.later keepsApx hS A8.out.bel
      obtain ⟨q0, q1, q2⟩ := apx_cells (i := r) (fun j hj => OM.cells r hr j hj) (OM.el r hr)
      have hgs : g2 < w8.heap.size := Nat.lt_of_lt_of_le hgb A8.out.bel.size
      have h2 : (0 : Int) ≤ (r : Int) := by omega
      have h3 : (r : Int) < (s.length : Int) := by omega
      have p0 : w8.cell? ⟨wr.heap.size, 0, none⟩ = some (.int .i64 tk.key) := cell_of_row w8 _ 0 _ _ (0, 0) R8.out
      have p1 : w8.cell? ⟨wr.heap.size, 1, none⟩ = some (.int .i64 tk.least) := cell_of_row w8 _ 1 _ _ (0, 0) R8.out
      have p2 : w8.cell? ⟨wr.heap.size, 2, none⟩ = some (.int .i64 tk.most) := cell_of_row w8 _ 2 _ _ (0, 0) R8.out
      clear OM hfl FS
      generalize s.getD r default = tm at *
      subst eb
      by_cases c1 : tm.most < tk.most
      · skip
        by_cases c2 : tk.least < tm.least
        · by_cases c3 : tm.least ≤ tm.most
          · have x1 : tm.most < tk.most := c1
            have x2 : tk.least < tm.least := c2
            have x3 : tm.least ≤ tm.most := c3
            have AK : Hid (agk tk tm = true) := by
              show _ = _
              have e : lst tk.most tm.most = tm.most := by unfold lst; split <;> omega
              simp only [agk, e]
              rw [decide_eq_true HK.out.symm, decide_eq_true (by omega), decide_eq_true (by omega)]; rfl
            have PE : Hid (pr tk tm = [⟨tk.key, tm.most, tm.most⟩]) := by
              show _ = _
              have e : lst tk.most tm.most = tm.most := by unfold lst; split <;> omega
              simp [pr, AK.out, e]
            have NX : Hid ((acc ++ [⟨tk.key, tm.most, tm.most⟩]) ++ ags s (c.drop (k + 1)) = ags s c) := by show _ = _; rw [← HD'.out, ags, PS.out, PE.out]; simp
            have OW : Hid (∀ wx, Qt w8 wx → ∀ o1, (wx.alloc o1).ownsRow w.heap.size 38 3 u6 acc.length (acells acc)) := fun wx hq o1 => ((A8.out.next (hq.bel _)).next (below1 wx o1)).own
            have BW : Hid (∀ wx, Qt w8 wx → ∀ o1 w9, ((wx.alloc o1).grownBy w9 u6.ownBlock) → Below w.heap.size w w9) := fun wx hq o1 w9 h9 => (chain (chain A8.out.bel (hq.bel _)) (below1 wx o1)).grown h9 (by rw [hsz, hq.heap]; omega) A8.out.ownB
            go_wp2_with fail
            go_region_held3 (fun w' => w'.cell? ⟨wr.heap.size, 0, none⟩ = some (.int .i64 tk.key) ∧ w'.cell? ⟨wr.heap.size, 1, none⟩ = some (.int .i64 tk.least) ∧ w'.cell? ⟨wr.heap.size, 2, none⟩ = some (.int .i64 tk.most) ∧ w'.cell? ⟨g2, o2 + r * 3, none⟩ = some (.int .i64 tm.key) ∧ w'.cell? ⟨g2, o2 + r * 3 + 1, none⟩ = some (.int .i64 tm.least) ∧ w'.cell? ⟨g2, o2 + r * 3 + 2, none⟩ = some (.int .i64 tm.most)) (first | exact ⟨p0, p1, p2, q0, q1, q2⟩ | go_keep) (fail)
            go_wp2_with fail
            go_region_held3 (fun w' => w'.cell? ⟨wr.heap.size, 0, none⟩ = some (.int .i64 tk.key) ∧ w'.cell? ⟨wr.heap.size, 1, none⟩ = some (.int .i64 tk.least) ∧ w'.cell? ⟨wr.heap.size, 2, none⟩ = some (.int .i64 tk.most) ∧ w'.cell? ⟨g2, o2 + r * 3, none⟩ = some (.int .i64 tm.key) ∧ w'.cell? ⟨g2, o2 + r * 3 + 1, none⟩ = some (.int .i64 tm.least) ∧ w'.cell? ⟨g2, o2 + r * 3 + 2, none⟩ = some (.int .i64 tm.most)) (first | exact ⟨p0, p1, p2, q0, q1, q2⟩ | go_keep) (fail)
            go_upto_region 11 with fail
            obtain ⟨wz, hwz⟩ : ∃ wz, w8.drew.drew = wz := ⟨_, rfl⟩
            have QZ : Hid (Qt w8 wz) := by show Qt _ _; rw [← hwz]; exact ((Qt.refl w8).drew).drew
            try rw [hwz]
            clear hwz
            have t0 := (QZ.out.cell ⟨wr.heap.size, 0, none⟩).trans p0
            have lz : w.heap.size ≤ wz.heap.size := by rw [QZ.out.heap]; omega
            have lz2 : wr.heap.size < wz.heap.size := by rw [QZ.out.heap]; omega
            go_wp2_with (first | (at_builtin; (refine wpList_append_lies _ rfl _ _ 32 rfl w.heap.size 38 i0 _ 3 24 Try.underlying32 hi hz0 hz1 hz2 rfl (by decide) u6 acc.length (acells acc) rfl (OW.out wz QZ.out _) ⟨wz.heap.size, 0, none⟩ 1 1 [.int .i64 tk.key, .int .i64 tm.most, .int .i64 tm.most] rfl rfl (World.news_of_block (cs := #[.int .i64 tk.key, .int .i64 tm.most, .int .i64 tm.most]) (heap_alloc_new _ _)) (by simp [Value.oneCell']) (by decide) (by unfold maxLen; omega) (by omega) (by rw [hsz]; omega) (wz.heap.size + 1) (by rw [hsz]) ?_; intro g9 cap9 w9 hown9 gr9 hat9 hlt9; have D9 := Seg.hid hown9; have B9 := Seg.hid (BW.out wz QZ.out _ _ gr9); clear hown9 gr9 hat9 hlt9)))
            go_roundw
            case rel => exact ⟨k + 1, acc ++ [⟨tk.key, tm.most, tm.most⟩], by omega, by go_num, by rw [List.length_append]; simp only [List.length_cons, List.length_nil]; omega, ⟨by rw [List.length_append, acells_app]; exact D9.out, B9.out⟩, NX.out⟩
            case measure => simp [intOf]; omega
          · have x1 : tm.most < tk.most := c1
            have x2 : tk.least < tm.least := c2
            have x3 : ¬ tm.least ≤ tm.most := c3
            have AK : Hid (agk tk tm = false) := by
              show _ = _
              have e : lst tk.most tm.most = tm.most := by unfold lst; split <;> omega
              simp only [agk, e]
              rw [Bool.and_eq_false_iff, Bool.and_eq_false_iff, decide_eq_false_iff_not, decide_eq_false_iff_not, decide_eq_false_iff_not]; right; omega
            have PE : Hid (pr tk tm = []) := by
              show _ = _
              have e : lst tk.most tm.most = tm.most := by unfold lst; split <;> omega
              simp [pr, AK.out]
            have NX : Hid ((acc) ++ ags s (c.drop (k + 1)) = ags s c) := by show _ = _; rw [← HD'.out, ags, PS.out, PE.out]; simp
            have AN : Hid (∀ wx, Qt w8 wx → AO w wx u6 acc) := fun wx hq => A8.out.next (hq.bel _)
            go_wp2_with fail
            go_region_held3 (fun w' => w'.cell? ⟨wr.heap.size, 0, none⟩ = some (.int .i64 tk.key) ∧ w'.cell? ⟨wr.heap.size, 1, none⟩ = some (.int .i64 tk.least) ∧ w'.cell? ⟨wr.heap.size, 2, none⟩ = some (.int .i64 tk.most) ∧ w'.cell? ⟨g2, o2 + r * 3, none⟩ = some (.int .i64 tm.key) ∧ w'.cell? ⟨g2, o2 + r * 3 + 1, none⟩ = some (.int .i64 tm.least) ∧ w'.cell? ⟨g2, o2 + r * 3 + 2, none⟩ = some (.int .i64 tm.most)) (first | exact ⟨p0, p1, p2, q0, q1, q2⟩ | go_keep) (fail)
            go_wp2_with fail
            go_region_held3 (fun w' => w'.cell? ⟨wr.heap.size, 0, none⟩ = some (.int .i64 tk.key) ∧ w'.cell? ⟨wr.heap.size, 1, none⟩ = some (.int .i64 tk.least) ∧ w'.cell? ⟨wr.heap.size, 2, none⟩ = some (.int .i64 tk.most) ∧ w'.cell? ⟨g2, o2 + r * 3, none⟩ = some (.int .i64 tm.key) ∧ w'.cell? ⟨g2, o2 + r * 3 + 1, none⟩ = some (.int .i64 tm.least) ∧ w'.cell? ⟨g2, o2 + r * 3 + 2, none⟩ = some (.int .i64 tm.most)) (first | exact ⟨p0, p1, p2, q0, q1, q2⟩ | go_keep) (fail)
            go_wp2_with fail
            go_roundw
            case rel => exact ⟨k + 1, acc, by omega, by go_num, by omega, AN.out _ ⟨rfl, rfl, rfl, rfl⟩, NX.out⟩
            case measure => simp [intOf]; omega
        · by_cases c3 : tk.least ≤ tm.most
          · have x1 : tm.most < tk.most := c1
            have x2 : ¬ tk.least < tm.least := c2
            have x3 : tk.least ≤ tm.most := c3
            have AK : Hid (agk tk tm = true) := by
              show _ = _
              have e : lst tk.most tm.most = tm.most := by unfold lst; split <;> omega
              simp only [agk, e]
              rw [decide_eq_true HK.out.symm, decide_eq_true (by omega), decide_eq_true (by omega)]; rfl
            have PE : Hid (pr tk tm = [⟨tk.key, tm.most, tm.most⟩]) := by
              show _ = _
              have e : lst tk.most tm.most = tm.most := by unfold lst; split <;> omega
              simp [pr, AK.out, e]
            have NX : Hid ((acc ++ [⟨tk.key, tm.most, tm.most⟩]) ++ ags s (c.drop (k + 1)) = ags s c) := by show _ = _; rw [← HD'.out, ags, PS.out, PE.out]; simp
            have OW : Hid (∀ wx, Qt w8 wx → ∀ o1, (wx.alloc o1).ownsRow w.heap.size 38 3 u6 acc.length (acells acc)) := fun wx hq o1 => ((A8.out.next (hq.bel _)).next (below1 wx o1)).own
            have BW : Hid (∀ wx, Qt w8 wx → ∀ o1 w9, ((wx.alloc o1).grownBy w9 u6.ownBlock) → Below w.heap.size w w9) := fun wx hq o1 w9 h9 => (chain (chain A8.out.bel (hq.bel _)) (below1 wx o1)).grown h9 (by rw [hsz, hq.heap]; omega) A8.out.ownB
            go_wp2_with fail
            go_region_held3 (fun w' => w'.cell? ⟨wr.heap.size, 0, none⟩ = some (.int .i64 tk.key) ∧ w'.cell? ⟨wr.heap.size, 1, none⟩ = some (.int .i64 tk.least) ∧ w'.cell? ⟨wr.heap.size, 2, none⟩ = some (.int .i64 tk.most) ∧ w'.cell? ⟨g2, o2 + r * 3, none⟩ = some (.int .i64 tm.key) ∧ w'.cell? ⟨g2, o2 + r * 3 + 1, none⟩ = some (.int .i64 tm.least) ∧ w'.cell? ⟨g2, o2 + r * 3 + 2, none⟩ = some (.int .i64 tm.most)) (first | exact ⟨p0, p1, p2, q0, q1, q2⟩ | go_keep) (fail)
            go_wp2_with fail
            go_region_held3 (fun w' => w'.cell? ⟨wr.heap.size, 0, none⟩ = some (.int .i64 tk.key) ∧ w'.cell? ⟨wr.heap.size, 1, none⟩ = some (.int .i64 tk.least) ∧ w'.cell? ⟨wr.heap.size, 2, none⟩ = some (.int .i64 tk.most) ∧ w'.cell? ⟨g2, o2 + r * 3, none⟩ = some (.int .i64 tm.key) ∧ w'.cell? ⟨g2, o2 + r * 3 + 1, none⟩ = some (.int .i64 tm.least) ∧ w'.cell? ⟨g2, o2 + r * 3 + 2, none⟩ = some (.int .i64 tm.most)) (first | exact ⟨p0, p1, p2, q0, q1, q2⟩ | go_keep) (fail)
            go_upto_region 11 with fail
            obtain ⟨wz, hwz⟩ : ∃ wz, w8.drew.drew = wz := ⟨_, rfl⟩
            have QZ : Hid (Qt w8 wz) := by show Qt _ _; rw [← hwz]; exact ((Qt.refl w8).drew).drew
            try rw [hwz]
            clear hwz
            have t0 := (QZ.out.cell ⟨wr.heap.size, 0, none⟩).trans p0
            have lz : w.heap.size ≤ wz.heap.size := by rw [QZ.out.heap]; omega
            have lz2 : wr.heap.size < wz.heap.size := by rw [QZ.out.heap]; omega
            go_wp2_with (first | (at_builtin; (refine wpList_append_lies _ rfl _ _ 32 rfl w.heap.size 38 i0 _ 3 24 Try.underlying32 hi hz0 hz1 hz2 rfl (by decide) u6 acc.length (acells acc) rfl (OW.out wz QZ.out _) ⟨wz.heap.size, 0, none⟩ 1 1 [.int .i64 tk.key, .int .i64 tm.most, .int .i64 tm.most] rfl rfl (World.news_of_block (cs := #[.int .i64 tk.key, .int .i64 tm.most, .int .i64 tm.most]) (heap_alloc_new _ _)) (by simp [Value.oneCell']) (by decide) (by unfold maxLen; omega) (by omega) (by rw [hsz]; omega) (wz.heap.size + 1) (by rw [hsz]) ?_; intro g9 cap9 w9 hown9 gr9 hat9 hlt9; have D9 := Seg.hid hown9; have B9 := Seg.hid (BW.out wz QZ.out _ _ gr9); clear hown9 gr9 hat9 hlt9)))
            go_roundw
            case rel => exact ⟨k + 1, acc ++ [⟨tk.key, tm.most, tm.most⟩], by omega, by go_num, by rw [List.length_append]; simp only [List.length_cons, List.length_nil]; omega, ⟨by rw [List.length_append, acells_app]; exact D9.out, B9.out⟩, NX.out⟩
            case measure => simp [intOf]; omega
          · have x1 : tm.most < tk.most := c1
            have x2 : ¬ tk.least < tm.least := c2
            have x3 : ¬ tk.least ≤ tm.most := c3
            have AK : Hid (agk tk tm = false) := by
              show _ = _
              have e : lst tk.most tm.most = tm.most := by unfold lst; split <;> omega
              simp only [agk, e]
              rw [Bool.and_eq_false_iff, Bool.and_eq_false_iff, decide_eq_false_iff_not, decide_eq_false_iff_not, decide_eq_false_iff_not]; right; omega
            have PE : Hid (pr tk tm = []) := by
              show _ = _
              have e : lst tk.most tm.most = tm.most := by unfold lst; split <;> omega
              simp [pr, AK.out]
            have NX : Hid ((acc) ++ ags s (c.drop (k + 1)) = ags s c) := by show _ = _; rw [← HD'.out, ags, PS.out, PE.out]; simp
            have AN : Hid (∀ wx, Qt w8 wx → AO w wx u6 acc) := fun wx hq => A8.out.next (hq.bel _)
            go_wp2_with fail
            go_region_held3 (fun w' => w'.cell? ⟨wr.heap.size, 0, none⟩ = some (.int .i64 tk.key) ∧ w'.cell? ⟨wr.heap.size, 1, none⟩ = some (.int .i64 tk.least) ∧ w'.cell? ⟨wr.heap.size, 2, none⟩ = some (.int .i64 tk.most) ∧ w'.cell? ⟨g2, o2 + r * 3, none⟩ = some (.int .i64 tm.key) ∧ w'.cell? ⟨g2, o2 + r * 3 + 1, none⟩ = some (.int .i64 tm.least) ∧ w'.cell? ⟨g2, o2 + r * 3 + 2, none⟩ = some (.int .i64 tm.most)) (first | exact ⟨p0, p1, p2, q0, q1, q2⟩ | go_keep) (fail)
            go_wp2_with fail
            go_region_held3 (fun w' => w'.cell? ⟨wr.heap.size, 0, none⟩ = some (.int .i64 tk.key) ∧ w'.cell? ⟨wr.heap.size, 1, none⟩ = some (.int .i64 tk.least) ∧ w'.cell? ⟨wr.heap.size, 2, none⟩ = some (.int .i64 tk.most) ∧ w'.cell? ⟨g2, o2 + r * 3, none⟩ = some (.int .i64 tm.key) ∧ w'.cell? ⟨g2, o2 + r * 3 + 1, none⟩ = some (.int .i64 tm.least) ∧ w'.cell? ⟨g2, o2 + r * 3 + 2, none⟩ = some (.int .i64 tm.most)) (first | exact ⟨p0, p1, p2, q0, q1, q2⟩ | go_keep) (fail)
            go_wp2_with fail
            go_roundw
            case rel => exact ⟨k + 1, acc, by omega, by go_num, by omega, AN.out _ ⟨rfl, rfl, rfl, rfl⟩, NX.out⟩
            case measure => simp [intOf]; omega
      · skip
        by_cases c2 : tk.least < tm.least
        · by_cases c3 : tm.least ≤ tk.most
          · have x1 : ¬ tm.most < tk.most := c1
            have x2 : tk.least < tm.least := c2
            have x3 : tm.least ≤ tk.most := c3
            have AK : Hid (agk tk tm = true) := by
              show _ = _
              have e : lst tk.most tm.most = tk.most := by unfold lst; split <;> omega
              simp only [agk, e]
              rw [decide_eq_true HK.out.symm, decide_eq_true (by omega), decide_eq_true (by omega)]; rfl
            have PE : Hid (pr tk tm = [⟨tk.key, tk.most, tk.most⟩]) := by
              show _ = _
              have e : lst tk.most tm.most = tk.most := by unfold lst; split <;> omega
              simp [pr, AK.out, e]
            have NX : Hid ((acc ++ [⟨tk.key, tk.most, tk.most⟩]) ++ ags s (c.drop (k + 1)) = ags s c) := by show _ = _; rw [← HD'.out, ags, PS.out, PE.out]; simp
            have OW : Hid (∀ wx, Qt w8 wx → ∀ o1, (wx.alloc o1).ownsRow w.heap.size 38 3 u6 acc.length (acells acc)) := fun wx hq o1 => ((A8.out.next (hq.bel _)).next (below1 wx o1)).own
            have BW : Hid (∀ wx, Qt w8 wx → ∀ o1 w9, ((wx.alloc o1).grownBy w9 u6.ownBlock) → Below w.heap.size w w9) := fun wx hq o1 w9 h9 => (chain (chain A8.out.bel (hq.bel _)) (below1 wx o1)).grown h9 (by rw [hsz, hq.heap]; omega) A8.out.ownB
            go_wp2_with fail
            go_region_held3 (fun w' => w'.cell? ⟨wr.heap.size, 0, none⟩ = some (.int .i64 tk.key) ∧ w'.cell? ⟨wr.heap.size, 1, none⟩ = some (.int .i64 tk.least) ∧ w'.cell? ⟨wr.heap.size, 2, none⟩ = some (.int .i64 tk.most) ∧ w'.cell? ⟨g2, o2 + r * 3, none⟩ = some (.int .i64 tm.key) ∧ w'.cell? ⟨g2, o2 + r * 3 + 1, none⟩ = some (.int .i64 tm.least) ∧ w'.cell? ⟨g2, o2 + r * 3 + 2, none⟩ = some (.int .i64 tm.most)) (first | exact ⟨p0, p1, p2, q0, q1, q2⟩ | go_keep) (fail)
            go_wp2_with fail
            go_region_held3 (fun w' => w'.cell? ⟨wr.heap.size, 0, none⟩ = some (.int .i64 tk.key) ∧ w'.cell? ⟨wr.heap.size, 1, none⟩ = some (.int .i64 tk.least) ∧ w'.cell? ⟨wr.heap.size, 2, none⟩ = some (.int .i64 tk.most) ∧ w'.cell? ⟨g2, o2 + r * 3, none⟩ = some (.int .i64 tm.key) ∧ w'.cell? ⟨g2, o2 + r * 3 + 1, none⟩ = some (.int .i64 tm.least) ∧ w'.cell? ⟨g2, o2 + r * 3 + 2, none⟩ = some (.int .i64 tm.most)) (first | exact ⟨p0, p1, p2, q0, q1, q2⟩ | go_keep) (fail)
            go_upto_region 11 with fail
            obtain ⟨wz, hwz⟩ : ∃ wz, w8.drew.drew = wz := ⟨_, rfl⟩
            have QZ : Hid (Qt w8 wz) := by show Qt _ _; rw [← hwz]; exact ((Qt.refl w8).drew).drew
            try rw [hwz]
            clear hwz
            have t0 := (QZ.out.cell ⟨wr.heap.size, 0, none⟩).trans p0
            have lz : w.heap.size ≤ wz.heap.size := by rw [QZ.out.heap]; omega
            have lz2 : wr.heap.size < wz.heap.size := by rw [QZ.out.heap]; omega
            go_wp2_with (first | (at_builtin; (refine wpList_append_lies _ rfl _ _ 32 rfl w.heap.size 38 i0 _ 3 24 Try.underlying32 hi hz0 hz1 hz2 rfl (by decide) u6 acc.length (acells acc) rfl (OW.out wz QZ.out _) ⟨wz.heap.size, 0, none⟩ 1 1 [.int .i64 tk.key, .int .i64 tk.most, .int .i64 tk.most] rfl rfl (World.news_of_block (cs := #[.int .i64 tk.key, .int .i64 tk.most, .int .i64 tk.most]) (heap_alloc_new _ _)) (by simp [Value.oneCell']) (by decide) (by unfold maxLen; omega) (by omega) (by rw [hsz]; omega) (wz.heap.size + 1) (by rw [hsz]) ?_; intro g9 cap9 w9 hown9 gr9 hat9 hlt9; have D9 := Seg.hid hown9; have B9 := Seg.hid (BW.out wz QZ.out _ _ gr9); clear hown9 gr9 hat9 hlt9)))
            go_roundw
            case rel => exact ⟨k + 1, acc ++ [⟨tk.key, tk.most, tk.most⟩], by omega, by go_num, by rw [List.length_append]; simp only [List.length_cons, List.length_nil]; omega, ⟨by rw [List.length_append, acells_app]; exact D9.out, B9.out⟩, NX.out⟩
            case measure => simp [intOf]; omega
          · have x1 : ¬ tm.most < tk.most := c1
            have x2 : tk.least < tm.least := c2
            have x3 : ¬ tm.least ≤ tk.most := c3
            have AK : Hid (agk tk tm = false) := by
              show _ = _
              have e : lst tk.most tm.most = tk.most := by unfold lst; split <;> omega
              simp only [agk, e]
              rw [Bool.and_eq_false_iff, Bool.and_eq_false_iff, decide_eq_false_iff_not, decide_eq_false_iff_not, decide_eq_false_iff_not]; right; omega
            have PE : Hid (pr tk tm = []) := by
              show _ = _
              have e : lst tk.most tm.most = tk.most := by unfold lst; split <;> omega
              simp [pr, AK.out]
            have NX : Hid ((acc) ++ ags s (c.drop (k + 1)) = ags s c) := by show _ = _; rw [← HD'.out, ags, PS.out, PE.out]; simp
            have AN : Hid (∀ wx, Qt w8 wx → AO w wx u6 acc) := fun wx hq => A8.out.next (hq.bel _)
            go_wp2_with fail
            go_region_held3 (fun w' => w'.cell? ⟨wr.heap.size, 0, none⟩ = some (.int .i64 tk.key) ∧ w'.cell? ⟨wr.heap.size, 1, none⟩ = some (.int .i64 tk.least) ∧ w'.cell? ⟨wr.heap.size, 2, none⟩ = some (.int .i64 tk.most) ∧ w'.cell? ⟨g2, o2 + r * 3, none⟩ = some (.int .i64 tm.key) ∧ w'.cell? ⟨g2, o2 + r * 3 + 1, none⟩ = some (.int .i64 tm.least) ∧ w'.cell? ⟨g2, o2 + r * 3 + 2, none⟩ = some (.int .i64 tm.most)) (first | exact ⟨p0, p1, p2, q0, q1, q2⟩ | go_keep) (fail)
            go_wp2_with fail
            go_region_held3 (fun w' => w'.cell? ⟨wr.heap.size, 0, none⟩ = some (.int .i64 tk.key) ∧ w'.cell? ⟨wr.heap.size, 1, none⟩ = some (.int .i64 tk.least) ∧ w'.cell? ⟨wr.heap.size, 2, none⟩ = some (.int .i64 tk.most) ∧ w'.cell? ⟨g2, o2 + r * 3, none⟩ = some (.int .i64 tm.key) ∧ w'.cell? ⟨g2, o2 + r * 3 + 1, none⟩ = some (.int .i64 tm.least) ∧ w'.cell? ⟨g2, o2 + r * 3 + 2, none⟩ = some (.int .i64 tm.most)) (first | exact ⟨p0, p1, p2, q0, q1, q2⟩ | go_keep) (fail)
            go_wp2_with fail
            go_roundw
            case rel => exact ⟨k + 1, acc, by omega, by go_num, by omega, AN.out _ ⟨rfl, rfl, rfl, rfl⟩, NX.out⟩
            case measure => simp [intOf]; omega
        · by_cases c3 : tk.least ≤ tk.most
          · have x1 : ¬ tm.most < tk.most := c1
            have x2 : ¬ tk.least < tm.least := c2
            have x3 : tk.least ≤ tk.most := c3
            have AK : Hid (agk tk tm = true) := by
              show _ = _
              have e : lst tk.most tm.most = tk.most := by unfold lst; split <;> omega
              simp only [agk, e]
              rw [decide_eq_true HK.out.symm, decide_eq_true (by omega), decide_eq_true (by omega)]; rfl
            have PE : Hid (pr tk tm = [⟨tk.key, tk.most, tk.most⟩]) := by
              show _ = _
              have e : lst tk.most tm.most = tk.most := by unfold lst; split <;> omega
              simp [pr, AK.out, e]
            have NX : Hid ((acc ++ [⟨tk.key, tk.most, tk.most⟩]) ++ ags s (c.drop (k + 1)) = ags s c) := by show _ = _; rw [← HD'.out, ags, PS.out, PE.out]; simp
            have OW : Hid (∀ wx, Qt w8 wx → ∀ o1, (wx.alloc o1).ownsRow w.heap.size 38 3 u6 acc.length (acells acc)) := fun wx hq o1 => ((A8.out.next (hq.bel _)).next (below1 wx o1)).own
            have BW : Hid (∀ wx, Qt w8 wx → ∀ o1 w9, ((wx.alloc o1).grownBy w9 u6.ownBlock) → Below w.heap.size w w9) := fun wx hq o1 w9 h9 => (chain (chain A8.out.bel (hq.bel _)) (below1 wx o1)).grown h9 (by rw [hsz, hq.heap]; omega) A8.out.ownB
            go_wp2_with fail
            go_region_held3 (fun w' => w'.cell? ⟨wr.heap.size, 0, none⟩ = some (.int .i64 tk.key) ∧ w'.cell? ⟨wr.heap.size, 1, none⟩ = some (.int .i64 tk.least) ∧ w'.cell? ⟨wr.heap.size, 2, none⟩ = some (.int .i64 tk.most) ∧ w'.cell? ⟨g2, o2 + r * 3, none⟩ = some (.int .i64 tm.key) ∧ w'.cell? ⟨g2, o2 + r * 3 + 1, none⟩ = some (.int .i64 tm.least) ∧ w'.cell? ⟨g2, o2 + r * 3 + 2, none⟩ = some (.int .i64 tm.most)) (first | exact ⟨p0, p1, p2, q0, q1, q2⟩ | go_keep) (fail)
            go_wp2_with fail
            go_region_held3 (fun w' => w'.cell? ⟨wr.heap.size, 0, none⟩ = some (.int .i64 tk.key) ∧ w'.cell? ⟨wr.heap.size, 1, none⟩ = some (.int .i64 tk.least) ∧ w'.cell? ⟨wr.heap.size, 2, none⟩ = some (.int .i64 tk.most) ∧ w'.cell? ⟨g2, o2 + r * 3, none⟩ = some (.int .i64 tm.key) ∧ w'.cell? ⟨g2, o2 + r * 3 + 1, none⟩ = some (.int .i64 tm.least) ∧ w'.cell? ⟨g2, o2 + r * 3 + 2, none⟩ = some (.int .i64 tm.most)) (first | exact ⟨p0, p1, p2, q0, q1, q2⟩ | go_keep) (fail)
            go_upto_region 11 with fail
            obtain ⟨wz, hwz⟩ : ∃ wz, w8.drew.drew = wz := ⟨_, rfl⟩
            have QZ : Hid (Qt w8 wz) := by show Qt _ _; rw [← hwz]; exact ((Qt.refl w8).drew).drew
            try rw [hwz]
            clear hwz
            have t0 := (QZ.out.cell ⟨wr.heap.size, 0, none⟩).trans p0
            have lz : w.heap.size ≤ wz.heap.size := by rw [QZ.out.heap]; omega
            have lz2 : wr.heap.size < wz.heap.size := by rw [QZ.out.heap]; omega
            go_wp2_with (first | (at_builtin; (refine wpList_append_lies _ rfl _ _ 32 rfl w.heap.size 38 i0 _ 3 24 Try.underlying32 hi hz0 hz1 hz2 rfl (by decide) u6 acc.length (acells acc) rfl (OW.out wz QZ.out _) ⟨wz.heap.size, 0, none⟩ 1 1 [.int .i64 tk.key, .int .i64 tk.most, .int .i64 tk.most] rfl rfl (World.news_of_block (cs := #[.int .i64 tk.key, .int .i64 tk.most, .int .i64 tk.most]) (heap_alloc_new _ _)) (by simp [Value.oneCell']) (by decide) (by unfold maxLen; omega) (by omega) (by rw [hsz]; omega) (wz.heap.size + 1) (by rw [hsz]) ?_; intro g9 cap9 w9 hown9 gr9 hat9 hlt9; have D9 := Seg.hid hown9; have B9 := Seg.hid (BW.out wz QZ.out _ _ gr9); clear hown9 gr9 hat9 hlt9)))
            go_roundw
            case rel => exact ⟨k + 1, acc ++ [⟨tk.key, tk.most, tk.most⟩], by omega, by go_num, by rw [List.length_append]; simp only [List.length_cons, List.length_nil]; omega, ⟨by rw [List.length_append, acells_app]; exact D9.out, B9.out⟩, NX.out⟩
            case measure => simp [intOf]; omega
          · have x1 : ¬ tm.most < tk.most := c1
            have x2 : ¬ tk.least < tm.least := c2
            have x3 : ¬ tk.least ≤ tk.most := c3
            have AK : Hid (agk tk tm = false) := by
              show _ = _
              have e : lst tk.most tm.most = tk.most := by unfold lst; split <;> omega
              simp only [agk, e]
              rw [Bool.and_eq_false_iff, Bool.and_eq_false_iff, decide_eq_false_iff_not, decide_eq_false_iff_not, decide_eq_false_iff_not]; right; omega
            have PE : Hid (pr tk tm = []) := by
              show _ = _
              have e : lst tk.most tm.most = tk.most := by unfold lst; split <;> omega
              simp [pr, AK.out]
            have NX : Hid ((acc) ++ ags s (c.drop (k + 1)) = ags s c) := by show _ = _; rw [← HD'.out, ags, PS.out, PE.out]; simp
            have AN : Hid (∀ wx, Qt w8 wx → AO w wx u6 acc) := fun wx hq => A8.out.next (hq.bel _)
            go_wp2_with fail
            go_region_held3 (fun w' => w'.cell? ⟨wr.heap.size, 0, none⟩ = some (.int .i64 tk.key) ∧ w'.cell? ⟨wr.heap.size, 1, none⟩ = some (.int .i64 tk.least) ∧ w'.cell? ⟨wr.heap.size, 2, none⟩ = some (.int .i64 tk.most) ∧ w'.cell? ⟨g2, o2 + r * 3, none⟩ = some (.int .i64 tm.key) ∧ w'.cell? ⟨g2, o2 + r * 3 + 1, none⟩ = some (.int .i64 tm.least) ∧ w'.cell? ⟨g2, o2 + r * 3 + 2, none⟩ = some (.int .i64 tm.most)) (first | exact ⟨p0, p1, p2, q0, q1, q2⟩ | go_keep) (fail)
            go_wp2_with fail
            go_region_held3 (fun w' => w'.cell? ⟨wr.heap.size, 0, none⟩ = some (.int .i64 tk.key) ∧ w'.cell? ⟨wr.heap.size, 1, none⟩ = some (.int .i64 tk.least) ∧ w'.cell? ⟨wr.heap.size, 2, none⟩ = some (.int .i64 tk.most) ∧ w'.cell? ⟨g2, o2 + r * 3, none⟩ = some (.int .i64 tm.key) ∧ w'.cell? ⟨g2, o2 + r * 3 + 1, none⟩ = some (.int .i64 tm.least) ∧ w'.cell? ⟨g2, o2 + r * 3 + 2, none⟩ = some (.int .i64 tm.most)) (first | exact ⟨p0, p1, p2, q0, q1, q2⟩ | go_keep) (fail)
            go_wp2_with fail
            go_roundw
            case rel => exact ⟨k + 1, acc, by omega, by go_num, by omega, AN.out _ ⟨rfl, rfl, rfl, rfl⟩, NX.out⟩
            case measure => simp [intOf]; omega
    · have HE := HR.out.2
      rw [List.drop_eq_nil_of_le (by omega), ags, List.append_nil] at HE
      have HE' := Seg.hid HE
      have AL := Seg.hid HR.out.1
      clear HE HR
      go_wp2_with fail
      go_ret2
      exact ⟨_, by rw [Z.out]; rfl, by rw [Z2.out, ← HE'.out]; exact AL.out.all (by omega), AL.out.bel⟩
end Go.Proofs.Ytmkkdladgoilmaa.AgI
