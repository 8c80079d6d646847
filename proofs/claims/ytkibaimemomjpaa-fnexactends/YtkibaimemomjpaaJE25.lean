/- The program's feed: bring. -/
import Derived.Deep.RegionLaw
import Derived.BigQuiet
import Derived.WalkSmall
import Derived.Test.YtkibaimemomjpaaJE23
namespace Go.Proofs.Ytkibaimemomjpaa.EdB
set_option maxRecDepth 8000
open Go.RowKit
open Ls Lp QyP QsP QtP QuP TbP IoP EdP RkP IrA EdI EdF EdM
open Recs (hsz below1 below2 chain chainD)
set_option linter.unusedVariables false
theorem eo_arr {w w3 : World} {B : Nat} {A2 : Option Addr} {c2 p : Nat} {a : Arr} (h : NRow w B (.slice A2 a.row.length c2) a.row) (h3 : NRow w3 B (.slice A2 a.row.length c2) a.row) (hl : a.row.length ≤ 1048576) : Ow.EOCmg w (seg B w3.heap.size) (fun q => [Value.int .i64 p, .int .i64 a.time, .slice A2 a.row.length c2, .bool a.gone, .int .i64 (-1)].getD q default) (cmA p a) :=
  ⟨⟨rfl, rfl, rfl, rfl⟩, fun i y => i = 2 ∧ seg B w3.heap.size y, fun i y hy => hy.2, fun i j hij y h1 h2 => hij (h1.1.trans h2.1.symm), Ow.LOwn.mono (Ow.ints_own h hl) (fun x hx => ⟨rfl, row_lt h3 x hx⟩)⟩
theorem tail_at {w : World} {S : Nat → Prop} {g o c : Nat} {A3 : Option Addr} {a : Arr} {r : List Arr} (h : LAt 3 EArr w S (.slice (some ⟨g, o, none⟩) (a :: r).length c) (a :: r)) (hA : (if c = 1 then some (⟨g, o, none⟩ : Addr) else some ⟨g, o + 3, none⟩) = A3) : LAt 3 EArr w S (.slice A3 r.length (c - 1)) r := by
  obtain ⟨hn, A', c', h1, h2⟩ := h
  simp only [Value.slice.injEq, true_and] at h1
  obtain ⟨rfl, rfl⟩ := h1
  obtain ⟨g', o', F', e, hg, hc, hcell, hel⟩ := h2.resolve_left (by simp)
  simp only [Option.some.injEq, Addr.mk.injEq, and_true] at e
  obtain ⟨rfl, rfl⟩ := e
  rw [List.length_cons] at hn hc
  refine ⟨by omega, A3, c - 1, rfl, ?_⟩
  by_cases h0 : r.length = 0
  · exact .inl h0
  · right
    rw [if_neg (by omega)] at hA
    refine ⟨g, o + 3, fun i j => F' (i + 1) j, hA.symm, hg, by omega, fun i hi j hj => ?_, fun i hi => ?_⟩
    · have := hcell (i + 1) (by rw [List.length_cons]; omega) j hj
      rw [show o + 3 + i * 3 + j = o + (i + 1) * 3 + j by omega]
      exact this
    · exact hel (i + 1) (by rw [List.length_cons]; omega)
set_option maxHeartbeats 12800000 in
theorem bring_any (w0 : World) (S : Nat → Prop) (hS : ∀ g, S g → g < w0.heap.size) (fb n p : Nat) (wr : World) (L : Value) (s : St) (h : Fee w0 S fb wr L n s) (hp : p < n) (hn : n ≤ 10) (hc : s.out.length ≤ 999999) (hl : (s.left p).length ≤ 1048576) (ht : ∀ a, a ∈ s.left p → a.time ≤ 1000000000000 ∧ a.row.length ≤ 1048576) :
    Calls Try.prog 62 #[.pointer (some ⟨fb, 0, none⟩), .int .i64 p] wr fun e w' => e = .returned (.tuple #[]) ∧ Fee w0 S fb w' L n (bring p s) := by
  obtain ⟨g, c, A', c', rfl, hnc, hgp, hfz, hv, -⟩ := LRow.look h.row hp
  have HF0 := Seg.hid h
  obtain ⟨Ab, kb, Fb, Pb, hbx, -⟩ := fee_pt h
  have e0 : wr.cell? ⟨fb, 0, none⟩ = some (.slice (some ⟨g, 0, none⟩) n c) := cell_of_row wr fb 0 _ _ (0, 0) hbx
  have e1 : wr.cell? ⟨fb, 1 + p, none⟩ = some (.int .i64 (s.marks p)) := by rw [cell_of_row wr fb (1 + p) _ _ (0, 0) hbx]; exact fbox_at _ _ _ (by omega)
  have BX0 := Seg.hid hbx
  clear h hfz hbx
  have h0 : (0 : Int) ≤ (p : Int) := by omega
  have h1 : (p : Int) < (n : Int) := by omega
  have h10 : (p : Int) < 10 := by omega
  obtain ⟨us, hus⟩ : ∃ us, s.left p = us := ⟨_, rfl⟩
  rw [hus] at hgp hv hl ht
  have US := Seg.hid hus
  have HV := Seg.hid hv
  have HT := Seg.hid ht
  clear hus hv ht
  obtain ⟨i0, hi, hz0, hz1, hz2⟩ := info_parts infoC
  cases us with
  | nil =>
    have BE : Hid (bring p s = s) := bring_nil US.out
    go_enter Try.func62, Try.ntmps62
    go_wp2
    refine bodyPost_ret (results_none rfl _ _ _) rfl ?_
    exact ⟨rfl, by rw [BE.out]; exact HF0.out⟩
  | cons a r =>
    have hp0 : 0 < (a :: r).length := by simp
    have HR : Hid (a.row.length ≤ 1048576) := (HT.out a (by simp)).2
    obtain ⟨us, hus⟩ : ∃ us, a :: r = us := ⟨_, rfl⟩
    have HUS := Seg.hid hus
    have HU : Hid (us.getD 0 default = a) := by show _ = _; rw [← hus]; rfl
    rw [hus] at hp0 HV HT US hgp hl
    clear hus
    have CT : Hid (∀ wx, Below w0.heap.size w0 wx → Calls Try.prog 95 #[.slice A' us.length c'] wx fun e w' => ∃ v', e = .returned v' ∧ NRow w' wx.heap.size v' (timesL us) ∧ Below wx.heap.size wx w') := fun wx b => timesOf_any _ us wx S (LAt.below keepsArr HV.out b hS) (fun y hy => Nat.lt_of_lt_of_le (hS y hy) b.size) hl
    obtain ⟨_, ka, ga, oa, Fa, eA, hop, -⟩ := opn HV.out hS
    simp only [Value.slice.injEq, true_and] at eA
    obtain ⟨rfl, rfl⟩ := eA
    have HO := Seg.hid hop
    obtain ⟨eA, hca, hga⟩ := hop.addr.resolve_left (by omega)
    subst eA
    clear hop
    have LZ : ((us.length : Int) == 0) = false := by rw [beq_eq_false_iff_ne]; omega
    have LZ1 : ¬ us.length = 0 := by omega
    obtain ⟨m, hm⟩ : ∃ m, leastA us = m := ⟨_, rfl⟩
    have ML : Hid (minK (timesL us) (timesL us).length = m) := by show _ = _; rw [← hm]; exact times_least (fun x hx => (HT.out x hx).1) hp0
    have TL : Hid ((timesL us).length = us.length) := List.length_map ..
    have BR : Hid (bring p s = ⟨upd (noteS p m s).left p r, (noteS p m s).marks, (noteS p m s).out ++ [cmA p a]⟩) := by
      show _ = _
      unfold bring
      rw [US.out, ← HUS.out]
      dsimp only
      rw [HUS.out, hm]
    clear hm
    go_enter Try.func62, Try.ntmps62
    go_upto_region 3 with (first | (go_at_call 95; refine (CT.out _ HF0.out.bel).mono ?_; rintro e w1 ⟨v1, rfl, h2, b1⟩; have R1 := Seg.hid h2; have B1 := Seg.hid b1; clear h2 b1) | (go_at_call 94; refine (min_any _ (timesL us) w1 (seg wr.heap.size w1.heap.size) (Ow.LOwn.lat growsI (fun _ _ _ _ h => h) (own R1.out (by rw [TL.out]; exact hl))) (fun y hy => hy.2) (by rw [TL.out]; exact hp0) (by rw [TL.out]; exact hl)).mono ?_; rintro e w1' ⟨rfl, rfl⟩; rw [ML.out]))
    clear CT R1 ML TL
    have HF1 : Hid (Fee w0 S fb w1 (.slice (some ⟨g, 0, none⟩) n c) n s) := HF0.out.keep B1.out
    have c1 : w1.cell? ⟨fb, 1 + p, none⟩ = some (.int .i64 (s.marks p)) := (B1.out.cell (p := ⟨fb, 1 + p, none⟩) HF0.out.lt).trans e1
    clear e0 e1 hgp HF0
    by_cases hnt : s.marks p < m
    · obtain ⟨t, ht⟩ : ∃ t, noteS p m s = t := ⟨_, rfl⟩
      have NT : Hid (t = markS p m s) := by show _ = _; rw [← ht]; unfold noteS; rw [if_pos hnt]
      rw [ht] at BR
      have TF : Hid (t.left p = us) := by show _ = _; rw [← ht, note_left]; exact US.out
      have hlt' : t.out.length ≤ 1000000 := by rw [← ht]; have := note_out p m s; omega
      have CM : Hid (Calls Try.prog 96 #[.pointer (some ⟨fb, 0, none⟩), .int .i64 p, .int .i64 m] w1 fun e w' => e = .returned (.tuple #[]) ∧ Fee w0 S fb w' (.slice (some ⟨g, 0, none⟩) n c) n (markS p m s)) := mark_any w0 S fb n p w1 _ s m HF1.out (by omega) (by omega)
      clear ht
      go_upto_region 5 with (go_at_call 96; refine CM.out.mono ?_; rintro e wx ⟨rfl, h2⟩; have HF : Hid (Fee w0 S fb wx (.slice (some ⟨g, 0, none⟩) n c) n t) := (by show Fee _ _ _ _ _ _ _; rw [NT.out]; exact h2); clear h2)
      clear c1 CM HF1 NT hnt
      obtain ⟨Av, kv, F, P, hbox, hpt⟩ := fee_pt HF.out
      have BX := Seg.hid hbox
      have PT := Seg.hid hpt
      have ltx : fb < wx.heap.size := HF.out.lt
      have LKX : Hid (t.out.length ≤ 1000000) := hlt'
      clear hbox hpt hlt'
      obtain ⟨A1, c1, q0, d0, d1, d2⟩ := TbP.arr_at HO.out hS HF.out.bel (show 0 < us.length from hp0)
      rw [Nat.zero_mul, Nat.add_zero] at d0 d1 d2
      rw [HU.out] at q0 d0 d1 d2
      have QR := Seg.hid q0
      clear q0
      obtain ⟨wn, hwn⟩ : ∃ wn, wx.alloc (.cells #[.int .i64 a.time, .slice A1 a.row.length c1, .bool a.gone] 88 (0, 0)) = wn := ⟨_, rfl⟩
      have BN : Hid (Below wx.heap.size wx wn) := by show Below _ _ _; rw [← hwn]; exact below1 _ _
      have sn : wn.heap.size = wx.heap.size + 1 := by rw [← hwn, hsz]
      have TN : Hid (wn.heap[wx.heap.size]? = some (.cells #[.int .i64 a.time, .slice A1 a.row.length c1, .bool a.gone] 88 (0, 0))) := by show _ = _; rw [← hwn]; exact heap_alloc_new _ _
      have CL : Hid (Calls Try.prog 97 #[.slice A1 a.row.length c1] wn fun e w' => ∃ v, e = .returned v ∧ NRow w' wn.heap.size v a.row ∧ Below wn.heap.size wn w') := IrA.clone_any A1 c1 a.row wn S (LAt.keep keepsI QR.out (fun y hy => BN.out.block y (by have := hS y hy; have := HF.out.bel.size; omega))) (fun y hy => by have := hS y hy; have := HF.out.bel.size; omega) HR.out
      have n1 : wn.cell? ⟨wx.heap.size, 1, none⟩ = some (.slice A1 a.row.length c1) := cell_of_row _ _ 1 _ _ (0, 0) TN.out
      go_upto_region 6 with fail
      try rw [hwn]
      clear hwn d0 d1 d2
      go_upto_region 7 with (go_at_call 97; refine CL.out.mono ?_; rintro e w2 ⟨v2, rfl, h2, b2⟩; obtain ⟨A2, c2, rfl⟩ := NRow_form h2; have R2 := Seg.hid h2; have B2 := Seg.hid b2; have T2 := Seg.hid ((b2.block wx.heap.size (by omega)).trans TN.out); have m1 : w2.cell? ⟨wx.heap.size, 1, none⟩ = some (.slice A1 a.row.length c1) := cell_of_row _ _ 1 _ _ (0, 0) T2.out; have mf := frozen_of_row w2 wx.heap.size 1 _ _ T2.out; clear h2 b2)
      obtain ⟨w3, hw3⟩ : ∃ w3, w2.setCell ⟨wx.heap.size, 1, none⟩ (.slice A2 a.row.length c2) = w3 := ⟨_, rfl⟩
      have B3 : Hid (Below wx.heap.size wx w3) := by show Below _ _ _; rw [← hw3]; exact (chain BN.out B2.out).setCell (Nat.le_refl _) _
      have s2 : wn.heap.size ≤ w2.heap.size := B2.out.size
      have T3 : Hid (w3.heap[wx.heap.size]? = some (.cells #[.int .i64 a.time, .slice A2 a.row.length c2, .bool a.gone] 88 (0, 0))) := by show _ = _; rw [← hw3]; exact heap_setCell_same w2 wx.heap.size 1 _ _ _ T2.out
      have R3 : Hid (NRow w3 wn.heap.size (.slice A2 a.row.length c2) a.row) := by
        show NRow _ _ _ _
        rw [← hw3]
        exact Ow.owns_keep R2.out (fun y hy => heap_setCell_other w2 _ y _ (by have := (row_lt R2.out y hy).1; show y ≠ wx.heap.size; omega))
      try rw [hw3]
      clear hw3 n1 m1 mf T2 R2 B2 CL TN QR
      have x0 : w3.cell? ⟨wx.heap.size, 0, none⟩ = some (.int .i64 a.time) := cell_of_row _ _ 0 _ _ (0, 0) T3.out
      have x1 : w3.cell? ⟨wx.heap.size, 1, none⟩ = some (.slice A2 a.row.length c2) := cell_of_row _ _ 1 _ _ (0, 0) T3.out
      have x2 : w3.cell? ⟨wx.heap.size, 2, none⟩ = some (.bool a.gone) := cell_of_row _ _ 2 _ _ (0, 0) T3.out
      have x11 : w3.cell? ⟨fb, 11, none⟩ = some (.slice Av t.out.length kv) := cell_of_row _ _ 11 _ _ (0, 0) ((B3.out.block fb ltx).trans BX.out)
      have BA : Hid (Below wx.heap.size wx (w3.alloc (.cells #[.int .i64 p, .int .i64 a.time, .slice A2 a.row.length c2, .bool a.gone, .int .i64 (-1)] 90 (0, 0)))) := chain B3.out (below1 w3 _)
      have EA : Hid (Ow.EOCmg (w3.alloc (.cells #[.int .i64 p, .int .i64 a.time, .slice A2 a.row.length c2, .bool a.gone, .int .i64 (-1)] 90 (0, 0))) (seg wn.heap.size w3.heap.size) (fun q => [Value.int .i64 p, .int .i64 a.time, .slice A2 a.row.length c2, .bool a.gone, .int .i64 (-1)].getD q default) (cmA p a)) := eo_arr (R3.out.keep (below1 w3 _)) R3.out HR.out
      have y11 : (w3.alloc (.cells #[.int .i64 p, .int .i64 a.time, .slice A2 a.row.length c2, .bool a.gone, .int .i64 (-1)] 90 (0, 0))).cell? ⟨fb, 11, none⟩ = some (.slice Av t.out.length kv) := ((below1 w3 _).cell (p := ⟨fb, 11, none⟩) (by have := B3.out.size; show fb < w3.heap.size; omega)).trans x11
      go_region_law (refine step_append_lies _ (by rfl) _ _ _ (by rfl) (fb + 1) 90 i0 _ 5 56 Try.underlying48 hi hz0 hz1 hz2 rfl (by decide) (.slice Av t.out.length kv) t.out.length ((List.range (t.out.length * 5)).map F) (by rfl) (PT.out.own BA.out.drew) ⟨w3.heap.size, 0, none⟩ 1 1 [.int .i64 p, .int .i64 a.time, .slice A2 a.row.length c2, .bool a.gone, .int .i64 (-1)] (by rfl) (by rfl) (World.news_of_block (cs := #[.int .i64 p, .int .i64 a.time, .slice A2 a.row.length c2, .bool a.gone, .int .i64 (-1)]) (heap_alloc_new _ _)) (by simp [Value.oneCell']) (by decide) (by have := LKX.out; unfold maxLen; omega) (by have := LKX.out; omega) (by show _ ≤ (w3.alloc _).heap.size; rw [hsz]; have := B3.out.size; omega) _ rfl ?_; intro g9 cap9 w9 hown9 gr9' hat9 hlt9; have gr9 : (w3.alloc (.cells #[.int .i64 p, .int .i64 a.time, .slice A2 a.row.length c2, .bool a.gone, .int .i64 (-1)] 90 (0, 0))).grownBy w9 (Value.slice Av t.out.length kv).ownBlock := ⟨gr9'.os, gr9'.tape, gr9'.output, gr9'.size, gr9'.block⟩; obtain ⟨q1, q2, q3⟩ := fee_push HF.out BX.out PT.out BA.out EA.out (fun x hx => ⟨by have := hx.1; omega, by have := hx.2; rw [hsz]; omega⟩) rfl hown9 gr9 hat9; have FH := Seg.hid q1; clear q1 hown9 gr9 gr9' hat9 hlt9)
      all_goals (
        go_upto_region 8 with fail
        obtain ⟨w4, hw4⟩ : ∃ w4, w9.setCell ⟨fb, 11, none⟩ (.slice (some ⟨g9, 0, none⟩) (t.out.length + 1) cap9) = w4 := ⟨_, rfl⟩
        rw [hw4] at FH
        try rw [hw4]
        clear hw4 q2 q3 y11 x0 x1 x2 x11
        obtain ⟨_, _, Aq, cq, eL, -, z1, z2, -, RES⟩ := LRow.look FH.out.row hp
        cases eL
        have NL := Seg.hid RES
        have z0 : w4.cell? ⟨fb, 0, none⟩ = some (.slice (some ⟨g, 0, none⟩) n c) := by
          obtain ⟨A9, k9, F9, P9, hb9, -⟩ := fee_pt FH.out
          exact cell_of_row w4 fb 0 _ _ (0, 0) hb9
        dsimp only at z1
        rw [TF.out] at z1
        clear RES
        have i1 : 1 ≤ us.length := hp0
        have i2 : us.length ≤ c' := hca
        have i3 : (1 : Int) ≤ (us.length : Int) := by omega
        have i4 : (us.length : Int) ≤ (c' : Int) := by omega
        go_region
        have hlen : us.length - 1 = r.length := by rw [← HUS.out]; rfl
        have TA : Hid (LAt 3 EArr w0 S (.slice (if c' = 1 then some ⟨ga, oa, none⟩ else some ⟨ga, oa + 3, none⟩) (us.length - 1) (c' - 1)) r) := by
          show LAt _ _ _ _ _ _
          rw [hlen]
          exact tail_at (a := a) (by rw [HUS.out]; exact HV.out) rfl
        have FZ := Seg.hid (Fee.pop FH.out (NL.out (upd t.left p r) _ (by rw [upd_same]; exact TA.out) (fun q hq => upd_other _ _ hq)))
        go_end0
        exact ⟨rfl, by rw [BR.out]; exact FZ.out.keep ⟨rfl, rfl, rfl, Nat.le_refl _, fun _ _ => rfl⟩⟩)
    · obtain ⟨t, ht⟩ : ∃ t, noteS p m s = t := ⟨_, rfl⟩
      have NT : Hid (s = t) := by show _ = _; rw [← ht]; unfold noteS; rw [if_neg hnt]
      rw [ht] at BR
      have TF : Hid (t.left p = us) := by show _ = _; rw [← ht, note_left]; exact US.out
      have hlt' : t.out.length ≤ 1000000 := by rw [← ht]; have := note_out p m s; omega
      have HF : Hid (Fee w0 S fb w1 (.slice (some ⟨g, 0, none⟩) n c) n t) := by show Fee _ _ _ _ _ _ _; rw [← NT.out]; exact HF1.out
      clear ht
      go_upto_region 5 with fail
      clear c1 HF1 NT hnt
      obtain ⟨Av, kv, F, P, hbox, hpt⟩ := fee_pt HF.out
      have BX := Seg.hid hbox
      have PT := Seg.hid hpt
      have ltx : fb < w1.heap.size := HF.out.lt
      have LKX : Hid (t.out.length ≤ 1000000) := hlt'
      clear hbox hpt hlt'
      obtain ⟨A1, c1, q0, d0, d1, d2⟩ := TbP.arr_at HO.out hS HF.out.bel (show 0 < us.length from hp0)
      rw [Nat.zero_mul, Nat.add_zero] at d0 d1 d2
      rw [HU.out] at q0 d0 d1 d2
      have QR := Seg.hid q0
      clear q0
      obtain ⟨wn, hwn⟩ : ∃ wn, w1.alloc (.cells #[.int .i64 a.time, .slice A1 a.row.length c1, .bool a.gone] 88 (0, 0)) = wn := ⟨_, rfl⟩
      have BN : Hid (Below w1.heap.size w1 wn) := by show Below _ _ _; rw [← hwn]; exact below1 _ _
      have sn : wn.heap.size = w1.heap.size + 1 := by rw [← hwn, hsz]
      have TN : Hid (wn.heap[w1.heap.size]? = some (.cells #[.int .i64 a.time, .slice A1 a.row.length c1, .bool a.gone] 88 (0, 0))) := by show _ = _; rw [← hwn]; exact heap_alloc_new _ _
      have CL : Hid (Calls Try.prog 97 #[.slice A1 a.row.length c1] wn fun e w' => ∃ v, e = .returned v ∧ NRow w' wn.heap.size v a.row ∧ Below wn.heap.size wn w') := IrA.clone_any A1 c1 a.row wn S (LAt.keep keepsI QR.out (fun y hy => BN.out.block y (by have := hS y hy; have := HF.out.bel.size; omega))) (fun y hy => by have := hS y hy; have := HF.out.bel.size; omega) HR.out
      have n1 : wn.cell? ⟨w1.heap.size, 1, none⟩ = some (.slice A1 a.row.length c1) := cell_of_row _ _ 1 _ _ (0, 0) TN.out
      go_upto_region 6 with fail
      try rw [hwn]
      clear hwn d0 d1 d2
      go_upto_region 7 with (go_at_call 97; refine CL.out.mono ?_; rintro e w2 ⟨v2, rfl, h2, b2⟩; obtain ⟨A2, c2, rfl⟩ := NRow_form h2; have R2 := Seg.hid h2; have B2 := Seg.hid b2; have T2 := Seg.hid ((b2.block w1.heap.size (by omega)).trans TN.out); have m1 : w2.cell? ⟨w1.heap.size, 1, none⟩ = some (.slice A1 a.row.length c1) := cell_of_row _ _ 1 _ _ (0, 0) T2.out; have mf := frozen_of_row w2 w1.heap.size 1 _ _ T2.out; clear h2 b2)
      obtain ⟨w3, hw3⟩ : ∃ w3, w2.setCell ⟨w1.heap.size, 1, none⟩ (.slice A2 a.row.length c2) = w3 := ⟨_, rfl⟩
      have B3 : Hid (Below w1.heap.size w1 w3) := by show Below _ _ _; rw [← hw3]; exact (chain BN.out B2.out).setCell (Nat.le_refl _) _
      have s2 : wn.heap.size ≤ w2.heap.size := B2.out.size
      have T3 : Hid (w3.heap[w1.heap.size]? = some (.cells #[.int .i64 a.time, .slice A2 a.row.length c2, .bool a.gone] 88 (0, 0))) := by show _ = _; rw [← hw3]; exact heap_setCell_same w2 w1.heap.size 1 _ _ _ T2.out
      have R3 : Hid (NRow w3 wn.heap.size (.slice A2 a.row.length c2) a.row) := by
        show NRow _ _ _ _
        rw [← hw3]
        exact Ow.owns_keep R2.out (fun y hy => heap_setCell_other w2 _ y _ (by have := (row_lt R2.out y hy).1; show y ≠ w1.heap.size; omega))
      try rw [hw3]
      clear hw3 n1 m1 mf T2 R2 B2 CL TN QR
      have x0 : w3.cell? ⟨w1.heap.size, 0, none⟩ = some (.int .i64 a.time) := cell_of_row _ _ 0 _ _ (0, 0) T3.out
      have x1 : w3.cell? ⟨w1.heap.size, 1, none⟩ = some (.slice A2 a.row.length c2) := cell_of_row _ _ 1 _ _ (0, 0) T3.out
      have x2 : w3.cell? ⟨w1.heap.size, 2, none⟩ = some (.bool a.gone) := cell_of_row _ _ 2 _ _ (0, 0) T3.out
      have x11 : w3.cell? ⟨fb, 11, none⟩ = some (.slice Av t.out.length kv) := cell_of_row _ _ 11 _ _ (0, 0) ((B3.out.block fb ltx).trans BX.out)
      have BA : Hid (Below w1.heap.size w1 (w3.alloc (.cells #[.int .i64 p, .int .i64 a.time, .slice A2 a.row.length c2, .bool a.gone, .int .i64 (-1)] 90 (0, 0)))) := chain B3.out (below1 w3 _)
      have EA : Hid (Ow.EOCmg (w3.alloc (.cells #[.int .i64 p, .int .i64 a.time, .slice A2 a.row.length c2, .bool a.gone, .int .i64 (-1)] 90 (0, 0))) (seg wn.heap.size w3.heap.size) (fun q => [Value.int .i64 p, .int .i64 a.time, .slice A2 a.row.length c2, .bool a.gone, .int .i64 (-1)].getD q default) (cmA p a)) := eo_arr (R3.out.keep (below1 w3 _)) R3.out HR.out
      have y11 : (w3.alloc (.cells #[.int .i64 p, .int .i64 a.time, .slice A2 a.row.length c2, .bool a.gone, .int .i64 (-1)] 90 (0, 0))).cell? ⟨fb, 11, none⟩ = some (.slice Av t.out.length kv) := ((below1 w3 _).cell (p := ⟨fb, 11, none⟩) (by have := B3.out.size; show fb < w3.heap.size; omega)).trans x11
      go_region_law (refine step_append_lies _ (by rfl) _ _ _ (by rfl) (fb + 1) 90 i0 _ 5 56 Try.underlying48 hi hz0 hz1 hz2 rfl (by decide) (.slice Av t.out.length kv) t.out.length ((List.range (t.out.length * 5)).map F) (by rfl) (PT.out.own BA.out.drew) ⟨w3.heap.size, 0, none⟩ 1 1 [.int .i64 p, .int .i64 a.time, .slice A2 a.row.length c2, .bool a.gone, .int .i64 (-1)] (by rfl) (by rfl) (World.news_of_block (cs := #[.int .i64 p, .int .i64 a.time, .slice A2 a.row.length c2, .bool a.gone, .int .i64 (-1)]) (heap_alloc_new _ _)) (by simp [Value.oneCell']) (by decide) (by have := LKX.out; unfold maxLen; omega) (by have := LKX.out; omega) (by show _ ≤ (w3.alloc _).heap.size; rw [hsz]; have := B3.out.size; omega) _ rfl ?_; intro g9 cap9 w9 hown9 gr9' hat9 hlt9; have gr9 : (w3.alloc (.cells #[.int .i64 p, .int .i64 a.time, .slice A2 a.row.length c2, .bool a.gone, .int .i64 (-1)] 90 (0, 0))).grownBy w9 (Value.slice Av t.out.length kv).ownBlock := ⟨gr9'.os, gr9'.tape, gr9'.output, gr9'.size, gr9'.block⟩; obtain ⟨q1, q2, q3⟩ := fee_push HF.out BX.out PT.out BA.out EA.out (fun x hx => ⟨by have := hx.1; omega, by have := hx.2; rw [hsz]; omega⟩) rfl hown9 gr9 hat9; have FH := Seg.hid q1; clear q1 hown9 gr9 gr9' hat9 hlt9)
      all_goals (
        go_upto_region 8 with fail
        obtain ⟨w4, hw4⟩ : ∃ w4, w9.setCell ⟨fb, 11, none⟩ (.slice (some ⟨g9, 0, none⟩) (t.out.length + 1) cap9) = w4 := ⟨_, rfl⟩
        rw [hw4] at FH
        try rw [hw4]
        clear hw4 q2 q3 y11 x0 x1 x2 x11
        obtain ⟨_, _, Aq, cq, eL, -, z1, z2, -, RES⟩ := LRow.look FH.out.row hp
        cases eL
        have NL := Seg.hid RES
        have z0 : w4.cell? ⟨fb, 0, none⟩ = some (.slice (some ⟨g, 0, none⟩) n c) := by
          obtain ⟨A9, k9, F9, P9, hb9, -⟩ := fee_pt FH.out
          exact cell_of_row w4 fb 0 _ _ (0, 0) hb9
        dsimp only at z1
        rw [TF.out] at z1
        clear RES
        have i1 : 1 ≤ us.length := hp0
        have i2 : us.length ≤ c' := hca
        have i3 : (1 : Int) ≤ (us.length : Int) := by omega
        have i4 : (us.length : Int) ≤ (c' : Int) := by omega
        go_region
        have hlen : us.length - 1 = r.length := by rw [← HUS.out]; rfl
        have TA : Hid (LAt 3 EArr w0 S (.slice (if c' = 1 then some ⟨ga, oa, none⟩ else some ⟨ga, oa + 3, none⟩) (us.length - 1) (c' - 1)) r) := by
          show LAt _ _ _ _ _ _
          rw [hlen]
          exact tail_at (a := a) (by rw [HUS.out]; exact HV.out) rfl
        have FZ := Seg.hid (Fee.pop FH.out (NL.out (upd t.left p r) _ (by rw [upd_same]; exact TA.out) (fun q hq => upd_other _ _ hq)))
        go_end0
        exact ⟨rfl, by rw [BR.out]; exact FZ.out.keep ⟨rfl, rfl, rfl, Nat.le_refl _, fun _ _ => rfl⟩⟩)
end Go.Proofs.Ytkibaimemomjpaa.EdB
