/- The program's LatestAt. -/
import Derived.Test.YtekhidflncfeiaaTbP
import Derived.Test.YtekhidflncfeiaaIrA
import Derived.Deep.RegionHeld3
import Derived.Test.YtekhidflncfeiaaHdK
import Derived.Deep.Cut
namespace Go.Proofs.Ytekhidflncfeiaa.TbI
set_option maxRecDepth 8000
open Go.RowKit
open Ls Lp TbP RkP IrA
open Recs (hsz below1 below2 chain chainD)
set_option linter.unusedVariables false
set_option maxHeartbeats 1600000 in
theorem tells_any (a : Arr) (A : Option Addr) (c : Nat) (key time : Int) (w : World) (S : Nat → Prop) (hv : IntsAt w S (.slice A a.row.length c) a.row) (hS : ∀ g, S g → g < w.heap.size) :
    Calls Try.prog 51 #[.agg (avl a A c), .int .i64 key, .int .i64 time] w fun e w' => e = .returned (.bool (tells a key time)) ∧ Below w.heap.size w w' := by
  obtain ⟨A', c', g, o, F, e, OP, hn⟩ := opn hv hS
  cases e
  have HO := Seg.hid OP
  clear hv OP
  obtain ⟨R, hR⟩ : ∃ R, tells a key time = R := ⟨_, rfl⟩
  rw [hR]
  have HR : Hid (((decide (0 < a.row.length) && decide (a.row.getD 0 0 = key)) && decide (a.time ≤ time)) = R) := hR
  clear hR
  go_enter Try.func51, Try.ntmps51
  go_upto_region 1 with fail
  obtain ⟨w1, hw1⟩ : ∃ w1, w.alloc (.cells #[.int .i64 a.time, .slice A a.row.length c, .bool a.gone] 79 (0, 0)) = w1 := ⟨_, rfl⟩
  have T1 : Hid (w1.heap[w.heap.size]? = some (.cells #[.int .i64 a.time, .slice A a.row.length c, .bool a.gone] 79 (0, 0))) := by show _ = _; rw [← hw1]; exact heap_alloc_new _ _
  have B1 : Hid (Below w.heap.size w w1) := by show Below _ _ _; rw [← hw1]; exact below1 _ _
  try rw [hw1]
  clear hw1
  obtain ⟨q0, q1, q2⟩ := arrB T1.out
  by_cases h0 : 0 < a.row.length
  · obtain ⟨ea, hc, hgw⟩ := HO.out.addr.resolve_left (by omega)
    subst ea
    have d0 : w1.cell? ⟨g, o, none⟩ = some (.int .i64 (a.row.getD 0 0)) := (B1.out.cell (p := ⟨g, o, none⟩) hgw).trans (ints_cell HO.out h0)
    have i0 : (0 : Int) < (a.row.length : Int) := by omega
    obtain ⟨tm, htm⟩ : ∃ tm, a.time = tm := ⟨_, rfl⟩
    obtain ⟨hd, hhd⟩ : ∃ hd, a.row.getD 0 0 = hd := ⟨_, rfl⟩
    rw [htm] at q0 HR
    rw [hhd] at d0 HR
    clear htm hhd
    by_cases hk : hd = key
    · subst hk
      by_cases ht : tm ≤ time
      · have RF : Hid (R = true) := by show _ = _; rw [← HR.out]; simp [h0, ht]
        clear HR
        go_wp2
        go_ret
        exact ⟨by rw [RF.out]; first | rfl | simp [ht], B1.out⟩
      · have RF : Hid (R = false) := by show _ = _; rw [← HR.out]; simp [h0, ht]
        clear HR
        go_wp2
        go_ret
        exact ⟨by rw [RF.out]; first | rfl | simp [ht], B1.out⟩
    · have RF : Hid (R = false) := by show _ = _; rw [← HR.out]; simp [hk]
      have p0 : (hd == key) = false := by simpa using hk
      clear HR
      go_wp2
      go_ret
      exact ⟨by rw [RF.out]; first | rfl | simp [hk], B1.out⟩
  · have RF : Hid (R = false) := by show _ = _; rw [← HR.out]; simp [h0]
    have i0 : ¬ (0 : Int) < (a.row.length : Int) := by omega
    clear HR
    go_wp2
    go_ret
    exact ⟨by rw [RF.out]; first | rfl | simp, B1.out⟩
set_option maxHeartbeats 6400000 in
theorem impl_any (v : Value) (us : List Arr) (key time : Int) (w : World) (S : Nat → Prop) (hv : LAt 3 EArr w S v us) (hS : ∀ g, S g → g < w.heap.size) (hf : szL szArr us ≤ 1048576) :
    Calls Try.prog 18 #[v, .int .i64 key, .int .i64 time] w fun e w' => ∃ x, e = .returned (.tuple #[x, .bool (latOk us key time)]) ∧ NRow w' w.heap.size x (latest us key time) ∧ Below w.heap.size w w' := by
  obtain ⟨A, c, g, o, F, rfl, OP, hn⟩ := opn hv hS
  have HO := Seg.hid OP
  have HZ := Seg.hid hf
  clear hv OP hf
  obtain ⟨RB, hB⟩ : ∃ R, latOk us key time = R := ⟨_, rfl⟩
  obtain ⟨RL, hL⟩ : ∃ R, latest us key time = R := ⟨_, rfl⟩
  rw [hB, hL]
  have HB := Seg.hid hB
  have HL := Seg.hid hL
  clear hB hL
  go_enter Try.func18, Try.ntmps18
  go_wp2
  go_loopw [8, 13] (fun p i wr => ∃ k : Nat, k ≤ us.length ∧ i = .int .i64 k ∧ p = .int .i64 (plc us key time k) ∧ Hid (Below w.heap.size w wr)) (fun _ i _ => us.length - (intOf i).toNat)
  case atStart => exact ⟨0, Nat.zero_le _, rfl, rfl, Below.refl _ _⟩
  case round =>
    obtain ⟨k, hk, rfl, rfl, BW⟩ := hrel
    have PL := plc_le us key time k
    by_cases hlt : k < us.length
    · obtain ⟨ea, hc, hgw⟩ := HO.out.addr.resolve_left (by omega)
      subst ea
      obtain ⟨A', c', hcl, d0, d1, d2⟩ := arr_at HO.out hS BW.out hlt
      have h0 : (0 : Int) ≤ (k : Int) := by omega
      have h1 : (k : Int) < (us.length : Int) := by omega
      have NO := Seg.hid (tells_no (us := us) (key := key) (time := time) (k := k))
      have NW := Seg.hid (tells_new (us := us) (key := key) (time := time) (k := k))
      have OD := Seg.hid (tells_old (us := us) (key := key) (time := time) (k := k))
      have DP : Hid (∀ p : Nat, plc us key time k = (p : Int) → wr.cell? ⟨g, o + p * 3, none⟩ = some (.int .i64 (us.getD p default).time)) := fun p hp => by
        obtain ⟨_, _, _, e0, -, -⟩ := arr_at HO.out hS BW.out (k := p) (by omega)
        exact e0
      have hgr : g < wr.heap.size := Nat.lt_of_lt_of_le hgw BW.out.size
      obtain ⟨P, hP⟩ : ∃ P, plc us key time k = P := ⟨_, rfl⟩
      obtain ⟨P', hP'⟩ : ∃ P', plc us key time (k + 1) = P' := ⟨_, rfl⟩
      rw [hP, hP'] at NO
      rw [hP, hP'] at NW
      rw [hP, hP'] at OD
      rw [hP] at DP PL
      rw [hP]
      have HP' := Seg.hid hP'
      clear hP hP'
      have HC := Seg.hid hcl
      clear hcl
      obtain ⟨a, ha⟩ : ∃ a, us.getD k default = a := ⟨_, rfl⟩
      rw [ha] at d0 d1 d2 HC NO NW OD
      clear ha
      have CT : Hid (∀ wx, Below wr.heap.size wr wx → Calls Try.prog 51 #[.agg (avl a A' c'), .int .i64 key, .int .i64 time] wx fun e w' => e = .returned (.bool (tells a key time)) ∧ Below wx.heap.size wx w') := fun wx b => tells_any a A' c' key time wx S (LAt.below keepsI HC.out b (fun y hy => Nat.lt_of_lt_of_le (hS y hy) BW.out.size)) (fun y hy => Nat.lt_of_lt_of_le (hS y hy) (Nat.le_trans BW.out.size b.size))
      obtain ⟨w5, hw5⟩ : ∃ w5, wr.alloc (.cells #[.int .i64 a.time, .slice A' a.row.length c', .bool a.gone] 79 (0, 0)) = w5 := ⟨_, rfl⟩
      have T5 : Hid (w5.heap[wr.heap.size]? = some (.cells #[.int .i64 a.time, .slice A' a.row.length c', .bool a.gone] 79 (0, 0))) := by show _ = _; rw [← hw5]; exact heap_alloc_new _ _
      have N5 : Hid (Below wr.heap.size wr w5) := by show Below _ _ _; rw [← hw5]; exact below1 _ _
      have hlt5 : wr.heap.size < w5.heap.size := (Array.getElem?_eq_some_iff.1 T5.out).1
      go_upto_region 5 with fail
      try rw [hw5]
      clear hw5 d0 d1 d2
      obtain ⟨q0, q1, q2⟩ := arrB T5.out
      have hg5 : g < w5.heap.size := Nat.lt_of_lt_of_le hgr N5.out.size
      cases hb : tells a key time with
      | false =>
        have PF : Hid (P' = P) := NO.out hb
        have CB : Hid (∀ wx, Below wr.heap.size wr wx → Calls Try.prog 51 #[.agg (avl a A' c'), .int .i64 key, .int .i64 time] wx fun e w' => e = .returned (.bool false) ∧ Below wx.heap.size wx w') := by rw [← hb]; exact CT.out
        clear NO NW OD CT hb
        refine wp_region_held_drew (S := (fun w' => w'.cell? ⟨wr.heap.size, 0, none⟩ = some (.int .i64 a.time) ∧ w'.cell? ⟨wr.heap.size, 1, none⟩ = some (.slice A' a.row.length c') ∧ w'.cell? ⟨wr.heap.size, 2, none⟩ = some (.bool a.gone))) (by kernel_rfl) ⟨q0, q1, q2⟩ (fun hHeld => ?_)
        refine HdK.tke 0 (some 18) (.agg #[.int .i64 a.time, .slice A' a.row.length c', .bool a.gone]) rfl rfl ?_
        try simp only [Act.put, List.setIfInBounds_toArray, List.set_cons_zero, List.set_cons_succ]
        refine HdK.tke 1 (some 19) (.int .i64 key) rfl rfl ?_
        try simp only [Act.put, List.setIfInBounds_toArray, List.set_cons_zero, List.set_cons_succ]
        refine HdK.tke 2 (some 20) (.int .i64 time) rfl rfl ?_
        try simp only [Act.put, List.setIfInBounds_toArray, List.set_cons_zero, List.set_cons_succ]
        refine wpAnyH_ready (rs := [3]) (by kernel_rfl) (by simp) ?_
        refine AllReadyH.cons rfl (fun K hK => ?_) AllReadyH.nil
        (go_simp; go_at_call 51; refine (CB.out w5.drew N5.out.drew).mono ?_; rintro e w6 ⟨rfl, b6⟩; have M6 : Hid (Below w5.heap.size w5 w6) := ⟨b6.os, b6.tape, b6.output, b6.size, b6.block⟩; have N6 := Seg.hid (chainD N5.out b6); clear b6; have t0 := (M6.out.cell (p := ⟨wr.heap.size, 0, none⟩) hlt5).trans q0; have t1 := (M6.out.cell (p := ⟨wr.heap.size, 1, none⟩) hlt5).trans q1; have t2 := (M6.out.cell (p := ⟨wr.heap.size, 2, none⟩) hlt5).trans q2; try (go_wp2_with fail))
        refine hK.out _ _ ⟨t0, t1, t2⟩ (fun hHeld => ?_)
        clear hK K
        try simp only [Act.put, List.setIfInBounds_toArray, List.set_cons_zero, List.set_cons_succ]
        refine HdK.tke 4 (some 22) (.bool false) rfl rfl ?_
        try simp only [Act.put, List.setIfInBounds_toArray, List.set_cons_zero, List.set_cons_succ]
        refine HdK.skp 5 (some 23) rfl rfl ?_
        try simp only [Act.put, List.setIfInBounds_toArray, List.set_cons_zero, List.set_cons_succ]
        refine HdK.skp 6 (some 24) rfl rfl ?_
        try simp only [Act.put, List.setIfInBounds_toArray, List.set_cons_zero, List.set_cons_succ]
        refine HdK.skp 7 (some 25) rfl rfl ?_
        try simp only [Act.put, List.setIfInBounds_toArray, List.set_cons_zero, List.set_cons_succ]
        refine HdK.skp 8 (some 26) rfl rfl ?_
        try simp only [Act.put, List.setIfInBounds_toArray, List.set_cons_zero, List.set_cons_succ]
        refine HdK.skp 9 (some 27) rfl rfl ?_
        try simp only [Act.put, List.setIfInBounds_toArray, List.set_cons_zero, List.set_cons_succ]
        refine HdK.skp 10 (some 28) rfl rfl ?_
        try simp only [Act.put, List.setIfInBounds_toArray, List.set_cons_zero, List.set_cons_succ]
        refine HdK.skp 11 (some 29) rfl rfl ?_
        try simp only [Act.put, List.setIfInBounds_toArray, List.set_cons_zero, List.set_cons_succ]
        refine HdK.skp 12 (some 30) rfl rfl ?_
        try simp only [Act.put, List.setIfInBounds_toArray, List.set_cons_zero, List.set_cons_succ]
        refine HdK.skp 13 (some 31) rfl rfl ?_
        try simp only [Act.put, List.setIfInBounds_toArray, List.set_cons_zero, List.set_cons_succ]
        refine HdK.skp 14 (some 32) rfl rfl ?_
        try simp only [Act.put, List.setIfInBounds_toArray, List.set_cons_zero, List.set_cons_succ]
        refine HdK.skp 15 (some 33) rfl rfl ?_
        try simp only [Act.put, List.setIfInBounds_toArray, List.set_cons_zero, List.set_cons_succ]
        refine HdK.skp 16 (some 34) rfl rfl ?_
        try simp only [Act.put, List.setIfInBounds_toArray, List.set_cons_zero, List.set_cons_succ]
        refine HdK.tke 17 (some 35) (.bool false) rfl rfl ?_
        try simp only [Act.put, List.setIfInBounds_toArray, List.set_cons_zero, List.set_cons_succ]
        refine wpAnyH_done (by kernel_rfl) ?_ _
        all_goals
          go_wp2
          go_roundw
          case rel => exact ⟨k + 1, by omega, by go_num, by rw [HP'.out, PF.out], chain BW.out N6.out⟩
          case measure => simp [intOf]; omega
      | true =>
        have CB : Hid (∀ wx, Below wr.heap.size wr wx → Calls Try.prog 51 #[.agg (avl a A' c'), .int .i64 key, .int .i64 time] wx fun e w' => e = .returned (.bool true) ∧ Below wx.heap.size wx w') := by rw [← hb]; exact CT.out
        have NW2 := Seg.hid (NW.out hb)
        clear NO NW CT hb
        by_cases hn0 : P < 0
        · have PF : Hid (P' = k) := NW2.out (.inl hn0)
          clear NW2 OD DP
          refine wp_region_held_drew (S := (fun w' => w'.cell? ⟨wr.heap.size, 0, none⟩ = some (.int .i64 a.time) ∧ w'.cell? ⟨wr.heap.size, 1, none⟩ = some (.slice A' a.row.length c') ∧ w'.cell? ⟨wr.heap.size, 2, none⟩ = some (.bool a.gone))) (by kernel_rfl) ⟨q0, q1, q2⟩ (fun hHeld => ?_)
          refine HdK.tke 0 (some 18) (.agg #[.int .i64 a.time, .slice A' a.row.length c', .bool a.gone]) rfl rfl ?_
          try simp only [Act.put, List.setIfInBounds_toArray, List.set_cons_zero, List.set_cons_succ]
          refine HdK.tke 1 (some 19) (.int .i64 key) rfl rfl ?_
          try simp only [Act.put, List.setIfInBounds_toArray, List.set_cons_zero, List.set_cons_succ]
          refine HdK.tke 2 (some 20) (.int .i64 time) rfl rfl ?_
          try simp only [Act.put, List.setIfInBounds_toArray, List.set_cons_zero, List.set_cons_succ]
          refine wpAnyH_ready (rs := [3]) (by kernel_rfl) (by simp) ?_
          refine AllReadyH.cons rfl (fun K hK => ?_) AllReadyH.nil
          (go_simp; go_at_call 51; refine (CB.out w5.drew N5.out.drew).mono ?_; rintro e w6 ⟨rfl, b6⟩; have M6 : Hid (Below w5.heap.size w5 w6) := ⟨b6.os, b6.tape, b6.output, b6.size, b6.block⟩; have N6 := Seg.hid (chainD N5.out b6); clear b6; have t0 := (M6.out.cell (p := ⟨wr.heap.size, 0, none⟩) hlt5).trans q0; have t1 := (M6.out.cell (p := ⟨wr.heap.size, 1, none⟩) hlt5).trans q1; have t2 := (M6.out.cell (p := ⟨wr.heap.size, 2, none⟩) hlt5).trans q2; try (go_wp2_with fail))
          refine hK.out _ _ ⟨t0, t1, t2⟩ (fun hHeld => ?_)
          clear hK K
          try simp only [Act.put, List.setIfInBounds_toArray, List.set_cons_zero, List.set_cons_succ]
          refine HdK.tke 4 (some 22) (.bool true) rfl rfl ?_
          try simp only [Act.put, List.setIfInBounds_toArray, List.set_cons_zero, List.set_cons_succ]
          refine HdK.tke 5 (some 23) (.int .i64 P) rfl rfl ?_
          try simp only [Act.put, List.setIfInBounds_toArray, List.set_cons_zero, List.set_cons_succ]
          refine HdK.tke 6 (some 24) (.bool true) rfl rfl ?_
          try simp only [Act.put, List.setIfInBounds_toArray, List.set_cons_zero, List.set_cons_succ]
          refine HdK.tke 7 (some 25) (.bool true) rfl rfl ?_
          try simp only [Act.put, List.setIfInBounds_toArray, List.set_cons_zero, List.set_cons_succ]
          refine HdK.skp 8 (some 26) rfl rfl ?_
          try simp only [Act.put, List.setIfInBounds_toArray, List.set_cons_zero, List.set_cons_succ]
          refine HdK.skp 9 (some 27) rfl rfl ?_
          try simp only [Act.put, List.setIfInBounds_toArray, List.set_cons_zero, List.set_cons_succ]
          refine HdK.skp 10 (some 28) rfl rfl ?_
          try simp only [Act.put, List.setIfInBounds_toArray, List.set_cons_zero, List.set_cons_succ]
          refine HdK.skp 11 (some 29) rfl rfl ?_
          try simp only [Act.put, List.setIfInBounds_toArray, List.set_cons_zero, List.set_cons_succ]
          refine HdK.skp 12 (some 30) rfl rfl ?_
          try simp only [Act.put, List.setIfInBounds_toArray, List.set_cons_zero, List.set_cons_succ]
          refine HdK.skp 13 (some 31) rfl rfl ?_
          try simp only [Act.put, List.setIfInBounds_toArray, List.set_cons_zero, List.set_cons_succ]
          refine HdK.skp 14 (some 32) rfl rfl ?_
          try simp only [Act.put, List.setIfInBounds_toArray, List.set_cons_zero, List.set_cons_succ]
          refine HdK.skp 15 (some 33) rfl rfl ?_
          try simp only [Act.put, List.setIfInBounds_toArray, List.set_cons_zero, List.set_cons_succ]
          refine HdK.tke 16 (some 34) (.bool true) rfl rfl ?_
          try simp only [Act.put, List.setIfInBounds_toArray, List.set_cons_zero, List.set_cons_succ]
          refine HdK.tke 17 (some 35) (.bool true) rfl rfl ?_
          try simp only [Act.put, List.setIfInBounds_toArray, List.set_cons_zero, List.set_cons_succ]
          refine wpAnyH_done (by kernel_rfl) ?_ _
          all_goals
            go_wp2
            go_roundw
            case rel => exact ⟨k + 1, by omega, by go_num, by rw [HP'.out, PF.out], chain BW.out N6.out⟩
            case measure => simp [intOf]; omega
        · obtain ⟨p, rfl⟩ : ∃ p : Nat, P = (p : Int) := ⟨P.toNat, by omega⟩
          have dp : w5.cell? ⟨g, o + p * 3, none⟩ = some (.int .i64 (us.getD p default).time) := (N5.out.cell (p := ⟨g, o + p * 3, none⟩) hgr).trans (DP.out p rfl)
          have AR : Hid ((ari us (p : Int)).time = (us.getD p default).time) := rfl
          have hp1 : (p : Int) < (us.length : Int) := by omega
          have hp0 : (0 : Int) ≤ (p : Int) := by omega
          have hn1 : decide ((p : Int) < 0) = false := decide_eq_false hn0
          generalize (us.getD p default).time = tp at *
          by_cases hle : tp ≤ a.time
          · have PF : Hid (P' = k) := NW2.out (.inr (by rw [AR.out]; exact hle))
            clear NW2 OD DP
            refine wp_region_held_drew (S := (fun w' => w'.cell? ⟨wr.heap.size, 0, none⟩ = some (.int .i64 a.time) ∧ w'.cell? ⟨wr.heap.size, 1, none⟩ = some (.slice A' a.row.length c') ∧ w'.cell? ⟨wr.heap.size, 2, none⟩ = some (.bool a.gone) ∧ w'.cell? ⟨g, o + p * 3, none⟩ = some (.int .i64 tp))) (by kernel_rfl) ⟨q0, q1, q2, dp⟩ (fun hHeld => ?_)
            refine HdK.tke 0 (some 18) (.agg #[.int .i64 a.time, .slice A' a.row.length c', .bool a.gone]) rfl rfl ?_
            try simp only [Act.put, List.setIfInBounds_toArray, List.set_cons_zero, List.set_cons_succ]
            refine HdK.tke 1 (some 19) (.int .i64 key) rfl rfl ?_
            try simp only [Act.put, List.setIfInBounds_toArray, List.set_cons_zero, List.set_cons_succ]
            refine HdK.tke 2 (some 20) (.int .i64 time) rfl rfl ?_
            try simp only [Act.put, List.setIfInBounds_toArray, List.set_cons_zero, List.set_cons_succ]
            refine wpAnyH_ready (rs := [3]) (by kernel_rfl) (by simp) ?_
            refine AllReadyH.cons rfl (fun K hK => ?_) AllReadyH.nil
            (go_simp; go_at_call 51; refine (CB.out w5.drew N5.out.drew).mono ?_; rintro e w6 ⟨rfl, b6⟩; have M6 : Hid (Below w5.heap.size w5 w6) := ⟨b6.os, b6.tape, b6.output, b6.size, b6.block⟩; have N6 := Seg.hid (chainD N5.out b6); clear b6; have t0 := (M6.out.cell (p := ⟨wr.heap.size, 0, none⟩) hlt5).trans q0; have t1 := (M6.out.cell (p := ⟨wr.heap.size, 1, none⟩) hlt5).trans q1; have t2 := (M6.out.cell (p := ⟨wr.heap.size, 2, none⟩) hlt5).trans q2; have tp6 := (M6.out.cell (p := ⟨g, o + p * 3, none⟩) hg5).trans dp; try (go_wp2_with fail))
            refine hK.out _ _ ⟨t0, t1, t2, tp6⟩ (fun hHeld => ?_)
            clear hK K
            try simp only [Act.put, List.setIfInBounds_toArray, List.set_cons_zero, List.set_cons_succ]
            refine HdK.tke 4 (some 22) (.bool true) rfl rfl ?_
            try simp only [Act.put, List.setIfInBounds_toArray, List.set_cons_zero, List.set_cons_succ]
            refine HdK.tke 5 (some 23) (.int .i64 (p : Int)) rfl rfl ?_
            try simp only [Act.put, List.setIfInBounds_toArray, List.set_cons_zero, List.set_cons_succ]
            refine HdK.tke 6 (some 24) (.bool false) rfl rfl ?_
            try simp only [Act.put, List.setIfInBounds_toArray, List.set_cons_zero, List.set_cons_succ]
            refine HdK.tke 7 (some 25) (.bool false) rfl rfl ?_
            try simp only [Act.put, List.setIfInBounds_toArray, List.set_cons_zero, List.set_cons_succ]
            refine HdK.tke 8 (some 26) (.pointer (some ⟨wr.heap.size, 0, none⟩)) rfl rfl ?_
            try simp only [Act.put, List.setIfInBounds_toArray, List.set_cons_zero, List.set_cons_succ]
            refine HdK.tke 9 (some 27) (.int .i64 a.time) rfl rfl ?_
            try simp only [Act.put, List.setIfInBounds_toArray, List.set_cons_zero, List.set_cons_succ]
            refine HdK.tke 10 (some 28) (.slice (some ⟨g, o, none⟩) us.length c) rfl rfl ?_
            try simp only [Act.put, List.setIfInBounds_toArray, List.set_cons_zero, List.set_cons_succ]
            refine HdK.tke 11 (some 29) (.int .i64 (p : Int)) rfl rfl ?_
            try simp only [Act.put, List.setIfInBounds_toArray, List.set_cons_zero, List.set_cons_succ]
            refine HdK.tke 12 (some 30) (.pointer (some ⟨g, o + p * 3, none⟩)) rfl rfl ?_
            try simp only [Act.put, List.setIfInBounds_toArray, List.set_cons_zero, List.set_cons_succ]
            refine HdK.tke 13 (some 31) (.pointer (some ⟨g, o + p * 3, none⟩)) rfl rfl ?_
            try simp only [Act.put, List.setIfInBounds_toArray, List.set_cons_zero, List.set_cons_succ]
            refine HdK.tke 14 (some 32) (.int .i64 tp) rfl rfl ?_
            try simp only [Act.put, List.setIfInBounds_toArray, List.set_cons_zero, List.set_cons_succ]
            refine HdK.tke 15 (some 33) (.bool true) rfl rfl ?_
            try simp only [Act.put, List.setIfInBounds_toArray, List.set_cons_zero, List.set_cons_succ]
            refine HdK.tke 16 (some 34) (.bool true) rfl rfl ?_
            try simp only [Act.put, List.setIfInBounds_toArray, List.set_cons_zero, List.set_cons_succ]
            refine HdK.tke 17 (some 35) (.bool true) rfl rfl ?_
            try simp only [Act.put, List.setIfInBounds_toArray, List.set_cons_zero, List.set_cons_succ]
            refine wpAnyH_done (by kernel_rfl) ?_ _
            all_goals
              go_wp2
              go_roundw
              case rel => exact ⟨k + 1, by omega, by go_num, by rw [HP'.out, PF.out], chain BW.out N6.out⟩
              case measure => simp [intOf]; omega
          · have PF : Hid (P' = p) := OD.out hn0 (by rw [AR.out]; exact hle)
            clear NW2 OD DP
            refine wp_region_held_drew (S := (fun w' => w'.cell? ⟨wr.heap.size, 0, none⟩ = some (.int .i64 a.time) ∧ w'.cell? ⟨wr.heap.size, 1, none⟩ = some (.slice A' a.row.length c') ∧ w'.cell? ⟨wr.heap.size, 2, none⟩ = some (.bool a.gone) ∧ w'.cell? ⟨g, o + p * 3, none⟩ = some (.int .i64 tp))) (by kernel_rfl) ⟨q0, q1, q2, dp⟩ (fun hHeld => ?_)
            refine HdK.tke 0 (some 18) (.agg #[.int .i64 a.time, .slice A' a.row.length c', .bool a.gone]) rfl rfl ?_
            try simp only [Act.put, List.setIfInBounds_toArray, List.set_cons_zero, List.set_cons_succ]
            refine HdK.tke 1 (some 19) (.int .i64 key) rfl rfl ?_
            try simp only [Act.put, List.setIfInBounds_toArray, List.set_cons_zero, List.set_cons_succ]
            refine HdK.tke 2 (some 20) (.int .i64 time) rfl rfl ?_
            try simp only [Act.put, List.setIfInBounds_toArray, List.set_cons_zero, List.set_cons_succ]
            refine wpAnyH_ready (rs := [3]) (by kernel_rfl) (by simp) ?_
            refine AllReadyH.cons rfl (fun K hK => ?_) AllReadyH.nil
            (go_simp; go_at_call 51; refine (CB.out w5.drew N5.out.drew).mono ?_; rintro e w6 ⟨rfl, b6⟩; have M6 : Hid (Below w5.heap.size w5 w6) := ⟨b6.os, b6.tape, b6.output, b6.size, b6.block⟩; have N6 := Seg.hid (chainD N5.out b6); clear b6; have t0 := (M6.out.cell (p := ⟨wr.heap.size, 0, none⟩) hlt5).trans q0; have t1 := (M6.out.cell (p := ⟨wr.heap.size, 1, none⟩) hlt5).trans q1; have t2 := (M6.out.cell (p := ⟨wr.heap.size, 2, none⟩) hlt5).trans q2; have tp6 := (M6.out.cell (p := ⟨g, o + p * 3, none⟩) hg5).trans dp; try (go_wp2_with fail))
            refine hK.out _ _ ⟨t0, t1, t2, tp6⟩ (fun hHeld => ?_)
            clear hK K
            try simp only [Act.put, List.setIfInBounds_toArray, List.set_cons_zero, List.set_cons_succ]
            refine HdK.tke 4 (some 22) (.bool true) rfl rfl ?_
            try simp only [Act.put, List.setIfInBounds_toArray, List.set_cons_zero, List.set_cons_succ]
            refine HdK.tke 5 (some 23) (.int .i64 (p : Int)) rfl rfl ?_
            try simp only [Act.put, List.setIfInBounds_toArray, List.set_cons_zero, List.set_cons_succ]
            refine HdK.tke 6 (some 24) (.bool false) rfl rfl ?_
            try simp only [Act.put, List.setIfInBounds_toArray, List.set_cons_zero, List.set_cons_succ]
            refine HdK.tke 7 (some 25) (.bool false) rfl rfl ?_
            try simp only [Act.put, List.setIfInBounds_toArray, List.set_cons_zero, List.set_cons_succ]
            refine HdK.tke 8 (some 26) (.pointer (some ⟨wr.heap.size, 0, none⟩)) rfl rfl ?_
            try simp only [Act.put, List.setIfInBounds_toArray, List.set_cons_zero, List.set_cons_succ]
            refine HdK.tke 9 (some 27) (.int .i64 a.time) rfl rfl ?_
            try simp only [Act.put, List.setIfInBounds_toArray, List.set_cons_zero, List.set_cons_succ]
            refine HdK.tke 10 (some 28) (.slice (some ⟨g, o, none⟩) us.length c) rfl rfl ?_
            try simp only [Act.put, List.setIfInBounds_toArray, List.set_cons_zero, List.set_cons_succ]
            refine HdK.tke 11 (some 29) (.int .i64 (p : Int)) rfl rfl ?_
            try simp only [Act.put, List.setIfInBounds_toArray, List.set_cons_zero, List.set_cons_succ]
            refine HdK.tke 12 (some 30) (.pointer (some ⟨g, o + p * 3, none⟩)) rfl rfl ?_
            try simp only [Act.put, List.setIfInBounds_toArray, List.set_cons_zero, List.set_cons_succ]
            refine HdK.tke 13 (some 31) (.pointer (some ⟨g, o + p * 3, none⟩)) rfl rfl ?_
            try simp only [Act.put, List.setIfInBounds_toArray, List.set_cons_zero, List.set_cons_succ]
            refine HdK.tke 14 (some 32) (.int .i64 tp) rfl rfl ?_
            try simp only [Act.put, List.setIfInBounds_toArray, List.set_cons_zero, List.set_cons_succ]
            refine HdK.tke 15 (some 33) (.bool false) rfl rfl ?_
            try simp only [Act.put, List.setIfInBounds_toArray, List.set_cons_zero, List.set_cons_succ]
            refine HdK.tke 16 (some 34) (.bool false) rfl rfl ?_
            try simp only [Act.put, List.setIfInBounds_toArray, List.set_cons_zero, List.set_cons_succ]
            refine HdK.tke 17 (some 35) (.bool false) rfl rfl ?_
            try simp only [Act.put, List.setIfInBounds_toArray, List.set_cons_zero, List.set_cons_succ]
            refine wpAnyH_done (by kernel_rfl) ?_ _
            all_goals
              go_wp2
              go_roundw
              case rel => exact ⟨k + 1, by omega, by go_num, by rw [HP'.out, PF.out], chain BW.out N6.out⟩
              case measure => simp [intOf]; omega
    · have hkl : k = us.length := by omega
      have hx1 : ¬ (k : Int) < (us.length : Int) := by omega
      have PE : Hid (plc us key time us.length = plc us key time k) := by show _ = _; rw [hkl]
      obtain ⟨P, hP⟩ : ∃ P, plc us key time k = P := ⟨_, rfl⟩
      rw [hP] at PE PL
      rw [hP]
      clear hP
      by_cases hn0 : P < 0
      · have RF : Hid (RB = false) := by show _ = _; rw [← HB.out, latOk, latP, PE.out, decide_eq_false (by omega)]; rfl
        have LF : Hid (RL = []) := by show _ = _; rw [← HL.out, latest, if_neg (by rw [HB.out, RF.out]; simp)]
        clear hkl
        go_wp2
        go_ret2
        exact ⟨_, by rw [RF.out]; rfl, by rw [LF.out]; exact row_weak (empty_row _) (BW.out.size), chain BW.out (below1 _ _)⟩
      · obtain ⟨p, rfl⟩ : ∃ p : Nat, P = (p : Int) := ⟨P.toNat, by omega⟩
        have hpl : p < us.length := by omega
        obtain ⟨ea, hc, hgw⟩ := HO.out.addr.resolve_left (by omega)
        subst ea
        obtain ⟨A', c', hcl, d0, d1, d2⟩ := arr_at HO.out hS BW.out hpl
        have HC := Seg.hid hcl
        have HZP := Seg.hid (sz_row HZ.out hpl)
        clear hcl
        have hp1 : (p : Int) < (us.length : Int) := by omega
        have hp0 : (0 : Int) ≤ (p : Int) := by omega
        have hn1 : decide ((p : Int) < 0) = false := decide_eq_false hn0
        have RX : Hid (RB = !(us.getD p default).gone) := by show _ = _; rw [← HB.out, latOk, latP, PE.out, decide_eq_true (by omega)]; rfl
        have LX : Hid (RL = if RB then (us.getD p default).row else []) := by show _ = _; rw [← HL.out, latest, latP, PE.out, HB.out]; rfl
        generalize us.getD p default = a at *
        clear hkl
        obtain ⟨gn, hgn⟩ : ∃ gn, a.gone = gn := ⟨_, rfl⟩
        rw [hgn] at d2 RX
        clear hgn
        cases gn with
        | true =>
          have LF : Hid (RL = []) := by show _ = _; rw [LX.out, RX.out]; rfl
          go_wp2
          go_ret2
          exact ⟨_, by rw [RX.out]; rfl, by rw [LF.out]; exact row_weak (empty_row _) (BW.out.size), chain BW.out (below1 _ _)⟩
        | false =>
          have LF : Hid (RL = a.row) := by show _ = _; rw [LX.out, RX.out]; rfl
          have CC : Hid (∀ wx, Below wr.heap.size wr wx → Calls Try.prog 52 #[.slice A' a.row.length c'] wx fun e w' => ∃ v, e = .returned v ∧ NRow w' wx.heap.size v a.row ∧ Below wx.heap.size wx w') := fun wx b => clone_any A' c' a.row wx S (LAt.below keepsI HC.out b (fun y hy => Nat.lt_of_lt_of_le (hS y hy) BW.out.size)) (fun y hy => Nat.lt_of_lt_of_le (hS y hy) (Nat.le_trans BW.out.size b.size)) HZP.out
          go_wp2_with (go_at_call 52; refine (CC.out _ (Below.refl _ _)).mono ?_; rintro e w6 ⟨v6, rfl, r6, b6⟩; have R6 := Seg.hid r6; have B6 := Seg.hid b6; clear r6 b6)
          go_ret2
          exact ⟨_, by rw [RX.out]; rfl, by rw [LF.out]; exact row_weak R6.out BW.out.size, chain BW.out B6.out⟩
end Go.Proofs.Ytekhidflncfeiaa.TbI
