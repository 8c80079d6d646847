/- The model's l14Has and l14Different; The model's SourcesOk. -/
import Derived.BigQuiet
import Derived.Deep.RegionHeld3
import Derived.Deep.AppendLies
import Derived.Deep.Cut
import Derived.Test.YtkibaimemomjpaaJE07
import Derived.Test.YtkibaimemomjpaaJE10
import Derived.Test.YtkibaimemomjpaaJE27
namespace Go.Proofs.Ytkibaimemomjpaa.QyS
set_option maxRecDepth 8000
open Go.RowKit
open Ls Lp QyP
set_option linter.unusedVariables false
set_option maxHeartbeats 800000 in
theorem has_any (v : Value) (ns : List ByteArray) (n : ByteArray) (w : World) (S : Nat → Prop) (hv : LAt 1 EStr w S v ns) (hS : ∀ g, S g → g < w.heap.size) : Calls Try.prog 99 #[v, .string n] w fun e w' => e = .returned (.bool (hasT ns n)) ∧ w = w' := by
  obtain ⟨A, c, g, o, F, rfl, OP, hn⟩ := opn hv hS
  have HO := Seg.hid OP
  clear hv OP
  obtain ⟨R, hR⟩ : ∃ R, hasT ns n = R := ⟨_, rfl⟩
  rw [hR]
  have HR := Seg.hid hR
  clear hR
  go_enter Try.func99, Try.ntmps99
  go_wp2
  go_loop [5] (fun i => ∃ k : Nat, k ≤ ns.length ∧ i = .int .i64 k ∧ Hid (hasT (ns.take k) n = false)) (fun i => ns.length - (intOf i).toNat)
  case atStart => exact ⟨0, Nat.zero_le _, rfl, hasT_zero _ _⟩
  case round =>
    obtain ⟨k, hk, rfl, HG⟩ := hrel
    by_cases hlt : k < ns.length
    · obtain ⟨ea, hc, hgw⟩ := HO.out.addr.resolve_left (by omega)
      subst ea
      have d0 := strs_cell HO.out rfl hlt
      have h0 : (0 : Int) ≤ (k : Int) := by omega
      have h1 : (k : Int) < (ns.length : Int) := by omega
      have NX := Seg.hid (hasT_next hlt n)
      have HT : Hid (((ns.getD k default).toList == n.toList) = true → hasT ns n = true) := hasT_hit hlt
      generalize ns.getD k default = m at *
      cases hb : (m.toList == n.toList) with
      | true =>
        have RF : Hid (R = true) := by show _ = _; rw [← HR.out]; exact HT.out hb
        go_wp2
        go_ret
        exact ⟨by rw [RF.out]; rfl, rfl⟩
      | false =>
        have HN : Hid (hasT (ns.take (k + 1)) n = false) := by show _ = _; rw [NX.out, HG.out, hb]; rfl
        go_wp2
        go_round
        case rel => exact ⟨k + 1, by omega, by go_num, HN.out⟩
        case measure => simp [intOf]; omega
    · obtain rfl : k = ns.length := by omega
      have RF : Hid (R = false) := by show _ = _; have := HG.out; rw [List.take_length, HR.out] at this; exact this
      go_wp2
      go_ret
      exact ⟨by rw [RF.out]; rfl, rfl⟩
set_option maxHeartbeats 1600000 in
theorem diff_any (v : Value) (ns : List ByteArray) (w : World) (S : Nat → Prop) (hv : LAt 1 EStr w S v ns) (hS : ∀ g, S g → g < w.heap.size) : Calls Try.prog 73 #[v] w fun e w' => e = .returned (.bool (diff ns)) ∧ Below w.heap.size w w' := by
  have HV0 := Seg.hid hv
  obtain ⟨A, c, g, o, F, rfl, OP, hn⟩ := opn hv hS
  have HO := Seg.hid OP
  clear hv OP
  obtain ⟨R, hR⟩ : ∃ R, diff ns = R := ⟨_, rfl⟩
  rw [hR]
  have HR : Hid (diffN ns ns.length = R) := hR
  clear hR
  go_enter Try.func73, Try.ntmps73
  go_wp2
  go_loopw [3] (fun i wr => ∃ k : Nat, k ≤ ns.length ∧ i = .int .i64 k ∧ Hid (diffN ns k = true ∧ Qt w wr)) (fun i _ => ns.length - (intOf i).toNat)
  case atStart => exact ⟨0, Nat.zero_le _, rfl, diffN_zero _, Qt.refl _⟩
  case round =>
    obtain ⟨k, hk, rfl, HG⟩ := hrel
    by_cases hlt : k < ns.length
    · obtain ⟨ea, hc, hgw⟩ := HO.out.addr.resolve_left (by omega)
      subst ea
      have hq := HG.out.2
      have d0 := strs_cell (w' := wr) HO.out (by rw [hq.heap]) hlt
      have h0 : (0 : Int) ≤ (k : Int) := by omega
      have h1 : (k : Int) < (ns.length : Int) := by omega
      have h2 : (k : Int) ≤ (ns.length : Int) := by omega
      have h3 : (k : Int) ≤ (c : Int) := by omega
      have h4 : k ≤ c := by omega
      have h5 : ¬ c = 0 := by omega
      have NX : Hid (hasT (ns.take k) (ns.getD k default) = false → diffN ns (k + 1) = true) := diffN_next HG.out.1
      have BX : Hid (hasT (ns.take k) (ns.getD k default) = true → diffN ns ns.length = false) := diffN_bad hlt
      have QW := Seg.hid hq
      have CH : Hid (∀ wx, Qt w wx → Calls Try.prog 99 #[.slice (some ⟨g, o, none⟩) k c, .string (ns.getD k default)] wx fun e w' => e = .returned (.bool (hasT (ns.take k) (ns.getD k default))) ∧ wx = w') := fun wx q => has_any _ _ _ wx S (LAt.keep keepsStr (take_at HV0.out (by omega)) (fun y _ => by rw [q.heap])) (fun y hy => by rw [q.heap]; exact hS y hy)
      clear HG hq
      obtain ⟨b, hb⟩ : ∃ b, hasT (ns.take k) (ns.getD k default) = b := ⟨_, rfl⟩
      rw [hb] at NX BX CH
      clear hb
      generalize ns.getD k default = m at *
      go_wp2_with fail
      go_region_held3 (fun w' => w'.cell? ⟨g, o + k, none⟩ = some (.string m)) (first | exact d0 | go_keep) (first | (go_at_call 99; refine (CH.out _ QW.out.drew).mono ?_; rintro e wz ⟨rfl, rfl⟩))
      cases b with
      | true =>
        go_wp2
        go_ret
        exact ⟨by rw [← HR.out, BX.out (by simp)]; rfl, (QW.out.drewN _).bel _⟩
      | false =>
        go_wp2
        go_roundw
        case rel => exact ⟨k + 1, by omega, by go_num, NX.out (by simp), QW.out.drewN _⟩
        case measure => simp [intOf]; omega
    · obtain rfl : k = ns.length := by omega
      have RF : Hid (R = true) := by show _ = _; rw [← HR.out]; exact HG.out.1
      have QW := Seg.hid HG.out.2
      go_wp2
      go_ret
      exact ⟨by rw [RF.out]; rfl, QW.out.bel _⟩
end Go.Proofs.Ytkibaimemomjpaa.QyS
namespace Go.Proofs.Ytkibaimemomjpaa.QsS
set_option maxRecDepth 8000
open Go.RowKit
open Ls Lp QyP QsP
open Recs (hsz below1 below2 chain)
set_option linter.unusedVariables false
structure Ss (w wr : World) (l : List Src) (k : Nat) (v : Value) : Prop where
  le : k ≤ l.length
  row : Row wr w.heap.size v (nmsS (l.take k))
  all : (l.take k).all srcOk = true
  bel : Below w.heap.size w wr
set_option maxHeartbeats 6400000 in
theorem spec_any (v : Value) (l : List Src) (w : World) (S : Nat → Prop) (hv : LAt 3 ESrc w S v l) (hS : ∀ g, S g → g < w.heap.size) (hf : szL szSrc l ≤ 1048576) : Calls Try.prog 90 #[v] w fun e w' => e = .returned (.bool (srcsOk l)) ∧ Below w.heap.size w w' := by
  obtain ⟨A, c, g, o, F, rfl, OP, hn⟩ := opn hv hS
  have HO := Seg.hid OP
  have HZ := Seg.hid hf
  clear hv OP hf
  obtain ⟨R, hR⟩ : ∃ R, srcsOk l = R := ⟨_, rfl⟩
  rw [hR]
  have HR := Seg.hid hR
  clear hR
  obtain ⟨i0, hi, hz0, hz1, hz2⟩ := info_parts infoStr
  go_enter Try.func90, Try.ntmps90
  by_cases h10 : 10 < l.length
  · have RF : Hid (R = false) := by show _ = _; rw [← HR.out, srcsOk, decide_eq_false (by omega)]; rfl
    have q10 : (10 : Int) < (l.length : Int) := by omega
    go_wp2
    go_ret
    exact ⟨by rw [RF.out]; rfl, Below.refl _ _⟩
  have R1 : Hid (R = (l.all srcOk && diff (nmsS l))) := by show _ = _; rw [← HR.out, srcsOk, decide_eq_true (by omega)]; rfl
  have q10 : ¬ (10 : Int) < (l.length : Int) := by omega
  have q11 : ¬ 10 < l.length := h10
  clear HR
  go_upto_region 4 with fail
  obtain ⟨w1, hw1⟩ : ∃ w1, w.alloc (.cells #[] 9 (0, 0)) = w1 := ⟨_, rfl⟩
  have B1 : Hid (Below w.heap.size w w1) := by show Below _ _ _; rw [← hw1]; exact below1 _ _
  have O1 : Hid (Row w1 w.heap.size (.slice (some ⟨w.heap.size, 0, none⟩) 0 0) (nmsS (l.take 0))) := by
    show Row _ _ _ _
    rw [← hw1]
    simp only [List.take_zero, nmsS, List.map_nil]
    exact ⟨rfl, .inr ⟨w.heap.size, 0, #[], rfl, Nat.le_refl _, heap_alloc_new _ _, by simp, by unfold maxLen; omega, by simp, by simp⟩⟩
  try rw [hw1]
  clear hw1
  go_wp2
  go_loopw [3, 4] (fun v i wr => ∃ k : Nat, i = .int .i64 k ∧ Ss w wr l k v) (fun _ i _ => l.length - (intOf i).toNat)
  case atStart => exact ⟨0, rfl, Nat.zero_le _, O1.out, by simp, B1.out⟩
  case round =>
    clear B1 O1
    obtain ⟨k, rfl, SS⟩ := hrel
    obtain ⟨v, hv3⟩ : ∃ v, v = u3 := ⟨_, rfl⟩
    rw [← hv3] at SS ⊢
    clear hv3
    have hk := SS.le
    have BW := Seg.hid SS.bel
    have RW := Seg.hid SS.row
    have AW := Seg.hid SS.all
    clear SS
    by_cases hlt : k < l.length
    · obtain ⟨ea, hc, hgw⟩ := HO.out.addr.resolve_left (by omega)
      subst ea
      obtain ⟨A', c', hcl, d0, d1, d2⟩ := src_at HO.out hS BW.out hlt
      have h0 : (0 : Int) ≤ (k : Int) := by omega
      have h1 : (k : Int) < (l.length : Int) := by omega
      have SU : Hid (szSrc (l.getD k default) ≤ 1048576) := szL_one szSrc HZ.out hlt
      have NX : Hid (srcOk (l.getD k default) = true → (l.take (k + 1)).all srcOk = true) := all_next srcOk l k hlt AW.out
      have BX : Hid (srcOk (l.getD k default) = false → l.all srcOk = false) := all_bad srcOk l k hlt
      have NN := Seg.hid (nmsS_next hlt)
      have NL : Hid ((nmsS (l.take k)).length ≤ 10) := by show _ ≤ _; rw [nmsS_len, List.length_take]; omega
      have HC := Seg.hid hcl
      clear hcl AW
      generalize l.getD k default = s at *
      have TN : Hid (s.name.size ≤ maxLen) := by show _ ≤ _; have := SU.out; unfold szSrc at this; unfold maxLen; omega
      have hSr : ∀ y, S y → y < wr.heap.size := fun y hy => Nat.lt_of_lt_of_le (hS y hy) BW.out.size
      have CD : Hid (∀ wx, Below wr.heap.size wr wx → Calls Try.prog 73 #[.slice A' s.cols.length c'] wx fun e w' => e = .returned (.bool (diff s.cols)) ∧ Below wx.heap.size wx w') := fun wx b => QyS.diff_any _ _ wx S (LAt.below keepsStr HC.out b hSr) (fun y hy => Nat.lt_of_lt_of_le (hSr y hy) b.size)
      obtain ⟨w5, hw5⟩ : ∃ w5, wr.alloc (.cells #[.string s.name, .bool s.tab, .slice A' s.cols.length c'] 92 (0, 0)) = w5 := ⟨_, rfl⟩
      have T5 : Hid (w5.heap[wr.heap.size]? = some (.cells #[.string s.name, .bool s.tab, .slice A' s.cols.length c'] 92 (0, 0))) := by show _ = _; rw [← hw5]; exact heap_alloc_new _ _
      have N5 : Hid (Below wr.heap.size wr w5) := by show Below _ _ _; rw [← hw5]; exact below1 _ _
      go_upto_region 8 with fail
      try rw [hw5]
      clear hw5 d0 d1 d2
      have q0 : w5.cell? ⟨wr.heap.size, 0, none⟩ = some (.string s.name) := cell_of_row w5 _ 0 _ _ (0, 0) T5.out
      have q2 : w5.cell? ⟨wr.heap.size, 2, none⟩ = some (.slice A' s.cols.length c') := cell_of_row w5 _ 2 _ _ (0, 0) T5.out
      cases k1 : Nm.nameOk s.name with
      | false =>
        have RF : Hid (R = false) := by show _ = _; rw [R1.out, BX.out (by rw [srcOk, k1]; rfl)]; rfl
        have HY := Seg.hid k1
        clear k1
        go_wp2_with (go_at_call 71; refine (Nm.spec_q _ _ HY.out _ TN.out).mono ?_; rintro e w6 ⟨rfl, rfl⟩)
        go_ret
        exact ⟨by rw [RF.out]; rfl, chain BW.out N5.out⟩
      | true =>
      have HY := Seg.hid k1
      cases k2 : inR 1 s.cols.length 12 with
      | false =>
        have RF : Hid (R = false) := by show _ = _; rw [R1.out, BX.out (by rw [srcOk, k1, k2]; rfl)]; rfl
        have HK := Seg.hid k2
        clear k1 k2
        go_wp2_with (first | (go_at_call 71; refine (Nm.spec_q _ _ HY.out _ TN.out).mono ?_; rintro e w6 ⟨rfl, rfl⟩) | (go_at_call 54; refine (InB.l1In_b _ _ _ _ HK.out _).mono ?_; rintro e w6 ⟨rfl, rfl⟩))
        go_ret
        exact ⟨by rw [RF.out]; rfl, chain BW.out N5.out⟩
      | true =>
      have HK := Seg.hid k2
      have h12 := inR_true k2
      cases k3 : diff s.cols with
      | false =>
        have RF : Hid (R = false) := by show _ = _; rw [R1.out, BX.out (by rw [srcOk, k1, k2, k3]; rfl)]; rfl
        rw [k3] at CD
        clear k1 k2 k3
        go_wp2_with (first | (go_at_call 71; refine (Nm.spec_q _ _ HY.out _ TN.out).mono ?_; rintro e w6 ⟨rfl, rfl⟩) | (go_at_call 54; refine (InB.l1In_b _ _ _ _ HK.out _).mono ?_; rintro e w6 ⟨rfl, rfl⟩) | (go_at_call 73; refine (CD.out _ N5.out).mono ?_; rintro e w6 ⟨rfl, b6⟩; have B6 := Seg.hid (chain N5.out b6); clear b6))
        go_ret
        exact ⟨by rw [RF.out]; rfl, chain BW.out B6.out⟩
      | true =>
      have SO : Hid (srcOk s = s.cols.all Nm.nameOk) := by show _ = _; rw [srcOk, k1, k2, k3]; rfl
      rw [k3] at CD
      clear k1 k2 k3
      go_upto_region 10 with (first | (go_at_call 71; refine (Nm.spec_q _ _ HY.out _ TN.out).mono ?_; rintro e w6 ⟨rfl, rfl⟩) | (go_at_call 54; refine (InB.l1In_b _ _ _ _ HK.out _).mono ?_; rintro e w6 ⟨rfl, rfl⟩) | (go_at_call 73; refine (CD.out _ N5.out).mono ?_; rintro e w6 ⟨rfl, b6⟩; have B6 := Seg.hid (chain N5.out b6); have T6 := Seg.hid ((b6.block _ (Array.getElem?_eq_some_iff.1 T5.out).1).trans T5.out); clear b6))
      have e0 : w6.cell? ⟨wr.heap.size, 0, none⟩ = some (.string s.name) := cell_of_row w6 _ 0 _ _ (0, 0) T6.out
      have e2 : w6.cell? ⟨wr.heap.size, 2, none⟩ = some (.slice A' s.cols.length c') := cell_of_row w6 _ 2 _ _ (0, 0) T6.out
      have hc6 := LAt.below keepsStr HC.out B6.out hSr
      obtain ⟨A9, c9, gc, oc, Fc, e9, OC, hnc⟩ := opn hc6 (fun y hy => Nat.lt_of_lt_of_le (hSr y hy) B6.out.size)
      simp only [Value.slice.injEq, true_and] at e9
      obtain ⟨rfl, rfl⟩ := e9
      obtain ⟨ec, hcc, hgc⟩ := OC.addr.resolve_left (by omega)
      subst ec
      have HOC := Seg.hid OC
      clear q0 q2 T5 N5 CD HC hc6 OC
      go_wp2
      go_loop [6] (fun i => ∃ j : Nat, j ≤ s.cols.length ∧ i = .int .i64 j ∧ Hid ((s.cols.take j).all Nm.nameOk = true)) (fun i => s.cols.length - (intOf i).toNat)
      case atStart => exact ⟨0, Nat.zero_le _, rfl, by show _ = _; simp⟩
      case round =>
        obtain ⟨j, hj, rfl, HG⟩ := hrel
        by_cases hjt : j < s.cols.length
        · have dj := strs_cell HOC.out rfl hjt
          have j0 : (0 : Int) ≤ (j : Int) := by omega
          have j1 : (j : Int) < (s.cols.length : Int) := by omega
          have TJ : Hid ((s.cols.getD j default).size ≤ maxLen) := by show _ ≤ _; have := sz_col SU.out hjt; unfold maxLen; omega
          have NJ : Hid (Nm.nameOk (s.cols.getD j default) = true → (s.cols.take (j + 1)).all Nm.nameOk = true) := all_next Nm.nameOk s.cols j hjt HG.out
          have BJ : Hid (Nm.nameOk (s.cols.getD j default) = false → s.cols.all Nm.nameOk = false) := all_bad Nm.nameOk s.cols j hjt
          generalize s.cols.getD j default = m at *
          cases km : Nm.nameOk m with
          | false =>
            have RF : Hid (R = false) := by show _ = _; rw [R1.out, BX.out (by rw [SO.out, BJ.out km])]; rfl
            have HM := Seg.hid km
            clear km
            go_wp2_with (go_at_call 71; refine (Nm.spec_q _ _ HM.out _ TJ.out).mono ?_; rintro e w7 ⟨rfl, rfl⟩)
            go_ret
            exact ⟨by rw [RF.out]; rfl, chain BW.out B6.out⟩
          | true =>
            have NJ2 := Seg.hid (NJ.out km)
            have HM := Seg.hid km
            clear km
            go_wp2_with (go_at_call 71; refine (Nm.spec_q _ _ HM.out _ TJ.out).mono ?_; rintro e w7 ⟨rfl, rfl⟩)
            go_round
            case rel => exact ⟨j + 1, by omega, by go_num, NJ2.out⟩
            case measure => simp [intOf]; omega
        · have hjl : j = s.cols.length := by omega
          have ALL : Hid ((l.take (k + 1)).all srcOk = true) := NX.out (by rw [SO.out]; have := HG.out; rwa [hjl, List.take_length] at this)
          clear hjl
          have hx1 : ¬ (j : Int) < (s.cols.length : Int) := by omega
          have nl := NL.out
          have zb : w.heap.size ≤ w6.heap.size := by have := BW.out.size; have := B6.out.size; omega
          have OW : Hid (∀ ob, (w6.alloc ob).ownsRow w.heap.size 9 1 v (nmsS (l.take k)).length ((nmsS (l.take k)).map Value.string)) := fun ob => Row.keep RW.out (chain B6.out (below1 w6 ob))
          go_wp2_with (at_builtin; (refine wpList_append_lies _ rfl _ _ 23 rfl w.heap.size 9 i0 _ 1 16 Try.underlying23 hi hz0 hz1 hz2 rfl (by decide) v (nmsS (l.take k)).length ((nmsS (l.take k)).map Value.string) rfl (OW.out _) ⟨w6.heap.size, 0, none⟩ 1 1 [.string s.name] rfl rfl (World.news_of_block (cs := #[.string s.name]) (heap_alloc_new _ _)) (by simp [Value.oneCell']) (by decide) (by unfold maxLen; omega) (by omega) (by rw [hsz]; omega) (w6.heap.size + 1) (by rw [hsz]) ?_; intro g9 cap9 w9 hown9 gr9 hat9 hlt9; have RN := Seg.hid (row_put hown9); have B9 : Hid (Below w.heap.size w w9) := (chain BW.out (chain B6.out (below1 w6 _))).grown gr9 (by rw [hsz]; omega) (fun y hy => (World.ownsRow.lt RW.out y hy).1); clear hown9 gr9 hat9 hlt9))
          go_roundw
          case rel => exact ⟨k + 1, by go_num, by omega, by rw [NN.out]; exact RN.out, ALL.out, B9.out⟩
          case measure => simp [intOf]; omega
    · have hkl : k = l.length := by omega
      have RT : Hid (R = diff (nmsS l)) := by show _ = _; have := AW.out; rw [hkl, List.take_length] at this; rw [R1.out, this]; rfl
      have RL : Hid (LAt 1 EStr wr (seg w.heap.size wr.heap.size) v (nmsS l)) := by
        have := RW.out
        rw [hkl, List.take_length] at this
        exact Row.lat this (by rw [nmsS_len]; omega)
      clear hkl RW
      go_wp2_with (go_at_call 73; refine (QyS.diff_any v (nmsS l) wr _ RL.out (fun y hy => hy.2)).mono ?_; rintro e w6 ⟨rfl, b6⟩; have B6 := Seg.hid (chain BW.out b6); clear b6)
      go_ret
      exact ⟨by rw [RT.out]; rfl, B6.out⟩
end Go.Proofs.Ytkibaimemomjpaa.QsS
