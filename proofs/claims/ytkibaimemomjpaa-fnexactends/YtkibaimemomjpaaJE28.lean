/- The program's colsOk and SourcesOk; The program's rowReckonable, Arrival.okFor and InputsOk. -/
import Derived.Deep.Cut
import Derived.Deep.RegionHeld3
import Derived.Test.YtkibaimemomjpaaJE10
import Derived.Test.YtkibaimemomjpaaJE26
import Derived.Test.YtkibaimemomjpaaJE27
import Derived.Test.YtkibaimemomjpaaJE13
import Derived.Test.YtkibaimemomjpaaJE09
namespace Go.Proofs.Ytkibaimemomjpaa.QsI
set_option maxRecDepth 8000
open Go.RowKit
open Ls Lp QyP QsP HsP HsM
open Recs (hsz below1 below2 chain)
set_option linter.unusedVariables false
def cOk (us : List ByteArray) : Bool := decide (us.length ≤ 12) && (us.all Nm.nameOk && diff us)
theorem src_eq (s : Src) : srcOk s = (Nm.nameOk s.name && (!decide (s.cols.length = 0) && cOk s.cols)) := by
  rw [srcOk, cOk, Bool.eq_iff_iff]
  simp only [inR, Bool.and_eq_true, decide_eq_true_eq, Bool.not_eq_true', decide_eq_false_iff_not]
  constructor
  · rintro ⟨a, ⟨b, c⟩, d, e⟩
    exact ⟨a, by omega, by omega, e, d⟩
  · rintro ⟨a, b, c, e, d⟩
    exact ⟨a, ⟨by omega, by omega⟩, d, e⟩
set_option maxHeartbeats 1600000 in
theorem cols_any (v : Value) (us : List ByteArray) (w : World) (S : Nat → Prop) (hv : LAt 1 EStr w S v us) (hS : ∀ g, S g → g < w.heap.size) (hz : szL ByteArray.size us ≤ 1048576) :
    Calls Try.prog 78 #[v] w fun e w' => e = .returned (.bool (cOk us)) ∧ Below w.heap.size w w' := by
  have HV := Seg.hid hv
  obtain ⟨A, c, g, o, F, rfl, OP, hn⟩ := opn hv hS
  have HO := Seg.hid OP
  have HZ := Seg.hid hz
  clear hv OP hz
  obtain ⟨R, hR⟩ : ∃ R, cOk us = R := ⟨_, rfl⟩
  rw [hR]
  have HR := Seg.hid hR
  clear hR
  have hmm := @run_makeMap Try.prog
  go_enter Try.func78, Try.ntmps78
  by_cases h12 : 12 < us.length
  · have RF : Hid (R = false) := by show _ = _; rw [← HR.out, cOk, decide_eq_false (by omega)]; rfl
    have q12 : (12 : Int) < (us.length : Int) := by omega
    go_wp2
    go_ret
    exact ⟨by rw [RF.out]; rfl, Below.refl _ _⟩
  have R1 : Hid (R = (us.all Nm.nameOk && diff us)) := by show _ = _; rw [← HR.out, cOk, decide_eq_true (by omega)]; rfl
  have q12 : ¬ (12 : Int) < (us.length : Int) := by omega
  have q13 : ¬ 12 < us.length := h12
  clear HR
  go_wp2
  go_loop [10] (fun i => ∃ k : Nat, k ≤ us.length ∧ i = .int .i64 k ∧ Hid ((us.take k).all Nm.nameOk = true)) (fun i => us.length - (intOf i).toNat)
  case atStart => exact ⟨0, Nat.zero_le _, rfl, by show _ = _; simp⟩
  case round =>
    obtain ⟨k, hk, rfl, HG⟩ := hrel
    by_cases hlt : k < us.length
    · obtain ⟨ea, hc, hgw⟩ := HO.out.addr.resolve_left (by omega)
      subst ea
      have d0 := strs_cell HO.out rfl hlt
      have h0 : (0 : Int) ≤ (k : Int) := by omega
      have h1 : (k : Int) < (us.length : Int) := by omega
      have TZ : Hid ((us.getD k default).size ≤ maxLen) := by show _ ≤ _; have := szL_one ByteArray.size HZ.out hlt; unfold maxLen; omega
      have NX := Seg.hid (all_next Nm.nameOk us k hlt HG.out)
      have BX := Seg.hid (all_bad Nm.nameOk us k hlt)
      generalize us.getD k default = nk at *
      cases hy : Nm.nameOk nk with
      | true =>
        have NY : Hid ((us.take (k + 1)).all Nm.nameOk = true) := NX.out hy
        have HY := Seg.hid hy
        clear hy NX BX
        go_wp2_with (go_at_call 76; refine (Nm.impl_q _ _ HY.out _ TZ.out).mono ?_; rintro e w5 ⟨rfl, rfl⟩)
        go_round
        case rel => exact ⟨k + 1, by omega, by go_num, NY.out⟩
        case measure => simp [intOf]; omega
      | false =>
        have NY : Hid (R = false) := by show _ = _; rw [R1.out, BX.out hy]; rfl
        have HY := Seg.hid hy
        clear hy NX BX
        go_wp2_with (go_at_call 76; refine (Nm.impl_q _ _ HY.out _ TZ.out).mono ?_; rintro e w5 ⟨rfl, rfl⟩)
        go_ret
        exact ⟨by rw [NY.out]; rfl, Below.refl _ _⟩
    · obtain rfl : k = us.length := by omega
      have R2 : Hid (R = dst [] us) := by
        show _ = _
        have := HG.out
        rw [List.take_length] at this
        rw [R1.out, this, dst_diff]; rfl
      go_wp2_with (go_at_call 102; refine (add_any w.heap.size 0 w.heap.size _ us [] _ S (Set.made w) (Nat.le_refl _) (LAt.below keepsStr HV.out (below1 w _) hS) (fun g hg => by rw [hsz]; have := hS g hg; omega) (fun g hg => by have := hS g hg; omega) (fun k hk => szL_one ByteArray.size HZ.out hk) (by omega)).mono ?_; rintro e w5 ⟨rfl, b5, -⟩; have B5 := Seg.hid ((below1 w _).trans b5); clear b5)
      go_ret
      exact ⟨by rw [R2.out]; rfl, B5.out⟩
/-- One text in a row of its own. -/
theorem Row.lat1 (w : World) (n : ByteArray) : LAt 1 EStr (w.alloc (.cells #[.string n] 9 (0, 0))) (fun y => y = w.heap.size) (.slice (some ⟨w.heap.size, 0, none⟩) 1 1) [n] := by
  refine ⟨by simp, _, 1, rfl, .inr ⟨w.heap.size, 0, fun _ _ => .string n, rfl, rfl, by simp, fun i hi j hj => ?_, fun i hi => ?_⟩⟩
  · obtain rfl : i = 0 := by simpa using hi
    obtain rfl : j = 0 := by omega
    exact cell_of_row (w.alloc (.cells #[.string n] 9 (0, 0))) _ 0 _ _ (0, 0) (heap_alloc_new _ _)
  · obtain rfl : i = 0 := by simpa using hi
    rfl
theorem sz_only {n : ByteArray} (h : n.size ≤ 1048576) {j : Nat} (hj : j < [n].length) : ([n].getD j default).size ≤ 1048576 := by
  obtain rfl : j = 0 := by simpa using hj
  exact h
theorem nms_get {l : List Src} {k : Nat} (h : k < l.length) : (nmsS l).getD k default = (l.getD k default).name := by simp [nmsS, h]
structure Ss (w wr : World) (l : List Src) (k : Nat) : Prop where
  le : k ≤ l.length
  set : Set wr w.heap.size k ((nmsS l).take k)
  dst : dst ((nmsS l).take k) ((nmsS l).drop k) = diff (nmsS l)
  all : (l.take k).all srcOk = true
  bel : Below w.heap.size w wr
set_option maxHeartbeats 6400000 in
theorem impl_any (v : Value) (l : List Src) (w : World) (S : Nat → Prop) (hv : LAt 3 ESrc w S v l) (hS : ∀ g, S g → g < w.heap.size) (hf : szL szSrc l ≤ 1048576) : Calls Try.prog 92 #[v] w fun e w' => e = .returned (.bool (srcsOk l)) ∧ Below w.heap.size w w' := by
  obtain ⟨A, c, g, o, F, rfl, OP, hn⟩ := opn hv hS
  have HO := Seg.hid OP
  have HZ := Seg.hid hf
  clear hv OP hf
  obtain ⟨R, hR⟩ : ∃ R, srcsOk l = R := ⟨_, rfl⟩
  rw [hR]
  have HR := Seg.hid hR
  clear hR
  have hmm := @run_makeMap Try.prog
  go_enter Try.func92, Try.ntmps92
  by_cases h10 : 10 < l.length
  · have RF : Hid (R = false) := by show _ = _; rw [← HR.out, srcsOk, decide_eq_false (by omega)]; rfl
    have q10 : (10 : Int) < (l.length : Int) := by omega
    go_wp2
    go_ret
    exact ⟨by rw [RF.out]; rfl, Below.refl _ _⟩
  have R1 : Hid (R = (l.all srcOk && diff (nmsS l))) := by show _ = _; rw [← HR.out, srcsOk, decide_eq_true (by omega)]; rfl
  have q10 : ¬ (10 : Int) < (l.length : Int) := by omega
  have q11 : ¬ 10 < l.length := h10
  clear HR
  go_upto_region 4 with fail
  obtain ⟨w1, hw1⟩ : ∃ w1, w.alloc (.map #[] 0) = w1 := ⟨_, rfl⟩
  have B1 : Hid (Below w.heap.size w w1) := by show Below _ _ _; rw [← hw1]; exact below1 _ _
  have M1 : Hid (Set w1 w.heap.size 0 []) := by show Set _ _ _ _; rw [← hw1]; exact Set.made w
  try rw [hw1]
  clear hw1 hmm
  go_wp2
  go_loopw [12] (fun i wr => ∃ k : Nat, i = .int .i64 k ∧ Ss w wr l k) (fun i _ => l.length - (intOf i).toNat)
  case atStart => exact ⟨0, rfl, Nat.zero_le _, by simpa using M1.out, by simpa using dst_diff (nmsS l), by simp, B1.out⟩
  case round =>
    clear B1 M1
    obtain ⟨k, rfl, SS⟩ := hrel
    have hk := SS.le
    have BW := Seg.hid SS.bel
    have MW := Seg.hid SS.set
    have AW := Seg.hid SS.all
    have DW := Seg.hid SS.dst
    clear SS
    have hbm : w.heap.size < wr.heap.size := MW.out.lt
    by_cases hlt : k < l.length
    · obtain ⟨ea, hc, hgw⟩ := HO.out.addr.resolve_left (by omega)
      subst ea
      obtain ⟨A', c', hcl, d0, d1, d2⟩ := src_at HO.out hS BW.out hlt
      have h0 : (0 : Int) ≤ (k : Int) := by omega
      have h1 : (k : Int) < (l.length : Int) := by omega
      have SU : Hid (szSrc (l.getD k default) ≤ 1048576) := szL_one szSrc HZ.out hlt
      have NX : Hid (srcOk (l.getD k default) = true → (l.take (k + 1)).all srcOk = true) := all_next srcOk l k hlt AW.out
      have BX : Hid (srcOk (l.getD k default) = false → l.all srcOk = false) := all_bad srcOk l k hlt
      have hkn : k < (nmsS l).length := by rw [nmsS_len]; exact hlt
      have DN : Hid (diff (nmsS l) = (dst ((nmsS l).take k) [(l.getD k default).name] && dst ((nmsS l).take (k + 1)) ((nmsS l).drop (k + 1)))) := by
        show _ = _
        have := dst_step hkn []
        simp only [List.nil_append] at this
        rw [← DW.out, this, dst_one, nms_get hlt]
      have NN : Hid ((nmsS l).take (k + 1) = (nmsS l).take k ++ [(l.getD k default).name]) := by
        show _ = _
        rw [List.take_succ_eq_append_getElem hkn, ← nms_get hlt]
        simp [hkn]
      have HC := Seg.hid hcl
      clear hcl AW DW
      generalize l.getD k default = s at *
      have TN : Hid (s.name.size ≤ maxLen) := by show _ ≤ _; have := SU.out; unfold szSrc at this; unfold maxLen; omega
      have TS : Hid (s.name.size ≤ 1048576) := by show _ ≤ _; have := SU.out; unfold szSrc at this; omega
      have SC : Hid (szL ByteArray.size s.cols ≤ 1048576) := by show _ ≤ _; have := SU.out; unfold szSrc at this; omega
      have hSr : ∀ y, S y → y < wr.heap.size := fun y hy => Nat.lt_of_lt_of_le (hS y hy) BW.out.size
      have CD : Hid (∀ wx, Below wr.heap.size wr wx → Calls Try.prog 78 #[.slice A' s.cols.length c'] wx fun e w' => e = .returned (.bool (cOk s.cols)) ∧ Below wx.heap.size wx w') := fun wx b => cols_any _ _ wx S (LAt.below keepsStr HC.out b hSr) (fun y hy => Nat.lt_of_lt_of_le (hSr y hy) b.size) SC.out
      have SE := Seg.hid (src_eq s)
      obtain ⟨w5, hw5⟩ : ∃ w5, wr.alloc (.cells #[.string s.name, .bool s.tab, .slice A' s.cols.length c'] 92 (0, 0)) = w5 := ⟨_, rfl⟩
      have T5 : Hid (w5.heap[wr.heap.size]? = some (.cells #[.string s.name, .bool s.tab, .slice A' s.cols.length c'] 92 (0, 0))) := by show _ = _; rw [← hw5]; exact heap_alloc_new _ _
      have N5 : Hid (Below wr.heap.size wr w5) := by show Below _ _ _; rw [← hw5]; exact below1 _ _
      go_upto_region 7 with fail
      try rw [hw5]
      clear hw5 d0 d1 d2
      have q0 : w5.cell? ⟨wr.heap.size, 0, none⟩ = some (.string s.name) := cell_of_row w5 _ 0 _ _ (0, 0) T5.out
      have q2 : w5.cell? ⟨wr.heap.size, 2, none⟩ = some (.slice A' s.cols.length c') := cell_of_row w5 _ 2 _ _ (0, 0) T5.out
      cases k1 : Nm.nameOk s.name with
      | false =>
        have RF : Hid (R = false) := by show _ = _; rw [R1.out, BX.out (by rw [SE.out, k1]; rfl)]; rfl
        have HY := Seg.hid k1
        clear k1
        go_wp2_with (go_at_call 76; refine (Nm.impl_q _ _ HY.out _ TN.out).mono ?_; rintro e w6 ⟨rfl, rfl⟩)
        go_ret
        exact ⟨by rw [RF.out]; rfl, chain BW.out N5.out⟩
      | true =>
      have HY := Seg.hid k1
      by_cases k2 : s.cols.length = 0
      · have RF : Hid (R = false) := by show _ = _; rw [R1.out, BX.out (by rw [SE.out, k1, decide_eq_true k2]; rfl)]; rfl
        have e2 : (s.cols.length : Int) = 0 := by omega
        clear k1
        go_wp2_with (first | (go_at_call 76; refine (Nm.impl_q _ _ HY.out _ TN.out).mono ?_; rintro e w6 ⟨rfl, rfl⟩))
        go_ret
        exact ⟨by rw [RF.out]; rfl, chain BW.out N5.out⟩
      have e2 : ¬ (s.cols.length : Int) = 0 := by omega
      cases k3 : cOk s.cols with
      | false =>
        have RF : Hid (R = false) := by show _ = _; rw [R1.out, BX.out (by rw [SE.out, k1, k3, Bool.and_false, Bool.and_false])]; rfl
        rw [k3] at CD
        clear k1 k3
        go_wp2_with (first | (go_at_call 76; refine (Nm.impl_q _ _ HY.out _ TN.out).mono ?_; rintro e w6 ⟨rfl, rfl⟩) | (go_at_call 78; refine (CD.out _ N5.out).mono ?_; rintro e w6 ⟨rfl, b6⟩; have B6 := Seg.hid (chain N5.out b6); clear b6))
        go_ret
        exact ⟨by rw [RF.out]; rfl, chain BW.out B6.out⟩
      | true =>
      have SO : Hid (srcOk s = true) := by show _ = _; rw [SE.out, k1, k3, decide_eq_false k2]; rfl
      rw [k3] at CD
      clear k1 k3
      cases kd : dst ((nmsS l).take k) [s.name] with
      | false =>
        have RF : Hid (R = false) := by show _ = _; rw [R1.out, DN.out, kd, Bool.false_and, Bool.and_false]
        have HD := Seg.hid kd
        clear kd
        go_wp2_with (first | (go_at_call 76; refine (Nm.impl_q _ _ HY.out _ TN.out).mono ?_; rintro e w6 ⟨rfl, rfl⟩) | (go_at_call 78; refine (CD.out _ N5.out).mono ?_; rintro e w6 ⟨rfl, b6⟩; have B6 := Seg.hid (chain N5.out b6); have T6 := Seg.hid ((b6.block _ (Array.getElem?_eq_some_iff.1 T5.out).1).trans T5.out); have q6 : w6.cell? ⟨wr.heap.size, 0, none⟩ = some (.string s.name) := cell_of_row w6 _ 0 _ _ (0, 0) T6.out; clear b6) | (go_at_call 102; refine (add_any w.heap.size k w.heap.size _ [s.name] ((nmsS l).take k) _ (fun y => y = w6.heap.size) (MW.out.keep ((chain B6.out (below1 w6 _)).block _ hbm)) (Nat.le_refl _) (Row.lat1 w6 s.name) (fun y hy => by rw [hsz]; omega) (fun y hy => by have := B6.out.size; omega) (fun j hj => sz_only TS.out hj) (by simp; omega)).mono ?_; rintro e w7 ⟨rfl, b7, h7⟩; rw [HD.out]; have B7 := Seg.hid ((chain BW.out (chain B6.out (below1 w6 _))).trans b7); clear b7 h7))
        go_ret
        exact ⟨by rw [RF.out]; rfl, B7.out⟩
      | true =>
        have HD := Seg.hid kd
        have DX : Hid (dst ((nmsS l).take (k + 1)) ((nmsS l).drop (k + 1)) = diff (nmsS l)) := by show _ = _; rw [DN.out, kd]; rfl
        clear kd
        go_wp2_with (first | (go_at_call 76; refine (Nm.impl_q _ _ HY.out _ TN.out).mono ?_; rintro e w6 ⟨rfl, rfl⟩) | (go_at_call 78; refine (CD.out _ N5.out).mono ?_; rintro e w6 ⟨rfl, b6⟩; have B6 := Seg.hid (chain N5.out b6); have T6 := Seg.hid ((b6.block _ (Array.getElem?_eq_some_iff.1 T5.out).1).trans T5.out); have q6 : w6.cell? ⟨wr.heap.size, 0, none⟩ = some (.string s.name) := cell_of_row w6 _ 0 _ _ (0, 0) T6.out; clear b6) | (go_at_call 102; refine (add_any w.heap.size k w.heap.size _ [s.name] ((nmsS l).take k) _ (fun y => y = w6.heap.size) (MW.out.keep ((chain B6.out (below1 w6 _)).block _ hbm)) (Nat.le_refl _) (Row.lat1 w6 s.name) (fun y hy => by rw [hsz]; omega) (fun y hy => by have := B6.out.size; omega) (fun j hj => sz_only TS.out hj) (by simp; omega)).mono ?_; rintro e w7 ⟨rfl, b7, h7⟩; rw [HD.out]; have B7 := Seg.hid ((chain BW.out (chain B6.out (below1 w6 _))).trans b7); have M7 := Seg.hid (h7 HD.out); clear b7 h7))
        go_roundw
        case rel => exact ⟨k + 1, by go_num, by omega, by rw [NN.out]; exact M7.out, DX.out, NX.out SO.out, B7.out⟩
        case measure => simp [intOf]; omega
    · have hkl : k = l.length := by omega
      have RT : Hid (R = true) := by
        show _ = _
        have h1 := AW.out
        rw [hkl, List.take_length] at h1
        have h2 := DW.out
        rw [List.drop_eq_nil_of_le (by rw [nmsS_len]; omega)] at h2
        rw [R1.out, h1, ← h2]
        rfl
      go_wp2
      go_ret
      exact ⟨by rw [RT.out]; rfl, BW.out⟩
end Go.Proofs.Ytkibaimemomjpaa.QsI
namespace Go.Proofs.Ytkibaimemomjpaa.IoI
set_option maxRecDepth 8000
open Go.RowKit
open Ls Lp QyP QsP QtP QuP TbP IoP
open Recs (hsz below1 below2 chain chainD)
set_option linter.unusedVariables false
set_option maxHeartbeats 1600000 in
theorem row_any (v : Value) (ns : List Int) (w : World) (S : Nat → Prop) (hv : IntsAt w S v ns) (hS : ∀ g, S g → g < w.heap.size) :
    Calls Try.prog 111 #[v] w fun e w' => e = .returned (.bool (ns.all inN)) ∧ w = w' := by
  obtain ⟨A, c, g, o, F, rfl, OP, hn⟩ := opn hv hS
  have HO := Seg.hid OP
  clear hv OP
  obtain ⟨R, hR⟩ : ∃ R, ns.all inN = R := ⟨_, rfl⟩
  rw [hR]
  have HR := Seg.hid hR
  clear hR
  have CQ : Hid (∀ n wx, Calls Try.prog 125 #[.int .i64 n] wx fun e w' => e = .returned (.bool (inN n)) ∧ wx = w') := fun n wx => by
    obtain ⟨b, hb⟩ : ∃ b, inN n = b := ⟨_, rfl⟩
    rw [hb]
    have CB := Seg.hid (InB.within_b n (-1000000000000000) 1000000000000000 b hb)
    clear hb
    go_enter Try.func125, Try.ntmps125
    go_wp2_with (go_at_call 82; refine (CB.out _).mono ?_; rintro e w5 ⟨rfl, rfl⟩)
    go_ret
    exact ⟨rfl, rfl⟩
  go_enter Try.func111, Try.ntmps111
  go_wp2
  go_loop [7] (fun i => ∃ k : Nat, k ≤ ns.length ∧ i = .int .i64 k ∧ Hid ((ns.take k).all inN = true)) (fun i => ns.length - (intOf i).toNat)
  case atStart => exact ⟨0, Nat.zero_le _, rfl, by show _ = _; simp⟩
  case round =>
    obtain ⟨k, hk, rfl, HG⟩ := hrel
    by_cases hlt : k < ns.length
    · obtain ⟨ea, hc, hgw⟩ := HO.out.addr.resolve_left (by omega)
      subst ea
      have d0 := ints_cell HO.out hlt
      have h0 : (0 : Int) ≤ (k : Int) := by omega
      have h1 : (k : Int) < (ns.length : Int) := by omega
      have NX := Seg.hid (all_next inN ns k hlt HG.out)
      have BX := Seg.hid (all_bad inN ns k hlt)
      generalize ns.getD k default = nk at *
      have CB : ∀ b, inN nk = b → Hid (∀ wx, Calls Try.prog 125 #[.int .i64 nk] wx fun e w' => e = .returned (.bool b) ∧ wx = w') := fun b hb => by subst hb; exact CQ.out nk
      cases hy : inN nk with
      | true =>
        have NY : Hid ((ns.take (k + 1)).all inN = true) := NX.out hy
        have CC := CB true hy
        clear hy NX BX CB
        go_wp2_with (go_at_call 125; refine (CC.out _).mono ?_; rintro e w5 ⟨rfl, rfl⟩)
        go_round
        case rel => exact ⟨k + 1, by omega, by go_num, NY.out⟩
        case measure => simp [intOf]; omega
      | false =>
        have NY : Hid (R = false) := by show _ = _; rw [← HR.out]; exact BX.out hy
        have CC := CB false hy
        clear hy NX BX CB
        go_wp2_with (go_at_call 125; refine (CC.out _).mono ?_; rintro e w5 ⟨rfl, rfl⟩)
        go_ret
        exact ⟨by rw [NY.out]; rfl, rfl⟩
    · have hkl : k = ns.length := by omega
      have RF : Hid (R = true) := by show _ = _; have := HG.out; rw [hkl, List.take_length, HR.out] at this; exact this
      have hx1 : ¬ (k : Int) < (ns.length : Int) := by omega
      clear hkl
      go_wp2
      go_ret
      exact ⟨by rw [RF.out]; rfl, rfl⟩
set_option maxHeartbeats 3200000 in
theorem ok_any (s : Src) (a : Arr) (A A' : Option Addr) (c c' : Nat) (w : World) (S : Nat → Prop) (hv : IntsAt w S (.slice A a.row.length c) a.row) (hS : ∀ g, S g → g < w.heap.size) :
    Calls Try.prog 93 #[.agg (avl a A c), .agg #[.string s.name, .bool s.tab, .slice A' s.cols.length c']] w fun e w' => e = .returned (.bool (arrOk s a)) ∧ Below w.heap.size w w' := by
  have HV := Seg.hid hv
  clear hv
  obtain ⟨R, hR⟩ : ∃ R, arrOk s a = R := ⟨_, rfl⟩
  rw [hR]
  have HR : Hid (((inR 0 a.time 1000000000000 && (!a.gone || s.tab)) && (decide (a.row.length = s.cols.length) && a.row.all inN)) = R) := hR
  clear hR
  go_enter Try.func93, Try.ntmps93
  go_upto_region 1 with fail
  obtain ⟨w1, hw1⟩ : ∃ w1, (w.alloc (.cells #[.int .i64 a.time, .slice A a.row.length c, .bool a.gone] 88 (0, 0))).alloc (.cells #[.string s.name, .bool s.tab, .slice A' s.cols.length c'] 92 (0, 0)) = w1 := ⟨_, rfl⟩
  have T1 : Hid (w1.heap[w.heap.size]? = some (.cells #[.int .i64 a.time, .slice A a.row.length c, .bool a.gone] 88 (0, 0))) := by show _ = _; rw [← hw1]; exact (heap_alloc_old _ _ (by rw [hsz]; omega)).trans (heap_alloc_new _ _)
  have T2 : Hid (w1.heap[w.heap.size + 1]? = some (.cells #[.string s.name, .bool s.tab, .slice A' s.cols.length c'] 92 (0, 0))) := by
    show _ = _
    have := heap_alloc_new (w.alloc (.cells #[.int .i64 a.time, .slice A a.row.length c, .bool a.gone] 88 (0, 0))) (.cells #[.string s.name, .bool s.tab, .slice A' s.cols.length c'] 92 (0, 0))
    rw [hsz] at this
    rw [← hw1]
    exact this
  have B1 : Hid (Below w.heap.size w w1) := by show Below _ _ _; rw [← hw1]; exact below2 _ _ _
  try rw [hw1]
  clear hw1
  obtain ⟨q0, q1, q2⟩ := arrB T1.out
  obtain ⟨s0, s1, s2⟩ := arrB T2.out
  have CR : Hid (∀ b, a.row.all inN = b → Calls Try.prog 111 #[.slice A a.row.length c] w1 fun e w' => e = .returned (.bool b) ∧ w1 = w') := fun b hb => by
    subst hb
    exact row_any _ _ w1 S (LAt.below keepsI HV.out B1.out hS) (fun y hy => Nat.lt_of_lt_of_le (hS y hy) B1.out.size)
  obtain ⟨bt, hbt⟩ : ∃ b, inR 0 a.time 1000000000000 = b := ⟨_, rfl⟩
  rw [hbt] at HR
  have CT := Seg.hid (InB.within_b a.time 0 1000000000000 bt hbt)
  clear hbt
  obtain ⟨tm, htm⟩ : ∃ t, a.time = t := ⟨_, rfl⟩
  rw [htm] at q0 CT
  obtain ⟨gn, hgn⟩ : ∃ t, a.gone = t := ⟨_, rfl⟩
  rw [hgn] at q2 HR
  obtain ⟨tb, htb⟩ : ∃ t, s.tab = t := ⟨_, rfl⟩
  rw [htb] at s1 HR
  clear htm hgn htb
  cases bt with
  | false =>
    have RF : Hid (R = false) := by show _ = _; rw [← HR.out]; rfl
    clear HR
    go_wp2_with (go_at_call 82; refine (CT.out _).mono ?_; rintro e w5 ⟨rfl, rfl⟩)
    go_ret
    exact ⟨by rw [RF.out]; rfl, B1.out⟩
  | true =>
    cases gn with
    | false =>
      by_cases hl : a.row.length = s.cols.length
      · have HL := Seg.hid hl
        obtain ⟨b, hb⟩ : ∃ b, a.row.all inN = b := ⟨_, rfl⟩
        have CB := Seg.hid (CR.out b hb)
        have hlb : ((a.row.length : Int) == (s.cols.length : Int)) = true := by simp; omega
        clear hl
        have RF : Hid (R = b) := by show _ = _; rw [← HR.out, hb, decide_eq_true HL.out]; simp
        clear HR CR hb
        go_wp2_with (first | (go_at_call 82; refine (CT.out _).mono ?_; rintro e w5 ⟨rfl, rfl⟩) | (go_at_call 111; refine (CB.out).mono ?_; rintro e w5 ⟨rfl, rfl⟩))
        go_ret
        exact ⟨by rw [RF.out]; rfl, B1.out⟩
      · have hlb : ((a.row.length : Int) == (s.cols.length : Int)) = false := by simp; omega
        have RF : Hid (R = false) := by show _ = _; rw [← HR.out]; rw [decide_eq_false hl]; simp
        clear HR
        go_wp2_with (go_at_call 82; refine (CT.out _).mono ?_; rintro e w5 ⟨rfl, rfl⟩)
        go_ret
        exact ⟨by rw [RF.out]; rfl, B1.out⟩
    | true =>
      cases tb with
      | false =>
        have RF : Hid (R = false) := by show _ = _; rw [← HR.out]; rfl
        clear HR
        go_wp2_with (go_at_call 82; refine (CT.out _).mono ?_; rintro e w5 ⟨rfl, rfl⟩)
        go_ret
        exact ⟨by rw [RF.out]; rfl, B1.out⟩
      | true =>
        by_cases hl : a.row.length = s.cols.length
        · have HL := Seg.hid hl
          obtain ⟨b, hb⟩ : ∃ b, a.row.all inN = b := ⟨_, rfl⟩
          have CB := Seg.hid (CR.out b hb)
          have hlb : ((a.row.length : Int) == (s.cols.length : Int)) = true := by simp; omega
          clear hl
          have RF : Hid (R = b) := by show _ = _; rw [← HR.out, hb, decide_eq_true HL.out]; simp
          clear HR CR hb
          go_wp2_with (first | (go_at_call 82; refine (CT.out _).mono ?_; rintro e w5 ⟨rfl, rfl⟩) | (go_at_call 111; refine (CB.out).mono ?_; rintro e w5 ⟨rfl, rfl⟩))
          go_ret
          exact ⟨by rw [RF.out]; rfl, B1.out⟩
        · have hlb : ((a.row.length : Int) == (s.cols.length : Int)) = false := by simp; omega
          have RF : Hid (R = false) := by show _ = _; rw [← HR.out]; rw [decide_eq_false hl]; simp
          clear HR
          go_wp2_with (go_at_call 82; refine (CT.out _).mono ?_; rintro e w5 ⟨rfl, rfl⟩)
          go_ret
          exact ⟨by rw [RF.out]; rfl, B1.out⟩
set_option maxHeartbeats 12800000 in
theorem impl_any (v z : Value) (l : List Src) (us : List (List Arr)) (w : World) (S : Nat → Prop) (hv : LAt 3 ESrc w S v l) (hz : LAt 1 EArr2 w S z us) (hS : ∀ g, S g → g < w.heap.size) (hf : szL szSrc l ≤ 1048576) (hfz : szL szArr2 us ≤ 1048576) :
    Calls Try.prog 59 #[v, z] w fun e w' => e = .returned (.bool (inpOk l us)) ∧ Below w.heap.size w w' := by
  have HV := Seg.hid hv
  obtain ⟨A, c, g, o, F, rfl, OP, hn⟩ := opn hv hS
  have HO := Seg.hid OP
  obtain ⟨A2, c2, g2, o2, F2, rfl, OP2, hn2⟩ := opn hz hS
  have HO2 := Seg.hid OP2
  clear hv hz OP OP2
  have HZ := Seg.hid hf
  have HZ2 := Seg.hid (cnt_max hfz)
  clear hf hfz
  obtain ⟨R, hR⟩ : ∃ R, inpOk l us = R := ⟨_, rfl⟩
  rw [hR]
  have HR : Hid ((srcsOk l && (decide (us.length = l.length) && (decide (cnt us ≤ 300) && rowsK l us us.length))) = R) := hR
  clear hR
  have CS : ∀ b, srcsOk l = b → Hid (Calls Try.prog 92 #[.slice A l.length c] w fun e w' => e = .returned (.bool b) ∧ Below w.heap.size w w') := fun b hb => by subst hb; exact QsI.impl_any _ l w S HV.out hS HZ.out
  go_enter Try.func59, Try.ntmps59
  cases hso : srcsOk l with
  | false =>
    have CC := CS false hso
    have RF : Hid (R = false) := by show _ = _; rw [← HR.out, hso]; rfl
    clear CS hso
    go_wp2_with (go_at_call 92; refine CC.out.mono ?_; rintro e w1 ⟨rfl, b1⟩; have B1 := Seg.hid b1; clear b1)
    go_ret
    exact ⟨by rw [RF.out]; rfl, B1.out⟩
  | true =>
  have CC := CS true hso
  have R1 : Hid (R = (decide (us.length = l.length) && (decide (cnt us ≤ 300) && rowsK l us us.length))) := by show _ = _; rw [← HR.out, hso]; rfl
  clear CS hso HR
  by_cases hle : us.length = l.length
  case neg =>
    have RF : Hid (R = false) := by show _ = _; rw [R1.out, decide_eq_false hle]; rfl
    have hq : ((us.length : Int) == (l.length : Int)) = false := by simp; omega
    go_wp2_with (go_at_call 92; refine CC.out.mono ?_; rintro e w1 ⟨rfl, b1⟩; have B1 := Seg.hid b1; clear b1)
    go_ret
    exact ⟨by rw [RF.out]; rfl, B1.out⟩
  case pos =>
  have R2 : Hid (R = (decide (cnt us ≤ 300) && rowsK l us us.length)) := by show _ = _; rw [R1.out, decide_eq_true hle]; rfl
  have hle2 : (us.length : Int) = (l.length : Int) := by omega
  clear R1
  go_wp2_with (go_at_call 92; refine CC.out.mono ?_; rintro e w1 ⟨rfl, b1⟩; have B1 := Seg.hid b1; clear b1)
  clear CC
  go_loopw [5, 22] (fun n i wr => ∃ k : Nat, k ≤ us.length ∧ i = .int .i64 k ∧ n = .int .i64 (cnt (us.take k)) ∧ Hid (cnt (us.take k) ≤ 300 ∧ rowsK l us k = true ∧ Below w.heap.size w wr)) (fun _ i _ => us.length - (intOf i).toNat)
  case atStart => exact ⟨0, Nat.zero_le _, rfl, by simp [cnt], by simp [cnt], rfl, B1.out⟩
  case round =>
    clear B1
    obtain ⟨wo, rfl⟩ : ∃ wo, wo = wr := ⟨_, rfl⟩
    obtain ⟨k, hk, rfl, rfl, HG⟩ := hrel
    have BW := Seg.hid HG.out.2.2
    have GC := HG.out.1
    have GR := Seg.hid HG.out.2.1
    clear HG
    by_cases hlt : k < us.length
    · obtain ⟨ea, hc2, hgw2⟩ := HO2.out.addr.resolve_left (by omega)
      subst ea
      obtain ⟨ea, hc, hgw⟩ := HO.out.addr.resolve_left (by omega)
      subst ea
      obtain ⟨A3, c3, hl3, d3⟩ := arrs_at HO2.out hS BW.out hlt
      have CN := cnt_next hlt
      have CL := cnt_le us (k + 1)
      have CM := HZ2.out
      have RX : Hid ((us.getD k default).all (arrOk (l.getD k default)) = true → rowsK l us (k + 1) = true) := fun h => rows_next GR.out h
      have RY : Hid ((us.getD k default).all (arrOk (l.getD k default)) = false → rowsK l us us.length = false) := fun h => rows_bad hlt h
      have hSr : ∀ y, S y → y < wo.heap.size := fun y hy => Nat.lt_of_lt_of_le (hS y hy) BW.out.size
      obtain ⟨As, cs, hls, e0, e1, e2⟩ := src_at HO.out hS BW.out (k := k) (by omega)
      clear hls
      have h0 : (0 : Int) ≤ (k : Int) := by omega
      have h1 : (k : Int) < (us.length : Int) := by omega
      have h2 : (k : Int) < (l.length : Int) := by omega
      generalize us.getD k default = ak at *
      generalize l.getD k default = s at *
      obtain ⟨n, hnn⟩ : ∃ n, cnt (us.take k) = n := ⟨_, rfl⟩
      rw [hnn] at CN GC ⊢
      obtain ⟨n', hnn'⟩ : ∃ n, cnt (us.take (k + 1)) = n := ⟨_, rfl⟩
      rw [hnn'] at CN CL
      have HN' := Seg.hid hnn'
      have wz : IntKind.i64.wrap ((n : Int) + (ak.length : Int)) = (n' : Int) := by rw [IntKind.wrap_i64] <;> omega
      clear hnn hnn'
      by_cases h3 : 300 < n'
      · have RF : Hid (R = false) := by show _ = _; rw [R2.out, decide_eq_false (by omega)]; rfl
        have h3i : (300 : Int) < (n' : Int) := by omega
        go_wp2
        go_ret
        exact ⟨by rw [RF.out]; rfl, BW.out⟩
      have h3i : ¬ (300 : Int) < (n' : Int) := by omega
      obtain ⟨A4, c4, g4, o4, F4, e4, OP4, hn4⟩ := opn hl3 hSr
      simp only [Value.slice.injEq, true_and] at e4
      obtain ⟨rfl, rfl⟩ := e4
      have HO4 := Seg.hid OP4
      clear hl3 OP4
      go_wp2
      go_loopw [35] (fun j wr => ∃ q : Nat, q ≤ ak.length ∧ j = .int .i64 q ∧ Hid ((ak.take q).all (arrOk s) = true ∧ Below wo.heap.size wo wr)) (fun j _ => ak.length - (intOf j).toNat)
      case atStart => exact ⟨0, Nat.zero_le _, rfl, by simp, Below.refl _ _⟩
      case round =>
        obtain ⟨q, hq, rfl, HQ⟩ := hrel
        have BQ := Seg.hid HQ.out.2
        have GQ := Seg.hid HQ.out.1
        clear HQ
        by_cases hqt : q < ak.length
        · obtain ⟨ea, hc4, hgw4⟩ := HO4.out.addr.resolve_left (by omega)
          subst ea
          obtain ⟨A', c', hcl, d0, d1, d2⟩ := arr_at HO4.out hSr BQ.out hqt
          have NX := Seg.hid (all_next (arrOk s) ak q hqt GQ.out)
          have BX := Seg.hid (all_bad (arrOk s) ak q hqt)
          have hq0 : (0 : Int) ≤ (q : Int) := by omega
          have hq1 : (q : Int) < (ak.length : Int) := by omega
          generalize ak.getD q default = a at *
          have HC := Seg.hid hcl
          have s0 := (BQ.out.cell (p := ⟨g, o + k * 3, none⟩) (Nat.lt_of_lt_of_le hgw BW.out.size)).trans e0
          have s1 := (BQ.out.cell (p := ⟨g, o + k * 3 + 1, none⟩) (Nat.lt_of_lt_of_le hgw BW.out.size)).trans e1
          have s2 := (BQ.out.cell (p := ⟨g, o + k * 3 + 2, none⟩) (Nat.lt_of_lt_of_le hgw BW.out.size)).trans e2
          have hgq : g < wr.heap.size := Nat.lt_of_lt_of_le hgw (Nat.le_trans BW.out.size BQ.out.size)
          have hSq : ∀ y, S y → y < wr.heap.size := fun y hy => Nat.lt_of_lt_of_le (hSr y hy) BQ.out.size
          clear hcl
          obtain ⟨w5, hw5⟩ : ∃ w5, wr.alloc (.cells #[.int .i64 a.time, .slice A' a.row.length c', .bool a.gone] 88 (0, 0)) = w5 := ⟨_, rfl⟩
          have T5 : Hid (w5.heap[wr.heap.size]? = some (.cells #[.int .i64 a.time, .slice A' a.row.length c', .bool a.gone] 88 (0, 0))) := by show _ = _; rw [← hw5]; exact heap_alloc_new _ _
          have N5 : Hid (Below wr.heap.size wr w5) := by show Below _ _ _; rw [← hw5]; exact below1 _ _
          go_upto_region 13 with fail
          try rw [hw5]
          clear hw5 d0 d1 d2
          obtain ⟨q0, q1, q2⟩ := arrB T5.out
          have p0 := (N5.out.cell (p := ⟨g, o + k * 3, none⟩) hgq).trans s0
          have p1 := (N5.out.cell (p := ⟨g, o + k * 3 + 1, none⟩) hgq).trans s1
          have p2 := (N5.out.cell (p := ⟨g, o + k * 3 + 2, none⟩) hgq).trans s2
          have hl5 : wr.heap.size < w5.heap.size := (Array.getElem?_eq_some_iff.1 T5.out).1
          have hg5 : g < w5.heap.size := Nat.lt_of_lt_of_le hgq N5.out.size
          have CT : ∀ b, arrOk s a = b → Hid (Calls Try.prog 93 #[.agg (avl a A' c'), .agg #[.string s.name, .bool s.tab, .slice As s.cols.length cs]] w5.drew fun e w' => e = .returned (.bool b) ∧ Below w5.drew.heap.size w5.drew w') := fun b hb => by
            subst hb
            exact ok_any s a A' As c' cs w5.drew S (LAt.below keepsI HC.out N5.out.drew hSq) (fun y hy => Nat.lt_of_lt_of_le (hSq y hy) N5.out.size)
          clear e0 e1 e2 s0 s1 s2
          cases hb : arrOk s a with
          | true =>
            have CB := CT true hb
            have NY := Seg.hid (NX.out hb)
            clear CT hb NX BX
            go_region_held3 (fun w' => w'.cell? ⟨wr.heap.size, 0, none⟩ = some (.int .i64 a.time) ∧ w'.cell? ⟨wr.heap.size, 1, none⟩ = some (.slice A' a.row.length c') ∧ w'.cell? ⟨wr.heap.size, 2, none⟩ = some (.bool a.gone) ∧ w'.cell? ⟨g, o + k * 3, none⟩ = some (.string s.name) ∧ w'.cell? ⟨g, o + k * 3 + 1, none⟩ = some (.bool s.tab) ∧ w'.cell? ⟨g, o + k * 3 + 2, none⟩ = some (.slice As s.cols.length cs)) (first | exact ⟨q0, q1, q2, p0, p1, p2⟩ | exact ⟨t0, t1, t2, t3, t4, t5⟩ | go_keep) (first | (go_at_call 93; refine (CB.out).mono ?_; rintro e w6 ⟨rfl, b6⟩; have M6 : Hid (Below w5.heap.size w5 w6) := ⟨b6.os, b6.tape, b6.output, b6.size, b6.block⟩; have N6 := Seg.hid (chainD N5.out b6); clear b6; have t0 := (M6.out.cell (p := ⟨wr.heap.size, 0, none⟩) hl5).trans q0; have t1 := (M6.out.cell (p := ⟨wr.heap.size, 1, none⟩) hl5).trans q1; have t2 := (M6.out.cell (p := ⟨wr.heap.size, 2, none⟩) hl5).trans q2; have t3 := (M6.out.cell (p := ⟨g, o + k * 3, none⟩) hg5).trans p0; have t4 := (M6.out.cell (p := ⟨g, o + k * 3 + 1, none⟩) hg5).trans p1; have t5 := (M6.out.cell (p := ⟨g, o + k * 3 + 2, none⟩) hg5).trans p2))
            all_goals
              go_wp2
              go_roundw
              case rel => exact ⟨q + 1, by omega, by go_num, NY.out, chain BQ.out N6.out⟩
              case measure => simp [intOf]; omega
          | false =>
            have CB := CT false hb
            have RF : Hid (R = false) := by show _ = _; rw [R2.out, RY.out (BX.out hb)]; simp
            clear CT hb NX BX
            go_region_held3 (fun w' => w'.cell? ⟨wr.heap.size, 0, none⟩ = some (.int .i64 a.time) ∧ w'.cell? ⟨wr.heap.size, 1, none⟩ = some (.slice A' a.row.length c') ∧ w'.cell? ⟨wr.heap.size, 2, none⟩ = some (.bool a.gone) ∧ w'.cell? ⟨g, o + k * 3, none⟩ = some (.string s.name) ∧ w'.cell? ⟨g, o + k * 3 + 1, none⟩ = some (.bool s.tab) ∧ w'.cell? ⟨g, o + k * 3 + 2, none⟩ = some (.slice As s.cols.length cs)) (first | exact ⟨q0, q1, q2, p0, p1, p2⟩ | exact ⟨t0, t1, t2, t3, t4, t5⟩ | go_keep) (first | (go_at_call 93; refine (CB.out).mono ?_; rintro e w6 ⟨rfl, b6⟩; have M6 : Hid (Below w5.heap.size w5 w6) := ⟨b6.os, b6.tape, b6.output, b6.size, b6.block⟩; have N6 := Seg.hid (chainD N5.out b6); clear b6; have t0 := (M6.out.cell (p := ⟨wr.heap.size, 0, none⟩) hl5).trans q0; have t1 := (M6.out.cell (p := ⟨wr.heap.size, 1, none⟩) hl5).trans q1; have t2 := (M6.out.cell (p := ⟨wr.heap.size, 2, none⟩) hl5).trans q2; have t3 := (M6.out.cell (p := ⟨g, o + k * 3, none⟩) hg5).trans p0; have t4 := (M6.out.cell (p := ⟨g, o + k * 3 + 1, none⟩) hg5).trans p1; have t5 := (M6.out.cell (p := ⟨g, o + k * 3 + 2, none⟩) hg5).trans p2))
            all_goals
              go_wp2
              go_ret
              exact ⟨by rw [RF.out]; rfl, chain BW.out (chain BQ.out N6.out)⟩
        · have hql : q = ak.length := by omega
          have RN := Seg.hid (RX.out (by have := GQ.out; rw [hql, List.take_length] at this; exact this))
          have hx1 : ¬ (q : Int) < (ak.length : Int) := by omega
          clear hql
          go_wp2
          go_roundw
          case rel => exact ⟨k + 1, by omega, by go_num, by rw [HN'.out]; exact (congrArg (Value.int .i64) (by omega)), by rw [HN'.out]; omega, RN.out, chain BW.out BQ.out⟩
          case measure => simp [intOf]; omega
    · have hkl : k = us.length := by omega
      have hx1 : ¬ (k : Int) < (us.length : Int) := by omega
      have RF : Hid (R = true) := by
        show _ = _
        have h4 := GR.out
        have h5 := GC
        rw [hkl] at h4
        rw [hkl, List.take_length] at h5
        rw [R2.out, h4, decide_eq_true h5]
        rfl
      clear hkl
      go_wp2
      go_ret
      exact ⟨by rw [RF.out]; rfl, BW.out⟩
end Go.Proofs.Ytkibaimemomjpaa.IoI
