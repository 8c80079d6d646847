/- What the frame tells of a list that came in, of any element; The program's colsOk and SourcesOk. -/
import Derived.ProofKit
import Derived.Deep.SlicePairs
import Derived.Deep.Cut
import Derived.Test.YtkibaimemomjpaaJQ03
import Derived.Test.YtkibaimemomjpaaJQ10
import Derived.Test.YtkibaimemomjpaaJQ15
namespace Go.Proofs.Ytkibaimemomjpaa.Ls
set_option maxRecDepth 8000
open Go.ChangeShapes Go.WideShapes Go.ChangeAt Go.RowKit Go.Deep
open Recs
set_option linter.unusedVariables false
/-- All blocks of a world. -/
def All (W : World) (g : Nat) : Prop := g < W.heap.size
section
variable {H : Type} {enc : TypeId × Value → H} {W : World} {sp : Nat → Bool} {held : Bool}
theorem cellsI : Try.prog.cellsOf 3 = 1 := by kernel_rfl
theorem open_list {T : Type} [Inhabited T] {E : Elt T} {Fine : T → Prop} {tS tE nf : Nat} {fuel : Nat} {cs : List Value} {x : DataW H × List MemPlace} (hK : Keeps nf E) (hnf : 0 < nf) (hU : Try.prog.underlying tS = some (.slice tE)) (hN : Try.prog.cellsOf tE = nf)
    (hel : ∀ (fuel : Nat) (cs : List Value) (x : DataW H × List MemPlace), DataW.trod enc Try.prog W 0 sp held fuel tE cs = some x → ∃ (f : Nat → Value) (u : T), (∀ q, q < nf → cs[q]? = some (f q)) ∧ E W (All W) f u ∧ Fine u)
    (h : DataW.trod enc Try.prog W 0 sp held fuel tS cs = some x) :
    ∃ (v : Value) (us : List T), cs = [v] ∧ LAt nf E W (All W) v us ∧ FineL Fine us := by
  rcases open_slice hU h with ⟨rfl, _⟩ | ⟨a, len, cap, m, n, D, Pl, rfl, _, hl, hm, hmm, _, hx⟩
  · exact ⟨_, [], rfl, LAt.nil _ _ _ _, by simp, fun i hi => by simp at hi⟩
  have hlm : len ≤ m := by rw [hmm]; split <;> omega
  rw [hN] at hx
  obtain ⟨f, hf⟩ := choose_lt (α := (Nat → Value) × T) (n := len) (p := fun i q => (∃ cs', W.cells? 0 (a.add (i * nf)) nf = some cs' ∧ ∀ j, j < nf → cs'[j]? = some (q.1 j)) ∧ E W (All W) q.1 q.2 ∧ Fine q.2) (fun i hi => by
    obtain ⟨cs', h1, h2⟩ := hx i (by omega)
    obtain ⟨f, u, hc, hh, hfi⟩ := hel _ _ _ h2
    exact ⟨(f, u), ⟨cs', h1, hc⟩, hh, hfi⟩)
  have hlen : ((List.range len).map fun i => (f i).2).length = len := by simp
  have hget : ∀ i, i < len → ((List.range len).map fun i => (f i).2).getD i default = (f i).2 := fun i hi => by simp [hi]
  refine ⟨_, (List.range len).map fun i => (f i).2, rfl, ⟨?_, some a, cap, by rw [hlen], ?_⟩, ?_, ?_⟩
  · rw [hlen]; unfold maxLen at hm; omega
  · by_cases hz : len = 0
    · left; rw [hlen]; exact hz
    · right
      obtain ⟨b, off, spot⟩ := a
      have cell : ∀ i, i < len → ∀ j, j < nf → W.cell? (((⟨b, off, spot⟩ : Addr).add (i * nf)).add j) = some ((f i).1 j) := fun i hi j hj => by
        obtain ⟨⟨cs', h1, h2⟩, _⟩ := hf i hi
        rw [(World.cells?_some h1).2.2 j hj, h2 j hj]
      have hc := cell 0 (by omega) 0 hnf
      have hspot : spot = none := by simpa [Addr.add] using World.cell?_spot hc
      subst hspot
      have hlt : b < W.heap.size := by have := World.block_lt_of_cell? W _ hc; simpa [Addr.add] using this
      refine ⟨b, off, fun i j => (f i).1 j, rfl, hlt, by rw [hlen]; exact hl, ?_, ?_⟩
      · rw [hlen]
        intro i hi j hj
        have := cell i hi j hj
        rw [add_add, Addr.add_mid, ← Nat.add_assoc] at this
        exact this
      · rw [hlen]
        intro i hi
        rw [hget i hi]
        exact (hf i hi).2.1
  · rw [hlen]; omega
  · rw [hlen]
    intro i hi
    rw [hget i hi]
    exact (hf i hi).2.2
end
end Go.Proofs.Ytkibaimemomjpaa.Ls
namespace Go.Proofs.Ytkibaimemomjpaa.QsI
set_option maxRecDepth 8000
open Go.RowKit
open Ls Lp QyP QsP HsP HsM
open Recs (hsz below1 below2 chain)
set_option linter.unusedVariables false
def cOk (us : List ByteArray) : Bool := decide (us.length ≤ 12) && (us.all Nm.nameOk && diff us)
theorem src_eq (s : Src) : srcOk s = (Nm.nameOk s.name && (!decide (s.cols.length = 0) && cOk s.cols)) := by
  rw [srcOk, cOk, Bool.eq_iff_iff]
  simp only [inR, Bool.and_eq_true, decide_eq_true_eq, Bool.not_eq_true', decide_eq_false_iff_not]
  constructor
  · rintro ⟨a, ⟨b, c⟩, d, e⟩
    exact ⟨a, by omega, by omega, e, d⟩
  · rintro ⟨a, b, c, e, d⟩
    exact ⟨a, ⟨by omega, by omega⟩, d, e⟩
set_option maxHeartbeats 1600000 in
theorem cols_any (v : Value) (us : List ByteArray) (w : World) (S : Nat → Prop) (hv : LAt 1 EStr w S v us) (hS : ∀ g, S g → g < w.heap.size) (hz : szL ByteArray.size us ≤ 1048576) :
    Calls Try.prog 78 #[v] w fun e w' => e = .returned (.bool (cOk us)) ∧ Below w.heap.size w w' := by
  have HV := Seg.hid hv
  obtain ⟨A, c, g, o, F, rfl, OP, hn⟩ := opn hv hS
  have HO := Seg.hid OP
  have HZ := Seg.hid hz
  clear hv OP hz
  obtain ⟨R, hR⟩ : ∃ R, cOk us = R := ⟨_, rfl⟩
  rw [hR]
  have HR := Seg.hid hR
  clear hR
  have hmm := @run_makeMap Try.prog
  go_enter Try.func78, Try.ntmps78
  by_cases h12 : 12 < us.length
  · have RF : Hid (R = false) := by show _ = _; rw [← HR.out, cOk, decide_eq_false (by omega)]; rfl
    have q12 : (12 : Int) < (us.length : Int) := by omega
    go_wp2
    go_ret
    exact ⟨by rw [RF.out]; rfl, Below.refl _ _⟩
  have R1 : Hid (R = (us.all Nm.nameOk && diff us)) := by show _ = _; rw [← HR.out, cOk, decide_eq_true (by omega)]; rfl
  have q12 : ¬ (12 : Int) < (us.length : Int) := by omega
  have q13 : ¬ 12 < us.length := h12
  clear HR
  go_wp2
  go_loop [10] (fun i => ∃ k : Nat, k ≤ us.length ∧ i = .int .i64 k ∧ Hid ((us.take k).all Nm.nameOk = true)) (fun i => us.length - (intOf i).toNat)
  case atStart => exact ⟨0, Nat.zero_le _, rfl, by show _ = _; simp⟩
  case round =>
    obtain ⟨k, hk, rfl, HG⟩ := hrel
    by_cases hlt : k < us.length
    · obtain ⟨ea, hc, hgw⟩ := HO.out.addr.resolve_left (by omega)
      subst ea
      have d0 := strs_cell HO.out rfl hlt
      have h0 : (0 : Int) ≤ (k : Int) := by omega
      have h1 : (k : Int) < (us.length : Int) := by omega
      have TZ : Hid ((us.getD k default).size ≤ maxLen) := by show _ ≤ _; have := szL_one ByteArray.size HZ.out hlt; unfold maxLen; omega
      have NX := Seg.hid (all_next Nm.nameOk us k hlt HG.out)
      have BX := Seg.hid (all_bad Nm.nameOk us k hlt)
      generalize us.getD k default = nk at *
      cases hy : Nm.nameOk nk with
      | true =>
        have NY : Hid ((us.take (k + 1)).all Nm.nameOk = true) := NX.out hy
        have HY := Seg.hid hy
        clear hy NX BX
        go_wp2_with (go_at_call 76; refine (Nm.impl_q _ _ HY.out _ TZ.out).mono ?_; rintro e w5 ⟨rfl, rfl⟩)
        go_round
        case rel => exact ⟨k + 1, by omega, by go_num, NY.out⟩
        case measure => simp [intOf]; omega
      | false =>
        have NY : Hid (R = false) := by show _ = _; rw [R1.out, BX.out hy]; rfl
        have HY := Seg.hid hy
        clear hy NX BX
        go_wp2_with (go_at_call 76; refine (Nm.impl_q _ _ HY.out _ TZ.out).mono ?_; rintro e w5 ⟨rfl, rfl⟩)
        go_ret
        exact ⟨by rw [NY.out]; rfl, Below.refl _ _⟩
    · obtain rfl : k = us.length := by omega
      have R2 : Hid (R = dst [] us) := by
        show _ = _
        have := HG.out
        rw [List.take_length] at this
        rw [R1.out, this, dst_diff]; rfl
      go_wp2_with (go_at_call 102; refine (add_any w.heap.size 0 w.heap.size _ us [] _ S (Set.made w) (Nat.le_refl _) (LAt.below keepsStr HV.out (below1 w _) hS) (fun g hg => by rw [hsz]; have := hS g hg; omega) (fun g hg => by have := hS g hg; omega) (fun k hk => szL_one ByteArray.size HZ.out hk) (by omega)).mono ?_; rintro e w5 ⟨rfl, b5, -⟩; have B5 := Seg.hid ((below1 w _).trans b5); clear b5)
      go_ret
      exact ⟨by rw [R2.out]; rfl, B5.out⟩
/-- One text in a row of its own. -/
theorem Row.lat1 (w : World) (n : ByteArray) : LAt 1 EStr (w.alloc (.cells #[.string n] 9 (0, 0))) (fun y => y = w.heap.size) (.slice (some ⟨w.heap.size, 0, none⟩) 1 1) [n] := by
  refine ⟨by simp, _, 1, rfl, .inr ⟨w.heap.size, 0, fun _ _ => .string n, rfl, rfl, by simp, fun i hi j hj => ?_, fun i hi => ?_⟩⟩
  · obtain rfl : i = 0 := by simpa using hi
    obtain rfl : j = 0 := by omega
    exact cell_of_row (w.alloc (.cells #[.string n] 9 (0, 0))) _ 0 _ _ (0, 0) (heap_alloc_new _ _)
  · obtain rfl : i = 0 := by simpa using hi
    rfl
theorem sz_only {n : ByteArray} (h : n.size ≤ 1048576) {j : Nat} (hj : j < [n].length) : ([n].getD j default).size ≤ 1048576 := by
  obtain rfl : j = 0 := by simpa using hj
  exact h
theorem nms_get {l : List Src} {k : Nat} (h : k < l.length) : (nmsS l).getD k default = (l.getD k default).name := by simp [nmsS, h]
structure Ss (w wr : World) (l : List Src) (k : Nat) : Prop where
  le : k ≤ l.length
  set : Set wr w.heap.size k ((nmsS l).take k)
  dst : dst ((nmsS l).take k) ((nmsS l).drop k) = diff (nmsS l)
  all : (l.take k).all srcOk = true
  bel : Below w.heap.size w wr
set_option maxHeartbeats 6400000 in
theorem impl_any (v : Value) (l : List Src) (w : World) (S : Nat → Prop) (hv : LAt 3 ESrc w S v l) (hS : ∀ g, S g → g < w.heap.size) (hf : szL szSrc l ≤ 1048576) : Calls Try.prog 92 #[v] w fun e w' => e = .returned (.bool (srcsOk l)) ∧ Below w.heap.size w w' := by
  obtain ⟨A, c, g, o, F, rfl, OP, hn⟩ := opn hv hS
  have HO := Seg.hid OP
  have HZ := Seg.hid hf
  clear hv OP hf
  obtain ⟨R, hR⟩ : ∃ R, srcsOk l = R := ⟨_, rfl⟩
  rw [hR]
  have HR := Seg.hid hR
  clear hR
  have hmm := @run_makeMap Try.prog
  go_enter Try.func92, Try.ntmps92
  by_cases h10 : 10 < l.length
  · have RF : Hid (R = false) := by show _ = _; rw [← HR.out, srcsOk, decide_eq_false (by omega)]; rfl
    have q10 : (10 : Int) < (l.length : Int) := by omega
    go_wp2
    go_ret
    exact ⟨by rw [RF.out]; rfl, Below.refl _ _⟩
  have R1 : Hid (R = (l.all srcOk && diff (nmsS l))) := by show _ = _; rw [← HR.out, srcsOk, decide_eq_true (by omega)]; rfl
  have q10 : ¬ (10 : Int) < (l.length : Int) := by omega
  have q11 : ¬ 10 < l.length := h10
  clear HR
  go_upto_region 4 with fail
  obtain ⟨w1, hw1⟩ : ∃ w1, w.alloc (.map #[] 0) = w1 := ⟨_, rfl⟩
  have B1 : Hid (Below w.heap.size w w1) := by show Below _ _ _; rw [← hw1]; exact below1 _ _
  have M1 : Hid (Set w1 w.heap.size 0 []) := by show Set _ _ _ _; rw [← hw1]; exact Set.made w
  try rw [hw1]
  clear hw1 hmm
  go_wp2
  go_loopw [12] (fun i wr => ∃ k : Nat, i = .int .i64 k ∧ Ss w wr l k) (fun i _ => l.length - (intOf i).toNat)
  case atStart => exact ⟨0, rfl, Nat.zero_le _, by simpa using M1.out, by simpa using dst_diff (nmsS l), by simp, B1.out⟩
  case round =>
    clear B1 M1
    obtain ⟨k, rfl, SS⟩ := hrel
    have hk := SS.le
    have BW := Seg.hid SS.bel
    have MW := Seg.hid SS.set
    have AW := Seg.hid SS.all
    have DW := Seg.hid SS.dst
    clear SS
    have hbm : w.heap.size < wr.heap.size := MW.out.lt
    by_cases hlt : k < l.length
    · obtain ⟨ea, hc, hgw⟩ := HO.out.addr.resolve_left (by omega)
      subst ea
      obtain ⟨A', c', hcl, d0, d1, d2⟩ := src_at HO.out hS BW.out hlt
      have h0 : (0 : Int) ≤ (k : Int) := by omega
      have h1 : (k : Int) < (l.length : Int) := by omega
      have SU : Hid (szSrc (l.getD k default) ≤ 1048576) := szL_one szSrc HZ.out hlt
      have NX : Hid (srcOk (l.getD k default) = true → (l.take (k + 1)).all srcOk = true) := all_next srcOk l k hlt AW.out
      have BX : Hid (srcOk (l.getD k default) = false → l.all srcOk = false) := all_bad srcOk l k hlt
      have hkn : k < (nmsS l).length := by rw [nmsS_len]; exact hlt
      have DN : Hid (diff (nmsS l) = (dst ((nmsS l).take k) [(l.getD k default).name] && dst ((nmsS l).take (k + 1)) ((nmsS l).drop (k + 1)))) := by
        show _ = _
        have := dst_step hkn []
        simp only [List.nil_append] at this
        rw [← DW.out, this, dst_one, nms_get hlt]
      have NN : Hid ((nmsS l).take (k + 1) = (nmsS l).take k ++ [(l.getD k default).name]) := by
        show _ = _
        rw [List.take_succ_eq_append_getElem hkn, ← nms_get hlt]
        simp [hkn]
      have HC := Seg.hid hcl
      clear hcl AW DW
      generalize l.getD k default = s at *
      have TN : Hid (s.name.size ≤ maxLen) := by show _ ≤ _; have := SU.out; unfold szSrc at this; unfold maxLen; omega
      have TS : Hid (s.name.size ≤ 1048576) := by show _ ≤ _; have := SU.out; unfold szSrc at this; omega
      have SC : Hid (szL ByteArray.size s.cols ≤ 1048576) := by show _ ≤ _; have := SU.out; unfold szSrc at this; omega
      have hSr : ∀ y, S y → y < wr.heap.size := fun y hy => Nat.lt_of_lt_of_le (hS y hy) BW.out.size
      have CD : Hid (∀ wx, Below wr.heap.size wr wx → Calls Try.prog 78 #[.slice A' s.cols.length c'] wx fun e w' => e = .returned (.bool (cOk s.cols)) ∧ Below wx.heap.size wx w') := fun wx b => cols_any _ _ wx S (LAt.below keepsStr HC.out b hSr) (fun y hy => Nat.lt_of_lt_of_le (hSr y hy) b.size) SC.out
      have SE := Seg.hid (src_eq s)
      obtain ⟨w5, hw5⟩ : ∃ w5, wr.alloc (.cells #[.string s.name, .bool s.tab, .slice A' s.cols.length c'] 92 (0, 0)) = w5 := ⟨_, rfl⟩
      have T5 : Hid (w5.heap[wr.heap.size]? = some (.cells #[.string s.name, .bool s.tab, .slice A' s.cols.length c'] 92 (0, 0))) := by show _ = _; rw [← hw5]; exact heap_alloc_new _ _
      have N5 : Hid (Below wr.heap.size wr w5) := by show Below _ _ _; rw [← hw5]; exact below1 _ _
      go_upto_region 7 with fail
      try rw [hw5]
      clear hw5 d0 d1 d2
      have q0 : w5.cell? ⟨wr.heap.size, 0, none⟩ = some (.string s.name) := cell_of_row w5 _ 0 _ _ (0, 0) T5.out
      have q2 : w5.cell? ⟨wr.heap.size, 2, none⟩ = some (.slice A' s.cols.length c') := cell_of_row w5 _ 2 _ _ (0, 0) T5.out
      cases k1 : Nm.nameOk s.name with
      | false =>
        have RF : Hid (R = false) := by show _ = _; rw [R1.out, BX.out (by rw [SE.out, k1]; rfl)]; rfl
        have HY := Seg.hid k1
        clear k1
        go_wp2_with (go_at_call 76; refine (Nm.impl_q _ _ HY.out _ TN.out).mono ?_; rintro e w6 ⟨rfl, rfl⟩)
        go_ret
        exact ⟨by rw [RF.out]; rfl, chain BW.out N5.out⟩
      | true =>
      have HY := Seg.hid k1
      by_cases k2 : s.cols.length = 0
      · have RF : Hid (R = false) := by show _ = _; rw [R1.out, BX.out (by rw [SE.out, k1, decide_eq_true k2]; rfl)]; rfl
        have e2 : (s.cols.length : Int) = 0 := by omega
        clear k1
        go_wp2_with (first | (go_at_call 76; refine (Nm.impl_q _ _ HY.out _ TN.out).mono ?_; rintro e w6 ⟨rfl, rfl⟩))
        go_ret
        exact ⟨by rw [RF.out]; rfl, chain BW.out N5.out⟩
      have e2 : ¬ (s.cols.length : Int) = 0 := by omega
      cases k3 : cOk s.cols with
      | false =>
        have RF : Hid (R = false) := by show _ = _; rw [R1.out, BX.out (by rw [SE.out, k1, k3, Bool.and_false, Bool.and_false])]; rfl
        rw [k3] at CD
        clear k1 k3
        go_wp2_with (first | (go_at_call 76; refine (Nm.impl_q _ _ HY.out _ TN.out).mono ?_; rintro e w6 ⟨rfl, rfl⟩) | (go_at_call 78; refine (CD.out _ N5.out).mono ?_; rintro e w6 ⟨rfl, b6⟩; have B6 := Seg.hid (chain N5.out b6); clear b6))
        go_ret
        exact ⟨by rw [RF.out]; rfl, chain BW.out B6.out⟩
      | true =>
      have SO : Hid (srcOk s = true) := by show _ = _; rw [SE.out, k1, k3, decide_eq_false k2]; rfl
      rw [k3] at CD
      clear k1 k3
      cases kd : dst ((nmsS l).take k) [s.name] with
      | false =>
        have RF : Hid (R = false) := by show _ = _; rw [R1.out, DN.out, kd, Bool.false_and, Bool.and_false]
        have HD := Seg.hid kd
        clear kd
        go_wp2_with (first | (go_at_call 76; refine (Nm.impl_q _ _ HY.out _ TN.out).mono ?_; rintro e w6 ⟨rfl, rfl⟩) | (go_at_call 78; refine (CD.out _ N5.out).mono ?_; rintro e w6 ⟨rfl, b6⟩; have B6 := Seg.hid (chain N5.out b6); have T6 := Seg.hid ((b6.block _ (Array.getElem?_eq_some_iff.1 T5.out).1).trans T5.out); have q6 : w6.cell? ⟨wr.heap.size, 0, none⟩ = some (.string s.name) := cell_of_row w6 _ 0 _ _ (0, 0) T6.out; clear b6) | (go_at_call 102; refine (add_any w.heap.size k w.heap.size _ [s.name] ((nmsS l).take k) _ (fun y => y = w6.heap.size) (MW.out.keep ((chain B6.out (below1 w6 _)).block _ hbm)) (Nat.le_refl _) (Row.lat1 w6 s.name) (fun y hy => by rw [hsz]; omega) (fun y hy => by have := B6.out.size; omega) (fun j hj => sz_only TS.out hj) (by simp; omega)).mono ?_; rintro e w7 ⟨rfl, b7, h7⟩; rw [HD.out]; have B7 := Seg.hid ((chain BW.out (chain B6.out (below1 w6 _))).trans b7); clear b7 h7))
        go_ret
        exact ⟨by rw [RF.out]; rfl, B7.out⟩
      | true =>
        have HD := Seg.hid kd
        have DX : Hid (dst ((nmsS l).take (k + 1)) ((nmsS l).drop (k + 1)) = diff (nmsS l)) := by show _ = _; rw [DN.out, kd]; rfl
        clear kd
        go_wp2_with (first | (go_at_call 76; refine (Nm.impl_q _ _ HY.out _ TN.out).mono ?_; rintro e w6 ⟨rfl, rfl⟩) | (go_at_call 78; refine (CD.out _ N5.out).mono ?_; rintro e w6 ⟨rfl, b6⟩; have B6 := Seg.hid (chain N5.out b6); have T6 := Seg.hid ((b6.block _ (Array.getElem?_eq_some_iff.1 T5.out).1).trans T5.out); have q6 : w6.cell? ⟨wr.heap.size, 0, none⟩ = some (.string s.name) := cell_of_row w6 _ 0 _ _ (0, 0) T6.out; clear b6) | (go_at_call 102; refine (add_any w.heap.size k w.heap.size _ [s.name] ((nmsS l).take k) _ (fun y => y = w6.heap.size) (MW.out.keep ((chain B6.out (below1 w6 _)).block _ hbm)) (Nat.le_refl _) (Row.lat1 w6 s.name) (fun y hy => by rw [hsz]; omega) (fun y hy => by have := B6.out.size; omega) (fun j hj => sz_only TS.out hj) (by simp; omega)).mono ?_; rintro e w7 ⟨rfl, b7, h7⟩; rw [HD.out]; have B7 := Seg.hid ((chain BW.out (chain B6.out (below1 w6 _))).trans b7); have M7 := Seg.hid (h7 HD.out); clear b7 h7))
        go_roundw
        case rel => exact ⟨k + 1, by go_num, by omega, by rw [NN.out]; exact M7.out, DX.out, NX.out SO.out, B7.out⟩
        case measure => simp [intOf]; omega
    · have hkl : k = l.length := by omega
      have RT : Hid (R = true) := by
        show _ = _
        have h1 := AW.out
        rw [hkl, List.take_length] at h1
        have h2 := DW.out
        rw [List.drop_eq_nil_of_le (by rw [nmsS_len]; omega)] at h2
        rw [R1.out, h1, ← h2]
        rfl
      go_wp2
      go_ret
      exact ⟨by rw [RT.out]; rfl, BW.out⟩
end Go.Proofs.Ytkibaimemomjpaa.QsI
