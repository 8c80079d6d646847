/- The program's colsOk and SourcesOk; Get: how it lies in memory; what the law's measure and copier answer. -/
import Derived.Deep.Cut
import Derived.Test.YtkohhcjpjloaaaaJW13
import Derived.Test.YtkohhcjpjloaaaaJW14
import Derived.Test.YtkohhcjpjloaaaaJW15
import Derived.Test.YtkohhcjpjloaaaaJW06
namespace Go.Proofs.Ytkohhcjpjloaaaa.QsI
set_option maxRecDepth 8000
open Go.RowKit
open Ls Lp QyP QsP HsP HsM
open Recs (hsz below1 below2 chain)
set_option linter.unusedVariables false
def cOk (us : List ByteArray) : Bool := decide (us.length ≤ 12) && (us.all Nm.nameOk && diff us)
theorem src_eq (s : Src) : srcOk s = (Nm.nameOk s.name && (!decide (s.cols.length = 0) && cOk s.cols)) := by
  rw [srcOk, cOk, Bool.eq_iff_iff]
  simp only [inR, Bool.and_eq_true, decide_eq_true_eq, Bool.not_eq_true', decide_eq_false_iff_not]
  constructor
  · rintro ⟨a, ⟨b, c⟩, d, e⟩
    exact ⟨a, by omega, by omega, e, d⟩
  · rintro ⟨a, b, c, e, d⟩
    exact ⟨a, ⟨by omega, by omega⟩, d, e⟩
set_option maxHeartbeats 1600000 in
theorem cols_any (v : Value) (us : List ByteArray) (w : World) (S : Nat → Prop) (hv : LAt 1 EStr w S v us) (hS : ∀ g, S g → g < w.heap.size) (hz : szL ByteArray.size us ≤ 1048576) :
    Calls Try.prog 27 #[v] w fun e w' => e = .returned (.bool (cOk us)) ∧ Below w.heap.size w w' := by
  have HV := Seg.hid hv
  obtain ⟨A, c, g, o, F, rfl, OP, hn⟩ := opn hv hS
  have HO := Seg.hid OP
  have HZ := Seg.hid hz
  clear hv OP hz
  obtain ⟨R, hR⟩ : ∃ R, cOk us = R := ⟨_, rfl⟩
  rw [hR]
  have HR := Seg.hid hR
  clear hR
  have hmm := @run_makeMap Try.prog
  go_enter Try.func27, Try.ntmps27
  by_cases h12 : 12 < us.length
  · have RF : Hid (R = false) := by show _ = _; rw [← HR.out, cOk, decide_eq_false (by omega)]; rfl
    have q12 : (12 : Int) < (us.length : Int) := by omega
    go_wp2
    go_ret
    exact ⟨by rw [RF.out]; rfl, Below.refl _ _⟩
  have R1 : Hid (R = (us.all Nm.nameOk && diff us)) := by show _ = _; rw [← HR.out, cOk, decide_eq_true (by omega)]; rfl
  have q12 : ¬ (12 : Int) < (us.length : Int) := by omega
  have q13 : ¬ 12 < us.length := h12
  clear HR
  go_wp2
  go_loop [10] (fun i => ∃ k : Nat, k ≤ us.length ∧ i = .int .i64 k ∧ Hid ((us.take k).all Nm.nameOk = true)) (fun i => us.length - (intOf i).toNat)
  case atStart => exact ⟨0, Nat.zero_le _, rfl, by show _ = _; simp⟩
  case round =>
    obtain ⟨k, hk, rfl, HG⟩ := hrel
    by_cases hlt : k < us.length
    · obtain ⟨ea, hc, hgw⟩ := HO.out.addr.resolve_left (by omega)
      subst ea
      have d0 := strs_cell HO.out rfl hlt
      have h0 : (0 : Int) ≤ (k : Int) := by omega
      have h1 : (k : Int) < (us.length : Int) := by omega
      have TZ : Hid ((us.getD k default).size ≤ maxLen) := by show _ ≤ _; have := szL_one ByteArray.size HZ.out hlt; unfold maxLen; omega
      have NX := Seg.hid (all_next Nm.nameOk us k hlt HG.out)
      have BX := Seg.hid (all_bad Nm.nameOk us k hlt)
      generalize us.getD k default = nk at *
      cases hy : Nm.nameOk nk with
      | true =>
        have NY : Hid ((us.take (k + 1)).all Nm.nameOk = true) := NX.out hy
        have HY := Seg.hid hy
        clear hy NX BX
        go_wp2_with (go_at_call 25; refine (Nm.impl_q _ _ HY.out _ TZ.out).mono ?_; rintro e w5 ⟨rfl, rfl⟩)
        go_round
        case rel => exact ⟨k + 1, by omega, by go_num, NY.out⟩
        case measure => simp [intOf]; omega
      | false =>
        have NY : Hid (R = false) := by show _ = _; rw [R1.out, BX.out hy]; rfl
        have HY := Seg.hid hy
        clear hy NX BX
        go_wp2_with (go_at_call 25; refine (Nm.impl_q _ _ HY.out _ TZ.out).mono ?_; rintro e w5 ⟨rfl, rfl⟩)
        go_ret
        exact ⟨by rw [NY.out]; rfl, Below.refl _ _⟩
    · obtain rfl : k = us.length := by omega
      have R2 : Hid (R = dst [] us) := by
        show _ = _
        have := HG.out
        rw [List.take_length] at this
        rw [R1.out, this, dst_diff]; rfl
      go_wp2_with (go_at_call 42; refine (add_any w.heap.size 0 w.heap.size _ us [] _ S (Set.made w) (Nat.le_refl _) (LAt.below keepsStr HV.out (below1 w _) hS) (fun g hg => by rw [hsz]; have := hS g hg; omega) (fun g hg => by have := hS g hg; omega) (fun k hk => szL_one ByteArray.size HZ.out hk) (by omega)).mono ?_; rintro e w5 ⟨rfl, b5, -⟩; have B5 := Seg.hid ((below1 w _).trans b5); clear b5)
      go_ret
      exact ⟨by rw [R2.out]; rfl, B5.out⟩
/-- One text in a row of its own. -/
theorem Row.lat1 (w : World) (n : ByteArray) : LAt 1 EStr (w.alloc (.cells #[.string n] 9 (0, 0))) (fun y => y = w.heap.size) (.slice (some ⟨w.heap.size, 0, none⟩) 1 1) [n] := by
  refine ⟨by simp, _, 1, rfl, .inr ⟨w.heap.size, 0, fun _ _ => .string n, rfl, rfl, by simp, fun i hi j hj => ?_, fun i hi => ?_⟩⟩
  · obtain rfl : i = 0 := by simpa using hi
    obtain rfl : j = 0 := by omega
    exact cell_of_row (w.alloc (.cells #[.string n] 9 (0, 0))) _ 0 _ _ (0, 0) (heap_alloc_new _ _)
  · obtain rfl : i = 0 := by simpa using hi
    rfl
theorem sz_only {n : ByteArray} (h : n.size ≤ 1048576) {j : Nat} (hj : j < [n].length) : ([n].getD j default).size ≤ 1048576 := by
  obtain rfl : j = 0 := by simpa using hj
  exact h
theorem nms_get {l : List Src} {k : Nat} (h : k < l.length) : (nmsS l).getD k default = (l.getD k default).name := by simp [nmsS, h]
structure Ss (w wr : World) (l : List Src) (k : Nat) : Prop where
  le : k ≤ l.length
  set : Set wr w.heap.size k ((nmsS l).take k)
  dst : dst ((nmsS l).take k) ((nmsS l).drop k) = diff (nmsS l)
  all : (l.take k).all srcOk = true
  bel : Below w.heap.size w wr
end Go.Proofs.Ytkohhcjpjloaaaa.QsI
namespace Go.Proofs.Ytkohhcjpjloaaaa.Ls
set_option maxRecDepth 8000
open Go.RowKit
open Recs
set_option linter.unusedVariables false
structure Gqt where
  kind : Int
  steps : List Stp
  nm : ByteArray
  deriving Inhabited
def EGqt : Elt Gqt := fun w S f u => f 0 = .int .i64 u.kind ∧ LAt 3 EStp w S (f 1) u.steps ∧ f 2 = .string u.nm
theorem keepsGqt : Keeps 3 EGqt := fun w w' S f f' t h hk hf => by
  obtain ⟨h0, h1, h2⟩ := h
  exact ⟨by rw [hf 0 (by omega)]; exact h0, by rw [hf 1 (by omega)]; exact h1.keep keepsStp hk, by rw [hf 2 (by omega)]; exact h2⟩
theorem growsGqt : Grows EGqt := fun w S S' f t h hs => by
  obtain ⟨h0, h1, h2⟩ := h
  exact ⟨h0, h1.mono growsStp hs, h2⟩
def arrGqt (f : Nat → Value) : Array Value := #[f 0, f 1, f 2]
theorem oneGqt {w : World} {S : Nat → Prop} {f : Nat → Value} {u : Gqt} (h : EGqt w S f u) : (arrGqt f).all (·.oneCell') = true := by
  obtain ⟨h0, h1, h2⟩ := h
  have o0 : (f 0).oneCell' = true := by rw [h0]; rfl
  have o1 : (f 1).oneCell' = true := h1.one
  have o2 : (f 2).oneCell' = true := by rw [h2]; rfl
  simp [arrGqt, o0, o1, o2]
def GqtAt (w : World) (S : Nat → Prop) (v : Value) (u : Gqt) : Prop := ∃ f, v = .agg (arrGqt f) ∧ EGqt w S f u
abbrev GqtsAt := LAt 3 EGqt
theorem GqtAt.keep {w w' : World} {S : Nat → Prop} {v : Value} {u : Gqt} (h : GqtAt w S v u) (hk : ∀ g, S g → w'.heap[g]? = w.heap[g]?) : GqtAt w' S v u := by
  obtain ⟨f, h1, h2⟩ := h
  exact ⟨f, h1, keepsGqt _ _ _ _ _ _ h2 hk (fun _ _ => rfl)⟩
theorem GqtAt.mono {w : World} {S S' : Nat → Prop} {v : Value} {u : Gqt} (h : GqtAt w S v u) (hs : ∀ g, S g → S' g) : GqtAt w S' v u := by
  obtain ⟨f, h1, h2⟩ := h
  exact ⟨f, h1, growsGqt _ _ _ _ _ h2 hs⟩
theorem GqtAt.below {w w' : World} {B : Nat} {S : Nat → Prop} {v : Value} {u : Gqt} (h : GqtAt w S v u) (hb : Below B w w') (hs : ∀ g, S g → g < B) : GqtAt w' S v u := h.keep fun g hg => hb.block g (hs g hg)
def szGqt (u : Gqt) : Nat := szL szStp (u.steps) + u.nm.size
def FineGqt (u : Gqt) : Prop := I64 u.kind ∧ FineL FineStp u.steps ∧ u.nm.size ≤ maxLen
theorem infoGqt : (Try.prog.info? 35).map (·.size) = some 3 := by kernel_rfl
theorem infoZGqt : (Try.prog.info? 35).map (fun i => (i.zero, i.size, i.bytes)) = some (some (.agg #[.int .i64 0, .slice none 0 0, .string ByteArray.empty]), 3, 48) := by kernel_rfl
end Go.Proofs.Ytkohhcjpjloaaaa.Ls
