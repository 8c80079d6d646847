/- Seek: the model's and the program's. -/
import Derived.Test.YtnbecgngghjfkaaEnt
namespace Go.Proofs.Ytnbecgngghjfkaa.SeekW
set_option maxRecDepth 8000
open Go.RowKit
open Recs (Row below1 below2 hsz)
open Ent
set_option linter.unusedVariables false
/-- The place of the last entry that is asked for; 0: there is none. -/
def last (p : En → Bool) : List En → Int → Int
  | [], x => x
  | e :: t, x => last p t (if p e then e.place else x)
theorem last_app (p : En → Bool) : ∀ (a b : List En) (x : Int), last p (a ++ b) x = last p b (last p a x)
  | [], _, _ => rfl
  | e :: t, b, x => last_app p t b _
theorem last_take (p : En → Bool) (es : List En) (x : Int) (j : Nat) (hj : j < es.length) : last p (es.take (j + 1)) x = if p (es.getD j default) then (es.getD j default).place else last p (es.take j) x := by
  rw [List.take_add_one, last_app]
  simp [hj, last]
def po (o : Int) : En → Bool := fun e => decide (e.off ≤ o)
def pt (t : Int) : En → Bool := fun e => decide (e.time < t)
set_option maxHeartbeats 400000 in
theorem spec_core (g o c : Nat) (es : List En) (x y : Int) (w : World) (hn : es.length ≤ 1048576) (hc : es.length ≤ c)
    (ha : ∀ i, i < es.length → w.cell? ⟨g, o + i * 3, none⟩ = some (.int .i64 (es.getD i default).off) ∧ w.cell? ⟨g, o + i * 3 + 1, none⟩ = some (.int .i64 (es.getD i default).time) ∧ w.cell? ⟨g, o + i * 3 + 2, none⟩ = some (.int .i64 (es.getD i default).place)) :
    Calls Try.prog 11 #[.slice (some ⟨g, o, none⟩) es.length c, .int .i64 x, .int .i64 y] w fun e w' => e = .returned (.tuple #[.int .i64 (last (po x) es 0), .int .i64 (last (pt y) es 0)]) ∧ w = w' := by
  have HA := Seg.hid ha
  clear ha
  go_enter Try.func11, Try.ntmps11
  go_wp2
  go_loop [8, 9, 10] (fun a b i => ∃ j : Nat, j ≤ es.length ∧ a = .int .i64 (last (po x) (es.take j) 0) ∧ b = .int .i64 (last (pt y) (es.take j) 0) ∧ i = .int .i64 j) (fun _ _ i => es.length - (intOf i).toNat)
  case atStart => exact ⟨0, Nat.zero_le _, rfl, rfl, rfl⟩
  case round =>
    obtain ⟨j, hj, rfl, rfl, rfl⟩ := hrel
    by_cases hlt : j < es.length
    · obtain ⟨c1, c2, c3⟩ := HA.out j hlt
      have h0 : (0 : Int) ≤ (j : Int) := by omega
      have h1 : (j : Int) < (es.length : Int) := by omega
      have e1 := last_take (po x) es 0 j hlt
      have e2 := last_take (pt y) es 0 j hlt
      obtain ⟨r, hr⟩ : ∃ r, r = es.getD j default := ⟨_, rfl⟩
      rw [← hr] at c1 c2 c3 e1 e2
      clear hr
      by_cases p1 : r.off ≤ x <;> by_cases p2 : r.time < y
      all_goals
        simp only [po, pt, p1, p2, decide_true, decide_false, if_true, if_false, Bool.false_eq_true] at e1 e2
        go_wp2
        go_round
        case rel => exact ⟨j + 1, by omega, by rw [e1], by rw [e2], by go_num⟩
        case measure => simp [intOf]; omega
    · have : j = es.length := by omega
      subst this
      rw [List.take_length]
      go_wp2
      go_ret2
      exact ⟨rfl, rfl⟩
/-- What the two questions answer. -/
theorem ask_off (g : Nat) (x a b c : Int) (w : World) (hg : g < w.heap.size) (hx : w.cell? ⟨g, 0, none⟩ = some (.int .i64 x)) :
    Calls Try.prog 22 #[.agg #[.int .i64 a, .int .i64 b, .int .i64 c], .pointer (some ⟨g, 0, none⟩)] w fun e w' => e = .returned (.bool (decide (a ≤ x))) ∧ Below w.heap.size w w' := by
  have h2 : (w.alloc (.cells #[.int .i64 a, .int .i64 b, .int .i64 c] 42)).cell? ⟨g, 0, none⟩ = some (.int .i64 x) := by rw [(below1 w _).cell (p := ⟨g, 0, none⟩) hg]; exact hx
  go_enter Try.func22, Try.ntmps22
  go_wp2
  go_ret
  exact ⟨rfl, below1 _ _⟩
theorem ask_time (g : Nat) (x a b c : Int) (w : World) (hg : g < w.heap.size) (hx : w.cell? ⟨g, 0, none⟩ = some (.int .i64 x)) :
    Calls Try.prog 23 #[.agg #[.int .i64 a, .int .i64 b, .int .i64 c], .pointer (some ⟨g, 0, none⟩)] w fun e w' => e = .returned (.bool (decide (b < x))) ∧ Below w.heap.size w w' := by
  have h2 : (w.alloc (.cells #[.int .i64 a, .int .i64 b, .int .i64 c] 42)).cell? ⟨g, 0, none⟩ = some (.int .i64 x) := by rw [(below1 w _).cell (p := ⟨g, 0, none⟩) hg]; exact hx
  go_enter Try.func23, Try.ntmps23
  go_wp2
  go_ret
  exact ⟨rfl, below1 _ _⟩
set_option maxHeartbeats 400000 in
theorem last_off (g o c h : Nat) (es : List En) (x : Int) (w : World) (hn : es.length ≤ 1048576) (hc : es.length ≤ c) (hg : g < w.heap.size) (hh : h < w.heap.size) (hx : w.cell? ⟨h, 0, none⟩ = some (.int .i64 x))
    (ha : ∀ i, i < es.length → w.cell? ⟨g, o + i * 3, none⟩ = some (.int .i64 (es.getD i default).off) ∧ w.cell? ⟨g, o + i * 3 + 1, none⟩ = some (.int .i64 (es.getD i default).time) ∧ w.cell? ⟨g, o + i * 3 + 2, none⟩ = some (.int .i64 (es.getD i default).place)) :
    Calls Try.prog 21 #[.slice (some ⟨g, o, none⟩) es.length c, .func (.func 22) #[] #[.pointer (some ⟨h, 0, none⟩)]] w fun e w' => e = .returned (.int .i64 (last (po x) es 0)) ∧ Below w.heap.size w w' := by
  have HA := Seg.hid ha
  have HX := Seg.hid hx
  clear ha hx
  go_enter Try.func21, Try.ntmps21
  go_wp2_with fail
  go_loopw [5] (fun i wr => ∃ k : Nat, k ≤ es.length ∧ i = .int .i64 ((k : Int) - 1) ∧ Hid (last (po x) es 0 = last (po x) (es.take k) 0 ∧ Below w.heap.size w wr)) (fun i _ => (intOf i + 1).toNat)
  case atStart => exact ⟨es.length, Nat.le_refl _, rfl, by rw [List.take_length], Below.refl _ _⟩
  case round =>
    obtain ⟨k, hk, rfl, HR⟩ := hrel
    match k, hk with
    | 0, _ =>
      have e : last (po x) es 0 = 0 := HR.out.1
      go_wp2
      go_ret
      exact ⟨Seg.ret_int e.symm, HR.out.2⟩
    | j + 1, hk =>
      have hlt : j < es.length := by omega
      have h0 : (0 : Int) ≤ (j : Int) := by omega
      have h1 : (j : Int) < (es.length : Int) := by omega
      have e0 : ((j + 1 : Nat) : Int) - 1 = (j : Int) := by omega
      rw [e0]
      obtain ⟨r, hr⟩ : ∃ r, r = es.getD j default := ⟨_, rfl⟩
      have ha := HA.out j hlt
      have e1 := last_take (po x) es 0 j hlt
      rw [← hr] at ha e1
      have c1 : wr.cell? ⟨g, o + j * 3, none⟩ = some (.int .i64 r.off) := by rw [HR.out.2.cell (p := ⟨g, o + j * 3, none⟩) hg]; exact ha.1
      have c2 : wr.cell? ⟨g, o + j * 3 + 1, none⟩ = some (.int .i64 r.time) := by rw [HR.out.2.cell (p := ⟨g, o + j * 3 + 1, none⟩) hg]; exact ha.2.1
      have c3 : wr.cell? ⟨g, o + j * 3 + 2, none⟩ = some (.int .i64 r.place) := by rw [HR.out.2.cell (p := ⟨g, o + j * 3 + 2, none⟩) hg]; exact ha.2.2
      have cx : Hid (h < wr.heap.size ∧ wr.cell? ⟨h, 0, none⟩ = some (.int .i64 x)) := ⟨Nat.lt_of_lt_of_le hh HR.out.2.size, by rw [HR.out.2.cell (p := ⟨h, 0, none⟩) hh]; exact HX.out⟩
      have hgw : g < wr.heap.size := Nat.lt_of_lt_of_le hg HR.out.2.size
      clear hr ha
      by_cases q : r.off ≤ x
      · have e2 : last (po x) es 0 = r.place := by rw [HR.out.1, e1, if_pos (by simpa [po] using q)]
        clear e1
        go_wp2_with (go_at_call 22; refine (ask_off h x r.off r.time r.place _ cx.out.1 cx.out.2).mono ?_; rw [decide_eq_true q]; rintro e w1 ⟨rfl, b1⟩; have B1 := Seg.hid (HR.out.2.trans (b1.mono HR.out.2.size)); have d3 : w1.cell? ⟨g, o + j * 3 + 2, none⟩ = some (.int .i64 r.place) := (by rw [b1.cell (p := ⟨g, o + j * 3 + 2, none⟩) hgw]; exact c3); clear b1)
        go_ret
        exact ⟨Seg.ret_int e2.symm, B1.out⟩
      · have e2 : last (po x) es 0 = last (po x) (es.take j) 0 := by rw [HR.out.1, e1, if_neg (by simpa [po] using q)]
        clear e1
        go_wp2_with (go_at_call 22; refine (ask_off h x r.off r.time r.place _ cx.out.1 cx.out.2).mono ?_; rw [decide_eq_false q]; rintro e w1 ⟨rfl, b1⟩; have B1 := Seg.hid (HR.out.2.trans (b1.mono HR.out.2.size)); clear b1)
        go_roundw
        case rel => exact ⟨j, by omega, by go_num, e2, B1.out⟩
        case measure => simp [intOf]
set_option maxHeartbeats 400000 in
theorem last_time (g o c h : Nat) (es : List En) (x : Int) (w : World) (hn : es.length ≤ 1048576) (hc : es.length ≤ c) (hg : g < w.heap.size) (hh : h < w.heap.size) (hx : w.cell? ⟨h, 0, none⟩ = some (.int .i64 x))
    (ha : ∀ i, i < es.length → w.cell? ⟨g, o + i * 3, none⟩ = some (.int .i64 (es.getD i default).off) ∧ w.cell? ⟨g, o + i * 3 + 1, none⟩ = some (.int .i64 (es.getD i default).time) ∧ w.cell? ⟨g, o + i * 3 + 2, none⟩ = some (.int .i64 (es.getD i default).place)) :
    Calls Try.prog 21 #[.slice (some ⟨g, o, none⟩) es.length c, .func (.func 23) #[] #[.pointer (some ⟨h, 0, none⟩)]] w fun e w' => e = .returned (.int .i64 (last (pt x) es 0)) ∧ Below w.heap.size w w' := by
  have HA := Seg.hid ha
  have HX := Seg.hid hx
  clear ha hx
  go_enter Try.func21, Try.ntmps21
  go_wp2_with fail
  go_loopw [5] (fun i wr => ∃ k : Nat, k ≤ es.length ∧ i = .int .i64 ((k : Int) - 1) ∧ Hid (last (pt x) es 0 = last (pt x) (es.take k) 0 ∧ Below w.heap.size w wr)) (fun i _ => (intOf i + 1).toNat)
  case atStart => exact ⟨es.length, Nat.le_refl _, rfl, by rw [List.take_length], Below.refl _ _⟩
  case round =>
    obtain ⟨k, hk, rfl, HR⟩ := hrel
    match k, hk with
    | 0, _ =>
      have e : last (pt x) es 0 = 0 := HR.out.1
      go_wp2
      go_ret
      exact ⟨Seg.ret_int e.symm, HR.out.2⟩
    | j + 1, hk =>
      have hlt : j < es.length := by omega
      have h0 : (0 : Int) ≤ (j : Int) := by omega
      have h1 : (j : Int) < (es.length : Int) := by omega
      have e0 : ((j + 1 : Nat) : Int) - 1 = (j : Int) := by omega
      rw [e0]
      obtain ⟨r, hr⟩ : ∃ r, r = es.getD j default := ⟨_, rfl⟩
      have ha := HA.out j hlt
      have e1 := last_take (pt x) es 0 j hlt
      rw [← hr] at ha e1
      have c1 : wr.cell? ⟨g, o + j * 3, none⟩ = some (.int .i64 r.off) := by rw [HR.out.2.cell (p := ⟨g, o + j * 3, none⟩) hg]; exact ha.1
      have c2 : wr.cell? ⟨g, o + j * 3 + 1, none⟩ = some (.int .i64 r.time) := by rw [HR.out.2.cell (p := ⟨g, o + j * 3 + 1, none⟩) hg]; exact ha.2.1
      have c3 : wr.cell? ⟨g, o + j * 3 + 2, none⟩ = some (.int .i64 r.place) := by rw [HR.out.2.cell (p := ⟨g, o + j * 3 + 2, none⟩) hg]; exact ha.2.2
      have cx : Hid (h < wr.heap.size ∧ wr.cell? ⟨h, 0, none⟩ = some (.int .i64 x)) := ⟨Nat.lt_of_lt_of_le hh HR.out.2.size, by rw [HR.out.2.cell (p := ⟨h, 0, none⟩) hh]; exact HX.out⟩
      have hgw : g < wr.heap.size := Nat.lt_of_lt_of_le hg HR.out.2.size
      clear hr ha
      by_cases q : r.time < x
      · have e2 : last (pt x) es 0 = r.place := by rw [HR.out.1, e1, if_pos (by simpa [pt] using q)]
        clear e1
        go_wp2_with (go_at_call 23; refine (ask_time h x r.off r.time r.place _ cx.out.1 cx.out.2).mono ?_; rw [decide_eq_true q]; rintro e w1 ⟨rfl, b1⟩; have B1 := Seg.hid (HR.out.2.trans (b1.mono HR.out.2.size)); have d3 : w1.cell? ⟨g, o + j * 3 + 2, none⟩ = some (.int .i64 r.place) := (by rw [b1.cell (p := ⟨g, o + j * 3 + 2, none⟩) hgw]; exact c3); clear b1)
        go_ret
        exact ⟨Seg.ret_int e2.symm, B1.out⟩
      · have e2 : last (pt x) es 0 = last (pt x) (es.take j) 0 := by rw [HR.out.1, e1, if_neg (by simpa [pt] using q)]
        clear e1
        go_wp2_with (go_at_call 23; refine (ask_time h x r.off r.time r.place _ cx.out.1 cx.out.2).mono ?_; rw [decide_eq_false q]; rintro e w1 ⟨rfl, b1⟩; have B1 := Seg.hid (HR.out.2.trans (b1.mono HR.out.2.size)); clear b1)
        go_roundw
        case rel => exact ⟨j, by omega, by go_num, e2, B1.out⟩
        case measure => simp [intOf]
theorem impl_core (g o c : Nat) (es : List En) (x y : Int) (w : World) (hn : es.length ≤ 1048576) (hc : es.length ≤ c) (hg : g < w.heap.size)
    (ha : ∀ i, i < es.length → w.cell? ⟨g, o + i * 3, none⟩ = some (.int .i64 (es.getD i default).off) ∧ w.cell? ⟨g, o + i * 3 + 1, none⟩ = some (.int .i64 (es.getD i default).time) ∧ w.cell? ⟨g, o + i * 3 + 2, none⟩ = some (.int .i64 (es.getD i default).place)) :
    Calls Try.prog 13 #[.slice (some ⟨g, o, none⟩) es.length c, .int .i64 x, .int .i64 y] w fun e w' => e = .returned (.tuple #[.int .i64 (last (po x) es 0), .int .i64 (last (pt y) es 0)]) ∧ Below w.heap.size w w' := by
  have HA := Seg.hid ha
  clear ha
  go_enter Try.func13, Try.ntmps13
  go_wp2_with fail
  have b0 := below2 w (.cells #[.int .i64 x] 3) (.cells #[.int .i64 y] 3)
  have x0 : ((w.alloc (.cells #[.int .i64 x] 3)).alloc (.cells #[.int .i64 y] 3)).cell? ⟨w.heap.size, 0, none⟩ = some (.int .i64 x) := by
    rw [cell_of_row _ w.heap.size 0 _ _ _ ((heap_alloc_old _ _ (by simp)).trans (heap_alloc_new _ _))]
    rfl
  have y0 : ((w.alloc (.cells #[.int .i64 x] 3)).alloc (.cells #[.int .i64 y] 3)).cell? ⟨w.heap.size + 1, 0, none⟩ = some (.int .i64 y) := by
    have e := heap_alloc_new (w.alloc (.cells #[.int .i64 x] 3)) (.cells #[.int .i64 y] 3)
    rw [hsz] at e
    rw [cell_of_row _ (w.heap.size + 1) 0 _ _ _ e]
    rfl
  have A0 : Hid (∀ i, i < es.length → _ ∧ _ ∧ _) := fun i hi => ⟨(b0.cell (p := ⟨g, o + i * 3, none⟩) hg).trans (HA.out i hi).1, (b0.cell (p := ⟨g, o + i * 3 + 1, none⟩) hg).trans (HA.out i hi).2.1, (b0.cell (p := ⟨g, o + i * 3 + 2, none⟩) hg).trans (HA.out i hi).2.2⟩
  refine (last_off g o c w.heap.size es x _ hn hc (by rw [hsz, hsz]; omega) (by rw [hsz, hsz]; omega) x0 A0.out).mono ?_
  rintro e w1 ⟨rfl, b1⟩
  have hs := b1.size
  rw [hsz, hsz] at hs
  have y1 : w1.cell? ⟨w.heap.size + 1, 0, none⟩ = some (.int .i64 y) := by rw [b1.cell (p := ⟨w.heap.size + 1, 0, none⟩) (by rw [hsz, hsz]; show w.heap.size + 1 < _; omega)]; exact y0
  have hg1 : g < ((w.alloc (.cells #[.int .i64 x] 3)).alloc (.cells #[.int .i64 y] 3)).heap.size := by rw [hsz, hsz]; omega
  have A1 : Hid (∀ i, i < es.length → _ ∧ _ ∧ _) := fun i hi => ⟨(b1.cell (p := ⟨g, o + i * 3, none⟩) hg1).trans (A0.out i hi).1, (b1.cell (p := ⟨g, o + i * 3 + 1, none⟩) hg1).trans (A0.out i hi).2.1, (b1.cell (p := ⟨g, o + i * 3 + 2, none⟩) hg1).trans (A0.out i hi).2.2⟩
  have B1 := Seg.hid (b0.trans (b1.mono b0.size))
  have Y1 := Seg.hid y1
  clear b1 A0 x0 y0 b0 hg1 y1
  go_wp2_with fail
  refine (last_time g o c (w.heap.size + 1) es y _ hn hc (by omega) (by omega) Y1.out A1.out).mono ?_
  rintro e w2 ⟨rfl, b2⟩
  have B2 := Seg.hid (B1.out.trans (b2.mono B1.out.size))
  clear b2
  go_wp2
  go_ret2
  exact ⟨rfl, B2.out⟩
set_option maxHeartbeats 400000 in
theorem spec_none (A : Option Addr) (c : Nat) (x y : Int) (w : World) :
    Calls Try.prog 11 #[.slice A 0 c, .int .i64 x, .int .i64 y] w fun e w' => e = .returned (.tuple #[.int .i64 0, .int .i64 0]) ∧ w = w' := by
  go_enter Try.func11, Try.ntmps11
  go_wp2
  go_loop [8, 9, 10] (fun a b i => a = .int .i64 0 ∧ b = .int .i64 0 ∧ i = .int .i64 0) (fun _ _ _ => 0)
  case atStart => exact ⟨rfl, rfl, rfl⟩
  case round =>
    obtain ⟨rfl, rfl, rfl⟩ := hrel
    go_wp2
    go_ret2
    exact ⟨rfl, rfl⟩
theorem last_none (A : Option Addr) (c : Nat) (f : Value) (w : World) :
    Calls Try.prog 21 #[.slice A 0 c, f] w fun e w' => e = .returned (.int .i64 0) ∧ w = w' := by
  go_enter Try.func21, Try.ntmps21
  go_wp2_with fail
  go_loop [5] (fun i => i = .int .i64 (-1)) (fun _ => 0)
  case atStart => rfl
  case round =>
    subst hrel
    go_wp2
    go_ret
    exact ⟨rfl, rfl⟩
theorem impl_none (A : Option Addr) (c : Nat) (x y : Int) (w : World) :
    Calls Try.prog 13 #[.slice A 0 c, .int .i64 x, .int .i64 y] w fun e w' => e = .returned (.tuple #[.int .i64 0, .int .i64 0]) ∧ Below w.heap.size w w' := by
  go_enter Try.func13, Try.ntmps13
  go_wp2_with fail
  refine (last_none A c _ _).mono ?_
  rintro e w1 ⟨rfl, rfl⟩
  go_wp2_with fail
  refine (last_none A c _ _).mono ?_
  rintro e w1 ⟨rfl, rfl⟩
  go_wp2
  go_ret2
  exact ⟨rfl, below2 _ _ _⟩
def ans (es : List En) (x y : Int) : Value := .tuple #[.int .i64 (last (po x) es 0), .int .i64 (last (pt y) es 0)]
theorem spec_any (v : Value) (es : List En) (x y : Int) (w : World) (lo b : Nat) (hv : Ens w lo b v es) (hb : b ≤ w.heap.size) (hl : es.length ≤ 1048576) :
    Calls Try.prog 11 #[v, .int .i64 x, .int .i64 y] w fun e w' => e = .returned (ans es x y) ∧ w = w' := by
  obtain ⟨hn, A, c, rfl, h⟩ := hv
  by_cases hz : es.length = 0
  · rw [hz]
    obtain rfl := List.length_eq_zero_iff.1 hz
    exact spec_none A c x y w
  obtain ⟨g, o, rfl, hg, hc, hcell, _⟩ := h.resolve_left hz
  exact spec_core g o c es x y w hl hc (fun i hi => cell0 hcell i hi)
theorem impl_any (v : Value) (es : List En) (x y : Int) (w : World) (lo b : Nat) (hv : Ens w lo b v es) (hb : b ≤ w.heap.size) (hl : es.length ≤ 1048576) :
    Calls Try.prog 13 #[v, .int .i64 x, .int .i64 y] w fun e w' => e = .returned (ans es x y) ∧ Below w.heap.size w w' := by
  obtain ⟨hn, A, c, rfl, h⟩ := hv
  by_cases hz : es.length = 0
  · rw [hz]
    obtain rfl := List.length_eq_zero_iff.1 hz
    exact impl_none A c x y w
  obtain ⟨g, o, rfl, hg, hc, hcell, _⟩ := h.resolve_left hz
  exact impl_core g o c es x y w hl hc (by omega) (fun i hi => cell0 hcell i hi)
end Go.Proofs.Ytnbecgngghjfkaa.SeekW
