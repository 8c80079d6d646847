/- BatchOk of the model: where it says no ahead of its loop. -/
import Derived.Test.YtdhicmbfknagjaaBatW
import Derived.Test.YtdhicmbfknagjaaROkI
namespace Go.Proofs.Ytdhicmbfknagjaa.BOk
set_option maxRecDepth 8000
open Go.RowKit
open Recs
set_option linter.unusedVariables false
def bv (bs ep pr tu sq fl : Int) (rv : Value) : Value := .agg #[.int .i64 bs, .int .i64 ep, .int .i64 pr, .int .i64 tu, .int .i64 sq, .int .i64 fl, rv]
def inR (x lo hi : Int) : Bool := decide (lo ≤ x) && decide (x ≤ hi)
theorem l1In_r (x lo hi : Int) (b : Bool) (hb : inR x lo hi = b) (w : World) : Calls Try.prog 35 #[.int .i64 x, .int .i64 lo, .int .i64 hi] w fun e w' => e = .returned (.bool b) ∧ w = w' := ROk.l1In_b x lo hi b hb w
theorem within_r (x lo hi : Int) (b : Bool) (hb : inR x lo hi = b) (w : World) : Calls Try.prog 41 #[.int .i64 x, .int .i64 lo, .int .i64 hi] w fun e w' => e = .returned (.bool b) ∧ w = w' := ROk.within_b x lo hi b hb w
def q1 (fl : Int) : Bool := (wrap64 (fl.tdiv 2)).tmod 2 == 1
def q0 (fl : Int) : Bool := (wrap64 (fl.tdiv 2)).tmod 2 == 0
def okB1 (bs ep pr tu sq fl : Int) : Bool := inR bs 0 1000000000 && inR ep 0 1000000 && inR pr (-1) 1000000000 && inR tu 0 1000 && inR sq 0 1000000000 && inR fl 0 7
def bad2 (pr tu sq fl : Int) : Bool := (decide (pr < 0) && ((tu != 0) || (sq != 0) || q1 fl)) || (decide (4 ≤ fl) && q0 fl)
def okB3 (bs sq : Int) (n : Nat) : Bool := inR (n : Int) 1 40 && decide (bs + n - 1 ≤ 1000000000) && decide (sq + n - 1 ≤ 1000000000)

set_option maxRecDepth 6000 in
set_option maxHeartbeats 1600000 in
theorem no1_0 (bs ep pr tu sq fl : Int) (A : Option Addr) (n c : Nat) (w : World) (h1 : Hid (inR bs 0 1000000000 = false)) :
    Calls Try.prog 72 #[bv bs ep pr tu sq fl (.slice A n c)] w fun e w' => e = .returned (.bool false) ∧ Below w.heap.size w w' := by
  unfold bv
  go_enter Try.func72, Try.ntmps72
  go_wp2_with (first | (go_at_call_of 35 (Value.int IntKind.i64 bs); refine (l1In_r bs 0 1000000000 false h1.out _).mono ?_; rintro _ _ ⟨rfl, rfl⟩))
  go_ret
  exact ⟨rfl, below1 _ _⟩
set_option maxRecDepth 6000 in
set_option maxHeartbeats 1600000 in
theorem no1_1 (bs ep pr tu sq fl : Int) (A : Option Addr) (n c : Nat) (w : World) (h1 : Hid (inR bs 0 1000000000 = true)) (h2 : Hid (inR ep 0 1000000 = false)) :
    Calls Try.prog 72 #[bv bs ep pr tu sq fl (.slice A n c)] w fun e w' => e = .returned (.bool false) ∧ Below w.heap.size w w' := by
  unfold bv
  go_enter Try.func72, Try.ntmps72
  go_wp2_with (first | (go_at_call_of 35 (Value.int IntKind.i64 bs); refine (l1In_r bs 0 1000000000 true h1.out _).mono ?_; rintro _ _ ⟨rfl, rfl⟩) | (go_at_call_of 35 (Value.int IntKind.i64 ep); refine (l1In_r ep 0 1000000 false h2.out _).mono ?_; rintro _ _ ⟨rfl, rfl⟩))
  go_ret
  exact ⟨rfl, below1 _ _⟩
set_option maxRecDepth 6000 in
set_option maxHeartbeats 1600000 in
theorem no1_2 (bs ep pr tu sq fl : Int) (A : Option Addr) (n c : Nat) (w : World) (h1 : Hid (inR bs 0 1000000000 = true)) (h2 : Hid (inR ep 0 1000000 = true)) (h3 : Hid (inR pr (-1) 1000000000 = false)) :
    Calls Try.prog 72 #[bv bs ep pr tu sq fl (.slice A n c)] w fun e w' => e = .returned (.bool false) ∧ Below w.heap.size w w' := by
  unfold bv
  go_enter Try.func72, Try.ntmps72
  go_wp2_with (first | (go_at_call_of 35 (Value.int IntKind.i64 bs); refine (l1In_r bs 0 1000000000 true h1.out _).mono ?_; rintro _ _ ⟨rfl, rfl⟩) | (go_at_call_of 35 (Value.int IntKind.i64 ep); refine (l1In_r ep 0 1000000 true h2.out _).mono ?_; rintro _ _ ⟨rfl, rfl⟩) | (go_at_call_of 35 (Value.int IntKind.i64 pr); refine (l1In_r pr (-1) 1000000000 false h3.out _).mono ?_; rintro _ _ ⟨rfl, rfl⟩))
  go_ret
  exact ⟨rfl, below1 _ _⟩
set_option maxRecDepth 6000 in
set_option maxHeartbeats 1600000 in
theorem no1_3 (bs ep pr tu sq fl : Int) (A : Option Addr) (n c : Nat) (w : World) (h1 : Hid (inR bs 0 1000000000 = true)) (h2 : Hid (inR ep 0 1000000 = true)) (h3 : Hid (inR pr (-1) 1000000000 = true)) (h4 : Hid (inR tu 0 1000 = false)) :
    Calls Try.prog 72 #[bv bs ep pr tu sq fl (.slice A n c)] w fun e w' => e = .returned (.bool false) ∧ Below w.heap.size w w' := by
  unfold bv
  go_enter Try.func72, Try.ntmps72
  go_wp2_with (first | (go_at_call_of 35 (Value.int IntKind.i64 bs); refine (l1In_r bs 0 1000000000 true h1.out _).mono ?_; rintro _ _ ⟨rfl, rfl⟩) | (go_at_call_of 35 (Value.int IntKind.i64 ep); refine (l1In_r ep 0 1000000 true h2.out _).mono ?_; rintro _ _ ⟨rfl, rfl⟩) | (go_at_call_of 35 (Value.int IntKind.i64 pr); refine (l1In_r pr (-1) 1000000000 true h3.out _).mono ?_; rintro _ _ ⟨rfl, rfl⟩) | (go_at_call_of 35 (Value.int IntKind.i64 tu); refine (l1In_r tu 0 1000 false h4.out _).mono ?_; rintro _ _ ⟨rfl, rfl⟩))
  go_ret
  exact ⟨rfl, below1 _ _⟩
set_option maxRecDepth 6000 in
set_option maxHeartbeats 1600000 in
theorem no1_4 (bs ep pr tu sq fl : Int) (A : Option Addr) (n c : Nat) (w : World) (h1 : Hid (inR bs 0 1000000000 = true)) (h2 : Hid (inR ep 0 1000000 = true)) (h3 : Hid (inR pr (-1) 1000000000 = true)) (h4 : Hid (inR tu 0 1000 = true)) (h5 : Hid (inR sq 0 1000000000 = false)) :
    Calls Try.prog 72 #[bv bs ep pr tu sq fl (.slice A n c)] w fun e w' => e = .returned (.bool false) ∧ Below w.heap.size w w' := by
  unfold bv
  go_enter Try.func72, Try.ntmps72
  go_wp2_with (first | (go_at_call_of 35 (Value.int IntKind.i64 bs); refine (l1In_r bs 0 1000000000 true h1.out _).mono ?_; rintro _ _ ⟨rfl, rfl⟩) | (go_at_call_of 35 (Value.int IntKind.i64 ep); refine (l1In_r ep 0 1000000 true h2.out _).mono ?_; rintro _ _ ⟨rfl, rfl⟩) | (go_at_call_of 35 (Value.int IntKind.i64 pr); refine (l1In_r pr (-1) 1000000000 true h3.out _).mono ?_; rintro _ _ ⟨rfl, rfl⟩) | (go_at_call_of 35 (Value.int IntKind.i64 tu); refine (l1In_r tu 0 1000 true h4.out _).mono ?_; rintro _ _ ⟨rfl, rfl⟩) | (go_at_call_of 35 (Value.int IntKind.i64 sq); refine (l1In_r sq 0 1000000000 false h5.out _).mono ?_; rintro _ _ ⟨rfl, rfl⟩))
  go_ret
  exact ⟨rfl, below1 _ _⟩
set_option maxRecDepth 6000 in
set_option maxHeartbeats 1600000 in
theorem no1_5 (bs ep pr tu sq fl : Int) (A : Option Addr) (n c : Nat) (w : World) (h1 : Hid (inR bs 0 1000000000 = true)) (h2 : Hid (inR ep 0 1000000 = true)) (h3 : Hid (inR pr (-1) 1000000000 = true)) (h4 : Hid (inR tu 0 1000 = true)) (h5 : Hid (inR sq 0 1000000000 = true)) (h6 : Hid (inR fl 0 7 = false)) :
    Calls Try.prog 72 #[bv bs ep pr tu sq fl (.slice A n c)] w fun e w' => e = .returned (.bool false) ∧ Below w.heap.size w w' := by
  unfold bv
  go_enter Try.func72, Try.ntmps72
  go_wp2_with (first | (go_at_call_of 35 (Value.int IntKind.i64 bs); refine (l1In_r bs 0 1000000000 true h1.out _).mono ?_; rintro _ _ ⟨rfl, rfl⟩) | (go_at_call_of 35 (Value.int IntKind.i64 ep); refine (l1In_r ep 0 1000000 true h2.out _).mono ?_; rintro _ _ ⟨rfl, rfl⟩) | (go_at_call_of 35 (Value.int IntKind.i64 pr); refine (l1In_r pr (-1) 1000000000 true h3.out _).mono ?_; rintro _ _ ⟨rfl, rfl⟩) | (go_at_call_of 35 (Value.int IntKind.i64 tu); refine (l1In_r tu 0 1000 true h4.out _).mono ?_; rintro _ _ ⟨rfl, rfl⟩) | (go_at_call_of 35 (Value.int IntKind.i64 sq); refine (l1In_r sq 0 1000000000 true h5.out _).mono ?_; rintro _ _ ⟨rfl, rfl⟩) | (go_at_call_of 35 (Value.int IntKind.i64 fl); refine (l1In_r fl 0 7 false h6.out _).mono ?_; rintro _ _ ⟨rfl, rfl⟩))
  go_ret
  exact ⟨rfl, below1 _ _⟩
theorem no1 (bs ep pr tu sq fl : Int) (A : Option Addr) (n c : Nat) (w : World) (h : okB1 bs ep pr tu sq fl = false) :
    Calls Try.prog 72 #[bv bs ep pr tu sq fl (.slice A n c)] w fun e w' => e = .returned (.bool false) ∧ Below w.heap.size w w' := by
  cases h1 : inR bs 0 1000000000 with
  | false => exact no1_0 bs ep pr tu sq fl A n c w h1
  | true =>
  cases h2 : inR ep 0 1000000 with
  | false => exact no1_1 bs ep pr tu sq fl A n c w h1 h2
  | true =>
  cases h3 : inR pr (-1) 1000000000 with
  | false => exact no1_2 bs ep pr tu sq fl A n c w h1 h2 h3
  | true =>
  cases h4 : inR tu 0 1000 with
  | false => exact no1_3 bs ep pr tu sq fl A n c w h1 h2 h3 h4
  | true =>
  cases h5 : inR sq 0 1000000000 with
  | false => exact no1_4 bs ep pr tu sq fl A n c w h1 h2 h3 h4 h5
  | true =>
  cases h6 : inR fl 0 7 with
  | false => exact no1_5 bs ep pr tu sq fl A n c w h1 h2 h3 h4 h5 h6
  | true =>
  simp [okB1, h1, h2, h3, h4, h5, h6] at h

set_option maxRecDepth 6000 in
set_option maxHeartbeats 1600000 in
theorem no2_a (bs ep pr tu sq fl : Int) (A : Option Addr) (n c : Nat) (w : World) (h1 : Hid (inR bs 0 1000000000 = true)) (h2 : Hid (inR ep 0 1000000 = true)) (h3 : Hid (inR pr (-1) 1000000000 = true)) (h4 : Hid (inR tu 0 1000 = true)) (h5 : Hid (inR sq 0 1000000000 = true)) (h6 : Hid (inR fl 0 7 = true)) (hp : pr < 0) (ht : (tu != 0) = true) :
    Calls Try.prog 72 #[bv bs ep pr tu sq fl (.slice A n c)] w fun e w' => e = .returned (.bool false) ∧ Below w.heap.size w w' := by
  unfold bv
  go_enter Try.func72, Try.ntmps72
  go_wp2_with (first | (go_at_call_of 35 (Value.int IntKind.i64 bs); refine (l1In_r bs 0 1000000000 true h1.out _).mono ?_; rintro _ _ ⟨rfl, rfl⟩) | (go_at_call_of 35 (Value.int IntKind.i64 ep); refine (l1In_r ep 0 1000000 true h2.out _).mono ?_; rintro _ _ ⟨rfl, rfl⟩) | (go_at_call_of 35 (Value.int IntKind.i64 pr); refine (l1In_r pr (-1) 1000000000 true h3.out _).mono ?_; rintro _ _ ⟨rfl, rfl⟩) | (go_at_call_of 35 (Value.int IntKind.i64 tu); refine (l1In_r tu 0 1000 true h4.out _).mono ?_; rintro _ _ ⟨rfl, rfl⟩) | (go_at_call_of 35 (Value.int IntKind.i64 sq); refine (l1In_r sq 0 1000000000 true h5.out _).mono ?_; rintro _ _ ⟨rfl, rfl⟩) | (go_at_call_of 35 (Value.int IntKind.i64 fl); refine (l1In_r fl 0 7 true h6.out _).mono ?_; rintro _ _ ⟨rfl, rfl⟩))
  go_ret
  exact ⟨rfl, below1 _ _⟩
set_option maxRecDepth 6000 in
set_option maxHeartbeats 1600000 in
theorem no2_b (bs ep pr tu sq fl : Int) (A : Option Addr) (n c : Nat) (w : World) (h1 : Hid (inR bs 0 1000000000 = true)) (h2 : Hid (inR ep 0 1000000 = true)) (h3 : Hid (inR pr (-1) 1000000000 = true)) (h4 : Hid (inR tu 0 1000 = true)) (h5 : Hid (inR sq 0 1000000000 = true)) (h6 : Hid (inR fl 0 7 = true)) (hp : pr < 0) (ht : (tu != 0) = false) (hs : (sq != 0) = true) :
    Calls Try.prog 72 #[bv bs ep pr tu sq fl (.slice A n c)] w fun e w' => e = .returned (.bool false) ∧ Below w.heap.size w w' := by
  unfold bv
  go_enter Try.func72, Try.ntmps72
  go_wp2_with (first | (go_at_call_of 35 (Value.int IntKind.i64 bs); refine (l1In_r bs 0 1000000000 true h1.out _).mono ?_; rintro _ _ ⟨rfl, rfl⟩) | (go_at_call_of 35 (Value.int IntKind.i64 ep); refine (l1In_r ep 0 1000000 true h2.out _).mono ?_; rintro _ _ ⟨rfl, rfl⟩) | (go_at_call_of 35 (Value.int IntKind.i64 pr); refine (l1In_r pr (-1) 1000000000 true h3.out _).mono ?_; rintro _ _ ⟨rfl, rfl⟩) | (go_at_call_of 35 (Value.int IntKind.i64 tu); refine (l1In_r tu 0 1000 true h4.out _).mono ?_; rintro _ _ ⟨rfl, rfl⟩) | (go_at_call_of 35 (Value.int IntKind.i64 sq); refine (l1In_r sq 0 1000000000 true h5.out _).mono ?_; rintro _ _ ⟨rfl, rfl⟩) | (go_at_call_of 35 (Value.int IntKind.i64 fl); refine (l1In_r fl 0 7 true h6.out _).mono ?_; rintro _ _ ⟨rfl, rfl⟩))
  go_ret
  exact ⟨rfl, below1 _ _⟩
set_option maxRecDepth 6000 in
set_option maxHeartbeats 1600000 in
theorem no2_c (bs ep pr tu sq fl : Int) (A : Option Addr) (n c : Nat) (w : World) (h1 : Hid (inR bs 0 1000000000 = true)) (h2 : Hid (inR ep 0 1000000 = true)) (h3 : Hid (inR pr (-1) 1000000000 = true)) (h4 : Hid (inR tu 0 1000 = true)) (h5 : Hid (inR sq 0 1000000000 = true)) (h6 : Hid (inR fl 0 7 = true)) (hp : pr < 0) (ht : (tu != 0) = false) (hs : (sq != 0) = false) (hq : q1 fl = true) :
    Calls Try.prog 72 #[bv bs ep pr tu sq fl (.slice A n c)] w fun e w' => e = .returned (.bool false) ∧ Below w.heap.size w w' := by
  unfold bv
  unfold q1 at hq
  go_enter Try.func72, Try.ntmps72
  go_wp2_with (first | (go_at_call_of 35 (Value.int IntKind.i64 bs); refine (l1In_r bs 0 1000000000 true h1.out _).mono ?_; rintro _ _ ⟨rfl, rfl⟩) | (go_at_call_of 35 (Value.int IntKind.i64 ep); refine (l1In_r ep 0 1000000 true h2.out _).mono ?_; rintro _ _ ⟨rfl, rfl⟩) | (go_at_call_of 35 (Value.int IntKind.i64 pr); refine (l1In_r pr (-1) 1000000000 true h3.out _).mono ?_; rintro _ _ ⟨rfl, rfl⟩) | (go_at_call_of 35 (Value.int IntKind.i64 tu); refine (l1In_r tu 0 1000 true h4.out _).mono ?_; rintro _ _ ⟨rfl, rfl⟩) | (go_at_call_of 35 (Value.int IntKind.i64 sq); refine (l1In_r sq 0 1000000000 true h5.out _).mono ?_; rintro _ _ ⟨rfl, rfl⟩) | (go_at_call_of 35 (Value.int IntKind.i64 fl); refine (l1In_r fl 0 7 true h6.out _).mono ?_; rintro _ _ ⟨rfl, rfl⟩))
  go_ret
  exact ⟨rfl, below1 _ _⟩
set_option maxRecDepth 6000 in
set_option maxHeartbeats 1600000 in
theorem no2_d (bs ep pr tu sq fl : Int) (A : Option Addr) (n c : Nat) (w : World) (h1 : Hid (inR bs 0 1000000000 = true)) (h2 : Hid (inR ep 0 1000000 = true)) (h3 : Hid (inR pr (-1) 1000000000 = true)) (h4 : Hid (inR tu 0 1000 = true)) (h5 : Hid (inR sq 0 1000000000 = true)) (h6 : Hid (inR fl 0 7 = true)) (hp : ¬ pr < 0) (hf : 4 ≤ fl) (hq0 : q0 fl = true) :
    Calls Try.prog 72 #[bv bs ep pr tu sq fl (.slice A n c)] w fun e w' => e = .returned (.bool false) ∧ Below w.heap.size w w' := by
  unfold bv
  unfold q0 at hq0
  go_enter Try.func72, Try.ntmps72
  go_wp2_with (first | (go_at_call_of 35 (Value.int IntKind.i64 bs); refine (l1In_r bs 0 1000000000 true h1.out _).mono ?_; rintro _ _ ⟨rfl, rfl⟩) | (go_at_call_of 35 (Value.int IntKind.i64 ep); refine (l1In_r ep 0 1000000 true h2.out _).mono ?_; rintro _ _ ⟨rfl, rfl⟩) | (go_at_call_of 35 (Value.int IntKind.i64 pr); refine (l1In_r pr (-1) 1000000000 true h3.out _).mono ?_; rintro _ _ ⟨rfl, rfl⟩) | (go_at_call_of 35 (Value.int IntKind.i64 tu); refine (l1In_r tu 0 1000 true h4.out _).mono ?_; rintro _ _ ⟨rfl, rfl⟩) | (go_at_call_of 35 (Value.int IntKind.i64 sq); refine (l1In_r sq 0 1000000000 true h5.out _).mono ?_; rintro _ _ ⟨rfl, rfl⟩) | (go_at_call_of 35 (Value.int IntKind.i64 fl); refine (l1In_r fl 0 7 true h6.out _).mono ?_; rintro _ _ ⟨rfl, rfl⟩))
  go_ret
  exact ⟨rfl, below1 _ _⟩
set_option maxRecDepth 6000 in
set_option maxHeartbeats 1600000 in
theorem no2_e (bs ep pr tu sq fl : Int) (A : Option Addr) (n c : Nat) (w : World) (h1 : Hid (inR bs 0 1000000000 = true)) (h2 : Hid (inR ep 0 1000000 = true)) (h3 : Hid (inR pr (-1) 1000000000 = true)) (h4 : Hid (inR tu 0 1000 = true)) (h5 : Hid (inR sq 0 1000000000 = true)) (h6 : Hid (inR fl 0 7 = true)) (hp : pr < 0) (ht : (tu != 0) = false) (hs : (sq != 0) = false) (hq : q1 fl = false) (hf : 4 ≤ fl) (hq0 : q0 fl = true) :
    Calls Try.prog 72 #[bv bs ep pr tu sq fl (.slice A n c)] w fun e w' => e = .returned (.bool false) ∧ Below w.heap.size w w' := by
  unfold bv
  unfold q1 at hq
  unfold q0 at hq0
  go_enter Try.func72, Try.ntmps72
  go_wp2_with (first | (go_at_call_of 35 (Value.int IntKind.i64 bs); refine (l1In_r bs 0 1000000000 true h1.out _).mono ?_; rintro _ _ ⟨rfl, rfl⟩) | (go_at_call_of 35 (Value.int IntKind.i64 ep); refine (l1In_r ep 0 1000000 true h2.out _).mono ?_; rintro _ _ ⟨rfl, rfl⟩) | (go_at_call_of 35 (Value.int IntKind.i64 pr); refine (l1In_r pr (-1) 1000000000 true h3.out _).mono ?_; rintro _ _ ⟨rfl, rfl⟩) | (go_at_call_of 35 (Value.int IntKind.i64 tu); refine (l1In_r tu 0 1000 true h4.out _).mono ?_; rintro _ _ ⟨rfl, rfl⟩) | (go_at_call_of 35 (Value.int IntKind.i64 sq); refine (l1In_r sq 0 1000000000 true h5.out _).mono ?_; rintro _ _ ⟨rfl, rfl⟩) | (go_at_call_of 35 (Value.int IntKind.i64 fl); refine (l1In_r fl 0 7 true h6.out _).mono ?_; rintro _ _ ⟨rfl, rfl⟩))
  go_ret
  exact ⟨rfl, below1 _ _⟩
theorem okB1_parts {bs ep pr tu sq fl : Int} (h : okB1 bs ep pr tu sq fl = true) : inR bs 0 1000000000 = true ∧ inR ep 0 1000000 = true ∧ inR pr (-1) 1000000000 = true ∧ inR tu 0 1000 = true ∧ inR sq 0 1000000000 = true ∧ inR fl 0 7 = true := by
  simp only [okB1, Bool.and_eq_true] at h
  obtain ⟨⟨⟨⟨⟨h1, h2⟩, h3⟩, h4⟩, h5⟩, h6⟩ := h
  exact ⟨h1, h2, h3, h4, h5, h6⟩
theorem no2 (bs ep pr tu sq fl : Int) (A : Option Addr) (n c : Nat) (w : World) (h0 : okB1 bs ep pr tu sq fl = true) (h : bad2 pr tu sq fl = true) :
    Calls Try.prog 72 #[bv bs ep pr tu sq fl (.slice A n c)] w fun e w' => e = .returned (.bool false) ∧ Below w.heap.size w w' := by
  obtain ⟨h1, h2, h3, h4, h5, h6⟩ := okB1_parts h0
  by_cases hp : pr < 0
  · cases ht : (tu != 0) with
    | true => exact no2_a bs ep pr tu sq fl A n c w h1 h2 h3 h4 h5 h6 hp ht
    | false =>
    cases hs : (sq != 0) with
    | true => exact no2_b bs ep pr tu sq fl A n c w h1 h2 h3 h4 h5 h6 hp ht hs
    | false =>
    cases hq : q1 fl with
    | true => exact no2_c bs ep pr tu sq fl A n c w h1 h2 h3 h4 h5 h6 hp ht hs hq
    | false =>
    simp only [bad2, ht, hs, hq, Bool.or_false, Bool.and_false, Bool.false_or, Bool.and_eq_true, decide_eq_true_eq] at h
    exact no2_e bs ep pr tu sq fl A n c w h1 h2 h3 h4 h5 h6 hp ht hs hq h.1 h.2
  · simp only [bad2, hp, decide_false, Bool.false_and, Bool.false_or, Bool.and_eq_true, decide_eq_true_eq] at h
    exact no2_d bs ep pr tu sq fl A n c w h1 h2 h3 h4 h5 h6 hp h.1 h.2

/-- The three ways past the second test. -/
def Way (pr tu sq fl : Int) : Prop := (¬ pr < 0 ∧ ¬ 4 ≤ fl) ∨ (¬ pr < 0 ∧ 4 ≤ fl ∧ q0 fl = false) ∨ (pr < 0 ∧ (tu != 0) = false ∧ (sq != 0) = false ∧ q1 fl = false ∧ ¬ 4 ≤ fl)
theorem way_of {bs ep pr tu sq fl : Int} (h0 : okB1 bs ep pr tu sq fl = true) (h : bad2 pr tu sq fl = false) : Way pr tu sq fl := by
  obtain ⟨_, _, _, _, _, h6⟩ := okB1_parts h0
  have hf : 0 ≤ fl ∧ fl ≤ 7 := by simpa [inR] using h6
  have h8 : fl = 0 ∨ fl = 1 ∨ fl = 2 ∨ fl = 3 ∨ fl = 4 ∨ fl = 5 ∨ fl = 6 ∨ fl = 7 := by omega
  by_cases hp : pr < 0
  · right; right
    cases ht : (tu != 0) with
    | true => simp [bad2, hp, ht] at h
    | false =>
    cases hs : (sq != 0) with
    | true => simp [bad2, hp, hs] at h
    | false =>
    cases hq : q1 fl with
    | true => simp [bad2, hp, hq] at h
    | false =>
    refine ⟨hp, rfl, rfl, rfl, fun h4 => ?_⟩
    have hz : q0 fl = false := by
      cases hz : q0 fl with
      | false => rfl
      | true => simp [bad2, h4, hz] at h
    rcases h8 with rfl | rfl | rfl | rfl | rfl | rfl | rfl | rfl <;> first | omega | (revert hq hz; decide +kernel)
  · by_cases h4 : 4 ≤ fl
    · right; left
      refine ⟨hp, h4, ?_⟩
      cases hz : q0 fl with
      | false => rfl
      | true => simp [bad2, h4, hz] at h
    · exact .inl ⟨hp, h4⟩
set_option maxRecDepth 6000 in
set_option maxHeartbeats 1600000 in
theorem no3_a (bs ep pr tu sq fl : Int) (A : Option Addr) (n c : Nat) (w : World) (h1 : Hid (inR bs 0 1000000000 = true)) (h2 : Hid (inR ep 0 1000000 = true)) (h3 : Hid (inR pr (-1) 1000000000 = true)) (h4 : Hid (inR tu 0 1000 = true)) (h5 : Hid (inR sq 0 1000000000 = true)) (h6 : Hid (inR fl 0 7 = true)) (hw : Way pr tu sq fl) (hn : Hid (inR (n : Int) 1 40 = false)) :
    Calls Try.prog 72 #[bv bs ep pr tu sq fl (.slice A n c)] w fun e w' => e = .returned (.bool false) ∧ Below w.heap.size w w' := by
  unfold bv
  have r1 : 0 ≤ bs ∧ bs ≤ 1000000000 := by simpa [inR] using h1.out
  have r5 : 0 ≤ sq ∧ sq ≤ 1000000000 := by simpa [inR] using h5.out
  rcases hw with ⟨hp, hf⟩ | ⟨hp, hf, hq0⟩ | ⟨hp, ht, hs, hq, hf⟩
  all_goals
    try unfold q1 at hq
    try unfold q0 at hq0
    go_enter Try.func72, Try.ntmps72
    go_wp2_with (first | (go_at_call_of 35 (Value.int IntKind.i64 bs); refine (l1In_r bs 0 1000000000 true h1.out _).mono ?_; rintro _ _ ⟨rfl, rfl⟩) | (go_at_call_of 35 (Value.int IntKind.i64 ep); refine (l1In_r ep 0 1000000 true h2.out _).mono ?_; rintro _ _ ⟨rfl, rfl⟩) | (go_at_call_of 35 (Value.int IntKind.i64 pr); refine (l1In_r pr (-1) 1000000000 true h3.out _).mono ?_; rintro _ _ ⟨rfl, rfl⟩) | (go_at_call_of 35 (Value.int IntKind.i64 tu); refine (l1In_r tu 0 1000 true h4.out _).mono ?_; rintro _ _ ⟨rfl, rfl⟩) | (go_at_call_of 35 (Value.int IntKind.i64 sq); refine (l1In_r sq 0 1000000000 true h5.out _).mono ?_; rintro _ _ ⟨rfl, rfl⟩) | (go_at_call_of 35 (Value.int IntKind.i64 fl); refine (l1In_r fl 0 7 true h6.out _).mono ?_; rintro _ _ ⟨rfl, rfl⟩) | (go_at_call_of 35 (Value.int IntKind.i64 (n : Int)); refine (l1In_r n 1 40 false hn.out _).mono ?_; rintro _ _ ⟨rfl, rfl⟩))
    go_ret
    exact ⟨rfl, below1 _ _⟩
set_option maxRecDepth 6000 in
set_option maxHeartbeats 1600000 in
theorem no3_b (bs ep pr tu sq fl : Int) (A : Option Addr) (n c : Nat) (w : World) (h1 : Hid (inR bs 0 1000000000 = true)) (h2 : Hid (inR ep 0 1000000 = true)) (h3 : Hid (inR pr (-1) 1000000000 = true)) (h4 : Hid (inR tu 0 1000 = true)) (h5 : Hid (inR sq 0 1000000000 = true)) (h6 : Hid (inR fl 0 7 = true)) (hw : Way pr tu sq fl) (hn : Hid (inR (n : Int) 1 40 = true)) (hb : 1000000000 < bs + n - 1) :
    Calls Try.prog 72 #[bv bs ep pr tu sq fl (.slice A n c)] w fun e w' => e = .returned (.bool false) ∧ Below w.heap.size w w' := by
  unfold bv
  have r1 : 0 ≤ bs ∧ bs ≤ 1000000000 := by simpa [inR] using h1.out
  have r5 : 0 ≤ sq ∧ sq ≤ 1000000000 := by simpa [inR] using h5.out
  have rn : 1 ≤ (n : Int) ∧ (n : Int) ≤ 40 := by simpa [inR] using hn.out
  rcases hw with ⟨hp, hf⟩ | ⟨hp, hf, hq0⟩ | ⟨hp, ht, hs, hq, hf⟩
  all_goals
    try unfold q1 at hq
    try unfold q0 at hq0
    go_enter Try.func72, Try.ntmps72
    go_wp2_with (first | (go_at_call_of 35 (Value.int IntKind.i64 bs); refine (l1In_r bs 0 1000000000 true h1.out _).mono ?_; rintro _ _ ⟨rfl, rfl⟩) | (go_at_call_of 35 (Value.int IntKind.i64 ep); refine (l1In_r ep 0 1000000 true h2.out _).mono ?_; rintro _ _ ⟨rfl, rfl⟩) | (go_at_call_of 35 (Value.int IntKind.i64 pr); refine (l1In_r pr (-1) 1000000000 true h3.out _).mono ?_; rintro _ _ ⟨rfl, rfl⟩) | (go_at_call_of 35 (Value.int IntKind.i64 tu); refine (l1In_r tu 0 1000 true h4.out _).mono ?_; rintro _ _ ⟨rfl, rfl⟩) | (go_at_call_of 35 (Value.int IntKind.i64 sq); refine (l1In_r sq 0 1000000000 true h5.out _).mono ?_; rintro _ _ ⟨rfl, rfl⟩) | (go_at_call_of 35 (Value.int IntKind.i64 fl); refine (l1In_r fl 0 7 true h6.out _).mono ?_; rintro _ _ ⟨rfl, rfl⟩) | (go_at_call_of 35 (Value.int IntKind.i64 (n : Int)); refine (l1In_r n 1 40 true hn.out _).mono ?_; rintro _ _ ⟨rfl, rfl⟩))
    go_ret
    exact ⟨rfl, below1 _ _⟩
set_option maxRecDepth 6000 in
set_option maxHeartbeats 1600000 in
theorem no3_c (bs ep pr tu sq fl : Int) (A : Option Addr) (n c : Nat) (w : World) (h1 : Hid (inR bs 0 1000000000 = true)) (h2 : Hid (inR ep 0 1000000 = true)) (h3 : Hid (inR pr (-1) 1000000000 = true)) (h4 : Hid (inR tu 0 1000 = true)) (h5 : Hid (inR sq 0 1000000000 = true)) (h6 : Hid (inR fl 0 7 = true)) (hw : Way pr tu sq fl) (hn : Hid (inR (n : Int) 1 40 = true)) (hb : ¬ 1000000000 < bs + n - 1) (hc : 1000000000 < sq + n - 1) :
    Calls Try.prog 72 #[bv bs ep pr tu sq fl (.slice A n c)] w fun e w' => e = .returned (.bool false) ∧ Below w.heap.size w w' := by
  unfold bv
  have r1 : 0 ≤ bs ∧ bs ≤ 1000000000 := by simpa [inR] using h1.out
  have r5 : 0 ≤ sq ∧ sq ≤ 1000000000 := by simpa [inR] using h5.out
  have rn : 1 ≤ (n : Int) ∧ (n : Int) ≤ 40 := by simpa [inR] using hn.out
  rcases hw with ⟨hp, hf⟩ | ⟨hp, hf, hq0⟩ | ⟨hp, ht, hs, hq, hf⟩
  all_goals
    try unfold q1 at hq
    try unfold q0 at hq0
    go_enter Try.func72, Try.ntmps72
    go_wp2_with (first | (go_at_call_of 35 (Value.int IntKind.i64 bs); refine (l1In_r bs 0 1000000000 true h1.out _).mono ?_; rintro _ _ ⟨rfl, rfl⟩) | (go_at_call_of 35 (Value.int IntKind.i64 ep); refine (l1In_r ep 0 1000000 true h2.out _).mono ?_; rintro _ _ ⟨rfl, rfl⟩) | (go_at_call_of 35 (Value.int IntKind.i64 pr); refine (l1In_r pr (-1) 1000000000 true h3.out _).mono ?_; rintro _ _ ⟨rfl, rfl⟩) | (go_at_call_of 35 (Value.int IntKind.i64 tu); refine (l1In_r tu 0 1000 true h4.out _).mono ?_; rintro _ _ ⟨rfl, rfl⟩) | (go_at_call_of 35 (Value.int IntKind.i64 sq); refine (l1In_r sq 0 1000000000 true h5.out _).mono ?_; rintro _ _ ⟨rfl, rfl⟩) | (go_at_call_of 35 (Value.int IntKind.i64 fl); refine (l1In_r fl 0 7 true h6.out _).mono ?_; rintro _ _ ⟨rfl, rfl⟩) | (go_at_call_of 35 (Value.int IntKind.i64 (n : Int)); refine (l1In_r n 1 40 true hn.out _).mono ?_; rintro _ _ ⟨rfl, rfl⟩))
    go_ret
    exact ⟨rfl, below1 _ _⟩
theorem no3 (bs ep pr tu sq fl : Int) (A : Option Addr) (n c : Nat) (w : World) (h0 : okB1 bs ep pr tu sq fl = true) (hw : Way pr tu sq fl) (h : okB3 bs sq n = false) :
    Calls Try.prog 72 #[bv bs ep pr tu sq fl (.slice A n c)] w fun e w' => e = .returned (.bool false) ∧ Below w.heap.size w w' := by
  obtain ⟨h1, h2, h3, h4, h5, h6⟩ := okB1_parts h0
  cases hn : inR (n : Int) 1 40 with
  | false => exact no3_a bs ep pr tu sq fl A n c w h1 h2 h3 h4 h5 h6 hw hn
  | true =>
  by_cases hb : 1000000000 < bs + n - 1
  · exact no3_b bs ep pr tu sq fl A n c w h1 h2 h3 h4 h5 h6 hw hn hb
  by_cases hc : 1000000000 < sq + n - 1
  · exact no3_c bs ep pr tu sq fl A n c w h1 h2 h3 h4 h5 h6 hw hn hb hc
  simp [okB3, hn] at h
  omega
end Go.Proofs.Ytdhicmbfknagjaa.BOk
