/- One Log: how it lies in memory, and what the law's helpers answer; The groups of a number, as plain lists of numbers. -/
import Derived.Laws.BitsLemmas
import Derived.Laws.Bits64
import Derived.Laws.Bits64b
import Derived.Laws.Entries
import Derived.Test.YtbihajcikleccaaJI07
namespace Go.Proofs.Ytbihajcikleccaa.LogW
set_option maxRecDepth 8000
open Go.RowKit
open Recs
open Bats SegW Segs
set_option linter.unusedVariables false
structure Lg where
  start : Int
  next : Int
  roll : Int
  segs : List Sg
  deriving Inhabited
def FineL (t : Lg) : Prop := t.segs.length ≤ maxLen ∧ ∀ i, i < t.segs.length → FineS (t.segs.getD i default)
def FewL (t : Lg) : Prop := t.segs.length ≤ 1048576 ∧ ∀ i, i < t.segs.length → FewS (t.segs.getD i default)
def logArr (t : Lg) (hv : Value) : Array Value := #[.int .i64 t.start, .int .i64 t.next, .int .i64 t.roll, hv]
def logVal (t : Lg) (hv : Value) : Value := .agg #[.int .i64 t.start, .int .i64 t.next, .int .i64 t.roll, hv]
def LogAt (w : World) (lo b : Nat) (v : Value) (t : Lg) : Prop := ∃ hv, v = logVal t hv ∧ SegsAt w lo b hv t.segs
section
variable {w w' : World} {lo lo' b b' : Nat} {v : Value} {t : Lg}
theorem LogAt.keep (h : LogAt w lo b v t) (hk : ∀ g, lo ≤ g → g < b → w'.heap[g]? = w.heap[g]?) : LogAt w' lo b v t := by
  obtain ⟨hv, h1, h2⟩ := h
  exact ⟨hv, h1, h2.keep hk⟩
theorem LogAt.below (h : LogAt w lo b v t) (hb : Below b w w') : LogAt w' lo b v t := h.keep fun g _ hg => hb.block g hg
theorem LogAt.mono (h : LogAt w lo b v t) (hl : lo' ≤ lo) (hb : b ≤ b') : LogAt w lo' b' v t := by
  obtain ⟨hv, h1, h2⟩ := h
  exact ⟨hv, h1, h2.mono hl hb⟩
end
theorem logArr_one (t : Lg) (hv : Value) (h : hv.oneCell' = true) : (logArr t hv).all (·.oneCell') = true := by
  simp [logArr, Value.oneCell'] at h ⊢
  exact h
theorem infoN : (Try.prog.info? 29).map (·.size) = some 4 := by kernel_rfl

set_option maxHeartbeats 400000 in
theorem szLog_any (v : Value) (t : Lg) (l : Int) (w : World) (lo b : Nat) (h3 : -1 ≤ l) (h4 : l ≤ 1048576) (hv : LogAt w lo b v t) (hb : b ≤ w.heap.size) (hf : FineL t) :
    Calls Try.prog 6 #[v, .int .i64 l] w fun e w' => ∃ q, e = .returned (.int .i64 q) ∧ -1 ≤ q ∧ q ≤ l ∧ (0 ≤ q → FewL t) ∧ Below w.heap.size w w' := by
  obtain ⟨hv, rfl, hh⟩ := hv
  obtain ⟨f1, f2⟩ := hf
  have F2 := Seg.hid f2
  have HH := Seg.hid hh
  unfold maxLen at f1
  obtain ⟨H, ⟨hn, A, c, hve, _⟩, _⟩ := id hh
  clear hh f2
  unfold logVal
  subst hve
  go_enter Try.func6, Try.ntmps6
  go_wp2_with fail
  refine (Segs.szSegmentS_any _ t.segs _ (w.alloc _) lo b (by omega) (by omega) (HH.out.below ((below1 w _).mono hb)) (by rw [hsz]; omega) F2.out).mono ?_
  rintro e w1 ⟨q, rfl, q1, q2, q3, b1⟩
  have B1 := Seg.hid (chain (below1 w _) b1)
  have Q3 := Seg.hid q3
  clear b1 q3
  by_cases hq : q < 0
  · go_wp2
    go_ret
    exact ⟨_, rfl, by omega, by omega, fun h => absurd h (by omega), B1.out⟩
  · go_wp2
    go_ret
    exact ⟨q, rfl, by omega, by omega, fun h => ⟨by have := (Q3.out h).1; omega, (Q3.out h).2⟩, B1.out⟩

set_option maxHeartbeats 400000 in
theorem toLog_any (v : Value) (t : Lg) (w : World) (lo b : Nat) (hv : LogAt w lo b v t) (hb : b ≤ w.heap.size) (hf : FewL t) :
    Calls Try.prog 8 #[v] w fun e w' => ∃ v', e = .returned v' ∧ LogAt w' w.heap.size w'.heap.size v' t ∧ Below w.heap.size w w' := by
  obtain ⟨hv, rfl, hh⟩ := hv
  have HH := Seg.hid hh
  obtain ⟨H, ⟨hn, A, c, hve, _⟩, _⟩ := id hh
  clear hh
  unfold logVal
  subst hve
  go_enter Try.func8, Try.ntmps8
  go_wp2_with fail
  refine (Segs.toSegmentS_any _ t.segs (((w.alloc _).alloc _).alloc _) lo b (HH.out.below ((below3 w _ _ _).mono hb)) (by rw [hsz, hsz, hsz]; omega) hf.1 hf.2).mono ?_
  rintro e w1 ⟨v', rfl, hh1, b1⟩
  have B1 := Seg.hid (chain (below3 w _ _ _) b1)
  have T1 := (b1.block (w.heap.size + 1) (by rw [hsz, hsz, hsz]; omega)).trans (at3 w _ _ _)
  have T2 := (b1.block (w.heap.size + 1 + 1) (by rw [hsz, hsz, hsz]; omega)).trans (Cells.at3' w _ _ _)
  have HH1 := Seg.hid hh1
  obtain ⟨H', ⟨_, A', c', hve, _⟩, _⟩ := id hh1
  clear hh1 b1
  subst hve
  have cN := cell_of_row w1 (w.heap.size + 1 + 1) 3 _ _ _ T2
  have zN := frozen_of_row w1 (w.heap.size + 1 + 1) 3 _ _ T2
  have H3 : Hid ((w1.setCell ⟨w.heap.size + 1 + 1, 3, none⟩ (.slice A' t.segs.length c')).heap[w.heap.size + 1 + 1]? = some (.cells (logArr t (.slice A' t.segs.length c')) 29 (0, 0))) := heap_setCell_same w1 (w.heap.size + 1 + 1) 3 _ _ (.slice A' t.segs.length c') T2
  have T4 := (heap_setCell_other w1 ⟨w.heap.size + 1 + 1, 3, none⟩ (w.heap.size + 1) (.slice A' t.segs.length c') (by simp)).trans T1
  have H5 := Seg.hid (Cells.there_of T4)
  have H4 := Seg.hid (Cells.whole (vs := logArr t (.slice A' t.segs.length c')) T4 rfl)
  have B2 := Seg.hid (Cells.below_setCells (g := w.heap.size + 1) (by omega) (logArr t (.slice A' t.segs.length c')).toList 0 _ _ (B1.out.setCell (p := ⟨w.heap.size + 1 + 1, 3, none⟩) (by simp; omega) (.slice A' t.segs.length c')))
  have HF : Hid (SegsAt ((w1.setCell ⟨w.heap.size + 1 + 1, 3, none⟩ (.slice A' t.segs.length c')).setCells (w.heap.size + 1) 0 (logArr t (.slice A' t.segs.length c')).toList) w.heap.size ((w1.setCell ⟨w.heap.size + 1 + 1, 3, none⟩ (.slice A' t.segs.length c')).setCells (w.heap.size + 1) 0 (logArr t (.slice A' t.segs.length c')).toList).heap.size (.slice A' t.segs.length c') t.segs) := by
    refine (SegsAt.keep HH1.out (fun g h1 h2 => ?_)).mono ?_ ?_
    · rw [hsz, hsz, hsz] at h1
      rw [Cells.heap_setCells_other _ _ (by omega), heap_setCell_other _ _ _ _ (by show _ ≠ w.heap.size + 1 + 1; omega)]
    · rw [hsz, hsz, hsz]; omega
    · rw [Cells.size_setCells]; simp
  clear T1 T2 T4
  simp at cN
  go_wp2_with (first | (refine wpList_load_row rfl 29 _ rfl (w.heap.size + 1 + 1) rfl _ _ _ _ H3.out Try.underlying29 rfl infoN ?_) | (refine wpList_store_mid rfl 29 _ _ rfl (w.heap.size + 1) 0 (logArr t (.slice A' t.segs.length c')) rfl rfl H5.out infoN (logArr_one _ _ rfl) ?_))
  exact bodyPost_ret (v := logVal t (.slice A' t.segs.length c')) (results_cell_row rfl _ _ (w.heap.size + 1) _ _ _ _ rfl H4.out Try.underlying29 rfl infoN) rfl ⟨_, rfl, ⟨_, rfl, HF.out⟩, B2.out⟩

set_option maxHeartbeats 400000 in
theorem eqLog_any (v v' : Value) (t : Lg) (w : World) (lo lo' b : Nat) (hv : LogAt w lo b v t) (hv' : LogAt w lo' b v' t) (hb : b ≤ w.heap.size) :
    Calls Try.prog 10 #[v, v'] w fun e w' => e = .returned (.bool true) ∧ Below w.heap.size w w' := by
  obtain ⟨hv, rfl, hh⟩ := hv
  obtain ⟨hv', rfl, hh'⟩ := hv'
  have HH := Seg.hid hh; have HH' := Seg.hid hh'
  obtain ⟨_, ⟨hn, A, c, hve, _⟩, _⟩ := id hh
  obtain ⟨_, ⟨_, A', c', hve', _⟩, _⟩ := id hh'
  clear hh hh'
  unfold logVal
  subst hve hve'
  go_enter Try.func10, Try.ntmps10
  go_wp2_with fail
  refine (Segs.eqSegmentS_any _ _ t.segs ((w.alloc _).alloc _) lo lo' b (HH.out.below ((below2 w _ _).mono hb)) (HH'.out.below ((below2 w _ _).mono hb)) (by rw [hsz, hsz]; omega)).mono ?_
  rintro e w1 ⟨rfl, b1⟩
  have B1 := Seg.hid (chain (below2 w _ _) b1)
  clear b1
  go_wp2
  go_ret
  exact ⟨rfl, B1.out⟩
end Go.Proofs.Ytbihajcikleccaa.LogW
namespace Go.Proofs.Ytbihajcikleccaa.Nums
set_option maxRecDepth 8000

/-- The groups of u, the lowest first, f of them at most. -/
def digsF : Nat → Nat → List Int
  | 0, u => [(u : Int)]
  | f + 1, u => if u < 128 then [(u : Int)] else ((u % 128 + 128 : Nat) : Int) :: digsF f (u / 128)
theorem digsF_same : ∀ (f g u : Nat), u ≤ f → u ≤ g → digsF f u = digsF g u
  | 0, 0, u, _, _ => rfl
  | 0, g + 1, u, h, _ => by rw [digsF, digsF, if_pos (by omega)]
  | f + 1, 0, u, _, h => by rw [digsF, digsF, if_pos (by omega)]
  | f + 1, g + 1, u, h1, h2 => by
    rw [digsF, digsF]
    by_cases h : u < 128
    · rw [if_pos h, if_pos h]
    · rw [if_neg h, if_neg h, digsF_same f g (u / 128) (by omega) (by omega)]
/-- The groups of u, the lowest first. -/
def digs (u : Nat) : List Int := digsF u u

theorem digs_lt {u : Nat} (h : u < 128) : digs u = [(u : Int)] := by
  cases u with
  | zero => rfl
  | succ n => rw [digs, digsF, if_pos h]
theorem digs_ge {u : Nat} (h : ¬ u < 128) : digs u = ((u % 128 + 128 : Nat) : Int) :: digs (u / 128) := by
  cases u with
  | zero => omega
  | succ n => rw [digs, digsF, if_neg h, digs, digsF_same n ((n + 1) / 128) ((n + 1) / 128) (by omega) (Nat.le_refl _)]
theorem digs_len : ∀ (k u : Nat), u < 128 ^ k → 0 < k → (digs u).length ≤ k := by
  intro k
  induction k with
  | zero => intro u _ h; omega
  | succ k ih =>
    intro u hu _
    by_cases h : u < 128
    · rw [digs_lt h]; simp
    · rw [digs_ge h]
      have hk : 0 < k := by
        rcases Nat.eq_zero_or_pos k with rfl | h'
        · simp at hu; omega
        · exact h'
      have : u / 128 < 128 ^ k := by rw [Nat.div_lt_iff_lt_mul (by decide)]; rw [Nat.pow_succ] at hu; exact hu
      have := ih (u / 128) this hk
      simp; omega
theorem digs_len10 {u : Nat} (h : u < 18446744073709551616) : (digs u).length ≤ 10 := digs_len 10 u (by omega) (by decide)
theorem digs_pos (u : Nat) : 0 < (digs u).length := by
  by_cases h : u < 128
  · rw [digs_lt h]; simp
  · rw [digs_ge h]; simp

/-- The sign folded into the lowest bit. -/
def fold (n : Int) : Nat := if n < 0 then (-2 * n - 1).toNat else (2 * n).toNat
theorem fold_neg {n : Int} (h : n < 0) : fold n = (-2 * n - 1).toNat := by rw [fold, if_pos h]
theorem fold_pos {n : Int} (h : ¬ n < 0) : fold n = (2 * n).toNat := by rw [fold, if_neg h]
theorem fold_lt {n : Int} (h0 : -9223372036854775808 ≤ n) (h1 : n ≤ 9223372036854775807) : fold n < 18446744073709551616 := by
  unfold fold; split <;> omega
def put (n : Int) : List Int := digs (fold n)
theorem put_len {n : Int} (h0 : -9223372036854775808 ≤ n) (h1 : n ≤ 9223372036854775807) : (put n).length ≤ 10 := digs_len10 (fold_lt h0 h1)
theorem put_pos (n : Int) : 0 < (put n).length := digs_pos _

theorem u64_and127 (x : Int) (h0 : 0 ≤ x) (h1 : x < 18446744073709551616) : bits .and .u64 x 127 = x % 128 :=
  bits_mask .u64 64 (by decide) (fun n a b => by rw [IntKind.wrap_u64]; omega) 7 (by decide) x h0 h1
theorem u8_orr128 (y : Int) (h0 : 0 ≤ y) (h1 : y < 128) : bits .or .u8 y 128 = y + 128 := by
  obtain ⟨n, rfl⟩ := Int.eq_ofNat_of_zero_le h0
  have hn : n < 128 := by omega
  clear h0 h1
  revert n
  decide +kernel
theorem u64_not (x : Int) (h0 : 0 ≤ x) (h1 : x < 18446744073709551616) : bits .xor .u64 IntKind.u64.max x = 18446744073709551615 - x := by
  obtain ⟨a, rfl⟩ := Int.eq_ofNat_of_zero_le h0
  have ha : a < 18446744073709551616 := by omega
  have hm : IntKind.u64.max = ((18446744073709551615 : Nat) : Int) := by decide
  rw [hm, bits_xor_u64_nat _ _ (by decide) ha]
  have hb : (18446744073709551615 : Nat) ^^^ a = 18446744073709551615 - a := by
    have h := congrArg BitVec.toNat (show BitVec.allOnes 64 ^^^ BitVec.ofNat 64 a = ~~~ (BitVec.ofNat 64 a) from BitVec.allOnes_xor)
    rw [BitVec.toNat_xor, BitVec.toNat_not, BitVec.toNat_allOnes, BitVec.toNat_ofNat, Nat.mod_eq_of_lt (by omega)] at h
    exact h
  rw [hb]
  omega
theorem neg_fold (n : Int) (h0 : -9223372036854775808 ≤ n) (h : n < 0) :
    bits .xor .u64 IntKind.u64.max (IntKind.u64.wrap (IntKind.u64.wrap n * 2)) = ((fold n : Nat) : Int) := by
  rw [fold_neg h, IntKind.wrap_u64, IntKind.wrap_u64, u64_not _ (by omega) (by omega)]
  omega
theorem pos_fold (n : Int) (h : 0 ≤ n) : n * 2 = ((fold n : Nat) : Int) := by
  rw [fold_pos (by omega)]; omega

/-- The reading of groups from a place on, f of them at most: the k-th group next, u so far. -/
def scanF (l : List Int) (a : Nat) : Nat → Nat → Nat → Option (Nat × Nat)
  | 0, _, _ => none
  | f + 1, k, u =>
    if a + k < l.length then
      if k = 9 ∧ 1 < (l.getD (a + k) 0).toNat then none
      else if (l.getD (a + k) 0).toNat < 128 then
        if (l.getD (a + k) 0).toNat = 0 ∧ 0 < k then none else some (u + (l.getD (a + k) 0).toNat % 128 * 2 ^ (7 * k), a + k + 1)
      else scanF l a f (k + 1) (u + (l.getD (a + k) 0).toNat % 128 * 2 ^ (7 * k))
    else none
/-- The reading of groups from a place on: the k-th group next, u so far, ten of them at most. -/
def scan (l : List Int) (a k u : Nat) : Option (Nat × Nat) := scanF l a (10 - k) k u
theorem scan_eq (l : List Int) (a k u : Nat) : scan l a k u =
    if k < 10 then
      if a + k < l.length then
        if k = 9 ∧ 1 < (l.getD (a + k) 0).toNat then none
        else if (l.getD (a + k) 0).toNat < 128 then
          if (l.getD (a + k) 0).toNat = 0 ∧ 0 < k then none else some (u + (l.getD (a + k) 0).toNat % 128 * 2 ^ (7 * k), a + k + 1)
        else scan l a (k + 1) (u + (l.getD (a + k) 0).toNat % 128 * 2 ^ (7 * k))
      else none
    else none := by
  by_cases h : k < 10
  · rw [if_pos h]
    obtain ⟨f, hf⟩ : ∃ f, 10 - k = f + 1 := ⟨9 - k, by omega⟩
    have hf2 : 10 - (k + 1) = f := by omega
    unfold scan
    rw [hf, hf2]
    rfl
  · rw [if_neg h, scan, show 10 - k = 0 by omega]
    rfl

def unf (u : Nat) : Int := if u % 2 = 1 then -((u / 2 : Nat) : Int) - 1 else ((u / 2 : Nat) : Int)

/-- What GetInt answers, as three values. -/
def got : Option (Nat × Nat) → Array Value
  | none => #[.int .i64 0, .int .i64 0, .bool false]
  | some (u, nx) => #[.int .i64 (unf u), .int .i64 nx, .bool true]

theorem scan_short {l : List Int} {a k u : Nat} (h : ¬ a + k < l.length) : scan l a k u = none := by
  by_cases hk : k < 10
  · rw [scan_eq, if_pos hk, if_neg h]
  · rw [scan_eq, if_neg hk]
theorem scan_ten {l : List Int} {a u x : Nat} (h : a + 9 < l.length) (hx : (l.getD (a + 9) 0).toNat = x) (h1 : 1 < x) : scan l a 9 u = none := by
  rw [scan_eq, if_pos (by decide), if_pos h, hx, if_pos ⟨rfl, h1⟩]
theorem scan_more {l : List Int} {a k u x : Nat} (hk : k < 9) (h : a + k < l.length) (hx : (l.getD (a + k) 0).toNat = x) (h1 : ¬ x < 128) : scan l a k u = scan l a (k + 1) (u + x % 128 * 2 ^ (7 * k)) := by
  rw [scan_eq, if_pos (by omega), if_pos h, hx, if_neg (by omega), if_neg h1]
theorem scan_void {l : List Int} {a k u x : Nat} (hk : k < 10) (h0 : 0 < k) (h : a + k < l.length) (hx : (l.getD (a + k) 0).toNat = x) (h1 : x = 0) : scan l a k u = none := by
  rw [scan_eq, if_pos hk, if_pos h, hx, if_neg (by omega), if_pos (by omega), if_pos ⟨h1, h0⟩]
theorem scan_last {l : List Int} {a k u x : Nat} (hk : k < 10) (h : a + k < l.length) (hx : (l.getD (a + k) 0).toNat = x) (h9 : ¬ (k = 9 ∧ 1 < x)) (h1 : x < 128) (h2 : ¬ (x = 0 ∧ 0 < k)) : scan l a k u = some (u + x % 128 * 2 ^ (7 * k), a + k + 1) := by
  rw [scan_eq, if_pos hk, if_pos h, hx, if_neg h9, if_pos h1, if_neg h2]
theorem sum_lt {u x k : Nat} (hu : u < 2 ^ (7 * k)) : u + x % 128 * 2 ^ (7 * k) < 2 ^ (7 * (k + 1)) := by
  have e : 2 ^ (7 * (k + 1)) = 2 ^ (7 * k) * 128 := by rw [Nat.mul_succ, Nat.pow_add]
  have : x % 128 * 2 ^ (7 * k) ≤ 127 * 2 ^ (7 * k) := Nat.mul_le_mul_right _ (by omega)
  omega
theorem sum_64 {u x k : Nat} (hk : k < 10) (hu : u < 2 ^ (7 * k)) (h9 : ¬ (k = 9 ∧ 1 < x)) : u + x % 128 * 2 ^ (7 * k) < 18446744073709551616 := by
  by_cases h : k = 9
  · subst h
    have hx : x % 128 ≤ 1 := by omega
    have : x % 128 * 2 ^ (7 * 9) ≤ 1 * 2 ^ (7 * 9) := Nat.mul_le_mul_right _ hx
    have e : (2 : Nat) ^ (7 * 9) = 9223372036854775808 := by decide
    omega
  · have := sum_lt (x := x) hu
    have e : (2 : Nat) ^ (7 * (k + 1)) ≤ 2 ^ 63 := Nat.pow_le_pow_right (by decide) (by omega)
    have e2 : (2 : Nat) ^ 63 = 9223372036854775808 := by decide
    omega
theorem prod_64 {x k : Nat} (hk : k < 10) (h9 : ¬ (k = 9 ∧ 1 < x)) : x % 128 * 2 ^ (7 * k) < 18446744073709551616 := by
  have := sum_64 (u := 0) (x := x) hk (Nat.two_pow_pos _) h9
  omega
theorem or_add {u x k : Nat} (hk : k < 10) (hu : u < 2 ^ (7 * k)) (h9 : ¬ (k = 9 ∧ 1 < x)) :
    bits .or .u64 (u : Int) ((x % 128 * 2 ^ (7 * k) : Nat) : Int) = ((u + x % 128 * 2 ^ (7 * k) : Nat) : Int) := by
  have h1 := sum_64 (x := x) hk hu h9
  rw [bits_or_u64_nat _ _ (by omega) (by omega)]
  congr 1
  rw [Nat.mul_comm, Nat.add_comm, Nat.or_comm, Nat.two_pow_add_eq_or_of_lt hu]
theorem shl_x {x k : Nat} (hk : k < 10) (h9 : ¬ (k = 9 ∧ 1 < x)) (m : Int) (hm : m = ((x % 128 : Nat) : Int)) : IntKind.u64.wrap (m * 2 ^ (7 * k)) = ((x % 128 * 2 ^ (7 * k) : Nat) : Int) := by
  have h1 := prod_64 hk h9
  rw [hm, IntKind.wrap_u64]
  have : (((x % 128 : Nat) : Int) * 2 ^ (7 * k)) = ((x % 128 * 2 ^ (7 * k) : Nat) : Int) := by simp
  rw [this]
  omega
theorem u8_and127 (x : Int) (h0 : 0 ≤ x) (h1 : x < 256) : bits .and .u8 x 127 = x % 128 := bits_mask .u8 8 (by decide) wraps_u8 7 (by decide) x h0 h1
theorem u64_and1 (x : Int) (h0 : 0 ≤ x) (h1 : x < 18446744073709551616) : bits .and .u64 x 1 = x % 2 :=
  bits_mask .u64 64 (by decide) (fun n a b => by rw [IntKind.wrap_u64]; omega) 1 (by decide) x h0 h1
theorem shl_p {x k p : Nat} (hk : k < 10) (h9 : ¬ (k = 9 ∧ 1 < x)) (hp : p = x % 128 * 2 ^ (7 * k)) : IntKind.u64.wrap ((x : Int) % 128 * 2 ^ (7 * k)) = (p : Int) := by
  rw [shl_x hk h9 _ (by omega), hp]
theorem or_p {x k p m : Nat} (hk : k < 10) (hu : m < 2 ^ (7 * k)) (h9 : ¬ (k = 9 ∧ 1 < x)) (hp : p = x % 128 * 2 ^ (7 * k)) : bits .or .u64 (m : Int) (p : Int) = (m : Int) + (p : Int) := by
  have := or_add hk hu h9
  rw [← hp] at this
  rw [this]; simp
/-- Where a reading stands: k groups are read, they come to m. -/
structure At (l : List Int) (a k m : Nat) : Prop where
  lt : m < 2 ^ (7 * k)
  eq : scan l a 0 0 = scan l a k m
theorem At.start (l : List Int) (a : Nat) : At l a 0 0 := ⟨by decide, rfl⟩
theorem At.short {l : List Int} {a k m : Nat} (h : At l a k m) (hl : ¬ a + k < l.length) : scan l a 0 0 = none := h.eq.trans (scan_short hl)
theorem At.next {l : List Int} {a k m x p : Nat} (h : At l a k m) (hk : k < 9) (hl : a + k < l.length) (hx : (l.getD (a + k) 0).toNat = x) (h1 : ¬ x < 128) (hp : p = x % 128 * 2 ^ (7 * k)) : At l a (k + 1) (m + p) :=
  ⟨by rw [hp]; exact sum_lt h.lt, by rw [hp]; exact h.eq.trans (scan_more hk hl hx h1)⟩
theorem zk {x k : Nat} (h : ¬ (x = 0 ∧ 0 < k)) : (((x : Int) == 0) && decide (0 < (k : Int))) = false := by
  rw [Bool.and_eq_false_iff]
  by_cases hx : x = 0
  · exact .inr (by simp; omega)
  · exact .inl (beq_eq_false_iff_ne.2 (by omega))
theorem unf_odd {m p : Nat} (h : (((m : Int) + (p : Int)) % 2 == 1) = true) : -(((m : Int) + (p : Int)) / 2) - 1 = unf (m + p) := by
  have := eq_of_beq h
  rw [unf, if_pos (by omega)]; omega
theorem unf_even {m p : Nat} (h : (((m : Int) + (p : Int)) % 2 == 1) = false) : ((m : Int) + (p : Int)) / 2 = unf (m + p) := by
  have := ne_of_beq_false h
  rw [unf, if_neg (by omega)]; omega
end Go.Proofs.Ytbihajcikleccaa.Nums
