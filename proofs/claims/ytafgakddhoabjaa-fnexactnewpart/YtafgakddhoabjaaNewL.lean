/- NewLog of the model and of the program, and what a law asks of a log without segments. -/
import Derived.Test.YtafgakddhoabjaaInB
import Derived.Test.YtafgakddhoabjaaCells
namespace Go.Proofs.Ytafgakddhoabjaa.NewL
set_option maxRecDepth 8000
open Go.RowKit
open InB (l1In_b within_b)
set_option linter.unusedVariables false
def inR (x lo hi : Int) : Bool := decide (lo ≤ x) && decide (x ≤ hi)
def lv (a b c : Int) : Value := .agg #[.int .i64 a, .int .i64 b, .int .i64 c, .slice none 0 0]
def nl (s r : Int) : Value := if inR s 0 1000000000 && inR r 1 20000 then lv s s r else lv 0 0 0
def logArr (a b c : Int) (v : Value) : Array Value := #[.int .i64 a, .int .i64 b, .int .i64 c, v]
theorem logArr_one (a b c : Int) (v : Value) (h : v.oneCell' = true) : (logArr a b c v).all (·.oneCell') = true := by
  simp [logArr, Value.oneCell'] at h ⊢
  exact h
theorem infoL : (Try.prog.info? 32).map (·.size) = some 4 := by kernel_rfl
theorem below_alloc (w : World) (o : Obj) : Below w.heap.size w (w.alloc o) := (Below.refl _ _).grown (World.grownBy_alloc w o none) (Nat.le_refl _) (fun k e => by cases e)
theorem below_alloc2 (w : World) (o p : Obj) : Below w.heap.size w ((w.alloc o).alloc p) := (below_alloc w o).grown (World.grownBy_alloc _ p none) (by simp) (fun k e => by cases e)
set_option maxHeartbeats 800000 in
theorem spec_any (s r : Int) (w : World) : Calls Try.prog 10 #[.int .i64 s, .int .i64 r] w fun e w' => e = .returned (nl s r) ∧ Below w.heap.size w w' := by
  cases h1 : inR s 0 1000000000 with
  | false =>
    have H1 := Seg.hid h1
    have E : nl s r = lv 0 0 0 := by simp [nl, h1]
    rw [E]
    go_enter Try.func10, Try.ntmps10
    go_wp2_with (go_at_call_of 9 (Value.int IntKind.i64 s); refine (l1In_b s 0 1000000000 false H1.out _).mono ?_; rintro _ _ ⟨rfl, rfl⟩)
    exact bodyPost_ret (v := lv 0 0 0) (results_cell_row rfl _ _ w.heap.size _ _ _ _ rfl (heap_alloc_new _ _) Try.underlying32 rfl infoL) rfl ⟨rfl, below_alloc _ _⟩
  | true =>
    cases h2 : inR r 1 20000 with
    | false =>
      have H1 := Seg.hid h1
      have H2 := Seg.hid h2
      have E : nl s r = lv 0 0 0 := by simp [nl, h1, h2]
      rw [E]
      go_enter Try.func10, Try.ntmps10
      go_wp2_with fail
      refine (l1In_b s 0 1000000000 true H1.out _).mono ?_
      rintro _ _ ⟨rfl, rfl⟩
      go_wp2_with fail
      refine (l1In_b r 1 20000 false H2.out _).mono ?_
      rintro _ _ ⟨rfl, rfl⟩
      go_wp2
      exact bodyPost_ret (v := lv 0 0 0) (results_cell_row rfl _ _ w.heap.size _ _ _ _ rfl (heap_alloc_new _ _) Try.underlying32 rfl infoL) rfl ⟨rfl, below_alloc _ _⟩
    | true =>
      have H1 := Seg.hid h1
      have H2 := Seg.hid h2
      have E : nl s r = lv s s r := by simp [nl, h1, h2]
      rw [E]
      go_enter Try.func10, Try.ntmps10
      go_wp2_with fail
      refine (l1In_b s 0 1000000000 true H1.out _).mono ?_
      rintro _ _ ⟨rfl, rfl⟩
      go_wp2_with fail
      refine (l1In_b r 1 20000 true H2.out _).mono ?_
      rintro _ _ ⟨rfl, rfl⟩
      go_wp2
      exact bodyPost_ret (v := lv s s r) (results_cell_row rfl _ _ w.heap.size _ _ _ _ rfl (heap_alloc_new _ _) Try.underlying32 rfl infoL) rfl ⟨rfl, below_alloc _ _⟩
/-- A log's three numbers, as the program asks them. -/
theorem bounds_any (a b c : Int) (v : Value) (t : Bool) (ht : (inR b 0 1000000000 && (inR a 0 b && inR c 1 20000)) = t) (w : World) : Calls Try.prog 13 #[.agg #[.int .i64 a, .int .i64 b, .int .i64 c, v]] w fun e w' => e = .returned (.bool t) ∧ Below w.heap.size w w' := by
  subst ht
  cases h1 : inR b 0 1000000000 with
  | false =>
    have H1 := Seg.hid h1
    go_enter Try.func13, Try.ntmps13
    go_wp2_with fail
    refine (within_b b 0 1000000000 false H1.out _).mono ?_
    rintro _ _ ⟨rfl, rfl⟩
    go_wp2
    go_ret
    exact ⟨rfl, below_alloc _ _⟩
  | true =>
    cases h2 : inR a 0 b with
    | false =>
      have H1 := Seg.hid h1
      have H2 := Seg.hid h2
      go_enter Try.func13, Try.ntmps13
      go_wp2_with fail
      refine (within_b b 0 1000000000 true H1.out _).mono ?_
      rintro _ _ ⟨rfl, rfl⟩
      go_wp2_with fail
      refine (within_b a 0 b false H2.out _).mono ?_
      rintro _ _ ⟨rfl, rfl⟩
      go_wp2
      go_ret
      exact ⟨rfl, below_alloc _ _⟩
    | true =>
      have H1 := Seg.hid h1
      have H2 := Seg.hid h2
      go_enter Try.func13, Try.ntmps13
      go_wp2_with fail
      refine (within_b b 0 1000000000 true H1.out _).mono ?_
      rintro _ _ ⟨rfl, rfl⟩
      go_wp2_with fail
      refine (within_b a 0 b true H2.out _).mono ?_
      rintro _ _ ⟨rfl, rfl⟩
      go_wp2_with fail
      refine (within_b c 1 20000 (inR c 1 20000) rfl _).mono ?_
      rintro _ _ ⟨rfl, rfl⟩
      go_wp2
      go_ret
      exact ⟨rfl, below_alloc _ _⟩
set_option maxHeartbeats 800000 in
theorem impl_any (s r : Int) (w : World) : Calls Try.prog 11 #[.int .i64 s, .int .i64 r] w fun e w' => e = .returned (nl s r) ∧ Below w.heap.size w w' := by
  have hb : (inR s 0 1000000000 && (inR s 0 s && inR r 1 20000)) = (inR s 0 1000000000 && inR r 1 20000) := by
    rw [Bool.eq_iff_iff]
    simp [inR]
    omega
  cases h : (inR s 0 1000000000 && inR r 1 20000) with
  | false =>
    have H := Seg.hid (hb.trans h)
    have E : nl s r = lv 0 0 0 := by simp only [nl, h]; rfl
    rw [E]
    clear hb h
    go_enter Try.func11, Try.ntmps11
    go_wp2_with fail
    refine (bounds_any s s r _ false H.out _).mono ?_
    rintro _ w1 ⟨rfl, b1⟩
    have B1 := Seg.hid b1
    clear b1
    have e1 : w1.heap[w.heap.size]? = some (.cells #[.int .i64 0, .int .i64 0, .int .i64 0, .slice none 0 0] 32 (0, 0)) := by
      rw [B1.out.block _ (by simp; omega), heap_alloc_old _ _ (by simp)]
      exact heap_alloc_new _ _
    have B2 := Seg.hid ((below_alloc2 w _ _).trans (B1.out.mono (by simp; omega)))
    have TH := Seg.hid (Cells.there_of e1)
    have WH := Seg.hid (Cells.whole (vs := logArr 0 0 0 (.slice none 0 0)) e1 rfl)
    clear e1
    go_wp2_with (first | (refine wpList_store_mid rfl 32 _ _ rfl w.heap.size 0 (logArr 0 0 0 (.slice none 0 0)) rfl rfl TH.out infoL (logArr_one _ _ _ _ rfl) ?_))
    exact bodyPost_ret (v := lv 0 0 0) (results_cell_row rfl _ _ w.heap.size _ _ _ _ rfl WH.out Try.underlying32 rfl infoL) rfl ⟨rfl, Cells.below_setCells (Nat.le_refl _) _ _ _ _ B2.out⟩
  | true =>
    have H := Seg.hid (hb.trans h)
    have E : nl s r = lv s s r := by simp only [nl, h]; rfl
    rw [E]
    clear hb h
    go_enter Try.func11, Try.ntmps11
    go_wp2_with fail
    refine (bounds_any s s r _ true H.out _).mono ?_
    rintro _ w1 ⟨rfl, b1⟩
    have B1 := Seg.hid b1
    clear b1
    have e1 : w1.heap[w.heap.size]? = some (.cells #[.int .i64 0, .int .i64 0, .int .i64 0, .slice none 0 0] 32 (0, 0)) := by
      rw [B1.out.block _ (by simp; omega), heap_alloc_old _ _ (by simp)]
      exact heap_alloc_new _ _
    have e2 : w1.heap[w.heap.size + 1]? = some (.cells #[.int .i64 s, .int .i64 s, .int .i64 r, .slice none 0 0] 32 (0, 0)) := by
      rw [B1.out.block _ (by simp)]
      have := heap_alloc_new (w.alloc (.cells #[.int .i64 0, .int .i64 0, .int .i64 0, .slice none 0 0] 32)) (.cells #[.int .i64 s, .int .i64 s, .int .i64 r, .slice none 0 0] 32)
      simpa using this
    have B2 := Seg.hid ((below_alloc2 w _ _).trans (B1.out.mono (by simp; omega)))
    have E2 := Seg.hid e2
    clear e2
    have TH := Seg.hid (Cells.there_of e1)
    have WH := Seg.hid (Cells.whole (vs := logArr s s r (.slice none 0 0)) e1 rfl)
    clear e1
    go_wp2_with (first | (refine wpList_load_row rfl 32 _ rfl (w.heap.size + 1) rfl _ _ _ _ E2.out Try.underlying32 rfl infoL ?_) | (refine wpList_store_mid rfl 32 _ _ rfl w.heap.size 0 (logArr s s r (.slice none 0 0)) rfl rfl TH.out infoL (logArr_one _ _ _ _ rfl) ?_))
    exact bodyPost_ret (v := lv s s r) (results_cell_row rfl _ _ w.heap.size _ _ _ _ rfl WH.out Try.underlying32 rfl infoL) rfl ⟨rfl, Cells.below_setCells (Nat.le_refl _) _ _ _ _ B2.out⟩
end Go.Proofs.Ytafgakddhoabjaa.NewL
