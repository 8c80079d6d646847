/- What the law's helpers over one Record answer; RecordOk of the model and of the program: one plain function of the record. -/
import Derived.WalkLawsBesides
import Derived.Test.YtdhicmbfknagjaaJWT05
namespace Go.Proofs.Ytdhicmbfknagjaa.RecW
set_option maxRecDepth 8000
open Go.RowKit
open Recs
set_option linter.unusedVariables false

set_option maxHeartbeats 400000 in
theorem szRecord_any (v : Value) (r : Rec) (l : Int) (w : World) (lo b : Nat) (h3 : -1 ≤ l) (h4 : l ≤ 1048576) (hv : RecAt w lo b v r) (hb : b ≤ w.heap.size) (hf : FineR r) :
    Calls Try.prog 149 #[v, .int .i64 l] w fun e w' => ∃ q, e = .returned (.int .i64 q) ∧ -1 ≤ q ∧ q ≤ l ∧ (0 ≤ q → FewR r) ∧ Below w.heap.size w w' := by
  obtain ⟨hv, rfl, hh⟩ := hv
  obtain ⟨f1, f2, f3, f4⟩ := hf
  have F4 := Seg.hid f4
  have HH := Seg.hid hh
  unfold maxLen at f1 f2 f3
  obtain ⟨hn, A, c, hve, _⟩ := id hh
  clear hh f4
  unfold recVal
  subst hve
  go_enter Try.func149, Try.ntmps149
  by_cases k1 : l - (r.key.size : Int) < 0
  · go_wp2
    go_ret
    exact ⟨_, rfl, by omega, by omega, fun h => absurd h (by omega), below1 _ _⟩
  by_cases k2 : l - (r.key.size : Int) - (r.val.size : Int) < 0
  · go_wp2
    go_ret
    exact ⟨_, rfl, by omega, by omega, fun h => absurd h (by omega), below1 _ _⟩
  go_wp2_with fail
  refine (Sz.szHeadS_any _ r.heads _ (w.alloc _) lo b (by omega) (by omega) (HH.out.below ((below1 w _).mono hb)) (by rw [hsz]; omega) F4.out).mono ?_
  rintro e w1 ⟨q, rfl, q1, q2, q3, b1⟩
  have B1 := Seg.hid (chain (below1 w _) b1)
  have Q3 := Seg.hid q3
  clear b1 q3
  by_cases hq : q < 0
  · go_wp2
    go_ret
    exact ⟨_, rfl, by omega, by omega, fun h => absurd h (by omega), B1.out⟩
  · go_wp2
    go_ret
    exact ⟨q, rfl, by omega, by omega, fun h => by have := Q3.out h; unfold FewR; omega, B1.out⟩

def recArr (r : Rec) (hv : Value) : Array Value := #[.int .i64 r.time, .bool r.keyed, .string r.key, .bool r.gone, .string r.val, hv]
theorem recArr_one (r : Rec) (hv : Value) (h : hv.oneCell' = true) : (recArr r hv).all (·.oneCell') = true := by
  simp [recArr, Value.oneCell'] at h ⊢
  exact h
theorem info29 : (Try.prog.info? 160).map (·.size) = some 6 := by kernel_rfl
set_option maxHeartbeats 400000 in
theorem toRecord_any (v : Value) (r : Rec) (w : World) (lo b : Nat) (hv : RecAt w lo b v r) (hb : b ≤ w.heap.size) (hf : FewR r) :
    Calls Try.prog 150 #[v] w fun e w' => ∃ v', e = .returned v' ∧ RecAt w' w.heap.size w'.heap.size v' r ∧ Below w.heap.size w w' := by
  obtain ⟨hv, rfl, hh⟩ := hv
  have HH := Seg.hid hh
  obtain ⟨hn, A, c, hve, _⟩ := id hh
  clear hh
  unfold recVal
  subst hve
  go_enter Try.func150, Try.ntmps150
  go_wp2_with fail
  refine (Sz.toHeadS_any _ r.heads (((w.alloc _).alloc _).alloc _) lo b (HH.out.below ((below3 w _ _ _).mono hb)) (by rw [hsz, hsz, hsz]; omega) hf).mono ?_
  rintro e w1 ⟨v', rfl, hh1, b1⟩
  have B1 := Seg.hid (chain (below3 w _ _ _) b1)
  have T1 := (b1.block (w.heap.size + 1) (by rw [hsz, hsz, hsz]; omega)).trans (at3 w _ _ _)
  have T2 := (b1.block (w.heap.size + 1 + 1) (by rw [hsz, hsz, hsz]; omega)).trans (Cells.at3' w _ _ _)
  have HH1 := Seg.hid hh1
  obtain ⟨_, A', c', hve, _⟩ := id hh1
  clear hh1 b1
  subst hve
  have c5 := cell_of_row w1 (w.heap.size + 1 + 1) 5 _ _ _ T2
  have z5 := frozen_of_row w1 (w.heap.size + 1 + 1) 5 _ _ T2
  have H3 : Hid ((w1.setCell ⟨w.heap.size + 1 + 1, 5, none⟩ (.slice A' r.heads.length c')).heap[w.heap.size + 1 + 1]? = some (.cells (recArr r (.slice A' r.heads.length c')) 160 (0, 0))) := heap_setCell_same w1 (w.heap.size + 1 + 1) 5 _ _ (.slice A' r.heads.length c') T2
  have T4 := (heap_setCell_other w1 ⟨w.heap.size + 1 + 1, 5, none⟩ (w.heap.size + 1) (.slice A' r.heads.length c') (by simp)).trans T1
  have H5 := Seg.hid (Cells.there_of T4)
  have H4 := Seg.hid (Cells.whole (vs := recArr r (.slice A' r.heads.length c')) T4 rfl)
  have B2 := Seg.hid (Cells.below_setCells (g := w.heap.size + 1) (by omega) (recArr r (.slice A' r.heads.length c')).toList 0 _ _ (B1.out.setCell (p := ⟨w.heap.size + 1 + 1, 5, none⟩) (by simp; omega) (.slice A' r.heads.length c')))
  have HF : Hid (Heads ((w1.setCell ⟨w.heap.size + 1 + 1, 5, none⟩ (.slice A' r.heads.length c')).setCells (w.heap.size + 1) 0 (recArr r (.slice A' r.heads.length c')).toList) w.heap.size ((w1.setCell ⟨w.heap.size + 1 + 1, 5, none⟩ (.slice A' r.heads.length c')).setCells (w.heap.size + 1) 0 (recArr r (.slice A' r.heads.length c')).toList).heap.size (.slice A' r.heads.length c') r.heads) := by
    refine (Heads.keep HH1.out (fun g h1 h2 => ?_)).mono ?_ ?_
    · rw [hsz, hsz, hsz] at h1
      rw [Cells.heap_setCells_other _ _ (by omega), heap_setCell_other _ _ _ _ (by show _ ≠ w.heap.size + 1 + 1; omega)]
    · rw [hsz, hsz, hsz]; omega
    · rw [Cells.size_setCells]; simp
  clear T1 T2 T4
  simp at c5
  go_wp2_with (first | (refine wpList_load_row rfl 160 _ rfl (w.heap.size + 1 + 1) rfl _ _ _ _ H3.out Try.underlying160 rfl info29 ?_) | (refine wpList_store_mid rfl 160 _ _ rfl (w.heap.size + 1) 0 (recArr r (.slice A' r.heads.length c')) rfl rfl H5.out info29 (recArr_one _ _ rfl) ?_))
  exact bodyPost_ret (v := recVal r (.slice A' r.heads.length c')) (results_cell_row rfl _ _ (w.heap.size + 1) _ _ _ _ rfl H4.out Try.underlying160 rfl info29) rfl ⟨_, rfl, ⟨_, rfl, HF.out⟩, B2.out⟩

set_option maxHeartbeats 400000 in
theorem eqRecord_any (v v' : Value) (r : Rec) (w : World) (lo lo' b : Nat) (hv : RecAt w lo b v r) (hv' : RecAt w lo' b v' r) (hb : b ≤ w.heap.size) :
    Calls Try.prog 151 #[v, v'] w fun e w' => e = .returned (.bool true) ∧ Below w.heap.size w w' := by
  obtain ⟨hv, rfl, hh⟩ := hv
  obtain ⟨hv', rfl, hh'⟩ := hv'
  have HH := Seg.hid hh; have HH' := Seg.hid hh'
  obtain ⟨hn, A, c, hve, _⟩ := id hh
  obtain ⟨_, A', c', hve', _⟩ := id hh'
  clear hh hh'
  unfold recVal
  subst hve hve'
  go_enter Try.func151, Try.ntmps151
  go_wp2_with fail
  refine (Sz.eqHeadS_any _ _ r.heads ((w.alloc _).alloc _) lo lo' b (HH.out.below ((below2 w _ _).mono hb)) (HH'.out.below ((below2 w _ _).mono hb)) (by rw [hsz, hsz]; omega)).mono ?_
  rintro e w1 ⟨rfl, b1⟩
  have B1 := Seg.hid (chain (below2 w _ _) b1)
  clear b1
  go_wp2
  go_ret
  exact ⟨rfl, B1.out⟩
end Go.Proofs.Ytdhicmbfknagjaa.RecW
namespace Go.Proofs.Ytdhicmbfknagjaa.ROk
set_option maxRecDepth 8000
open Go.RowKit
open Recs
set_option linter.unusedVariables false

def okH (h : Hd) : Bool := !h.key.toList.isEmpty && decide (h.key.size ≤ 100) && decide (h.val.size ≤ 100)
def okR0 (r : Rec) : Bool := (decide (0 ≤ r.time) && decide (r.time ≤ 1000000000000)) && decide (r.key.size ≤ 100) && decide (r.val.size ≤ 100) && decide (r.heads.length ≤ 3)
def okR1 (r : Rec) : Bool := (r.keyed || r.key.toList.isEmpty) && (!r.gone || r.val.toList.isEmpty)
def okR (r : Rec) : Bool := okR0 r && okR1 r && r.heads.all okH

theorem l1In_any (x lo hi : Int) (w : World) : Calls Try.prog 35 #[.int .i64 x, .int .i64 lo, .int .i64 hi] w fun e w' => e = .returned (.bool (decide (lo ≤ x) && decide (x ≤ hi))) ∧ w = w' := by
  go_enter Try.func35, Try.ntmps35
  go_wp2
  all_goals
    go_ret
    exact ⟨Seg.ret_bool (by rw [Bool.eq_iff_iff]; simp; try omega), rfl⟩
theorem within_any (x lo hi : Int) (w : World) : Calls Try.prog 41 #[.int .i64 x, .int .i64 lo, .int .i64 hi] w fun e w' => e = .returned (.bool (decide (lo ≤ x) && decide (x ≤ hi))) ∧ w = w' := by
  go_enter Try.func41, Try.ntmps41
  go_wp2
  all_goals
    go_ret
    exact ⟨Seg.ret_bool (by rw [Bool.eq_iff_iff]; simp; try omega), rfl⟩
theorem textOk_any (s : ByteArray) (w : World) : Calls Try.prog 144 #[.string s] w fun e w' => e = .returned (.bool (decide (s.size ≤ 100))) ∧ w = w' := by
  go_enter Try.func144, Try.ntmps144
  go_wp2
  all_goals
    go_ret
    exact ⟨Seg.ret_bool (by rw [Bool.eq_iff_iff]; simp; omega), rfl⟩

theorem l1In_b (x lo hi : Int) (b : Bool) (hb : (decide (lo ≤ x) && decide (x ≤ hi)) = b) (w : World) : Calls Try.prog 35 #[.int .i64 x, .int .i64 lo, .int .i64 hi] w fun e w' => e = .returned (.bool b) ∧ w = w' := by
  subst hb; exact l1In_any x lo hi w
theorem within_b (x lo hi : Int) (b : Bool) (hb : (decide (lo ≤ x) && decide (x ≤ hi)) = b) (w : World) : Calls Try.prog 41 #[.int .i64 x, .int .i64 lo, .int .i64 hi] w fun e w' => e = .returned (.bool b) ∧ w = w' := by
  subst hb; exact within_any x lo hi w
theorem textOk_b (s : ByteArray) (b : Bool) (hb : decide (s.size ≤ 100) = b) (w : World) : Calls Try.prog 144 #[.string s] w fun e w' => e = .returned (.bool b) ∧ w = w' := by
  subst hb; exact textOk_any s w
theorem gt_of (n m : Nat) (h : decide (n ≤ m) = false) : (m : Int) < (n : Int) := by simp at h; omega
theorem le_of (n m : Nat) (h : decide (n ≤ m) = true) : ¬ (m : Int) < (n : Int) := by simp at h; omega

def rv (t : Int) (kd : Bool) (k : ByteArray) (gn : Bool) (v : ByteArray) (hv : Value) : Value := .agg #[.int .i64 t, .bool kd, .string k, .bool gn, .string v, hv]
def ok0 (t : Int) (k v : ByteArray) (n : Nat) : Bool := (decide (0 ≤ t) && decide (t ≤ 1000000000000)) && decide (k.size ≤ 100) && decide (v.size ≤ 100) && decide (n ≤ 3)
def ok1 (kd : Bool) (k : ByteArray) (gn : Bool) (v : ByteArray) : Bool := (kd || k.toList.isEmpty) && (!gn || v.toList.isEmpty)

set_option maxHeartbeats 800000 in
theorem spec_no0 (t : Int) (kd : Bool) (k : ByteArray) (gn : Bool) (v : ByteArray) (A : Option Addr) (n c : Nat) (w : World) (h : ok0 t k v n = false) :
    Calls Try.prog 105 #[rv t kd k gn v (.slice A n c)] w fun e w' => e = .returned (.bool false) ∧ Below w.heap.size w w' := by
  unfold rv
  cases h1 : (decide (0 ≤ t) && decide (t ≤ 1000000000000)) with
  | false =>
    have H1 := Seg.hid h1
    clear h
    try clear h1
    try clear h2
    try clear h3
    try clear h4
    go_enter Try.func105, Try.ntmps105
    go_wp2_with (go_at_call 35; refine (l1In_b _ _ _ _ H1.out _).mono ?_; rintro _ _ ⟨rfl, rfl⟩)
    go_ret
    exact ⟨rfl, below1 _ _⟩
  | true =>
  have H1 := Seg.hid h1
  cases h2 : decide (k.size ≤ 100) with
  | false =>
    have g2 : (100 : Int) < (k.size : Int) := gt_of _ _ h2
    clear h
    try clear h1
    try clear h2
    try clear h3
    try clear h4
    go_enter Try.func105, Try.ntmps105
    go_wp2_with (go_at_call 35; refine (l1In_b _ _ _ _ H1.out _).mono ?_; rintro _ _ ⟨rfl, rfl⟩)
    go_ret
    exact ⟨rfl, below1 _ _⟩
  | true =>
  have g2 : ¬ (100 : Int) < (k.size : Int) := le_of _ _ h2
  cases h3 : decide (v.size ≤ 100) with
  | false =>
    have g3 : (100 : Int) < (v.size : Int) := gt_of _ _ h3
    clear h
    try clear h1
    try clear h2
    try clear h3
    try clear h4
    go_enter Try.func105, Try.ntmps105
    go_wp2_with (go_at_call 35; refine (l1In_b _ _ _ _ H1.out _).mono ?_; rintro _ _ ⟨rfl, rfl⟩)
    go_ret
    exact ⟨rfl, below1 _ _⟩
  | true =>
  have g3 : ¬ (100 : Int) < (v.size : Int) := le_of _ _ h3
  cases h4 : decide (n ≤ 3) with
  | false =>
    have g4 : (3 : Int) < (n : Int) := gt_of _ _ h4
    clear h
    try clear h1
    try clear h2
    try clear h3
    try clear h4
    go_enter Try.func105, Try.ntmps105
    go_wp2_with (go_at_call 35; refine (l1In_b _ _ _ _ H1.out _).mono ?_; rintro _ _ ⟨rfl, rfl⟩)
    go_ret
    exact ⟨rfl, below1 _ _⟩
  | true => simp [ok0] at h h1 h2 h3 h4; omega

theorem ok0_parts {t : Int} {k v : ByteArray} {n : Nat} (h : ok0 t k v n = true) : (decide (0 ≤ t) && decide (t ≤ 1000000000000)) = true ∧ decide (k.size ≤ 100) = true ∧ decide (v.size ≤ 100) = true ∧ decide (n ≤ 3) = true := by
  simp only [ok0, Bool.and_eq_true] at h ⊢
  exact ⟨h.1.1.1, h.1.1.2, h.1.2, h.2⟩
set_option maxHeartbeats 800000 in
theorem spec_no1 (t : Int) (kd : Bool) (k : ByteArray) (gn : Bool) (v : ByteArray) (A : Option Addr) (n c : Nat) (w : World) (h0 : ok0 t k v n = true) (h : ok1 kd k gn v = false) :
    Calls Try.prog 105 #[rv t kd k gn v (.slice A n c)] w fun e w' => e = .returned (.bool false) ∧ Below w.heap.size w w' := by
  unfold rv
  obtain ⟨a1, a2, a3, a4⟩ := ok0_parts h0
  have H1 := Seg.hid a1
  have g2 : ¬ (100 : Int) < (k.size : Int) := le_of _ _ a2
  have g3 : ¬ (100 : Int) < (v.size : Int) := le_of _ _ a3
  have g4 : ¬ (3 : Int) < (n : Int) := le_of _ _ a4
  clear a1 a2 a3 a4 h0
  cases e1 : (kd || k.toList.isEmpty) with
  | false =>
    obtain ⟨rfl, hk⟩ := Bool.or_eq_false_iff.1 e1
    clear e1 h
    go_enter Try.func105, Try.ntmps105
    go_wp2_with (go_at_call 35; refine (l1In_b _ _ _ _ H1.out _).mono ?_; rintro _ _ ⟨rfl, rfl⟩)
    go_ret
    exact ⟨rfl, below1 _ _⟩
  | true =>
    have e2 : (!gn || v.toList.isEmpty) = false := by rw [ok1, e1] at h; simpa using h
    obtain ⟨hg, hv⟩ := Bool.or_eq_false_iff.1 e2
    obtain rfl : gn = true := by simpa using hg
    clear e2 h hg
    cases kd with
    | true =>
      clear e1
      go_enter Try.func105, Try.ntmps105
      go_wp2_with (go_at_call 35; refine (l1In_b _ _ _ _ H1.out _).mono ?_; rintro _ _ ⟨rfl, rfl⟩)
      go_ret
      exact ⟨rfl, below1 _ _⟩
    | false =>
      have hk : k.toList.isEmpty = true := by simpa using e1
      clear e1
      go_enter Try.func105, Try.ntmps105
      go_wp2_with (go_at_call 35; refine (l1In_b _ _ _ _ H1.out _).mono ?_; rintro _ _ ⟨rfl, rfl⟩)
      go_ret
      exact ⟨rfl, below1 _ _⟩

/-- The block that holds the record which came in, and its list of Heads. -/
def Par (wr : World) (p tp : Nat) (u : Value) : Prop := ∃ cs : Array Value, wr.heap[p]? = some (.cells cs tp (0, 0)) ∧ cs[5]? = some u
theorem Par.cell {wr : World} {p tp : Nat} {u : Value} (h : Par wr p tp u) : wr.cell? ⟨p, 5, none⟩ = some u := by
  obtain ⟨cs, h1, h2⟩ := h
  rw [cell_of_row wr p 5 cs tp (0, 0) h1, h2]
theorem Par.alloc {wr : World} {p tp : Nat} {u : Value} (h : Par wr p tp u) (o : Obj) : Par (wr.alloc o) p tp u := by
  obtain ⟨cs, h1, h2⟩ := h
  exact ⟨cs, by rw [heap_alloc_old wr o (Array.getElem?_eq_some_iff.1 h1).1]; exact h1, h2⟩
theorem Par.below {wr w' : World} {p tp b : Nat} {u : Value} (h : Par wr p tp u) (hb : Below b wr w') (hp : p < b) : Par w' p tp u := by
  obtain ⟨cs, h1, h2⟩ := h
  exact ⟨cs, by rw [hb.block p hp]; exact h1, h2⟩
/-- The heads lie there. -/
def Lies (w : World) (A : Option Addr) (n c : Nat) (K V : Nat → ByteArray) : Prop :=
  n = 0 ∨ ∃ g o, A = some ⟨g, o, none⟩ ∧ g < w.heap.size ∧ n ≤ c ∧ ∀ i, i < n → w.cell? ⟨g, o + i * 2, none⟩ = some (.string (K i)) ∧ w.cell? ⟨g, o + i * 2 + 1, none⟩ = some (.string (V i))
def okKV (K V : Nat → ByteArray) (i : Nat) : Bool := !(K i).toList.isEmpty && decide ((K i).size ≤ 100) && decide ((V i).size ≤ 100)

structure Tells (e : Ending) (n : Nat) (K V : Nat → ByteArray) : Prop where
  tells : ∃ b, e = .returned (.bool b) ∧ ((b = true ∧ ∀ i, i < n → okKV K V i = true) ∨ (b = false ∧ ∃ i, i < n ∧ okKV K V i = false))
theorem Tells.bad {n j : Nat} {K V : Nat → ByteArray} (h : j < n) (hb : okKV K V j = false) : Tells (.returned (.bool false)) n K V := ⟨false, rfl, .inr ⟨rfl, j, h, hb⟩⟩
theorem Tells.good {n : Nat} {K V : Nat → ByteArray} (h : ∀ i, i < n → okKV K V i = true) : Tells (.returned (.bool true)) n K V := ⟨true, rfl, .inl ⟨rfl, h⟩⟩
set_option maxHeartbeats 800000 in
theorem spec_yes (t : Int) (kd : Bool) (k : ByteArray) (gn : Bool) (v : ByteArray) (A : Option Addr) (n c : Nat) (K V : Nat → ByteArray) (w : World) (h0 : ok0 t k v n = true) (h : ok1 kd k gn v = true) (hl : Lies w A n c K V) :
    Calls Try.prog 105 #[rv t kd k gn v (.slice A n c)] w fun e w' => Tells e n K V ∧ Below w.heap.size w w' := by
  unfold rv
  obtain ⟨a1, a2, a3, a4⟩ := ok0_parts h0
  have H1 := Seg.hid a1
  have HL := Seg.hid hl
  have g2 : ¬ (100 : Int) < (k.size : Int) := le_of _ _ a2
  have g3 : ¬ (100 : Int) < (v.size : Int) := le_of _ _ a3
  have g4 : ¬ (3 : Int) < (n : Int) := le_of _ _ a4
  clear a1 a2 a3 a4 h0 hl
  obtain ⟨e1, e2⟩ : (kd || k.toList.isEmpty) = true ∧ (!gn || v.toList.isEmpty) = true := by simpa [ok1] using h
  clear h
  cases kd <;> cases gn
  all_goals
    simp only [Bool.false_or, Bool.true_or, Bool.not_false, Bool.not_true] at e1 e2
    go_enter Try.func105, Try.ntmps105
    go_wp2_with (go_at_call 35; refine (l1In_b _ _ _ _ H1.out _).mono ?_; rintro _ _ ⟨rfl, rfl⟩)
    go_loopw [3] (fun i wr => ∃ j : Nat, j ≤ n ∧ i = .int .i64 j ∧ Hid (Par wr w.heap.size 160 (.slice A n c) ∧ Below w.heap.size w wr ∧ ∀ i, i < j → okKV K V i = true)) (fun i _ => n - (intOf i).toNat)
    case atStart => exact ⟨0, Nat.zero_le _, rfl, ⟨_, heap_alloc_new _ _, rfl⟩, below1 _ _, fun i hi => absurd hi (by omega)⟩
    case round =>
      obtain ⟨j, hj, rfl, HR⟩ := hrel
      have p5 := HR.out.1.cell
      by_cases hlt : j < n
      · obtain ⟨g, o, rfl, hg, hc, ha⟩ := HL.out.resolve_left (by omega)
        have c1 : wr.cell? ⟨g, o + j * 2, none⟩ = some (.string (K j)) := by rw [HR.out.2.1.cell (p := ⟨g, o + j * 2, none⟩) hg]; exact (ha j hlt).1
        have c2 : wr.cell? ⟨g, o + j * 2 + 1, none⟩ = some (.string (V j)) := by rw [HR.out.2.1.cell (p := ⟨g, o + j * 2 + 1, none⟩) hg]; exact (ha j hlt).2
        have HA := Seg.hid ha
        clear ha
        have i0 : (0 : Int) ≤ (j : Int) := by omega
        have i1 : (j : Int) < (n : Int) := by omega
        cases hE : (K j).toList.isEmpty with
        | true =>
          go_wp2
          go_ret
          exact ⟨Tells.bad hlt (by simp [okKV, hE]), HR.out.2.1.alloc HR.out.2.1.size _⟩
        | false =>
        by_cases hK : (100 : Int) < ((K j).size : Int)
        · go_wp2
          go_ret
          exact ⟨Tells.bad hlt (by simp [okKV]; omega), HR.out.2.1.alloc HR.out.2.1.size _⟩
        by_cases hV : (100 : Int) < ((V j).size : Int)
        · go_wp2
          go_ret
          exact ⟨Tells.bad hlt (by simp [okKV]; omega), HR.out.2.1.alloc HR.out.2.1.size _⟩
        go_wp2
        go_roundw
        case rel =>
          refine ⟨j + 1, by omega, by go_num, HR.out.1.alloc _, HR.out.2.1.alloc HR.out.2.1.size _, fun i hi => ?_⟩
          by_cases he : i = j
          · subst he; simp only [okKV, hE]; simp; omega
          · exact HR.out.2.2 i (by omega)
        case measure => simp [intOf]; omega
      · obtain rfl : j = n := by omega
        go_wp2
        go_ret
        exact ⟨Tells.good HR.out.2.2, HR.out.2.1⟩
end Go.Proofs.Ytdhicmbfknagjaa.ROk
