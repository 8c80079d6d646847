/- RecordOk of the model and of the program: one plain function of the record. -/
import Derived.Test.YtdhicmbfknagjaaRecW
import Derived.WalkLawsBesides
namespace Go.Proofs.Ytdhicmbfknagjaa.ROk
set_option maxRecDepth 8000
open Go.RowKit
open Recs
set_option linter.unusedVariables false

def okH (h : Hd) : Bool := !h.key.toList.isEmpty && decide (h.key.size ≤ 100) && decide (h.val.size ≤ 100)
def okR0 (r : Rec) : Bool := (decide (0 ≤ r.time) && decide (r.time ≤ 1000000000000)) && decide (r.key.size ≤ 100) && decide (r.val.size ≤ 100) && decide (r.heads.length ≤ 3)
def okR1 (r : Rec) : Bool := (r.keyed || r.key.toList.isEmpty) && (!r.gone || r.val.toList.isEmpty)
def okR (r : Rec) : Bool := okR0 r && okR1 r && r.heads.all okH

theorem l1In_any (x lo hi : Int) (w : World) : Calls Try.prog 35 #[.int .i64 x, .int .i64 lo, .int .i64 hi] w fun e w' => e = .returned (.bool (decide (lo ≤ x) && decide (x ≤ hi))) ∧ w = w' := by
  go_enter Try.func35, Try.ntmps35
  go_wp2
  all_goals
    go_ret
    exact ⟨Seg.ret_bool (by rw [Bool.eq_iff_iff]; simp; try omega), rfl⟩
theorem within_any (x lo hi : Int) (w : World) : Calls Try.prog 41 #[.int .i64 x, .int .i64 lo, .int .i64 hi] w fun e w' => e = .returned (.bool (decide (lo ≤ x) && decide (x ≤ hi))) ∧ w = w' := by
  go_enter Try.func41, Try.ntmps41
  go_wp2
  all_goals
    go_ret
    exact ⟨Seg.ret_bool (by rw [Bool.eq_iff_iff]; simp; try omega), rfl⟩
theorem textOk_any (s : ByteArray) (w : World) : Calls Try.prog 144 #[.string s] w fun e w' => e = .returned (.bool (decide (s.size ≤ 100))) ∧ w = w' := by
  go_enter Try.func144, Try.ntmps144
  go_wp2
  all_goals
    go_ret
    exact ⟨Seg.ret_bool (by rw [Bool.eq_iff_iff]; simp; omega), rfl⟩

theorem l1In_b (x lo hi : Int) (b : Bool) (hb : (decide (lo ≤ x) && decide (x ≤ hi)) = b) (w : World) : Calls Try.prog 35 #[.int .i64 x, .int .i64 lo, .int .i64 hi] w fun e w' => e = .returned (.bool b) ∧ w = w' := by
  subst hb; exact l1In_any x lo hi w
theorem within_b (x lo hi : Int) (b : Bool) (hb : (decide (lo ≤ x) && decide (x ≤ hi)) = b) (w : World) : Calls Try.prog 41 #[.int .i64 x, .int .i64 lo, .int .i64 hi] w fun e w' => e = .returned (.bool b) ∧ w = w' := by
  subst hb; exact within_any x lo hi w
theorem textOk_b (s : ByteArray) (b : Bool) (hb : decide (s.size ≤ 100) = b) (w : World) : Calls Try.prog 144 #[.string s] w fun e w' => e = .returned (.bool b) ∧ w = w' := by
  subst hb; exact textOk_any s w
theorem gt_of (n m : Nat) (h : decide (n ≤ m) = false) : (m : Int) < (n : Int) := by simp at h; omega
theorem le_of (n m : Nat) (h : decide (n ≤ m) = true) : ¬ (m : Int) < (n : Int) := by simp at h; omega

def rv (t : Int) (kd : Bool) (k : ByteArray) (gn : Bool) (v : ByteArray) (hv : Value) : Value := .agg #[.int .i64 t, .bool kd, .string k, .bool gn, .string v, hv]
def ok0 (t : Int) (k v : ByteArray) (n : Nat) : Bool := (decide (0 ≤ t) && decide (t ≤ 1000000000000)) && decide (k.size ≤ 100) && decide (v.size ≤ 100) && decide (n ≤ 3)
def ok1 (kd : Bool) (k : ByteArray) (gn : Bool) (v : ByteArray) : Bool := (kd || k.toList.isEmpty) && (!gn || v.toList.isEmpty)

set_option maxHeartbeats 800000 in
theorem spec_no0 (t : Int) (kd : Bool) (k : ByteArray) (gn : Bool) (v : ByteArray) (A : Option Addr) (n c : Nat) (w : World) (h : ok0 t k v n = false) :
    Calls Try.prog 105 #[rv t kd k gn v (.slice A n c)] w fun e w' => e = .returned (.bool false) ∧ Below w.heap.size w w' := by
  unfold rv
  cases h1 : (decide (0 ≤ t) && decide (t ≤ 1000000000000)) with
  | false =>
    have H1 := Seg.hid h1
    clear h
    try clear h1
    try clear h2
    try clear h3
    try clear h4
    go_enter Try.func105, Try.ntmps105
    go_wp2_with (go_at_call 35; refine (l1In_b _ _ _ _ H1.out _).mono ?_; rintro _ _ ⟨rfl, rfl⟩)
    go_ret
    exact ⟨rfl, below1 _ _⟩
  | true =>
  have H1 := Seg.hid h1
  cases h2 : decide (k.size ≤ 100) with
  | false =>
    have g2 : (100 : Int) < (k.size : Int) := gt_of _ _ h2
    clear h
    try clear h1
    try clear h2
    try clear h3
    try clear h4
    go_enter Try.func105, Try.ntmps105
    go_wp2_with (go_at_call 35; refine (l1In_b _ _ _ _ H1.out _).mono ?_; rintro _ _ ⟨rfl, rfl⟩)
    go_ret
    exact ⟨rfl, below1 _ _⟩
  | true =>
  have g2 : ¬ (100 : Int) < (k.size : Int) := le_of _ _ h2
  cases h3 : decide (v.size ≤ 100) with
  | false =>
    have g3 : (100 : Int) < (v.size : Int) := gt_of _ _ h3
    clear h
    try clear h1
    try clear h2
    try clear h3
    try clear h4
    go_enter Try.func105, Try.ntmps105
    go_wp2_with (go_at_call 35; refine (l1In_b _ _ _ _ H1.out _).mono ?_; rintro _ _ ⟨rfl, rfl⟩)
    go_ret
    exact ⟨rfl, below1 _ _⟩
  | true =>
  have g3 : ¬ (100 : Int) < (v.size : Int) := le_of _ _ h3
  cases h4 : decide (n ≤ 3) with
  | false =>
    have g4 : (3 : Int) < (n : Int) := gt_of _ _ h4
    clear h
    try clear h1
    try clear h2
    try clear h3
    try clear h4
    go_enter Try.func105, Try.ntmps105
    go_wp2_with (go_at_call 35; refine (l1In_b _ _ _ _ H1.out _).mono ?_; rintro _ _ ⟨rfl, rfl⟩)
    go_ret
    exact ⟨rfl, below1 _ _⟩
  | true => simp [ok0] at h h1 h2 h3 h4; omega

theorem ok0_parts {t : Int} {k v : ByteArray} {n : Nat} (h : ok0 t k v n = true) : (decide (0 ≤ t) && decide (t ≤ 1000000000000)) = true ∧ decide (k.size ≤ 100) = true ∧ decide (v.size ≤ 100) = true ∧ decide (n ≤ 3) = true := by
  simp only [ok0, Bool.and_eq_true] at h ⊢
  exact ⟨h.1.1.1, h.1.1.2, h.1.2, h.2⟩
set_option maxHeartbeats 800000 in
theorem spec_no1 (t : Int) (kd : Bool) (k : ByteArray) (gn : Bool) (v : ByteArray) (A : Option Addr) (n c : Nat) (w : World) (h0 : ok0 t k v n = true) (h : ok1 kd k gn v = false) :
    Calls Try.prog 105 #[rv t kd k gn v (.slice A n c)] w fun e w' => e = .returned (.bool false) ∧ Below w.heap.size w w' := by
  unfold rv
  obtain ⟨a1, a2, a3, a4⟩ := ok0_parts h0
  have H1 := Seg.hid a1
  have g2 : ¬ (100 : Int) < (k.size : Int) := le_of _ _ a2
  have g3 : ¬ (100 : Int) < (v.size : Int) := le_of _ _ a3
  have g4 : ¬ (3 : Int) < (n : Int) := le_of _ _ a4
  clear a1 a2 a3 a4 h0
  cases e1 : (kd || k.toList.isEmpty) with
  | false =>
    obtain ⟨rfl, hk⟩ := Bool.or_eq_false_iff.1 e1
    clear e1 h
    go_enter Try.func105, Try.ntmps105
    go_wp2_with (go_at_call 35; refine (l1In_b _ _ _ _ H1.out _).mono ?_; rintro _ _ ⟨rfl, rfl⟩)
    go_ret
    exact ⟨rfl, below1 _ _⟩
  | true =>
    have e2 : (!gn || v.toList.isEmpty) = false := by rw [ok1, e1] at h; simpa using h
    obtain ⟨hg, hv⟩ := Bool.or_eq_false_iff.1 e2
    obtain rfl : gn = true := by simpa using hg
    clear e2 h hg
    cases kd with
    | true =>
      clear e1
      go_enter Try.func105, Try.ntmps105
      go_wp2_with (go_at_call 35; refine (l1In_b _ _ _ _ H1.out _).mono ?_; rintro _ _ ⟨rfl, rfl⟩)
      go_ret
      exact ⟨rfl, below1 _ _⟩
    | false =>
      have hk : k.toList.isEmpty = true := by simpa using e1
      clear e1
      go_enter Try.func105, Try.ntmps105
      go_wp2_with (go_at_call 35; refine (l1In_b _ _ _ _ H1.out _).mono ?_; rintro _ _ ⟨rfl, rfl⟩)
      go_ret
      exact ⟨rfl, below1 _ _⟩

/-- The block that holds the record which came in, and its list of Heads. -/
def Par (wr : World) (p tp : Nat) (u : Value) : Prop := ∃ cs : Array Value, wr.heap[p]? = some (.cells cs tp (0, 0)) ∧ cs[5]? = some u
theorem Par.cell {wr : World} {p tp : Nat} {u : Value} (h : Par wr p tp u) : wr.cell? ⟨p, 5, none⟩ = some u := by
  obtain ⟨cs, h1, h2⟩ := h
  rw [cell_of_row wr p 5 cs tp (0, 0) h1, h2]
theorem Par.alloc {wr : World} {p tp : Nat} {u : Value} (h : Par wr p tp u) (o : Obj) : Par (wr.alloc o) p tp u := by
  obtain ⟨cs, h1, h2⟩ := h
  exact ⟨cs, by rw [heap_alloc_old wr o (Array.getElem?_eq_some_iff.1 h1).1]; exact h1, h2⟩
theorem Par.below {wr w' : World} {p tp b : Nat} {u : Value} (h : Par wr p tp u) (hb : Below b wr w') (hp : p < b) : Par w' p tp u := by
  obtain ⟨cs, h1, h2⟩ := h
  exact ⟨cs, by rw [hb.block p hp]; exact h1, h2⟩
/-- The heads lie there. -/
def Lies (w : World) (A : Option Addr) (n c : Nat) (K V : Nat → ByteArray) : Prop :=
  n = 0 ∨ ∃ g o, A = some ⟨g, o, none⟩ ∧ g < w.heap.size ∧ n ≤ c ∧ ∀ i, i < n → w.cell? ⟨g, o + i * 2, none⟩ = some (.string (K i)) ∧ w.cell? ⟨g, o + i * 2 + 1, none⟩ = some (.string (V i))
def okKV (K V : Nat → ByteArray) (i : Nat) : Bool := !(K i).toList.isEmpty && decide ((K i).size ≤ 100) && decide ((V i).size ≤ 100)

structure Tells (e : Ending) (n : Nat) (K V : Nat → ByteArray) : Prop where
  tells : ∃ b, e = .returned (.bool b) ∧ ((b = true ∧ ∀ i, i < n → okKV K V i = true) ∨ (b = false ∧ ∃ i, i < n ∧ okKV K V i = false))
theorem Tells.bad {n j : Nat} {K V : Nat → ByteArray} (h : j < n) (hb : okKV K V j = false) : Tells (.returned (.bool false)) n K V := ⟨false, rfl, .inr ⟨rfl, j, h, hb⟩⟩
theorem Tells.good {n : Nat} {K V : Nat → ByteArray} (h : ∀ i, i < n → okKV K V i = true) : Tells (.returned (.bool true)) n K V := ⟨true, rfl, .inl ⟨rfl, h⟩⟩
set_option maxHeartbeats 800000 in
theorem spec_yes (t : Int) (kd : Bool) (k : ByteArray) (gn : Bool) (v : ByteArray) (A : Option Addr) (n c : Nat) (K V : Nat → ByteArray) (w : World) (h0 : ok0 t k v n = true) (h : ok1 kd k gn v = true) (hl : Lies w A n c K V) :
    Calls Try.prog 105 #[rv t kd k gn v (.slice A n c)] w fun e w' => Tells e n K V ∧ Below w.heap.size w w' := by
  unfold rv
  obtain ⟨a1, a2, a3, a4⟩ := ok0_parts h0
  have H1 := Seg.hid a1
  have HL := Seg.hid hl
  have g2 : ¬ (100 : Int) < (k.size : Int) := le_of _ _ a2
  have g3 : ¬ (100 : Int) < (v.size : Int) := le_of _ _ a3
  have g4 : ¬ (3 : Int) < (n : Int) := le_of _ _ a4
  clear a1 a2 a3 a4 h0 hl
  obtain ⟨e1, e2⟩ : (kd || k.toList.isEmpty) = true ∧ (!gn || v.toList.isEmpty) = true := by simpa [ok1] using h
  clear h
  cases kd <;> cases gn
  all_goals
    simp only [Bool.false_or, Bool.true_or, Bool.not_false, Bool.not_true] at e1 e2
    go_enter Try.func105, Try.ntmps105
    go_wp2_with (go_at_call 35; refine (l1In_b _ _ _ _ H1.out _).mono ?_; rintro _ _ ⟨rfl, rfl⟩)
    go_loopw [3] (fun i wr => ∃ j : Nat, j ≤ n ∧ i = .int .i64 j ∧ Hid (Par wr w.heap.size 160 (.slice A n c) ∧ Below w.heap.size w wr ∧ ∀ i, i < j → okKV K V i = true)) (fun i _ => n - (intOf i).toNat)
    case atStart => exact ⟨0, Nat.zero_le _, rfl, ⟨_, heap_alloc_new _ _, rfl⟩, below1 _ _, fun i hi => absurd hi (by omega)⟩
    case round =>
      obtain ⟨j, hj, rfl, HR⟩ := hrel
      have p5 := HR.out.1.cell
      by_cases hlt : j < n
      · obtain ⟨g, o, rfl, hg, hc, ha⟩ := HL.out.resolve_left (by omega)
        have c1 : wr.cell? ⟨g, o + j * 2, none⟩ = some (.string (K j)) := by rw [HR.out.2.1.cell (p := ⟨g, o + j * 2, none⟩) hg]; exact (ha j hlt).1
        have c2 : wr.cell? ⟨g, o + j * 2 + 1, none⟩ = some (.string (V j)) := by rw [HR.out.2.1.cell (p := ⟨g, o + j * 2 + 1, none⟩) hg]; exact (ha j hlt).2
        have HA := Seg.hid ha
        clear ha
        have i0 : (0 : Int) ≤ (j : Int) := by omega
        have i1 : (j : Int) < (n : Int) := by omega
        cases hE : (K j).toList.isEmpty with
        | true =>
          go_wp2
          go_ret
          exact ⟨Tells.bad hlt (by simp [okKV, hE]), HR.out.2.1.alloc HR.out.2.1.size _⟩
        | false =>
        by_cases hK : (100 : Int) < ((K j).size : Int)
        · go_wp2
          go_ret
          exact ⟨Tells.bad hlt (by simp [okKV]; omega), HR.out.2.1.alloc HR.out.2.1.size _⟩
        by_cases hV : (100 : Int) < ((V j).size : Int)
        · go_wp2
          go_ret
          exact ⟨Tells.bad hlt (by simp [okKV]; omega), HR.out.2.1.alloc HR.out.2.1.size _⟩
        go_wp2
        go_roundw
        case rel =>
          refine ⟨j + 1, by omega, by go_num, HR.out.1.alloc _, HR.out.2.1.alloc HR.out.2.1.size _, fun i hi => ?_⟩
          by_cases he : i = j
          · subst he; simp only [okKV, hE]; simp; omega
          · exact HR.out.2.2 i (by omega)
        case measure => simp [intOf]; omega
      · obtain rfl : j = n := by omega
        go_wp2
        go_ret
        exact ⟨Tells.good HR.out.2.2, HR.out.2.1⟩
end Go.Proofs.Ytdhicmbfknagjaa.ROk
