/- RecordOk of the program; BatchOk of the model: where it says no ahead of its loop. -/
import Derived.Test.YtidggillganafaaJS07
import Derived.Test.YtidggillganafaaJS05
namespace Go.Proofs.Ytidggillganafaa.ROk
set_option maxRecDepth 8000
open Go.RowKit
open Recs
set_option linter.unusedVariables false

set_option maxHeartbeats 800000 in
theorem impl_no0 (t : Int) (kd : Bool) (k : ByteArray) (gn : Bool) (v : ByteArray) (A : Option Addr) (n c : Nat) (w : World) (h : ok0 t k v n = false) :
    Calls Try.prog 57 #[rv t kd k gn v (.slice A n c)] w fun e w' => e = .returned (.bool false) ∧ Below w.heap.size w w' := by
  unfold rv
  cases h1 : (decide (0 ≤ t) && decide (t ≤ 1000000000000)) with
  | false =>
    have H1 := Seg.hid h1
    clear h h1
    go_enter Try.func57, Try.ntmps57
    go_wp2_with (go_at_call 44; refine (within_b _ _ _ _ H1.out _).mono ?_; rintro _ _ ⟨rfl, rfl⟩)
    go_ret
    exact ⟨rfl, below1 _ _⟩
  | true =>
  have H1 := Seg.hid h1
  cases h2 : decide (k.size ≤ 100) with
  | false =>
    have H2 := Seg.hid h2
    clear h h1 h2
    go_enter Try.func57, Try.ntmps57
    go_wp2_with (first | (go_at_call 44; refine (within_b _ _ _ _ H1.out _).mono ?_; rintro _ _ ⟨rfl, rfl⟩) | (go_at_call 67; refine (textOk_b k _ H2.out _).mono ?_; rintro _ _ ⟨rfl, rfl⟩))
    go_ret
    exact ⟨rfl, below1 _ _⟩
  | true =>
  have H2 := Seg.hid h2
  cases h3 : decide (v.size ≤ 100) with
  | false =>
    have H3 := Seg.hid h3
    clear h h1 h2 h3
    go_enter Try.func57, Try.ntmps57
    go_wp2_with (first | (go_at_call 44; refine (within_b _ _ _ _ H1.out _).mono ?_; rintro _ _ ⟨rfl, rfl⟩) | (go_at_call 67; refine (textOk_b k _ H2.out _).mono ?_; rintro _ _ ⟨rfl, rfl⟩) | (go_at_call 67; refine (textOk_b v _ H3.out _).mono ?_; rintro _ _ ⟨rfl, rfl⟩))
    go_ret
    exact ⟨rfl, below1 _ _⟩
  | true =>
  have H3 := Seg.hid h3
  cases h4 : decide (n ≤ 3) with
  | false =>
    have g4 : (3 : Int) < (n : Int) := gt_of _ _ h4
    clear h h1 h2 h3 h4
    go_enter Try.func57, Try.ntmps57
    go_wp2_with (first | (go_at_call 44; refine (within_b _ _ _ _ H1.out _).mono ?_; rintro _ _ ⟨rfl, rfl⟩) | (go_at_call 67; refine (textOk_b k _ H2.out _).mono ?_; rintro _ _ ⟨rfl, rfl⟩) | (go_at_call 67; refine (textOk_b v _ H3.out _).mono ?_; rintro _ _ ⟨rfl, rfl⟩))
    go_ret
    exact ⟨rfl, below1 _ _⟩
  | true => simp [ok0] at h h1 h2 h3 h4; omega

set_option maxHeartbeats 800000 in
theorem impl_no1 (t : Int) (kd : Bool) (k : ByteArray) (gn : Bool) (v : ByteArray) (A : Option Addr) (n c : Nat) (w : World) (h0 : ok0 t k v n = true) (h : ok1 kd k gn v = false) :
    Calls Try.prog 57 #[rv t kd k gn v (.slice A n c)] w fun e w' => e = .returned (.bool false) ∧ Below w.heap.size w w' := by
  unfold rv
  obtain ⟨a1, a2, a3, a4⟩ := ok0_parts h0
  have H1 := Seg.hid a1
  have H2 := Seg.hid a2
  have H3 := Seg.hid a3
  have g4 : ¬ (3 : Int) < (n : Int) := le_of _ _ a4
  clear a1 a2 a3 a4 h0
  cases e1 : (kd || k.toList.isEmpty) with
  | false =>
    obtain ⟨rfl, hk⟩ := Bool.or_eq_false_iff.1 e1
    clear e1 h
    go_enter Try.func57, Try.ntmps57
    go_wp2_with (first | (go_at_call 44; refine (within_b _ _ _ _ H1.out _).mono ?_; rintro _ _ ⟨rfl, rfl⟩) | (go_at_call 67; refine (textOk_b k _ H2.out _).mono ?_; rintro _ _ ⟨rfl, rfl⟩) | (go_at_call 67; refine (textOk_b v _ H3.out _).mono ?_; rintro _ _ ⟨rfl, rfl⟩))
    go_ret
    exact ⟨rfl, below1 _ _⟩
  | true =>
    have e2 : (!gn || v.toList.isEmpty) = false := by rw [ok1, e1] at h; simpa using h
    obtain ⟨hg, hv⟩ := Bool.or_eq_false_iff.1 e2
    obtain rfl : gn = true := by simpa using hg
    clear e2 h hg
    cases kd with
    | true =>
      clear e1
      go_enter Try.func57, Try.ntmps57
      go_wp2_with (first | (go_at_call 44; refine (within_b _ _ _ _ H1.out _).mono ?_; rintro _ _ ⟨rfl, rfl⟩) | (go_at_call 67; refine (textOk_b k _ H2.out _).mono ?_; rintro _ _ ⟨rfl, rfl⟩) | (go_at_call 67; refine (textOk_b v _ H3.out _).mono ?_; rintro _ _ ⟨rfl, rfl⟩))
      go_ret
      exact ⟨rfl, below1 _ _⟩
    | false =>
      have hk : k.toList.isEmpty = true := by simpa using e1
      clear e1
      go_enter Try.func57, Try.ntmps57
      go_wp2_with (first | (go_at_call 44; refine (within_b _ _ _ _ H1.out _).mono ?_; rintro _ _ ⟨rfl, rfl⟩) | (go_at_call 67; refine (textOk_b k _ H2.out _).mono ?_; rintro _ _ ⟨rfl, rfl⟩) | (go_at_call 67; refine (textOk_b v _ H3.out _).mono ?_; rintro _ _ ⟨rfl, rfl⟩))
      go_ret
      exact ⟨rfl, below1 _ _⟩

set_option maxHeartbeats 800000 in
theorem impl_yes (t : Int) (kd : Bool) (k : ByteArray) (gn : Bool) (v : ByteArray) (A : Option Addr) (n c : Nat) (K V : Nat → ByteArray) (w : World) (h0 : ok0 t k v n = true) (h : ok1 kd k gn v = true) (hl : Lies w A n c K V) :
    Calls Try.prog 57 #[rv t kd k gn v (.slice A n c)] w fun e w' => Tells e n K V ∧ Below w.heap.size w w' := by
  unfold rv
  obtain ⟨a1, a2, a3, a4⟩ := ok0_parts h0
  have H1 := Seg.hid a1
  have HL := Seg.hid hl
  have H2 := Seg.hid a2
  have H3 := Seg.hid a3
  have g4 : ¬ (3 : Int) < (n : Int) := le_of _ _ a4
  clear a1 a2 a3 a4 h0 hl
  obtain ⟨e1, e2⟩ : (kd || k.toList.isEmpty) = true ∧ (!gn || v.toList.isEmpty) = true := by simpa [ok1] using h
  clear h
  cases kd <;> cases gn
  all_goals
    simp only [Bool.false_or, Bool.true_or, Bool.not_false, Bool.not_true] at e1 e2
    go_enter Try.func57, Try.ntmps57
    go_wp2_with (first | (go_at_call 44; refine (within_b _ _ _ _ H1.out _).mono ?_; rintro _ _ ⟨rfl, rfl⟩) | (go_at_call 67; refine (textOk_b k _ H2.out _).mono ?_; rintro _ _ ⟨rfl, rfl⟩) | (go_at_call 67; refine (textOk_b v _ H3.out _).mono ?_; rintro _ _ ⟨rfl, rfl⟩))
    go_loopw [47] (fun i wr => ∃ j : Nat, j ≤ n ∧ i = .int .i64 j ∧ Hid (Below w.heap.size w wr ∧ ∀ i, i < j → okKV K V i = true)) (fun i _ => n - (intOf i).toNat)
    case atStart => exact ⟨0, Nat.zero_le _, rfl, below1 _ _, fun i hi => absurd hi (by omega)⟩
    case round =>
      obtain ⟨j, hj, rfl, HR⟩ := hrel
      by_cases hlt : j < n
      · obtain ⟨g, o, rfl, hg, hc, ha⟩ := HL.out.resolve_left (by omega)
        have c1 : wr.cell? ⟨g, o + j * 2, none⟩ = some (.string (K j)) := by rw [HR.out.1.cell (p := ⟨g, o + j * 2, none⟩) hg]; exact (ha j hlt).1
        have c2 : wr.cell? ⟨g, o + j * 2 + 1, none⟩ = some (.string (V j)) := by rw [HR.out.1.cell (p := ⟨g, o + j * 2 + 1, none⟩) hg]; exact (ha j hlt).2
        have HA := Seg.hid ha
        clear ha
        have i0 : (0 : Int) ≤ (j : Int) := by omega
        have i1 : (j : Int) < (n : Int) := by omega
        cases hE : (K j).toList.isEmpty with
        | true =>
          go_wp2
          go_ret
          exact ⟨Tells.bad hlt (by simp [okKV, hE]), HR.out.1.alloc HR.out.1.size _⟩
        | false =>
        cases hK : decide ((K j).size ≤ 100) with
        | false =>
          have HK := Seg.hid hK
          clear hK
          go_wp2_with (go_at_call 67; refine (textOk_b (K j) _ HK.out _).mono ?_; rintro _ _ ⟨rfl, rfl⟩)
          go_ret
          exact ⟨Tells.bad hlt (by simp only [okKV, HK.out]; simp), HR.out.1.alloc HR.out.1.size _⟩
        | true =>
        have HK := Seg.hid hK
        cases hV : decide ((V j).size ≤ 100) with
        | false =>
          have HV := Seg.hid hV
          clear hK hV
          go_wp2_with (first | (go_at_call 67; refine (textOk_b (K j) _ HK.out _).mono ?_; rintro _ _ ⟨rfl, rfl⟩) | (go_at_call 67; refine (textOk_b (V j) _ HV.out _).mono ?_; rintro _ _ ⟨rfl, rfl⟩))
          go_ret
          exact ⟨Tells.bad hlt (by simp only [okKV, HV.out]; simp), HR.out.1.alloc HR.out.1.size _⟩
        | true =>
        have HV := Seg.hid hV
        clear hK hV
        go_wp2_with (first | (go_at_call 67; refine (textOk_b (K j) _ HK.out _).mono ?_; rintro _ _ ⟨rfl, rfl⟩) | (go_at_call 67; refine (textOk_b (V j) _ HV.out _).mono ?_; rintro _ _ ⟨rfl, rfl⟩))
        go_roundw
        case rel =>
          refine ⟨j + 1, by omega, by go_num, HR.out.1.alloc HR.out.1.size _, fun i hi => ?_⟩
          by_cases he : i = j
          · subst he; simp only [okKV, hE, HK.out, HV.out]; simp
          · exact HR.out.2 i (by omega)
        case measure => simp [intOf]; omega
      · obtain rfl : j = n := by omega
        go_wp2
        go_ret
        exact ⟨Tells.good HR.out.2, HR.out.1⟩

theorem okR_eq (r : Rec) : okR r = (ok0 r.time r.key r.val r.heads.length && ok1 r.keyed r.key r.gone r.val && r.heads.all okH) := rfl
theorem all_iff (hs : List Hd) (b : Bool) (h : (b = true ∧ ∀ i, i < hs.length → okKV (fun i => (hs.getD i default).key) (fun i => (hs.getD i default).val) i = true) ∨ (b = false ∧ ∃ i, i < hs.length ∧ okKV (fun i => (hs.getD i default).key) (fun i => (hs.getD i default).val) i = false)) : b = hs.all okH := by
  rcases h with ⟨rfl, h⟩ | ⟨rfl, i, hi, h⟩
  · symm
    rw [List.all_eq_true]
    intro x hx
    obtain ⟨i, hi, rfl⟩ := List.getElem_of_mem hx
    have := h i hi
    simpa [okKV, okH, hi] using this
  · symm
    rw [List.all_eq_false]
    refine ⟨hs[i], List.getElem_mem hi, ?_⟩
    have h' : okH hs[i] = false := by
      have := h
      simp only [okKV, List.getD_eq_getElem?_getD, List.getElem?_eq_getElem hi, Option.getD_some] at this
      exact this
    rw [h']; simp
theorem lies_of {w : World} {lo b n c : Nat} {A : Option Addr} {hs : List Hd} (hb : b ≤ w.heap.size) (hn : n = hs.length) (h : n = 0 ∨ ∃ g o, A = some ⟨g, o, none⟩ ∧ g < b ∧ n ≤ c ∧ (∀ i, i < n → ∀ j, j < 2 → w.cell? ⟨g, o + i * 2 + j, none⟩ = some (hdCells hs i j)) ∧ lo ≤ g) :
    Lies w A n c (fun i => (hs.getD i default).key) (fun i => (hs.getD i default).val) := by
  rcases h with h | ⟨g, o, h1, h2, h3, h4, _⟩
  · exact .inl h
  · exact .inr ⟨g, o, h1, by omega, h3, fun i hi => Heads.cell0 h4 i hi⟩

theorem spec_any (v : Value) (r : Rec) (w : World) (lo b : Nat) (hv : RecAt w lo b v r) (hb : b ≤ w.heap.size) :
    Calls Try.prog 42 #[v] w fun e w' => e = .returned (.bool (okR r)) ∧ Below w.heap.size w w' := by
  obtain ⟨hv, rfl, hn, A, c, rfl, h⟩ := hv
  show Calls Try.prog 42 #[rv r.time r.keyed r.key r.gone r.val (.slice A r.heads.length c)] w _
  have hl := lies_of hb rfl h
  rw [okR_eq]
  cases h0 : ok0 r.time r.key r.val r.heads.length with
  | false => exact (spec_no0 _ _ _ _ _ A _ c w h0).mono fun e w' h => h
  | true =>
  cases h1 : ok1 r.keyed r.key r.gone r.val with
  | false => exact (spec_no1 _ _ _ _ _ A _ c w h0 h1).mono fun e w' h => h
  | true =>
    refine (spec_yes _ _ _ _ _ A _ c _ _ w h0 h1 hl).mono fun e w' h => ?_
    obtain ⟨⟨b, rfl, h2⟩, h3⟩ := h
    refine ⟨?_, h3⟩
    rw [all_iff r.heads b h2]
    simp
theorem impl_any (v : Value) (r : Rec) (w : World) (lo b : Nat) (hv : RecAt w lo b v r) (hb : b ≤ w.heap.size) :
    Calls Try.prog 57 #[v] w fun e w' => e = .returned (.bool (okR r)) ∧ Below w.heap.size w w' := by
  obtain ⟨hv, rfl, hn, A, c, rfl, h⟩ := hv
  show Calls Try.prog 57 #[rv r.time r.keyed r.key r.gone r.val (.slice A r.heads.length c)] w _
  have hl := lies_of hb rfl h
  rw [okR_eq]
  cases h0 : ok0 r.time r.key r.val r.heads.length with
  | false => exact (impl_no0 _ _ _ _ _ A _ c w h0).mono fun e w' h => h
  | true =>
  cases h1 : ok1 r.keyed r.key r.gone r.val with
  | false => exact (impl_no1 _ _ _ _ _ A _ c w h0 h1).mono fun e w' h => h
  | true =>
    refine (impl_yes _ _ _ _ _ A _ c _ _ w h0 h1 hl).mono fun e w' h => ?_
    obtain ⟨⟨b, rfl, h2⟩, h3⟩ := h
    refine ⟨?_, h3⟩
    rw [all_iff r.heads b h2]
    simp
end Go.Proofs.Ytidggillganafaa.ROk
namespace Go.Proofs.Ytidggillganafaa.BOk
set_option maxRecDepth 8000
open Go.RowKit
open Recs
set_option linter.unusedVariables false
def bv (bs ep pr tu sq fl : Int) (rv : Value) : Value := .agg #[.int .i64 bs, .int .i64 ep, .int .i64 pr, .int .i64 tu, .int .i64 sq, .int .i64 fl, rv]
def inR (x lo hi : Int) : Bool := decide (lo ≤ x) && decide (x ≤ hi)
theorem l1In_r (x lo hi : Int) (b : Bool) (hb : inR x lo hi = b) (w : World) : Calls Try.prog 28 #[.int .i64 x, .int .i64 lo, .int .i64 hi] w fun e w' => e = .returned (.bool b) ∧ w = w' := ROk.l1In_b x lo hi b hb w
theorem within_r (x lo hi : Int) (b : Bool) (hb : inR x lo hi = b) (w : World) : Calls Try.prog 44 #[.int .i64 x, .int .i64 lo, .int .i64 hi] w fun e w' => e = .returned (.bool b) ∧ w = w' := ROk.within_b x lo hi b hb w
def q1 (fl : Int) : Bool := (wrap64 (fl.tdiv 2)).tmod 2 == 1
def q0 (fl : Int) : Bool := (wrap64 (fl.tdiv 2)).tmod 2 == 0
def okB1 (bs ep pr tu sq fl : Int) : Bool := inR bs 0 1000000000 && inR ep 0 1000000 && inR pr (-1) 1000000000 && inR tu 0 1000 && inR sq 0 1000000000 && inR fl 0 7
def bad2 (pr tu sq fl : Int) : Bool := (decide (pr < 0) && ((tu != 0) || (sq != 0) || q1 fl)) || (decide (4 ≤ fl) && q0 fl)
def okB3 (bs sq : Int) (n : Nat) : Bool := inR (n : Int) 1 40 && decide (bs + n - 1 ≤ 1000000000) && decide (sq + n - 1 ≤ 1000000000)

set_option maxRecDepth 6000 in
set_option maxHeartbeats 1600000 in
theorem no1_0 (bs ep pr tu sq fl : Int) (A : Option Addr) (n c : Nat) (w : World) (h1 : Hid (inR bs 0 1000000000 = false)) :
    Calls Try.prog 29 #[bv bs ep pr tu sq fl (.slice A n c)] w fun e w' => e = .returned (.bool false) ∧ Below w.heap.size w w' := by
  unfold bv
  go_enter Try.func29, Try.ntmps29
  go_wp2_with (first | (go_at_call_of 28 (Value.int IntKind.i64 bs); refine (l1In_r bs 0 1000000000 false h1.out _).mono ?_; rintro _ _ ⟨rfl, rfl⟩))
  go_ret
  exact ⟨rfl, below1 _ _⟩
set_option maxRecDepth 6000 in
set_option maxHeartbeats 1600000 in
theorem no1_1 (bs ep pr tu sq fl : Int) (A : Option Addr) (n c : Nat) (w : World) (h1 : Hid (inR bs 0 1000000000 = true)) (h2 : Hid (inR ep 0 1000000 = false)) :
    Calls Try.prog 29 #[bv bs ep pr tu sq fl (.slice A n c)] w fun e w' => e = .returned (.bool false) ∧ Below w.heap.size w w' := by
  unfold bv
  go_enter Try.func29, Try.ntmps29
  go_wp2_with (first | (go_at_call_of 28 (Value.int IntKind.i64 bs); refine (l1In_r bs 0 1000000000 true h1.out _).mono ?_; rintro _ _ ⟨rfl, rfl⟩) | (go_at_call_of 28 (Value.int IntKind.i64 ep); refine (l1In_r ep 0 1000000 false h2.out _).mono ?_; rintro _ _ ⟨rfl, rfl⟩))
  go_ret
  exact ⟨rfl, below1 _ _⟩
set_option maxRecDepth 6000 in
set_option maxHeartbeats 1600000 in
theorem no1_2 (bs ep pr tu sq fl : Int) (A : Option Addr) (n c : Nat) (w : World) (h1 : Hid (inR bs 0 1000000000 = true)) (h2 : Hid (inR ep 0 1000000 = true)) (h3 : Hid (inR pr (-1) 1000000000 = false)) :
    Calls Try.prog 29 #[bv bs ep pr tu sq fl (.slice A n c)] w fun e w' => e = .returned (.bool false) ∧ Below w.heap.size w w' := by
  unfold bv
  go_enter Try.func29, Try.ntmps29
  go_wp2_with (first | (go_at_call_of 28 (Value.int IntKind.i64 bs); refine (l1In_r bs 0 1000000000 true h1.out _).mono ?_; rintro _ _ ⟨rfl, rfl⟩) | (go_at_call_of 28 (Value.int IntKind.i64 ep); refine (l1In_r ep 0 1000000 true h2.out _).mono ?_; rintro _ _ ⟨rfl, rfl⟩) | (go_at_call_of 28 (Value.int IntKind.i64 pr); refine (l1In_r pr (-1) 1000000000 false h3.out _).mono ?_; rintro _ _ ⟨rfl, rfl⟩))
  go_ret
  exact ⟨rfl, below1 _ _⟩
set_option maxRecDepth 6000 in
set_option maxHeartbeats 1600000 in
theorem no1_3 (bs ep pr tu sq fl : Int) (A : Option Addr) (n c : Nat) (w : World) (h1 : Hid (inR bs 0 1000000000 = true)) (h2 : Hid (inR ep 0 1000000 = true)) (h3 : Hid (inR pr (-1) 1000000000 = true)) (h4 : Hid (inR tu 0 1000 = false)) :
    Calls Try.prog 29 #[bv bs ep pr tu sq fl (.slice A n c)] w fun e w' => e = .returned (.bool false) ∧ Below w.heap.size w w' := by
  unfold bv
  go_enter Try.func29, Try.ntmps29
  go_wp2_with (first | (go_at_call_of 28 (Value.int IntKind.i64 bs); refine (l1In_r bs 0 1000000000 true h1.out _).mono ?_; rintro _ _ ⟨rfl, rfl⟩) | (go_at_call_of 28 (Value.int IntKind.i64 ep); refine (l1In_r ep 0 1000000 true h2.out _).mono ?_; rintro _ _ ⟨rfl, rfl⟩) | (go_at_call_of 28 (Value.int IntKind.i64 pr); refine (l1In_r pr (-1) 1000000000 true h3.out _).mono ?_; rintro _ _ ⟨rfl, rfl⟩) | (go_at_call_of 28 (Value.int IntKind.i64 tu); refine (l1In_r tu 0 1000 false h4.out _).mono ?_; rintro _ _ ⟨rfl, rfl⟩))
  go_ret
  exact ⟨rfl, below1 _ _⟩
set_option maxRecDepth 6000 in
set_option maxHeartbeats 1600000 in
theorem no1_4 (bs ep pr tu sq fl : Int) (A : Option Addr) (n c : Nat) (w : World) (h1 : Hid (inR bs 0 1000000000 = true)) (h2 : Hid (inR ep 0 1000000 = true)) (h3 : Hid (inR pr (-1) 1000000000 = true)) (h4 : Hid (inR tu 0 1000 = true)) (h5 : Hid (inR sq 0 1000000000 = false)) :
    Calls Try.prog 29 #[bv bs ep pr tu sq fl (.slice A n c)] w fun e w' => e = .returned (.bool false) ∧ Below w.heap.size w w' := by
  unfold bv
  go_enter Try.func29, Try.ntmps29
  go_wp2_with (first | (go_at_call_of 28 (Value.int IntKind.i64 bs); refine (l1In_r bs 0 1000000000 true h1.out _).mono ?_; rintro _ _ ⟨rfl, rfl⟩) | (go_at_call_of 28 (Value.int IntKind.i64 ep); refine (l1In_r ep 0 1000000 true h2.out _).mono ?_; rintro _ _ ⟨rfl, rfl⟩) | (go_at_call_of 28 (Value.int IntKind.i64 pr); refine (l1In_r pr (-1) 1000000000 true h3.out _).mono ?_; rintro _ _ ⟨rfl, rfl⟩) | (go_at_call_of 28 (Value.int IntKind.i64 tu); refine (l1In_r tu 0 1000 true h4.out _).mono ?_; rintro _ _ ⟨rfl, rfl⟩) | (go_at_call_of 28 (Value.int IntKind.i64 sq); refine (l1In_r sq 0 1000000000 false h5.out _).mono ?_; rintro _ _ ⟨rfl, rfl⟩))
  go_ret
  exact ⟨rfl, below1 _ _⟩
set_option maxRecDepth 6000 in
set_option maxHeartbeats 1600000 in
theorem no1_5 (bs ep pr tu sq fl : Int) (A : Option Addr) (n c : Nat) (w : World) (h1 : Hid (inR bs 0 1000000000 = true)) (h2 : Hid (inR ep 0 1000000 = true)) (h3 : Hid (inR pr (-1) 1000000000 = true)) (h4 : Hid (inR tu 0 1000 = true)) (h5 : Hid (inR sq 0 1000000000 = true)) (h6 : Hid (inR fl 0 7 = false)) :
    Calls Try.prog 29 #[bv bs ep pr tu sq fl (.slice A n c)] w fun e w' => e = .returned (.bool false) ∧ Below w.heap.size w w' := by
  unfold bv
  go_enter Try.func29, Try.ntmps29
  go_wp2_with (first | (go_at_call_of 28 (Value.int IntKind.i64 bs); refine (l1In_r bs 0 1000000000 true h1.out _).mono ?_; rintro _ _ ⟨rfl, rfl⟩) | (go_at_call_of 28 (Value.int IntKind.i64 ep); refine (l1In_r ep 0 1000000 true h2.out _).mono ?_; rintro _ _ ⟨rfl, rfl⟩) | (go_at_call_of 28 (Value.int IntKind.i64 pr); refine (l1In_r pr (-1) 1000000000 true h3.out _).mono ?_; rintro _ _ ⟨rfl, rfl⟩) | (go_at_call_of 28 (Value.int IntKind.i64 tu); refine (l1In_r tu 0 1000 true h4.out _).mono ?_; rintro _ _ ⟨rfl, rfl⟩) | (go_at_call_of 28 (Value.int IntKind.i64 sq); refine (l1In_r sq 0 1000000000 true h5.out _).mono ?_; rintro _ _ ⟨rfl, rfl⟩) | (go_at_call_of 28 (Value.int IntKind.i64 fl); refine (l1In_r fl 0 7 false h6.out _).mono ?_; rintro _ _ ⟨rfl, rfl⟩))
  go_ret
  exact ⟨rfl, below1 _ _⟩
theorem no1 (bs ep pr tu sq fl : Int) (A : Option Addr) (n c : Nat) (w : World) (h : okB1 bs ep pr tu sq fl = false) :
    Calls Try.prog 29 #[bv bs ep pr tu sq fl (.slice A n c)] w fun e w' => e = .returned (.bool false) ∧ Below w.heap.size w w' := by
  cases h1 : inR bs 0 1000000000 with
  | false => exact no1_0 bs ep pr tu sq fl A n c w h1
  | true =>
  cases h2 : inR ep 0 1000000 with
  | false => exact no1_1 bs ep pr tu sq fl A n c w h1 h2
  | true =>
  cases h3 : inR pr (-1) 1000000000 with
  | false => exact no1_2 bs ep pr tu sq fl A n c w h1 h2 h3
  | true =>
  cases h4 : inR tu 0 1000 with
  | false => exact no1_3 bs ep pr tu sq fl A n c w h1 h2 h3 h4
  | true =>
  cases h5 : inR sq 0 1000000000 with
  | false => exact no1_4 bs ep pr tu sq fl A n c w h1 h2 h3 h4 h5
  | true =>
  cases h6 : inR fl 0 7 with
  | false => exact no1_5 bs ep pr tu sq fl A n c w h1 h2 h3 h4 h5 h6
  | true =>
  simp [okB1, h1, h2, h3, h4, h5, h6] at h

set_option maxRecDepth 6000 in
set_option maxHeartbeats 1600000 in
theorem no2_a (bs ep pr tu sq fl : Int) (A : Option Addr) (n c : Nat) (w : World) (h1 : Hid (inR bs 0 1000000000 = true)) (h2 : Hid (inR ep 0 1000000 = true)) (h3 : Hid (inR pr (-1) 1000000000 = true)) (h4 : Hid (inR tu 0 1000 = true)) (h5 : Hid (inR sq 0 1000000000 = true)) (h6 : Hid (inR fl 0 7 = true)) (hp : pr < 0) (ht : (tu != 0) = true) :
    Calls Try.prog 29 #[bv bs ep pr tu sq fl (.slice A n c)] w fun e w' => e = .returned (.bool false) ∧ Below w.heap.size w w' := by
  unfold bv
  go_enter Try.func29, Try.ntmps29
  go_wp2_with (first | (go_at_call_of 28 (Value.int IntKind.i64 bs); refine (l1In_r bs 0 1000000000 true h1.out _).mono ?_; rintro _ _ ⟨rfl, rfl⟩) | (go_at_call_of 28 (Value.int IntKind.i64 ep); refine (l1In_r ep 0 1000000 true h2.out _).mono ?_; rintro _ _ ⟨rfl, rfl⟩) | (go_at_call_of 28 (Value.int IntKind.i64 pr); refine (l1In_r pr (-1) 1000000000 true h3.out _).mono ?_; rintro _ _ ⟨rfl, rfl⟩) | (go_at_call_of 28 (Value.int IntKind.i64 tu); refine (l1In_r tu 0 1000 true h4.out _).mono ?_; rintro _ _ ⟨rfl, rfl⟩) | (go_at_call_of 28 (Value.int IntKind.i64 sq); refine (l1In_r sq 0 1000000000 true h5.out _).mono ?_; rintro _ _ ⟨rfl, rfl⟩) | (go_at_call_of 28 (Value.int IntKind.i64 fl); refine (l1In_r fl 0 7 true h6.out _).mono ?_; rintro _ _ ⟨rfl, rfl⟩))
  go_ret
  exact ⟨rfl, below1 _ _⟩
set_option maxRecDepth 6000 in
set_option maxHeartbeats 1600000 in
theorem no2_b (bs ep pr tu sq fl : Int) (A : Option Addr) (n c : Nat) (w : World) (h1 : Hid (inR bs 0 1000000000 = true)) (h2 : Hid (inR ep 0 1000000 = true)) (h3 : Hid (inR pr (-1) 1000000000 = true)) (h4 : Hid (inR tu 0 1000 = true)) (h5 : Hid (inR sq 0 1000000000 = true)) (h6 : Hid (inR fl 0 7 = true)) (hp : pr < 0) (ht : (tu != 0) = false) (hs : (sq != 0) = true) :
    Calls Try.prog 29 #[bv bs ep pr tu sq fl (.slice A n c)] w fun e w' => e = .returned (.bool false) ∧ Below w.heap.size w w' := by
  unfold bv
  go_enter Try.func29, Try.ntmps29
  go_wp2_with (first | (go_at_call_of 28 (Value.int IntKind.i64 bs); refine (l1In_r bs 0 1000000000 true h1.out _).mono ?_; rintro _ _ ⟨rfl, rfl⟩) | (go_at_call_of 28 (Value.int IntKind.i64 ep); refine (l1In_r ep 0 1000000 true h2.out _).mono ?_; rintro _ _ ⟨rfl, rfl⟩) | (go_at_call_of 28 (Value.int IntKind.i64 pr); refine (l1In_r pr (-1) 1000000000 true h3.out _).mono ?_; rintro _ _ ⟨rfl, rfl⟩) | (go_at_call_of 28 (Value.int IntKind.i64 tu); refine (l1In_r tu 0 1000 true h4.out _).mono ?_; rintro _ _ ⟨rfl, rfl⟩) | (go_at_call_of 28 (Value.int IntKind.i64 sq); refine (l1In_r sq 0 1000000000 true h5.out _).mono ?_; rintro _ _ ⟨rfl, rfl⟩) | (go_at_call_of 28 (Value.int IntKind.i64 fl); refine (l1In_r fl 0 7 true h6.out _).mono ?_; rintro _ _ ⟨rfl, rfl⟩))
  go_ret
  exact ⟨rfl, below1 _ _⟩
set_option maxRecDepth 6000 in
set_option maxHeartbeats 1600000 in
theorem no2_c (bs ep pr tu sq fl : Int) (A : Option Addr) (n c : Nat) (w : World) (h1 : Hid (inR bs 0 1000000000 = true)) (h2 : Hid (inR ep 0 1000000 = true)) (h3 : Hid (inR pr (-1) 1000000000 = true)) (h4 : Hid (inR tu 0 1000 = true)) (h5 : Hid (inR sq 0 1000000000 = true)) (h6 : Hid (inR fl 0 7 = true)) (hp : pr < 0) (ht : (tu != 0) = false) (hs : (sq != 0) = false) (hq : q1 fl = true) :
    Calls Try.prog 29 #[bv bs ep pr tu sq fl (.slice A n c)] w fun e w' => e = .returned (.bool false) ∧ Below w.heap.size w w' := by
  unfold bv
  unfold q1 at hq
  go_enter Try.func29, Try.ntmps29
  go_wp2_with (first | (go_at_call_of 28 (Value.int IntKind.i64 bs); refine (l1In_r bs 0 1000000000 true h1.out _).mono ?_; rintro _ _ ⟨rfl, rfl⟩) | (go_at_call_of 28 (Value.int IntKind.i64 ep); refine (l1In_r ep 0 1000000 true h2.out _).mono ?_; rintro _ _ ⟨rfl, rfl⟩) | (go_at_call_of 28 (Value.int IntKind.i64 pr); refine (l1In_r pr (-1) 1000000000 true h3.out _).mono ?_; rintro _ _ ⟨rfl, rfl⟩) | (go_at_call_of 28 (Value.int IntKind.i64 tu); refine (l1In_r tu 0 1000 true h4.out _).mono ?_; rintro _ _ ⟨rfl, rfl⟩) | (go_at_call_of 28 (Value.int IntKind.i64 sq); refine (l1In_r sq 0 1000000000 true h5.out _).mono ?_; rintro _ _ ⟨rfl, rfl⟩) | (go_at_call_of 28 (Value.int IntKind.i64 fl); refine (l1In_r fl 0 7 true h6.out _).mono ?_; rintro _ _ ⟨rfl, rfl⟩))
  go_ret
  exact ⟨rfl, below1 _ _⟩
set_option maxRecDepth 6000 in
set_option maxHeartbeats 1600000 in
theorem no2_d (bs ep pr tu sq fl : Int) (A : Option Addr) (n c : Nat) (w : World) (h1 : Hid (inR bs 0 1000000000 = true)) (h2 : Hid (inR ep 0 1000000 = true)) (h3 : Hid (inR pr (-1) 1000000000 = true)) (h4 : Hid (inR tu 0 1000 = true)) (h5 : Hid (inR sq 0 1000000000 = true)) (h6 : Hid (inR fl 0 7 = true)) (hp : ¬ pr < 0) (hf : 4 ≤ fl) (hq0 : q0 fl = true) :
    Calls Try.prog 29 #[bv bs ep pr tu sq fl (.slice A n c)] w fun e w' => e = .returned (.bool false) ∧ Below w.heap.size w w' := by
  unfold bv
  unfold q0 at hq0
  go_enter Try.func29, Try.ntmps29
  go_wp2_with (first | (go_at_call_of 28 (Value.int IntKind.i64 bs); refine (l1In_r bs 0 1000000000 true h1.out _).mono ?_; rintro _ _ ⟨rfl, rfl⟩) | (go_at_call_of 28 (Value.int IntKind.i64 ep); refine (l1In_r ep 0 1000000 true h2.out _).mono ?_; rintro _ _ ⟨rfl, rfl⟩) | (go_at_call_of 28 (Value.int IntKind.i64 pr); refine (l1In_r pr (-1) 1000000000 true h3.out _).mono ?_; rintro _ _ ⟨rfl, rfl⟩) | (go_at_call_of 28 (Value.int IntKind.i64 tu); refine (l1In_r tu 0 1000 true h4.out _).mono ?_; rintro _ _ ⟨rfl, rfl⟩) | (go_at_call_of 28 (Value.int IntKind.i64 sq); refine (l1In_r sq 0 1000000000 true h5.out _).mono ?_; rintro _ _ ⟨rfl, rfl⟩) | (go_at_call_of 28 (Value.int IntKind.i64 fl); refine (l1In_r fl 0 7 true h6.out _).mono ?_; rintro _ _ ⟨rfl, rfl⟩))
  go_ret
  exact ⟨rfl, below1 _ _⟩
set_option maxRecDepth 6000 in
set_option maxHeartbeats 1600000 in
theorem no2_e (bs ep pr tu sq fl : Int) (A : Option Addr) (n c : Nat) (w : World) (h1 : Hid (inR bs 0 1000000000 = true)) (h2 : Hid (inR ep 0 1000000 = true)) (h3 : Hid (inR pr (-1) 1000000000 = true)) (h4 : Hid (inR tu 0 1000 = true)) (h5 : Hid (inR sq 0 1000000000 = true)) (h6 : Hid (inR fl 0 7 = true)) (hp : pr < 0) (ht : (tu != 0) = false) (hs : (sq != 0) = false) (hq : q1 fl = false) (hf : 4 ≤ fl) (hq0 : q0 fl = true) :
    Calls Try.prog 29 #[bv bs ep pr tu sq fl (.slice A n c)] w fun e w' => e = .returned (.bool false) ∧ Below w.heap.size w w' := by
  unfold bv
  unfold q1 at hq
  unfold q0 at hq0
  go_enter Try.func29, Try.ntmps29
  go_wp2_with (first | (go_at_call_of 28 (Value.int IntKind.i64 bs); refine (l1In_r bs 0 1000000000 true h1.out _).mono ?_; rintro _ _ ⟨rfl, rfl⟩) | (go_at_call_of 28 (Value.int IntKind.i64 ep); refine (l1In_r ep 0 1000000 true h2.out _).mono ?_; rintro _ _ ⟨rfl, rfl⟩) | (go_at_call_of 28 (Value.int IntKind.i64 pr); refine (l1In_r pr (-1) 1000000000 true h3.out _).mono ?_; rintro _ _ ⟨rfl, rfl⟩) | (go_at_call_of 28 (Value.int IntKind.i64 tu); refine (l1In_r tu 0 1000 true h4.out _).mono ?_; rintro _ _ ⟨rfl, rfl⟩) | (go_at_call_of 28 (Value.int IntKind.i64 sq); refine (l1In_r sq 0 1000000000 true h5.out _).mono ?_; rintro _ _ ⟨rfl, rfl⟩) | (go_at_call_of 28 (Value.int IntKind.i64 fl); refine (l1In_r fl 0 7 true h6.out _).mono ?_; rintro _ _ ⟨rfl, rfl⟩))
  go_ret
  exact ⟨rfl, below1 _ _⟩
theorem okB1_parts {bs ep pr tu sq fl : Int} (h : okB1 bs ep pr tu sq fl = true) : inR bs 0 1000000000 = true ∧ inR ep 0 1000000 = true ∧ inR pr (-1) 1000000000 = true ∧ inR tu 0 1000 = true ∧ inR sq 0 1000000000 = true ∧ inR fl 0 7 = true := by
  simp only [okB1, Bool.and_eq_true] at h
  obtain ⟨⟨⟨⟨⟨h1, h2⟩, h3⟩, h4⟩, h5⟩, h6⟩ := h
  exact ⟨h1, h2, h3, h4, h5, h6⟩
theorem no2 (bs ep pr tu sq fl : Int) (A : Option Addr) (n c : Nat) (w : World) (h0 : okB1 bs ep pr tu sq fl = true) (h : bad2 pr tu sq fl = true) :
    Calls Try.prog 29 #[bv bs ep pr tu sq fl (.slice A n c)] w fun e w' => e = .returned (.bool false) ∧ Below w.heap.size w w' := by
  obtain ⟨h1, h2, h3, h4, h5, h6⟩ := okB1_parts h0
  by_cases hp : pr < 0
  · cases ht : (tu != 0) with
    | true => exact no2_a bs ep pr tu sq fl A n c w h1 h2 h3 h4 h5 h6 hp ht
    | false =>
    cases hs : (sq != 0) with
    | true => exact no2_b bs ep pr tu sq fl A n c w h1 h2 h3 h4 h5 h6 hp ht hs
    | false =>
    cases hq : q1 fl with
    | true => exact no2_c bs ep pr tu sq fl A n c w h1 h2 h3 h4 h5 h6 hp ht hs hq
    | false =>
    simp only [bad2, ht, hs, hq, Bool.or_false, Bool.and_false, Bool.false_or, Bool.and_eq_true, decide_eq_true_eq] at h
    exact no2_e bs ep pr tu sq fl A n c w h1 h2 h3 h4 h5 h6 hp ht hs hq h.1 h.2
  · simp only [bad2, hp, decide_false, Bool.false_and, Bool.false_or, Bool.and_eq_true, decide_eq_true_eq] at h
    exact no2_d bs ep pr tu sq fl A n c w h1 h2 h3 h4 h5 h6 hp h.1 h.2

/-- The three ways past the second test. -/
def Way (pr tu sq fl : Int) : Prop := (¬ pr < 0 ∧ ¬ 4 ≤ fl) ∨ (¬ pr < 0 ∧ 4 ≤ fl ∧ q0 fl = false) ∨ (pr < 0 ∧ (tu != 0) = false ∧ (sq != 0) = false ∧ q1 fl = false ∧ ¬ 4 ≤ fl)
theorem way_of {bs ep pr tu sq fl : Int} (h0 : okB1 bs ep pr tu sq fl = true) (h : bad2 pr tu sq fl = false) : Way pr tu sq fl := by
  obtain ⟨_, _, _, _, _, h6⟩ := okB1_parts h0
  have hf : 0 ≤ fl ∧ fl ≤ 7 := by simpa [inR] using h6
  have h8 : fl = 0 ∨ fl = 1 ∨ fl = 2 ∨ fl = 3 ∨ fl = 4 ∨ fl = 5 ∨ fl = 6 ∨ fl = 7 := by omega
  by_cases hp : pr < 0
  · right; right
    cases ht : (tu != 0) with
    | true => simp [bad2, hp, ht] at h
    | false =>
    cases hs : (sq != 0) with
    | true => simp [bad2, hp, hs] at h
    | false =>
    cases hq : q1 fl with
    | true => simp [bad2, hp, hq] at h
    | false =>
    refine ⟨hp, rfl, rfl, rfl, fun h4 => ?_⟩
    have hz : q0 fl = false := by
      cases hz : q0 fl with
      | false => rfl
      | true => simp [bad2, h4, hz] at h
    rcases h8 with rfl | rfl | rfl | rfl | rfl | rfl | rfl | rfl <;> first | omega | (revert hq hz; decide +kernel)
  · by_cases h4 : 4 ≤ fl
    · right; left
      refine ⟨hp, h4, ?_⟩
      cases hz : q0 fl with
      | false => rfl
      | true => simp [bad2, h4, hz] at h
    · exact .inl ⟨hp, h4⟩
set_option maxRecDepth 6000 in
set_option maxHeartbeats 1600000 in
theorem no3_a (bs ep pr tu sq fl : Int) (A : Option Addr) (n c : Nat) (w : World) (h1 : Hid (inR bs 0 1000000000 = true)) (h2 : Hid (inR ep 0 1000000 = true)) (h3 : Hid (inR pr (-1) 1000000000 = true)) (h4 : Hid (inR tu 0 1000 = true)) (h5 : Hid (inR sq 0 1000000000 = true)) (h6 : Hid (inR fl 0 7 = true)) (hw : Way pr tu sq fl) (hn : Hid (inR (n : Int) 1 40 = false)) :
    Calls Try.prog 29 #[bv bs ep pr tu sq fl (.slice A n c)] w fun e w' => e = .returned (.bool false) ∧ Below w.heap.size w w' := by
  unfold bv
  have r1 : 0 ≤ bs ∧ bs ≤ 1000000000 := by simpa [inR] using h1.out
  have r5 : 0 ≤ sq ∧ sq ≤ 1000000000 := by simpa [inR] using h5.out
  rcases hw with ⟨hp, hf⟩ | ⟨hp, hf, hq0⟩ | ⟨hp, ht, hs, hq, hf⟩
  all_goals
    try unfold q1 at hq
    try unfold q0 at hq0
    go_enter Try.func29, Try.ntmps29
    go_wp2_with (first | (go_at_call_of 28 (Value.int IntKind.i64 bs); refine (l1In_r bs 0 1000000000 true h1.out _).mono ?_; rintro _ _ ⟨rfl, rfl⟩) | (go_at_call_of 28 (Value.int IntKind.i64 ep); refine (l1In_r ep 0 1000000 true h2.out _).mono ?_; rintro _ _ ⟨rfl, rfl⟩) | (go_at_call_of 28 (Value.int IntKind.i64 pr); refine (l1In_r pr (-1) 1000000000 true h3.out _).mono ?_; rintro _ _ ⟨rfl, rfl⟩) | (go_at_call_of 28 (Value.int IntKind.i64 tu); refine (l1In_r tu 0 1000 true h4.out _).mono ?_; rintro _ _ ⟨rfl, rfl⟩) | (go_at_call_of 28 (Value.int IntKind.i64 sq); refine (l1In_r sq 0 1000000000 true h5.out _).mono ?_; rintro _ _ ⟨rfl, rfl⟩) | (go_at_call_of 28 (Value.int IntKind.i64 fl); refine (l1In_r fl 0 7 true h6.out _).mono ?_; rintro _ _ ⟨rfl, rfl⟩) | (go_at_call_of 28 (Value.int IntKind.i64 (n : Int)); refine (l1In_r n 1 40 false hn.out _).mono ?_; rintro _ _ ⟨rfl, rfl⟩))
    go_ret
    exact ⟨rfl, below1 _ _⟩
set_option maxRecDepth 6000 in
set_option maxHeartbeats 1600000 in
theorem no3_b (bs ep pr tu sq fl : Int) (A : Option Addr) (n c : Nat) (w : World) (h1 : Hid (inR bs 0 1000000000 = true)) (h2 : Hid (inR ep 0 1000000 = true)) (h3 : Hid (inR pr (-1) 1000000000 = true)) (h4 : Hid (inR tu 0 1000 = true)) (h5 : Hid (inR sq 0 1000000000 = true)) (h6 : Hid (inR fl 0 7 = true)) (hw : Way pr tu sq fl) (hn : Hid (inR (n : Int) 1 40 = true)) (hb : 1000000000 < bs + n - 1) :
    Calls Try.prog 29 #[bv bs ep pr tu sq fl (.slice A n c)] w fun e w' => e = .returned (.bool false) ∧ Below w.heap.size w w' := by
  unfold bv
  have r1 : 0 ≤ bs ∧ bs ≤ 1000000000 := by simpa [inR] using h1.out
  have r5 : 0 ≤ sq ∧ sq ≤ 1000000000 := by simpa [inR] using h5.out
  have rn : 1 ≤ (n : Int) ∧ (n : Int) ≤ 40 := by simpa [inR] using hn.out
  rcases hw with ⟨hp, hf⟩ | ⟨hp, hf, hq0⟩ | ⟨hp, ht, hs, hq, hf⟩
  all_goals
    try unfold q1 at hq
    try unfold q0 at hq0
    go_enter Try.func29, Try.ntmps29
    go_wp2_with (first | (go_at_call_of 28 (Value.int IntKind.i64 bs); refine (l1In_r bs 0 1000000000 true h1.out _).mono ?_; rintro _ _ ⟨rfl, rfl⟩) | (go_at_call_of 28 (Value.int IntKind.i64 ep); refine (l1In_r ep 0 1000000 true h2.out _).mono ?_; rintro _ _ ⟨rfl, rfl⟩) | (go_at_call_of 28 (Value.int IntKind.i64 pr); refine (l1In_r pr (-1) 1000000000 true h3.out _).mono ?_; rintro _ _ ⟨rfl, rfl⟩) | (go_at_call_of 28 (Value.int IntKind.i64 tu); refine (l1In_r tu 0 1000 true h4.out _).mono ?_; rintro _ _ ⟨rfl, rfl⟩) | (go_at_call_of 28 (Value.int IntKind.i64 sq); refine (l1In_r sq 0 1000000000 true h5.out _).mono ?_; rintro _ _ ⟨rfl, rfl⟩) | (go_at_call_of 28 (Value.int IntKind.i64 fl); refine (l1In_r fl 0 7 true h6.out _).mono ?_; rintro _ _ ⟨rfl, rfl⟩) | (go_at_call_of 28 (Value.int IntKind.i64 (n : Int)); refine (l1In_r n 1 40 true hn.out _).mono ?_; rintro _ _ ⟨rfl, rfl⟩))
    go_ret
    exact ⟨rfl, below1 _ _⟩
set_option maxRecDepth 6000 in
set_option maxHeartbeats 1600000 in
theorem no3_c (bs ep pr tu sq fl : Int) (A : Option Addr) (n c : Nat) (w : World) (h1 : Hid (inR bs 0 1000000000 = true)) (h2 : Hid (inR ep 0 1000000 = true)) (h3 : Hid (inR pr (-1) 1000000000 = true)) (h4 : Hid (inR tu 0 1000 = true)) (h5 : Hid (inR sq 0 1000000000 = true)) (h6 : Hid (inR fl 0 7 = true)) (hw : Way pr tu sq fl) (hn : Hid (inR (n : Int) 1 40 = true)) (hb : ¬ 1000000000 < bs + n - 1) (hc : 1000000000 < sq + n - 1) :
    Calls Try.prog 29 #[bv bs ep pr tu sq fl (.slice A n c)] w fun e w' => e = .returned (.bool false) ∧ Below w.heap.size w w' := by
  unfold bv
  have r1 : 0 ≤ bs ∧ bs ≤ 1000000000 := by simpa [inR] using h1.out
  have r5 : 0 ≤ sq ∧ sq ≤ 1000000000 := by simpa [inR] using h5.out
  have rn : 1 ≤ (n : Int) ∧ (n : Int) ≤ 40 := by simpa [inR] using hn.out
  rcases hw with ⟨hp, hf⟩ | ⟨hp, hf, hq0⟩ | ⟨hp, ht, hs, hq, hf⟩
  all_goals
    try unfold q1 at hq
    try unfold q0 at hq0
    go_enter Try.func29, Try.ntmps29
    go_wp2_with (first | (go_at_call_of 28 (Value.int IntKind.i64 bs); refine (l1In_r bs 0 1000000000 true h1.out _).mono ?_; rintro _ _ ⟨rfl, rfl⟩) | (go_at_call_of 28 (Value.int IntKind.i64 ep); refine (l1In_r ep 0 1000000 true h2.out _).mono ?_; rintro _ _ ⟨rfl, rfl⟩) | (go_at_call_of 28 (Value.int IntKind.i64 pr); refine (l1In_r pr (-1) 1000000000 true h3.out _).mono ?_; rintro _ _ ⟨rfl, rfl⟩) | (go_at_call_of 28 (Value.int IntKind.i64 tu); refine (l1In_r tu 0 1000 true h4.out _).mono ?_; rintro _ _ ⟨rfl, rfl⟩) | (go_at_call_of 28 (Value.int IntKind.i64 sq); refine (l1In_r sq 0 1000000000 true h5.out _).mono ?_; rintro _ _ ⟨rfl, rfl⟩) | (go_at_call_of 28 (Value.int IntKind.i64 fl); refine (l1In_r fl 0 7 true h6.out _).mono ?_; rintro _ _ ⟨rfl, rfl⟩) | (go_at_call_of 28 (Value.int IntKind.i64 (n : Int)); refine (l1In_r n 1 40 true hn.out _).mono ?_; rintro _ _ ⟨rfl, rfl⟩))
    go_ret
    exact ⟨rfl, below1 _ _⟩
theorem no3 (bs ep pr tu sq fl : Int) (A : Option Addr) (n c : Nat) (w : World) (h0 : okB1 bs ep pr tu sq fl = true) (hw : Way pr tu sq fl) (h : okB3 bs sq n = false) :
    Calls Try.prog 29 #[bv bs ep pr tu sq fl (.slice A n c)] w fun e w' => e = .returned (.bool false) ∧ Below w.heap.size w w' := by
  obtain ⟨h1, h2, h3, h4, h5, h6⟩ := okB1_parts h0
  cases hn : inR (n : Int) 1 40 with
  | false => exact no3_a bs ep pr tu sq fl A n c w h1 h2 h3 h4 h5 h6 hw hn
  | true =>
  by_cases hb : 1000000000 < bs + n - 1
  · exact no3_b bs ep pr tu sq fl A n c w h1 h2 h3 h4 h5 h6 hw hn hb
  by_cases hc : 1000000000 < sq + n - 1
  · exact no3_c bs ep pr tu sq fl A n c w h1 h2 h3 h4 h5 h6 hw hn hb hc
  simp [okB3, hn] at h
  omega
end Go.Proofs.Ytidggillganafaa.BOk
