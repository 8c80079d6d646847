/- RecordOk of the program. -/
import Derived.Test.YtdhicmbfknagjaaROk
namespace Go.Proofs.Ytdhicmbfknagjaa.ROk
set_option maxRecDepth 8000
open Go.RowKit
open Recs
set_option linter.unusedVariables false

set_option maxHeartbeats 800000 in
theorem impl_no0 (t : Int) (kd : Bool) (k : ByteArray) (gn : Bool) (v : ByteArray) (A : Option Addr) (n c : Nat) (w : World) (h : ok0 t k v n = false) :
    Calls Try.prog 139 #[rv t kd k gn v (.slice A n c)] w fun e w' => e = .returned (.bool false) ∧ Below w.heap.size w w' := by
  unfold rv
  cases h1 : (decide (0 ≤ t) && decide (t ≤ 1000000000000)) with
  | false =>
    have H1 := Seg.hid h1
    clear h h1
    go_enter Try.func139, Try.ntmps139
    go_wp2_with (go_at_call 41; refine (within_b _ _ _ _ H1.out _).mono ?_; rintro _ _ ⟨rfl, rfl⟩)
    go_ret
    exact ⟨rfl, below1 _ _⟩
  | true =>
  have H1 := Seg.hid h1
  cases h2 : decide (k.size ≤ 100) with
  | false =>
    have H2 := Seg.hid h2
    clear h h1 h2
    go_enter Try.func139, Try.ntmps139
    go_wp2_with (first | (go_at_call 41; refine (within_b _ _ _ _ H1.out _).mono ?_; rintro _ _ ⟨rfl, rfl⟩) | (go_at_call 144; refine (textOk_b k _ H2.out _).mono ?_; rintro _ _ ⟨rfl, rfl⟩))
    go_ret
    exact ⟨rfl, below1 _ _⟩
  | true =>
  have H2 := Seg.hid h2
  cases h3 : decide (v.size ≤ 100) with
  | false =>
    have H3 := Seg.hid h3
    clear h h1 h2 h3
    go_enter Try.func139, Try.ntmps139
    go_wp2_with (first | (go_at_call 41; refine (within_b _ _ _ _ H1.out _).mono ?_; rintro _ _ ⟨rfl, rfl⟩) | (go_at_call 144; refine (textOk_b k _ H2.out _).mono ?_; rintro _ _ ⟨rfl, rfl⟩) | (go_at_call 144; refine (textOk_b v _ H3.out _).mono ?_; rintro _ _ ⟨rfl, rfl⟩))
    go_ret
    exact ⟨rfl, below1 _ _⟩
  | true =>
  have H3 := Seg.hid h3
  cases h4 : decide (n ≤ 3) with
  | false =>
    have g4 : (3 : Int) < (n : Int) := gt_of _ _ h4
    clear h h1 h2 h3 h4
    go_enter Try.func139, Try.ntmps139
    go_wp2_with (first | (go_at_call 41; refine (within_b _ _ _ _ H1.out _).mono ?_; rintro _ _ ⟨rfl, rfl⟩) | (go_at_call 144; refine (textOk_b k _ H2.out _).mono ?_; rintro _ _ ⟨rfl, rfl⟩) | (go_at_call 144; refine (textOk_b v _ H3.out _).mono ?_; rintro _ _ ⟨rfl, rfl⟩))
    go_ret
    exact ⟨rfl, below1 _ _⟩
  | true => simp [ok0] at h h1 h2 h3 h4; omega

set_option maxHeartbeats 800000 in
theorem impl_no1 (t : Int) (kd : Bool) (k : ByteArray) (gn : Bool) (v : ByteArray) (A : Option Addr) (n c : Nat) (w : World) (h0 : ok0 t k v n = true) (h : ok1 kd k gn v = false) :
    Calls Try.prog 139 #[rv t kd k gn v (.slice A n c)] w fun e w' => e = .returned (.bool false) ∧ Below w.heap.size w w' := by
  unfold rv
  obtain ⟨a1, a2, a3, a4⟩ := ok0_parts h0
  have H1 := Seg.hid a1
  have H2 := Seg.hid a2
  have H3 := Seg.hid a3
  have g4 : ¬ (3 : Int) < (n : Int) := le_of _ _ a4
  clear a1 a2 a3 a4 h0
  cases e1 : (kd || k.toList.isEmpty) with
  | false =>
    obtain ⟨rfl, hk⟩ := Bool.or_eq_false_iff.1 e1
    clear e1 h
    go_enter Try.func139, Try.ntmps139
    go_wp2_with (first | (go_at_call 41; refine (within_b _ _ _ _ H1.out _).mono ?_; rintro _ _ ⟨rfl, rfl⟩) | (go_at_call 144; refine (textOk_b k _ H2.out _).mono ?_; rintro _ _ ⟨rfl, rfl⟩) | (go_at_call 144; refine (textOk_b v _ H3.out _).mono ?_; rintro _ _ ⟨rfl, rfl⟩))
    go_ret
    exact ⟨rfl, below1 _ _⟩
  | true =>
    have e2 : (!gn || v.toList.isEmpty) = false := by rw [ok1, e1] at h; simpa using h
    obtain ⟨hg, hv⟩ := Bool.or_eq_false_iff.1 e2
    obtain rfl : gn = true := by simpa using hg
    clear e2 h hg
    cases kd with
    | true =>
      clear e1
      go_enter Try.func139, Try.ntmps139
      go_wp2_with (first | (go_at_call 41; refine (within_b _ _ _ _ H1.out _).mono ?_; rintro _ _ ⟨rfl, rfl⟩) | (go_at_call 144; refine (textOk_b k _ H2.out _).mono ?_; rintro _ _ ⟨rfl, rfl⟩) | (go_at_call 144; refine (textOk_b v _ H3.out _).mono ?_; rintro _ _ ⟨rfl, rfl⟩))
      go_ret
      exact ⟨rfl, below1 _ _⟩
    | false =>
      have hk : k.toList.isEmpty = true := by simpa using e1
      clear e1
      go_enter Try.func139, Try.ntmps139
      go_wp2_with (first | (go_at_call 41; refine (within_b _ _ _ _ H1.out _).mono ?_; rintro _ _ ⟨rfl, rfl⟩) | (go_at_call 144; refine (textOk_b k _ H2.out _).mono ?_; rintro _ _ ⟨rfl, rfl⟩) | (go_at_call 144; refine (textOk_b v _ H3.out _).mono ?_; rintro _ _ ⟨rfl, rfl⟩))
      go_ret
      exact ⟨rfl, below1 _ _⟩

set_option maxHeartbeats 800000 in
theorem impl_yes (t : Int) (kd : Bool) (k : ByteArray) (gn : Bool) (v : ByteArray) (A : Option Addr) (n c : Nat) (K V : Nat → ByteArray) (w : World) (h0 : ok0 t k v n = true) (h : ok1 kd k gn v = true) (hl : Lies w A n c K V) :
    Calls Try.prog 139 #[rv t kd k gn v (.slice A n c)] w fun e w' => Tells e n K V ∧ Below w.heap.size w w' := by
  unfold rv
  obtain ⟨a1, a2, a3, a4⟩ := ok0_parts h0
  have H1 := Seg.hid a1
  have HL := Seg.hid hl
  have H2 := Seg.hid a2
  have H3 := Seg.hid a3
  have g4 : ¬ (3 : Int) < (n : Int) := le_of _ _ a4
  clear a1 a2 a3 a4 h0 hl
  obtain ⟨e1, e2⟩ : (kd || k.toList.isEmpty) = true ∧ (!gn || v.toList.isEmpty) = true := by simpa [ok1] using h
  clear h
  cases kd <;> cases gn
  all_goals
    simp only [Bool.false_or, Bool.true_or, Bool.not_false, Bool.not_true] at e1 e2
    go_enter Try.func139, Try.ntmps139
    go_wp2_with (first | (go_at_call 41; refine (within_b _ _ _ _ H1.out _).mono ?_; rintro _ _ ⟨rfl, rfl⟩) | (go_at_call 144; refine (textOk_b k _ H2.out _).mono ?_; rintro _ _ ⟨rfl, rfl⟩) | (go_at_call 144; refine (textOk_b v _ H3.out _).mono ?_; rintro _ _ ⟨rfl, rfl⟩))
    go_loopw [47] (fun i wr => ∃ j : Nat, j ≤ n ∧ i = .int .i64 j ∧ Hid (Below w.heap.size w wr ∧ ∀ i, i < j → okKV K V i = true)) (fun i _ => n - (intOf i).toNat)
    case atStart => exact ⟨0, Nat.zero_le _, rfl, below1 _ _, fun i hi => absurd hi (by omega)⟩
    case round =>
      obtain ⟨j, hj, rfl, HR⟩ := hrel
      by_cases hlt : j < n
      · obtain ⟨g, o, rfl, hg, hc, ha⟩ := HL.out.resolve_left (by omega)
        have c1 : wr.cell? ⟨g, o + j * 2, none⟩ = some (.string (K j)) := by rw [HR.out.1.cell (p := ⟨g, o + j * 2, none⟩) hg]; exact (ha j hlt).1
        have c2 : wr.cell? ⟨g, o + j * 2 + 1, none⟩ = some (.string (V j)) := by rw [HR.out.1.cell (p := ⟨g, o + j * 2 + 1, none⟩) hg]; exact (ha j hlt).2
        have HA := Seg.hid ha
        clear ha
        have i0 : (0 : Int) ≤ (j : Int) := by omega
        have i1 : (j : Int) < (n : Int) := by omega
        cases hE : (K j).toList.isEmpty with
        | true =>
          go_wp2
          go_ret
          exact ⟨Tells.bad hlt (by simp [okKV, hE]), HR.out.1.alloc HR.out.1.size _⟩
        | false =>
        cases hK : decide ((K j).size ≤ 100) with
        | false =>
          have HK := Seg.hid hK
          clear hK
          go_wp2_with (go_at_call 144; refine (textOk_b (K j) _ HK.out _).mono ?_; rintro _ _ ⟨rfl, rfl⟩)
          go_ret
          exact ⟨Tells.bad hlt (by simp only [okKV, HK.out]; simp), HR.out.1.alloc HR.out.1.size _⟩
        | true =>
        have HK := Seg.hid hK
        cases hV : decide ((V j).size ≤ 100) with
        | false =>
          have HV := Seg.hid hV
          clear hK hV
          go_wp2_with (first | (go_at_call 144; refine (textOk_b (K j) _ HK.out _).mono ?_; rintro _ _ ⟨rfl, rfl⟩) | (go_at_call 144; refine (textOk_b (V j) _ HV.out _).mono ?_; rintro _ _ ⟨rfl, rfl⟩))
          go_ret
          exact ⟨Tells.bad hlt (by simp only [okKV, HV.out]; simp), HR.out.1.alloc HR.out.1.size _⟩
        | true =>
        have HV := Seg.hid hV
        clear hK hV
        go_wp2_with (first | (go_at_call 144; refine (textOk_b (K j) _ HK.out _).mono ?_; rintro _ _ ⟨rfl, rfl⟩) | (go_at_call 144; refine (textOk_b (V j) _ HV.out _).mono ?_; rintro _ _ ⟨rfl, rfl⟩))
        go_roundw
        case rel =>
          refine ⟨j + 1, by omega, by go_num, HR.out.1.alloc HR.out.1.size _, fun i hi => ?_⟩
          by_cases he : i = j
          · subst he; simp only [okKV, hE, HK.out, HV.out]; simp
          · exact HR.out.2 i (by omega)
        case measure => simp [intOf]; omega
      · obtain rfl : j = n := by omega
        go_wp2
        go_ret
        exact ⟨Tells.good HR.out.2, HR.out.1⟩

theorem okR_eq (r : Rec) : okR r = (ok0 r.time r.key r.val r.heads.length && ok1 r.keyed r.key r.gone r.val && r.heads.all okH) := rfl
theorem all_iff (hs : List Hd) (b : Bool) (h : (b = true ∧ ∀ i, i < hs.length → okKV (fun i => (hs.getD i default).key) (fun i => (hs.getD i default).val) i = true) ∨ (b = false ∧ ∃ i, i < hs.length ∧ okKV (fun i => (hs.getD i default).key) (fun i => (hs.getD i default).val) i = false)) : b = hs.all okH := by
  rcases h with ⟨rfl, h⟩ | ⟨rfl, i, hi, h⟩
  · symm
    rw [List.all_eq_true]
    intro x hx
    obtain ⟨i, hi, rfl⟩ := List.getElem_of_mem hx
    have := h i hi
    simpa [okKV, okH, hi] using this
  · symm
    rw [List.all_eq_false]
    refine ⟨hs[i], List.getElem_mem hi, ?_⟩
    have h' : okH hs[i] = false := by
      have := h
      simp only [okKV, List.getD_eq_getElem?_getD, List.getElem?_eq_getElem hi, Option.getD_some] at this
      exact this
    rw [h']; simp
theorem lies_of {w : World} {lo b n c : Nat} {A : Option Addr} {hs : List Hd} (hb : b ≤ w.heap.size) (hn : n = hs.length) (h : n = 0 ∨ ∃ g o, A = some ⟨g, o, none⟩ ∧ g < b ∧ n ≤ c ∧ (∀ i, i < n → ∀ j, j < 2 → w.cell? ⟨g, o + i * 2 + j, none⟩ = some (hdCells hs i j)) ∧ lo ≤ g) :
    Lies w A n c (fun i => (hs.getD i default).key) (fun i => (hs.getD i default).val) := by
  rcases h with h | ⟨g, o, h1, h2, h3, h4, _⟩
  · exact .inl h
  · exact .inr ⟨g, o, h1, by omega, h3, fun i hi => Heads.cell0 h4 i hi⟩

theorem spec_any (v : Value) (r : Rec) (w : World) (lo b : Nat) (hv : RecAt w lo b v r) (hb : b ≤ w.heap.size) :
    Calls Try.prog 105 #[v] w fun e w' => e = .returned (.bool (okR r)) ∧ Below w.heap.size w w' := by
  obtain ⟨hv, rfl, hn, A, c, rfl, h⟩ := hv
  show Calls Try.prog 105 #[rv r.time r.keyed r.key r.gone r.val (.slice A r.heads.length c)] w _
  have hl := lies_of hb rfl h
  rw [okR_eq]
  cases h0 : ok0 r.time r.key r.val r.heads.length with
  | false => exact (spec_no0 _ _ _ _ _ A _ c w h0).mono fun e w' h => h
  | true =>
  cases h1 : ok1 r.keyed r.key r.gone r.val with
  | false => exact (spec_no1 _ _ _ _ _ A _ c w h0 h1).mono fun e w' h => h
  | true =>
    refine (spec_yes _ _ _ _ _ A _ c _ _ w h0 h1 hl).mono fun e w' h => ?_
    obtain ⟨⟨b, rfl, h2⟩, h3⟩ := h
    refine ⟨?_, h3⟩
    rw [all_iff r.heads b h2]
    simp
theorem impl_any (v : Value) (r : Rec) (w : World) (lo b : Nat) (hv : RecAt w lo b v r) (hb : b ≤ w.heap.size) :
    Calls Try.prog 139 #[v] w fun e w' => e = .returned (.bool (okR r)) ∧ Below w.heap.size w w' := by
  obtain ⟨hv, rfl, hn, A, c, rfl, h⟩ := hv
  show Calls Try.prog 139 #[rv r.time r.keyed r.key r.gone r.val (.slice A r.heads.length c)] w _
  have hl := lies_of hb rfl h
  rw [okR_eq]
  cases h0 : ok0 r.time r.key r.val r.heads.length with
  | false => exact (impl_no0 _ _ _ _ _ A _ c w h0).mono fun e w' h => h
  | true =>
  cases h1 : ok1 r.keyed r.key r.gone r.val with
  | false => exact (impl_no1 _ _ _ _ _ A _ c w h0 h1).mono fun e w' h => h
  | true =>
    refine (impl_yes _ _ _ _ _ A _ c _ _ w h0 h1 hl).mono fun e w' h => ?_
    obtain ⟨⟨b, rfl, h2⟩, h3⟩ := h
    refine ⟨?_, h3⟩
    rw [all_iff r.heads b h2]
    simp
end Go.Proofs.Ytdhicmbfknagjaa.ROk
