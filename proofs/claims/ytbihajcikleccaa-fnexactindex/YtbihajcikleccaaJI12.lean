/- Batches as bytes, on plain lists; RecordOk of the program. -/
import Derived.Test.YtbihajcikleccaaJI09
import Derived.Test.YtbihajcikleccaaJI11
namespace Go.Proofs.Ytbihajcikleccaa.WrP
set_option maxRecDepth 8000
open Nums (put)
open Recs
set_option linter.unusedVariables false

/-- The bytes of a text. -/
def txt (s : ByteArray) : List Int := s.data.toList.map fun b => (b.toNat : Int)
theorem txt_len (s : ByteArray) : (txt s).length = s.size := by rw [txt, List.length_map, Array.length_toList]; rfl
def txtIf (b : Bool) (s : ByteArray) : List Int := if b then put (s.size : Int) ++ txt s else put (-1)
def hd (h : Hd) : List Int := put (h.key.size : Int) ++ put (h.val.size : Int) ++ txt h.key ++ txt h.val
def hdsB : List Hd → List Int
  | [] => []
  | h :: r => hd h ++ hdsB r
def hds (hs : List Hd) : List Int := put (hs.length : Int) ++ hdsB hs
def hdsV (ver : Int) (hs : List Hd) : List Int := if ver = 2 then hds hs else []
def rec1 (ver last : Int) (r : Rec) : List Int := put (r.time - last) ++ txtIf r.keyed r.key ++ txtIf (!r.gone) r.val ++ hdsV ver r.heads
def recs (ver : Int) : Int → List Rec → List Int
  | _, [] => []
  | last, r :: rs => rec1 ver last r ++ recs ver r.time rs
def body (ver : Int) (rs : List Rec) : List Int := put (rs.length : Int) ++ recs ver 0 rs
def numsB : List Int → List Int
  | [] => []
  | n :: r => put n ++ numsB r
def four (n : Int) : List Int := [n / 16777216 % 256, n / 65536 % 256, n / 256 % 256, n % 256]
def headN (ver : Int) (t : Bat) (k : Int) : List Int := if ver = 2 then [t.base, t.epoch, t.producer, t.turn, t.seq, t.flags, k] else [t.base, t.epoch, t.flags, k]
/-- The body as it is written. -/
def bodyS (t : Bat) (ver : Int) : List Int := if t.flags % 2 = 1 then SqF.sq (body ver t.recs) 0 0 [] else body ver t.recs
def pre (t : Bat) (ver : Int) : List Int := [77, ver] ++ numsB (headN ver t (bodyS t ver).length) ++ bodyS t ver
/-- The version holds the batch. -/
def holds (t : Bat) (ver : Int) : Bool := decide (ver = 2) || (decide (ver = 1) && decide (t.producer = -1) && t.recs.all fun r => decide (r.heads.length = 0))

/-! ### How long they are -/
theorem put_le (n : Int) (h : -1000000000000 ≤ n ∧ n ≤ 1000000000000) : (put n).length ≤ 10 := Nums.put_len (by omega) (by omega)
theorem txtIf_le (b : Bool) (s : ByteArray) (h : s.size ≤ 100) : (txtIf b s).length ≤ 110 := by
  unfold txtIf
  split
  · have := put_le (s.size : Int) (by omega)
    rw [List.length_append, txt_len]; omega
  · have := put_le (-1) (by omega)
    omega
theorem okH_parts {h : Hd} (hk : ROk.okH h = true) : h.key.size ≤ 100 ∧ h.val.size ≤ 100 := by
  simp only [ROk.okH, Bool.and_eq_true, decide_eq_true_eq] at hk
  exact ⟨hk.1.2, hk.2⟩
theorem hd_le {h : Hd} (hk : ROk.okH h = true) : (hd h).length ≤ 220 := by
  obtain ⟨h1, h2⟩ := okH_parts hk
  have a := put_le (h.key.size : Int) (by omega)
  have b := put_le (h.val.size : Int) (by omega)
  simp only [hd, List.length_append, txt_len]
  omega
theorem hdsB_le : ∀ (hs : List Hd), hs.all ROk.okH = true → (hdsB hs).length ≤ 220 * hs.length
  | [], _ => by simp [hdsB]
  | h :: r, hk => by
    simp only [List.all_cons, Bool.and_eq_true] at hk
    have := hd_le hk.1
    have := hdsB_le r hk.2
    simp only [hdsB, List.length_append, List.length_cons]
    omega
theorem okR_parts {r : Rec} (h : ROk.okR r = true) : 0 ≤ r.time ∧ r.time ≤ 1000000000000 ∧ r.key.size ≤ 100 ∧ r.val.size ≤ 100 ∧ r.heads.length ≤ 3 ∧ r.heads.all ROk.okH = true := by
  simp only [ROk.okR, ROk.okR0, Bool.and_eq_true, decide_eq_true_eq] at h
  exact ⟨h.1.1.1.1.1.1, h.1.1.1.1.1.2, h.1.1.1.1.2, h.1.1.1.2, h.1.1.2, h.2⟩
theorem hdsV_le (ver : Int) {hs : List Hd} (h : hs.all ROk.okH = true) (hl : hs.length ≤ 3) : (hdsV ver hs).length ≤ 670 := by
  unfold hdsV
  split
  · have := hdsB_le hs h
    have := put_le (hs.length : Int) (by omega)
    rw [hds, List.length_append]; omega
  · simp
theorem rec1_le (ver last : Int) {r : Rec} (h : ROk.okR r = true) (hl : 0 ≤ last ∧ last ≤ 1000000000000) : (rec1 ver last r).length ≤ 900 := by
  obtain ⟨h1, h2, h3, h4, h5, h6⟩ := okR_parts h
  have a := put_le (r.time - last) (by omega)
  have b := txtIf_le r.keyed r.key h3
  have c := txtIf_le (!r.gone) r.val h4
  have d := hdsV_le ver h6 h5
  simp only [rec1, List.length_append]
  omega
theorem recs_le (ver : Int) : ∀ (rs : List Rec) (last : Int), rs.all ROk.okR = true → 0 ≤ last ∧ last ≤ 1000000000000 → (recs ver last rs).length ≤ 900 * rs.length
  | [], _, _, _ => by simp [recs]
  | r :: rs, last, h, hl => by
    simp only [List.all_cons, Bool.and_eq_true] at h
    obtain ⟨h1, h2, _⟩ := okR_parts h.1
    have := rec1_le ver last h.1 hl
    have := recs_le ver rs r.time h.2 ⟨h1, h2⟩
    simp only [recs, List.length_append, List.length_cons]
    omega
theorem body_le (ver : Int) (rs : List Rec) (h : rs.all ROk.okR = true) (hl : rs.length ≤ 40) : (body ver rs).length ≤ 37000 := by
  have := recs_le ver rs 0 h (by omega)
  have := put_le (rs.length : Int) (by omega)
  rw [body, List.length_append]; omega

/-! ### They are bytes -/
def By (l : List Int) : Prop := ∀ x ∈ l, 0 ≤ x ∧ x < 256
theorem By.app {a b : List Int} (h1 : By a) (h2 : By b) : By (a ++ b) := fun x hx => (List.mem_append.1 hx).elim (h1 x) (h2 x)
theorem by_nil : By [] := fun x hx => by simp at hx
theorem by_put (n : Int) : By (put n) := Back.digs_byte _
theorem by_txt (s : ByteArray) : By (txt s) := fun x hx => by
  simp only [txt, List.mem_map] at hx
  obtain ⟨b, _, rfl⟩ := hx
  have := b.toNat_lt
  omega
theorem by_txtIf (b : Bool) (s : ByteArray) : By (txtIf b s) := by
  unfold txtIf
  split
  · exact (by_put _).app (by_txt _)
  · exact by_put _
theorem by_hd (h : Hd) : By (hd h) := (((by_put _).app (by_put _)).app (by_txt _)).app (by_txt _)
theorem by_hdsB : ∀ hs : List Hd, By (hdsB hs)
  | [] => by_nil
  | h :: r => (by_hd h).app (by_hdsB r)
theorem by_hdsV (ver : Int) (hs : List Hd) : By (hdsV ver hs) := by
  unfold hdsV
  split
  · exact (by_put _).app (by_hdsB _)
  · exact by_nil
theorem by_recs (ver : Int) : ∀ (rs : List Rec) (last : Int), By (recs ver last rs)
  | [], _ => by_nil
  | r :: rs, last => ((((by_put _).app (by_txtIf _ _)).app (by_txtIf _ _)).app (by_hdsV _ _)).app (by_recs ver rs _)
theorem by_body (ver : Int) (rs : List Rec) : By (body ver rs) := (by_put _).app (by_recs _ _ _)
theorem by_nums : ∀ ns : List Int, By (numsB ns)
  | [] => by_nil
  | n :: r => (by_put n).app (by_nums r)
theorem By.byt {l : List Int} (h : By l) : Seg.Byt l := Seg.byt_of h

/-! ### Step by step -/
theorem drop_at {α : Type} [Inhabited α] {l : List α} {k : Nat} (h : k < l.length) : l.drop k = l.getD k default :: l.drop (k + 1) := by
  rw [List.drop_eq_getElem_cons h]
  simp [h]
theorem recs_at (ver last : Int) {rs : List Rec} {k : Nat} (h : k < rs.length) : recs ver last (rs.drop k) = rec1 ver last (rs.getD k default) ++ recs ver (rs.getD k default).time (rs.drop (k + 1)) := by
  rw [drop_at h, recs]
theorem hdsB_at {hs : List Hd} {k : Nat} (h : k < hs.length) : hdsB (hs.drop k) = hd (hs.getD k default) ++ hdsB (hs.drop (k + 1)) := by
  rw [drop_at h, hdsB]
theorem numsB_at {ns : List Int} {k : Nat} (h : k < ns.length) : numsB (ns.drop k) = put (ns.getD k 0) ++ numsB (ns.drop (k + 1)) := by
  rw [List.drop_eq_getElem_cons h, numsB]
  simp [h]
end Go.Proofs.Ytbihajcikleccaa.WrP
namespace Go.Proofs.Ytbihajcikleccaa.ROk
set_option maxRecDepth 8000
open Go.RowKit
open Recs
set_option linter.unusedVariables false

set_option maxHeartbeats 800000 in
theorem impl_no0 (t : Int) (kd : Bool) (k : ByteArray) (gn : Bool) (v : ByteArray) (A : Option Addr) (n c : Nat) (w : World) (h : ok0 t k v n = false) :
    Calls Try.prog 58 #[rv t kd k gn v (.slice A n c)] w fun e w' => e = .returned (.bool false) ∧ Below w.heap.size w w' := by
  unfold rv
  cases h1 : (decide (0 ≤ t) && decide (t ≤ 1000000000000)) with
  | false =>
    have H1 := Seg.hid h1
    clear h h1
    go_enter Try.func58, Try.ntmps58
    go_wp2_with (go_at_call 37; refine (within_b _ _ _ _ H1.out _).mono ?_; rintro _ _ ⟨rfl, rfl⟩)
    go_ret
    exact ⟨rfl, below1 _ _⟩
  | true =>
  have H1 := Seg.hid h1
  cases h2 : decide (k.size ≤ 100) with
  | false =>
    have H2 := Seg.hid h2
    clear h h1 h2
    go_enter Try.func58, Try.ntmps58
    go_wp2_with (first | (go_at_call 37; refine (within_b _ _ _ _ H1.out _).mono ?_; rintro _ _ ⟨rfl, rfl⟩) | (go_at_call 78; refine (textOk_b k _ H2.out _).mono ?_; rintro _ _ ⟨rfl, rfl⟩))
    go_ret
    exact ⟨rfl, below1 _ _⟩
  | true =>
  have H2 := Seg.hid h2
  cases h3 : decide (v.size ≤ 100) with
  | false =>
    have H3 := Seg.hid h3
    clear h h1 h2 h3
    go_enter Try.func58, Try.ntmps58
    go_wp2_with (first | (go_at_call 37; refine (within_b _ _ _ _ H1.out _).mono ?_; rintro _ _ ⟨rfl, rfl⟩) | (go_at_call 78; refine (textOk_b k _ H2.out _).mono ?_; rintro _ _ ⟨rfl, rfl⟩) | (go_at_call 78; refine (textOk_b v _ H3.out _).mono ?_; rintro _ _ ⟨rfl, rfl⟩))
    go_ret
    exact ⟨rfl, below1 _ _⟩
  | true =>
  have H3 := Seg.hid h3
  cases h4 : decide (n ≤ 3) with
  | false =>
    have g4 : (3 : Int) < (n : Int) := gt_of _ _ h4
    clear h h1 h2 h3 h4
    go_enter Try.func58, Try.ntmps58
    go_wp2_with (first | (go_at_call 37; refine (within_b _ _ _ _ H1.out _).mono ?_; rintro _ _ ⟨rfl, rfl⟩) | (go_at_call 78; refine (textOk_b k _ H2.out _).mono ?_; rintro _ _ ⟨rfl, rfl⟩) | (go_at_call 78; refine (textOk_b v _ H3.out _).mono ?_; rintro _ _ ⟨rfl, rfl⟩))
    go_ret
    exact ⟨rfl, below1 _ _⟩
  | true => simp [ok0] at h h1 h2 h3 h4; omega

set_option maxHeartbeats 800000 in
theorem impl_no1 (t : Int) (kd : Bool) (k : ByteArray) (gn : Bool) (v : ByteArray) (A : Option Addr) (n c : Nat) (w : World) (h0 : ok0 t k v n = true) (h : ok1 kd k gn v = false) :
    Calls Try.prog 58 #[rv t kd k gn v (.slice A n c)] w fun e w' => e = .returned (.bool false) ∧ Below w.heap.size w w' := by
  unfold rv
  obtain ⟨a1, a2, a3, a4⟩ := ok0_parts h0
  have H1 := Seg.hid a1
  have H2 := Seg.hid a2
  have H3 := Seg.hid a3
  have g4 : ¬ (3 : Int) < (n : Int) := le_of _ _ a4
  clear a1 a2 a3 a4 h0
  cases e1 : (kd || k.toList.isEmpty) with
  | false =>
    obtain ⟨rfl, hk⟩ := Bool.or_eq_false_iff.1 e1
    clear e1 h
    go_enter Try.func58, Try.ntmps58
    go_wp2_with (first | (go_at_call 37; refine (within_b _ _ _ _ H1.out _).mono ?_; rintro _ _ ⟨rfl, rfl⟩) | (go_at_call 78; refine (textOk_b k _ H2.out _).mono ?_; rintro _ _ ⟨rfl, rfl⟩) | (go_at_call 78; refine (textOk_b v _ H3.out _).mono ?_; rintro _ _ ⟨rfl, rfl⟩))
    go_ret
    exact ⟨rfl, below1 _ _⟩
  | true =>
    have e2 : (!gn || v.toList.isEmpty) = false := by rw [ok1, e1] at h; simpa using h
    obtain ⟨hg, hv⟩ := Bool.or_eq_false_iff.1 e2
    obtain rfl : gn = true := by simpa using hg
    clear e2 h hg
    cases kd with
    | true =>
      clear e1
      go_enter Try.func58, Try.ntmps58
      go_wp2_with (first | (go_at_call 37; refine (within_b _ _ _ _ H1.out _).mono ?_; rintro _ _ ⟨rfl, rfl⟩) | (go_at_call 78; refine (textOk_b k _ H2.out _).mono ?_; rintro _ _ ⟨rfl, rfl⟩) | (go_at_call 78; refine (textOk_b v _ H3.out _).mono ?_; rintro _ _ ⟨rfl, rfl⟩))
      go_ret
      exact ⟨rfl, below1 _ _⟩
    | false =>
      have hk : k.toList.isEmpty = true := by simpa using e1
      clear e1
      go_enter Try.func58, Try.ntmps58
      go_wp2_with (first | (go_at_call 37; refine (within_b _ _ _ _ H1.out _).mono ?_; rintro _ _ ⟨rfl, rfl⟩) | (go_at_call 78; refine (textOk_b k _ H2.out _).mono ?_; rintro _ _ ⟨rfl, rfl⟩) | (go_at_call 78; refine (textOk_b v _ H3.out _).mono ?_; rintro _ _ ⟨rfl, rfl⟩))
      go_ret
      exact ⟨rfl, below1 _ _⟩

set_option maxHeartbeats 800000 in
theorem impl_yes (t : Int) (kd : Bool) (k : ByteArray) (gn : Bool) (v : ByteArray) (A : Option Addr) (n c : Nat) (K V : Nat → ByteArray) (w : World) (h0 : ok0 t k v n = true) (h : ok1 kd k gn v = true) (hl : Lies w A n c K V) :
    Calls Try.prog 58 #[rv t kd k gn v (.slice A n c)] w fun e w' => Tells e n K V ∧ Below w.heap.size w w' := by
  unfold rv
  obtain ⟨a1, a2, a3, a4⟩ := ok0_parts h0
  have H1 := Seg.hid a1
  have HL := Seg.hid hl
  have H2 := Seg.hid a2
  have H3 := Seg.hid a3
  have g4 : ¬ (3 : Int) < (n : Int) := le_of _ _ a4
  clear a1 a2 a3 a4 h0 hl
  obtain ⟨e1, e2⟩ : (kd || k.toList.isEmpty) = true ∧ (!gn || v.toList.isEmpty) = true := by simpa [ok1] using h
  clear h
  cases kd <;> cases gn
  all_goals
    simp only [Bool.false_or, Bool.true_or, Bool.not_false, Bool.not_true] at e1 e2
    go_enter Try.func58, Try.ntmps58
    go_wp2_with (first | (go_at_call 37; refine (within_b _ _ _ _ H1.out _).mono ?_; rintro _ _ ⟨rfl, rfl⟩) | (go_at_call 78; refine (textOk_b k _ H2.out _).mono ?_; rintro _ _ ⟨rfl, rfl⟩) | (go_at_call 78; refine (textOk_b v _ H3.out _).mono ?_; rintro _ _ ⟨rfl, rfl⟩))
    go_loopw [47] (fun i wr => ∃ j : Nat, j ≤ n ∧ i = .int .i64 j ∧ Hid (Below w.heap.size w wr ∧ ∀ i, i < j → okKV K V i = true)) (fun i _ => n - (intOf i).toNat)
    case atStart => exact ⟨0, Nat.zero_le _, rfl, below1 _ _, fun i hi => absurd hi (by omega)⟩
    case round =>
      obtain ⟨j, hj, rfl, HR⟩ := hrel
      by_cases hlt : j < n
      · obtain ⟨g, o, rfl, hg, hc, ha⟩ := HL.out.resolve_left (by omega)
        have c1 : wr.cell? ⟨g, o + j * 2, none⟩ = some (.string (K j)) := by rw [HR.out.1.cell (p := ⟨g, o + j * 2, none⟩) hg]; exact (ha j hlt).1
        have c2 : wr.cell? ⟨g, o + j * 2 + 1, none⟩ = some (.string (V j)) := by rw [HR.out.1.cell (p := ⟨g, o + j * 2 + 1, none⟩) hg]; exact (ha j hlt).2
        have HA := Seg.hid ha
        clear ha
        have i0 : (0 : Int) ≤ (j : Int) := by omega
        have i1 : (j : Int) < (n : Int) := by omega
        cases hE : (K j).toList.isEmpty with
        | true =>
          go_wp2
          go_ret
          exact ⟨Tells.bad hlt (by simp [okKV, hE]), HR.out.1.alloc HR.out.1.size _⟩
        | false =>
        cases hK : decide ((K j).size ≤ 100) with
        | false =>
          have HK := Seg.hid hK
          clear hK
          go_wp2_with (go_at_call 78; refine (textOk_b (K j) _ HK.out _).mono ?_; rintro _ _ ⟨rfl, rfl⟩)
          go_ret
          exact ⟨Tells.bad hlt (by simp only [okKV, HK.out]; simp), HR.out.1.alloc HR.out.1.size _⟩
        | true =>
        have HK := Seg.hid hK
        cases hV : decide ((V j).size ≤ 100) with
        | false =>
          have HV := Seg.hid hV
          clear hK hV
          go_wp2_with (first | (go_at_call 78; refine (textOk_b (K j) _ HK.out _).mono ?_; rintro _ _ ⟨rfl, rfl⟩) | (go_at_call 78; refine (textOk_b (V j) _ HV.out _).mono ?_; rintro _ _ ⟨rfl, rfl⟩))
          go_ret
          exact ⟨Tells.bad hlt (by simp only [okKV, HV.out]; simp), HR.out.1.alloc HR.out.1.size _⟩
        | true =>
        have HV := Seg.hid hV
        clear hK hV
        go_wp2_with (first | (go_at_call 78; refine (textOk_b (K j) _ HK.out _).mono ?_; rintro _ _ ⟨rfl, rfl⟩) | (go_at_call 78; refine (textOk_b (V j) _ HV.out _).mono ?_; rintro _ _ ⟨rfl, rfl⟩))
        go_roundw
        case rel =>
          refine ⟨j + 1, by omega, by go_num, HR.out.1.alloc HR.out.1.size _, fun i hi => ?_⟩
          by_cases he : i = j
          · subst he; simp only [okKV, hE, HK.out, HV.out]; simp
          · exact HR.out.2 i (by omega)
        case measure => simp [intOf]; omega
      · obtain rfl : j = n := by omega
        go_wp2
        go_ret
        exact ⟨Tells.good HR.out.2, HR.out.1⟩

theorem okR_eq (r : Rec) : okR r = (ok0 r.time r.key r.val r.heads.length && ok1 r.keyed r.key r.gone r.val && r.heads.all okH) := rfl
theorem all_iff (hs : List Hd) (b : Bool) (h : (b = true ∧ ∀ i, i < hs.length → okKV (fun i => (hs.getD i default).key) (fun i => (hs.getD i default).val) i = true) ∨ (b = false ∧ ∃ i, i < hs.length ∧ okKV (fun i => (hs.getD i default).key) (fun i => (hs.getD i default).val) i = false)) : b = hs.all okH := by
  rcases h with ⟨rfl, h⟩ | ⟨rfl, i, hi, h⟩
  · symm
    rw [List.all_eq_true]
    intro x hx
    obtain ⟨i, hi, rfl⟩ := List.getElem_of_mem hx
    have := h i hi
    simpa [okKV, okH, hi] using this
  · symm
    rw [List.all_eq_false]
    refine ⟨hs[i], List.getElem_mem hi, ?_⟩
    have h' : okH hs[i] = false := by
      have := h
      simp only [okKV, List.getD_eq_getElem?_getD, List.getElem?_eq_getElem hi, Option.getD_some] at this
      exact this
    rw [h']; simp
theorem lies_of {w : World} {lo b n c : Nat} {A : Option Addr} {hs : List Hd} (hb : b ≤ w.heap.size) (hn : n = hs.length) (h : n = 0 ∨ ∃ g o, A = some ⟨g, o, none⟩ ∧ g < b ∧ n ≤ c ∧ (∀ i, i < n → ∀ j, j < 2 → w.cell? ⟨g, o + i * 2 + j, none⟩ = some (hdCells hs i j)) ∧ lo ≤ g) :
    Lies w A n c (fun i => (hs.getD i default).key) (fun i => (hs.getD i default).val) := by
  rcases h with h | ⟨g, o, h1, h2, h3, h4, _⟩
  · exact .inl h
  · exact .inr ⟨g, o, h1, by omega, h3, fun i hi => Heads.cell0 h4 i hi⟩

theorem spec_any (v : Value) (r : Rec) (w : World) (lo b : Nat) (hv : RecAt w lo b v r) (hb : b ≤ w.heap.size) :
    Calls Try.prog 43 #[v] w fun e w' => e = .returned (.bool (okR r)) ∧ Below w.heap.size w w' := by
  obtain ⟨hv, rfl, hn, A, c, rfl, h⟩ := hv
  show Calls Try.prog 43 #[rv r.time r.keyed r.key r.gone r.val (.slice A r.heads.length c)] w _
  have hl := lies_of hb rfl h
  rw [okR_eq]
  cases h0 : ok0 r.time r.key r.val r.heads.length with
  | false => exact (spec_no0 _ _ _ _ _ A _ c w h0).mono fun e w' h => h
  | true =>
  cases h1 : ok1 r.keyed r.key r.gone r.val with
  | false => exact (spec_no1 _ _ _ _ _ A _ c w h0 h1).mono fun e w' h => h
  | true =>
    refine (spec_yes _ _ _ _ _ A _ c _ _ w h0 h1 hl).mono fun e w' h => ?_
    obtain ⟨⟨b, rfl, h2⟩, h3⟩ := h
    refine ⟨?_, h3⟩
    rw [all_iff r.heads b h2]
    simp
theorem impl_any (v : Value) (r : Rec) (w : World) (lo b : Nat) (hv : RecAt w lo b v r) (hb : b ≤ w.heap.size) :
    Calls Try.prog 58 #[v] w fun e w' => e = .returned (.bool (okR r)) ∧ Below w.heap.size w w' := by
  obtain ⟨hv, rfl, hn, A, c, rfl, h⟩ := hv
  show Calls Try.prog 58 #[rv r.time r.keyed r.key r.gone r.val (.slice A r.heads.length c)] w _
  have hl := lies_of hb rfl h
  rw [okR_eq]
  cases h0 : ok0 r.time r.key r.val r.heads.length with
  | false => exact (impl_no0 _ _ _ _ _ A _ c w h0).mono fun e w' h => h
  | true =>
  cases h1 : ok1 r.keyed r.key r.gone r.val with
  | false => exact (impl_no1 _ _ _ _ _ A _ c w h0 h1).mono fun e w' h => h
  | true =>
    refine (impl_yes _ _ _ _ _ A _ c _ _ w h0 h1 hl).mono fun e w' h => ?_
    obtain ⟨⟨b, rfl, h2⟩, h3⟩ := h
    refine ⟨?_, h3⟩
    rw [all_iff r.heads b h2]
    simp
end Go.Proofs.Ytbihajcikleccaa.ROk
