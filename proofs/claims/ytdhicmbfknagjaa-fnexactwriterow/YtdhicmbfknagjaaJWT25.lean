/- The program's SchemaOk; The model's ValueOk and ValueOf. -/
import Derived.Deep.RegionHeld3
import Derived.Deep.RegionLaw
import Derived.BigQuiet
import Derived.Laws.StructEq
import Derived.Test.YtdhicmbfknagjaaJWT24
import Derived.Test.YtdhicmbfknagjaaJWT15
import Derived.Test.YtdhicmbfknagjaaJWT16
import Derived.Test.YtdhicmbfknagjaaJWT17
namespace Go.Proofs.Ytdhicmbfknagjaa.ScI
set_option maxRecDepth 8000
open Go.RowKit
open Ls Lp VkP VkR ScP ScM ScN
open Recs (hsz below1 below2 below3 chain chainD)
set_option linter.unusedVariables false
abbrev srow (s : Sch) (A : Option Addr) (c : Nat) : Array Value := #[.string s.name, .slice A s.fields.length c]
theorem formS {w : World} {S : Nat → Prop} {v : Value} {s : Sch} (h : SchAt w S v s) : ∃ A c, v = .agg (srow s A c) ∧ LAt 11 EFld w S (.slice A s.fields.length c) s.fields := by
  obtain ⟨q, rfl, y0, y1⟩ := h
  obtain ⟨A, c, h1⟩ := y1.form
  refine ⟨A, c, ?_, by rw [← h1]; exact y1⟩
  simp only [arrSch, srow]
  rw [y0, h1]
/-- The cells of one field of a list. -/
theorem fld_at {w w' : World} {S : Nat → Prop} {A : Option Addr} {c : Nat} {us : List Fld} {g o : Nat} {F : Nat → Nat → Value} (h : Opn 11 EFld w S A c us g o F) (hS : ∀ g, S g → g < w.heap.size) (hb : Below w.heap.size w w') {k : Nat} (hk : k < us.length) : ∃ A' c' B' d', FldAt w' S (.agg (frow (us.getD k default) A' c' B' d')) (us.getD k default) ∧ w'.cell? ⟨g, o + k * 11, none⟩ = some (.string (us.getD k default).name) ∧ w'.cell? ⟨g, o + k * 11 + 1, none⟩ = some (.int .i64 (us.getD k default).kind) ∧ w'.cell? ⟨g, o + k * 11 + 2, none⟩ = some (.bool (us.getD k default).lst) ∧ w'.cell? ⟨g, o + k * 11 + 3, none⟩ = some (.bool (us.getD k default).may) ∧ w'.cell? ⟨g, o + k * 11 + 4, none⟩ = some (.slice A' (us.getD k default).was.length c') ∧ w'.cell? ⟨g, o + k * 11 + 5, none⟩ = some (.bool (us.getD k default).fixd) ∧ w'.cell? ⟨g, o + k * 11 + 6, none⟩ = some (.int .i64 (us.getD k default).vk) ∧ w'.cell? ⟨g, o + k * 11 + 7, none⟩ = some (.int .i64 (us.getD k default).vn) ∧ w'.cell? ⟨g, o + k * 11 + 8, none⟩ = some (.string (us.getD k default).vt) ∧ w'.cell? ⟨g, o + k * 11 + 9, none⟩ = some (.bool (us.getD k default).vl) ∧ w'.cell? ⟨g, o + k * 11 + 10, none⟩ = some (.slice B' (us.getD k default).vi.length d') := by
  have OL := h.later keepsFld hS hb
  have e := OL.el k hk
  have cc := OL.cells k hk
  obtain ⟨A', c', B', d', hv, -, -⟩ := form (v := .agg (arrFld (F k))) ⟨F k, rfl, e⟩
  have hv' : arrFld (F k) = frow (us.getD k default) A' c' B' d' := by injection hv
  simp only [arrFld, frow, Array.mk.injEq, List.cons.injEq, and_true] at hv'
  obtain ⟨e0, e1, e2, e3, e4, e5, e6, e7, e8, e9, e10⟩ := hv'
  refine ⟨A', c', B', d', by rw [← hv]; exact ⟨F k, rfl, e⟩, ?_, ?_, ?_, ?_, ?_, ?_, ?_, ?_, ?_, ?_, ?_⟩
  · rw [← e0]; exact cc 0 (by omega)
  · rw [← e1]; exact cc 1 (by omega)
  · rw [← e2]; exact cc 2 (by omega)
  · rw [← e3]; exact cc 3 (by omega)
  · rw [← e4]; exact cc 4 (by omega)
  · rw [← e5]; exact cc 5 (by omega)
  · rw [← e6]; exact cc 6 (by omega)
  · rw [← e7]; exact cc 7 (by omega)
  · rw [← e8]; exact cc 8 (by omega)
  · rw [← e9]; exact cc 9 (by omega)
  · rw [← e10]; exact cc 10 (by omega)
theorem Set.mono {w : World} {bm n n' : Nat} {seen : List ByteArray} (h : Set w bm n seen) (hn : n ≤ n') : Set w bm n' seen := by
  obtain ⟨D, h, h2⟩ := h
  exact ⟨D, h.mono hn, h2⟩
theorem sz_fields {s : Sch} (h : szSch s ≤ 1048576) : szL szFld s.fields ≤ 1048576 := by unfold szSch at h; omega
theorem sz_sname {s : Sch} (h : szSch s ≤ 1048576) : s.name.size ≤ 1048576 := by unfold szSch at h; omega
theorem nms_few {f : Fld} (h : fOk f = true) : (nms f).length ≤ 5 := by
  simp [fOk] at h
  simp [nms]
  omega
set_option maxHeartbeats 3200000 in
theorem impl_any (x : Value) (s : Sch) (w : World) (S : Nat → Prop) (hx : SchAt w S x s) (hS : ∀ g, S g → g < w.heap.size) (hf : szSch s ≤ 1048576) :
    Calls Try.prog 49 #[x] w fun e w' => e = .returned (.bool (sok s)) ∧ Below w.heap.size w w' := by
  obtain ⟨A0, c0, rfl, hl⟩ := formS hx
  obtain ⟨A, c, g, o, F, e, OP, hn⟩ := opn hl hS
  cases e
  have HO := Seg.hid OP
  have HZ := Seg.hid (sz_fields hf)
  have TN : Hid (s.name.size ≤ maxLen) := by show _ ≤ _; have := sz_sname hf; unfold maxLen; omega
  clear hx hl OP hf
  have R0 : Hid (sok s = (Nm.nameOk s.name && inR 1 s.fields.length 20 && run [] s.fields)) := rfl
  go_enter Try.func49, Try.ntmps49
  cases hy : Nm.nameOk s.name with
  | false =>
    have R : Hid (sok s = false) := by show _ = _; rw [R0.out]; simp [hy]
    have HY := Seg.hid hy
    clear hy
    go_wp2_with (go_at_call 86; refine (Nm.impl_q _ _ HY.out _ TN.out).mono ?_; rintro e w5 ⟨rfl, rfl⟩)
    go_ret
    exact ⟨by rw [R.out]; rfl, below1 _ _⟩
  | true =>
  cases hk : inR 1 s.fields.length 20 with
  | false =>
    have R : Hid (sok s = false) := by show _ = _; rw [R0.out]; simp [hk]
    have HY := Seg.hid hy
    have HK := Seg.hid hk
    clear hy hk
    go_wp2_with (first | (go_at_call 86; refine (Nm.impl_q _ _ HY.out _ TN.out).mono ?_; rintro e w5 ⟨rfl, rfl⟩) | (go_at_call 41; refine (InB.within_b _ _ _ _ HK.out _).mono ?_; rintro e w5 ⟨rfl, rfl⟩))
    go_ret
    exact ⟨by rw [R.out]; rfl, below1 _ _⟩
  | true =>
    have R : Hid (sok s = run [] s.fields) := by show _ = _; rw [R0.out]; simp [hy, hk]
    have h20 := inR_true hk
    have HY := Seg.hid hy
    have HK := Seg.hid hk
    clear hy hk
    have hmm := @run_makeMap Try.prog
    go_upto_region 4 with (first | (go_at_call 86; refine (Nm.impl_q _ _ HY.out _ TN.out).mono ?_; rintro e w5 ⟨rfl, rfl⟩) | (go_at_call 41; refine (InB.within_b _ _ _ _ HK.out _).mono ?_; rintro e w5 ⟨rfl, rfl⟩))
    obtain ⟨w1, hw1⟩ : ∃ w1, (w.alloc (.cells (srow s A0 c0) 43 (0, 0))).alloc (.map #[] 0) = w1 := ⟨_, rfl⟩
    have B1 : Hid (Below w.heap.size w w1) := by show Below _ _ _; rw [← hw1]; exact below2 _ _ _
    have M1 : Hid (Set w1 (w.heap.size + 1) 0 []) := by
      have := Set.made (w.alloc (.cells (srow s A0 c0) 43 (0, 0)))
      rw [hsz] at this
      show Set _ _ _ _
      rw [← hw1]; exact this
    have p1 : w1.cell? ⟨w.heap.size, 1, none⟩ = some (.slice A0 s.fields.length c0) := by
      rw [← hw1]
      exact cell_of_row _ _ 1 _ _ (0, 0) (at2z w _ _)
    try rw [hw1]
    clear hw1 hmm
    go_wp2
    go_loopw [21] (fun i wr => ∃ (k : Nat) (seen : List ByteArray), k ≤ s.fields.length ∧ i = .int .i64 k ∧ Hid (Below w.heap.size w wr ∧ Set wr (w.heap.size + 1) (5 * k) seen ∧ run seen (s.fields.drop k) = run [] s.fields)) (fun i _ => s.fields.length - (intOf i).toNat)
    case atStart => exact ⟨0, [], Nat.zero_le _, rfl, B1.out, M1.out, rfl⟩
    case round =>
      clear B1 M1
      obtain ⟨k, seen, hk, rfl, HG⟩ := hrel
      by_cases hlt : k < s.fields.length
      · obtain ⟨ea, hc, hgw⟩ := HO.out.addr.resolve_left (by omega)
        subst ea
        obtain ⟨A', c', B', d', hfl, d0, d1, d2, d3, d4, d5, d6, d7, d8, d9, d10⟩ := fld_at HO.out hS HG.out.1 hlt
        have h0 : (0 : Int) ≤ (k : Int) := by omega
        have h1 : (k : Int) < (s.fields.length : Int) := by omega
        have SF : Hid (szFld (s.fields.getD k default) ≤ 1048576) := szL_one szFld HZ.out hlt
        have ST := Seg.hid (run_step hlt seen)
        have HFL := Seg.hid hfl
        have BW := Seg.hid HG.out.1
        have MW := Seg.hid HG.out.2.1
        have RW := Seg.hid HG.out.2.2
        have hbm : w.heap.size + 1 < wr.heap.size := MW.out.lt
        clear HG hfl
        generalize s.fields.getD k default = f at *
        have CO : Hid (∀ wx, Below wr.heap.size wr wx → Calls Try.prog 87 #[.agg (frow f A' c' B' d')] wx fun e w' => e = .returned (.bool (fOk f)) ∧ Below wx.heap.size wx w') := fun wx b => ok_any _ f wx S (HFL.out.below b (fun g hg => Nat.lt_of_lt_of_le (hS g hg) BW.out.size)) (fun g hg => Nat.lt_of_lt_of_le (hS g hg) (Nat.le_trans BW.out.size b.size)) SF.out
        have CN : Hid (∀ wx, Below wr.heap.size wr wx → Calls Try.prog 89 #[.agg (frow f A' c' B' d')] wx fun e w' => ∃ v, e = .returned v ∧ StrsAt w' (seg wx.heap.size w'.heap.size) v (nms f) ∧ Below wx.heap.size wx w') := fun wx b => names_any _ f wx S (HFL.out.below b (fun g hg => Nat.lt_of_lt_of_le (hS g hg) BW.out.size)) (fun g hg => Nat.lt_of_lt_of_le (hS g hg) (Nat.le_trans BW.out.size b.size)) SF.out
        go_wp2_with fail
        refine (CO.out _ (below1 wr _)).mono ?_
        rintro e w2 ⟨rfl, b2⟩
        obtain ⟨q0, q1, q2, q3, q4, q5, q6, q7, q8, q9, q10⟩ := all_cells b2
        have N2 := Seg.hid (chain (below1 wr _) b2)
        clear b2 d0 d1 d2 d3 d4 d5 d6 d7 d8 d9 d10
        cases hok : fOk f with
        | false =>
          have RF : Hid (run [] s.fields = false) := by show _ = _; rw [← RW.out, ST.out, hok]; rfl
          clear hok
          go_wp2
          go_ret
          exact ⟨by rw [R.out, RF.out]; rfl, chain BW.out N2.out⟩
        | true =>
          have FE := Seg.hid (nms_few hok)
          have S2 : Hid (run seen (s.fields.drop k) = (dst seen (nms f) && run (seen ++ nms f) (s.fields.drop (k + 1)))) := by show _ = _; rw [ST.out, hok]; rfl
          clear hok
          go_wp2_with fail
          refine (CN.out _ N2.out).mono ?_
          rintro e w3 ⟨vn, rfl, hvn, b3⟩
          have N3 := Seg.hid (chain N2.out b3)
          have s3 := b3.size
          have s2 := N2.out.size
          clear b3
          obtain ⟨An, cn, e3⟩ := hvn.form
          subst e3
          go_wp2_with fail
          refine (add_any (w.heap.size + 1) (5 * k) w.heap.size _ (nms f) seen w3 _ (MW.out.keep (N3.out.block _ hbm)) (by omega) hvn (fun g hg => hg.2) (fun g hg => by have := hg.1; omega) (fun j hj => sz_nms SF.out hj) (by have := FE.out; omega)).mono ?_
          rintro e w4 ⟨rfl, b4, h4⟩
          have B4 : Hid (Below w.heap.size w w4) := (chain BW.out N3.out).trans b4
          have H4 := Seg.hid h4
          clear b4 h4 hvn
          cases hd : dst seen (nms f) with
          | false =>
            have RF : Hid (run [] s.fields = false) := by show _ = _; rw [← RW.out, S2.out, hd]; rfl
            clear hd
            go_wp2
            go_ret
            exact ⟨by rw [R.out, RF.out]; rfl, B4.out⟩
          | true =>
            have RF : Hid (run (seen ++ nms f) (s.fields.drop (k + 1)) = run [] s.fields) := by show _ = _; rw [← RW.out, S2.out, hd]; rfl
            have M4 : Hid (Set w4 (w.heap.size + 1) (5 * (k + 1)) (seen ++ nms f)) := Set.mono (H4.out hd) (by have := FE.out; omega)
            clear hd H4
            go_wp2
            go_roundw
            case rel => exact ⟨k + 1, _, by omega, by go_num, B4.out, M4.out, RF.out⟩
            case measure => simp [intOf]; omega
      · obtain rfl : k = s.fields.length := by omega
        have RF : Hid (run [] s.fields = true) := by show _ = _; rw [← HG.out.2.2]; simp [run]
        go_wp2
        go_ret
        exact ⟨by rw [R.out, RF.out]; rfl, HG.out.1⟩
namespace FSch
theorem form {w : World} {S : Nat → Prop} {v : Value} {t : Sch} (h : SchAt w S v t) : ∃ A1 aq1, v = .agg #[.string t.name, .slice A1 t.fields.length aq1] := by
  obtain ⟨A, c, h1, -⟩ := formS h
  exact ⟨A, c, h1⟩
end FSch
end Go.Proofs.Ytdhicmbfknagjaa.ScI
namespace Go.Proofs.Ytdhicmbfknagjaa.VkS
set_option maxRecDepth 8000
open Go.RowKit
open Ls Lp VkP VkR
open Recs (hsz below1 below2 below3 chain chainD)
set_option linter.unusedVariables false
set_option maxHeartbeats 1600000 in
theorem same_any (u : Vlu) (A : Option Addr) (c : Nat) (w : World) : Calls Try.prog 84 #[.agg (vrow u A c), .agg #[.int .i64 0, .int .i64 0, .string ⟨#[]⟩, .bool false, .slice none 0 0]] w fun e w' => e = .returned (.bool (zero u)) ∧ Below w.heap.size w w' := by
  go_enter Try.func84, Try.ntmps84
  by_cases h0 : u.kind = 0
  · by_cases h1 : u.num = 0
    · obtain ⟨e, he⟩ : ∃ e, (u.text.toList == []) = e := ⟨_, rfl⟩
      cases e with
      | false =>
        have R : Hid (zero u = false) := by show _ = _; simp [zero, nil0, em, he]
        go_wp2
        go_ret
        exact ⟨by rw [R.out]; rfl, below2 _ _ _⟩
      | true =>
        obtain ⟨l, hl⟩ : ∃ l, u.lst = l := ⟨_, rfl⟩
        cases l with
        | true =>
          have R : Hid (zero u = false) := by show _ = _; simp [zero, hl]
          go_wp2
          go_ret
          exact ⟨by rw [R.out]; rfl, below2 _ _ _⟩
        | false =>
          have R : Hid (zero u = decide (u.items.length = 0)) := by show _ = _; simp [zero, nil0, em, he, h0, h1, hl]
          by_cases hz : u.items.length = 0
          · have R2 : Hid (zero u = true) := by show _ = _; rw [R.out]; simp [hz]
            go_wp2
            go_loop [5] (fun i => i = .int .i64 0) (fun _ => 0)
            case atStart => rfl
            case round =>
              subst hrel
              go_wp2
              go_ret
              exact ⟨by rw [R2.out]; rfl, below2 _ _ _⟩
          · have R2 : Hid (zero u = false) := by show _ = _; rw [R.out]; simp [hz]
            have hz1 : ((u.items.length : Int) != 0) = true := by
              have : ¬ (u.items.length : Int) = 0 := by omega
              simpa using this
            go_wp2
            go_ret
            exact ⟨by rw [R2.out]; rfl, below2 _ _ _⟩
    · have R : Hid (zero u = false) := by show _ = _; simp [zero, nil0, h1]
      have h2 : (u.num != 0) = true := by simpa using h1
      go_wp2
      go_ret
      exact ⟨by rw [R.out]; rfl, below2 _ _ _⟩
  · have R : Hid (zero u = false) := by show _ = _; simp [zero, h0]
    have h2 : (u.kind != 0) = true := by simpa using h0
    go_wp2
    go_ret
    exact ⟨by rw [R.out]; rfl, below2 _ _ _⟩
set_option maxHeartbeats 3200000 in
theorem item_any (k n : Int) (t : ByteArray) (w : World) (ht : t.size ≤ maxLen) : Calls Try.prog 135 #[.int .i64 k, .agg #[.int .i64 n, .string t]] w fun e w' => e = .returned (.bool (has k n t)) ∧ Below w.heap.size w w' := by
  unfold maxLen at ht
  go_enter Try.func135, Try.ntmps135
  obtain ⟨e, he⟩ : ∃ e, (t.toList == []) = e := ⟨_, rfl⟩
  by_cases k1 : k = 1
  · subst k1
    obtain ⟨b, hb⟩ : ∃ b, inR 0 n 1 = b := ⟨_, rfl⟩
    have R : Hid (has 1 n t = (b && e)) := by show _ = _; simp [has, hasN, em, hb, he]
    have HB := Seg.hid hb
    clear hb
    cases b <;> cases e
    all_goals
      go_wp2_with (go_at_call 35; refine (InB.l1In_b _ _ _ _ HB.out _).mono ?_; rintro e w5 ⟨rfl, rfl⟩)
      go_ret
      exact ⟨by rw [R.out]; rfl, below1 _ _⟩
  by_cases k2 : k = 2
  · subst k2
    obtain ⟨b, hb⟩ : ∃ b, inR (-32768) n 32767 = b := ⟨_, rfl⟩
    have R : Hid (has 2 n t = (b && e)) := by show _ = _; simp [has, hasN, em, loK, hiK, hb, he]
    have HB := Seg.hid hb
    clear hb
    cases b <;> cases e
    all_goals
      go_wp2_with (go_at_call 35; refine (InB.l1In_b _ _ _ _ HB.out _).mono ?_; rintro e w5 ⟨rfl, rfl⟩)
      go_ret
      exact ⟨by rw [R.out]; rfl, below1 _ _⟩
  by_cases k3 : k = 3
  · subst k3
    obtain ⟨b, hb⟩ : ∃ b, inR (-1000000000000000) n 1000000000000000 = b := ⟨_, rfl⟩
    have R : Hid (has 3 n t = (b && e)) := by show _ = _; simp [has, hasN, em, loK, hiK, hb, he]
    have HB := Seg.hid hb
    clear hb
    cases b <;> cases e
    all_goals
      go_wp2_with (go_at_call 35; refine (InB.l1In_b _ _ _ _ HB.out _).mono ?_; rintro e w5 ⟨rfl, rfl⟩)
      go_ret
      exact ⟨by rw [R.out]; rfl, below1 _ _⟩
  by_cases k4 : k = 4
  · subst k4
    have R : Hid (has 4 n t = hasT n t) := by show _ = _; simp [has]
    clear he k1 k2 k3
    go_wp2
    go_loop [5] (fun i => ∃ k : Nat, k ≤ t.size ∧ i = .int .i64 k ∧ Hid (ltrs t k = true)) (fun i => t.size - (intOf i).toNat)
    case atStart => exact ⟨0, Nat.zero_le _, rfl, ltrs_zero t⟩
    case round =>
      obtain ⟨k, hk, rfl, HG⟩ := hrel
      by_cases hlt : k < t.size
      · have h0 : (0 : Int) ≤ (k : Int) := by omega
        have h1 : (k : Int) < (t.size : Int) := by omega
        by_cases ha : (t[k].toNat : Int) < 32
        · have HL : Hid (hasT n t = false) := by
            show _ = _
            have : ltr t k = false := by rw [ltr_at t k hlt]; simp [inR]; omega
            simp [hasT, ltrs_bad t k _ hlt this]
          go_wp2
          go_ret
          exact ⟨by rw [R.out, HL.out]; rfl, below1 _ _⟩
        · by_cases hb : (126 : Int) < (t[k].toNat : Int)
          · have HL : Hid (hasT n t = false) := by
              show _ = _
              have : ltr t k = false := by rw [ltr_at t k hlt]; simp [inR]; omega
              simp [hasT, ltrs_bad t k _ hlt this]
            go_wp2
            go_ret
            exact ⟨by rw [R.out, HL.out]; rfl, below1 _ _⟩
          · have HL : Hid (ltrs t (k + 1) = true) := by
              show _ = _
              have : ltr t k = true := by rw [ltr_at t k hlt]; simp [inR]; omega
              rw [ltrs_succ, HG.out, this]; rfl
            go_wp2
            go_round
            case rel => exact ⟨k + 1, by omega, by go_num, HL.out⟩
            case measure => simp [intOf]; omega
      · obtain rfl : k = t.size := by omega
        have R2 : Hid (hasT n t = (decide (n = 0) && decide (t.size ≤ 100))) := by show _ = _; simp [hasT, HG.out]
        by_cases hn : n = 0
        · subst hn
          by_cases hs : t.size ≤ 100
          · have q : (t.size : Int) ≤ 100 := by omega
            go_wp2
            go_ret
            exact ⟨by rw [R.out, R2.out]; simp [hs], below1 _ _⟩
          · have q : ¬ (t.size : Int) ≤ 100 := by omega
            go_wp2
            go_ret
            exact ⟨by rw [R.out, R2.out]; simp [hs], below1 _ _⟩
        · have hn2 : (n == 0) = false := by simpa using hn
          go_wp2
          go_ret
          exact ⟨by rw [R.out, R2.out]; simp [hn], below1 _ _⟩
  · have R : Hid (has k n t = false) := by show _ = _; simp [has, k1, k2, k3, k4]
    go_wp2
    go_ret
    exact ⟨by rw [R.out]; rfl, below1 _ _⟩
end Go.Proofs.Ytdhicmbfknagjaa.VkS
