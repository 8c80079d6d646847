/- A reader's steps: take, count, text, textIf, version; A reader's steps: count, text, textIf. -/
import Derived.Test.YtdnbcfochlfopaaJH11
namespace Go.Proofs.Ytdnbcfochlfopaa.Rd
set_option maxRecDepth 8000
open Go.RowKit
open RdP
open Recs (hsz below1)
set_option linter.unusedVariables false

/-- Bytes cut out of what is read. -/
def CutOf (v : Value) (w : World) (xs : List Int) (u : Value) : Prop := Seg.Seg w u xs ∧ (xs.length = 0 ∨ u.ownBlock = v.ownBlock)
theorem tk_none {l : List Int} {p : Nat} {n : Int} (h : ¬ (0 ≤ n ∧ n ≤ (l.length : Int) - p)) : tk l p n = none := by rw [tk, if_neg h]
theorem tk_some {l : List Int} {p : Nat} {n : Int} (h : 0 ≤ n ∧ n ≤ (l.length : Int) - p) : tk l p n = some ((l.drop p).take n.toNat, p + n.toNat) := by rw [tk, if_pos h]

theorem size1 (w : World) : (Go.sizeOf 5).run Try.prog w = .ok 1 w := by
  obtain ⟨i0, hi, hz0, hz1, hz2⟩ := info_parts SqP.infoB
  simp [Go.sizeOf, typeInfo, hi, hz1]
/-- A slice of bytes cut. -/
theorem cut_run (A : Option Addr) (len cap p n : Nat) (h : p + n ≤ cap) : ∃ A' : Option Addr, (∀ W : World, (Instr.slice 22 (.slice A len cap) (some (.int .i64 (p : Int))) (some (.int .i64 ((p : Int) + (n : Int)))) none).run Try.prog W = .ok (.slice A' n (cap - p)) W) ∧ ∀ g o, A = some ⟨g, o, none⟩ → 0 < n → A' = some ⟨g, o + p, none⟩ := by
  have ht' : Try.prog.underlying 22 = some (.slice (Try.prog.elem 22)) := by simp [Program.elem, Try.underlying22]
  have he : Try.prog.elem 22 = 5 := by simp [Program.elem, Try.underlying22]
  have hn : ((p : Int) + (n : Int)).toNat - ((p : Int)).toNat = n := by omega
  cases A with
  | none =>
    refine ⟨none, fun W => ?_, fun g o h => by cases h⟩
    rw [run_slice_lh W 22 _ _ _ ht' .i64 .i64 _ _ (by omega) (by omega) (by omega), he, size1]
    simp [Result.andThen, sliced]
    omega
  | some a =>
    by_cases hc : cap = p
    · refine ⟨some a, fun W => ?_, fun g o h hp => by omega⟩
      rw [run_slice_lh W 22 _ _ _ ht' .i64 .i64 _ _ (by omega) (by omega) (by omega), he, size1]
      simp [Result.andThen, sliced, hc]
      omega
    · refine ⟨some (a.add p), fun W => ?_, fun g o h hp => ?_⟩
      · rw [run_slice_lh W 22 _ _ _ ht' .i64 .i64 _ _ (by omega) (by omega) (by omega), he, size1]
        simp [Result.andThen, sliced, hc]
        omega
      · cases h
        rw [SqP.add_at]

set_option maxHeartbeats 800000 in
theorem take_no (G : Nat) (v : Value) (l : List Int) (p : Nat) (n f : Int) (w : World) (hr : Rdr w G v p) (hd : Dat w G v l) (hp : p ≤ l.length) (hn : ¬ (0 ≤ n ∧ n ≤ (l.length : Int) - p)) :
    Calls Try.prog 106 #[.pointer (some ⟨G, 0, none⟩), .int .i64 n, .int .i64 f] w fun e w' => Step w w' G v f (tk l p n) (CutOf v) e := by
  have hll := hd.seg.1
  obtain ⟨A, c, rfl⟩ := hd.form
  obtain ⟨c0, c1, f1⟩ := rd_cells hr
  have HN := Seg.hid (tk_none hn)
  have HX : Hid ((decide (0 ≤ n) && decide (n ≤ (l.length : Int) - (p : Int))) = false) := by
    show _ = _
    rw [Bool.and_eq_false_iff, decide_eq_false_iff_not, decide_eq_false_iff_not]
    omega
  clear hr hd hn
  go_enter Try.func106, Try.ntmps106
  go_wp2_with fail
  go_quiet (first | (go_at_call 79; refine Calls.quiet_of_same (within_q _ _ _ _ HX.out _)))
  go_wp2
  exact ⟨rfl, drewN_grown w _ _, fun _ => rfl, fun x q h => by rw [HN.out] at h; cases h⟩

set_option maxHeartbeats 1600000 in
theorem take_yes (G : Nat) (v : Value) (l : List Int) (p n : Nat) (f : Int) (w : World) (hr : Rdr w G v p) (hd : Dat w G v l) (hn : p + n ≤ l.length) :
    Calls Try.prog 106 #[.pointer (some ⟨G, 0, none⟩), .int .i64 n, .int .i64 f] w fun e w' => (∃ u, e = .returned u ∧ CutOf v w' ((l.drop p).take n) u) ∧ Rdr w' G v (p + n) ∧ w.grownBy w' (some G) := by
  have hll := hd.seg.1
  have HD := Seg.hid hd
  have HR := Seg.hid hr
  obtain ⟨A, c, rfl⟩ := hd.form
  obtain ⟨c0, c1, f1⟩ := rd_cells hr
  have HX : Hid ((decide (0 ≤ (n : Int)) && decide ((n : Int) ≤ (l.length : Int) - (p : Int))) = true) := by
    show _ = _
    rw [Bool.and_eq_true, decide_eq_true_eq, decide_eq_true_eq]
    omega
  have hcap : p + n ≤ c := by
    rcases hd.seg.2 with ⟨A0, c0, e0, rfl⟩ | ⟨g0, o0, c0, e0, h3, _⟩
    · simp at hn; omega
    · simp only [Value.slice.injEq] at e0
      omega
  obtain ⟨A', hcut, hA'⟩ := cut_run A l.length c p n hcap
  have CO : Hid (∀ w', w.grownBy w' (some G) → CutOf (.slice A l.length c) w' ((l.drop p).take n) (.slice A' n (c - p))) := by
    intro w' gr
    have hlen : ((l.drop p).take n).length = n := by simp; omega
    have hD := HD.out.keep gr
    by_cases hz : n = 0
    · subst hz
      exact ⟨⟨by simp, .inl ⟨A', c - p, rfl, by simp⟩⟩, .inl (by simp)⟩
    · rcases hD.seg.2 with ⟨A0, c0, e0, rfl⟩ | ⟨g0, o0, c0, e0, h3, h4, h5⟩
      · simp at hn; omega
      · simp only [Value.slice.injEq] at e0
        obtain ⟨rfl, _, rfl⟩ := e0
        rw [hA' g0 o0 rfl (by omega)]
        refine ⟨⟨by rw [hlen]; omega, .inr ⟨g0, o0 + p, c - p, by rw [hlen], by rw [hlen]; omega, by omega, fun i hi => ?_⟩⟩, .inr rfl⟩
        rw [hlen] at hi
        rw [Nat.add_assoc, h5 (p + i) (by omega)]
        simp [List.getD_eq_getElem?_getD, hi]
  clear hr hd hA'
  go_enter Try.func106, Try.ntmps106
  go_wp2_with fail
  go_quiet (first | (go_at_call 79; refine Calls.quiet_of_same (within_q _ _ _ _ HX.out _)))
  have G1 : Hid (w.grownBy (w.drewN nq) (some G)) := drewN_grown w nq _
  have R1 : Hid (Rdr (w.drewN nq) G (.slice A l.length c) p) := HR.out
  obtain ⟨w1, hw1⟩ : ∃ x, w.drewN nq = x := ⟨_, rfl⟩
  rw [hw1] at G1 R1 ⊢
  clear hw1 c0 c1 f1
  obtain ⟨c0, c1, f1⟩ := rd_cells R1.out
  have RS : Hid (Rdr (w1.setCell ⟨G, 1, none⟩ (.int .i64 ((p : Int) + (n : Int)))) G (.slice A l.length c) (p + n)) := rd_set (q := p + n) R1.out
  obtain ⟨d0, d1, _⟩ := rd_cells RS.out
  have G2 := Seg.hid (G1.out.trans (set_grown w1 G 1 (.int .i64 ((p : Int) + (n : Int)))))
  go_wp2_with fail
  obtain ⟨w2, hw2⟩ : ∃ x, w1.setCell ⟨G, 1, none⟩ (.int .i64 ((p : Int) + (n : Int))) = x := ⟨_, rfl⟩
  rw [hw2] at RS d0 d1 G2 ⊢
  clear hw2
  have e1 : (((p + n : Nat) : Int) - (n : Int)) = (p : Int) := by omega
  go_quiet (fail)
  go_wp2
  go_ret
  exact ⟨⟨_, rfl, CO.out _ (G2.out.trans (drewN_grown w2 _ _))⟩, RS.out, G2.out.trans (drewN_grown w2 _ _)⟩
end Go.Proofs.Ytdnbcfochlfopaa.Rd
namespace Go.Proofs.Ytdnbcfochlfopaa.Rd
set_option maxRecDepth 8000
open Go.RowKit
open RdP
open Recs (hsz below1)
set_option linter.unusedVariables false

theorem take_any (G : Nat) (v : Value) (l : List Int) (p : Nat) (n f : Int) (w : World) (hr : Rdr w G v p) (hd : Dat w G v l) (hp : p ≤ l.length) :
    Calls Try.prog 106 #[.pointer (some ⟨G, 0, none⟩), .int .i64 n, .int .i64 f] w fun e w' => Step w w' G v f (tk l p n) (CutOf v) e := by
  by_cases hn : 0 ≤ n ∧ n ≤ (l.length : Int) - p
  · obtain ⟨k, rfl⟩ := Int.eq_ofNat_of_zero_le hn.1
    refine (take_yes G v l p k f w hr hd (by omega)).mono fun e w' ⟨h1, h2, h3⟩ => ⟨h3, fun h => (by rw [tk_some hn] at h; cases h), fun x q h => ?_⟩
    rw [tk_some hn] at h
    simp only [Option.some.injEq, Prod.mk.injEq, Int.toNat_natCast] at h
    obtain ⟨rfl, rfl⟩ := h
    exact ⟨h1, h2⟩
  · exact take_no G v l p n f w hr hd hp hn
theorem tk_le {l xs : List Int} {p q : Nat} {n : Int} (h : tk l p n = some (xs, q)) (hp : p ≤ l.length) : q ≤ l.length := by
  by_cases hn : 0 ≤ n ∧ n ≤ (l.length : Int) - p
  · rw [tk_some hn] at h
    simp only [Option.some.injEq, Prod.mk.injEq] at h
    omega
  · rw [tk_none hn] at h; cases h

/-- A count. -/
def cnt (l : List Int) (p : Nat) (most : Int) : Option (Int × Nat) :=
  match num l p with
  | none => none
  | some (n, q) => if 0 ≤ n ∧ n ≤ most then some (n, q) else none
set_option maxHeartbeats 800000 in
theorem count_any (G : Nat) (v : Value) (l : List Int) (p : Nat) (most : Int) (w : World) (hr : Rdr w G v p) (hd : Dat w G v l) (hp : p ≤ l.length) :
    Calls Try.prog 108 #[.pointer (some ⟨G, 0, none⟩), .int .i64 most] w fun e w' => Step w w' G v 6 (cnt l p most) (fun _ n u => u = .int .i64 n) e := by
  have HR := Seg.hid hr; have HD := Seg.hid hd
  clear hr hd
  go_enter Try.func108, Try.ntmps108
  go_wp2_with fail
  refine (number_any G v l p 6 w HR.out HD.out hp).mono ?_
  rintro e w1 S
  rcases ho : num l p with _ | ⟨n, q⟩
  · obtain rfl := S.no ho
    have HN : Hid (cnt l p most = none) := by show _ = _; rw [cnt, ho]
    exact ⟨rfl, S.gr, fun _ => rfl, fun x q h => by rw [HN.out] at h; cases h⟩
  · obtain ⟨⟨u, rfl, rfl⟩, hR⟩ := S.yes n q ho
    have GR := Seg.hid S.gr; have R1 := Seg.hid hR; have HO := Seg.hid ho
    clear S hR ho
    cases hb : (decide (0 ≤ n) && decide (n ≤ most)) with
    | true =>
      have HB := Seg.hid hb
      clear hb
      go_wp2_with (go_at_call 79; refine (ROk.within_b _ _ _ _ HB.out _).mono ?_; rintro _ _ ⟨rfl, rfl⟩)
      go_ret
      have HN : cnt l p most = some (n, q) := by
        rw [cnt, HO.out]
        show (if _ then _ else _) = _
        rw [if_pos (by simpa using HB.out)]
      refine ⟨GR.out, fun h => (by rw [HN] at h; cases h), fun x y h => ?_⟩
      rw [HN] at h
      simp only [Option.some.injEq, Prod.mk.injEq] at h
      obtain ⟨rfl, rfl⟩ := h
      exact ⟨⟨_, rfl, rfl⟩, R1.out⟩
    | false =>
      have HB := Seg.hid hb
      clear hb
      go_wp2_with (go_at_call 79; refine (ROk.within_b _ _ _ _ HB.out _).mono ?_; rintro _ _ ⟨rfl, rfl⟩)
      have HN : cnt l p most = none := by
        rw [cnt, HO.out]
        show (if _ then _ else _) = _
        rw [if_neg (by have := HB.out; intro h; simp [h.1, h.2] at this)]
      exact ⟨rfl, GR.out, fun _ => rfl, fun x y h => by rw [HN] at h; cases h⟩

theorem conv_seg (w : World) (u : Value) (xs : List Int) (h : Seg.Seg w u xs) : (convert 22 9 u).run Try.prog w = .ok (.string (strOfNums xs)) w := by
  obtain ⟨h1, h2⟩ := h
  rcases h2 with ⟨A, c, rfl, rfl⟩ | ⟨g, o, cap, rfl, h3, h4, h5⟩
  · rw [run_convert_bytes_string w 22 9 5 A 0 c Try.underlying22 Try.underlying5 Try.underlying9]
    cases A with
    | none => simp [Conv.bytesToString]; rfl
    | some a => simp [Conv.bytesToString]; rfl
  · exact run_convert_bytes_arg (P := Try.prog) w 22 5 Try.underlying22 Try.underlying5 g o xs.length cap xs rfl h5 9 Try.underlying9

set_option maxHeartbeats 800000 in
theorem text_any (G : Nat) (v : Value) (l : List Int) (p : Nat) (n : Int) (w : World) (hr : Rdr w G v p) (hd : Dat w G v l) (hp : p ≤ l.length) :
    Calls Try.prog 115 #[.pointer (some ⟨G, 0, none⟩), .int .i64 n] w fun e w' => Step w w' G v 6 ((tk l p n).map fun x => (strOfNums x.1, x.2)) (fun _ s u => u = .string s) e := by
  have HR := Seg.hid hr; have HD := Seg.hid hd
  clear hr hd
  go_enter Try.func115, Try.ntmps115
  go_wp2_with fail
  refine (take_any G v l p n 6 w HR.out HD.out hp).mono ?_
  rintro e w1 S
  rcases ho : tk l p n with _ | ⟨xs, q⟩
  · obtain rfl := S.no ho
    exact ⟨rfl, S.gr, fun _ => rfl, fun x q h => by rw [ho] at h; cases h⟩
  · obtain ⟨⟨u, rfl, hu⟩, hR⟩ := S.yes xs q ho
    have GR := Seg.hid S.gr; have R1 := Seg.hid hR; have HO := Seg.hid ho
    clear ho
    have hcv := conv_seg w1 u xs hu.1
    clear S hR hu
    go_wp2
    go_ret
    refine ⟨GR.out, fun h => (by rw [HO.out] at h; cases h), fun x y h => ?_⟩
    rw [HO.out] at h
    simp only [Option.map_some, Option.some.injEq, Prod.mk.injEq] at h
    obtain ⟨rfl, rfl⟩ := h
    exact ⟨⟨_, rfl, rfl⟩, R1.out⟩

set_option maxHeartbeats 800000 in
theorem textIf_any (G : Nat) (v : Value) (l : List Int) (p : Nat) (w : World) (hr : Rdr w G v p) (hd : Dat w G v l) (hp : p ≤ l.length) :
    Calls Try.prog 109 #[.pointer (some ⟨G, 0, none⟩)] w fun e w' => Step w w' G v 6 (textIf l p) (fun _ x u => u = .tuple #[.string x.2, .bool x.1]) e := by
  have HR := Seg.hid hr; have HD := Seg.hid hd
  clear hr hd
  go_enter Try.func109, Try.ntmps109
  go_wp2_with fail
  refine (number_any G v l p 6 w HR.out HD.out hp).mono ?_
  rintro e w1 S
  rcases ho : num l p with _ | ⟨n, q⟩
  · obtain rfl := S.no ho
    have HN : textIf l p = none := by rw [textIf, ho]
    exact ⟨rfl, S.gr, fun _ => rfl, fun x q h => by rw [HN] at h; cases h⟩
  · obtain ⟨⟨u, rfl, rfl⟩, hR⟩ := S.yes n q ho
    have GR := Seg.hid S.gr; have R1 := Seg.hid hR; have HO := Seg.hid ho
    have hq := num_le ho
    have D1 := Seg.hid (HD.out.keep S.gr)
    clear S hR ho
    by_cases hm : n = -1
    · have hmb : (n == -1) = true := by simp [hm]
      have HN : Hid (textIf l p = some ((false, ByteArray.empty), q)) := by show _ = _; rw [textIf, HO.out]; show (if _ then _ else _) = _; rw [if_pos hm]
      clear hm
      go_wp2
      go_ret2
      refine ⟨GR.out, fun h => (by rw [HN.out] at h; cases h), fun x y h => ?_⟩
      rw [HN.out] at h
      simp only [Option.some.injEq, Prod.mk.injEq] at h
      obtain ⟨rfl, rfl⟩ := h
      exact ⟨⟨_, rfl, rfl⟩, R1.out⟩
    · have hmb : (n == -1) = false := by simp [hm]
      have HN : Hid (textIf l p = (tk l q n).map fun x => ((true, strOfNums x.1), x.2)) := by show _ = _; rw [textIf, HO.out]; show (if _ then _ else _) = _; rw [if_neg hm]
      clear hm
      go_wp2_with fail
      refine (text_any G v l q n w1 R1.out D1.out hq).mono ?_
      rintro e w2 S
      rcases ho : tk l q n with _ | ⟨xs, q2⟩
      · obtain rfl := S.no (by rw [ho]; rfl)
        exact ⟨rfl, GR.out.trans S.gr, fun _ => rfl, fun x y h => by rw [HN.out, ho] at h; cases h⟩
      · obtain ⟨⟨u, rfl, rfl⟩, hR⟩ := S.yes (strOfNums xs) q2 (by rw [ho]; rfl)
        have G2 := Seg.hid (GR.out.trans S.gr); have R2 := Seg.hid hR; have HO2 := Seg.hid ho
        clear S hR ho
        go_wp2
        go_ret2
        refine ⟨G2.out, fun h => (by rw [HN.out, HO2.out] at h; cases h), fun x y h => ?_⟩
        rw [HN.out, HO2.out] at h
        simp only [Option.map_some, Option.some.injEq, Prod.mk.injEq] at h
        obtain ⟨rfl, rfl⟩ := h
        exact ⟨⟨_, rfl, rfl⟩, R2.out⟩
end Go.Proofs.Ytdnbcfochlfopaa.Rd
