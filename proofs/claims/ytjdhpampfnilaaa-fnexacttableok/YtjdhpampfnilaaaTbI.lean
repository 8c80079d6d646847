/- TableOk of the program. -/
import Derived.Test.YtjdhpampfnilaaaTbP
import Derived.Test.YtjdhpampfnilaaaInB
namespace Go.Proofs.Ytjdhpampfnilaaa.TbI
set_option maxRecDepth 8000
open Go.RowKit
open Ls Lp TbP
open Recs (hsz below1 below2 chain)
set_option linter.unusedVariables false
set_option maxHeartbeats 1600000 in
theorem seen_any (x : Value) (s : Sen) (w : World) (S : Nat → Prop) (hv : SenAt w S x s) (hS : ∀ g, S g → g < w.heap.size) (hf : szSen s ≤ 1048576) :
    Calls Try.prog 13 #[x] w fun e w' => e = .returned (.bool (snOk s)) ∧ Below w.heap.size w w' := by
  obtain ⟨f, rfl, y0, y1, y2, y3⟩ := hv
  unfold arrSen
  obtain ⟨A, c, g, o, F, g3, OA, n3⟩ := opn y3 hS
  rw [g3, y0, y1, y2]
  have HA := Seg.hid OA
  have hn : s.recent.length ≤ 1048576 := szL_len _ (show szL szRct s.recent ≤ 1048576 from hf)
  clear y0 y1 y2 y3 OA g3 hf n3
  go_enter Try.func13, Try.ntmps13
  have no : ∀ (w' : World), snOk s = false → Below w.heap.size w w' → (Ending.returned (.bool false) = .returned (.bool (snOk s)) ∧ Below w.heap.size w w') := fun w' h b => ⟨by rw [h], b⟩
  have NO := Seg.hid no
  clear no
  go_wp2_with fail
  cases h1 : inR 0 s.turn 1000 with
  | false =>
    refine (InB.within_b _ _ _ false h1 _).mono ?_
    rintro e w1 ⟨rfl, rfl⟩
    have Z : Hid (snOk s = false) := by show _ = _; simp [snOk, front, h1]
    clear h1
    go_wp2
    go_ret
    exact NO.out _ Z.out (below1 _ _)
  | true =>
  refine (InB.within_b _ _ _ true h1 _).mono ?_
  rintro e w1 ⟨rfl, rfl⟩
  have K1 := Seg.hid h1
  clear h1
  go_wp2_with fail
  cases h2 : inR 0 s.next 1000000001 with
  | false =>
    refine (InB.within_b _ _ _ false h2 _).mono ?_
    rintro e w1 ⟨rfl, rfl⟩
    have Z : Hid (snOk s = false) := by show _ = _; simp [snOk, front, h2]
    clear h2
    go_wp2
    go_ret
    exact NO.out _ Z.out (below1 _ _)
  | true =>
  refine (InB.within_b _ _ _ true h2 _).mono ?_
  rintro e w1 ⟨rfl, rfl⟩
  have K2 := Seg.hid h2
  clear h2
  by_cases h5 : s.recent.length ≤ 5
  case neg =>
    have Z : Hid (snOk s = false) := by show _ = _; simp [snOk, front, h5]
    go_wp2
    go_ret
    exact NO.out _ Z.out (below1 _ _)
  have KS : Hid (snOk s = link s.next s.recent) := by show _ = _; simp [snOk, front, h5, K1.out, K2.out]
  have ST : Hid (Ss w (w.alloc (.cells #[.int .i64 s.producer, .int .i64 s.turn, .int .i64 s.next, .slice A s.recent.length c] 35 (0, 0))) s A c w.heap.size) := ⟨below1 _ _, heap_alloc_new _ _⟩
  clear K1 K2
  go_wp2_with fail
  go_loopw [25] (fun i wr => ∃ (k : Nat), k ≤ s.recent.length ∧ i = .int .i64 k ∧ Hid (link s.next (s.recent.drop k) = snOk s ∧ Ss w wr s A c w.heap.size)) (fun i _ => s.recent.length - (intOf i).toNat)
  case atStart => exact ⟨0, Nat.zero_le _, rfl, KS.out.symm, ST.out⟩
  case round =>
    clear ST
    obtain ⟨k, hk, rfl, HR⟩ := hrel
    obtain ⟨p0, p1, p2, p3⟩ := HR.out.2.cells
    have hlt1 := HR.out.2.lt
    by_cases hlt : k < s.recent.length
    · obtain ⟨ea, hc, hga⟩ := HA.out.addr.resolve_left (by omega)
      have OL := HA.out.later keepsRct hS HR.out.2.bel
      obtain ⟨c0, c1, c2⟩ := rct_cells (i := k) (fun j hj => OL.cells k hlt j hj) (OL.el k hlt)
      have CN : Hid (k + 1 < s.recent.length → wr.cell? ⟨g, o + (k + 1) * 3, none⟩ = some (.int .i64 (s.recent.getD (k + 1) default).seq)) := fun h => (rct_cells (i := k + 1) (fun j hj => OL.cells (k + 1) h j hj) (OL.el (k + 1) h)).1
      have h0 : (0 : Int) ≤ (k : Int) := by omega
      have h1 : (k : Int) < (s.recent.length : Int) := by omega
      have hgr : g < wr.heap.size := by omega
      have HD := HR.out.1
      rw [drop_cons hlt] at HD
      have HD' := Seg.hid HD
      clear HD OL
      generalize s.recent.getD k default = rk at *
      subst ea
      have ZF : Hid ((okR rk && decide (rk.seq + rk.many = nxt s.next (s.recent.drop (k + 1)))) = false → snOk s = false) := fun hb => by rw [← HD'.out]; simp only [link, hb, Bool.false_and]
      go_wp2_with fail
      cases b1 : inR 0 rk.seq 1000000000 with
      | false =>
        refine (InB.within_b _ _ _ false b1 _).mono ?_
        rintro e w1 ⟨rfl, rfl⟩
        have Z := Seg.hid (ZF.out (by simp [okR, b1]))
        clear b1
        go_wp2
        go_ret
        exact NO.out _ Z.out (HR.out.2.alloc _).bel
      | true =>
      refine (InB.within_b _ _ _ true b1 _).mono ?_
      rintro e w1 ⟨rfl, rfl⟩
      have K1 := Seg.hid b1
      have r1 := inR_true b1
      clear b1
      go_wp2_with fail
      cases b2 : inR 1 rk.many 40 with
      | false =>
        refine (InB.within_b _ _ _ false b2 _).mono ?_
        rintro e w1 ⟨rfl, rfl⟩
        have Z := Seg.hid (ZF.out (by simp [okR, b2]))
        clear b2
        go_wp2
        go_ret
        exact NO.out _ Z.out (HR.out.2.alloc _).bel
      | true =>
      refine (InB.within_b _ _ _ true b2 _).mono ?_
      rintro e w1 ⟨rfl, rfl⟩
      have K2 := Seg.hid b2
      have r2 := inR_true b2
      clear b2
      go_wp2_with fail
      cases b3 : inR 0 rk.offset 1000000000 with
      | false =>
        refine (InB.within_b _ _ _ false b3 _).mono ?_
        rintro e w1 ⟨rfl, rfl⟩
        have Z := Seg.hid (ZF.out (by simp [okR, b3]))
        clear b3
        go_wp2
        go_ret
        exact NO.out _ Z.out (HR.out.2.alloc _).bel
      | true =>
      refine (InB.within_b _ _ _ true b3 _).mono ?_
      rintro e w1 ⟨rfl, rfl⟩
      have KO : Hid (okR rk = true) := by show _ = _; simp [okR, K1.out, K2.out, b3]
      clear b3 K1 K2
      have e1 : IntKind.i64.wrap ((k : Int) + 1) = (k : Int) + 1 := by rw [IntKind.wrap_i64] <;> omega
      have e2 : IntKind.i64.wrap (rk.seq + rk.many) = rk.seq + rk.many := by rw [IntKind.wrap_i64] <;> omega
      by_cases hl2 : k + 1 < s.recent.length
      · have cn := CN.out hl2
        have h2 : (k : Int) + 1 < (s.recent.length : Int) := by omega
        have h3 : (0 : Int) ≤ (k : Int) + 1 := by omega
        have NX : Hid (nxt s.next (s.recent.drop (k + 1)) = (s.recent.getD (k + 1) default).seq) := nxt_drop hl2
        generalize s.recent.getD (k + 1) default = rn at *
        clear CN
        by_cases hq : rk.seq + rk.many = rn.seq
        · have KL : Hid (link s.next (s.recent.drop (k + 1)) = snOk s) := by
            show _ = _
            rw [← HD'.out]; simp only [link, KO.out, NX.out, hq, decide_true, Bool.true_and]
          have hq2 : (rk.seq + rk.many != rn.seq) = false := by simp [hq]
          have HQ := Seg.hid hq
          clear hq
          go_wp2
          go_roundw
          case rel => exact ⟨k + 1, by omega, by go_num, KL.out, HR.out.2.alloc _⟩
          case measure => simp [intOf]; omega
        · have Z := Seg.hid (ZF.out (by simp [NX.out, hq]))
          go_wp2
          go_ret
          exact NO.out _ Z.out (HR.out.2.alloc _).bel
      · have NX : Hid (nxt s.next (s.recent.drop (k + 1)) = s.next) := nxt_end (by omega)
        have h2 : ¬ (k : Int) + 1 < (s.recent.length : Int) := by omega
        clear CN
        by_cases hq : rk.seq + rk.many = s.next
        · have KL : Hid (link s.next (s.recent.drop (k + 1)) = snOk s) := by
            show _ = _
            rw [← HD'.out]; simp only [link, KO.out, NX.out, hq, decide_true, Bool.true_and]
          have hq2 : (rk.seq + rk.many != s.next) = false := by simp [hq]
          have HQ := Seg.hid hq
          clear hq
          go_wp2
          go_roundw
          case rel => exact ⟨k + 1, by omega, by go_num, KL.out, HR.out.2.alloc _⟩
          case measure => simp [intOf]; omega
        · have Z := Seg.hid (ZF.out (by simp [NX.out, hq]))
          go_wp2
          go_ret
          exact NO.out _ Z.out (HR.out.2.alloc _).bel
    · have HE := HR.out.1
      rw [List.drop_eq_nil_of_le (by omega)] at HE
      have HE' := Seg.hid HE
      clear HE
      go_wp2
      go_ret
      exact ⟨Seg.ret_bool HE'.out, HR.out.2.bel⟩
set_option maxHeartbeats 1600000 in
theorem impl_any (x : Value) (l : List Sen) (w : World) (S : Nat → Prop) (hv : LAt 4 ESen w S x l) (hS : ∀ g, S g → g < w.heap.size) (hf : szL szSen l ≤ 1048576) :
    Calls Try.prog 7 #[x] w fun e w' => e = .returned (.bool (table l)) ∧ Below w.heap.size w w' := by
  obtain ⟨A, c, g, o, F, rfl, OA, n3⟩ := opn hv hS
  have HA := Seg.hid OA
  have hn : l.length ≤ 1048576 := szL_len _ hf
  have HL : Hid (∀ i, i < l.length → szSen (l.getD i default) ≤ 1048576) := fun i hi => szL_one _ hf hi
  clear hv OA hf n3
  go_enter Try.func7, Try.ntmps7
  by_cases h1 : l.length ≤ 100
  case neg =>
    have Z : Hid (table l = false) := by show _ = _; simp [table, h1]
    go_wp2
    go_ret
    exact ⟨Seg.ret_bool Z.out.symm, Below.refl _ _⟩
  have KS : Hid (table l = tabs 0 l) := by show _ = _; simp [table, h1]
  go_wp2_with fail
  go_loopw [3, 11] (fun a i wr => ∃ (k : Nat) (m : Int), k ≤ l.length ∧ a = .int .i64 m ∧ i = .int .i64 k ∧ 0 ≤ m ∧ Hid (tabs m (l.drop k) = table l ∧ Below w.heap.size w wr)) (fun _ i _ => l.length - (intOf i).toNat)
  case atStart => exact ⟨0, 0, Nat.zero_le _, rfl, rfl, by omega, KS.out.symm, Below.refl _ _⟩
  case round =>
    clear KS
    obtain ⟨k, m, hk, rfl, rfl, hm0, HR⟩ := hrel
    by_cases hlt : k < l.length
    · obtain ⟨ea, hc, hga⟩ := HA.out.addr.resolve_left (by omega)
      have hb := HR.out.2
      have OL := HA.out.later keepsSen hS hb
      obtain ⟨A3, c3, ⟨d0, d1, d2, d3⟩, LR⟩ := sen_cells (i := k) (fun j hj => OL.cells k hlt j hj) (OL.el k hlt)
      have h0 : (0 : Int) ≤ (k : Int) := by omega
      have h1 : (k : Int) < (l.length : Int) := by omega
      have hgr : g < wr.heap.size := Nat.lt_of_lt_of_le hga hb.size
      have SZ := Seg.hid (HL.out k hlt)
      have HD := HR.out.1
      rw [drop_cons hlt] at HD
      have HD' := Seg.hid HD
      clear HD OL hb
      generalize l.getD k default = sk at *
      subst ea
      have SA : Hid (SenAt wr S (.agg #[.int .i64 sk.producer, .int .i64 sk.turn, .int .i64 sk.next, .slice A3 sk.recent.length c3]) sk) := ⟨fun q => if q = 0 then .int .i64 sk.producer else if q = 1 then .int .i64 sk.turn else if q = 2 then .int .i64 sk.next else .slice A3 sk.recent.length c3, rfl, rfl, rfl, rfl, LR⟩
      have hSr : Hid (∀ g, S g → g < wr.heap.size) := fun g hg => Nat.lt_of_lt_of_le (hS g hg) HR.out.2.size
      clear LR
      go_wp2_with fail
      cases b1 : inR m sk.producer 1000000000 with
      | false =>
        refine (InB.within_b _ _ _ false b1 _).mono ?_
        rintro e w1 ⟨rfl, rfl⟩
        have Z : Hid (table l = false) := by show _ = _; rw [← HD'.out]; simp [tabs, b1]
        clear b1
        go_wp2
        go_ret
        exact ⟨Seg.ret_bool Z.out.symm, HR.out.2.alloc HR.out.2.size _⟩
      | true =>
      refine (InB.within_b _ _ _ true b1 _).mono ?_
      rintro e w1 ⟨rfl, rfl⟩
      have r1 := inR_true b1
      have K1 := Seg.hid b1
      clear b1
      go_wp2_with fail
      refine (seen_any _ sk (wr.alloc _) S (SA.out.below (below1 wr _) hSr.out) (fun g hg => by rw [hsz]; have := hSr.out g hg; omega) SZ.out).mono ?_
      rintro e w1 ⟨rfl, b1⟩
      have B1 := Seg.hid (chain HR.out.2 (chain (below1 wr _) b1))
      have T1 : w1.heap[wr.heap.size]? = some (.cells #[.int .i64 sk.producer, .int .i64 sk.turn, .int .i64 sk.next, .slice A3 sk.recent.length c3] 35 (0, 0)) := (b1.block wr.heap.size (by rw [hsz]; omega)).trans (heap_alloc_new _ _)
      have t0 : w1.cell? ⟨wr.heap.size, 0, none⟩ = some (.int .i64 sk.producer) := cell_of_row w1 _ 0 _ _ (0, 0) T1
      clear b1 T1
      cases b2 : snOk sk with
      | false =>
        have Z : Hid (table l = false) := by show _ = _; rw [← HD'.out]; simp [tabs, b2]
        clear b2
        go_wp2
        go_ret
        exact ⟨Seg.ret_bool Z.out.symm, B1.out⟩
      | true =>
        have KL : Hid (tabs (sk.producer + 1) (l.drop (k + 1)) = table l) := by show _ = _; rw [← HD'.out]; simp only [tabs, K1.out, b2, Bool.true_and]
        have e2 : IntKind.i64.wrap (sk.producer + 1) = sk.producer + 1 := by rw [IntKind.wrap_i64] <;> omega
        clear b2
        go_wp2
        go_roundw
        case rel => exact ⟨k + 1, sk.producer + 1, by omega, by go_num, by go_num, by omega, KL.out, B1.out⟩
        case measure => simp [intOf]; omega
    · have HE := HR.out.1
      rw [List.drop_eq_nil_of_le (by omega)] at HE
      have HE' := Seg.hid HE
      clear HE
      go_wp2
      go_ret
      exact ⟨Seg.ret_bool HE'.out, HR.out.2⟩
end Go.Proofs.Ytjdhpampfnilaaa.TbI
