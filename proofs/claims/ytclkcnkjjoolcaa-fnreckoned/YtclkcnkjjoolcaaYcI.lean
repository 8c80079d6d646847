/- The program's slices.Index and slices.Contains over texts, containsAll, colsOf. -/
import Derived.Test.YtclkcnkjjoolcaaYcP
import Derived.Test.YtclkcnkjjoolcaaInQ
import Derived.Deep.AppendLies
import Derived.Deep.Cut
namespace Go.Proofs.Ytclkcnkjjoolcaa.YcI
set_option maxRecDepth 8000
open Go.RowKit
open Ls Lp QyP QsP QtP QuP YcP
open Recs (hsz below1 below2 chain)
set_option linter.unusedVariables false
set_option maxHeartbeats 1600000 in
theorem idx_any (v : Value) (us : List ByteArray) (n : ByteArray) (w : World) (S : Nat → Prop) (hv : LAt 1 EStr w S v us) (hS : ∀ g, S g → g < w.heap.size) : Calls Try.prog 36 #[v, .string n] w fun e w' => e = .returned (.int .i64 (ixT us n)) ∧ w = w' := by
  obtain ⟨A, c, g, o, F, rfl, OP, hn⟩ := opn hv hS
  have HO := Seg.hid OP
  clear hv OP
  obtain ⟨R, hR⟩ : ∃ R, ixT us n = R := ⟨_, rfl⟩
  rw [hR]
  have HR := Seg.hid hR
  clear hR
  go_enter Try.func36, Try.ntmps36
  go_wp2
  go_loop [8] (fun i => ∃ k : Nat, k ≤ us.length ∧ i = .int .i64 k ∧ Hid (∀ j, j < k → ((us.getD j default).toList == n.toList) = false)) (fun i => us.length - (intOf i).toNat)
  case atStart => exact ⟨0, Nat.zero_le _, rfl, fun j hj => absurd hj (by omega)⟩
  case round =>
    obtain ⟨k, hk, rfl, HG⟩ := hrel
    by_cases hlt : k < us.length
    · obtain ⟨ea, hc, hgw⟩ := HO.out.addr.resolve_left (by omega)
      subst ea
      have d0 := strs_cell HO.out rfl hlt
      have h0 : (0 : Int) ≤ (k : Int) := by omega
      have h1 : (k : Int) < (us.length : Int) := by omega
      have HIT : Hid (((us.getD k default).toList == n.toList) = true → R = k) := fun h => by rw [← HR.out]; exact ix_hit hlt HG.out h
      have MIS : Hid (((us.getD k default).toList == n.toList) = false → ∀ j, j < k + 1 → ((us.getD j default).toList == n.toList) = false) := fun h j hj => by
        by_cases e : j = k
        · subst e; exact h
        · exact HG.out j (by omega)
      clear HG
      generalize us.getD k default = m at *
      cases hb : (n.toList == m.toList) with
      | true =>
        have hb2 : (m.toList == n.toList) = true := by rw [BEq.comm]; exact hb
        have RF : Hid (R = k) := HIT.out hb2
        clear hb2 HIT MIS
        go_wp2
        go_ret
        exact ⟨by rw [RF.out]; rfl, rfl⟩
      | false =>
        have hb2 : (m.toList == n.toList) = false := by rw [BEq.comm]; exact hb
        have MF := Seg.hid (MIS.out hb2)
        clear hb2 HIT MIS
        go_wp2
        go_round
        case rel => exact ⟨k + 1, by omega, by go_num, MF.out⟩
        case measure => simp [intOf]; omega
    · have hkl : k = us.length := by omega
      have RF : Hid (R = -1) := by show _ = _; rw [← HR.out]; exact ix_miss (fun j hj => HG.out j (by omega))
      have hx1 : ¬ (k : Int) < (us.length : Int) := by omega
      clear hkl HG
      go_wp2
      go_ret
      exact ⟨by rw [RF.out]; rfl, rfl⟩
theorem con_any (v : Value) (us : List ByteArray) (n : ByteArray) (w : World) (S : Nat → Prop) (hv : LAt 1 EStr w S v us) (hS : ∀ g, S g → g < w.heap.size) : Calls Try.prog 27 #[v, .string n] w fun e w' => e = .returned (.bool (hasT us n)) ∧ w = w' := by
  have CI : Hid (Calls Try.prog 36 #[v, .string n] w fun e w' => e = .returned (.int .i64 (ixT us n)) ∧ w = w') := idx_any v us n w S hv hS
  rw [has_ix]
  obtain ⟨R, hR⟩ : ∃ R, ixT us n = R := ⟨_, rfl⟩
  rw [hR] at CI ⊢
  clear hR hv
  go_enter Try.func27, Try.ntmps27
  go_wp2_with (go_at_call 36; refine CI.out.mono ?_; rintro e w6 ⟨rfl, rfl⟩)
  go_ret
  exact ⟨rfl, rfl⟩
set_option maxHeartbeats 1600000 in
theorem all_any (v z : Value) (cols ns : List ByteArray) (w : World) (S S' : Nat → Prop) (hv : LAt 1 EStr w S v cols) (hz : LAt 1 EStr w S' z ns) (hS : ∀ g, S g → g < w.heap.size) (hS' : ∀ g, S' g → g < w.heap.size) : Calls Try.prog 13 #[v, z] w fun e w' => e = .returned (.bool (allT cols ns)) ∧ w = w' := by
  have CC : Hid (∀ n, Calls Try.prog 27 #[v, .string n] w fun e w' => e = .returned (.bool (hasT cols n)) ∧ w = w') := fun n => con_any v cols n w S hv hS
  obtain ⟨A, c, g, o, F, rfl, OP, hn⟩ := opn hz hS'
  have HO := Seg.hid OP
  obtain ⟨A1, c1, rfl⟩ := hv.form
  clear hv hz OP
  obtain ⟨R, hR⟩ : ∃ R, allT cols ns = R := ⟨_, rfl⟩
  rw [hR]
  have HR := Seg.hid hR
  clear hR
  go_enter Try.func13, Try.ntmps13
  go_wp2
  go_loop [9] (fun i => ∃ k : Nat, k ≤ ns.length ∧ i = .int .i64 k ∧ Hid ((ns.take k).all (hasT cols) = true)) (fun i => ns.length - (intOf i).toNat)
  case atStart => exact ⟨0, Nat.zero_le _, rfl, by show _ = _; simp⟩
  case round =>
    obtain ⟨k, hk, rfl, HG⟩ := hrel
    by_cases hlt : k < ns.length
    · obtain ⟨ea, hc, hgw⟩ := HO.out.addr.resolve_left (by omega)
      subst ea
      have d0 := strs_cell HO.out rfl hlt
      have h0 : (0 : Int) ≤ (k : Int) := by omega
      have h1 : (k : Int) < (ns.length : Int) := by omega
      have NX := Seg.hid (all_next (hasT cols) ns k hlt HG.out)
      have BX : Hid (hasT cols (ns.getD k default) = false → R = false) := fun h => by rw [← HR.out]; exact all_bad (hasT cols) ns k hlt h
      clear HG
      generalize ns.getD k default = m at *
      have CM : Hid (Calls Try.prog 27 #[.slice A1 cols.length c1, .string m] w fun e w' => e = .returned (.bool (hasT cols m)) ∧ w = w') := CC.out m
      cases hb : hasT cols m with
      | true =>
        rw [hb] at CM
        have NY := Seg.hid (NX.out hb)
        clear hb NX BX
        go_wp2_with (go_at_call 27; refine CM.out.mono ?_; rintro e w6 ⟨rfl, rfl⟩)
        go_round
        case rel => exact ⟨k + 1, by omega, by go_num, NY.out⟩
        case measure => simp [intOf]; omega
      | false =>
        rw [hb] at CM
        have RF := Seg.hid (BX.out hb)
        clear hb NX BX
        go_wp2_with (go_at_call 27; refine CM.out.mono ?_; rintro e w6 ⟨rfl, rfl⟩)
        go_ret
        exact ⟨by rw [RF.out]; rfl, rfl⟩
    · have hkl : k = ns.length := by omega
      have RF : Hid (R = true) := by show _ = _; have := HG.out; rw [hkl, List.take_length] at this; rw [← HR.out]; exact this
      have hx1 : ¬ (k : Int) < (ns.length : Int) := by omega
      clear hkl HG
      go_wp2
      go_ret
      exact ⟨by rw [RF.out]; rfl, rfl⟩
structure Cs (w wr : World) (l : List Stp) (k : Nat) (v : Value) : Prop where
  le : k ≤ l.length
  row : Row wr w.heap.size v (colsL (l.take k))
  bel : Below w.heap.size w wr
set_option maxHeartbeats 3200000 in
theorem cols_any (v : Value) (l : List Stp) (w : World) (S : Nat → Prop) (hv : LAt 3 EStp w S v l) (hS : ∀ g, S g → g < w.heap.size) (hl : l.length ≤ 60) : Calls Try.prog 14 #[v] w fun e w' => ∃ v', e = .returned v' ∧ Row w' w.heap.size v' (colsL l) ∧ Below w.heap.size w w' := by
  obtain ⟨A, c, g, o, F, rfl, OP, hn⟩ := opn hv hS
  have HO := Seg.hid OP
  clear hv OP
  obtain ⟨i0, hi, hz0, hz1, hz2⟩ := info_parts infoStr
  go_enter Try.func14, Try.ntmps14
  go_upto_region 2 with fail
  obtain ⟨w1, hw1⟩ : ∃ w1, w.alloc (.cells #[] 9 (0, 0)) = w1 := ⟨_, rfl⟩
  have B1 : Hid (Below w.heap.size w w1) := by show Below _ _ _; rw [← hw1]; exact below1 _ _
  have O1 : Hid (Row w1 w.heap.size (.slice (some ⟨w.heap.size, 0, none⟩) 0 0) (colsL (l.take 0))) := by
    show Row _ _ _ _
    rw [← hw1]
    simp only [List.take_zero, colsL, List.filter_nil, List.map_nil]
    exact ⟨rfl, .inr ⟨w.heap.size, 0, #[], rfl, Nat.le_refl _, heap_alloc_new _ _, by simp, by unfold maxLen; omega, by simp, by simp⟩⟩
  try rw [hw1]
  clear hw1
  go_wp2
  go_loopw [3, 9] (fun v i wr => ∃ k : Nat, i = .int .i64 k ∧ Cs w wr l k v) (fun _ i _ => l.length - (intOf i).toNat)
  case atStart => exact ⟨0, rfl, Nat.zero_le _, O1.out, B1.out⟩
  case round =>
    clear B1 O1
    obtain ⟨k, rfl, SS⟩ := hrel
    obtain ⟨v, hv3⟩ : ∃ v, v = u3 := ⟨_, rfl⟩
    rw [← hv3] at SS ⊢
    clear hv3
    have hk := SS.le
    have BW := Seg.hid SS.bel
    have RW := Seg.hid SS.row
    clear SS
    by_cases hlt : k < l.length
    · obtain ⟨ea, hc, hgw⟩ := HO.out.addr.resolve_left (by omega)
      subst ea
      obtain ⟨d0, d1, d2⟩ := stp_at HO.out hS BW.out hlt
      have h0 : (0 : Int) ≤ (k : Int) := by omega
      have h1 : (k : Int) < (l.length : Int) := by omega
      have NN := Seg.hid (cols_next hlt)
      have NL := Seg.hid (cols_len l k)
      generalize l.getD k default = s at *
      obtain ⟨op, hop⟩ : ∃ op, s.op = op := ⟨_, rfl⟩
      obtain ⟨nu, hnu⟩ : ∃ nu, s.num = nu := ⟨_, rfl⟩
      obtain ⟨nm, hnm⟩ : ∃ nm, s.name = nm := ⟨_, rfl⟩
      rw [hop] at d0
      rw [hnu] at d1
      rw [hnm] at d2
      rw [hop, hnm] at NN
      clear hop hnu hnm
      obtain ⟨w5, hw5⟩ : ∃ w5, wr.alloc (.cells #[.int .i64 op, .int .i64 nu, .string nm] 32 (0, 0)) = w5 := ⟨_, rfl⟩
      have T5 : Hid (w5.heap[wr.heap.size]? = some (.cells #[.int .i64 op, .int .i64 nu, .string nm] 32 (0, 0))) := by show _ = _; rw [← hw5]; exact heap_alloc_new _ _
      have N5 : Hid (Below wr.heap.size wr w5) := by show Below _ _ _; rw [← hw5]; exact below1 _ _
      go_upto_region 5 with fail
      try rw [hw5]
      clear hw5 d0 d1 d2
      have q0 : w5.cell? ⟨wr.heap.size, 0, none⟩ = some (.int .i64 op) := cell_of_row w5 _ 0 _ _ (0, 0) T5.out
      have q2 : w5.cell? ⟨wr.heap.size, 2, none⟩ = some (.string nm) := cell_of_row w5 _ 2 _ _ (0, 0) T5.out
      by_cases o2 : op = 2
      · have p2 : (op == 2) = true := by simpa using o2
        rw [if_pos o2] at NN
        clear o2
        have nl := NL.out
        have zb : w.heap.size ≤ w5.heap.size := by have := BW.out.size; have := N5.out.size; omega
        have OW : Hid (∀ ob, (w5.alloc ob).ownsRow w.heap.size 9 1 v (colsL (l.take k)).length ((colsL (l.take k)).map Value.string)) := fun ob => Row.keep RW.out (chain N5.out (below1 w5 ob))
        go_wp2_with (at_builtin; (refine wpList_append_lies _ rfl _ _ 25 rfl w.heap.size 9 i0 _ 1 16 Try.underlying25 hi hz0 hz1 hz2 rfl (by decide) v (colsL (l.take k)).length ((colsL (l.take k)).map Value.string) rfl (OW.out _) ⟨w5.heap.size, 0, none⟩ 1 1 [.string nm] rfl rfl (World.news_of_block (cs := #[.string nm]) (heap_alloc_new _ _)) (by simp [Value.oneCell']) (by decide) (by unfold maxLen; omega) (by omega) (by rw [hsz]; omega) (w5.heap.size + 1) (by rw [hsz]) ?_; intro g9 cap9 w9 hown9 gr9 hat9 hlt9; have RN := Seg.hid (row_put hown9); have B9 : Hid (Below w.heap.size w w9) := (chain BW.out (chain N5.out (below1 w5 _))).grown gr9 (by rw [hsz]; omega) (fun y hy => (World.ownsRow.lt RW.out y hy).1); clear hown9 gr9 hat9 hlt9))
        go_roundw
        case rel => exact ⟨k + 1, by go_num, by omega, by rw [NN.out]; exact RN.out, B9.out⟩
        case measure => simp [intOf]; omega
      · have p2 : (op == 2) = false := by simpa using o2
        rw [if_neg o2] at NN
        clear o2
        go_wp2
        go_roundw
        case rel => exact ⟨k + 1, by go_num, by omega, by rw [NN.out]; exact Row.keep RW.out N5.out, chain BW.out N5.out⟩
        case measure => simp [intOf]; omega
    · have hkl : k = l.length := by omega
      have RL : Hid (Row wr w.heap.size v (colsL l)) := by
        have := RW.out
        rw [hkl, List.take_length] at this
        exact this
      have hx1 : ¬ (k : Int) < (l.length : Int) := by omega
      clear hkl RW
      go_wp2
      go_ret
      exact ⟨_, rfl, RL.out, BW.out⟩
end Go.Proofs.Ytclkcnkjjoolcaa.YcI
