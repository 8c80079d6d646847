/- Slots of the model: one ahead of another; one among others. -/
import Derived.Test.YtfdfhhiaalbfiaaWnA
import Derived.Test.YtfdfhhiaalbfiaaInQ
import Derived.Test.YtfdfhhiaalbfiaaNmQ
namespace Go.Proofs.Ytfdfhhiaalbfiaa.WsA
set_option maxRecDepth 8000
open Go.RowKit
open Ls Lp WnP
open TpP (sl aheadO)
open Recs (hsz below1 below2 chain)
set_option linter.unusedVariables false
set_option maxHeartbeats 1600000 in
theorem ahead_any (a b : Slt) (w : World) :
    Calls Try.prog 67 #[.agg #[.string a.topic, .int .i64 a.part], .agg #[.string b.topic, .int .i64 b.part]] w fun e w' => e = .returned (.bool (ahd a b)) ∧ Below w.heap.size w w' := by
  cases h1 : Go.Op.bytesLess a.topic.toList b.topic.toList with
  | true =>
    have Z : Hid (ahd a b = true) := by show _ = _; simp [ahd, sl, h1]
    go_enter Try.func67, Try.ntmps67
    go_wp2
    go_ret
    exact ⟨Seg.ret_bool Z.out.symm, below2 _ _ _⟩
  | false =>
    by_cases h2 : a.topic.toList = b.topic.toList
    · have h3 : (a.topic.toList == b.topic.toList) = true := by simp [h2]
      have Z : Hid (ahd a b = decide (a.part < b.part)) := by show _ = _; unfold ahd sl; rw [h1, decide_eq_true h2]; simp
      clear h2
      go_enter Try.func67, Try.ntmps67
      go_wp2
      go_ret
      exact ⟨Seg.ret_bool Z.out.symm, below2 _ _ _⟩
    · have h3 : (a.topic.toList == b.topic.toList) = false := beq_false_of_ne h2
      have Z : Hid (ahd a b = false) := by show _ = _; simp [ahd, sl, h1, h2]
      go_enter Try.func67, Try.ntmps67
      go_wp2
      go_ret
      exact ⟨Seg.ret_bool Z.out.symm, below2 _ _ _⟩
set_option maxHeartbeats 1600000 in
theorem in_any (A : Option Addr) (c : Nat) (l : List Slt) (s : Slt) (g o : Nat) (F : Nat → Nat → Value) (w : World) (S : Nat → Prop) (hS : ∀ g, S g → g < w.heap.size) (O : Opn 2 ESlt w S A c l g o F) (hn : l.length ≤ 1048576) :
    Calls Try.prog 37 #[.slice A l.length c, .agg #[.string s.topic, .int .i64 s.part]] w fun e w' => e = .returned (.bool (isIn l s)) ∧ Below w.heap.size w w' := by
  have HA := Seg.hid O
  clear O
  go_enter Try.func37, Try.ntmps37
  go_wp2_with fail
  have S0 : Hid ((w.alloc (.cells #[.string s.topic, .int .i64 s.part] 73 (0, 0))).heap[w.heap.size]? = some (.cells #[.string s.topic, .int .i64 s.part] 73 (0, 0))) := heap_alloc_new _ _
  go_loopw [5] (fun i wr => ∃ (k : Nat), k ≤ l.length ∧ i = .int .i64 k ∧ Hid (isIn (l.drop k) s = isIn l s ∧ wr.heap[w.heap.size]? = some (.cells #[.string s.topic, .int .i64 s.part] 73 (0, 0)) ∧ Below w.heap.size w wr)) (fun i _ => l.length - (intOf i).toNat)
  case atStart => exact ⟨0, Nat.zero_le _, rfl, rfl, S0.out, below1 _ _⟩
  case round =>
    clear S0
    obtain ⟨k, hk, rfl, HR⟩ := hrel
    by_cases hlt : k < l.length
    · obtain ⟨ea, hc, hga⟩ := HA.out.addr.resolve_left (by omega)
      have OL := HA.out.later keepsSlt hS HR.out.2.2
      obtain ⟨e0, e1⟩ := slt_cells (i := k) (fun j hj => OL.cells k hlt j hj) (OL.el k hlt)
      have p0 : wr.cell? ⟨w.heap.size, 0, none⟩ = some (.string s.topic) := cell_of_row wr _ 0 _ _ (0, 0) HR.out.2.1
      have p1 : wr.cell? ⟨w.heap.size, 1, none⟩ = some (.int .i64 s.part) := cell_of_row wr _ 1 _ _ (0, 0) HR.out.2.1
      have h0 : (0 : Int) ≤ (k : Int) := by omega
      have h1 : (k : Int) < (l.length : Int) := by omega
      have hgr : g < wr.heap.size := Nat.lt_of_lt_of_le hga HR.out.2.2.size
      have hwr : w.heap.size < wr.heap.size := (Array.getElem?_eq_some_iff.1 HR.out.2.1).1
      have HD := HR.out.1
      rw [drop_cons hlt] at HD
      have HD' := Seg.hid HD
      clear OL HD
      generalize l.getD k default = r at *
      subst ea
      have ISO : Hid (isIn (r :: l.drop (k + 1)) s = (sameS r s || isIn (l.drop (k + 1)) s)) := rfl
      by_cases q1 : r.topic.toList = s.topic.toList
      · have q2 : (r.topic.toList == s.topic.toList) = true := by simp [q1]
        by_cases q3 : r.part = s.part
        · have q4 : (r.part == s.part) = true := by simp [q3]
          have Z : Hid (isIn l s = true) := by show _ = _; rw [← HD'.out, ISO.out]; simp [sameS, q1, q3]
          clear q1 q3
          go_wp2_with fail
          go_quiet (fail)
          go_wp2
          go_ret
          exact ⟨Seg.ret_bool Z.out.symm, chain HR.out.2.2 ((Qt.refl _).drewN _ |>.bel _)⟩
        · have q4 : (r.part == s.part) = false := by simp [q3]
          have Z : Hid (isIn (l.drop (k + 1)) s = isIn l s) := by show _ = _; rw [← HD'.out, ISO.out]; simp [sameS, q3]
          clear q1
          go_wp2_with fail
          go_quiet (fail)
          go_wp2
          go_roundw
          case rel => exact ⟨k + 1, by omega, by go_num, Z.out, HR.out.2.1, chain HR.out.2.2 ((Qt.refl _).drewN _ |>.bel _)⟩
          case measure => simp [intOf]; omega
      · have q2 : (r.topic.toList == s.topic.toList) = false := beq_false_of_ne q1
        have Z : Hid (isIn (l.drop (k + 1)) s = isIn l s) := by show _ = _; rw [← HD'.out, ISO.out]; simp [sameS, q1]
        go_wp2_with fail
        go_quiet (fail)
        go_wp2
        go_roundw
        case rel => exact ⟨k + 1, by omega, by go_num, Z.out, HR.out.2.1, chain HR.out.2.2 ((Qt.refl _).drewN _ |>.bel _)⟩
        case measure => simp [intOf]; omega
    · have HE := HR.out.1
      rw [List.drop_eq_nil_of_le (by omega)] at HE
      have HE' := Seg.hid HE
      clear HE
      go_wp2
      go_ret
      exact ⟨Seg.ret_bool HE'.out, HR.out.2.2⟩
end Go.Proofs.Ytfdfhhiaalbfiaa.WsA
