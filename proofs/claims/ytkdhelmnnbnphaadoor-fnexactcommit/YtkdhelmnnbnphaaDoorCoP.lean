/- The record of an offset: on plain data; what a slot must be. -/
import Derived.Test.YtkdhelmnnbnphaaDoorItS
import Derived.Test.YtkdhelmnnbnphaaDoorInQ
import Derived.Test.YtkdhelmnnbnphaaDoorNmQ
namespace Go.Proofs.YtkdhelmnnbnphaaDoor.CoP
set_option maxRecDepth 8000
open Go.RowKit
open Lp (inR inR_true)
open ItS (dec)
open Recs (hsz below1 below2 chain)
set_option linter.unusedVariables false
def okT (tp : ByteArray) (pt : Int) : Bool := Nm.nameOk tp && inR 0 pt 49
def okC (g tp : ByteArray) (pt off tm : Int) : Bool := Nm.nameOk g && (okT tp pt && (inR 0 off 1000000000 && inR 0 tm 1000000000000))
def key (g tp : ByteArray) (pt : Int) : ByteArray := g ++ ⟨#[47]⟩ ++ tp ++ ⟨#[47]⟩ ++ dec pt.toNat
abbrev row (tm : Int) (kd : Bool) (k v : ByteArray) : Array Value := #[.int .i64 tm, .bool kd, .string k, .bool false, .string v, .slice none 0 0]
abbrev zrow : Array Value := row 0 false ⟨#[]⟩ ⟨#[]⟩
def recA (g tp : ByteArray) (pt off tm : Int) : Array Value := if okC g tp pt off tm = true then row tm true (key g tp pt) (dec off.toNat) else zrow
theorem recA_yes {g tp : ByteArray} {pt off tm : Int} (h : okC g tp pt off tm = true) : recA g tp pt off tm = row tm true (key g tp pt) (dec off.toNat) := if_pos h
theorem recA_no {g tp : ByteArray} {pt off tm : Int} (h : okC g tp pt off tm = false) : recA g tp pt off tm = zrow := if_neg (by rw [h]; exact Bool.false_ne_true)
theorem infoRec : (Tryd.prog.info? 27).map (·.size) = some 6 := by kernel_rfl
theorem dec_size (n : Nat) : (dec n).size ≤ n + 1 := by
  have : ∀ q, (Lib.decDigits q).length ≤ q + 1 := by
    intro q
    induction q using Nat.strongRecOn with
    | _ q ih =>
      by_cases h : 9 < q
      · rw [ItS.dig_step h]
        have := ih (q / 10) (by omega)
        simp only [List.length_append, List.length_cons, List.length_nil]
        omega
      · rw [ItS.dig_one (by omega)]
        simp
  have h := this n
  unfold dec
  simpa [ByteArray.size] using h
theorem name_small {s : ByteArray} (h : Nm.nameOk s = true) : s.size ≤ 20 := by
  simp only [Nm.nameOk, Bool.and_eq_true, decide_eq_true_eq] at h
  exact h.1.2
theorem row_whole {w : World} {b : Nat} {cs vs : Array Value} (h : w.heap[b]? = some (.cells cs 27 (0, 0))) (hc : cs.size = vs.size) : (w.setCells b 0 vs.toList).heap[b]? = some (.cells vs 27 (0, 0)) := Cells.whole h hc
theorem twelve {w : World} {b : Nat} (h : w.heap[b]? = some (.cells zrow 27 (0, 0))) : (w.cell? ⟨b, 0, none⟩ = some (.int .i64 0) ∧ w.cell? ⟨b, 1, none⟩ = some (.bool false) ∧ w.cell? ⟨b, 2, none⟩ = some (.string ⟨#[]⟩) ∧ w.cell? ⟨b, 3, none⟩ = some (.bool false) ∧ w.cell? ⟨b, 4, none⟩ = some (.string ⟨#[]⟩) ∧ w.cell? ⟨b, 5, none⟩ = some (.slice none 0 0)) ∧ (w.frozen? ⟨b, 0, none⟩ = false ∧ w.frozen? ⟨b, 1, none⟩ = false ∧ w.frozen? ⟨b, 2, none⟩ = false ∧ w.frozen? ⟨b, 3, none⟩ = false ∧ w.frozen? ⟨b, 4, none⟩ = false ∧ w.frozen? ⟨b, 5, none⟩ = false) :=
  ⟨⟨cell_of_row w b 0 _ _ (0, 0) h, cell_of_row w b 1 _ _ (0, 0) h, cell_of_row w b 2 _ _ (0, 0) h, cell_of_row w b 3 _ _ (0, 0) h, cell_of_row w b 4 _ _ (0, 0) h, cell_of_row w b 5 _ _ (0, 0) h⟩, frozen_of_row w b 0 _ _ h, frozen_of_row w b 1 _ _ h, frozen_of_row w b 2 _ _ h, frozen_of_row w b 3 _ _ h, frozen_of_row w b 4 _ _ h, frozen_of_row w b 5 _ _ h⟩
theorem itoa_int (x : Int) (h0 : 0 ≤ x) (h1 : x ≤ 1000000000) (w : World) : Calls Tryd.prog 20 #[.int .i64 x] w fun e w' => e = .returned (.string (dec x.toNat)) ∧ Below w.heap.size w w' := by
  have := ItS.itoa_any x.toNat w (by omega)
  rw [show ((x.toNat : Nat) : Int) = x by omega] at this
  exact this
set_option maxHeartbeats 1600000 in
theorem slotS_any (tp : ByteArray) (pt : Int) (b : Bool) (hb : okT tp pt = b) (w : World) (hs : tp.size ≤ maxLen) :
    Calls Tryd.prog 18 #[.agg #[.string tp, .int .i64 pt]] w fun e w' => e = .returned (.bool b) ∧ Below w.heap.size w w' := by
  go_enter Tryd.func18, Tryd.ntmps18
  cases h1 : Nm.nameOk tp with
  | false =>
    have Z : Hid (false = b) := by show _ = _; rw [← hb]; simp [okT, h1]
    have KN := Seg.hid h1
    clear h1
    go_wp2_with (go_at_call 17; refine (Nm.spec_q _ _ KN.out _ hs).mono ?_; rintro e w2 ⟨rfl, rfl⟩)
    go_ret
    exact ⟨Seg.ret_bool Z.out, below1 _ _⟩
  | true =>
    have Z : Hid (inR 0 pt 49 = b) := by show _ = _; rw [← hb]; simp [okT, h1]
    have KN := Seg.hid h1
    clear h1
    go_wp2_with (first | (go_at_call 17; refine (Nm.spec_q _ _ KN.out _ hs).mono ?_; rintro e w2 ⟨rfl, rfl⟩) | (go_at_call 19; refine (InB.l1In_b _ _ _ b Z.out _).mono ?_; rintro e w2 ⟨rfl, rfl⟩))
    go_ret
    exact ⟨rfl, below1 _ _⟩
set_option maxHeartbeats 1600000 in
theorem slotI_any (tp : ByteArray) (pt : Int) (b : Bool) (hb : okT tp pt = b) (w : World) (hs : tp.size ≤ maxLen) :
    Calls Tryd.prog 22 #[.agg #[.string tp, .int .i64 pt]] w fun e w' => e = .returned (.bool b) ∧ Below w.heap.size w w' := by
  go_enter Tryd.func22, Tryd.ntmps22
  cases h1 : Nm.nameOk tp with
  | false =>
    have Z : Hid (false = b) := by show _ = _; rw [← hb]; simp [okT, h1]
    have KN := Seg.hid h1
    clear h1
    go_wp2_with (go_at_call 21; refine (Nm.impl_q _ _ KN.out _ hs).mono ?_; rintro e w2 ⟨rfl, rfl⟩)
    go_ret
    exact ⟨Seg.ret_bool Z.out, below1 _ _⟩
  | true =>
    have Z : Hid (inR 0 pt 49 = b) := by show _ = _; rw [← hb]; simp [okT, h1]
    have KN := Seg.hid h1
    clear h1
    go_wp2_with (first | (go_at_call 21; refine (Nm.impl_q _ _ KN.out _ hs).mono ?_; rintro e w2 ⟨rfl, rfl⟩) | (go_at_call 23; refine (InB.within_b _ _ _ b Z.out _).mono ?_; rintro e w2 ⟨rfl, rfl⟩))
    go_ret
    exact ⟨rfl, below1 _ _⟩
end Go.Proofs.YtkdhelmnnbnphaaDoor.CoP
