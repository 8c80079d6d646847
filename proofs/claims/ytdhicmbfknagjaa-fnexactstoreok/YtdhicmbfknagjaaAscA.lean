/- The program's askers over lists of numbers: ascending ones. -/
import Derived.Test.YtdhicmbfknagjaaLsI
import Derived.Test.YtdhicmbfknagjaaInB
namespace Go.Proofs.Ytdhicmbfknagjaa.Asc
set_option maxRecDepth 8000
open Go.RowKit
open Ls
open Recs (hsz below1 below2 chain)
set_option linter.unusedVariables false
def inR (lo x hi : Int) : Bool := decide (lo ≤ x) && decide (x ≤ hi)
def asc (most : Int) : Int → List Int → Bool
  | _, [] => true
  | a, n :: r => inR (a + 1) n most && asc most n r
theorem drop_cons {T : Type} [Inhabited T] {l : List T} {k : Nat} (h : k < l.length) : l.drop k = l.getD k default :: l.drop (k + 1) := by
  rw [List.drop_eq_getElem_cons h]; simp [h]
/-- A list in memory, opened where it has elements. -/
structure Opn {T : Type} [Inhabited T] (nf : Nat) (E : Elt T) (w : World) (S : Nat → Prop) (A : Option Addr) (c : Nat) (us : List T) (g o : Nat) (F : Nat → Nat → Value) : Prop where
  addr : us.length = 0 ∨ (A = some ⟨g, o, none⟩ ∧ us.length ≤ c ∧ g < w.heap.size)
  cells : ∀ i, i < us.length → ∀ j, j < nf → w.cell? ⟨g, o + i * nf + j, none⟩ = some (F i j)
  el : ∀ i, i < us.length → E w S (F i) (us.getD i default)
theorem opn {T : Type} [Inhabited T] {nf : Nat} {E : Elt T} {w : World} {S : Nat → Prop} {v : Value} {us : List T} (h : LAt nf E w S v us) (hS : ∀ g, S g → g < w.heap.size) : ∃ A c g o F, v = .slice A us.length c ∧ Opn nf E w S A c us g o F ∧ us.length ≤ 9223372036854775807 := by
  obtain ⟨hn, A, c, rfl, h⟩ := h
  by_cases hz : us.length = 0
  · exact ⟨A, c, 0, 0, fun _ _ => default, rfl, ⟨.inl hz, fun i hi => absurd hi (by omega), fun i hi => absurd hi (by omega)⟩, hn⟩
  obtain ⟨g, o, F, rfl, hg, hc, hcell, hel⟩ := h.resolve_left hz
  exact ⟨_, c, g, o, F, rfl, ⟨.inr ⟨rfl, hc, hS g hg⟩, hcell, hel⟩, hn⟩
set_option maxHeartbeats 400000 in
theorem asc_core (g o c n : Nat) (ns : List Int) (most : Int) (t : Bool) (w : World) (hn : n ≤ 9223372036854775807) (hc : n ≤ c) (hm : most ≤ 1048576) (hnl : ns.length = n) (ht : asc most (-1) ns = t)
    (ha : ∀ i, i < n → w.cell? ⟨g, o + i, none⟩ = some (.int .i64 (ns.getD i default))) :
    Calls Try.prog 112 #[.slice (some ⟨g, o, none⟩) n c, .int .i64 most] w fun e w' => e = .returned (.bool t) ∧ w = w' := by
  have HA := Seg.hid ha
  have HT := Seg.hid ht
  have HN := Seg.hid hnl
  clear ha ht hnl
  go_enter Try.func112, Try.ntmps112
  go_wp2
  go_loop [5, 10] (fun a i => ∃ (k : Nat) (x : Int), k ≤ n ∧ a = .int .i64 x ∧ i = .int .i64 k ∧ -1 ≤ x ∧ x ≤ 1048576 ∧ Hid (asc most x (ns.drop k) = t)) (fun _ i => n - (intOf i).toNat)
  case atStart => exact ⟨0, -1, Nat.zero_le _, rfl, rfl, by omega, by omega, HT⟩
  case round =>
    obtain ⟨k, x, hk, rfl, rfl, hx0, hx1, HB⟩ := hrel
    by_cases hlt : k < n
    · have c1 := HA.out k hlt
      have h0 : (0 : Int) ≤ (k : Int) := by omega
      have h1 : (k : Int) < (n : Int) := by omega
      have HD := HB.out
      rw [drop_cons (by rw [HN.out]; exact hlt)] at HD
      generalize ns.getD k default = nk at *
      have HD' := Seg.hid HD
      clear HD
      go_wp2_with fail
      cases hb : inR (x + 1) nk most with
      | false =>
        refine (InB.within_b _ _ _ false hb _).mono ?_
        rintro e w1 ⟨rfl, rfl⟩
        go_wp2
        go_ret
        exact ⟨Seg.ret_bool (by have := HD'.out; simp only [asc, hb, Bool.false_and] at this; exact this), rfl⟩
      | true =>
        refine (InB.within_b _ _ _ true hb _).mono ?_
        rintro e w1 ⟨rfl, rfl⟩
        have hy : x + 1 ≤ nk ∧ nk ≤ most := by simpa [inR] using hb
        go_wp2
        go_round
        case rel => exact ⟨k + 1, nk, by omega, rfl, by go_num, by omega, by omega, by have := HD'.out; simp only [asc, hb, Bool.true_and] at this; exact this⟩
        case measure => simp [intOf]; omega
    · have hk' : k = n := by omega
      have HE := HB.out
      rw [List.drop_eq_nil_of_le (by rw [HN.out]; omega)] at HE
      have HE' := Seg.hid HE
      clear HE
      go_wp2
      go_ret
      exact ⟨Seg.ret_bool HE'.out, rfl⟩
theorem asc_none (A : Option Addr) (c : Nat) (most : Int) (w : World) : Calls Try.prog 112 #[.slice A 0 c, .int .i64 most] w fun e w' => e = .returned (.bool true) ∧ w = w' := by
  go_enter Try.func112, Try.ntmps112
  go_wp2
  go_loop [5, 10] (fun a i => a = .int .i64 (-1) ∧ i = .int .i64 0) (fun _ _ => 0)
  case atStart => exact ⟨rfl, rfl⟩
  case round =>
    obtain ⟨rfl, rfl⟩ := hrel
    go_wp2
    go_ret
    exact ⟨rfl, rfl⟩
theorem asc_any (v : Value) (ns : List Int) (most : Int) (t : Bool) (w : World) (S : Nat → Prop) (hv : IntsAt w S v ns) (hm : most ≤ 1048576) (ht : asc most (-1) ns = t) :
    Calls Try.prog 112 #[v, .int .i64 most] w fun e w' => e = .returned (.bool t) ∧ w = w' := by
  obtain ⟨hn, A, c, rfl, h⟩ := hv
  by_cases hz : ns.length = 0
  · obtain rfl := List.length_eq_zero_iff.1 hz
    subst ht
    exact asc_none A c most w
  obtain ⟨g, o, F, rfl, hg, hc, hcell, hel⟩ := h.resolve_left hz
  exact asc_core g o c ns.length ns most t w hn hc hm rfl ht (int_cell hcell hel)
end Go.Proofs.Ytdhicmbfknagjaa.Asc
