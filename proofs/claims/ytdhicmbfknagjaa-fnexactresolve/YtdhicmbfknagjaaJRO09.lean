/- Item: the law's copiers answer memory of their own; Plain helpers for lists in memory: a number between two, a list opened where it has elements, a world that has only drawn. -/
import Derived.Test.YtdhicmbfknagjaaJRO08
import Derived.Test.YtdhicmbfknagjaaJRO06
import Derived.Test.YtdhicmbfknagjaaJRO03
namespace Go.Proofs.Ytdhicmbfknagjaa.Ow
set_option maxRecDepth 8000
open Go.RowKit
open Recs
open Ls
set_option linter.unusedVariables false
def ItmOwn (w : World) (S : Nat → Prop) (v : Value) (u : Itm) : Prop := ∃ f, v = .agg (arrItm f) ∧ EOItm w S f u
set_option maxHeartbeats 1600000 in
theorem toItem_own (v : Value) (u : Itm) (w : World) (S : Nat → Prop) (hv : ItmAt w S v u) (hS : ∀ g, S g → g < w.heap.size) (hf : szItm u ≤ 1048576) :
    Calls Try.prog 123 #[v] w fun e w' => ∃ v', e = .returned v' ∧ ItmOwn w' (seg w.heap.size w'.heap.size) v' u ∧ Below w.heap.size w w' := by
  exact (toItem_any v u w S hv hS hf).mono fun e w' ⟨v', h1, h2, h3⟩ => ⟨v', h1, h2, h3⟩
set_option maxHeartbeats 800000 in
theorem toItemS_ocore (g o n c : Nat) (us : List Itm) (F0 : Nat → Nat → Value) (w : World) (S : Nat → Prop) (hn : n ≤ 1048576) (hc : n ≤ c) (hg : g < w.heap.size) (hS : ∀ g, S g → g < w.heap.size)
    (hf : ∀ i, i < n → szItm (us.getD i default) ≤ 1048576) (he : ∀ i, i < n → EItm w S (F0 i) (us.getD i default))
    (ha : ∀ i, i < n → ∀ j, j < 2 → w.cell? ⟨g, o + i * 2 + j, none⟩ = some (F0 i j)) :
    Calls Try.prog 95 #[.slice (some ⟨g, o, none⟩) n c] w fun e w' => ∃ F P, e = .returned (.slice (some ⟨w.heap.size, 0, none⟩) n n) ∧ LPart 99 2 EOItm w w' us n n F P := by
  obtain ⟨i0, hi, hz0, hz1, hz2⟩ := info_parts infoZItm
  have HA := Seg.hid ha; have HK := Seg.hid hf; have HH := Seg.hid he
  clear ha hf he
  go_enter Try.func95, Try.ntmps95
  go_wp2_with (at_make; refine wpList_make_full _ rfl _ _ 82 rfl w.heap.size 99 i0 _ 2 Try.underlying82 hi hz0 hz1 .i64 .i64 _ _ n rfl rfl rfl rfl (by rw [hz2]; omega) (by unfold maxLen; omega) (Nat.le_refl _) ?_; intro w1 hown hgr)
  have hb1 := (Below.refl w.heap.size w).grown hgr (Nat.le_refl _) (fun k hk => by cases hk)
  have HM := Seg.hid (Mine.of_made hown hown.1)
  have HB := Seg.hid hb1
  clear hown hgr hb1 hi hz0 hz1 hz2
  go_loopw [4] (fun i wr => ∃ (j : Nat) (F : Nat → Value) (P : Nat → Nat → Prop), j ≤ n ∧ i = .int .i64 j ∧ LPart 99 2 EOItm w wr us n j F P) (fun i _ => n - (intOf i).toNat)
  case atStart => exact ⟨0, _, fun _ _ => False, Nat.zero_le _, rfl, HM.out, HB.out, fun i hi => absurd hi (by omega), fun i hi => absurd hi (by omega), fun i k hi => absurd hi (by omega)⟩
  case round =>
    clear HM HB
    obtain ⟨j, F, P, hj, rfl, HR⟩ := hrel
    by_cases hlt : j < n
    · have CL := cells_later HA.out HR.bel hg
      have c0 : wr.cell? ⟨g, o + j * 2, none⟩ = some (F0 j 0) := CL j ‹j < n› 0 (by omega)
      have c1 : wr.cell? ⟨g, o + j * 2 + 1, none⟩ = some (F0 j 1) := CL j ‹j < n› 1 (by omega)
      clear CL
      have RA : Hid (ItmAt wr S (.agg (arrItm (F0 j))) (us.getD j default)) := ⟨_, rfl, keepsItm _ _ _ _ _ _ (HH.out j hlt) (fun g hg => HR.bel.block g (hS g hg)) (fun _ _ => rfl)⟩
      have FW := Seg.hid (HK.out j hlt)
      have hbr : Hid (∀ g, S g → g < wr.heap.size) := fun g hg => Nat.lt_of_lt_of_le (hS g hg) HR.bel.size
      have ST := Seg.hid (fun w1 vs hv b1 he => LPart.step keepsOItm (w1 := w1) HR vs hv b1 he)
      have HM := Seg.hid HR.mine
      have h0 : (0 : Int) ≤ (j : Int) := by omega
      have h1 : (j : Int) < (n : Int) := by omega
      clear HR
      generalize us.getD j default = uj at *
      go_wp2_with fail
      refine (toItem_own _ uj wr S RA.out hbr.out FW.out).mono ?_
      rintro e w1 ⟨v1, rfl, ⟨f1, rfl, he1⟩, b1⟩
      have S1 := Seg.hid (ST.out w1 (arrItm f1).toList rfl b1 (keepsOItm _ _ _ _ _ _ he1 (Nat.le_refl _) (fun _ _ => rfl) (fun q hq => by
        match q, hq with
        | 0, _ => rfl
        | 1, _ => rfl
        )))
      have M1 : Hid (w1.there w.heap.size (j * 2) (arrItm f1).size) := Own.mine_there (o := j * 2) (m := 2) (HM.out.below b1 HM.out.lt) (by omega)
      have ON := Seg.hid (oneItm (atOItm _ _ _ _ he1))
      clear b1 he1
      go_wp2_with (refine wpList_store_mid rfl 99 _ _ rfl w.heap.size (j * 2) (arrItm f1) rfl rfl ?ht infoItm ON.out ?_; case ht => exact M1.out)
      go_roundw
      case rel => exact ⟨j + 1, _, _, by omega, by go_num, S1.out⟩
      case measure => simp [intOf]; omega
    · have : j = n := by omega
      subst this
      go_wp2
      go_ret
      exact ⟨F, P, rfl, HR⟩
theorem toItemS_own (v : Value) (us : List Itm) (w : World) (S : Nat → Prop) (hv : LAt 2 EItm w S v us) (hS : ∀ g, S g → g < w.heap.size) (hf : szL szItm us ≤ 1048576) :
    Calls Try.prog 95 #[v] w fun e w' => ∃ v', e = .returned v' ∧ ItmsOwn w' (seg w.heap.size w'.heap.size) v' us ∧ Below w.heap.size w w' := by
  obtain ⟨hn, A, c, rfl, h⟩ := hv
  by_cases hz : us.length = 0
  · obtain rfl := List.length_eq_zero_iff.1 hz
    refine (toItemS_none A c w).mono fun e w' ⟨v', a1, ⟨A', c', a2⟩, a3⟩ => ⟨v', a1, ?_, a3⟩
    rw [a2]
    exact LOwn.nil _ _ _ _
  obtain ⟨g, o, F, rfl, hg, hc, hcell, hel⟩ := h.resolve_left hz
  exact (toItemS_ocore g o us.length c us F w S (szL_len _ hf) hc (hS g hg) hS (fun i hi => szL_one _ hf hi) hel hcell).mono fun e w' ⟨F, P, a1, a2⟩ => ⟨_, a1, a2.own (szL_len _ hf), a2.bel⟩
end Go.Proofs.Ytdhicmbfknagjaa.Ow
namespace Go.Proofs.Ytdhicmbfknagjaa.Lp
set_option maxRecDepth 8000
open Go.RowKit
open Ls
open Recs (hsz below1 below2 chain)
set_option linter.unusedVariables false
def inR (lo x hi : Int) : Bool := decide (lo ≤ x) && decide (x ≤ hi)
theorem inR_true {lo x hi : Int} (h : inR lo x hi = true) : lo ≤ x ∧ x ≤ hi := by simpa [inR] using h
theorem drop_cons {T : Type} [Inhabited T] {l : List T} {k : Nat} (h : k < l.length) : l.drop k = l.getD k default :: l.drop (k + 1) := by
  rw [List.drop_eq_getElem_cons h]; simp [h]
/-- A list in memory, opened where it has elements. -/
structure Opn {T : Type} [Inhabited T] (nf : Nat) (E : Elt T) (w : World) (S : Nat → Prop) (A : Option Addr) (c : Nat) (us : List T) (g o : Nat) (F : Nat → Nat → Value) : Prop where
  addr : us.length = 0 ∨ (A = some ⟨g, o, none⟩ ∧ us.length ≤ c ∧ g < w.heap.size)
  cells : ∀ i, i < us.length → ∀ j, j < nf → w.cell? ⟨g, o + i * nf + j, none⟩ = some (F i j)
  el : ∀ i, i < us.length → E w S (F i) (us.getD i default)
theorem opn {T : Type} [Inhabited T] {nf : Nat} {E : Elt T} {w : World} {S : Nat → Prop} {v : Value} {us : List T} (h : LAt nf E w S v us) (hS : ∀ g, S g → g < w.heap.size) : ∃ A c g o F, v = .slice A us.length c ∧ Opn nf E w S A c us g o F ∧ us.length ≤ 9223372036854775807 := by
  obtain ⟨hn, A, c, rfl, h⟩ := h
  by_cases hz : us.length = 0
  · exact ⟨A, c, 0, 0, fun _ _ => default, rfl, ⟨.inl hz, fun i hi => absurd hi (by omega), fun i hi => absurd hi (by omega)⟩, hn⟩
  obtain ⟨g, o, F, rfl, hg, hc, hcell, hel⟩ := h.resolve_left hz
  exact ⟨_, c, g, o, F, rfl, ⟨.inr ⟨rfl, hc, hS g hg⟩, hcell, hel⟩, hn⟩
theorem Opn.later {T : Type} [Inhabited T] {nf : Nat} {E : Elt T} (hK : Keeps nf E) {w w' : World} {S : Nat → Prop} {A : Option Addr} {c : Nat} {us : List T} {g o : Nat} {F : Nat → Nat → Value} (h : Opn nf E w S A c us g o F) (hS : ∀ g, S g → g < w.heap.size) (hb : Below w.heap.size w w') : Opn nf E w' S A c us g o F := by
  refine ⟨h.addr.imp id (fun ⟨a, b, c⟩ => ⟨a, b, Nat.lt_of_lt_of_le c hb.size⟩), fun i hi j hj => ?_, fun i hi => hK _ _ _ _ _ _ (h.el i hi) (fun g hg => hb.block g (hS g hg)) (fun _ _ => rfl)⟩
  have hg : g < w.heap.size := by
    rcases h.addr with h0 | h0
    · omega
    · exact h0.2.2
  rw [hb.cell (p := ⟨g, o + i * nf + j, none⟩) hg]
  exact h.cells i hi j hj
/-- A world that has only drawn since. -/
structure Qt (a b : World) : Prop where
  heap : b.heap = a.heap
  os : b.os = a.os
  tape : b.tape = a.tape
  output : b.output = a.output
theorem Qt.refl (a : World) : Qt a a := ⟨rfl, rfl, rfl, rfl⟩
theorem Qt.drewN {a b : World} (h : Qt a b) (n : Nat) : Qt a (b.drewN n) := ⟨h.heap, h.os, h.tape, h.output⟩
theorem Qt.drew {a b : World} (h : Qt a b) : Qt a b.drew := ⟨h.heap, h.os, h.tape, h.output⟩
theorem Qt.cell {a b : World} (h : Qt a b) (p : Addr) : b.cell? p = a.cell? p := World.cell?_of_block (w := a) (a := p) (by rw [h.heap])
theorem Qt.bel {a b : World} (h : Qt a b) (B : Nat) : Below B a b := ⟨h.os, h.tape, h.output, by rw [h.heap]; exact Nat.le_refl _, fun k _ => by rw [h.heap]⟩
end Go.Proofs.Ytdhicmbfknagjaa.Lp
