/- A log cut at its end, on plain data; The beginning of a list of the call's own. -/
import Derived.Test.YticihnoekffelaaJC28
import Derived.Test.YticihnoekffelaaJC08
namespace Go.Proofs.Yticihnoekffelaa.CtP
set_option maxRecDepth 8000
open Recs SegW LogW SrP
open LgP (bats segs logOk inR)
set_option linter.unusedVariables false
def cutB (x : Int) (b : Bat) : Bat := if x < bEnd b then ⟨b.base, b.epoch, b.producer, b.turn, b.seq, b.flags, b.recs.take (x - b.base).toNat⟩ else b
def cutBs (x : Int) : List Bat → List Bat
  | [] => []
  | b :: t => if b.base < x then cutB x b :: cutBs x t else cutBs x t
def one (x : Int) (s : Sg) : List Sg := if (cutBs x s.bats).length = 0 then [] else [⟨s.base, cutBs x s.bats⟩]
def cutSs (x : Int) : List Sg → List Sg
  | [] => []
  | s :: t => one x s ++ cutSs x t
def cutT (l : Lg) (x : Int) : Lg × Bool := if (logOk l && inR x l.start l.next) = true then (⟨l.start, x, l.roll, cutSs x l.segs⟩, true) else (⟨0, 0, 0, []⟩, false)
theorem cutBs_none (x : Int) : ∀ (bs : List Bat), (∀ i, i < bs.length → x ≤ (bs.getD i default).base) → cutBs x bs = []
  | [], _ => rfl
  | b :: t, h => by
    have h0 := h 0 (by simp)
    simp only [List.getD_cons_zero] at h0
    unfold cutBs
    rw [if_neg (by omega)]
    exact cutBs_none x t (fun i hi => by have := h (i + 1) (by simpa using hi); simpa using this)
theorem cutBs_all (x : Int) : ∀ (bs : List Bat), (∀ i, i < bs.length → bEnd (bs.getD i default) ≤ x ∧ (bs.getD i default).base < x) → cutBs x bs = bs
  | [], _ => rfl
  | b :: t, h => by
    have h0 := h 0 (by simp)
    simp only [List.getD_cons_zero] at h0
    unfold cutBs cutB
    rw [if_pos h0.2, if_neg (by omega), cutBs_all x t (fun i hi => by have := h (i + 1) (by simpa using hi); simpa using this)]
theorem end_gt {b : Bat} (h : BOk.batOk b = true) : b.base < bEnd b := by
  have := LgP.okLen h
  unfold bEnd
  omega
theorem cutBs_found (x : Int) : ∀ (bs : List Bat) (f e f' e' : Int), bats f e bs = some (f', e') → ∀ r, Fnd (fun i => pB x (bs.getD i default)) bs.length r → cutBs x bs = bs.take r ++ (if r < bs.length ∧ (bs.getD r default).base < x then [cutB x (bs.getD r default)] else [])
  | [], _, _, _, _, _, r, h => by simp [cutBs]
  | b :: t, f, e, f', e', hb, r, h => by
    have hall := bats_ok _ _ _ _ _ hb
    have hge := hb
    unfold bats at hge
    split at hge
    · rename_i hc
      match r with
      | 0 =>
        have h0 := h.yes (by simp)
        simp only [List.getD_cons_zero, pB, decide_eq_true_eq] at h0
        have hn : cutBs x t = [] := cutBs_none x t (fun i hi => by
          have := bats_ge _ _ _ _ _ hge i hi
          unfold bEnd at h0
          omega)
        unfold cutBs
        rw [hn]
        simp only [List.take_zero, List.nil_append, List.getD_cons_zero, List.length_cons]
        by_cases hx : b.base < x
        · rw [if_pos hx, if_pos ⟨by omega, hx⟩]
        · rw [if_neg hx, if_neg (by omega)]
      | r + 1 =>
        have h0 := h.no 0 (by omega)
        simp only [List.getD_cons_zero, pB, decide_eq_false_iff_not] at h0
        have he := end_gt hc.1
        have ih := cutBs_found x t _ _ _ _ hge r ⟨by have := h.le; simp at this; exact this, fun i hi => by have := h.no (i + 1) (by omega); simpa using this, fun hi => by have := h.yes (by simpa using hi); simpa using this⟩
        have hcb : cutB x b = b := if_neg h0
        unfold cutBs
        rw [if_pos (by omega), hcb, ih]
        simp only [List.take_succ_cons, List.cons_append, List.getD_cons_succ, List.length_cons, Nat.add_lt_add_iff_right]
    · cases hge
theorem cutSs_none (x : Int) : ∀ (ss : List Sg) (f e f' : Int), segs f e ss = some f' → x ≤ f → cutSs x ss = []
  | [], _, _, _, _, _ => rfl
  | s :: t, f, e, f', h, hx => by
    obtain ⟨h1, h2, f1, e1, h3, h4⟩ := segs_head h
    have hle := LgP.bats_le _ _ _ _ _ h3
    have hn : cutBs x s.bats = [] := cutBs_none x _ (fun i hi => by have := bats_ge _ _ _ _ _ h3 i hi; omega)
    unfold cutSs one
    rw [hn, cutSs_none x t _ _ _ h4 (by omega)]
    rfl
theorem cutSs_found (x : Int) : ∀ (ss : List Sg) (f e f' : Int), segs f e ss = some f' → ∀ r, Fnd (fun i => pS x (ss.getD i default)) ss.length r → cutSs x ss = ss.take r ++ (if r < ss.length then one x (ss.getD r default) else [])
  | [], _, _, _, _, r, h => by simp [cutSs]
  | s :: t, f, e, f', hs, r, h => by
    obtain ⟨h1, h2, f1, e1, h3, h4⟩ := segs_head hs
    match r with
    | 0 =>
      have h0 := h.yes (by simp)
      simp only [List.getD_cons_zero, pS, Bool.or_eq_true, decide_eq_true_eq] at h0
      have hn : cutSs x t = [] := by
        by_cases hz : s.bats.length = 0
        · have := h2 hz
          rw [List.length_eq_zero_iff.1 this]
          rfl
        · have he := bats_end _ _ _ _ _ h3 hz
          refine cutSs_none x t _ _ _ h4 ?_
          have h0' := h0.resolve_left hz
          unfold sEnd at h0'
          omega
      unfold cutSs
      rw [hn]
      simp
    | r + 1 =>
      have h0 := h.no 0 (by omega)
      simp only [List.getD_cons_zero, pS, Bool.or_eq_false_iff, decide_eq_false_iff_not] at h0
      have hall : cutBs x s.bats = s.bats := cutBs_all x _ (fun i hi => by
        have a1 := bats_mono _ _ _ _ _ h3 i (s.bats.length - 1) (by omega) (by omega)
        have a2 := end_gt (bats_ok _ _ _ _ _ h3 i hi)
        have a3 := h0.2
        unfold sEnd at a3
        exact ⟨by omega, by omega⟩)
      have ih := cutSs_found x t _ _ _ h4 r ⟨by have := h.le; simp at this; exact this, fun i hi => by have := h.no (i + 1) (by omega); simpa using this, fun hi => by have := h.yes (by simpa using hi); simpa using this⟩
      have hone : one x s = [s] := by
        unfold one
        rw [hall, if_neg h0.1]
      unfold cutSs
      rw [hone, ih]
      simp only [List.take_succ_cons, List.cons_append, List.nil_append, List.getD_cons_succ, List.length_cons, Nat.add_lt_add_iff_right]
end Go.Proofs.Yticihnoekffelaa.CtP
namespace Go.Proofs.Yticihnoekffelaa.Ft
set_option maxRecDepth 8000
open Go.RowKit
open Recs
open ToO (MineC)
set_option linter.unusedVariables false
theorem mine_take {w : World} {ty nf g n c k : Nat} {F : Nat → Value} (h : MineC w ty nf g n c F) (hk : k ≤ n) : MineC w ty nf g k c F := by
  refine ⟨by simp, ?_⟩
  rcases h.2 with ⟨h', _⟩ | ⟨g', cap', cur, h', hb, hg, hnc, hcm, hcs, htake⟩
  · simp at h'
  · simp only [Value.slice.injEq, Option.some.injEq, Addr.mk.injEq, and_true, true_and] at h'
    obtain ⟨rfl, rfl⟩ := h'
    have hkn : k * nf ≤ n * nf := Nat.mul_le_mul_right nf hk
    refine .inr ⟨g, c, cur, rfl, hb, hg, by omega, hcm, hcs, ?_⟩
    have : cur.toList.take (k * nf) = (cur.toList.take (n * nf)).take (k * nf) := by rw [List.take_take, Nat.min_eq_left hkn]
    rw [this, htake, ← List.map_take, List.take_range, Nat.min_eq_left hkn]
theorem LOwn.take {T : Type} [Inhabited T] {ty nf : Nat} {EO : World → (Nat → Prop) → (Nat → Value) → T → Prop} {w : World} {S : Nat → Prop} {A : Option Addr} {c k : Nat} {us : List T} (h : LOwn ty nf EO w S (.slice A us.length c) us) (hk : k ≤ us.length) : LOwn ty nf EO w S (.slice A k c) (us.take k) := by
  obtain ⟨h0, A', c', h1, h2⟩ := h
  simp only [Value.slice.injEq] at h1
  obtain ⟨rfl, _, rfl⟩ := h1
  have hl : (us.take k).length = k := by rw [List.length_take]; omega
  refine ⟨by rw [hl]; omega, A, c, by rw [hl], ?_⟩
  rw [hl]
  by_cases hz : k = 0
  · exact .inl hz
  obtain ⟨g, F, P, h3, h4, h5, h6⟩ := h2.resolve_left (by omega)
  refine .inr ⟨g, F, P, h3, h4, fun i hi => h5 i (by omega), mine_take h6.mine hk, hl, fun i hi => ?_, fun i hi => h6.apart i (by omega), fun i j hi hj => h6.disj i j (by omega) (by omega)⟩
  rw [List.getD_eq_getElem?_getD, List.getElem?_take_of_lt hi, ← List.getD_eq_getElem?_getD]
  exact h6.el i (by omega)
end Go.Proofs.Yticihnoekffelaa.Ft
