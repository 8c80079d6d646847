/- The program's expander: its two kinds of piece. -/
import Derived.Test.YtbilpicolfpoaaaRows
import Derived.Test.YtbilpicolfpoaaaSeg
import Derived.RegionTactic
import Derived.Maps.AppendAt
import Derived.Outline
import Derived.Deep.RegionLaw
import Derived.Deep.AppendLies
import Derived.Deep.QuietTactic
import Derived.BigQuiet
import Derived.WalkSmall
namespace Go.Proofs.Ytbilpicolfpoaaa.Expd
open Go.RowKit
open Seg (B)
set_option linter.unusedVariables false
theorem infoB : (Try.prog.info? 5).map (fun i => (i.zero, i.size, i.bytes)) = some (some (.int .u8 0), 1, 1) := by kernel_rfl

set_option maxRecDepth 4000 in
set_option maxHeartbeats 800000 in
theorem plain_short (E m cp k cap : Nat) (A V : Option Addr) (cnt : Nat) (most : Int) (w : World) (hm : m ≤ 140737488355328) (hcnt : cnt ≤ 200)
    (c0 : w.cell? ⟨E, 0, none⟩ = some (.slice A m cp)) (hs : m < 1 + cnt) :
    Calls Try.prog 22 #[.pointer (some ⟨E, 0, none⟩), .int .i64 cnt] w fun e w' => e = .returned (.bool false) ∧ ∃ n, w' = w.drewN n := by
  have hd : decide ((m : Int) < 1 + (cnt : Int)) = true := decide_eq_true (by omega)
  go_enter Try.func22, Try.ntmps22
  go_wp2
  go_quiet (fail)
  go_wp2
  go_ret
  exact ⟨rfl, _, rfl⟩

set_option maxRecDepth 4000 in
set_option maxHeartbeats 800000 in
theorem plain_full (E m cp k cap : Nat) (A V : Option Addr) (cnt : Nat) (most : Int) (w : World) (hm : m ≤ 140737488355328) (hcnt : cnt ≤ 200) (hk : k ≤ 60000)
    (c0 : w.cell? ⟨E, 0, none⟩ = some (.slice A m cp)) (c1 : w.cell? ⟨E, 1, none⟩ = some (.slice V k cap)) (c2 : w.cell? ⟨E, 2, none⟩ = some (.int .i64 most)) (hs : 1 + cnt ≤ m) (hf : most < k + cnt) :
    Calls Try.prog 22 #[.pointer (some ⟨E, 0, none⟩), .int .i64 cnt] w fun e w' => e = .returned (.bool false) ∧ ∃ n, w' = w.drewN n := by
  have hd : decide ((m : Int) < 1 + (cnt : Int)) = false := decide_eq_false (by omega)
  go_enter Try.func22, Try.ntmps22
  go_wp2
  go_quiet (fail)
  go_wp2
  go_ret
  exact ⟨rfl, _, rfl⟩

/-- The expander behind a piece. -/
structure Done (w w' : World) (E gb i m k base : Nat) (most : Int) (out : List Int) : Prop where
  ps : ∃ A c, w'.cell? ⟨E, 0, none⟩ = some (.slice A m c) ∧ (0 < m → A = some ⟨gb, i, none⟩ ∧ m ≤ c)
  ou : ∃ g cap, w'.cell? ⟨E, 1, none⟩ = some (.slice (some ⟨g, 0, none⟩) k cap) ∧ w'.ownsRow base 5 1 (.slice (some ⟨g, 0, none⟩) k cap) k (B out) ∧ g ≠ E
  mo : w'.cell? ⟨E, 2, none⟩ = some (.int .i64 most)
  f0 : w'.frozen? ⟨E, 0, none⟩ = false
  f1 : w'.frozen? ⟨E, 1, none⟩ = false
  bl : Below base w w'
theorem Done.drew {w w' : World} {E gb i m k base : Nat} {most : Int} {out : List Int} (h : Done w w' E gb i m k base most out) : Done w w'.drew E gb i m k base most out := ⟨h.ps, h.ou, h.mo, h.f0, h.f1, h.bl.drew⟩
theorem Draw_grown (w : World) (b j : Nat) (v : Value) : w.grownBy (w.setCell ⟨b, j, none⟩ v) (some b) :=
  ⟨rfl, rfl, rfl, by simp, fun k _ hk => heap_setCell_other w ⟨b, j, none⟩ k v (fun e => hk (by simp [e]))⟩
theorem done_of {w w1 : World} {E gb i m k base g cap : Nat} {most : Int} {out : List Int} (A : Option Addr) (c : Nat) (x0 x1 : Value) (q0 : w1.cell? ⟨E, 0, none⟩ = some x0) (q1 : w1.cell? ⟨E, 1, none⟩ = some x1) (q2 : w1.cell? ⟨E, 2, none⟩ = some (.int .i64 most))
    (p0 : w1.frozen? ⟨E, 0, none⟩ = false) (p1 : w1.frozen? ⟨E, 1, none⟩ = false) (ho : w1.ownsRow base 5 1 (.slice (some ⟨g, 0, none⟩) k cap) k (B out)) (hgE : g ≠ E) (hb : Below base w w1) (hE : base ≤ E)
    (hA : 0 < m → A = some ⟨gb, i, none⟩ ∧ m ≤ c) : Done w ((w1.setCell ⟨E, 1, none⟩ (.slice (some ⟨g, 0, none⟩) k cap)).setCell ⟨E, 0, none⟩ (.slice A m c)) E gb i m k base most out := by
  have o1 := ho.kept (Draw_grown w1 E 1 (.slice (some ⟨g, 0, none⟩) k cap)) (.inr (by simp [Value.ownBlock]; exact hgE))
  have o2 := o1.kept (Draw_grown _ E 0 (.slice A m c)) (.inr (by simp [Value.ownBlock]; exact hgE))
  refine ⟨⟨A, c, ?_, hA⟩, ⟨g, cap, ?_, o2, hgE⟩, ?_, ?_, ?_, (hb.setCell hE _).setCell hE _⟩
  · exact World.cell?_setCell_same _ _ _ (by rw [World.cell?_setCell_other _ _ _ _ (by simp)]; exact q0)
  · rw [World.cell?_setCell_other _ _ _ _ (by simp)]
    exact World.cell?_setCell_same _ _ _ q1
  · rw [World.cell?_setCell_other _ _ _ _ (by simp), World.cell?_setCell_other _ _ _ _ (by simp)]; exact q2
  · rw [World.frozen?_setCell, World.frozen?_setCell]; exact p0
  · rw [World.frozen?_setCell, World.frozen?_setCell]; exact p1

set_option maxRecDepth 100000 in
set_option maxHeartbeats 3200000 in
theorem plain_ok (E gb i m cp k cap g base : Nat) (cnt : Nat) (most : Int) (f : Nat → Int) (out : List Int) (w : World) (hm : m ≤ 140737488355328) (hcnt : cnt ≤ 200) (hc1 : 1 ≤ cnt) (hk : k ≤ 60000) (hmc : m ≤ cp)
    (c0 : w.cell? ⟨E, 0, none⟩ = some (.slice (some ⟨gb, i, none⟩) m cp)) (c1 : w.cell? ⟨E, 1, none⟩ = some (.slice (some ⟨g, 0, none⟩) k cap)) (c2 : w.cell? ⟨E, 2, none⟩ = some (.int .i64 most))
    (f0 : w.frozen? ⟨E, 0, none⟩ = false) (f1 : w.frozen? ⟨E, 1, none⟩ = false) (hlen : out.length = k)
    (ho : w.ownsRow base 5 1 (.slice (some ⟨g, 0, none⟩) k cap) k (B out)) (hge : g ≠ E) (hbE : base ≤ E) (hgb : gb < base)
    (hcell : ∀ j, j < m → w.cell? ⟨gb, i + j, none⟩ = some (.int .u8 (f j))) (hs : 1 + cnt ≤ m) (hf : k + cnt ≤ most) (hmost : most ≤ 60000) :
    Calls Try.prog 22 #[.pointer (some ⟨E, 0, none⟩), .int .i64 cnt] w fun e w' => e = .returned (.bool true) ∧ Done w w' E gb (i + (1 + cnt)) (m - (1 + cnt)) (k + cnt) base most (out ++ (List.range cnt).map fun j => f (1 + j)) := by
  obtain ⟨i0, hi, hz0, hz1, hz2⟩ := info_parts infoB
  have hd : decide ((m : Int) < 1 + (cnt : Int)) = false := decide_eq_false (by omega)
  have HO := Seg.hid ho
  have HC := Seg.hid hcell
  have hoc := Seg.owns_cap ho
  have hEl : E < w.heap.size := World.block_lt_of_cell? w _ c0
  have HEG : Hid (some E ≠ (Value.slice (some ⟨g, 0, none⟩) k cap).ownBlock) := (by show _ ≠ _; simp [Value.ownBlock]; omega)
  have HS : ∀ d : Nat, Hid (∀ j u, (B ((List.range cnt).map fun j => f (1 + j)))[j]? = some u → (w.drewN d).cell? ((⟨gb, i + 1, none⟩ : Addr).add j) = some u) := fun d j u hj => by
    have hjl : j < cnt := by
      have := (List.getElem?_eq_some_iff.1 hj).1
      simpa [B] using this
    have e : (⟨gb, i + 1, none⟩ : Addr).add j = ⟨gb, i + (1 + j), none⟩ := by
      unfold Addr.add
      split
      · simp_all
      · simp; omega
    rw [e, World.cell?_drewN, hcell (1 + j) (by omega)]
    simpa [B, hjl] using hj
  have hcp : ¬ cp = 1 := by omega
  have hcz : ¬ cnt = 0 := by omega
  have hmi : (1 : Int) ≤ (m : Int) := by omega
  have hsi : (1 : Int) + (cnt : Int) ≤ (m : Int) := by omega
  have hsc : (1 : Int) + (cnt : Int) ≤ (cp : Int) := by omega
  by_cases hcc : cp = 1 + cnt
  · obtain rfl : m = 1 + cnt := by omega
    subst hcc
    have hs1 : (1 : Int) ≤ (1 : Int) + (cnt : Int) := by omega
    have hw : IntKind.i64.wrap (1 + (cnt : Int)) = 1 + (cnt : Int) := by rw [IntKind.wrap_i64]; omega
    have htn : (1 + (cnt : Int)).toNat = 1 + cnt := by omega
    clear ho hcell
    go_enter Try.func22, Try.ntmps22
    go_wp2
    go_quiet (fail)
    go_wp2
    go_region_law
      ((refine step_append_lies _ (by rfl) _ _ _ (by rfl) base 5 i0 (.int .u8 0) 1 1 Try.underlying22 hi hz0 hz1 hz2 rfl (by decide) _ k (B out) (by rfl) (show World.ownsRow (w.drewN (nq + 1)) base 5 1 _ k (B out) from HO.out) ⟨gb, i + 1, none⟩ cnt _ (B ((List.range cnt).map fun j => f (1 + j))) (by rfl) (by simp [B]) (HS (nq + 1)).out (by simp [B, Value.oneCell']) hc1 (by unfold maxLen; omega) (by omega) (by simp; omega) w.heap.size (by simp) ?_; intro g1 cap1 w1 hown1 hgrow hat hlt; have q0 : w1.cell? ⟨E, 0, none⟩ = some (.slice (some ⟨gb, i, none⟩) (1 + cnt) (1 + cnt)) := (hgrow.cell_far ⟨E, 0, none⟩ hEl HEG.out).trans c0; have q1 : w1.cell? ⟨E, 1, none⟩ = some (.slice (some ⟨g, 0, none⟩) k cap) := (hgrow.cell_far ⟨E, 1, none⟩ hEl HEG.out).trans c1; have p0 : w1.frozen? ⟨E, 0, none⟩ = false := (hgrow.frozen_far ⟨E, 0, none⟩ hEl HEG.out).trans f0; have p1 : w1.frozen? ⟨E, 1, none⟩ = false := (hgrow.frozen_far ⟨E, 1, none⟩ hEl HEG.out).trans f1))
    all_goals
      have q2 : Hid (w1.cell? ⟨E, 2, none⟩ = some (.int .i64 most)) := (hgrow.cell_far ⟨E, 2, none⟩ hEl HEG.out).trans c2
      have HB1 : Hid (Below base w w1) := (below_drewN (Below.refl base w) (nq + 1)).grown hgrow (by simp; omega) (fun j hj => by simp [Value.ownBlock] at hj; omega)
      have HO1 : Hid (w1.ownsRow base 5 1 (.slice (some ⟨g1, 0, none⟩) (k + cnt) cap1) (k + cnt) (B (out ++ (List.range cnt).map fun j => f (1 + j)))) := (by
        show World.ownsRow _ _ _ _ _ _ _
        simpa [B] using hown1)
      have hg1 : g1 ≠ E := by
        rcases hat with h | h
        · simp [Value.ownBlock] at h; omega
        · omega
      clear hown1 hgrow hat hlt
      go_wp2
      go_ret
      refine ⟨rfl, ?_⟩
      rw [Nat.sub_self]
      exact done_of _ _ _ _ q0 q1 q2.out p0 p1 HO1.out hg1 HB1.out hbE (fun h => absurd h (Nat.lt_irrefl 0))
  · skip
    have hs1 : (1 : Int) ≤ (1 : Int) + (cnt : Int) := by omega
    have hw : IntKind.i64.wrap (1 + (cnt : Int)) = 1 + (cnt : Int) := by rw [IntKind.wrap_i64]; omega
    have htn : (1 + (cnt : Int)).toNat = 1 + cnt := by omega
    clear ho hcell
    go_enter Try.func22, Try.ntmps22
    go_wp2
    go_quiet (fail)
    go_wp2
    go_region_law
      ((refine step_append_lies _ (by rfl) _ _ _ (by rfl) base 5 i0 (.int .u8 0) 1 1 Try.underlying22 hi hz0 hz1 hz2 rfl (by decide) _ k (B out) (by rfl) (show World.ownsRow (w.drewN (nq + 1)) base 5 1 _ k (B out) from HO.out) ⟨gb, i + 1, none⟩ cnt _ (B ((List.range cnt).map fun j => f (1 + j))) (by rfl) (by simp [B]) (HS (nq + 1)).out (by simp [B, Value.oneCell']) hc1 (by unfold maxLen; omega) (by omega) (by simp; omega) w.heap.size (by simp) ?_; intro g1 cap1 w1 hown1 hgrow hat hlt; have q0 : w1.cell? ⟨E, 0, none⟩ = some (.slice (some ⟨gb, i, none⟩) m cp) := (hgrow.cell_far ⟨E, 0, none⟩ hEl HEG.out).trans c0; have q1 : w1.cell? ⟨E, 1, none⟩ = some (.slice (some ⟨g, 0, none⟩) k cap) := (hgrow.cell_far ⟨E, 1, none⟩ hEl HEG.out).trans c1; have p0 : w1.frozen? ⟨E, 0, none⟩ = false := (hgrow.frozen_far ⟨E, 0, none⟩ hEl HEG.out).trans f0; have p1 : w1.frozen? ⟨E, 1, none⟩ = false := (hgrow.frozen_far ⟨E, 1, none⟩ hEl HEG.out).trans f1))
    all_goals
      have q2 : Hid (w1.cell? ⟨E, 2, none⟩ = some (.int .i64 most)) := (hgrow.cell_far ⟨E, 2, none⟩ hEl HEG.out).trans c2
      have HB1 : Hid (Below base w w1) := (below_drewN (Below.refl base w) (nq + 1)).grown hgrow (by simp; omega) (fun j hj => by simp [Value.ownBlock] at hj; omega)
      have HO1 : Hid (w1.ownsRow base 5 1 (.slice (some ⟨g1, 0, none⟩) (k + cnt) cap1) (k + cnt) (B (out ++ (List.range cnt).map fun j => f (1 + j)))) := (by
        show World.ownsRow _ _ _ _ _ _ _
        simpa [B] using hown1)
      have hg1 : g1 ≠ E := by
        rcases hat with h | h
        · simp [Value.ownBlock] at h; omega
        · omega
      clear hown1 hgrow hat hlt
      go_wp2
      go_ret
      exact ⟨rfl, done_of _ _ _ _ q0 q1 q2.out p0 p1 HO1.out hg1 HB1.out hbE (fun h => ⟨rfl, by omega⟩)⟩
end Go.Proofs.Ytbilpicolfpoaaa.Expd
