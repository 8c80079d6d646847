/- The walk of the law on Squeeze out of the contracts. -/
import Derived.Test.YtadfaeihpfjfcaaSqI
import Derived.Test.YtadfaeihpfjfcaaTo
import Derived.WalkSmall
namespace Go.Proofs.Ytadfaeihpfjfcaa.ExSqz
open Go.RowKit
open Seg (Own B marks)
open SqF (Sq sq)
open SqP (Out)
set_option linter.unusedVariables false

theorem sq_le (l : List Int) : ∀ (n at_ p : Nat) (out : List Int), l.length - at_ ≤ n → Sq l at_ p out → (sq l 0 0 []).length ≤ 2 * l.length
  | n, at_, p, out, hn, h => by
    by_cases hlt : at_ < l.length
    · match n with
      | 0 => omega
      | n + 1 =>
        by_cases hz : (SqM.cp l at_).1 = 0
        · exact sq_le l n (at_ + 1) p out (by omega) (h.plain hlt hz)
        · exact sq_le l n (at_ + (SqM.cp l at_).1) _ _ (by omega) (h.copy hlt hz)
    · rw [h.ends hlt]
      have h1 := h.ol; have h2 := h.pa; have h3 := h.al
      have h4 := SqP.plain_len (l.drop p)
      rw [List.length_drop] at h4
      rw [List.length_append]; omega

/-- What Squeeze answers at whatever row. -/
def sqR (l : List Int) : List Int := if l.length ≤ 60000 then sq l 0 0 [] else []
theorem sqR_le (l : List Int) : (sqR l).length ≤ 120000 := by
  unfold sqR
  split
  · have := sq_le l _ 0 0 [] (Nat.le_refl _) (Sq.start l); omega
  · simp

theorem spec_any (base g c : Nat) (l : List Int) (w : World) (ho : w.ownsRow base 5 1 (.slice (some ⟨g, 0, none⟩) l.length c) l.length (B l)) :
    Calls Try.prog 4 #[.slice (some ⟨g, 0, none⟩) l.length c] w fun e w' => ∃ g' cap, e = .returned (.slice (some ⟨g', 0, none⟩) (sqR l).length cap) ∧ w'.ownsRow w.heap.size 5 1 (.slice (some ⟨g', 0, none⟩) (sqR l).length cap) (sqR l).length (B (sqR l)) ∧ Below w.heap.size w w' := by
  have hc := Seg.owns_cap ho
  by_cases h : l.length ≤ 60000
  · rw [sqR, if_pos h]
    exact SqS.spec_in g 0 c l w h hc.1 hc.2.2.2 (fun j hj => SqS.Out.cell ho j hj)
  · rw [sqR, if_neg h]
    exact SqS.spec_out _ _ c w (by omega)
theorem impl_any (base g c : Nat) (l : List Int) (w : World) (hby : Seg.Byt l) (ho : w.ownsRow base 5 1 (.slice (some ⟨g, 0, none⟩) l.length c) l.length (B l)) :
    Calls Try.prog 6 #[.slice (some ⟨g, 0, none⟩) l.length c] w fun e w' => ∃ g' cap, e = .returned (.slice (some ⟨g', 0, none⟩) (sqR l).length cap) ∧ w'.ownsRow w.heap.size 5 1 (.slice (some ⟨g', 0, none⟩) (sqR l).length cap) (sqR l).length (B (sqR l)) ∧ Below w.heap.size w w' := by
  have hc := Seg.owns_cap ho
  by_cases h : l.length ≤ 60000
  · rw [sqR, if_pos h]
    exact SqI.impl_in g 0 c l w h hc.1 hc.2.2.2 (SqI.byt_wf hby) (fun j hj => SqS.Out.cell ho j hj)
  · rw [sqR, if_neg h]
    exact SqI.impl_out _ _ c w (by omega)

set_option maxHeartbeats 400000 in
theorem walk_big (A : Option Addr) (n c : Nat) (w : World) (h : 1048576 < n) :
    Calls Try.prog 3 #[.slice A n c] w fun e w' => e = .returned (.bool true) ∧ Below w.heap.size w w' := by
  go_enter Try.func3, Try.ntmps3
  go_wp2
  go_ret
  exact ⟨rfl, Below.refl _ _⟩

/-- The argument as it came in, in a later world. -/
structure Arg (W w : World) (A : Option Addr) (c : Nat) (l : List Int) : Prop where
  bl : Below W.heap.size W w
  seg : Seg.Seg w (.slice A l.length c) l
  inn : l.length = 0 ∨ ∀ g, (Value.slice A l.length c).ownBlock = some g → g < W.heap.size
theorem Arg.next {W w w' : World} {A : Option Addr} {c : Nat} {l : List Int} (h : Arg W w A c l) (hb : Below W.heap.size W w') : Arg W w' A c l := by
  refine ⟨hb, ?_, h.inn⟩
  rcases h.inn with hz | hin
  · obtain rfl : l = [] := List.length_eq_zero_iff.1 hz
    exact ⟨by simp, .inl ⟨A, c, rfl, rfl⟩⟩
  · obtain ⟨h1, h2⟩ := h.seg
    refine ⟨h1, ?_⟩
    rcases h2 with ⟨A', c', e, rfl⟩ | ⟨g, o, cap, e, h3, h4, h5⟩
    · exact .inl ⟨A', c', e, rfl⟩
    · refine .inr ⟨g, o, cap, e, h3, h4, fun i hi => ?_⟩
      have hg := hin g (by rw [e]; rfl)
      rw [hb.cell (p := ⟨g, o + i, none⟩) hg, ← h.bl.cell (p := ⟨g, o + i, none⟩) hg]
      exact h5 i hi
theorem Arg.lt {W w : World} {A : Option Addr} {c : Nat} {l : List Int} (h : Arg W w A c l) : l.length = 0 ∨ ∀ g, (Value.slice A l.length c).ownBlock = some g → g < w.heap.size :=
  h.inn.imp id fun hh g hg => Nat.lt_of_lt_of_le (hh g hg) h.bl.size

theorem seg_of {w : World} {base g n cap : Nat} {l : List Int} (hl : l.length ≤ 140737488355328) (ho : w.ownsRow base 5 1 (.slice (some ⟨g, 0, none⟩) l.length cap) l.length (B l)) : Seg.Seg w (.slice (some ⟨g, 0, none⟩) l.length cap) l := Own.seg ⟨hl, g, cap, rfl, ho⟩

set_option maxRecDepth 4000 in
set_option maxHeartbeats 1600000 in
theorem walk (A : Option Addr) (c : Nat) (l : List Int) (w : World) (hn : l.length ≤ 1048576) (hs : Seg.Seg w (.slice A l.length c) l) (hby : Seg.Byt l)
    (hin : l.length = 0 ∨ ∀ g, (Value.slice A l.length c).ownBlock = some g → g < w.heap.size) :
    Calls Try.prog 3 #[.slice A l.length c] w fun e w' => e = .returned (.bool true) ∧ Below w.heap.size w w' := by
  have A0 : Hid (Arg w w A c l) := ⟨Below.refl _ _, hs, hin⟩
  obtain ⟨R, hR⟩ : ∃ R, sqR l = R := ⟨_, rfl⟩
  have hRl : R.length ≤ 120000 := by rw [← hR]; exact sqR_le l
  have CS : Hid (∀ base g c w, w.ownsRow base 5 1 (.slice (some ⟨g, 0, none⟩) l.length c) l.length (B l) → Calls Try.prog 4 #[.slice (some ⟨g, 0, none⟩) l.length c] w fun e w' => ∃ g' cap, e = .returned (.slice (some ⟨g', 0, none⟩) R.length cap) ∧ w'.ownsRow w.heap.size 5 1 (.slice (some ⟨g', 0, none⟩) R.length cap) R.length (B R) ∧ Below w.heap.size w w') := by
    intro base g c w ho
    have := spec_any base g c l w ho
    rw [hR] at this; exact this
  have CI : Hid (∀ base g c w, w.ownsRow base 5 1 (.slice (some ⟨g, 0, none⟩) l.length c) l.length (B l) → Calls Try.prog 6 #[.slice (some ⟨g, 0, none⟩) l.length c] w fun e w' => ∃ g' cap, e = .returned (.slice (some ⟨g', 0, none⟩) R.length cap) ∧ w'.ownsRow w.heap.size 5 1 (.slice (some ⟨g', 0, none⟩) R.length cap) R.length (B R) ∧ Below w.heap.size w w') := by
    intro base g c w ho
    have := impl_any base g c l w hby ho
    rw [hR] at this; exact this
  clear hs hin hby hR
  go_enter Try.func3, Try.ntmps3
  go_wp2_with fail
  refine (To.to_any _ l _ A0.out.seg hn A0.out.lt).mono ?_
  rintro e w1 ⟨g1, c1, rfl, o1, b1⟩
  have O1 := Seg.hid o1; have B1 := Seg.hid b1
  clear o1 b1
  go_wp2_with fail
  refine (CS.out _ g1 c1 _ O1.out).mono ?_
  rintro e w2 ⟨g2, c2, rfl, o2, b2⟩
  have O2 := Seg.hid o2; have B2 := Seg.hid (B1.out.trans (b2.mono B1.out.size))
  have A2 := Seg.hid (A0.out.next B2.out)
  have z12 := b2.size
  clear o2 b2
  go_wp2_with fail
  refine (To.to_any _ l _ A2.out.seg hn A2.out.lt).mono ?_
  rintro e w3 ⟨g3, c3, rfl, o3, b3⟩
  have O3 := Seg.hid o3; have B3 := Seg.hid (B2.out.trans (b3.mono B2.out.size))
  have P3 := Seg.hid (Seg.owns_below O2.out b3)
  have z23 := b3.size
  clear o3 b3
  go_wp2_with fail
  refine (CI.out _ g3 c3 _ O3.out).mono ?_
  rintro e w4 ⟨g4, c4, rfl, o4, b4⟩
  have O4 := Seg.hid o4; have B4 := Seg.hid (B3.out.trans (b4.mono B3.out.size))
  have P4 := Seg.hid (Seg.owns_below P3.out b4)
  have X4 := Seg.hid (Seg.owns_below O3.out b4)
  have z34 := b4.size
  clear o4 b4
  go_wp2_with fail
  refine (Same.eq_any _ _ R R _ (seg_of (n := 0) (by omega) O4.out) (seg_of (n := 0) (by omega) P4.out)).mono ?_
  rintro e w4' ⟨rfl, d, rfl⟩
  simp only [decide_true]
  go_wp2_with fail
  have A4 : Hid (Arg w (w4.drewN d) A c l) := A2.out.next (below_drewN B4.out d)
  refine (To.to_any _ l _ A4.out.seg hn A4.out.lt).mono ?_
  rintro e w5 ⟨g5, c5, rfl, o5, b5⟩
  have O5 := Seg.hid o5; have B5 := Seg.hid (A4.out.bl.trans (b5.mono A4.out.bl.size))
  have P5 := Seg.hid (Seg.owns_below (w := w4.drewN d) P4.out b5)
  have X5 := Seg.hid (Seg.owns_below (w := w4.drewN d) X4.out b5)
  have G5 := Seg.hid (Seg.owns_below (w := w4.drewN d) O4.out b5)
  have z45 : w4.heap.size ≤ w5.heap.size := b5.size
  clear o5 b5
  go_wp2_with fail
  refine (Same.eq_any _ _ l l _ (seg_of (n := 0) (by omega) X5.out) (seg_of (n := 0) (by omega) O5.out)).mono ?_
  rintro e w5' ⟨rfl, d5, rfl⟩
  simp only [decide_true]
  go_wp2_with fail
  refine (Same.mark_any _ g3 l.length c3 l 1 (w5.drewN d5) rfl (by omega) (by decide) (by decide) X5.out).mono ?_
  rintro e w6 ⟨rfl, o6, gr6⟩
  have l2 := (Seg.owns_cap O2.out).2.2
  have l3 := (Seg.owns_cap O3.out).2.2
  have l4 := (Seg.owns_cap O4.out).2.2
  have P6 := Seg.hid (World.ownsRow.kept (w := w5.drewN d5) P5.out gr6 (.inr (by simp [Value.ownBlock]; omega)))
  have G6 := Seg.hid (World.ownsRow.kept (w := w5.drewN d5) G5.out gr6 (.inr (by simp [Value.ownBlock]; omega)))
  have B6 := Seg.hid ((below_drewN B5.out d5).grown gr6 B5.out.size (fun k hk => by cases hk; have := B2.out.size; omega))
  have z56 : w5.heap.size ≤ w6.heap.size := gr6.size
  clear o6 gr6
  have hk6 : (0 : Int) ≤ 1 + (l.length : Int) := by omega
  have hkd : decide ((1 : Int) + (l.length : Int) < 0) = false := decide_eq_false (by omega)
  go_wp2_with fail
  refine (Same.eq_any _ _ R R _ (seg_of (n := 0) (by omega) G6.out) (seg_of (n := 0) (by omega) P6.out)).mono ?_
  rintro e w6' ⟨rfl, d6, rfl⟩
  simp only [decide_true]
  go_wp2_with fail
  refine (Same.mark_any _ g4 R.length c4 R 1 (w6.drewN d6) rfl (by omega) (by decide) (by decide) G6.out).mono ?_
  rintro e w7 ⟨rfl, o7, gr7⟩
  have M7 := Seg.hid o7
  have P7 := Seg.hid (World.ownsRow.kept (w := w6.drewN d6) P6.out gr7 (.inr (by simp [Value.ownBlock]; omega)))
  have B7 := Seg.hid ((below_drewN B6.out d6).grown gr7 B6.out.size (fun k hk => by cases hk; have := B3.out.size; omega))
  clear o7 gr7
  go_wp2_with fail
  refine (Same.held_any _ g4 R.length c4 1 _ (by omega) (by decide) (by decide) M7.out).mono ?_
  rintro e w7' ⟨rfl, rfl⟩
  go_wp2_with fail
  have A7 : Hid (Arg w w7 A c l) := A2.out.next B7.out
  refine (To.to_any _ l _ A7.out.seg hn A7.out.lt).mono ?_
  rintro e w8 ⟨g8, c8, rfl, o8, b8⟩
  have O8 := Seg.hid o8; have B8 := Seg.hid (B7.out.trans (b8.mono B7.out.size))
  have P8 := Seg.hid (Seg.owns_below P7.out b8)
  have M8 := Seg.hid (Seg.owns_below M7.out b8)
  clear o8 b8
  go_wp2_with fail
  refine (CI.out _ g8 c8 _ O8.out).mono ?_
  rintro e w9 ⟨g9, c9, rfl, o9, b9⟩
  have O9 := Seg.hid o9; have B9 := Seg.hid (B8.out.trans (b9.mono B8.out.size))
  have P9 := Seg.hid (Seg.owns_below P8.out b9)
  have M9 := Seg.hid (Seg.owns_below M8.out b9)
  clear o9 b9
  go_wp2_with fail
  refine (Same.eq_any _ _ R R _ (seg_of (n := 0) (by omega) O9.out) (seg_of (n := 0) (by omega) P9.out)).mono ?_
  rintro e w9' ⟨rfl, d9, rfl⟩
  simp only [decide_true]
  go_wp2_with fail
  refine (Same.held_any _ g4 R.length c4 1 (w9.drewN d9) (by omega) (by decide) (by decide) M9.out).mono ?_
  rintro e w10 ⟨rfl, rfl⟩
  go_wp2_with fail
  go_ret
  exact ⟨rfl, below_drewN B9.out d9⟩

theorem walk_any (A : Option Addr) (len cap : Nat) (zs : List Int) (w : World)
    (h : (A = none ∧ len = 0 ∧ cap = 0 ∧ zs = []) ∨ ∃ x, A = some x ∧ len ≤ cap ∧ cap ≤ maxLen ∧ zs.length = cap ∧ (∀ i, i < zs.length → w.cell? (x.add i) = some (.int .u8 (zs.getD i 0))) ∧ ∀ n ∈ zs, (Lit.int .u8 n).wf = true) :
    Calls Try.prog 3 #[.slice A len cap] w fun e w' => e = .returned (.bool true) ∧ Below w.heap.size w w' := by
  by_cases hb : 1048576 < len
  · exact walk_big A len cap w hb
  · obtain ⟨l, h1, h2, h3, h4⟩ := Seg.row_seg w A len cap zs h (by omega)
    subst h1
    exact walk A cap l w (by omega) h2 h3 h4
end Go.Proofs.Ytadfaeihpfjfcaa.ExSqz
