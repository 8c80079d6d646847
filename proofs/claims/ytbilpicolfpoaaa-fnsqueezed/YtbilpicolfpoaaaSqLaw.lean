/- The walk of the law that what is squeezed comes back. -/
import Derived.Test.YtbilpicolfpoaaaLawH
import Derived.Test.YtbilpicolfpoaaaDrawS
import Derived.Test.YtbilpicolfpoaaaSqI
import Derived.Test.YtbilpicolfpoaaaExpI
import Derived.Test.YtbilpicolfpoaaaSqBk
namespace Go.Proofs.Ytbilpicolfpoaaa.SqLaw
open Go.RowKit
open Draw (Bytes)
open SqP (Out plain plain_cons plain_nil)
open SqF (Sq sq mark3)
open SqM (cp cp_le)
set_option linter.unusedVariables false

def AllB (l : List Int) : Prop := ∀ x ∈ l, 0 ≤ x ∧ x < 256
theorem AllB.app {l m : List Int} (h : AllB l) (k : AllB m) : AllB (l ++ m) := fun x hx => (List.mem_append.1 hx).elim (h x) (k x)
theorem AllB.take {l : List Int} (h : AllB l) (n : Nat) : AllB (l.take n) := fun x hx => h x (List.mem_of_mem_take hx)
theorem AllB.drop {l : List Int} (h : AllB l) (n : Nat) : AllB (l.drop n) := fun x hx => h x (List.mem_of_mem_drop hx)
theorem plain_byt : ∀ (n : Nat) (l : List Int), l.length ≤ n → AllB l → AllB (plain l)
  | n, l, hn, h => by
    by_cases h0 : l.length = 0
    · rw [plain_nil h0]; intro x hx; cases hx
    · match n with
      | 0 => omega
      | n + 1 =>
        obtain ⟨k, hk⟩ : ∃ k, k = min l.length 128 := ⟨_, rfl⟩
        rw [plain_cons k hk h0]
        have ih := plain_byt n (l.drop k) (by simp; omega) (h.drop k)
        intro x hx
        rcases List.mem_cons.1 hx with e | hx
        · omega
        · exact (h.take k).app ih x hx
theorem mark_byt {L d : Nat} (h1 : L ≤ 67) (h2 : d ≤ 4096) : AllB (mark3 L d) := by
  intro x hx
  simp only [mark3, List.mem_cons, List.not_mem_nil, or_false] at hx
  rcases hx with e | e | e <;> omega
theorem sq_byt (l : List Int) (hl : AllB l) : ∀ (n at_ p : Nat) (out : List Int), l.length - at_ ≤ n → AllB out → AllB (sq l at_ p out)
  | n, at_, p, out, hn, h => by
    by_cases hlt : at_ < l.length
    · match n with
      | 0 => omega
      | n + 1 =>
        by_cases hz : (cp l at_).1 = 0
        · rw [SqF.sq_plain hlt hz]
          exact sq_byt l hl n (at_ + 1) p out (by omega) h
        · have hc := cp_le l at_
          rw [SqF.sq_copy hlt hz]
          exact sq_byt l hl n _ _ _ (by omega) ((h.app (plain_byt _ _ (Nat.le_refl _) ((hl.drop p).take _))).app (mark_byt (by omega) (by omega)))
    · rw [SqF.sq_end hlt]
      exact h.app (plain_byt _ _ (Nat.le_refl _) (hl.drop p))
theorem sq_le (l : List Int) : ∀ (n at_ p : Nat) (out : List Int), l.length - at_ ≤ n → Sq l at_ p out → (sq l 0 0 []).length ≤ 2 * l.length
  | n, at_, p, out, hn, h => by
    by_cases hlt : at_ < l.length
    · match n with
      | 0 => omega
      | n + 1 =>
        by_cases hz : (cp l at_).1 = 0
        · exact sq_le l n (at_ + 1) p out (by omega) (h.plain hlt hz)
        · exact sq_le l n (at_ + (cp l at_).1) _ _ (by omega) (h.copy hlt hz)
    · rw [h.ends hlt]
      have h1 := h.ol; have h2 := h.pa; have h3 := h.al
      have h4 := SqP.plain_len (l.drop p)
      rw [List.length_drop] at h4
      rw [List.length_append]; omega

set_option maxHeartbeats 400000 in
theorem same_any (g1 g2 n c1 c2 : Nat) (l : List Int) (w : World) (hl : l.length = n) (h1 : ∀ i, i < n → w.cell? ⟨g1, 0 + i, none⟩ = some (.int .u8 (l.getD i 0))) (h2 : ∀ i, i < n → w.cell? ⟨g2, 0 + i, none⟩ = some (.int .u8 (l.getD i 0))) :
    Calls Try.prog 8 #[.slice (some ⟨g1, 0, none⟩) n c1, .slice (some ⟨g2, 0, none⟩) n c2] w fun e w' => e = .returned (.bool true) ∧ Below w.heap.size w w' := by
  have k1 := run_convert_bytes_arg (P := Try.prog) w 22 5 Try.underlying22 Try.underlying5 g1 0 n c1 l hl h1 9 Try.underlying9
  have k2 := run_convert_bytes_arg (P := Try.prog) w 22 5 Try.underlying22 Try.underlying5 g2 0 n c2 l hl h2 9 Try.underlying9
  clear h1 h2
  revert k1 k2
  generalize strOfNums l = s
  intro k1 k2
  go_enter Try.func8, Try.ntmps8
  go_wp2
  go_ret
  exact ⟨rfl, Below.refl _ _⟩

set_option maxHeartbeats 400000 in
theorem walk_big (A : Option Addr) (n c : Nat) (w : World) (hb : 1048576 < n) :
    Calls Try.prog 3 #[.slice A n c] w fun e w' => e = .returned (.bool true) ∧ Below w.heap.size w w' := by
  have hd : decide (1048576 < (n : Int)) = true := decide_eq_true (by omega)
  go_enter Try.func3, Try.ntmps3
  go_wp2
  go_ret
  exact ⟨rfl, Below.refl _ _⟩

theorem one_len : (sq [1] 0 0 []).length = 2 := by rfl
theorem one_byt : ∀ i, (Lit.int .u8 ([(1 : Int)].getD i 0)).wf = true := SqI.byt_wf (Seg.byt_of (by decide))
theorem one_cell (w : World) (t : TypeId) : ∀ i, i < [(1 : Int)].length → (w.alloc (.cells #[.int .u8 1] t)).cell? ⟨w.heap.size, 0 + i, none⟩ = some (.int .u8 ([(1 : Int)].getD i 0)) := fun i hi => by
  have := SqP.one_new w 1 t i hi
  rw [SqP.add_at] at this
  exact this

set_option maxRecDepth 4000 in
set_option maxHeartbeats 1600000 in
theorem walk (A : Option Addr) (n c : Nat) (w : World) (hn : n ≤ 1048576) (hb : Bytes w w.heap.size A n c) :
    Calls Try.prog 3 #[.slice A n c] w fun e w' => e = .returned (.bool true) ∧ Below w.heap.size w w' := by
  have HB := Seg.hid hb
  clear hb
  have hd : decide (1048576 < (n : Int)) = false := decide_eq_false (by omega)
  go_enter Try.func3, Try.ntmps3
  go_wp2_with fail
  refine (LawH.big_any A n c _ (by omega)).mono ?_
  rintro e w0 ⟨rfl, rfl⟩
  rw [hd]
  go_wp2_with fail
  refine (DrawS.drawSqueeze_any A n c _ hn HB.out).mono ?_
  rintro e w1 ⟨g, cap, l, rfl, s1⟩
  have S1 := Seg.hid s1
  have hll := s1.len
  have hs1 := s1.bel.size
  obtain ⟨base, hbase, own⟩ := s1.own
  have OW := Seg.hid own
  have hcap := (Seg.owns_cap own).1
  have hgl := (Seg.owns_cap own).2.2.2
  clear s1 own
  by_cases hl : 60000 < l.length
  · go_wp2_with fail
    refine (SqI.impl_out _ l.length cap _ hl).mono ?_
    rintro e w2 ⟨g2, cap2, rfl, o2, b2⟩
    have B2 := Seg.hid (S1.out.bel.trans (b2.mono hs1))
    have hs2 := B2.out.size
    clear o2 b2
    go_wp2_with fail
    refine (SqI.impl_in w2.heap.size 0 1 [1] _ (by decide) (by decide) (by simp) one_byt (one_cell w2 5)).mono ?_
    rintro e w3 ⟨g3, cap3, rfl, o3, b3⟩
    have B3 := Seg.hid ((B2.out.alloc hs2 _).trans (b3.mono (by simp; omega)))
    clear o3 b3
    rw [one_len]
    go_wp2_with fail
    go_ret
    exact ⟨rfl, B3.out⟩
  · have BY := Seg.hid (Seg.byt_of S1.out.byt)
    have HQ := Seg.hid (Seg.byt_of (sq_byt l S1.out.byt _ 0 0 [] (Nat.le_refl _) (by intro x hx; cases hx)))
    have hzl := sq_le l _ 0 0 [] (Nat.le_refl _) (Sq.start l)
    have BK := Seg.hid (SqBk.back l l.length (Nat.le_refl _))
    go_wp2_with fail
    refine (SqI.impl_in g 0 cap l _ (by omega) hcap hgl (SqI.byt_wf BY.out) (fun j hj => SqS.Out.cell OW.out j hj)).mono ?_
    rintro e w2 ⟨g2, cap2, rfl, o2, b2⟩
    generalize sq l 0 0 [] = z at *
    have O2 := Seg.hid o2
    have B2 := Seg.hid (S1.out.bel.trans (b2.mono hs1))
    have W2 := Seg.hid (Seg.owns_below OW.out (base := base) b2)
    have hc2 := (Seg.owns_cap o2).1
    have hg2 := (Seg.owns_cap o2).2.2.2
    clear o2 b2
    go_wp2_with fail
    refine (ExpI.impl_in g2 z.length cap2 z l.length _ (by omega) hc2 rfl HQ.out hg2 (by omega) (fun j hj => Seg.owns_cell O2.out j hj)).mono ?_
    rw [BK.out]
    rintro e w3 ⟨g3, cap3, rfl, o3, b3⟩
    have hs2 := B2.out.size
    have O3 := Seg.hid o3
    have B3 := Seg.hid (B2.out.trans (b3.mono hs2))
    have W3 := Seg.hid (Seg.owns_below W2.out b3)
    clear o3 b3
    go_wp2_with fail
    refine (same_any g3 g l.length cap3 cap l _ rfl (fun j hj => SqS.Out.cell O3.out j hj) (fun j hj => SqS.Out.cell W3.out j hj)).mono ?_
    rintro e w4 ⟨rfl, b4⟩
    have B4 := Seg.hid (B3.out.trans (b4.mono B3.out.size))
    clear b4
    go_wp2_with fail
    go_ret
    exact ⟨rfl, B4.out⟩

theorem walk_any (A : Option Addr) (len cap : Nat) (zs : List Int) (w : World)
    (h : (A = none ∧ len = 0 ∧ cap = 0 ∧ zs = []) ∨ ∃ x, A = some x ∧ len ≤ cap ∧ cap ≤ maxLen ∧ zs.length = cap ∧ (∀ i, i < zs.length → w.cell? (x.add i) = some (.int .u8 (zs.getD i 0))) ∧ ∀ n ∈ zs, (Lit.int .u8 n).wf = true) :
    Calls Try.prog 3 #[.slice A len cap] w fun e w' => e = .returned (.bool true) ∧ Below w.heap.size w w' := by
  by_cases hb : 1048576 < len
  · exact walk_big A len cap w hb
  · exact walk A len cap w (by omega) (LawH.row_bytes w A len cap zs h (by omega))
end Go.Proofs.Ytbilpicolfpoaaa.SqLaw
