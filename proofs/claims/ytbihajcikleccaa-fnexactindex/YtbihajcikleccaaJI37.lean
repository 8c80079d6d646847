/- The law's marks on Entries of the call's own; The law's mark on a Segment; how many marks it takes; few entries. -/
import Derived.Test.YtbihajcikleccaaJI16
import Derived.Test.YtbihajcikleccaaJI36
namespace Go.Proofs.Ytbihajcikleccaa.IdM
set_option maxRecDepth 8000
open Go.RowKit
open Recs (hsz)
open Ent IdP
set_option linter.unusedVariables false
/-- The marks of n Entries from k on. -/
def mks (k : Nat) : Nat → List En
  | 0 => []
  | n + 1 => mks k n ++ [⟨(k + 3 * n : Nat), (k + 3 * n + 1 : Nat), (k + 3 * n + 2 : Nat)⟩]
theorem mks_len (k : Nat) : ∀ n, (mks k n).length = n
  | 0 => rfl
  | n + 1 => by simp [mks, mks_len k n]
theorem mks_get (k : Nat) : ∀ (n i : Nat), i < n → (mks k n).getD i default = ⟨(k + 3 * i : Nat), (k + 3 * i + 1 : Nat), (k + 3 * i + 2 : Nat)⟩
  | 0, i, h => by omega
  | n + 1, i, h => by
    by_cases e : i = n
    · subst e
      simp [mks, mks_len k i]
    · rw [mks, List.getD_eq_getElem?_getD, List.getElem?_append_left (by rw [mks_len]; omega), ← List.getD_eq_getElem?_getD]
      exact mks_get k n i (by omega)
theorem ecells_split : ∀ (a : List En) (e : En) (b : List En), ecells (a ++ e :: b) = ecells a ++ (.int .i64 e.off :: .int .i64 e.time :: .int .i64 e.place :: ecells b)
  | [], e, b => rfl
  | x :: a, e, b => by simp only [List.cons_append, ecells, ecells_split a e b]
theorem set3 (a : List En) (e : En) (b : List En) (x y z : Int) : (((ecells (a ++ e :: b)).set (a.length * 3) (.int .i64 x)).set (a.length * 3 + 1) (.int .i64 y)).set (a.length * 3 + 2) (.int .i64 z) = ecells (a ++ ⟨x, y, z⟩ :: b) := by
  rw [ecells_split, ecells_split, ← ecells_len a]
  simp
/-- One Entry is written. -/
theorem put {w : World} {base g cap : Nat} {a : List En} {e : En} {b : List En} (h : EsAt w base (.slice (some ⟨g, 0, none⟩) (a ++ e :: b).length cap) (a ++ e :: b)) (x y z : Int) :
    EsAt (((w.setCell ⟨g, a.length * 3, none⟩ (.int .i64 x)).setCell ⟨g, a.length * 3 + 1, none⟩ (.int .i64 y)).setCell ⟨g, a.length * 3 + 2, none⟩ (.int .i64 z)) base (.slice (some ⟨g, 0, none⟩) (a ++ e :: b).length cap) (a ++ ⟨x, y, z⟩ :: b) := by
  have h3 := (World.ownsRow.stored (World.ownsRow.stored (World.ownsRow.stored h (a.length * 3) (.int .i64 x)).1 (a.length * 3 + 1) (.int .i64 y)).1 (a.length * 3 + 2) (.int .i64 z)).1
  rw [set3] at h3
  have e1 : (a ++ (⟨x, y, z⟩ : En) :: b).length = (a ++ e :: b).length := by simp
  unfold EsAt
  rw [e1]
  exact h3
theorem some_at {w : World} {base ty g n cap : Nat} {xs : List Value} (h : w.ownsRow base ty 3 (.slice (some ⟨g, 0, none⟩) n cap) n xs) (q : Nat) (hq : q < n * 3) : ∃ v, w.cell? ⟨g, q, none⟩ = some v := by
  rw [World.ownsRow.cellAt h q hq]
  exact ⟨_, List.getElem?_eq_getElem (by have := h.1; omega)⟩
theorem gset {w wr : World} {g : Nat} (h : w.grownBy wr (some g)) (q : Nat) (v : Value) : w.grownBy (wr.setCell ⟨g, q, none⟩ v) (some g) :=
  ⟨h.os, h.tape, h.output, by simpa using h.size, fun k hk hne => (heap_setCell_other wr ⟨g, q, none⟩ k v (by intro e; exact hne (by rw [e]))).trans (h.block k hk hne)⟩
theorem mark_none (A : Option Addr) (c : Nat) (k : Int) (w : World) : Calls Try.prog 20 #[.slice A 0 c, .int .i64 k] w fun e w' => e = .returned (.int .i64 k) ∧ w = w' := by
  go_enter Try.func20, Try.ntmps20
  go_wp2
  go_loop [1, 5] (fun x i => i = .int .i64 0 ∧ x = .int .i64 k) (fun _ _ => 0)
  case atStart => exact ⟨rfl, rfl⟩
  case round =>
    obtain ⟨rfl, rfl⟩ := hrel
    go_wp2
    go_ret
    exact ⟨rfl, rfl⟩
theorem held_none (A : Option Addr) (c : Nat) (k : Int) (w : World) : Calls Try.prog 21 #[.slice A 0 c, .int .i64 k] w fun e w' => e = .returned (.int .i64 k) ∧ w = w' := by
  go_enter Try.func21, Try.ntmps21
  go_wp2
  go_loop [1, 5] (fun x i => i = .int .i64 0 ∧ x = .int .i64 k) (fun _ _ => 0)
  case atStart => exact ⟨rfl, rfl⟩
  case round =>
    obtain ⟨rfl, rfl⟩ := hrel
    go_wp2
    go_ret
    exact ⟨rfl, rfl⟩
set_option maxHeartbeats 800000 in
theorem mark_core (g cap base k : Nat) (es : List En) (w : World) (hn : es.length ≤ 1048576) (hc : es.length ≤ cap) (hk : k ≤ 1000000000000) (h : EsAt w base (.slice (some ⟨g, 0, none⟩) es.length cap) es) :
    Calls Try.prog 20 #[.slice (some ⟨g, 0, none⟩) es.length cap, .int .i64 k] w fun e w' => e = .returned (.int .i64 ((k + 3 * es.length : Nat) : Int)) ∧ EsAt w' base (.slice (some ⟨g, 0, none⟩) es.length cap) (mks k es.length) ∧ w.grownBy w' (some g) := by
  have HE := Seg.hid h
  clear h
  go_enter Try.func20, Try.ntmps20
  go_wp2
  go_loopw [1, 5] (fun x i wr => ∃ j : Nat, j ≤ es.length ∧ i = .int .i64 j ∧ x = .int .i64 ((k + 3 * j : Nat) : Int) ∧ Hid (EsAt wr base (.slice (some ⟨g, 0, none⟩) es.length cap) (mks k j ++ es.drop j) ∧ w.grownBy wr (some g))) (fun _ i _ => es.length - (intOf i).toNat)
  case atStart => exact ⟨0, Nat.zero_le _, rfl, rfl, HE.out, World.grownBy.refl _ _⟩
  case round =>
    obtain ⟨j, hj, rfl, rfl, HR⟩ := hrel
    by_cases hlt : j < es.length
    · have h0 : (0 : Int) ≤ (j : Int) := by omega
      have h1 : (j : Int) < (es.length : Int) := by omega
      have hdr : es.drop j = es.getD j default :: es.drop (j + 1) := by rw [List.drop_eq_getElem_cons hlt]; simp [hlt]
      have hR := HR.out.1
      rw [hdr] at hR
      have hll : (mks k j ++ es.getD j default :: es.drop (j + 1)).length = es.length := by simp [mks_len]; omega
      have hR' : EsAt wr base (.slice (some ⟨g, 0, none⟩) (mks k j ++ es.getD j default :: es.drop (j + 1)).length cap) (mks k j ++ es.getD j default :: es.drop (j + 1)) := by rw [hll]; exact hR
      have P := Seg.hid (put hR' ((k + 3 * j : Nat) : Int) (((k + 3 * j : Nat) : Int) + 1) (((k + 3 * j : Nat) : Int) + 1 + 1))
      rw [hll, mks_len] at P
      have h2 : wr.ownsRow base 68 3 (.slice (some ⟨g, 0, none⟩) es.length cap) es.length (ecells (mks k j ++ es.getD j default :: es.drop (j + 1))) := by
        have := hR'
        unfold EsAt at this
        rw [hll] at this
        exact this
      have S1 := (World.ownsRow.stored h2 (j * 3) (.int .i64 ((k + 3 * j : Nat) : Int))).1
      have S2 := (World.ownsRow.stored S1 (j * 3 + 1) (.int .i64 (((k + 3 * j : Nat) : Int) + 1))).1
      obtain ⟨v0, c0⟩ := some_at h2 (j * 3) (by omega)
      obtain ⟨v1, c1⟩ := some_at S1 (j * 3 + 1) (by omega)
      obtain ⟨v2, c2⟩ := some_at S2 (j * 3 + 2) (by omega)
      have f0 := World.ownsRow.frozenAt h2 (j * 3)
      have f1 := World.ownsRow.frozenAt S1 (j * 3 + 1)
      have f2 := World.ownsRow.frozenAt S2 (j * 3 + 2)
      have GN := Seg.hid (gset (gset (gset HR.out.2 (j * 3) (.int .i64 ((k + 3 * j : Nat) : Int))) (j * 3 + 1) (.int .i64 (((k + 3 * j : Nat) : Int) + 1))) (j * 3 + 2) (.int .i64 (((k + 3 * j : Nat) : Int) + 1 + 1)))
      have PM : Hid (mks k j ++ (⟨((k + 3 * j : Nat) : Int), (((k + 3 * j : Nat) : Int) + 1), (((k + 3 * j : Nat) : Int) + 1 + 1)⟩ : En) :: es.drop (j + 1) = mks k (j + 1) ++ es.drop (j + 1)) := by
        show _ = _
        rw [mks, List.append_assoc]
        congr 2
      rw [PM.out] at P
      clear hR hR' hdr hll h2 S1 S2 PM
      generalize hx : k + 3 * j = x at *
      go_wp2
      go_roundw
      case rel => exact ⟨j + 1, by omega, by go_num, by go_num, P.out, GN.out⟩
      case measure => simp [intOf]; omega
    · have : j = es.length := by omega
      subst this
      have E := Seg.hid HR.out
      rw [List.drop_length, List.append_nil] at E
      go_wp2
      go_ret
      exact ⟨rfl, E.out.1, E.out.2⟩

theorem mks_cells {w : World} {base g cap n k : Nat} (h : EsAt w base (.slice (some ⟨g, 0, none⟩) n cap) (mks k n)) (i : Nat) (hi : i < n) :
    w.cell? ⟨g, i * 3, none⟩ = some (.int .i64 ((k + 3 * i : Nat) : Int)) ∧ w.cell? ⟨g, i * 3 + 1, none⟩ = some (.int .i64 ((k + 3 * i + 1 : Nat) : Int)) ∧ w.cell? ⟨g, i * 3 + 2, none⟩ = some (.int .i64 ((k + 3 * i + 2 : Nat) : Int)) := by
  have h' := h
  unfold EsAt at h'
  rw [mks_len] at h'
  have e := fun j (hj : j < 3) => ecells_get (mks k n) i j (by rw [mks_len]; exact hi) hj
  refine ⟨?_, ?_, ?_⟩
  · rw [World.ownsRow.cellAt h' (i * 3) (by omega)]
    have := e 0 (by omega)
    rw [Nat.add_zero] at this
    rw [this]
    simp only [enCells, mks_get k n i hi]
    rfl
  · rw [World.ownsRow.cellAt h' (i * 3 + 1) (by omega), e 1 (by omega)]
    simp only [enCells, mks_get k n i hi]
    rfl
  · rw [World.ownsRow.cellAt h' (i * 3 + 2) (by omega), e 2 (by omega)]
    simp only [enCells, mks_get k n i hi]
    rfl
set_option maxHeartbeats 800000 in
theorem held_core (g cap base k n : Nat) (w : World) (hn : n ≤ 1048576) (hc : n ≤ cap) (hk : k ≤ 1000000000000) (h : EsAt w base (.slice (some ⟨g, 0, none⟩) n cap) (mks k n)) :
    Calls Try.prog 21 #[.slice (some ⟨g, 0, none⟩) n cap, .int .i64 k] w fun e w' => e = .returned (.int .i64 ((k + 3 * n : Nat) : Int)) ∧ w = w' := by
  have HE := Seg.hid (mks_cells h)
  clear h
  go_enter Try.func21, Try.ntmps21
  go_wp2
  go_loop [1, 5] (fun x i => ∃ j : Nat, j ≤ n ∧ i = .int .i64 j ∧ x = .int .i64 ((k + 3 * j : Nat) : Int)) (fun _ i => n - (intOf i).toNat)
  case atStart => exact ⟨0, Nat.zero_le _, rfl, rfl⟩
  case round =>
    obtain ⟨j, hj, rfl, rfl⟩ := hrel
    by_cases hlt : j < n
    · have h0 : (0 : Int) ≤ (j : Int) := by omega
      have h1 : (j : Int) < (n : Int) := by omega
      obtain ⟨c0, c1, c2⟩ := HE.out j hlt
      have e1 : (((k + 3 * j : Nat) : Int) + 1) = ((k + 3 * j + 1 : Nat) : Int) := by omega
      have e2 : (((k + 3 * j : Nat) : Int) + 1 + 1) = ((k + 3 * j + 2 : Nat) : Int) := by omega
      rw [← e1] at c1
      rw [← e2] at c2
      clear e1 e2
      have hx : k + 3 * j ≤ 2000000000000 := by omega
      have hnx : Hid (((k + 3 * (j + 1) : Nat) : Int) = ((k + 3 * j : Nat) : Int) + 1 + 1 + 1) := by show _ = _; omega
      generalize k + 3 * j = x at *
      go_wp2
      go_round
      case rel => exact ⟨j + 1, by omega, by go_num, by rw [hnx.out]⟩
      case measure => simp [intOf]; omega
    · have : j = n := by omega
      subst this
      go_wp2
      go_ret
      exact ⟨rfl, rfl⟩
theorem mark_any (v : Value) (base k : Nat) (es : List En) (w : World) (hn : es.length ≤ 1048576) (hk : k ≤ 1000000000000) (h : EsAt w base v es) :
    Calls Try.prog 20 #[v, .int .i64 k] w fun e w' => e = .returned (.int .i64 ((k + 3 * es.length : Nat) : Int)) ∧ EsAt w' base v (mks k es.length) ∧ Below base w w' := by
  rcases h.form with ⟨h1, h2⟩ | ⟨g, c, h1, h2, h3, h4⟩
  · subst h1 h2
    exact (mark_none none 0 k w).mono fun e w' ⟨a1, a2⟩ => by
      subst a2
      exact ⟨by rw [a1]; simp, h, Below.refl _ _⟩
  · subst h1
    exact (mark_core g c base k es w hn h4 hk h).mono fun e w' ⟨a1, a2, a3⟩ => ⟨a1, a2, ⟨a3.os, a3.tape, a3.output, a3.size, fun q hq => a3.block q (by omega) (by simp; omega)⟩⟩
theorem held_any (v : Value) (base k n : Nat) (w : World) (hn : n ≤ 1048576) (hk : k ≤ 1000000000000) (h : EsAt w base v (mks k n)) :
    Calls Try.prog 21 #[v, .int .i64 k] w fun e w' => e = .returned (.int .i64 ((k + 3 * n : Nat) : Int)) ∧ w = w' := by
  rcases h.form with ⟨h1, h2⟩ | ⟨g, c, h1, h2, h3, h4⟩
  · subst h1
    have : n = 0 := by have := mks_len k n; rw [h2] at this; simpa using this.symm
    subst this
    exact (held_none none 0 k w).mono fun e w' ⟨a1, a2⟩ => ⟨by rw [a1]; simp, a2⟩
  · rw [mks_len] at h1 h4
    subst h1
    exact held_core g c base k n w hn h4 hk h
end Go.Proofs.Ytbihajcikleccaa.IdM
namespace Go.Proofs.Ytbihajcikleccaa.IdN
set_option maxRecDepth 8000
open Go.RowKit
open Recs Ft SegW IdP Ent
set_option linter.unusedVariables false
theorem idx_len (every : Int) : ∀ (bs : List Bat) (a t d : Int), (idx every a t d bs).length ≤ bs.length
  | [], _, _, _ => by simp [idx]
  | b :: r, a, t, d => by
    have := idx_len every r (a + size b) (tmax t b.recs) (if d ≤ a then a + every else d)
    simp only [idx, List.length_append, List.length_cons]
    by_cases h : d ≤ a
    · simp only [if_pos h, List.length_cons, List.length_nil] at this ⊢
      omega
    · simp only [if_neg h, List.length_nil] at this ⊢
      omega
theorem ans_len (every : Int) (bs : List Bat) : (ans every bs).length ≤ bs.length := by
  unfold ans
  split
  · exact idx_len every bs 0 0 0
  · simp
theorem nL_bound {T : Type} [Inhabited T] (n1 : T → Nat) (M : Nat) : ∀ (ts : List T), (∀ i, i < ts.length → n1 (ts.getD i default) ≤ M) → nL n1 ts ≤ ts.length * M
  | [], _ => by simp [nL]
  | t :: r, h => by
    have h0 := h 0 (by simp)
    have hr := nL_bound n1 M r (fun i hi => by have := h (i + 1) (by simpa using hi); simpa using this)
    simp only [List.getD_cons_zero] at h0
    simp only [nL, List.length_cons, Nat.succ_mul]
    omega
theorem marks_few {t : Sg} (h : FewS t) : 1 + nL nB1 t.bats ≤ 4000000000000000000 := by
  have hr : ∀ (b : Bat), FewB b → nB1 b ≤ 2199028498438 := fun b hb => by
    have a1 := nL_bound nR1 2097157 b.recs (fun i hi => by
      have := hb.2 i hi
      unfold FewR at this
      show 5 + nL nH1 _ ≤ _
      rw [nH_eq]; omega)
    have := hb.1
    unfold nB1
    have : b.recs.length * 2097157 ≤ 1048576 * 2097157 := Nat.mul_le_mul_right _ this
    omega
  have a2 := nL_bound nB1 2199028498438 t.bats (fun i hi => hr _ (h.2 i hi))
  have : t.bats.length * 2199028498438 ≤ 1048576 * 2199028498438 := Nat.mul_le_mul_right _ h.1
  omega
set_option maxHeartbeats 400000 in
theorem markSegment_own (t : Sg) (bv : Value) (k : Nat) (S : Nat → Prop) (w : World) (hk : 0 < k) (hk1 : k + nL nB1 t.bats ≤ 4000000000000000000) (h : OwnB w S bv t.bats) (hS : ∀ x, S x → x < w.heap.size) :
    Calls Try.prog 19 #[segVal t bv, .int .i64 k] w fun e w' => e = .returned (.int .i64 ((k + nL nB1 t.bats : Nat) : Int)) ∧ OwnB w' S bv (mL mB1 nB1 k t.bats) ∧ Foot w w' S := by
  have HW := Seg.hid h
  obtain ⟨A, c, rfl⟩ := LOwn.form h
  clear h
  unfold segVal
  go_enter Try.func19, Try.ntmps19
  go_wp2_with fail
  refine (markBatchS_own _ k S t.bats (w.alloc _) hk hk1 (LOwn.keep keepsB HW.out (by rw [hsz]; omega) (fun g hg => heap_alloc_old w _ (hS g hg)))).mono ?_
  rintro e w1 ⟨rfl, hR, b1⟩
  have HR1 := Seg.hid hR
  have B1 : Hid (Foot w w1 S) := (Foot.below (Foot.refl w S) (below1 w _)).trans b1 (fun _ hx => hx)
  clear hR b1
  go_wp2
  go_ret
  exact ⟨rfl, HR1.out, B1.out⟩
end Go.Proofs.Ytbihajcikleccaa.IdN
