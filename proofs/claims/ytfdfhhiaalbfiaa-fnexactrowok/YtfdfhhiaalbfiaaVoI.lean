/- A Field's cells, and the program's ValueOf. -/
import Derived.Test.YtfdfhhiaalbfiaaVkJ
import Derived.Test.YtfdfhhiaalbfiaaTFld
import Derived.Deep.RegionHeld3
import Derived.Deep.RegionLaw
import Derived.BigQuiet
namespace Go.Proofs.Ytfdfhhiaalbfiaa.VoI
set_option maxRecDepth 8000
open Go.RowKit
open Ls Lp VkP VkR
open Recs (hsz below1 below2 below3 chain chainD)
set_option linter.unusedVariables false
set_option maxHeartbeats 1600000 in
theorem impl_any (x y : Value) (f : Fld) (u : Vlu) (w : World) (S : Nat → Prop) (hx : FldAt w S x f) (hy : VluAt w S y u) (hS : ∀ g, S g → g < w.heap.size) (hf : szVlu u ≤ 1048576) : Calls Try.prog 62 #[x, y] w fun e w' => e = .returned (.bool (vof f.kind f.lst f.may u)) ∧ Below w.heap.size w w' := by
  obtain ⟨A, c, B, d, rfl, -, -⟩ := form hx
  have HY := Seg.hid hy
  obtain ⟨A2, c2, rfl, -⟩ := formV hy
  clear hx hy
  have R0 : Hid (vof f.kind f.lst f.may u = (kOk f.kind && vok u && (if u.kind = 0 then f.may else decide (u.kind = f.kind) && (u.lst == f.lst)))) := rfl
  go_enter Try.func62, Try.ntmps62
  cases hk : kOk f.kind with
  | false =>
    have R : Hid (vof f.kind f.lst f.may u = false) := by show _ = _; rw [R0.out]; simp [hk]
    have HK := Seg.hid hk
    clear hk
    go_wp2_with (go_at_call 98; refine (VkI.kind_no _ _ HK.out).mono ?_; rintro e w1 ⟨rfl, b1⟩; have B1 := Seg.hid (chain (below2 w _ _) b1); clear b1)
    go_ret
    exact ⟨by rw [R.out]; rfl, B1.out⟩
  | true =>
    have HK := Seg.hid hk
    have R1 : Hid (vof f.kind f.lst f.may u = (vok u && (if u.kind = 0 then f.may else decide (u.kind = f.kind) && (u.lst == f.lst)))) := by show _ = _; rw [R0.out]; simp [hk]
    clear hk
    have CV : Hid (∀ wx, Below w.heap.size w wx → Calls Try.prog 99 #[.agg (vrow u A2 c2)] wx fun e w' => e = .returned (.bool (vok u)) ∧ Below wx.heap.size wx w') := fun wx b => VkI.value_any _ u wx S (HY.out.below b hS) (fun g hg => Nat.lt_of_lt_of_le (hS g hg) b.size) hf
    go_wp2_with fail
    refine (VkI.kind_yes _ _ HK.out).mono ?_
    rintro e w1 ⟨rfl, b1⟩
    have B1 := Seg.hid (chain (below2 w _ _) b1)
    have T1 : Hid (w1.heap[w.heap.size]? = some (.cells (frow f A c B d) 102 (0, 0))) := (b1.block w.heap.size (by rw [hsz, hsz]; omega)).trans (at2z w _ _)
    have T2 : Hid (w1.heap[w.heap.size + 1]? = some (.cells (vrow u A2 c2) 100 (0, 0))) := (b1.block (w.heap.size + 1) (by rw [hsz, hsz]; omega)).trans (at2y w _ _)
    have s1 : w.heap.size + 1 < w1.heap.size := (Array.getElem?_eq_some_iff.1 T2.out).1
    clear b1
    have p0 : w1.cell? ⟨w.heap.size + 1, 0, none⟩ = some (.int .i64 u.kind) := cell_of_row w1 _ 0 _ _ (0, 0) T2.out
    have p1 : w1.cell? ⟨w.heap.size + 1, 1, none⟩ = some (.int .i64 u.num) := cell_of_row w1 _ 1 _ _ (0, 0) T2.out
    have p2 : w1.cell? ⟨w.heap.size + 1, 2, none⟩ = some (.string u.text) := cell_of_row w1 _ 2 _ _ (0, 0) T2.out
    have p3 : w1.cell? ⟨w.heap.size + 1, 3, none⟩ = some (.bool u.lst) := cell_of_row w1 _ 3 _ _ (0, 0) T2.out
    have p4 : w1.cell? ⟨w.heap.size + 1, 4, none⟩ = some (.slice A2 u.items.length c2) := cell_of_row w1 _ 4 _ _ (0, 0) T2.out
    go_wp2_with fail
    refine (CV.out _ B1.out).mono ?_
    rintro e w2 ⟨rfl, b2⟩
    have B2 := Seg.hid (chain B1.out b2)
    have q0 := (b2.cell (p := ⟨w.heap.size + 1, 0, none⟩) s1).trans p0
    have q3 := (b2.cell (p := ⟨w.heap.size + 1, 3, none⟩) s1).trans p3
    have r1 : w2.cell? ⟨w.heap.size, 1, none⟩ = some (.int .i64 f.kind) := cell_of_row w2 _ 1 _ _ (0, 0) ((b2.block w.heap.size (by omega)).trans T1.out)
    have r2 : w2.cell? ⟨w.heap.size, 2, none⟩ = some (.bool f.lst) := cell_of_row w2 _ 2 _ _ (0, 0) ((b2.block w.heap.size (by omega)).trans T1.out)
    have r3 : w2.cell? ⟨w.heap.size, 3, none⟩ = some (.bool f.may) := cell_of_row w2 _ 3 _ _ (0, 0) ((b2.block w.heap.size (by omega)).trans T1.out)
    clear b2 p0 p1 p2 p3 p4
    cases hv : vok u with
    | false =>
      have R : Hid (vof f.kind f.lst f.may u = false) := by show _ = _; rw [R1.out]; simp [hv]
      clear hv
      go_wp2
      go_ret
      exact ⟨by rw [R.out]; rfl, B2.out⟩
    | true =>
      have R2 : Hid (vof f.kind f.lst f.may u = (if u.kind = 0 then f.may else decide (u.kind = f.kind) && (u.lst == f.lst))) := by show _ = _; rw [R1.out]; simp [hv]
      clear hv
      by_cases h0 : u.kind = 0
      · have R : Hid (vof f.kind f.lst f.may u = f.may) := by show _ = _; rw [R2.out]; simp [h0]
        go_wp2
        go_ret
        exact ⟨by rw [R.out]; rfl, B2.out⟩
      · by_cases h1 : u.kind = f.kind
        · have h01 : ¬ f.kind = 0 := by omega
          obtain ⟨ul, hul⟩ : ∃ b, u.lst = b := ⟨_, rfl⟩
          obtain ⟨fl, hfl⟩ : ∃ b, f.lst = b := ⟨_, rfl⟩
          have R : Hid (vof f.kind f.lst f.may u = (ul == fl)) := by show _ = _; rw [R2.out]; simp [h1, h01, hul, hfl]
          cases ul <;> cases fl
          all_goals
            go_wp2
            go_ret
            exact ⟨by rw [R.out]; rfl, B2.out⟩
        · have R : Hid (vof f.kind f.lst f.may u = false) := by show _ = _; rw [R2.out]; simp [h0, h1]
          have h2 : (u.kind == f.kind) = false := by simpa using h1
          go_wp2
          go_ret
          exact ⟨by rw [R.out]; rfl, B2.out⟩
end Go.Proofs.Ytfdfhhiaalbfiaa.VoI
