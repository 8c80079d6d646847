/- The program's feed: bringAll; Ends. -/
import Derived.Test.YtkibaimemomjpaaJE25
import Derived.Test.YtkibaimemomjpaaJE28
namespace Go.Proofs.Ytkibaimemomjpaa.EdA
set_option maxRecDepth 8000
open Go.RowKit
open Ls Lp QyP QsP QtP QuP TbP IoP EdP RkP IrA EdI EdF EdM EdB
open Recs (hsz below1 below2 chain chainD)
set_option linter.unusedVariables false
theorem bringN_out (p : Nat) : ∀ (n : Nat) (s : St), (bringN p n s).out.length ≤ s.out.length + 2 * n
  | 0, s => Nat.le_refl _
  | n + 1, s => by
    rw [bringN]
    have h1 := bringN_out p n (bring p s)
    have h2 := bring_out p s
    split at h2 <;> omega
theorem bringN_succ (p : Nat) : ∀ (n : Nat) (s : St), bringN p (n + 1) s = bring p (bringN p n s)
  | 0, s => rfl
  | n + 1, s => by
    rw [bringN, bringN_succ p n (bring p s)]
    rfl
theorem bringN_left (p q : Nat) : ∀ (n : Nat) (s : St), ((bringN p n s).left q) = if q = p then (s.left p).drop n else s.left q
  | 0, s => by
    show s.left q = _
    by_cases h : q = p
    · subst h; simp
    · rw [if_neg h]
  | n + 1, s => by
    rw [bringN, bringN_left p q n (bring p s)]
    by_cases h : q = p
    · rw [if_pos h, if_pos h, bring_left, if_pos rfl]
      simp
    · rw [if_neg h, if_neg h, bring_left, if_neg h]
/-- What may come of the lists: all times are right, none is long. -/
structure Rt (s : St) : Prop where
  few : ∀ p, (s.left p).length ≤ 300
  ok : ∀ p a, a ∈ s.left p → a.time ≤ 1000000000000 ∧ a.row.length ≤ 1048576
theorem Rt.bringN {s : St} (h : Rt s) (p n : Nat) : Rt (bringN p n s) := by
  refine ⟨fun q => ?_, fun q a ha => ?_⟩
  · rw [bringN_left]
    split
    · rw [List.length_drop]; have := h.few p; omega
    · exact h.few q
  · rw [bringN_left] at ha
    split at ha
    · exact h.ok p a (List.mem_of_mem_drop ha)
    · exact h.ok q a ha
theorem all_step (n k : Nat) (s : St) : allK n (k + 1) s = EdP.bringN k ((allK n k s).left k).length (allK n k s) := rfl
theorem all_out (n : Nat) {s : St} (h : Rt s) : ∀ k, Rt (allK n k s) ∧ (allK n k s).out.length ≤ s.out.length + 600 * k
  | 0 => ⟨h, by show s.out.length ≤ _; omega⟩
  | k + 1 => by
    obtain ⟨h1, h2⟩ := all_out n h k
    refine ⟨by rw [all_step]; exact h1.bringN _ _, ?_⟩
    rw [all_step]
    have h3 := bringN_out k ((allK n k s).left k).length (allK n k s)
    have := h1.few k
    omega
theorem Rt.run {s : St} (h : Rt s) : ∀ (a : List Nat), Rt (EdP.run a s) := fun a => by
  induction a generalizing s with
  | nil => exact h
  | cons p a ih => exact ih (h.bringN p 1)
def lenC : Option Value → Nat
  | some (.slice _ n _) => n
  | _ => 0
set_option maxHeartbeats 6400000 in
theorem all_any (w0 : World) (S : Nat → Prop) (hS : ∀ g, S g → g < w0.heap.size) (fb n : Nat) (wr : World) (A : Option Addr) (c : Nat) (s : St) (h : Fee w0 S fb wr (.slice A n c) n s) (hn : n ≤ 10) (hc : s.out.length ≤ 900000) (hr : Rt s) :
    Calls Try.prog 63 #[.pointer (some ⟨fb, 0, none⟩)] wr fun e w' => e = .returned (.tuple #[]) ∧ Fee w0 S fb w' (.slice A n c) n (endK n (allK n n s)) := by
  have HF0 := Seg.hid h
  have AO : Hid (∀ k, Rt (allK n k s) ∧ (allK n k s).out.length ≤ s.out.length + 600 * k) := fun k => all_out n hr k
  have CELL : Hid (∀ wx t, Fee w0 S fb wx (.slice A n c) n t → wx.cell? ⟨fb, 0, none⟩ = some (.slice A n c)) := fun wx t ht => by
    obtain ⟨A9, k9, F9, P9, hb9, -⟩ := fee_pt ht
    exact cell_of_row wx fb 0 _ _ (0, 0) hb9
  have e0 := CELL.out wr s h
  have CB : Hid (∀ (p : Nat) (wx : World) (t : St), p < n → Rt t → t.out.length ≤ 999999 → Fee w0 S fb wx (.slice A n c) n t → Calls Try.prog 62 #[.pointer (some ⟨fb, 0, none⟩), .int .i64 p] wx fun e w' => e = .returned (.tuple #[]) ∧ Fee w0 S fb w' (.slice A n c) n (bring p t)) := fun p wx t h1 h2 h3 h4 => bring_any w0 S hS fb n p wx _ t h4 h1 hn h3 (by have := h2.few p; omega) (h2.ok p)
  have CM : Hid (∀ (p : Nat) (wx : World) (t : St), p < n → t.out.length ≤ 1000000 → Fee w0 S fb wx (.slice A n c) n t → Calls Try.prog 96 #[.pointer (some ⟨fb, 0, none⟩), .int .i64 p, .int .i64 1000000000001] wx fun e w' => e = .returned (.tuple #[]) ∧ Fee w0 S fb w' (.slice A n c) n (markS p 1000000000001 t)) := fun p wx t h1 h2 h3 => mark_any w0 S fb n p wx _ t _ h3 (by omega) h2
  clear h hr
  go_enter Try.func63, Try.ntmps63
  go_wp2
  go_loopw [9] (fun i wx => ∃ k : Nat, i = .int .i64 k ∧ k ≤ n ∧ Hid (Fee w0 S fb wx (.slice A n c) n (allK n k s))) (fun i _ => n - (intOf i).toNat)
  case atStart => exact ⟨0, rfl, Nat.zero_le _, HF0.out⟩
  case round =>
  clear e0 HF0
  obtain ⟨k, rfl, hk, HG⟩ := hrel
  have e0 := CELL.out wr _ HG.out
  by_cases hlt : k < n
  · have h0 : (0 : Int) ≤ (k : Int) := by omega
    have h1 : (k : Int) < (n : Int) := by omega
    have ST : Hid (allK n (k + 1) s = EdP.bringN k ((allK n k s).left k).length (allK n k s)) := all_step n k s
    obtain ⟨RT, OT⟩ := AO.out k
    have RTH := Seg.hid RT
    have OTH : Hid ((allK n k s).out.length ≤ 910000) := by show _ ≤ _; omega
    clear RT OT
    obtain ⟨g, _, _, _, eL, -⟩ := LRow.look HG.out.row hlt
    simp only [Value.slice.injEq, true_and] at eL
    obtain ⟨rfl, rfl⟩ := eL
    generalize allK n k s = t at *
    go_wp2
    go_loopw [12] (fun _ wq => ∃ j : Nat, j ≤ (t.left k).length ∧ Hid (Fee w0 S fb wq (.slice (some ⟨g, 0, none⟩) n c) n (EdP.bringN k j t))) (fun _ wq => lenC (wq.cell? ⟨g, k, none⟩))
    case atStart => exact ⟨0, Nat.zero_le _, HG.out⟩
    case round =>
    clear e0 HG
    obtain ⟨j, hj, HJ⟩ := hrel
    have e1 := CELL.out wr _ HJ.out
    obtain ⟨_, _, Aq, cq, eL, -, z1, z2, -, -⟩ := LRow.look HJ.out.row hlt
    cases eL
    rw [bringN_left, if_pos rfl, List.length_drop] at z1
    have FW := RTH.out.few k
    by_cases hjl : j < (t.left k).length
    · obtain ⟨x, hx⟩ : ∃ x, (t.left k).length - j = x := ⟨_, rfl⟩
      rw [hx] at z1
      have MM : Hid (lenC (wr.cell? ⟨g, k, none⟩) = x) := by show _ = _; rw [z1]; rfl
      have ML : Hid (∀ w5, Fee w0 S fb w5 (.slice (some ⟨g, 0, none⟩) n c) n (bring k (EdP.bringN k j t)) → lenC (w5.cell? ⟨g, k, none⟩) < x) := fun w5 h5 => by
        obtain ⟨_, _, Aq', cq', eL, -, y1, -, -, -⟩ := LRow.look h5.row hlt
        cases eL
        rw [y1]
        show ((bring k (EdP.bringN k j t)).left k).length < x
        rw [bring_len, bringN_left, if_pos rfl, List.length_drop]
        omega
      have hx0 : (0 : Int) < (x : Int) := by omega
      have CJ := Seg.hid (CB.out k wr (EdP.bringN k j t) hlt (RTH.out.bringN k j) (by have := bringN_out k j t; have := OTH.out; omega) HJ.out)
      clear HJ
      go_wp2_with (go_at_call 62; refine CJ.out.mono ?_; rintro e w5 ⟨rfl, h5⟩; have H5 := Seg.hid h5; clear h5)
      go_roundw
      case rel => exact ⟨j + 1, by omega, by rw [bringN_succ]; exact H5.out⟩
      case measure => rw [MM.out]; exact ML.out _ H5.out
    · have hje : j = (t.left k).length := by omega
      have z3 : (t.left k).length - j = 0 := by omega
      rw [z3] at z1
      have HN : Hid (Fee w0 S fb wr (.slice (some ⟨g, 0, none⟩) n c) n (allK n (k + 1) s)) := by show Fee _ _ _ _ _ _ _; rw [ST.out, ← hje]; exact HJ.out
      clear HJ hje z3
      go_wp2
      go_roundw
      case rel => exact ⟨k + 1, by go_num, hlt, HN.out⟩
      case measure => simp [intOf]; omega
  · have hkl : k = n := by omega
    have HN : Hid (Fee w0 S fb wr (.slice A n c) n (allK n n s)) := by have := HG.out; rw [hkl] at this; exact this
    have hx1 : ¬ (k : Int) < (n : Int) := by omega
    have OTH : Hid ((allK n n s).out.length ≤ 910000) := by show _ ≤ _; have := (AO.out n).2; omega
    clear hkl HG AO CB
    obtain ⟨t, ht⟩ : ∃ t, allK n n s = t := ⟨_, rfl⟩
    rw [ht] at HN OTH
    have HE := Seg.hid ht
    clear ht
    go_wp2
    go_loopw [30] (fun i wx => ∃ k : Nat, i = .int .i64 k ∧ k ≤ n ∧ Hid (Fee w0 S fb wx (.slice A n c) n (endK k t))) (fun i _ => n - (intOf i).toNat)
    case atStart => exact ⟨0, rfl, Nat.zero_le _, HN.out⟩
    case round =>
    clear e0 HN hlt hx1 hk
    obtain ⟨k, rfl, hk, HG⟩ := hrel
    by_cases hlt : k < n
    · have h0 : (0 : Int) ≤ (k : Int) := by omega
      have h1 : (k : Int) < (n : Int) := by omega
      have CJ := Seg.hid (CM.out k wr (endK k t) hlt (by have := end_out k t; have := OTH.out; omega) HG.out)
      clear HG
      go_wp2_with (go_at_call 96; refine CJ.out.mono ?_; rintro e w5 ⟨rfl, h5⟩; have H5 := Seg.hid h5; clear h5)
      go_roundw
      case rel => exact ⟨k + 1, by go_num, hlt, H5.out⟩
      case measure => simp [intOf]; omega
    · have hkl : k = n := by omega
      have HN : Hid (Fee w0 S fb wr (.slice A n c) n (endK n t)) := by have := HG.out; rw [hkl] at this; exact this
      have hx1 : ¬ (k : Int) < (n : Int) := by omega
      clear hkl HG
      go_wp2
      go_end0
      exact ⟨rfl, by rw [HE.out]; exact HN.out⟩
end Go.Proofs.Ytkibaimemomjpaa.EdA
