/- The program's ValueOk and ValueOf; A Field's cells, and the program's ValueOf. -/
import Derived.Deep.RegionHeld3
import Derived.Deep.RegionLaw
import Derived.BigQuiet
import Derived.Test.YtdhicmbfknagjaaJRO17
import Derived.Test.YtdhicmbfknagjaaJRO12
namespace Go.Proofs.Ytdhicmbfknagjaa.VkI
set_option maxRecDepth 8000
open Go.RowKit
open Ls Lp VkP VkR
open Recs (hsz below1 below2 below3 chain chainD)
set_option linter.unusedVariables false
set_option maxHeartbeats 3200000 in
theorem value_any (v : Value) (u : Vlu) (w : World) (S : Nat → Prop) (hv : VluAt w S v u) (hS : ∀ g, S g → g < w.heap.size) (hf : szVlu u ≤ 1048576) : Calls Try.prog 124 #[v] w fun e w' => e = .returned (.bool (vok u)) ∧ Below w.heap.size w w' := by
  obtain ⟨f, rfl, y0, y1, y2, y3, y4⟩ := hv
  have hz : u.text.size ≤ 1048576 ∧ szL szItm u.items ≤ 1048576 := by unfold szVlu at hf; omega
  obtain ⟨hz1, hz2⟩ := hz
  obtain ⟨A, c, g, o, F, e4, OP, hn⟩ := opn y4 hS
  have ha : arrVlu f = vrow u A c := by simp only [arrVlu, vrow]; rw [y0, y1, y2, y3, e4]
  rw [ha]
  clear ha y0 y1 y2 y3 y4 e4 hf
  have HO := Seg.hid OP
  have HZ := Seg.hid hz2
  clear OP hz2
  cases hk : kOk u.kind with
  | false =>
    have R : Hid (vok u = zero u) := by show _ = _; simp [vok, hk]
    have HK := Seg.hid hk
    clear hk
    go_enter Try.func124, Try.ntmps124
    go_wp2_with fail
    refine (kind_no _ _ HK.out).mono ?_
    rintro e w1 ⟨rfl, b1⟩
    have B1 := Seg.hid (chain (below1 w _) b1)
    obtain ⟨c0, c1, c2, c3, c4⟩ := five b1
    clear b1
    go_wp2_with (go_at_call 120; refine (zero_any u A c w1).mono ?_; rintro e w2 ⟨rfl, b2⟩)
    go_ret
    exact ⟨by rw [R.out]; rfl, chain B1.out b2⟩
  | true =>
  obtain ⟨ty, K, x, KN⟩ := kn_any _ hk
  have hif := KN.ifc
  have hnum := KN.num
  have hni := KN.nil
  have hme := KN.meth
  have CH : Hid (∀ (n : Int) (t : ByteArray) (wx : World), t.size ≤ maxLen → Calls Try.prog K #[x, .agg #[.int .i64 n, .string t]] wx fun e w' => e = .returned (.bool (has u.kind n t)) ∧ Below wx.heap.size wx w') := KN.calls
  clear KN
  have HK := Seg.hid hk
  have VK : Hid (vok u = if u.lst = false then decide (u.items.length = 0) && has u.kind u.num u.text else nil0 u.num u.text && decide (u.items.length ≤ 30) && u.items.all (hasI u.kind)) := by show _ = _; simp [vok, hk]
  clear hk
  go_enter Try.func124, Try.ntmps124
  go_wp2_with fail
  refine (kind_yes _ _ HK.out).mono ?_
  rintro e w1 ⟨rfl, b1⟩
  have B1 := Seg.hid (chain (below1 w _) b1)
  have FV1 : Hid (w.heap.size < w1.heap.size) := by show _ < _; have := b1.size; rw [hsz] at this; omega
  obtain ⟨c0, c1, c2, c3, c4⟩ := five b1
  clear b1
  rw [hif]
  clear hif
  cases hl : u.lst with
  | false =>
    by_cases hz : u.items.length = 0
    · have R : Hid (vok u = has u.kind u.num u.text) := by show _ = _; rw [VK.out]; simp [hl, hz]
      have hg1 : w.heap.size < w1.heap.size := FV1.out
      rcases hnum with rfl | rfl | rfl
      all_goals
        go_wp2_with fail
        go_region_held3 (fun w' => w'.cell? ⟨w.heap.size, 0, none⟩ = some (.int .i64 u.kind) ∧ w'.cell? ⟨w.heap.size, 1, none⟩ = some (.int .i64 u.num) ∧ w'.cell? ⟨w.heap.size, 2, none⟩ = some (.string u.text) ∧ w'.cell? ⟨w.heap.size, 3, none⟩ = some (.bool u.lst) ∧ w'.cell? ⟨w.heap.size, 4, none⟩ = some (.slice A u.items.length c)) (first | exact ⟨c0, c1, c2, c3, c4⟩ | exact ⟨r0, r1, r2, r3, r4⟩ | exact ⟨s0, s1, s2, s3, s4⟩ | go_keep) (first | (go_at_call 99; refine (only_any _ _ _ _ _ _).mono ?_; rintro e w2 ⟨rfl, b2⟩; have B2 : Hid (Below w1.heap.size w1 w2) := ⟨b2.os, b2.tape, b2.output, b2.size, b2.block⟩; have hg2 : w.heap.size < w2.heap.size := Nat.lt_of_lt_of_le hg1 B2.out.size; clear b2; have r0 := (B2.out.cell (p := ⟨w.heap.size, 0, none⟩) hg1).trans c0; have r1 := (B2.out.cell (p := ⟨w.heap.size, 1, none⟩) hg1).trans c1; have r2 := (B2.out.cell (p := ⟨w.heap.size, 2, none⟩) hg1).trans c2; have r3 := (B2.out.cell (p := ⟨w.heap.size, 3, none⟩) hg1).trans c3; have r4 := (B2.out.cell (p := ⟨w.heap.size, 4, none⟩) hg1).trans c4) | ((first | go_at_call 179 | go_at_call 174 | go_at_call 184); refine (CH.out _ _ _ (by unfold maxLen; omega)).mono ?_; rintro e w3 ⟨rfl, b3⟩; have B3 : Hid (Below w2.heap.size w2 w3) := ⟨b3.os, b3.tape, b3.output, b3.size, b3.block⟩; clear b3; have s0 := (B3.out.cell (p := ⟨w.heap.size, 0, none⟩) hg2).trans r0; have s1 := (B3.out.cell (p := ⟨w.heap.size, 1, none⟩) hg2).trans r1; have s2 := (B3.out.cell (p := ⟨w.heap.size, 2, none⟩) hg2).trans r2; have s3 := (B3.out.cell (p := ⟨w.heap.size, 3, none⟩) hg2).trans r3; have s4 := (B3.out.cell (p := ⟨w.heap.size, 4, none⟩) hg2).trans r4))
        all_goals
          go_wp2
          go_ret
          exact ⟨by rw [R.out]; rfl, chain B1.out (chain B2.out B3.out)⟩
    · have R : Hid (vok u = false) := by show _ = _; rw [VK.out]; simp [hl, hz]
      have hz0 : ((u.items.length : Int) == 0) = false := by
        have : ¬ (u.items.length : Int) = 0 := by omega
        simpa using this
      go_wp2_with fail
      go_quiet (fail)
      all_goals
        go_wp2
        go_ret
        exact ⟨by rw [R.out]; rfl, chain B1.out (((Qt.refl w1).drewN _).bel _)⟩
  | true =>
    have hg1 : w.heap.size < w1.heap.size := FV1.out
    obtain ⟨e, he⟩ : ∃ e, (u.text.toList == []) = e := ⟨_, rfl⟩
    by_cases hm : u.num = 0
    · cases e with
      | false =>
        have R : Hid (vok u = false) := by show _ = _; rw [VK.out]; simp [hl, nil0, em, he]
        go_wp2_with (go_at_call 99; refine (only_any _ _ _ _ _ _).mono ?_; rintro e w2 ⟨rfl, b2⟩; have B2 := Seg.hid (chain B1.out b2); clear b2)
        go_ret
        exact ⟨by rw [R.out]; rfl, B2.out⟩
      | true =>
        have R : Hid (vok u = (decide (u.items.length ≤ 30) && u.items.all (hasI u.kind))) := by show _ = _; rw [VK.out]; simp [hl, nil0, em, he, hm]
        by_cases h30 : 30 < u.items.length
        · have R2 : Hid (vok u = false) := by show _ = _; rw [R.out]; simp; omega
          have q30 : (30 : Int) < (u.items.length : Int) := by omega
          go_wp2_with (go_at_call 99; refine (only_any _ _ _ _ _ _).mono ?_; rintro e w2 ⟨rfl, b2⟩; have B2 := Seg.hid (chain B1.out b2); have r4 := (b2.cell (p := ⟨w.heap.size, 4, none⟩) hg1).trans c4; clear b2)
          go_ret
          exact ⟨by rw [R2.out]; rfl, B2.out⟩
        · have R2 : Hid (vok u = u.items.all (hasI u.kind)) := by show _ = _; rw [R.out]; simp; omega
          have q30 : ¬ (30 : Int) < (u.items.length : Int) := by omega
          go_wp2_with (go_at_call 99; refine (only_any _ _ _ _ _ _).mono ?_; rintro e w2 ⟨rfl, b2⟩; have B2 := Seg.hid (chain B1.out b2); have r4 := (b2.cell (p := ⟨w.heap.size, 4, none⟩) hg1).trans c4; clear b2)
          rcases hnum with rfl | rfl | rfl
          all_goals
            go_loopw [49] (fun i wr => ∃ k : Nat, k ≤ u.items.length ∧ i = .int .i64 k ∧ Hid (Below w.heap.size w wr ∧ (u.items.take k).all (hasI u.kind) = true)) (fun i _ => u.items.length - (intOf i).toNat)
            case atStart => exact ⟨0, Nat.zero_le _, rfl, B2.out, by simp⟩
            case round =>
              obtain ⟨k, hk, rfl, HG⟩ := hrel
              by_cases hlt : k < u.items.length
              · obtain ⟨d0, d1⟩ := itm_at HO.out hS HG.out.1 hlt
                have h0 : (0 : Int) ≤ (k : Int) := by omega
                have h1 : (k : Int) < (u.items.length : Int) := by omega
                have ON := HO.out.addr.resolve_left (by omega)
                obtain ⟨ea, hc, hgw⟩ := ON
                subst ea
                have TX := Seg.hid (one_text HZ.out hlt)
                have NX := Seg.hid (all_next (hasI u.kind) u.items k hlt HG.out.2)
                have BX := Seg.hid (all_bad (hasI u.kind) u.items k hlt)
                unfold hasI at NX BX
                generalize u.items.getD k default = it at *
                cases hy : has u.kind it.num it.text with
                | true =>
                  have HY : Hid ((u.items.take (k + 1)).all (hasI u.kind) = true) := NX.out hy
                  have CQ := Seg.hid (fun wx => CH.out it.num it.text wx (by have := TX.out; unfold maxLen; omega))
                  rw [hy] at CQ
                  clear hy NX BX
                  go_wp2_with ((first | go_at_call 179 | go_at_call 174 | go_at_call 184); refine (CQ.out _).mono ?_; rintro e w3 ⟨rfl, b3⟩; have B3 : Hid (Below w.heap.size w w3) := chain HG.out.1 (chain (below1 wr _) b3); clear b3)
                  go_roundw
                  case rel => exact ⟨k + 1, by omega, by go_num, B3.out, HY.out⟩
                  case measure => simp [intOf]; omega
                | false =>
                  have HY : Hid (u.items.all (hasI u.kind) = false) := BX.out hy
                  have CQ := Seg.hid (fun wx => CH.out it.num it.text wx (by have := TX.out; unfold maxLen; omega))
                  rw [hy] at CQ
                  clear hy NX BX
                  go_wp2_with ((first | go_at_call 179 | go_at_call 174 | go_at_call 184); refine (CQ.out _).mono ?_; rintro e w3 ⟨rfl, b3⟩; have B3 : Hid (Below w.heap.size w w3) := chain HG.out.1 (chain (below1 wr _) b3); clear b3)
                  go_ret
                  exact ⟨by rw [R2.out, HY.out]; rfl, B3.out⟩
              · obtain rfl : k = u.items.length := by omega
                have HY : Hid (u.items.all (hasI u.kind) = true) := by show _ = _; have := HG.out.2; rwa [List.take_length] at this
                go_wp2
                go_ret
                exact ⟨by rw [R2.out, HY.out]; rfl, HG.out.1⟩
    · have R : Hid (vok u = false) := by show _ = _; rw [VK.out]; simp [hl, nil0, hm]
      go_wp2_with (go_at_call 99; refine (only_any _ _ _ _ _ _).mono ?_; rintro e w2 ⟨rfl, b2⟩; have B2 := Seg.hid (chain B1.out b2); clear b2)
      go_ret
      exact ⟨by rw [R.out]; rfl, B2.out⟩
end Go.Proofs.Ytdhicmbfknagjaa.VkI
namespace Go.Proofs.Ytdhicmbfknagjaa.VoI
set_option maxRecDepth 8000
open Go.RowKit
open Ls Lp VkP VkR
open Recs (hsz below1 below2 below3 chain chainD)
set_option linter.unusedVariables false
set_option maxHeartbeats 1600000 in
theorem impl_any (x y : Value) (f : Fld) (u : Vlu) (w : World) (S : Nat → Prop) (hx : FldAt w S x f) (hy : VluAt w S y u) (hS : ∀ g, S g → g < w.heap.size) (hf : szVlu u ≤ 1048576) : Calls Try.prog 96 #[x, y] w fun e w' => e = .returned (.bool (vof f.kind f.lst f.may u)) ∧ Below w.heap.size w w' := by
  obtain ⟨A, c, B, d, rfl, -, -⟩ := form hx
  have HY := Seg.hid hy
  obtain ⟨A2, c2, rfl, -⟩ := formV hy
  clear hx hy
  have R0 : Hid (vof f.kind f.lst f.may u = (kOk f.kind && vok u && (if u.kind = 0 then f.may else decide (u.kind = f.kind) && (u.lst == f.lst)))) := rfl
  go_enter Try.func96, Try.ntmps96
  cases hk : kOk f.kind with
  | false =>
    have R : Hid (vof f.kind f.lst f.may u = false) := by show _ = _; rw [R0.out]; simp [hk]
    have HK := Seg.hid hk
    clear hk
    go_wp2_with (go_at_call 98; refine (VkI.kind_no _ _ HK.out).mono ?_; rintro e w1 ⟨rfl, b1⟩; have B1 := Seg.hid (chain (below2 w _ _) b1); clear b1)
    go_ret
    exact ⟨by rw [R.out]; rfl, B1.out⟩
  | true =>
    have HK := Seg.hid hk
    have R1 : Hid (vof f.kind f.lst f.may u = (vok u && (if u.kind = 0 then f.may else decide (u.kind = f.kind) && (u.lst == f.lst)))) := by show _ = _; rw [R0.out]; simp [hk]
    clear hk
    have CV : Hid (∀ wx, Below w.heap.size w wx → Calls Try.prog 124 #[.agg (vrow u A2 c2)] wx fun e w' => e = .returned (.bool (vok u)) ∧ Below wx.heap.size wx w') := fun wx b => VkI.value_any _ u wx S (HY.out.below b hS) (fun g hg => Nat.lt_of_lt_of_le (hS g hg) b.size) hf
    go_wp2_with fail
    refine (VkI.kind_yes _ _ HK.out).mono ?_
    rintro e w1 ⟨rfl, b1⟩
    have B1 := Seg.hid (chain (below2 w _ _) b1)
    have T1 : Hid (w1.heap[w.heap.size]? = some (.cells (frow f A c B d) 86 (0, 0))) := (b1.block w.heap.size (by rw [hsz, hsz]; omega)).trans (at2z w _ _)
    have T2 : Hid (w1.heap[w.heap.size + 1]? = some (.cells (vrow u A2 c2) 84 (0, 0))) := (b1.block (w.heap.size + 1) (by rw [hsz, hsz]; omega)).trans (at2y w _ _)
    have s1 : w.heap.size + 1 < w1.heap.size := (Array.getElem?_eq_some_iff.1 T2.out).1
    clear b1
    have p0 : w1.cell? ⟨w.heap.size + 1, 0, none⟩ = some (.int .i64 u.kind) := cell_of_row w1 _ 0 _ _ (0, 0) T2.out
    have p1 : w1.cell? ⟨w.heap.size + 1, 1, none⟩ = some (.int .i64 u.num) := cell_of_row w1 _ 1 _ _ (0, 0) T2.out
    have p2 : w1.cell? ⟨w.heap.size + 1, 2, none⟩ = some (.string u.text) := cell_of_row w1 _ 2 _ _ (0, 0) T2.out
    have p3 : w1.cell? ⟨w.heap.size + 1, 3, none⟩ = some (.bool u.lst) := cell_of_row w1 _ 3 _ _ (0, 0) T2.out
    have p4 : w1.cell? ⟨w.heap.size + 1, 4, none⟩ = some (.slice A2 u.items.length c2) := cell_of_row w1 _ 4 _ _ (0, 0) T2.out
    go_wp2_with fail
    refine (CV.out _ B1.out).mono ?_
    rintro e w2 ⟨rfl, b2⟩
    have B2 := Seg.hid (chain B1.out b2)
    have q0 := (b2.cell (p := ⟨w.heap.size + 1, 0, none⟩) s1).trans p0
    have q3 := (b2.cell (p := ⟨w.heap.size + 1, 3, none⟩) s1).trans p3
    have r1 : w2.cell? ⟨w.heap.size, 1, none⟩ = some (.int .i64 f.kind) := cell_of_row w2 _ 1 _ _ (0, 0) ((b2.block w.heap.size (by omega)).trans T1.out)
    have r2 : w2.cell? ⟨w.heap.size, 2, none⟩ = some (.bool f.lst) := cell_of_row w2 _ 2 _ _ (0, 0) ((b2.block w.heap.size (by omega)).trans T1.out)
    have r3 : w2.cell? ⟨w.heap.size, 3, none⟩ = some (.bool f.may) := cell_of_row w2 _ 3 _ _ (0, 0) ((b2.block w.heap.size (by omega)).trans T1.out)
    clear b2 p0 p1 p2 p3 p4
    cases hv : vok u with
    | false =>
      have R : Hid (vof f.kind f.lst f.may u = false) := by show _ = _; rw [R1.out]; simp [hv]
      clear hv
      go_wp2
      go_ret
      exact ⟨by rw [R.out]; rfl, B2.out⟩
    | true =>
      have R2 : Hid (vof f.kind f.lst f.may u = (if u.kind = 0 then f.may else decide (u.kind = f.kind) && (u.lst == f.lst))) := by show _ = _; rw [R1.out]; simp [hv]
      clear hv
      by_cases h0 : u.kind = 0
      · have R : Hid (vof f.kind f.lst f.may u = f.may) := by show _ = _; rw [R2.out]; simp [h0]
        go_wp2
        go_ret
        exact ⟨by rw [R.out]; rfl, B2.out⟩
      · by_cases h1 : u.kind = f.kind
        · have h01 : ¬ f.kind = 0 := by omega
          obtain ⟨ul, hul⟩ : ∃ b, u.lst = b := ⟨_, rfl⟩
          obtain ⟨fl, hfl⟩ : ∃ b, f.lst = b := ⟨_, rfl⟩
          have R : Hid (vof f.kind f.lst f.may u = (ul == fl)) := by show _ = _; rw [R2.out]; simp [h1, h01, hul, hfl]
          cases ul <;> cases fl
          all_goals
            go_wp2
            go_ret
            exact ⟨by rw [R.out]; rfl, B2.out⟩
        · have R : Hid (vof f.kind f.lst f.may u = false) := by show _ = _; rw [R2.out]; simp [h0, h1]
          have h2 : (u.kind == f.kind) = false := by simpa using h1
          go_wp2
          go_ret
          exact ⟨by rw [R.out]; rfl, B2.out⟩
end Go.Proofs.Ytdhicmbfknagjaa.VoI
