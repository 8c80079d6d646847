/- The model's ValueOk and ValueOf; The model's ValueOk and ValueOf. -/
import Derived.Deep.RegionHeld3
import Derived.Deep.RegionLaw
import Derived.BigQuiet
import Derived.Laws.StructEq
import Derived.Test.YtdhicmbfknagjaaJRO11
import Derived.Test.YtdhicmbfknagjaaJRO12
import Derived.Test.YtdhicmbfknagjaaJRO13
namespace Go.Proofs.Ytdhicmbfknagjaa.VkS
set_option maxRecDepth 8000
open Go.RowKit
open Ls Lp VkP VkR
open Recs (hsz below1 below2 below3 chain chainD)
set_option linter.unusedVariables false
set_option maxHeartbeats 1600000 in
theorem same_any (u : Vlu) (A : Option Addr) (c : Nat) (w : World) : Calls Try.prog 84 #[.agg (vrow u A c), .agg #[.int .i64 0, .int .i64 0, .string ⟨#[]⟩, .bool false, .slice none 0 0]] w fun e w' => e = .returned (.bool (zero u)) ∧ Below w.heap.size w w' := by
  go_enter Try.func84, Try.ntmps84
  by_cases h0 : u.kind = 0
  · by_cases h1 : u.num = 0
    · obtain ⟨e, he⟩ : ∃ e, (u.text.toList == []) = e := ⟨_, rfl⟩
      cases e with
      | false =>
        have R : Hid (zero u = false) := by show _ = _; simp [zero, nil0, em, he]
        go_wp2
        go_ret
        exact ⟨by rw [R.out]; rfl, below2 _ _ _⟩
      | true =>
        obtain ⟨l, hl⟩ : ∃ l, u.lst = l := ⟨_, rfl⟩
        cases l with
        | true =>
          have R : Hid (zero u = false) := by show _ = _; simp [zero, hl]
          go_wp2
          go_ret
          exact ⟨by rw [R.out]; rfl, below2 _ _ _⟩
        | false =>
          have R : Hid (zero u = decide (u.items.length = 0)) := by show _ = _; simp [zero, nil0, em, he, h0, h1, hl]
          by_cases hz : u.items.length = 0
          · have R2 : Hid (zero u = true) := by show _ = _; rw [R.out]; simp [hz]
            go_wp2
            go_loop [5] (fun i => i = .int .i64 0) (fun _ => 0)
            case atStart => rfl
            case round =>
              subst hrel
              go_wp2
              go_ret
              exact ⟨by rw [R2.out]; rfl, below2 _ _ _⟩
          · have R2 : Hid (zero u = false) := by show _ = _; rw [R.out]; simp [hz]
            have hz1 : ((u.items.length : Int) != 0) = true := by
              have : ¬ (u.items.length : Int) = 0 := by omega
              simpa using this
            go_wp2
            go_ret
            exact ⟨by rw [R2.out]; rfl, below2 _ _ _⟩
    · have R : Hid (zero u = false) := by show _ = _; simp [zero, nil0, h1]
      have h2 : (u.num != 0) = true := by simpa using h1
      go_wp2
      go_ret
      exact ⟨by rw [R.out]; rfl, below2 _ _ _⟩
  · have R : Hid (zero u = false) := by show _ = _; simp [zero, h0]
    have h2 : (u.kind != 0) = true := by simpa using h0
    go_wp2
    go_ret
    exact ⟨by rw [R.out]; rfl, below2 _ _ _⟩
set_option maxHeartbeats 3200000 in
theorem item_any (k n : Int) (t : ByteArray) (w : World) (ht : t.size ≤ maxLen) : Calls Try.prog 135 #[.int .i64 k, .agg #[.int .i64 n, .string t]] w fun e w' => e = .returned (.bool (has k n t)) ∧ Below w.heap.size w w' := by
  unfold maxLen at ht
  go_enter Try.func135, Try.ntmps135
  obtain ⟨e, he⟩ : ∃ e, (t.toList == []) = e := ⟨_, rfl⟩
  by_cases k1 : k = 1
  · subst k1
    obtain ⟨b, hb⟩ : ∃ b, inR 0 n 1 = b := ⟨_, rfl⟩
    have R : Hid (has 1 n t = (b && e)) := by show _ = _; simp [has, hasN, em, hb, he]
    have HB := Seg.hid hb
    clear hb
    cases b <;> cases e
    all_goals
      go_wp2_with (go_at_call 35; refine (InB.l1In_b _ _ _ _ HB.out _).mono ?_; rintro e w5 ⟨rfl, rfl⟩)
      go_ret
      exact ⟨by rw [R.out]; rfl, below1 _ _⟩
  by_cases k2 : k = 2
  · subst k2
    obtain ⟨b, hb⟩ : ∃ b, inR (-32768) n 32767 = b := ⟨_, rfl⟩
    have R : Hid (has 2 n t = (b && e)) := by show _ = _; simp [has, hasN, em, loK, hiK, hb, he]
    have HB := Seg.hid hb
    clear hb
    cases b <;> cases e
    all_goals
      go_wp2_with (go_at_call 35; refine (InB.l1In_b _ _ _ _ HB.out _).mono ?_; rintro e w5 ⟨rfl, rfl⟩)
      go_ret
      exact ⟨by rw [R.out]; rfl, below1 _ _⟩
  by_cases k3 : k = 3
  · subst k3
    obtain ⟨b, hb⟩ : ∃ b, inR (-1000000000000000) n 1000000000000000 = b := ⟨_, rfl⟩
    have R : Hid (has 3 n t = (b && e)) := by show _ = _; simp [has, hasN, em, loK, hiK, hb, he]
    have HB := Seg.hid hb
    clear hb
    cases b <;> cases e
    all_goals
      go_wp2_with (go_at_call 35; refine (InB.l1In_b _ _ _ _ HB.out _).mono ?_; rintro e w5 ⟨rfl, rfl⟩)
      go_ret
      exact ⟨by rw [R.out]; rfl, below1 _ _⟩
  by_cases k4 : k = 4
  · subst k4
    have R : Hid (has 4 n t = hasT n t) := by show _ = _; simp [has]
    clear he k1 k2 k3
    go_wp2
    go_loop [5] (fun i => ∃ k : Nat, k ≤ t.size ∧ i = .int .i64 k ∧ Hid (ltrs t k = true)) (fun i => t.size - (intOf i).toNat)
    case atStart => exact ⟨0, Nat.zero_le _, rfl, ltrs_zero t⟩
    case round =>
      obtain ⟨k, hk, rfl, HG⟩ := hrel
      by_cases hlt : k < t.size
      · have h0 : (0 : Int) ≤ (k : Int) := by omega
        have h1 : (k : Int) < (t.size : Int) := by omega
        by_cases ha : (t[k].toNat : Int) < 32
        · have HL : Hid (hasT n t = false) := by
            show _ = _
            have : ltr t k = false := by rw [ltr_at t k hlt]; simp [inR]; omega
            simp [hasT, ltrs_bad t k _ hlt this]
          go_wp2
          go_ret
          exact ⟨by rw [R.out, HL.out]; rfl, below1 _ _⟩
        · by_cases hb : (126 : Int) < (t[k].toNat : Int)
          · have HL : Hid (hasT n t = false) := by
              show _ = _
              have : ltr t k = false := by rw [ltr_at t k hlt]; simp [inR]; omega
              simp [hasT, ltrs_bad t k _ hlt this]
            go_wp2
            go_ret
            exact ⟨by rw [R.out, HL.out]; rfl, below1 _ _⟩
          · have HL : Hid (ltrs t (k + 1) = true) := by
              show _ = _
              have : ltr t k = true := by rw [ltr_at t k hlt]; simp [inR]; omega
              rw [ltrs_succ, HG.out, this]; rfl
            go_wp2
            go_round
            case rel => exact ⟨k + 1, by omega, by go_num, HL.out⟩
            case measure => simp [intOf]; omega
      · obtain rfl : k = t.size := by omega
        have R2 : Hid (hasT n t = (decide (n = 0) && decide (t.size ≤ 100))) := by show _ = _; simp [hasT, HG.out]
        by_cases hn : n = 0
        · subst hn
          by_cases hs : t.size ≤ 100
          · have q : (t.size : Int) ≤ 100 := by omega
            go_wp2
            go_ret
            exact ⟨by rw [R.out, R2.out]; simp [hs], below1 _ _⟩
          · have q : ¬ (t.size : Int) ≤ 100 := by omega
            go_wp2
            go_ret
            exact ⟨by rw [R.out, R2.out]; simp [hs], below1 _ _⟩
        · have hn2 : (n == 0) = false := by simpa using hn
          go_wp2
          go_ret
          exact ⟨by rw [R.out, R2.out]; simp [hn], below1 _ _⟩
  · have R : Hid (has k n t = false) := by show _ = _; simp [has, k1, k2, k3, k4]
    go_wp2
    go_ret
    exact ⟨by rw [R.out]; rfl, below1 _ _⟩
end Go.Proofs.Ytdhicmbfknagjaa.VkS
namespace Go.Proofs.Ytdhicmbfknagjaa.VkS
set_option maxRecDepth 8000
open Go.RowKit
open Ls Lp VkP VkR
open Recs (hsz below1 below2 below3 chain chainD)
set_option linter.unusedVariables false
set_option maxHeartbeats 3200000 in
theorem value_any (v : Value) (u : Vlu) (w : World) (S : Nat → Prop) (hv : VluAt w S v u) (hS : ∀ g, S g → g < w.heap.size) (hf : szVlu u ≤ 1048576) : Calls Try.prog 116 #[v] w fun e w' => e = .returned (.bool (vok u)) ∧ Below w.heap.size w w' := by
  obtain ⟨f, rfl, y0, y1, y2, y3, y4⟩ := hv
  have hz : u.text.size ≤ 1048576 ∧ szL szItm u.items ≤ 1048576 := by unfold szVlu at hf; omega
  obtain ⟨hz1, hz2⟩ := hz
  obtain ⟨A, c, g, o, F, e4, OP, hn⟩ := opn y4 hS
  have ha : arrVlu f = vrow u A c := by simp only [arrVlu, vrow]; rw [y0, y1, y2, y3, e4]
  rw [ha]
  clear ha y0 y1 y2 y3 y4 e4 hf
  have HO := Seg.hid OP
  have HZ := Seg.hid hz2
  clear OP hz2
  have VK := Seg.hid (vok_model u)
  go_enter Try.func116, Try.ntmps116
  by_cases h0 : u.kind = 0
  · have R : Hid (vok u = zero u) := by show _ = _; rw [VK.out]; simp [h0]
    have CS : Hid (∀ wx, Calls Try.prog 84 #[.agg #[.int .i64 0, .int .i64 u.num, .string u.text, .bool u.lst, .slice A u.items.length c], .agg #[.int .i64 0, .int .i64 0, .string ⟨#[]⟩, .bool false, .slice none 0 0]] wx fun e w' => e = .returned (.bool (zero u)) ∧ Below wx.heap.size wx w') := fun wx => by have := same_any u A c wx; rw [vrow, h0] at this; exact this
    go_wp2_with (go_at_call 84; refine (CS.out _).mono ?_; rintro e w2 ⟨rfl, b2⟩; have B2 := Seg.hid (chain (below1 w _) b2); clear b2)
    go_ret
    exact ⟨by rw [R.out]; rfl, B2.out⟩
  have q0 : (u.kind == 0) = false := by simpa using h0
  cases hl : u.lst with
  | false =>
    have R : Hid (vok u = (decide (u.items.length = 0) && has u.kind u.num u.text)) := by show _ = _; rw [VK.out]; simp [h0, hl]
    by_cases hz : u.items.length = 0
    · have R2 : Hid (vok u = has u.kind u.num u.text) := by show _ = _; rw [R.out]; simp [hz]
      go_wp2_with (go_at_call 135; refine (item_any _ _ _ _ (by unfold maxLen; omega)).mono ?_; rintro e w2 ⟨rfl, b2⟩; have B2 := Seg.hid (chain (below1 w _) b2); clear b2)
      go_ret
      exact ⟨by rw [R2.out]; rfl, B2.out⟩
    · have R2 : Hid (vok u = false) := by show _ = _; rw [R.out]; simp [hz]
      have hz0 : ((u.items.length : Int) == 0) = false := by
        have : ¬ (u.items.length : Int) = 0 := by omega
        simpa using this
      go_wp2
      go_ret
      exact ⟨by rw [R2.out]; rfl, below1 _ _⟩
  | true =>
    obtain ⟨e, he⟩ : ∃ e, (u.text.toList == []) = e := ⟨_, rfl⟩
    by_cases hm : u.num = 0
    · cases e with
      | false =>
        have R : Hid (vok u = false) := by show _ = _; rw [VK.out]; simp [h0, hl, nil0, em, he]
        go_wp2
        go_ret
        exact ⟨by rw [R.out]; rfl, below1 _ _⟩
      | true =>
        have R : Hid (vok u = (decide (u.items.length ≤ 30) && kOk u.kind && u.items.all (hasI u.kind))) := by show _ = _; rw [VK.out]; simp [h0, hl, nil0, em, he, hm]
        by_cases h30 : 30 < u.items.length
        · have R2 : Hid (vok u = false) := by show _ = _; rw [R.out]; simp; omega
          have q30 : (30 : Int) < (u.items.length : Int) := by omega
          go_wp2
          go_ret
          exact ⟨by rw [R2.out]; rfl, below1 _ _⟩
        · have R2 : Hid (vok u = (kOk u.kind && u.items.all (hasI u.kind))) := by show _ = _; have h : u.items.length ≤ 30 := (by omega); rw [R.out]; simp [h]
          have q30 : ¬ (30 : Int) < (u.items.length : Int) := by omega
          cases hk : kOk u.kind with
          | false =>
            have R3 : Hid (vok u = false) := by show _ = _; rw [R2.out]; simp [hk]
            have HK : Hid (inR 1 u.kind 4 = false) := hk
            clear hk
            go_wp2_with (go_at_call 35; refine (InB.l1In_b _ _ _ _ HK.out _).mono ?_; rintro e w5 ⟨rfl, rfl⟩)
            go_ret
            exact ⟨by rw [R3.out]; rfl, below1 _ _⟩
          | true =>
            have R3 : Hid (vok u = u.items.all (hasI u.kind)) := by show _ = _; rw [R2.out]; simp [hk]
            have HK : Hid (inR 1 u.kind 4 = true) := hk
            clear hk
            go_wp2_with (go_at_call 35; refine (InB.l1In_b _ _ _ _ HK.out _).mono ?_; rintro e w5 ⟨rfl, rfl⟩)
            go_loopw [3] (fun i wr => ∃ k : Nat, k ≤ u.items.length ∧ i = .int .i64 k ∧ Hid (Below w.heap.size w wr ∧ wr.heap[w.heap.size]? = some (.cells (vrow u A c) 84 (0, 0)) ∧ (u.items.take k).all (hasI u.kind) = true)) (fun i _ => u.items.length - (intOf i).toNat)
            case atStart => exact ⟨0, Nat.zero_le _, rfl, below1 _ _, heap_alloc_new _ _, by simp⟩
            case round =>
              obtain ⟨k, hk, rfl, HG⟩ := hrel
              have hgt : w.heap.size < wr.heap.size := (Array.getElem?_eq_some_iff.1 HG.out.2.1).1
              have c0 : wr.cell? ⟨w.heap.size, 0, none⟩ = some (.int .i64 u.kind) := cell_of_row wr _ 0 _ _ (0, 0) HG.out.2.1
              have c4 : wr.cell? ⟨w.heap.size, 4, none⟩ = some (.slice A u.items.length c) := cell_of_row wr _ 4 _ _ (0, 0) HG.out.2.1
              by_cases hlt : k < u.items.length
              · obtain ⟨d0, d1⟩ := itm_at HO.out hS HG.out.1 hlt
                have h0 : (0 : Int) ≤ (k : Int) := by omega
                have h1 : (k : Int) < (u.items.length : Int) := by omega
                obtain ⟨ea, hc, hgw⟩ := HO.out.addr.resolve_left (by omega)
                have hgr : g < wr.heap.size := Nat.lt_of_lt_of_le hgw HG.out.1.size
                have TX := Seg.hid (one_text HZ.out hlt)
                have NX0 := Seg.hid (all_next (hasI u.kind) u.items k hlt HG.out.2.2)
                have BX0 := Seg.hid (all_bad (hasI u.kind) u.items k hlt)
                generalize u.items.getD k default = it at *
                have NX : Hid (has u.kind it.num it.text = true → (u.items.take (k + 1)).all (hasI u.kind) = true) := NX0.out
                have BX : Hid (has u.kind it.num it.text = false → u.items.all (hasI u.kind) = false) := BX0.out
                clear NX0 BX0
                have CQ := Seg.hid (fun wx => item_any u.kind it.num it.text wx (by have := TX.out; unfold maxLen; omega))
                obtain ⟨b, hy⟩ : ∃ b, has u.kind it.num it.text = b := ⟨_, rfl⟩
                rw [hy] at CQ NX BX
                clear hy
                have RW := Seg.hid HG.out.2.1
                have BW := Seg.hid HG.out.1
                clear HG
                subst ea
                go_wp2_with fail
                go_region_held3 (fun w' => w'.cell? ⟨w.heap.size, 0, none⟩ = some (.int .i64 u.kind) ∧ w'.cell? ⟨w.heap.size, 4, none⟩ = some (.slice (some ⟨g, o, none⟩) u.items.length c) ∧ w'.cell? ⟨g, o + k * 2, none⟩ = some (.int .i64 it.num) ∧ w'.cell? ⟨g, o + k * 2 + 1, none⟩ = some (.string it.text)) (first | exact ⟨c0, c4, d0, d1⟩ | exact ⟨r0, r1, r2, r3⟩ | go_keep) (first | (go_at_call 135; refine (CQ.out _).mono ?_; rintro e w3 ⟨rfl, b3⟩; have B3 : Hid (Below wr.heap.size wr w3) := ⟨b3.os, b3.tape, b3.output, b3.size, b3.block⟩; clear b3; have r0 := (B3.out.cell (p := ⟨w.heap.size, 0, none⟩) hgt).trans c0; have r1 := (B3.out.cell (p := ⟨w.heap.size, 4, none⟩) hgt).trans c4; have r2 := (B3.out.cell (p := ⟨g, o + k * 2, none⟩) hgr).trans d0; have r3 := (B3.out.cell (p := ⟨g, o + k * 2 + 1, none⟩) hgr).trans d1))
                cases b with
                | true =>
                  go_wp2
                  go_roundw
                  case rel => exact ⟨k + 1, by omega, by go_num, chain BW.out B3.out, (B3.out.block _ hgt).trans RW.out, NX.out (by simp)⟩
                  case measure => simp [intOf]; omega
                | false =>
                  go_wp2
                  go_ret
                  exact ⟨by rw [R3.out, BX.out (by simp)]; rfl, chain BW.out B3.out⟩
              · obtain rfl : k = u.items.length := by omega
                have HY : Hid (u.items.all (hasI u.kind) = true) := by show _ = _; have := HG.out.2.2; rwa [List.take_length] at this
                go_wp2
                go_ret
                exact ⟨by rw [R3.out, HY.out]; rfl, HG.out.1⟩
    · have R : Hid (vok u = false) := by show _ = _; rw [VK.out]; simp [h0, hl, nil0, hm]
      have hm2 : (u.num != 0) = true := by simpa using hm
      go_wp2
      go_ret
      exact ⟨by rw [R.out]; rfl, below1 _ _⟩
set_option maxHeartbeats 1600000 in
theorem of_any (x y : Value) (f : Fld) (u : Vlu) (w : World) (S : Nat → Prop) (hx : FldAt w S x f) (hy : VluAt w S y u) (hS : ∀ g, S g → g < w.heap.size) (hf : szVlu u ≤ 1048576) : Calls Try.prog 83 #[x, y] w fun e w' => e = .returned (.bool (vof f.kind f.lst f.may u)) ∧ Below w.heap.size w w' := by
  obtain ⟨A, c, B, d, rfl, -, -⟩ := form hx
  have HY := Seg.hid hy
  obtain ⟨A2, c2, rfl, -⟩ := formV hy
  clear hx hy
  have R0 : Hid (vof f.kind f.lst f.may u = (kOk f.kind && vok u && (if u.kind = 0 then f.may else decide (u.kind = f.kind) && (u.lst == f.lst)))) := rfl
  have CV : Hid (∀ wx, Below w.heap.size w wx → Calls Try.prog 116 #[.agg (vrow u A2 c2)] wx fun e w' => e = .returned (.bool (vok u)) ∧ Below wx.heap.size wx w') := fun wx b => value_any _ u wx S (HY.out.below b hS) (fun g hg => Nat.lt_of_lt_of_le (hS g hg) b.size) hf
  go_enter Try.func83, Try.ntmps83
  go_wp2_with fail
  refine (CV.out _ (below2 w _ _)).mono ?_
  rintro e w1 ⟨rfl, b1⟩
  have B1 := Seg.hid (chain (below2 w _ _) b1)
  have T1 : Hid (w1.heap[w.heap.size]? = some (.cells (frow f A c B d) 86 (0, 0))) := (b1.block w.heap.size (by rw [hsz, hsz]; omega)).trans (at2z w _ _)
  have T2 : Hid (w1.heap[w.heap.size + 1]? = some (.cells (vrow u A2 c2) 84 (0, 0))) := (b1.block (w.heap.size + 1) (by rw [hsz, hsz]; omega)).trans (at2y w _ _)
  have q0 : w1.cell? ⟨w.heap.size + 1, 0, none⟩ = some (.int .i64 u.kind) := cell_of_row w1 _ 0 _ _ (0, 0) T2.out
  have q3 : w1.cell? ⟨w.heap.size + 1, 3, none⟩ = some (.bool u.lst) := cell_of_row w1 _ 3 _ _ (0, 0) T2.out
  have r1 : w1.cell? ⟨w.heap.size, 1, none⟩ = some (.int .i64 f.kind) := cell_of_row w1 _ 1 _ _ (0, 0) T1.out
  have r2 : w1.cell? ⟨w.heap.size, 2, none⟩ = some (.bool f.lst) := cell_of_row w1 _ 2 _ _ (0, 0) T1.out
  have r3 : w1.cell? ⟨w.heap.size, 3, none⟩ = some (.bool f.may) := cell_of_row w1 _ 3 _ _ (0, 0) T1.out
  clear b1
  cases hv : vok u with
  | false =>
    have R : Hid (vof f.kind f.lst f.may u = false) := by show _ = _; rw [R0.out]; simp [hv]
    clear hv
    go_wp2
    go_ret
    exact ⟨by rw [R.out]; rfl, B1.out⟩
  | true =>
  cases hk : kOk f.kind with
  | false =>
    have R : Hid (vof f.kind f.lst f.may u = false) := by show _ = _; rw [R0.out]; simp [hk]
    have HK : Hid (inR 1 f.kind 4 = false) := hk
    clear hk hv
    go_wp2_with (go_at_call 35; refine (InB.l1In_b _ _ _ _ HK.out _).mono ?_; rintro e w5 ⟨rfl, rfl⟩)
    go_ret
    exact ⟨by rw [R.out]; rfl, B1.out⟩
  | true =>
    have R2 : Hid (vof f.kind f.lst f.may u = (if u.kind = 0 then f.may else decide (u.kind = f.kind) && (u.lst == f.lst))) := by show _ = _; rw [R0.out]; simp [hk, hv]
    have HK : Hid (inR 1 f.kind 4 = true) := hk
    clear hk hv
    by_cases h0 : u.kind = 0
    · have R : Hid (vof f.kind f.lst f.may u = f.may) := by show _ = _; rw [R2.out]; simp [h0]
      go_wp2_with (go_at_call 35; refine (InB.l1In_b _ _ _ _ HK.out _).mono ?_; rintro e w5 ⟨rfl, rfl⟩)
      go_ret
      exact ⟨by rw [R.out]; rfl, B1.out⟩
    · by_cases h1 : u.kind = f.kind
      · have h01 : ¬ f.kind = 0 := by omega
        obtain ⟨ul, hul⟩ : ∃ b, u.lst = b := ⟨_, rfl⟩
        obtain ⟨fl, hfl⟩ : ∃ b, f.lst = b := ⟨_, rfl⟩
        have R : Hid (vof f.kind f.lst f.may u = (ul == fl)) := by show _ = _; rw [R2.out]; simp [h1, h01, hul, hfl]
        cases ul <;> cases fl
        all_goals
          go_wp2_with (go_at_call 35; refine (InB.l1In_b _ _ _ _ HK.out _).mono ?_; rintro e w5 ⟨rfl, rfl⟩)
          go_ret
          exact ⟨by rw [R.out]; rfl, B1.out⟩
      · have R : Hid (vof f.kind f.lst f.may u = false) := by show _ = _; rw [R2.out]; simp [h0, h1]
        have h2 : (u.kind == f.kind) = false := by simpa using h1
        go_wp2_with (go_at_call 35; refine (InB.l1In_b _ _ _ _ HK.out _).mono ?_; rintro e w5 ⟨rfl, rfl⟩)
        go_ret
        exact ⟨by rw [R.out]; rfl, B1.out⟩
end Go.Proofs.Ytdhicmbfknagjaa.VkS
