/- checkBytes and versionHolds of the program; A reader's version, head and body. -/
import Derived.Test.YtdnbcfochlfopaaJH13
import Derived.Test.YtdnbcfochlfopaaJH15
import Derived.Test.YtdnbcfochlfopaaJH19
import Derived.Test.YtdnbcfochlfopaaJH12
namespace Go.Proofs.Ytdnbcfochlfopaa.WrC
set_option maxRecDepth 8000
open Go.RowKit
open Seg (B)
open SqP (Out grow)
open WrP
open Recs
set_option linter.unusedVariables false
theorem check_lt {l : List Int} (h : Seg.Byt l) : 0 ≤ Crc.check l ∧ Crc.check l < 4294967296 := by
  have h1 : Crc.crc l < 4294967296 := Crc.foldl_lt l _ (by decide) (fun x hx => by
    obtain ⟨i, hi, rfl⟩ := List.getElem_of_mem hx
    have := (h i).2
    simpa [hi] using this)
  have := Crc.xor_lt h1 (show 4294967295 < 4294967296 by decide)
  unfold Crc.check
  omega

set_option maxHeartbeats 800000 in
theorem checkBytes_any (g o n c : Nat) (l : List Int) (w : World) (hn : n ≤ 140737488355328) (hc1 : n ≤ c) (hl : l.length = n) (hg : n = 0 ∨ g < w.heap.size)
    (hcell : ∀ i, i < n → w.cell? ⟨g, o + i, none⟩ = some (.int .u8 (l.getD i 0))) (hby : Seg.Byt l) :
    Calls Try.prog 38 #[.slice (some ⟨g, o, none⟩) n c] w fun e w' => ∃ g', e = .returned (.slice (some ⟨g', 0, none⟩) 4 4) ∧ Out w' w.heap.size g' 4 (four (Crc.check l)) ∧ Below w.heap.size w w' := by
  have HC := Seg.hid hcell
  have hx := check_lt hby
  have HY := Seg.hid hby
  clear hcell hby
  go_enter Try.func38, Try.ntmps38
  go_wp2_with fail
  refine (ChkI.impl_core g o n c l w hn hc1 hl hg HC.out HY.out).mono ?_
  rintro e w1 ⟨rfl, b1⟩
  obtain ⟨x, hxe⟩ : ∃ x, Crc.check l = x := ⟨_, rfl⟩
  rw [hxe] at hx ⊢
  have HX := Seg.hid hxe
  clear hxe
  have B1 := Seg.hid b1
  have z1 := b1.size
  clear b1
  go_wp2
  go_ret
  rw [HX.out]
  refine ⟨w1.heap.size, rfl, ?_, B1.out.alloc z1 _⟩
  have e1 : x / 16777216 % 256 = x / 16777216 := by omega
  have := World.ownsRow_lit (e := 5) (size := 1) (base := w.heap.size) w1 #[.int .u8 (x / 16777216), .int .u8 (x / 65536 % 256), .int .u8 (x / 256 % 256), .int .u8 (x % 256)] 4 z1 (by unfold maxLen; omega) rfl
  unfold Out four
  rw [e1]
  exact this

set_option maxHeartbeats 800000 in
theorem holds_far (ver : Int) (v : Value) (t : Bat) (w : World) (lo b : Nat) (hv : BatAt w lo b v t) (hb : b ≤ w.heap.size) (h1 : ¬ ver = 1) :
    Calls Try.prog 34 #[.int .i64 ver, v] w fun e w' => e = .returned (.bool (holds t ver)) ∧ Below w.heap.size w w' := by
  obtain ⟨rv, rfl, H, ⟨hn, A, c, rfl, hx1⟩, hx2⟩ := hv
  clear hx1 hx2
  unfold batVal
  have ht : (ver != 1) = true := by simp [h1]
  have HE : Hid (holds t ver = (ver == 2)) := by show _ = _; rw [Bool.eq_iff_iff]; simp [holds, h1]
  clear h1
  go_enter Try.func34, Try.ntmps34
  go_wp2
  go_ret
  exact ⟨Seg.ret_bool HE.out.symm, below1 _ _⟩

set_option maxHeartbeats 1600000 in
theorem holds_one (v : Value) (t : Bat) (w : World) (lo b : Nat) (hv : BatAt w lo b v t) (hb : b ≤ w.heap.size) :
    Calls Try.prog 34 #[.int .i64 1, v] w fun e w' => e = .returned (.bool (holds t 1)) ∧ Below w.heap.size w w' := by
  obtain ⟨rv, rfl, H, ⟨hn, A, c, rfl, hrow⟩, hh⟩ := hv
  have HR := Seg.hid hrow; have HH := Seg.hid hh
  clear hrow hh
  unfold batVal
  go_enter Try.func34, Try.ntmps34
  go_wp2
  go_loopw [14] (fun i wr => ∃ (k : Nat), i = .int .i64 k ∧ k ≤ t.recs.length ∧ Hid (Below w.heap.size w wr ∧ wr.heap[w.heap.size]? = some (.cells (BatW.batArr t (.slice A t.recs.length c)) 26 (0, 0)) ∧ ∀ i, i < k → (t.recs.getD i default).heads.length = 0)) (fun i _ => t.recs.length - (intOf i).toNat)
  case atStart => exact ⟨0, rfl, Nat.zero_le _, below1 _ _, heap_alloc_new _ _, fun i hi => absurd hi (by omega)⟩
  case round =>
    obtain ⟨k, rfl, hle, HP⟩ := hrel
    obtain ⟨bl, var, hall⟩ := HP.out
    have hbl := bl.size
    have hvl := (Array.getElem?_eq_some_iff.1 var).1
    by_cases hlt : k < t.recs.length
    · obtain ⟨gr, o, rfl, hgr, hc, hcell, _⟩ := HR.out.resolve_left (by omega)
      obtain ⟨c0, c1, c2, c3, c4, c5⟩ := RecsW.six (RecsW.six' hcell bl (by omega)) k hlt
      obtain ⟨hnh, Ah, ch, hHe, _⟩ := HH.out k hlt
      rw [hHe] at c5
      have NX : Hid ((t.recs.getD k default).heads.length = 0 → ∀ x : Obj, Below w.heap.size w (wr.alloc x) ∧ (wr.alloc x).heap[w.heap.size]? = some (.cells (BatW.batArr t (.slice (some ⟨gr, o, none⟩) t.recs.length c)) 26 (0, 0)) ∧ ∀ i, i < k + 1 → (t.recs.getD i default).heads.length = 0) := fun h0 x => ⟨bl.alloc (by omega) _, (heap_alloc_old wr _ hvl).trans var, fun i hi => by
        by_cases he : i = k
        · subst he; exact h0
        · exact hall i (by omega)⟩
      have BB : Hid (∀ x : Obj, Below w.heap.size w (wr.alloc x)) := fun x => bl.alloc (by omega) _
      have NO : Hid (¬ (t.recs.getD k default).heads.length = 0 → holds t 1 = false) := fun h0 => by
        simp only [holds, Bool.or_eq_false_iff, Bool.and_eq_false_iff]
        refine ⟨by decide, .inr ?_⟩
        rw [List.all_eq_false]
        refine ⟨t.recs[k], List.getElem_mem hlt, ?_⟩
        have : t.recs.getD k default = t.recs[k] := by simp [hlt]
        rw [← this]
        simpa using h0
      have h0 : (0 : Int) ≤ (k : Int) := by omega
      have h1 : (k : Int) < (t.recs.length : Int) := by omega
      clear hcell hHe bl var hall
      generalize t.recs.getD k default = r at *
      by_cases hz : r.heads.length = 0
      · have hz0 : ¬ (0 : Int) < (r.heads.length : Int) := by omega
        have N1 := Seg.hid (NX.out hz)
        clear hz
        go_wp2
        go_roundw
        case rel => exact ⟨k + 1, by go_num, by omega, N1.out _⟩
        case measure => simp [intOf]; omega
      · have hz0 : (0 : Int) < (r.heads.length : Int) := by omega
        have N1 := Seg.hid (NO.out hz)
        clear hz
        go_wp2
        go_ret
        exact ⟨Seg.ret_bool N1.out.symm, BB.out _⟩
    · obtain rfl : k = t.recs.length := by omega
      obtain ⟨d0, d1, d2, d3, d4, d5, d6⟩ := BOk.seven var
      have B1 := Seg.hid bl
      have HE : Hid ((t.producer == -1) = holds t 1) := by
        show _ = _
        have : (t.recs.all fun r => decide (r.heads.length = 0)) = true := by
          rw [List.all_eq_true]
          intro x hx
          obtain ⟨i, hi, rfl⟩ := List.getElem_of_mem hx
          have := hall i hi
          simpa [hi] using this
        unfold holds
        rw [this, Bool.eq_iff_iff]
        simp
      clear bl var hall
      go_wp2
      go_ret
      exact ⟨Seg.ret_bool HE.out, B1.out⟩

theorem holds_any (ver : Int) (v : Value) (t : Bat) (w : World) (lo b : Nat) (hv : BatAt w lo b v t) (hb : b ≤ w.heap.size) :
    Calls Try.prog 34 #[.int .i64 ver, v] w fun e w' => e = .returned (.bool (holds t ver)) ∧ Below w.heap.size w w' := by
  by_cases h : ver = 1
  · subst h; exact holds_one v t w lo b hv hb
  · exact holds_far ver v t w lo b hv hb h
end Go.Proofs.Ytdnbcfochlfopaa.WrC
namespace Go.Proofs.Ytdnbcfochlfopaa.Rd
set_option maxRecDepth 8000
open Go.RowKit
open RdP
open Recs
open SqP (Out)
set_option linter.unusedVariables false

/-- What a step of a reader comes to that has several faults. -/
structure StepE {α : Type} (w w' : World) (G : Nat) (v : Value) (o : Except Int (α × Nat)) (val : World → α → Value → Prop) (e : Ending) : Prop where
  gr : w.grownBy w' (some G)
  no : ∀ f, o = .error f → e = .panicked [flt f]
  yes : ∀ x q, o = .ok (x, q) → (∃ u, e = .returned u ∧ val w' x u) ∧ Rdr w' G v q
def verR (l : List Int) (x : Int) : Except Int (Int × Nat) :=
  if ¬ (0 ≤ x ∧ x < l.length) then .error 1
  else if ¬ l.getD x.toNat 0 = 77 then .error 2
  else if ¬ x.toNat + 1 < l.length then .error 1
  else if ¬ (l.getD (x.toNat + 1) 0 = 1 ∨ l.getD (x.toNat + 1) 0 = 2) then .error 3
  else .ok (l.getD (x.toNat + 1) 0, x.toNat + 2)

set_option maxHeartbeats 1600000 in
theorem version_any (G : Nat) (v : Value) (l : List Int) (x : Int) (w : World) (hr : RdrI w G v x) (hd : Dat w G v l) :
    Calls Try.prog 82 #[.pointer (some ⟨G, 0, none⟩)] w fun e w' => StepE w w' G v (verR l x) (fun _ n u => u = .int .i64 n) e := by
  have HR := Seg.hid hr; have HD := Seg.hid hd
  clear hr hd
  go_enter Try.func82, Try.ntmps82
  go_wp2_with fail
  by_cases h0 : ¬ (0 ≤ x ∧ x < l.length)
  · refine (oneByte_out G v l x w HR.out HD.out h0).mono ?_
    rintro e w1 ⟨rfl, gr⟩
    have HN : verR l x = .error 1 := by rw [verR, if_pos h0]
    exact ⟨rfl, gr, fun f h => by rw [HN] at h; cases h; rfl, fun y q h => by rw [HN] at h; cases h⟩
  replace h0 := Classical.not_not.1 h0
  obtain ⟨p, rfl⟩ := Int.eq_ofNat_of_zero_le h0.1
  have hp : p < l.length := by omega
  refine (oneByte_in G v l p w HR.out HD.out hp).mono ?_
  rintro e w1 ⟨rfl, hR1, gr1⟩
  have R1 := Seg.hid hR1; have G1 := Seg.hid gr1; have D1 := Seg.hid (HD.out.keep gr1)
  have HV : Hid (verR l (p : Int) = if ¬ l.getD p 0 = 77 then .error 2 else if ¬ p + 1 < l.length then .error 1 else if ¬ (l.getD (p + 1) 0 = 1 ∨ l.getD (p + 1) 0 = 2) then .error 3 else .ok (l.getD (p + 1) 0, p + 2)) := by
    show _ = _
    rw [verR, if_neg (by omega), Int.toNat_natCast]
  clear hR1 gr1 h0
  by_cases h77 : ¬ l.getD p 0 = 77
  · have hb : (l.getD p 0 != 77) = true := by rw [bne_iff_ne]; exact h77
    have HN : Hid (verR l (p : Int) = .error 2) := by show _ = _; rw [HV.out, if_pos h77]
    clear h77
    generalize l.getD p 0 = y at *
    go_wp2
    exact ⟨rfl, G1.out, fun f h => by rw [HN.out] at h; cases h; rfl, fun y q h => by rw [HN.out] at h; cases h⟩
  have hb : (l.getD p 0 != 77) = false := by rw [bne_eq_false_iff_eq]; exact Classical.not_not.1 h77
  rw [if_neg h77] at HV
  clear h77
  generalize l.getD p 0 = y at *
  go_wp2_with fail
  by_cases h1 : ¬ p + 1 < l.length
  · refine (oneByte_out G v l ((p + 1 : Nat) : Int) w1 R1.out D1.out (by omega)).mono ?_
    rintro e w2 ⟨rfl, gr⟩
    rw [if_pos h1] at HV
    exact ⟨rfl, G1.out.trans gr, fun f h => by rw [HV.out] at h; cases h; rfl, fun y q h => by rw [HV.out] at h; cases h⟩
  rw [if_neg h1] at HV
  replace h1 := Classical.not_not.1 h1
  refine (oneByte_in G v l (p + 1) w1 R1.out D1.out h1).mono ?_
  rintro e w2 ⟨rfl, hR2, gr2⟩
  have R2 := Seg.hid hR2; have G2 := Seg.hid (G1.out.trans gr2)
  clear hR2 gr2
  generalize l.getD (p + 1) 0 = z at *
  by_cases e1 : z = 1
  · subst e1
    rw [if_neg (by omega)] at HV
    go_wp2
    go_ret
    refine ⟨G2.out, fun f h => (by rw [HV.out] at h; cases h), fun y q h => ?_⟩
    rw [HV.out] at h
    simp only [Except.ok.injEq, Prod.mk.injEq] at h
    obtain ⟨rfl, rfl⟩ := h
    exact ⟨⟨_, rfl, rfl⟩, R2.out⟩
  by_cases e2 : z = 2
  · subst e2
    rw [if_neg (by omega)] at HV
    go_wp2
    go_ret
    refine ⟨G2.out, fun f h => (by rw [HV.out] at h; cases h), fun y q h => ?_⟩
    rw [HV.out] at h
    simp only [Except.ok.injEq, Prod.mk.injEq] at h
    obtain ⟨rfl, rfl⟩ := h
    exact ⟨⟨_, rfl, rfl⟩, R2.out⟩
  rw [if_pos (by omega)] at HV
  have b1 : (z != 1) = true := by rw [bne_iff_ne]; exact e1
  have b2 : (z != 2) = true := by rw [bne_iff_ne]; exact e2
  clear e1 e2
  go_wp2
  exact ⟨rfl, G2.out, fun f h => by rw [HV.out] at h; cases h; rfl, fun y q h => by rw [HV.out] at h; cases h⟩
end Go.Proofs.Ytdnbcfochlfopaa.Rd
