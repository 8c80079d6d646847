/- BatchOk of the program; checkBytes and versionHolds of the program. -/
import Derived.Test.YtdcbgkcnidbakaaJR16
import Derived.Test.YtdcbgkcnidbakaaJR11
import Derived.Test.YtdcbgkcnidbakaaJR12
namespace Go.Proofs.Ytdcbgkcnidbakaa.BOk
set_option maxRecDepth 8000
open Go.RowKit
open Recs
set_option linter.unusedVariables false

theorem seven {w : World} {g tp : Nat} {t : Bat} {hv : Value} (h : w.heap[g]? = some (.cells (BatW.batArr t hv) tp (0, 0))) : w.cell? ⟨g, 0, none⟩ = some (.int .i64 t.base) ∧ w.cell? ⟨g, 1, none⟩ = some (.int .i64 t.epoch) ∧ w.cell? ⟨g, 2, none⟩ = some (.int .i64 t.producer) ∧
    w.cell? ⟨g, 3, none⟩ = some (.int .i64 t.turn) ∧ w.cell? ⟨g, 4, none⟩ = some (.int .i64 t.seq) ∧ w.cell? ⟨g, 5, none⟩ = some (.int .i64 t.flags) ∧ w.cell? ⟨g, 6, none⟩ = some hv :=
  ⟨cell_of_row w g 0 _ tp (0, 0) h, cell_of_row w g 1 _ tp (0, 0) h, cell_of_row w g 2 _ tp (0, 0) h, cell_of_row w g 3 _ tp (0, 0) h, cell_of_row w g 4 _ tp (0, 0) h, cell_of_row w g 5 _ tp (0, 0) h, cell_of_row w g 6 _ tp (0, 0) h⟩
set_option maxHeartbeats 1600000 in
theorem impl_any (v : Value) (t : Bat) (w : World) (lo b : Nat) (hv : BatAt w lo b v t) (hb : b ≤ w.heap.size) :
    Calls Try.prog 31 #[v] w fun e w' => e = .returned (.bool (batOk t)) ∧ Below w.heap.size w w' := by
  rw [← same]
  obtain ⟨rv, rfl, hr⟩ := hv
  have HR := Seg.hid hr
  obtain ⟨H, ⟨hn, A, c, rfl, hcell⟩, hheads⟩ := hr
  have HC := Seg.hid hcell; have HH := Seg.hid hheads
  clear hcell hheads
  unfold batVal
  unfold batI
  go_enter Try.func31, Try.ntmps31
  go_wp2_with fail
  refine (records_any _ t.recs (w.alloc _) lo b (HR.out.below ((below1 w _).mono hb)) (by rw [hsz]; omega)).mono ?_
  rintro e w1 ⟨rfl, b1⟩
  have B1 := Seg.hid (chain (below1 w _) b1)
  have T1 : Hid (w1.heap[w.heap.size]? = some (.cells (BatW.batArr t (.slice A t.recs.length c)) 44 (0, 0))) := (b1.block w.heap.size (by rw [hsz]; omega)).trans (heap_alloc_new _ _)
  have z1 : w.heap.size < w1.heap.size := (Array.getElem?_eq_some_iff.1 T1.out).1
  clear b1
  generalize h1 : (inR (t.recs.length : Int) 1 40 && t.recs.all ROk.okR) = V1
  have RN : V1 = true → 1 ≤ (t.recs.length : Int) ∧ (t.recs.length : Int) ≤ 40 := fun h => by
    rw [h, Bool.and_eq_true] at h1
    simpa [inR] using h1.1
  cases V1 with
  | false =>
    have HV1 := Seg.hid h1
    clear h1
    clear RN
    go_wp2
    go_ret
    exact ⟨Seg.ret_bool (by rw [HV1.out]; simp), B1.out⟩
  | true =>
  have HV1 := Seg.hid h1
  clear h1
  have rn := RN rfl
  clear RN
  obtain ⟨c0, c1, c2, c3, c4, c5, c6⟩ := seven T1.out
  go_wp2_with fail
  clear c0 c1 c2 c3 c4 c5 c6
  refine (place_any t.base t.epoch t.producer t.turn t.seq t.flags A t.recs.length c w1 rn.2).mono ?_
  rintro e w2 ⟨rfl, b2⟩
  have B2 := Seg.hid (chain B1.out b2)
  have T2 := Seg.hid ((b2.block w.heap.size z1).trans T1.out)
  have z2 : w.heap.size < w2.heap.size := (Array.getElem?_eq_some_iff.1 T2.out).1
  clear b2
  generalize h2 : (inR t.base 0 (1000000001 - t.recs.length) && inR t.epoch 0 1000000) = V2
  cases V2 with
  | false =>
    have HV2 := Seg.hid h2
    clear h2
    go_wp2
    go_ret
    exact ⟨Seg.ret_bool (by rw [HV2.out]; simp), B2.out⟩
  | true =>
  have HV2 := Seg.hid h2
  clear h2
  obtain ⟨c0, c1, c2, c3, c4, c5, c6⟩ := seven T2.out
  go_wp2_with fail
  clear c0 c1 c2 c3 c4 c5 c6
  refine (producer_any t.base t.epoch t.producer t.turn t.seq t.flags A t.recs.length c w2 rn.2).mono ?_
  rintro e w3 ⟨rfl, b3⟩
  have B3 := Seg.hid (chain B2.out b3)
  have T3 := Seg.hid ((b3.block w.heap.size z2).trans T2.out)
  clear b3
  generalize h3 : prB t.producer t.turn t.seq t.recs.length = V3
  cases V3 with
  | false =>
    have HV3 := Seg.hid h3
    clear h3
    go_wp2
    go_ret
    exact ⟨Seg.ret_bool (by rw [HV3.out]; simp), B3.out⟩
  | true =>
  have HV3 := Seg.hid h3
  clear h3
  have HL : Hid (Lies w3 A t.recs.length c t.recs H lo b) := by
    obtain ⟨g, o, l1, l2, l3, l4, l5⟩ := HC.out.resolve_left (by omega)
    exact ⟨g, o, l1, Nat.lt_of_lt_of_le l2 (Nat.le_trans hb B3.out.size), l3, RecsW.six' l4 B3.out (by omega), fun i hi => (HH.out i hi).below (B3.out.mono hb), Nat.le_trans hb B3.out.size⟩
  obtain ⟨c0, c1, c2, c3, c4, c5, c6⟩ := seven T3.out
  go_wp2_with fail
  clear c0 c1 c2 c3 c4 c5 c6
  refine (flags_any t.base t.epoch t.producer t.turn t.seq t.flags A t.recs.length c t.recs H lo b w3 rn HL.out).mono ?_
  rintro e w4 ⟨rfl, b4⟩
  have B4 := Seg.hid (chain B3.out b4)
  clear b4
  go_wp2
  go_ret
  exact ⟨Seg.ret_bool (by rw [HV1.out, HV2.out, HV3.out]; simp), B4.out⟩
end Go.Proofs.Ytdcbgkcnidbakaa.BOk
namespace Go.Proofs.Ytdcbgkcnidbakaa.WrC
set_option maxRecDepth 8000
open Go.RowKit
open Seg (B)
open SqP (Out grow)
open WrP
open Recs
set_option linter.unusedVariables false
theorem check_lt {l : List Int} (h : Seg.Byt l) : 0 ≤ Crc.check l ∧ Crc.check l < 4294967296 := by
  have h1 : Crc.crc l < 4294967296 := Crc.foldl_lt l _ (by decide) (fun x hx => by
    obtain ⟨i, hi, rfl⟩ := List.getElem_of_mem hx
    have := (h i).2
    simpa [hi] using this)
  have := Crc.xor_lt h1 (show 4294967295 < 4294967296 by decide)
  unfold Crc.check
  omega

set_option maxHeartbeats 800000 in
theorem checkBytes_any (g o n c : Nat) (l : List Int) (w : World) (hn : n ≤ 140737488355328) (hc1 : n ≤ c) (hl : l.length = n) (hg : n = 0 ∨ g < w.heap.size)
    (hcell : ∀ i, i < n → w.cell? ⟨g, o + i, none⟩ = some (.int .u8 (l.getD i 0))) (hby : Seg.Byt l) :
    Calls Try.prog 80 #[.slice (some ⟨g, o, none⟩) n c] w fun e w' => ∃ g', e = .returned (.slice (some ⟨g', 0, none⟩) 4 4) ∧ Out w' w.heap.size g' 4 (four (Crc.check l)) ∧ Below w.heap.size w w' := by
  have HC := Seg.hid hcell
  have hx := check_lt hby
  have HY := Seg.hid hby
  clear hcell hby
  go_enter Try.func80, Try.ntmps80
  go_wp2_with fail
  refine (ChkI.impl_core g o n c l w hn hc1 hl hg HC.out HY.out).mono ?_
  rintro e w1 ⟨rfl, b1⟩
  obtain ⟨x, hxe⟩ : ∃ x, Crc.check l = x := ⟨_, rfl⟩
  rw [hxe] at hx ⊢
  have HX := Seg.hid hxe
  clear hxe
  have B1 := Seg.hid b1
  have z1 := b1.size
  clear b1
  go_wp2
  go_ret
  rw [HX.out]
  refine ⟨w1.heap.size, rfl, ?_, B1.out.alloc z1 _⟩
  have e1 : x / 16777216 % 256 = x / 16777216 := by omega
  have := World.ownsRow_lit (e := 5) (size := 1) (base := w.heap.size) w1 #[.int .u8 (x / 16777216), .int .u8 (x / 65536 % 256), .int .u8 (x / 256 % 256), .int .u8 (x % 256)] 4 z1 (by unfold maxLen; omega) rfl
  unfold Out four
  rw [e1]
  exact this

set_option maxHeartbeats 800000 in
theorem holds_far (ver : Int) (v : Value) (t : Bat) (w : World) (lo b : Nat) (hv : BatAt w lo b v t) (hb : b ≤ w.heap.size) (h1 : ¬ ver = 1) :
    Calls Try.prog 76 #[.int .i64 ver, v] w fun e w' => e = .returned (.bool (holds t ver)) ∧ Below w.heap.size w w' := by
  obtain ⟨rv, rfl, H, ⟨hn, A, c, rfl, hx1⟩, hx2⟩ := hv
  clear hx1 hx2
  unfold batVal
  have ht : (ver != 1) = true := by simp [h1]
  have HE : Hid (holds t ver = (ver == 2)) := by show _ = _; rw [Bool.eq_iff_iff]; simp [holds, h1]
  clear h1
  go_enter Try.func76, Try.ntmps76
  go_wp2
  go_ret
  exact ⟨Seg.ret_bool HE.out.symm, below1 _ _⟩

set_option maxHeartbeats 1600000 in
theorem holds_one (v : Value) (t : Bat) (w : World) (lo b : Nat) (hv : BatAt w lo b v t) (hb : b ≤ w.heap.size) :
    Calls Try.prog 76 #[.int .i64 1, v] w fun e w' => e = .returned (.bool (holds t 1)) ∧ Below w.heap.size w w' := by
  obtain ⟨rv, rfl, H, ⟨hn, A, c, rfl, hrow⟩, hh⟩ := hv
  have HR := Seg.hid hrow; have HH := Seg.hid hh
  clear hrow hh
  unfold batVal
  go_enter Try.func76, Try.ntmps76
  go_wp2
  go_loopw [14] (fun i wr => ∃ (k : Nat), i = .int .i64 k ∧ k ≤ t.recs.length ∧ Hid (Below w.heap.size w wr ∧ wr.heap[w.heap.size]? = some (.cells (BatW.batArr t (.slice A t.recs.length c)) 44 (0, 0)) ∧ ∀ i, i < k → (t.recs.getD i default).heads.length = 0)) (fun i _ => t.recs.length - (intOf i).toNat)
  case atStart => exact ⟨0, rfl, Nat.zero_le _, below1 _ _, heap_alloc_new _ _, fun i hi => absurd hi (by omega)⟩
  case round =>
    obtain ⟨k, rfl, hle, HP⟩ := hrel
    obtain ⟨bl, var, hall⟩ := HP.out
    have hbl := bl.size
    have hvl := (Array.getElem?_eq_some_iff.1 var).1
    by_cases hlt : k < t.recs.length
    · obtain ⟨gr, o, rfl, hgr, hc, hcell, _⟩ := HR.out.resolve_left (by omega)
      obtain ⟨c0, c1, c2, c3, c4, c5⟩ := RecsW.six (RecsW.six' hcell bl (by omega)) k hlt
      obtain ⟨hnh, Ah, ch, hHe, _⟩ := HH.out k hlt
      rw [hHe] at c5
      have NX : Hid ((t.recs.getD k default).heads.length = 0 → ∀ x : Obj, Below w.heap.size w (wr.alloc x) ∧ (wr.alloc x).heap[w.heap.size]? = some (.cells (BatW.batArr t (.slice (some ⟨gr, o, none⟩) t.recs.length c)) 44 (0, 0)) ∧ ∀ i, i < k + 1 → (t.recs.getD i default).heads.length = 0) := fun h0 x => ⟨bl.alloc (by omega) _, (heap_alloc_old wr _ hvl).trans var, fun i hi => by
        by_cases he : i = k
        · subst he; exact h0
        · exact hall i (by omega)⟩
      have BB : Hid (∀ x : Obj, Below w.heap.size w (wr.alloc x)) := fun x => bl.alloc (by omega) _
      have NO : Hid (¬ (t.recs.getD k default).heads.length = 0 → holds t 1 = false) := fun h0 => by
        simp only [holds, Bool.or_eq_false_iff, Bool.and_eq_false_iff]
        refine ⟨by decide, .inr ?_⟩
        rw [List.all_eq_false]
        refine ⟨t.recs[k], List.getElem_mem hlt, ?_⟩
        have : t.recs.getD k default = t.recs[k] := by simp [hlt]
        rw [← this]
        simpa using h0
      have h0 : (0 : Int) ≤ (k : Int) := by omega
      have h1 : (k : Int) < (t.recs.length : Int) := by omega
      clear hcell hHe bl var hall
      generalize t.recs.getD k default = r at *
      by_cases hz : r.heads.length = 0
      · have hz0 : ¬ (0 : Int) < (r.heads.length : Int) := by omega
        have N1 := Seg.hid (NX.out hz)
        clear hz
        go_wp2
        go_roundw
        case rel => exact ⟨k + 1, by go_num, by omega, N1.out _⟩
        case measure => simp [intOf]; omega
      · have hz0 : (0 : Int) < (r.heads.length : Int) := by omega
        have N1 := Seg.hid (NO.out hz)
        clear hz
        go_wp2
        go_ret
        exact ⟨Seg.ret_bool N1.out.symm, BB.out _⟩
    · obtain rfl : k = t.recs.length := by omega
      obtain ⟨d0, d1, d2, d3, d4, d5, d6⟩ := BOk.seven var
      have B1 := Seg.hid bl
      have HE : Hid ((t.producer == -1) = holds t 1) := by
        show _ = _
        have : (t.recs.all fun r => decide (r.heads.length = 0)) = true := by
          rw [List.all_eq_true]
          intro x hx
          obtain ⟨i, hi, rfl⟩ := List.getElem_of_mem hx
          have := hall i hi
          simpa [hi] using this
        unfold holds
        rw [this, Bool.eq_iff_iff]
        simp
      clear bl var hall
      go_wp2
      go_ret
      exact ⟨Seg.ret_bool HE.out, B1.out⟩

theorem holds_any (ver : Int) (v : Value) (t : Bat) (w : World) (lo b : Nat) (hv : BatAt w lo b v t) (hb : b ≤ w.heap.size) :
    Calls Try.prog 76 #[.int .i64 ver, v] w fun e w' => e = .returned (.bool (holds t ver)) ∧ Below w.heap.size w w' := by
  by_cases h : ver = 1
  · subst h; exact holds_one v t w lo b hv hb
  · exact holds_far ver v t w lo b hv hb h
end Go.Proofs.Ytdcbgkcnidbakaa.WrC
