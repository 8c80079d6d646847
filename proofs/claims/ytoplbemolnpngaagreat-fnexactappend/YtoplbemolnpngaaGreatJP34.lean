/- The program's put: a Log of the call's own takes a batch. -/
import Derived.Deep.RegionLaw
import Derived.Deep.RegionHeld3
import Derived.BigQuiet
import Derived.Test.YtoplbemolnpngaaGreatJP28
import Derived.Test.YtoplbemolnpngaaGreatJP30
import Derived.Test.YtoplbemolnpngaaGreatJP32
import Derived.Test.YtoplbemolnpngaaGreatJP33
import Derived.Test.YtoplbemolnpngaaGreatJP17
import Derived.Test.YtoplbemolnpngaaGreatJP31
namespace Go.Proofs.YtoplbemolnpngaaGreat.Ft
set_option maxRecDepth 8000
open Go.RowKit
open Recs
open Bats SegW Segs LogW JoP Zs BfP ApP EoP
open LgP (logOk)
set_option linter.unusedVariables false
theorem put_last {segs : List Sg} {b : Int} {u : Bat} : (segs ++ [(⟨b, []⟩ : Sg)]).set segs.length ⟨b, [] ++ [u]⟩ = segs ++ [(⟨b, [u]⟩ : Sg)] := by
  rw [List.set_append_right _ _ (Nat.le_refl _), Nat.sub_self]
  rfl
theorem last_flat (ss : List Sg) (hok : ∀ i, i < ss.length → ∀ k, k < (ss.getD i default).bats.length → BOk.batOk ((ss.getD i default).bats.getD k default) = true) (hc : (flatB ss).length ≤ 400) : sizes (lastS ss).bats ≤ 40000000 ∧ (lastS ss).bats.length ≤ 400 ∧ ∀ i, i < (lastS ss).bats.length → BOk.batOk ((lastS ss).bats.getD i default) = true := by
  have h1 := flat_last ss
  have ok := ok_flat ss hok
  have z1 := sizes_all _ ok
  exact ⟨by omega, by omega, fun i hi => ok _ (last_mem ss i hi)⟩
set_option maxHeartbeats 25600000 in
theorem put_core (l : Lg) (t : Bat) (A A6 : Option Addr) (c c6 : Nat) (w : World) (OB base lo b : Nat) (F : Nat → Value) (P : Nat → Nat → Prop) (hok : logOk l = true) (hf : FewL l) (hft : FewB t) (hb : b ≤ base) (hbw : base ≤ w.heap.size)
    (hP : PV w w OB base l (.slice A l.segs.length c) l.segs F P) (ht : RecsAt w lo b (.slice A6 t.recs.length c6) t.recs) :
    Calls Tryz.prog 29 #[.pointer (some ⟨OB, 0, none⟩), .agg (BatW.batArr t (.slice A6 t.recs.length c6))] w fun e w' => e = .returned (.int .i64 (put l t).2) ∧ ∃ v' F' P', PV w w' OB base (put l t).1 v' (put l t).1.segs F' P' := by
  obtain ⟨i0, hi, hz0, hz1, hz2⟩ := info_parts infoSgG
  obtain ⟨i1, hi1, hy0, hy1, hy2⟩ := info_parts infoB
  obtain ⟨f, k1, k2, k3, k4, k5, k6⟩ := ok_parts hok
  have SO := Seg.hid (okAllS k1)
  have FC := ok_many hok
  have K1 := Seg.hid k1
  have HF := Seg.hid hf; have HFT := Seg.hid hft
  have HP := Seg.hid hP; have HT := Seg.hid ht
  have OBl := hP.hi
  obtain ⟨o0, o1, o2, o3⟩ := four hP.out
  obtain ⟨u, hu⟩ : ∃ u, setB l.next t = u := ⟨_, rfl⟩
  have hu0 : u.base = l.next := by rw [← hu]; rfl
  have hu6 : u.recs = t.recs := by rw [← hu]; rfl
  have hu1 : u.epoch = t.epoch := by rw [← hu]; rfl
  have PUT : Hid (put l t = if code l u = 0 then (⟨l.start, l.next + (t.recs.length : Int), l.roll, grow l u⟩, 0) else (l, code l u)) := by show _ = _; unfold put; rw [hu]
  have UARR : Hid (∀ rv, BatW.batArr u rv = #[.int .i64 l.next, .int .i64 t.epoch, .int .i64 t.producer, .int .i64 t.turn, .int .i64 t.seq, .int .i64 t.flags, rv]) := fun rv => by rw [← hu]; rfl
  have UA : Hid (∀ wx, Below w.heap.size w wx → BatAt wx lo b (.agg (BatW.batArr u (.slice A6 t.recs.length c6))) u) := fun wx bx => ⟨_, rfl, by rw [hu6]; exact HT.out.keep fun g _ hg => bx.block g (by omega)⟩
  have UFB : Hid (FewB u) := by show _; unfold FewB; rw [hu6]; exact HFT.out
  have HU0 := Seg.hid hu0; have HU6 := Seg.hid hu6; have HU1 := Seg.hid hu1
  clear hP ht hok hf hft k1 hu hu0 hu1 hu6 k2 k4 k5
  unfold BatW.batArr
  go_enter Tryz.func29, Tryz.ntmps29
  go_wp2_with fail
  have ua0 := UA.out (w.alloc (.cells #[.int .i64 l.next, .int .i64 t.epoch, .int .i64 t.producer, .int .i64 t.turn, .int .i64 t.seq, .int .i64 t.flags, .slice A6 t.recs.length c6] 38 (0, 0))) (below1 w _)
  rw [UARR.out] at ua0
  refine (BOk.impl_any _ u (w.alloc _) lo b ua0 (by rw [hsz]; omega)).mono ?_
  clear ua0
  rintro e w1 ⟨rfl, b1⟩
  have B1 := Seg.hid (chain (below1 w _) b1)
  have BX1 : Hid (w1.heap[w.heap.size]? = some (.cells (BatW.batArr u (.slice A6 t.recs.length c6)) 38 (0, 0))) := (b1.block w.heap.size (by rw [hsz]; omega)).trans (by rw [UARR.out]; exact heap_alloc_new _ _)
  have s1 := b1.size
  rw [hsz] at s1
  clear b1 o0 o1 o2 o3
  cases hbo : BOk.batOk u with
  | false =>
    have HC : Hid (put l t = (l, 2)) := by
      show _ = _
      have : code l u = 2 := by unfold code; rw [if_pos (.inl hbo)]
      rw [PUT.out, if_neg (by rw [this]; decide), this]
    clear hbo
    go_wp2_with fail
    go_ret
    exact ⟨by rw [HC.out]; rfl, _, _, _, by rw [HC.out]; exact HP.out.later B1.out⟩
  | true =>
  have HBO := Seg.hid hbo
  have okl := LgP.okLen hbo
  rw [HU0.out, HU6.out] at okl
  clear hbo
  have SEV : Hid (∀ wx, Below w1.heap.size w1 wx → wx.cell? ⟨w.heap.size, 0, none⟩ = some (.int .i64 l.next) ∧ wx.cell? ⟨w.heap.size, 1, none⟩ = some (.int .i64 t.epoch) ∧ wx.cell? ⟨w.heap.size, 2, none⟩ = some (.int .i64 t.producer) ∧ wx.cell? ⟨w.heap.size, 3, none⟩ = some (.int .i64 t.turn) ∧ wx.cell? ⟨w.heap.size, 4, none⟩ = some (.int .i64 t.seq) ∧ wx.cell? ⟨w.heap.size, 5, none⟩ = some (.int .i64 t.flags) ∧ wx.cell? ⟨w.heap.size, 6, none⟩ = some (.slice A6 t.recs.length c6)) := fun wx bx => by
    have h := (bx.block w.heap.size (by omega)).trans BX1.out
    rw [UARR.out] at h
    exact ⟨cell_of_row wx _ 0 _ _ (0, 0) h, cell_of_row wx _ 1 _ _ (0, 0) h, cell_of_row wx _ 2 _ _ (0, 0) h, cell_of_row wx _ 3 _ _ (0, 0) h, cell_of_row wx _ 4 _ _ (0, 0) h, cell_of_row wx _ 5 _ _ (0, 0) h, cell_of_row wx _ 6 _ _ (0, 0) h⟩
  have LGC : Hid (∀ wx, Below w1.heap.size w1 wx → wx.cell? ⟨OB, 0, none⟩ = some (.int .i64 l.start) ∧ wx.cell? ⟨OB, 1, none⟩ = some (.int .i64 l.next) ∧ wx.cell? ⟨OB, 2, none⟩ = some (.int .i64 l.roll) ∧ wx.cell? ⟨OB, 3, none⟩ = some (.slice A l.segs.length c)) := fun wx bx => four (HP.out.later (chain B1.out bx)).out
  have UAV : Hid (∀ wx, Below w1.heap.size w1 wx → BatAt wx lo b (.agg #[.int .i64 l.next, .int .i64 t.epoch, .int .i64 t.producer, .int .i64 t.turn, .int .i64 t.seq, .int .i64 t.flags, .slice A6 t.recs.length c6]) u) := fun wx bx => by rw [← UARR.out]; exact UA.out wx (chain B1.out bx)
  have w1l : w.heap.size < w1.heap.size := by omega
  have OBl1 : OB < w1.heap.size := by omega
  obtain ⟨y0, y1, y2, y3, y4, y5, y6⟩ := SEV.out w1 (Below.refl _ _)
  go_wp2_with fail
  refine (LgI.behind_any _ u w1 lo b (UAV.out w1 (Below.refl _ _)) HBO.out).mono ?_
  rintro e w2 ⟨rfl, b2⟩
  rw [HU0.out, HU6.out]
  have B2 := Seg.hid b2
  have s2 := b2.size
  clear b2 y0 y1 y2 y3 y4 y5 y6
  by_cases hmo : 1000000000 < l.next + (t.recs.length : Int)
  · have HC : Hid (put l t = (l, 2)) := by
      show _ = _
      have : code l u = 2 := by unfold code; rw [if_pos (.inr (by rw [HU0.out, HU6.out]; exact hmo))]
      rw [PUT.out, if_neg (by rw [this]; decide), this]
    have g1 : decide (1000000000 < l.next + (t.recs.length : Int)) = true := decide_eq_true hmo
    go_wp2_with fail
    go_ret
    exact ⟨by rw [HC.out]; rfl, _, _, _, by rw [HC.out]; exact HP.out.later (chain B1.out B2.out)⟩
  have g1 : decide (1000000000 < l.next + (t.recs.length : Int)) = false := decide_eq_false hmo
  have CD : Hid (code l u = if t.epoch < lastE 0 (flatB l.segs) then 3 else if (flatB l.segs).length = 400 ∨ fits l u = false ∧ l.segs.length = 60 then 4 else 0) := by
    show _ = _
    unfold code
    rw [if_neg (by rw [HBO.out, HU0.out, HU6.out]; intro h; rcases h with h | h; cases h; exact hmo h), HU1.out]
  have SG : Hid (∀ wx, Below w1.heap.size w1 wx → SegsAt wx base wx.heap.size (.slice A l.segs.length c) l.segs) := fun wx bx => (HP.out.later (chain B1.out bx)).segs (by omega)
  have LE : Hid (∀ wx, Below w1.heap.size w1 wx → Calls Tryz.prog 48 #[.slice A l.segs.length c] wx fun e w' => e = .returned (.int .i64 (lastE 0 (flatB l.segs))) ∧ Below wx.heap.size wx w') := fun wx bx => Eo.lastEpoch_any _ l.segs f wx base wx.heap.size (Nat.le_refl _) (by omega) HF.out.1.2 K1.out FC (SG.out wx bx)
  obtain ⟨le, hle⟩ : ∃ le, lastE 0 (flatB l.segs) = le := ⟨_, rfl⟩
  rw [hle] at LE CD
  clear hle
  obtain ⟨y0, y1, y2, y3, y4, y5, y6⟩ := SEV.out w2 B2.out
  obtain ⟨o0, o1, o2, o3⟩ := LGC.out w2 B2.out
  have ST : Hid (∀ wx, Below w1.heap.size w1 wx → wx.cell? ⟨w.heap.size, 1, none⟩ = some (.int .i64 t.epoch) ∧ wx.cell? ⟨OB, 3, none⟩ = some (.slice A l.segs.length c)) := fun wx bx => ⟨(SEV.out wx bx).2.1, (LGC.out wx bx).2.2.2⟩
  go_wp2_with fail
  go_region_held3 (fun w' => w'.cell? ⟨w.heap.size, 1, none⟩ = some (.int .i64 t.epoch) ∧ w'.cell? ⟨OB, 3, none⟩ = some (.slice A l.segs.length c)) (first | exact ST.out _ B3.out | exact ST.out _ B2.out | exact ST.out _ B2.out.drew | go_keep)
    (first | (go_at_call 48; refine (LE.out w2.drew B2.out.drew).mono ?_; rintro e w3 ⟨rfl, b3⟩; have B3 : Hid (Below w1.heap.size w1 w3) := chain B2.out ⟨b3.os, b3.tape, b3.output, b3.size, b3.block⟩; clear b3))
  by_cases hep : t.epoch < le
  · have HC : Hid (put l t = (l, 3)) := by
      show _ = _
      have : code l u = 3 := by rw [CD.out, if_pos hep]
      rw [PUT.out, if_neg (by rw [this]; decide), this]
    have g2 : decide (t.epoch < le) = true := decide_eq_true hep
    clear y0 y1 y2 y3 y4 y5 y6 o0 o1 o2 o3
    go_wp2_with fail
    go_ret
    exact ⟨by rw [HC.out]; rfl, _, _, _, by rw [HC.out]; exact HP.out.later (chain B1.out B3.out)⟩
  have g2 : decide (t.epoch < le) = false := decide_eq_false hep
  have CD2 : Hid (code l u = if (flatB l.segs).length = 400 ∨ fits l u = false ∧ l.segs.length = 60 then 4 else 0) := by show _ = _; rw [CD.out, if_neg hep]
  obtain ⟨bd1, bd2, bd3⟩ := last_flat l.segs SO.out FC
  have FT : Hid (∀ wx, Below w1.heap.size w1 wx → Calls Tryz.prog 49 #[.agg #[.int .i64 l.start, .int .i64 l.next, .int .i64 l.roll, .slice A l.segs.length c], .agg #[.int .i64 l.next, .int .i64 t.epoch, .int .i64 t.producer, .int .i64 t.turn, .int .i64 t.seq, .int .i64 t.flags, .slice A6 t.recs.length c6]] wx fun e w' => e = .returned (.bool (fits l u)) ∧ Below wx.heap.size wx w') := fun wx bx => by
    have h := fits_core l u A A6 c c6 wx base wx.heap.size lo b (Nat.le_refl _) (by have := bx.size; omega) (by omega) bd1 (size_le HBO.out).2 bd2 bd3 (SG.out wx bx) (by rw [HU6.out]; exact UA.out wx (chain B1.out bx))
    rw [HU6.out, UARR.out] at h
    exact h
  have CNT : Hid (∀ wx, Below w1.heap.size w1 wx → Calls Tryz.prog 50 #[.slice A l.segs.length c] wx fun e w' => e = .returned (.int .i64 ((flatB l.segs).length : Nat)) ∧ Below wx.heap.size wx w') := fun wx bx => by
    have h := LgI.count_any _ l.segs wx base wx.heap.size (SG.out wx bx) (Nat.le_refl _) (by omega) HF.out.1.2
    rw [← many_flat] at h
    exact h
  obtain ⟨fb, hfb⟩ : ∃ fb, fits l u = fb := ⟨_, rfl⟩
  obtain ⟨mn, hmn⟩ : ∃ mn, (flatB l.segs).length = mn := ⟨_, rfl⟩
  rw [hfb] at FT CD2
  rw [hmn] at CNT CD2 FC
  have HFB := Seg.hid hfb
  clear hfb hmn y0 y1 y2 y3 y4 y5 y6 o0 o1 o2 o3 ST
  have ST : Hid (∀ w', Below w1.heap.size w1 w' → w'.cell? ⟨OB, 0, none⟩ = some (.int .i64 l.start) ∧ w'.cell? ⟨OB, 1, none⟩ = some (.int .i64 l.next) ∧ w'.cell? ⟨OB, 2, none⟩ = some (.int .i64 l.roll) ∧ w'.cell? ⟨OB, 3, none⟩ = some (.slice A l.segs.length c) ∧ w'.cell? ⟨w.heap.size, 0, none⟩ = some (.int .i64 l.next) ∧ w'.cell? ⟨w.heap.size, 1, none⟩ = some (.int .i64 t.epoch) ∧ w'.cell? ⟨w.heap.size, 2, none⟩ = some (.int .i64 t.producer) ∧ w'.cell? ⟨w.heap.size, 3, none⟩ = some (.int .i64 t.turn) ∧ w'.cell? ⟨w.heap.size, 4, none⟩ = some (.int .i64 t.seq) ∧ w'.cell? ⟨w.heap.size, 5, none⟩ = some (.int .i64 t.flags) ∧ w'.cell? ⟨w.heap.size, 6, none⟩ = some (.slice A6 t.recs.length c6)) := fun wx bx => ⟨(LGC.out wx bx).1, (LGC.out wx bx).2.1, (LGC.out wx bx).2.2.1, (LGC.out wx bx).2.2.2, SEV.out wx bx⟩
  go_wp2_with fail
  go_region_held3 (fun w' => w'.cell? ⟨OB, 0, none⟩ = some (.int .i64 l.start) ∧ w'.cell? ⟨OB, 1, none⟩ = some (.int .i64 l.next) ∧ w'.cell? ⟨OB, 2, none⟩ = some (.int .i64 l.roll) ∧ w'.cell? ⟨OB, 3, none⟩ = some (.slice A l.segs.length c) ∧ w'.cell? ⟨w.heap.size, 0, none⟩ = some (.int .i64 l.next) ∧ w'.cell? ⟨w.heap.size, 1, none⟩ = some (.int .i64 t.epoch) ∧ w'.cell? ⟨w.heap.size, 2, none⟩ = some (.int .i64 t.producer) ∧ w'.cell? ⟨w.heap.size, 3, none⟩ = some (.int .i64 t.turn) ∧ w'.cell? ⟨w.heap.size, 4, none⟩ = some (.int .i64 t.seq) ∧ w'.cell? ⟨w.heap.size, 5, none⟩ = some (.int .i64 t.flags) ∧ w'.cell? ⟨w.heap.size, 6, none⟩ = some (.slice A6 t.recs.length c6)) (first | exact ST.out _ B4.out | exact ST.out _ B3.out | exact ST.out _ B3.out.drew | go_keep)
    (first | (go_at_call 49; refine (FT.out w3.drew B3.out.drew).mono ?_; rintro e w4 ⟨rfl, b4⟩; have B4 : Hid (Below w1.heap.size w1 w4) := chain B3.out ⟨b4.os, b4.tape, b4.output, b4.size, b4.block⟩; clear b4))
  obtain ⟨o0, o1, o2, o3⟩ := LGC.out w4 B4.out
  have s4 := B4.out.size
  have OBl4 : OB < w4.heap.size := by omega
  go_wp2_with fail
  refine (CNT.out w4 B4.out).mono ?_
  rintro e w5 ⟨rfl, b5⟩
  have B5 := Seg.hid (chain B4.out b5)
  have s5 := b5.size
  clear b5 o0 o1 o2 o3
  obtain ⟨o0, o1, o2, o3⟩ := LGC.out w5 B5.out
  have OBl5 : OB < w5.heap.size := by omega
  have PT4 : Hid (mn = 400 ∨ fb = false ∧ l.segs.length = 60 → put l t = (l, 4)) := fun h => by
    have : code l u = 4 := by rw [CD2.out, if_pos h]
    rw [PUT.out, if_neg (by rw [this]; decide), this]
  have PT0 : Hid (¬ (mn = 400 ∨ fb = false ∧ l.segs.length = 60) → put l t = (⟨l.start, l.next + (t.recs.length : Int), l.roll, grow l u⟩, 0)) := fun h => by
    have : code l u = 0 := by rw [CD2.out, if_neg h]
    rw [PUT.out, if_pos this]
  by_cases hm4 : mn = 400
  · have HC := Seg.hid (PT4.out (.inl hm4))
    have g3 : ((mn : Int) == 400) = true := by rw [hm4]; rfl
    have g4 : (mn : Int) = 400 := by omega
    clear hm4
    go_wp2_with fail
    go_ret
    exact ⟨by rw [HC.out]; rfl, _, _, _, by rw [HC.out]; exact HP.out.later (chain B1.out B5.out)⟩
  have g4 : ¬ (mn : Int) = 400 := by omega
  have g3 : ((mn : Int) == 400) = false := beq_false_of_ne g4
  have P5 := Seg.hid (HP.out.later (chain B1.out B5.out))
  have BX5 := Seg.hid ((B5.out.block w.heap.size w1l).trans BX1.out)
  cases fb with
  | false =>
    by_cases hn6 : l.segs.length = 60
    · have HC := Seg.hid (PT4.out (.inr ⟨rfl, hn6⟩))
      have g5 : (l.segs.length : Int) = 60 := by omega
      have g6 : ((l.segs.length : Int) == 60) = true := by rw [g5]; rfl
      clear hn6
      go_wp2_with fail
      go_ret
      exact ⟨by rw [HC.out]; rfl, _, _, _, by rw [HC.out]; exact HP.out.later (chain B1.out B5.out)⟩
    have HC := Seg.hid (PT0.out (fun h => by rcases h with h | h; exact hm4 h; exact hn6 h.2))
    have g5 : ¬ (l.segs.length : Int) = 60 := by omega
    have g6 : ((l.segs.length : Int) == 60) = false := beq_false_of_ne g5
    have hGR : Hid (grow l u = l.segs ++ [(⟨u.base, [u]⟩ : Sg)]) := by show _ = _; unfold grow; rw [HFB.out]; rfl
    go_wp2_with fail
    have ob5 : w5.cell? ⟨w.heap.size, 0, none⟩ = some (.int .i64 l.next) := (SEV.out w5 B5.out).1
    have P5d := Seg.hid (P5.out.later (w8 := w5.drew) ((Below.refl _ _).drew))
    have nbx : (Value.slice A l.segs.length c).ownBlock ≠ some w.heap.size := fun e => by have := (World.ownsRow.lt HP.out.grow.own _ e).2; omega
    have PSH : Hid (∀ g9 cap9 w9 o9, w9.ownsRow base 55 2 (.slice (some ⟨g9, 0, none⟩) (l.segs.length + 1) cap9) (l.segs.length + 1) ((List.range (l.segs.length * 2)).map F ++ (segArr ⟨l.next, []⟩ (.slice none 0 0)).toList) → (w5.drew.alloc o9).grownBy w9 (Value.slice A l.segs.length c).ownBlock → ((Value.slice A l.segs.length c).ownBlock = some g9 ∨ g9 = w5.drew.heap.size + 1) → ((∃ F' P', PV w (w9.setCell ⟨OB, 3, none⟩ (.slice (some ⟨g9, 0, none⟩) (l.segs.length + 1) cap9)) OB base l (.slice (some ⟨g9, 0, none⟩) (l.segs.length + 1) cap9) (l.segs ++ [⟨l.next, []⟩]) F' P' ∧ ∀ i, i < l.segs.length + 1 → ¬ P' i w.heap.size) ∧ g9 ≠ w.heap.size ∧ (w9.setCell ⟨OB, 3, none⟩ (.slice (some ⟨g9, 0, none⟩) (l.segs.length + 1) cap9)).heap[w.heap.size]? = some (.cells (BatW.batArr u (.slice A6 t.recs.length c6)) 38 (0, 0))) ∧ w9.cell? ⟨OB, 3, none⟩ = some (.slice A l.segs.length c) ∧ w9.frozen? ⟨OB, 3, none⟩ = false) := fun g9 cap9 w9 o9 x1 x2 x3 => by
      obtain ⟨z1, z2, z3⟩ := PV.push P5d.out (t := ⟨l.next, []⟩) rfl x1 x2 x3
      refine ⟨⟨?_, ?_, ?_⟩, z2, z3⟩
      · obtain ⟨F', P', z4, z5⟩ := z1
        exact ⟨F', P', z4, fun i hi hx => by obtain ⟨i', hi', hx'⟩ := z5 i hi _ hx; have := (HP.out.grow.apart i' hi' _ hx').2.1; omega⟩
      · rcases x3 with x3 | x3
        · exact fun e => nbx (by rw [x3, e])
        · replace x3 : g9 = w5.heap.size + 1 := x3
          omega
      rw [heap_setCell_other _ _ _ _ (by show w.heap.size ≠ OB; omega), x2.block w.heap.size (by rw [hsz]; show _ < w5.heap.size + 1; omega) (fun e => nbx e.symm), (below1 _ _).block _ (by show _ < w5.heap.size; omega)]
      exact BX5.out
    have OWN5 : Hid (∀ o9, (w5.drew.alloc o9).ownsRow base 55 2 (.slice A l.segs.length c) l.segs.length ((List.range (l.segs.length * 2)).map F)) := fun o9 => World.ownsRow.alloc P5d.out.grow.own _
    have bw5 : base ≤ w5.heap.size + 1 := by omega
    have hw5 : w.heap.size < w5.heap.size := by omega
    clear P5d P5 BX5 nbx SG FT CNT ST LE
    go_region_law
      ((first | (refine step_append_lies _ (by rfl) _ _ _ (by rfl) base 55 i0 _ 2 32 Tryz.underlying30 hi hz0 hz1 hz2 rfl (by decide) (.slice A l.segs.length c) l.segs.length ((List.range (l.segs.length * 2)).map F) (by rfl) (OWN5.out _) ⟨w5.heap.size, 0, none⟩ 1 1 (segArr ⟨l.next, []⟩ (.slice none 0 0)).toList (by rfl) (by rfl) (World.news_of_block (cs := segArr ⟨l.next, []⟩ (.slice none 0 0)) (heap_alloc_new w5.drew _)) (by simp [segArr, Value.oneCell']) (by decide) (by unfold maxLen; omega) (by omega) (by show base ≤ (w5.alloc _).heap.size; rw [hsz]; exact bw5) (w5.heap.size + 1) (hsz w5.drew _) ?_; intro g9 cap9 w9 hown9 gr9 hat9 hlt9; have D9 := Seg.hid (PSH.out _ _ _ _ hown9 gr9 hat9); have q6 := D9.out.2.1; have p6 := D9.out.2.2; clear hown9 gr9 hat9 hlt9)))
    all_goals
      obtain ⟨wq, hwq⟩ : ∃ wq, w9.setCell ⟨OB, 3, none⟩ (.slice (some ⟨g9, 0, none⟩) (l.segs.length + 1) cap9) = wq := ⟨_, rfl⟩
      have D10 := Seg.hid D9.out.1
      rw [hwq] at D10 ⊢
      clear hwq D9 q6 p6 ob5 o0 o1 o2 o3
      obtain ⟨F9, P9, hP9, hN9⟩ := D10.out.1
      have BXq := Seg.hid D10.out.2.2
      have hng := D10.out.2.1
      have bxl : w.heap.size < wq.heap.size := (Array.getElem?_eq_some_iff.1 BXq.out).1
      obtain ⟨us, hus⟩ : ∃ us, l.segs ++ [(⟨l.next, []⟩ : Sg)] = us := ⟨_, rfl⟩
      have hul : us.length = l.segs.length + 1 := by rw [← hus]; simp
      have PQ : Hid (PV w wq OB base l (.slice (some ⟨g9, 0, none⟩) us.length cap9) us F9 P9) := by show PV _ _ _ _ _ _ _ _ _; rw [hul, ← hus]; exact hP9
      have PBX : Hid (∀ i, i < us.length → ¬ P9 i w.heap.size) := by rw [hul]; exact hN9
      have PBG : Hid (g9 ≠ w.heap.size) := hng
      obtain ⟨bl, hbl⟩ : ∃ bl : List Bat, bl = [] := ⟨_, rfl⟩
      have hb4 : bl.length ≤ 400 := by rw [hbl]; simp
      have BLQ : Hid ((us.getD (us.length - 1) default).bats = bl) := by show _ = _; rw [hbl, hul, ← hus]; simp
      have GQ : Hid (grow l u = us.set (us.length - 1) ⟨(us.getD (us.length - 1) default).base, bl ++ [u]⟩) := by
        show _ = _
        rw [hbl, hGR.out, hul, ← hus, Nat.add_sub_cancel, HU0.out, ← put_last (segs := l.segs) (b := l.next) (u := u)]
        simp
      obtain ⟨cq, hcq⟩ : ∃ cq, cq = cap9 := ⟨_, rfl⟩
      obtain ⟨g, hgg⟩ : ∃ g, g = g9 := ⟨_, rfl⟩
      subst hcq hgg
      have ul6 : us.length ≤ 61 := by omega
      have un : us.length ≠ 0 := by omega
      clear hP9 D10 hN9 hng hbl hus hul hGR PSH OWN5
      have PQd := Seg.hid PQ.out
      have OBq := PQ.out.hi
      have oq3 : wq.cell? ⟨OB, 3, none⟩ = some (.slice (some ⟨g, 0, none⟩) us.length cq) := (four PQ.out.out).2.2.2
      have zw : IntKind.i64.wrap ((us.length : Int) - 1) = (us.length : Int) - 1 := by rw [IntKind.wrap_i64]; omega
      have u0 : (0 : Int) ≤ (us.length : Int) - 1 := by omega
      have u1 : (1 : Int) ≤ (us.length : Int) := by omega
      have u2 : us.length - 1 < us.length := by omega
      have u3 : 1 ≤ us.length := by omega
      have u4 : 0 < us.length := by omega
      have u5 : (us.length : Int) - 1 < (us.length : Int) := by omega
      go_wp2_with fail
      go_quiet (fail)
      obtain ⟨wt, hwt⟩ : ∃ wt, wq.drewN nq = wt := ⟨_, rfl⟩
      have BQ : Hid (Below wq.heap.size wq wt) := by rw [← hwt]; exact ⟨rfl, rfl, rfl, Nat.le_refl _, fun _ _ => rfl⟩
      rw [hwt]
      clear hwt oq3
      have PT := Seg.hid (PQ.out.later BQ.out)
      have BXt := Seg.hid ((BQ.out.block w.heap.size bxl).trans BXq.out)
      have PTd := Seg.hid (PT.out.later (w8 := wt.drew) ((Below.refl _ _).drew))
      have EJ := PTd.out.grow.el (us.length - 1) u2
      obtain ⟨A3, c3, hF3⟩ := EJ.2.form
      obtain ⟨_, F1, P1, hL1, o1', p1'⟩ := EJ.2
      replace hF3 : F9 ((us.length - 1) * 2 + 1) = .slice A3 (us.getD (us.length - 1) default).bats.length c3 := hF3
      replace hL1 : LGr 38 7 EB wt.drew 0 (F9 ((us.length - 1) * 2 + 1)) (us.getD (us.length - 1) default).bats F1 P1 := hL1
      replace o1' : ∀ x, (F9 ((us.length - 1) * 2 + 1)).ownBlock = some x → P9 (us.length - 1) x := o1'
      replace p1' : ∀ i, i < (us.getD (us.length - 1) default).bats.length → ∀ x, P1 i x → P9 (us.length - 1) x := p1'
      rw [BLQ.out] at hF3 hL1 p1'
      rw [hF3] at hL1 o1'
      have ctg : ∀ wx : World, wx.ownsRow base 55 2 (.slice (some ⟨g, 0, none⟩) us.length cq) us.length ((List.range (us.length * 2)).map F9) → wx.cell? ⟨g, (us.length - 1) * 2 + 1, none⟩ = some (.slice A3 bl.length c3) := fun wx hx => by
        rw [World.ownsRow.cellAt hx ((us.length - 1) * 2 + 1) (by omega), List.getElem?_map, List.getElem?_range (by omega), ← hF3]
        rfl
      have t3 := ctg wt PT.out.grow.own
      have HL1 := Seg.hid hL1
      have glg : g < wt.heap.size := (World.ownsRow.lt PT.out.grow.own g rfl).2
      have wtl : w.heap.size < wt.heap.size := (Array.getElem?_eq_some_iff.1 BXt.out).1
      have n7 : Hid (∀ wx : World, wx.heap[w.heap.size]? = some (.cells (BatW.batArr u (.slice A6 t.recs.length c6)) 38 (0, 0)) → wx.cell? ⟨w.heap.size, 0, none⟩ = some (.int .i64 l.next) ∧ wx.cell? ⟨w.heap.size, 1, none⟩ = some (.int .i64 t.epoch) ∧ wx.cell? ⟨w.heap.size, 2, none⟩ = some (.int .i64 t.producer) ∧ wx.cell? ⟨w.heap.size, 3, none⟩ = some (.int .i64 t.turn) ∧ wx.cell? ⟨w.heap.size, 4, none⟩ = some (.int .i64 t.seq) ∧ wx.cell? ⟨w.heap.size, 5, none⟩ = some (.int .i64 t.flags) ∧ wx.cell? ⟨w.heap.size, 6, none⟩ = some (.slice A6 t.recs.length c6)) := fun wx h => by
        rw [UARR.out] at h
        exact ⟨cell_of_row wx _ 0 _ _ (0, 0) h, cell_of_row wx _ 1 _ _ (0, 0) h, cell_of_row wx _ 2 _ _ (0, 0) h, cell_of_row wx _ 3 _ _ (0, 0) h, cell_of_row wx _ 4 _ _ (0, 0) h, cell_of_row wx _ 5 _ _ (0, 0) h, cell_of_row wx _ 6 _ _ (0, 0) h⟩
      obtain ⟨y0, y1, y2, y3, y4, y5, y6⟩ := n7.out wt BXt.out
      have BAT : Hid (∀ wx, Below base w wx → BatAt wx lo b (.agg #[.int .i64 l.next, .int .i64 t.epoch, .int .i64 t.producer, .int .i64 t.turn, .int .i64 t.seq, .int .i64 t.flags, .slice A6 t.recs.length c6]) u) := fun wx bx => by
        rw [← UARR.out]
        exact ⟨_, rfl, by rw [HU6.out]; exact HT.out.keep fun gg _ hgg => bx.block gg (by omega)⟩
      have CPY : Hid (Calls Tryz.prog 51 #[.agg #[.int .i64 l.next, .int .i64 t.epoch, .int .i64 t.producer, .int .i64 t.turn, .int .i64 t.seq, .int .i64 t.flags, .slice A6 t.recs.length c6]] wt.drew fun e w' => ∃ rv, e = .returned (batVal u rv) ∧ OwnR w' (seg wt.heap.size w'.heap.size) rv u.recs ∧ Below wt.heap.size wt w') := (copyBatch_any _ u wt.drew lo b (BAT.out _ PTd.out.bel) (by show b ≤ wt.heap.size; omega) UFB.out).mono fun e w' ⟨rv, x1, x2, x3⟩ => ⟨rv, x1, x2, ⟨x3.os, x3.tape, x3.output, x3.size, x3.block⟩⟩
      have AFT : Hid (∀ w8 A8 c8, Below wt.heap.size wt w8 → OwnR w8 (seg wt.heap.size w8.heap.size) (.slice A8 u.recs.length c8) u.recs → w8.cell? ⟨g, (us.length - 1) * 2 + 1, none⟩ = some (.slice A3 bl.length c3) ∧ (∀ o9, (w8.alloc o9).ownsRow 0 38 7 (.slice A3 bl.length c3) bl.length ((List.range (bl.length * 7)).map F1)) ∧ (∀ g9 cap9 w9 o9, w9.ownsRow 0 38 7 (.slice (some ⟨g9, 0, none⟩) (bl.length + 1) cap9) (bl.length + 1) ((List.range (bl.length * 7)).map F1 ++ (BatW.batArr u (.slice A8 u.recs.length c8)).toList) → (w8.alloc o9).grownBy w9 (Value.slice A3 bl.length c3).ownBlock → ((Value.slice A3 bl.length c3).ownBlock = some g9 ∨ g9 = w8.heap.size + 1) → ((∃ F' P', PV w (w9.setCell ⟨g, (us.length - 1) * 2 + 1, none⟩ (.slice (some ⟨g9, 0, none⟩) (bl.length + 1) cap9)) OB base l (.slice (some ⟨g, 0, none⟩) us.length cq) (us.set (us.length - 1) ⟨(us.getD (us.length - 1) default).base, bl ++ [u]⟩) F' P') ∧ (w9.setCell ⟨g, (us.length - 1) * 2 + 1, none⟩ (.slice (some ⟨g9, 0, none⟩) (bl.length + 1) cap9)).heap[w.heap.size]? = some (.cells (BatW.batArr u (.slice A6 t.recs.length c6)) 38 (0, 0))) ∧ w9.cell? ⟨g, (us.length - 1) * 2 + 1, none⟩ = some (.slice A3 bl.length c3) ∧ w9.frozen? ⟨g, (us.length - 1) * 2 + 1, none⟩ = false)) := fun w8 A8 c8 b8 O8 => by
        have b8d : Below wt.drew.heap.size wt.drew w8 := ⟨b8.os, b8.tape, b8.output, b8.size, b8.block⟩
        have s8 := b8.size
        refine ⟨ctg w8 (PT.out.later b8).grow.own, fun o9 => World.ownsRow.alloc (own_keep HL1.out.own (fun x _ hx => b8.block x hx)) _, fun g9 cap9 w9 o9 x1 x2 x3 => ?_⟩
        obtain ⟨z1, z2, z3⟩ := PV.app PTd.out u2 HL1.out o1' p1' b8d O8 (by omega) x1 x2 x3
        have nb1 : (Value.slice A3 bl.length c3).ownBlock ≠ some w.heap.size := fun e => PBX.out _ u2 (o1' _ e)
        refine ⟨⟨z1, ?_⟩, ctg w9 z2, World.ownsRow.frozenAt z2 _⟩
        rw [heap_setCell_other _ _ _ _ (by show w.heap.size ≠ g; exact fun e => PBG.out e.symm), x2.block w.heap.size (by rw [hsz]; omega) (fun e => nb1 e.symm), (below1 _ _).block _ (by omega), b8.block _ wtl]
        exact BXt.out
      have hl63 : Hid (bl.length + 1 ≤ maxLen) := by show _ ≤ _; unfold maxLen; omega
      have hby : Hid ((bl.length + 1) * 72 ≤ 140737488355328) := by show _ ≤ _; omega
      clear hL1 hF3 o1' p1' EJ PT PTd PQ PQd BXq BXt ctg HL1 PBX PBG BQ
      go_wp2_with fail
      go_region_law
        ((first | (go_simp; go_at_call 51; refine CPY.out.mono ?_; rintro e w8 ⟨rv8, rfl, ow8, b8⟩; obtain ⟨A8, c8, hA8⟩ := LOwn.form ow8; subst hA8; have AF := Seg.hid (AFT.out w8 A8 c8 b8 ow8); have gl8 : g < w8.heap.size := Nat.lt_of_lt_of_le glg b8.size; have K8 := AF.out.1; clear ow8 b8; unfold batVal) | (refine step_append_lies _ (by rfl) _ _ _ (by rfl) 0 38 i1 _ 7 72 Tryz.underlying52 hi1 hy0 hy1 hy2 rfl (by decide) (.slice A3 bl.length c3) bl.length ((List.range (bl.length * 7)).map F1) (by rfl) (AF.out.2.1 _) ⟨w8.heap.size, 0, none⟩ 1 1 (BatW.batArr u (.slice A8 u.recs.length c8)).toList (by rfl) (by rfl) (World.news_of_block (cs := BatW.batArr u (.slice A8 u.recs.length c8)) (heap_alloc_new w8 _)) (by simp [BatW.batArr, Value.oneCell']) (by decide) hl63.out hby.out (Nat.zero_le _) (w8.heap.size + 1) (hsz w8 _) ?_; intro g9 cap9 w9 hown9 gr9 hat9 hlt9; have D9 := Seg.hid (AF.out.2.2 _ _ _ _ hown9 gr9 hat9); have q6 := D9.out.2.1; have p6 := D9.out.2.2; clear hown9 gr9 hat9 hlt9)))
      all_goals
        clear q6 p6 K8 t3 y0 y1 y2 y3 y4 y5 y6 AF AFT CPY
        obtain ⟨wn, hwn⟩ : ∃ wn, w9.setCell ⟨g, (us.length - 1) * 2 + 1, none⟩ (.slice (some ⟨g9, 0, none⟩) (bl.length + 1) cap9) = wn := ⟨_, rfl⟩
        have D10 := Seg.hid D9.out.1
        rw [hwn] at D10 ⊢
        clear hwn D9
        obtain ⟨F10, P10, hP10⟩ := D10.out.1
        have PN := Seg.hid hP10
        have BXn := Seg.hid D10.out.2
        clear hP10 D10
        obtain ⟨y0, y1, y2, y3, y4, y5, y6⟩ := n7.out wn BXn.out
        have wnl : w.heap.size < wn.heap.size := (Array.getElem?_eq_some_iff.1 BXn.out).1
        go_wp2_with fail
        refine (LgI.behind_any _ u wn lo b (BAT.out wn PN.out.bel) HBO.out).mono ?_
        rintro e wm ⟨rfl, bm⟩
        rw [HU0.out, HU6.out]
        have PM := Seg.hid (PN.out.later bm)
        clear bm y0 y1 y2 y3 y4 y5 y6 PN
        obtain ⟨o0, o1, o2, o3⟩ := four PM.out.out
        have f1 := frozen_of_row wm OB 1 _ _ PM.out.out
        have OBm := PM.out.hi
        go_wp2_with fail
        go_ret
        exact ⟨by rw [HC.out]; rfl, .slice (some ⟨g, 0, none⟩) us.length cq, F10, P10, by rw [HC.out]; show PV _ _ _ _ _ _ (grow l u) _ _; rw [GQ.out]; exact PM.out.next _ _⟩
  | true =>
    have HC := Seg.hid (PT0.out (fun h => by rcases h with h | h; exact hm4 h; cases h.1))
    have un : l.segs.length ≠ 0 := fun e => by
      have := HFB.out
      unfold fits at this
      rw [e] at this
      cases this
    obtain ⟨g, e9⟩ : ∃ g, A = some ⟨g, 0, none⟩ := by
      rcases P5.out.grow.own.2 with ⟨x1, x2⟩ | ⟨g, cap, cur, x1, _⟩
      · omega
      · simp only [Value.slice.injEq] at x1
        exact ⟨g, x1.1⟩
    subst e9
    have GQ : Hid (grow l u = l.segs.set (l.segs.length - 1) ⟨(l.segs.getD (l.segs.length - 1) default).base, (l.segs.getD (l.segs.length - 1) default).bats ++ [u]⟩) := by show _ = _; unfold grow; rw [HFB.out, if_pos rfl]; rfl
    have PBX : Hid (∀ i, i < l.segs.length → ¬ P i w.heap.size) := fun i hi hx => by have := (HP.out.grow.apart i hi _ hx).2.1; omega
    have PBG : Hid (g ≠ w.heap.size) := fun e => by have := (World.ownsRow.lt HP.out.grow.own g rfl).2; omega
    have hb4 : (l.segs.getD (l.segs.length - 1) default).bats.length ≤ 400 := bd2
    obtain ⟨bl, hbl⟩ : ∃ bl : List Bat, (l.segs.getD (l.segs.length - 1) default).bats = bl := ⟨_, rfl⟩
    have BLQ := Seg.hid hbl
    rw [hbl] at GQ hb4
    clear hbl
    have bxl : w.heap.size < w5.heap.size := (Array.getElem?_eq_some_iff.1 BX5.out).1
    have ul6 : l.segs.length ≤ 61 := by omega
    obtain ⟨wq, hwq⟩ : ∃ wq, wq = w5 := ⟨_, rfl⟩
    obtain ⟨F9, hF9⟩ : ∃ F9, F9 = F := ⟨_, rfl⟩
    obtain ⟨P9, hP9⟩ : ∃ P9, P9 = P := ⟨_, rfl⟩
    obtain ⟨cq, hcq⟩ : ∃ cq, cq = c := ⟨_, rfl⟩
    obtain ⟨us, hus⟩ : ∃ us, us = l.segs := ⟨_, rfl⟩
    have PQ := P5
    have BXq := BX5
    clear P5 BX5 SG FT CNT ST LE o0 o1 o2 o3
    rw [← hwq] at PQ BXq bxl ⊢
    rw [← hF9, ← hP9, ← hcq, ← hus] at PQ
    rw [← hP9, ← hus] at PBX
    rw [← hus] at BLQ GQ ul6 un
    clear hus hwq hF9 hP9 hcq
    have PQd := Seg.hid PQ.out
    have OBq := PQ.out.hi
    have oq3 : wq.cell? ⟨OB, 3, none⟩ = some (.slice (some ⟨g, 0, none⟩) us.length cq) := (four PQ.out.out).2.2.2
    have zw : IntKind.i64.wrap ((us.length : Int) - 1) = (us.length : Int) - 1 := by rw [IntKind.wrap_i64]; omega
    have u0 : (0 : Int) ≤ (us.length : Int) - 1 := by omega
    have u1 : (1 : Int) ≤ (us.length : Int) := by omega
    have u2 : us.length - 1 < us.length := by omega
    have u3 : 1 ≤ us.length := by omega
    have u4 : 0 < us.length := by omega
    have u5 : (us.length : Int) - 1 < (us.length : Int) := by omega
    go_wp2_with fail
    go_quiet (fail)
    obtain ⟨wt, hwt⟩ : ∃ wt, wq.drewN nq = wt := ⟨_, rfl⟩
    have BQ : Hid (Below wq.heap.size wq wt) := by rw [← hwt]; exact ⟨rfl, rfl, rfl, Nat.le_refl _, fun _ _ => rfl⟩
    rw [hwt]
    clear hwt oq3
    have PT := Seg.hid (PQ.out.later BQ.out)
    have BXt := Seg.hid ((BQ.out.block w.heap.size bxl).trans BXq.out)
    have PTd := Seg.hid (PT.out.later (w8 := wt.drew) ((Below.refl _ _).drew))
    have EJ := PTd.out.grow.el (us.length - 1) u2
    obtain ⟨A3, c3, hF3⟩ := EJ.2.form
    obtain ⟨_, F1, P1, hL1, o1', p1'⟩ := EJ.2
    replace hF3 : F9 ((us.length - 1) * 2 + 1) = .slice A3 (us.getD (us.length - 1) default).bats.length c3 := hF3
    replace hL1 : LGr 38 7 EB wt.drew 0 (F9 ((us.length - 1) * 2 + 1)) (us.getD (us.length - 1) default).bats F1 P1 := hL1
    replace o1' : ∀ x, (F9 ((us.length - 1) * 2 + 1)).ownBlock = some x → P9 (us.length - 1) x := o1'
    replace p1' : ∀ i, i < (us.getD (us.length - 1) default).bats.length → ∀ x, P1 i x → P9 (us.length - 1) x := p1'
    rw [BLQ.out] at hF3 hL1 p1'
    rw [hF3] at hL1 o1'
    have ctg : ∀ wx : World, wx.ownsRow base 55 2 (.slice (some ⟨g, 0, none⟩) us.length cq) us.length ((List.range (us.length * 2)).map F9) → wx.cell? ⟨g, (us.length - 1) * 2 + 1, none⟩ = some (.slice A3 bl.length c3) := fun wx hx => by
      rw [World.ownsRow.cellAt hx ((us.length - 1) * 2 + 1) (by omega), List.getElem?_map, List.getElem?_range (by omega), ← hF3]
      rfl
    have t3 := ctg wt PT.out.grow.own
    have HL1 := Seg.hid hL1
    have glg : g < wt.heap.size := (World.ownsRow.lt PT.out.grow.own g rfl).2
    have wtl : w.heap.size < wt.heap.size := (Array.getElem?_eq_some_iff.1 BXt.out).1
    have n7 : Hid (∀ wx : World, wx.heap[w.heap.size]? = some (.cells (BatW.batArr u (.slice A6 t.recs.length c6)) 38 (0, 0)) → wx.cell? ⟨w.heap.size, 0, none⟩ = some (.int .i64 l.next) ∧ wx.cell? ⟨w.heap.size, 1, none⟩ = some (.int .i64 t.epoch) ∧ wx.cell? ⟨w.heap.size, 2, none⟩ = some (.int .i64 t.producer) ∧ wx.cell? ⟨w.heap.size, 3, none⟩ = some (.int .i64 t.turn) ∧ wx.cell? ⟨w.heap.size, 4, none⟩ = some (.int .i64 t.seq) ∧ wx.cell? ⟨w.heap.size, 5, none⟩ = some (.int .i64 t.flags) ∧ wx.cell? ⟨w.heap.size, 6, none⟩ = some (.slice A6 t.recs.length c6)) := fun wx h => by
      rw [UARR.out] at h
      exact ⟨cell_of_row wx _ 0 _ _ (0, 0) h, cell_of_row wx _ 1 _ _ (0, 0) h, cell_of_row wx _ 2 _ _ (0, 0) h, cell_of_row wx _ 3 _ _ (0, 0) h, cell_of_row wx _ 4 _ _ (0, 0) h, cell_of_row wx _ 5 _ _ (0, 0) h, cell_of_row wx _ 6 _ _ (0, 0) h⟩
    obtain ⟨y0, y1, y2, y3, y4, y5, y6⟩ := n7.out wt BXt.out
    have BAT : Hid (∀ wx, Below base w wx → BatAt wx lo b (.agg #[.int .i64 l.next, .int .i64 t.epoch, .int .i64 t.producer, .int .i64 t.turn, .int .i64 t.seq, .int .i64 t.flags, .slice A6 t.recs.length c6]) u) := fun wx bx => by
      rw [← UARR.out]
      exact ⟨_, rfl, by rw [HU6.out]; exact HT.out.keep fun gg _ hgg => bx.block gg (by omega)⟩
    have CPY : Hid (Calls Tryz.prog 51 #[.agg #[.int .i64 l.next, .int .i64 t.epoch, .int .i64 t.producer, .int .i64 t.turn, .int .i64 t.seq, .int .i64 t.flags, .slice A6 t.recs.length c6]] wt.drew fun e w' => ∃ rv, e = .returned (batVal u rv) ∧ OwnR w' (seg wt.heap.size w'.heap.size) rv u.recs ∧ Below wt.heap.size wt w') := (copyBatch_any _ u wt.drew lo b (BAT.out _ PTd.out.bel) (by show b ≤ wt.heap.size; omega) UFB.out).mono fun e w' ⟨rv, x1, x2, x3⟩ => ⟨rv, x1, x2, ⟨x3.os, x3.tape, x3.output, x3.size, x3.block⟩⟩
    have AFT : Hid (∀ w8 A8 c8, Below wt.heap.size wt w8 → OwnR w8 (seg wt.heap.size w8.heap.size) (.slice A8 u.recs.length c8) u.recs → w8.cell? ⟨g, (us.length - 1) * 2 + 1, none⟩ = some (.slice A3 bl.length c3) ∧ (∀ o9, (w8.alloc o9).ownsRow 0 38 7 (.slice A3 bl.length c3) bl.length ((List.range (bl.length * 7)).map F1)) ∧ (∀ g9 cap9 w9 o9, w9.ownsRow 0 38 7 (.slice (some ⟨g9, 0, none⟩) (bl.length + 1) cap9) (bl.length + 1) ((List.range (bl.length * 7)).map F1 ++ (BatW.batArr u (.slice A8 u.recs.length c8)).toList) → (w8.alloc o9).grownBy w9 (Value.slice A3 bl.length c3).ownBlock → ((Value.slice A3 bl.length c3).ownBlock = some g9 ∨ g9 = w8.heap.size + 1) → ((∃ F' P', PV w (w9.setCell ⟨g, (us.length - 1) * 2 + 1, none⟩ (.slice (some ⟨g9, 0, none⟩) (bl.length + 1) cap9)) OB base l (.slice (some ⟨g, 0, none⟩) us.length cq) (us.set (us.length - 1) ⟨(us.getD (us.length - 1) default).base, bl ++ [u]⟩) F' P') ∧ (w9.setCell ⟨g, (us.length - 1) * 2 + 1, none⟩ (.slice (some ⟨g9, 0, none⟩) (bl.length + 1) cap9)).heap[w.heap.size]? = some (.cells (BatW.batArr u (.slice A6 t.recs.length c6)) 38 (0, 0))) ∧ w9.cell? ⟨g, (us.length - 1) * 2 + 1, none⟩ = some (.slice A3 bl.length c3) ∧ w9.frozen? ⟨g, (us.length - 1) * 2 + 1, none⟩ = false)) := fun w8 A8 c8 b8 O8 => by
      have b8d : Below wt.drew.heap.size wt.drew w8 := ⟨b8.os, b8.tape, b8.output, b8.size, b8.block⟩
      have s8 := b8.size
      refine ⟨ctg w8 (PT.out.later b8).grow.own, fun o9 => World.ownsRow.alloc (own_keep HL1.out.own (fun x _ hx => b8.block x hx)) _, fun g9 cap9 w9 o9 x1 x2 x3 => ?_⟩
      obtain ⟨z1, z2, z3⟩ := PV.app PTd.out u2 HL1.out o1' p1' b8d O8 (by omega) x1 x2 x3
      have nb1 : (Value.slice A3 bl.length c3).ownBlock ≠ some w.heap.size := fun e => PBX.out _ u2 (o1' _ e)
      refine ⟨⟨z1, ?_⟩, ctg w9 z2, World.ownsRow.frozenAt z2 _⟩
      rw [heap_setCell_other _ _ _ _ (by show w.heap.size ≠ g; exact fun e => PBG.out e.symm), x2.block w.heap.size (by rw [hsz]; omega) (fun e => nb1 e.symm), (below1 _ _).block _ (by omega), b8.block _ wtl]
      exact BXt.out
    have hl63 : Hid (bl.length + 1 ≤ maxLen) := by show _ ≤ _; unfold maxLen; omega
    have hby : Hid ((bl.length + 1) * 72 ≤ 140737488355328) := by show _ ≤ _; omega
    clear hL1 hF3 o1' p1' EJ PT PTd PQ PQd BXq BXt ctg HL1 PBX PBG BQ
    go_wp2_with fail
    go_region_law
      ((first | (go_simp; go_at_call 51; refine CPY.out.mono ?_; rintro e w8 ⟨rv8, rfl, ow8, b8⟩; obtain ⟨A8, c8, hA8⟩ := LOwn.form ow8; subst hA8; have AF := Seg.hid (AFT.out w8 A8 c8 b8 ow8); have gl8 : g < w8.heap.size := Nat.lt_of_lt_of_le glg b8.size; have K8 := AF.out.1; clear ow8 b8; unfold batVal) | (refine step_append_lies _ (by rfl) _ _ _ (by rfl) 0 38 i1 _ 7 72 Tryz.underlying52 hi1 hy0 hy1 hy2 rfl (by decide) (.slice A3 bl.length c3) bl.length ((List.range (bl.length * 7)).map F1) (by rfl) (AF.out.2.1 _) ⟨w8.heap.size, 0, none⟩ 1 1 (BatW.batArr u (.slice A8 u.recs.length c8)).toList (by rfl) (by rfl) (World.news_of_block (cs := BatW.batArr u (.slice A8 u.recs.length c8)) (heap_alloc_new w8 _)) (by simp [BatW.batArr, Value.oneCell']) (by decide) hl63.out hby.out (Nat.zero_le _) (w8.heap.size + 1) (hsz w8 _) ?_; intro g9 cap9 w9 hown9 gr9 hat9 hlt9; have D9 := Seg.hid (AF.out.2.2 _ _ _ _ hown9 gr9 hat9); have q6 := D9.out.2.1; have p6 := D9.out.2.2; clear hown9 gr9 hat9 hlt9)))
    all_goals
      clear q6 p6 K8 t3 y0 y1 y2 y3 y4 y5 y6 AF AFT CPY
      obtain ⟨wn, hwn⟩ : ∃ wn, w9.setCell ⟨g, (us.length - 1) * 2 + 1, none⟩ (.slice (some ⟨g9, 0, none⟩) (bl.length + 1) cap9) = wn := ⟨_, rfl⟩
      have D10 := Seg.hid D9.out.1
      rw [hwn] at D10 ⊢
      clear hwn D9
      obtain ⟨F10, P10, hP10⟩ := D10.out.1
      have PN := Seg.hid hP10
      have BXn := Seg.hid D10.out.2
      clear hP10 D10
      obtain ⟨y0, y1, y2, y3, y4, y5, y6⟩ := n7.out wn BXn.out
      have wnl : w.heap.size < wn.heap.size := (Array.getElem?_eq_some_iff.1 BXn.out).1
      go_wp2_with fail
      refine (LgI.behind_any _ u wn lo b (BAT.out wn PN.out.bel) HBO.out).mono ?_
      rintro e wm ⟨rfl, bm⟩
      rw [HU0.out, HU6.out]
      have PM := Seg.hid (PN.out.later bm)
      clear bm y0 y1 y2 y3 y4 y5 y6 PN
      obtain ⟨o0, o1, o2, o3⟩ := four PM.out.out
      have f1 := frozen_of_row wm OB 1 _ _ PM.out.out
      have OBm := PM.out.hi
      go_wp2_with fail
      go_ret
      exact ⟨by rw [HC.out]; rfl, .slice (some ⟨g, 0, none⟩) us.length cq, F10, P10, by rw [HC.out]; show PV _ _ _ _ _ _ (grow l u) _ _; rw [GQ.out]; exact PM.out.next _ _⟩
theorem put_any (v : Value) (l : Lg) (t : Bat) (v0 : Value) (w : World) (OB base lo b : Nat) (F : Nat → Value) (P : Nat → Nat → Prop) (hok : logOk l = true) (hf : FewL l) (hft : FewB t) (hb : b ≤ base) (hbw : base ≤ w.heap.size) (hP : PV w w OB base l v0 l.segs F P) (ht : BatAt w lo b v t) :
    Calls Tryz.prog 29 #[.pointer (some ⟨OB, 0, none⟩), v] w fun e w' => e = .returned (.int .i64 (put l t).2) ∧ ∃ v' F' P', PV w w' OB base (put l t).1 v' (put l t).1.segs F' P' := by
  obtain ⟨rv, rfl, hr⟩ := ht
  obtain ⟨_, ⟨_, A6, c6, rfl, _⟩, _⟩ := id hr
  obtain ⟨A, c, rfl⟩ := LGr.form hP.grow
  exact put_core l t A A6 c c6 w OB base lo b F P hok hf hft hb hbw hP hr
end Go.Proofs.YtoplbemolnpngaaGreat.Ft
