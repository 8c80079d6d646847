/- The finder's find, at every place; Squeeze of the program; WriteBatch of the program. (Written by gen_wri.py.). -/
import Derived.Test.YtoplbemolnpngaaGreatJP21
import Derived.Test.YtoplbemolnpngaaGreatJP18
import Derived.Test.YtoplbemolnpngaaGreatJP14
import Derived.Test.YtoplbemolnpngaaGreatJP17
namespace Go.Proofs.YtoplbemolnpngaaGreat.SqW
set_option maxRecDepth 8000
open Go.RowKit
open SqM SqK SqG
set_option linter.unusedVariables false
theorem cp_short {l : List Int} {at_ : Nat} (h : l.length < at_ + 4) : cp l at_ = (0, 0) := by
  have hb := bestF_best l at_ (min 4096 at_)
  rw [cp, if_pos]
  rcases Nat.eq_zero_or_pos (bestF l at_ (min 4096 at_)).2 with h0 | h0
  · rw [hb.no h0]; omega
  · rw [(hb.is h0).1]; have := (rn_le l at_ (bestF l at_ (min 4096 at_)).2).2; omega
set_option maxHeartbeats 800000 in
theorem find_out (g o c M at_ : Nat) (l : List Int) (w : World) (hl : l.length ≤ 60000) (hat : at_ < l.length) (hsh : l.length < at_ + 4) :
    Calls Tryz.prog 104 #[fv g o l.length c M, .int .i64 at_] w fun e w' => e = .returned (.tuple #[.int .i64 0, .int .i64 0]) ∧ Below w.heap.size w w' := by
  unfold fv
  obtain ⟨s, hs⟩ : ∃ s : Nat, l.length = at_ + s := ⟨l.length - at_, by omega⟩
  have m2 : (l.length : Int) - (at_ : Int) = (s : Int) := by omega
  have m3 : (s : Int) ≤ 67 := by omega
  have m4 : (s : Int) < 4 := by omega
  clear hs
  go_enter Tryz.func104, Tryz.ntmps104
  go_wp2
  all_goals
    go_ret2
    exact ⟨rfl, (Below.refl _ _).alloc (Nat.le_refl _) _⟩
theorem find_any (g o c M at_ : Nat) (l : List Int) (w : World) (hl : l.length ≤ 60000) (hc : l.length ≤ c) (hg : g < w.heap.size) (hat : at_ < l.length)
    (ha : ∀ i, i < l.length → w.cell? ⟨g, o + i, none⟩ = some (.int .u8 (l.getD i 0))) (hG : Grp w M l (min at_ (l.length - 3))) :
    Calls Tryz.prog 104 #[fv g o l.length c M, .int .i64 at_] w fun e w' => e = .returned (.tuple #[.int .i64 (cp l at_).1, .int .i64 (cp l at_).2]) ∧ Below w.heap.size w w' := by
  by_cases h : at_ + 4 ≤ l.length
  · rw [show min at_ (l.length - 3) = at_ by omega] at hG
    exact find_in g o c M at_ l w hl hc hg h ha hG
  · rw [cp_short (by omega)]
    exact find_out g o c M at_ l w hl hat (by omega)
end Go.Proofs.YtoplbemolnpngaaGreat.SqW
namespace Go.Proofs.YtoplbemolnpngaaGreat.SqI
set_option maxRecDepth 8000
open Go.RowKit
open SqP (Out plain app put_any)
open SqM (cp)
open SqF (Sq sq mark3)
open SqG (Grp Kept NoRow)
open SqN (Par)
open SqS (plain_len marks marks_eq marks_new none_new)
set_option linter.unusedVariables false
theorem out_no {w : World} {base g cap : Nat} {l : List Int} (h : Out w base g cap l) : NoRow w g := fun cur fr e => by
  rcases h.2 with ⟨h1, _⟩ | ⟨g', cap', cur', h1, _, h3, _⟩
  · simp at h1
  · simp only [Value.slice.injEq, Option.some.injEq, Addr.mk.injEq, and_true, true_and] at h1
    obtain ⟨rfl, rfl⟩ := h1
    rw [h3] at e
    simp at e
theorem out_cells {w : World} {base g cap : Nat} {l : List Int} (h : Out w base g cap l) : ∃ cur, w.heap[g]? = some (.cells cur 5 (0, 0)) := by
  rcases h.2 with ⟨h1, _⟩ | ⟨g', cap', cur', h1, _, h3, _⟩
  · simp at h1
  · simp only [Value.slice.injEq, Option.some.injEq, Addr.mk.injEq, and_true, true_and] at h1
    obtain ⟨rfl, rfl⟩ := h1
    exact ⟨_, h3⟩
/-- All but what is out. -/
structure Rest (w wr : World) (g o c : Nat) (l : List Int) (m : Nat) : Prop where
  grp : Grp wr (w.heap.size + 1) l m
  par : Par wr (w.heap.size + 1 + 1) g o l.length c (w.heap.size + 1)
  bel : Below w.heap.size w wr
section
variable {w wr w' : World} {g o c m m' : Nat} {l out : List Int}
theorem Rest.below (h : Rest w wr g o c l m) (hb : Below wr.heap.size wr w') : Rest w w' g o c l m := ⟨h.grp.below hb, (hb.block _ h.par.lt).trans h.par, h.bel.trans (hb.mono h.bel.size)⟩
theorem Rest.ne_out {g1 cap1 : Nat} (h : Rest w wr g o c l m) (ho : Out wr w.heap.size g1 cap1 out) : g1 ≠ w.heap.size + 1 ∧ g1 ≠ w.heap.size + 1 + 1 := by
  obtain ⟨cur, hc⟩ := out_cells ho
  constructor
  · rintro rfl
    obtain ⟨D, ⟨es, clock, hb, _⟩, _⟩ := h.grp.own
    rw [hc] at hb
    simp at hb
  · rintro rfl
    have := h.par
    unfold Par at this
    rw [hc] at this
    simp at this
theorem Rest.grown {g1 cap1 : Nat} (h : Rest w wr g o c l m) (ho : Out wr w.heap.size g1 cap1 out) (hg : wr.grownBy w' (some g1)) : Rest w w' g o c l m := by
  have hne := h.ne_out ho
  refine ⟨h.grp.kept hg (fun j hj => by cases hj; exact out_no ho) (by simpa using hne.1.symm), ?_, h.bel.grown hg h.bel.size (fun k hk => by have := (SqS.Out.lt ho).1; simp at hk; omega)⟩
  exact (hg.block _ h.par.lt (by simpa using hne.2.symm)).trans h.par
theorem Rest.noted (h : Rest w wr g o c l m) (hk : Kept wr w' (w.heap.size + 1)) (hG : Grp w' (w.heap.size + 1) l m') : Rest w w' g o c l m' :=
  ⟨hG, h.par.kept hk (by omega), ⟨hk.os.trans h.bel.os, hk.tape.trans h.bel.tape, hk.output.trans h.bel.output, Nat.le_trans h.bel.size hk.size, fun k hkk => (hk.block k (Nat.lt_of_lt_of_le hkk h.bel.size) (by omega) (.inl (by omega))).trans (h.bel.block k hkk)⟩⟩
theorem out_of_block {base g1 cap1 : Nat} (ho : Out wr base g1 cap1 out) (he : w'.heap[g1]? = wr.heap[g1]?) : Out w' base g1 cap1 out := by
  refine ⟨ho.1, ?_⟩
  rcases ho.2 with hn | ⟨g', cap, cur, h1, hbs, hgg, rest⟩
  · exact .inl hn
  · refine .inr ⟨g', cap, cur, h1, hbs, ?_, rest⟩
    simp only [Value.slice.injEq, Option.some.injEq, Addr.mk.injEq, and_true, true_and] at h1
    obtain ⟨rfl, rfl⟩ := h1
    rw [he]; exact hgg
theorem out_kept {g1 cap1 : Nat} (h : Rest w wr g o c l m) (ho : Out wr w.heap.size g1 cap1 out) (hk : Kept wr w' (w.heap.size + 1)) : Out w' w.heap.size g1 cap1 out :=
  out_of_block ho (hk.block g1 (SqS.Out.lt ho).2 (h.ne_out ho).1 (.inr (out_no ho)))
theorem out_below {base g1 cap1 : Nat} (ho : Out wr base g1 cap1 out) (hb : Below wr.heap.size wr w') : Out w' base g1 cap1 out := out_of_block ho (hb.block g1 (SqS.Out.lt ho).2)
theorem Rest.cells (h : Rest w wr g o c l m) (hg : g < w.heap.size) (ha : ∀ i, i < l.length → w.cell? ⟨g, o + i, none⟩ = some (.int .u8 (l.getD i 0))) : ∀ i, i < l.length → wr.cell? ⟨g, o + i, none⟩ = some (.int .u8 (l.getD i 0)) := fun i hi => by rw [h.bel.cell (p := ⟨g, o + i, none⟩) hg]; exact ha i hi
end
theorem byt_wf {l : List Int} (h : Seg.Byt l) : ∀ i, (Lit.int .u8 (l.getD i 0)).wf = true := fun i => WalkArith.wf_u8 (by have := h i; omega)
theorem pl_cells {w1 : World} {g o p at_ : Nat} {l out : List Int} (hf : Sq l at_ p out) (ha : ∀ i, i < l.length → w1.cell? ⟨g, o + i, none⟩ = some (.int .u8 (l.getD i 0))) : ∀ j, j < at_ - p → w1.cell? ⟨g, o + p + j, none⟩ = some (.int .u8 (((l.drop p).take (at_ - p)).getD j 0)) := fun j hj => by
  have h1 := hf.pa; have h2 := hf.al
  have := ha (p + j) (by omega)
  rw [show o + p + j = o + (p + j) by omega, this]
  have h3 : p + j < l.length := by omega
  simp [hj]

set_option maxRecDepth 4000 in
set_option maxHeartbeats 1600000 in
theorem impl_in (g o c : Nat) (l : List Int) (w : World) (hl : l.length ≤ 60000) (hc : l.length ≤ c) (hg : g < w.heap.size) (hby : ∀ i, (Lit.int .u8 (l.getD i 0)).wf = true)
    (ha : ∀ i, i < l.length → w.cell? ⟨g, o + i, none⟩ = some (.int .u8 (l.getD i 0))) :
    Calls Tryz.prog 99 #[.slice (some ⟨g, o, none⟩) l.length c] w fun e w' => ∃ g' cap', e = .returned (.slice (some ⟨g', 0, none⟩) (sq l 0 0 []).length cap') ∧ Out w' w.heap.size g' cap' (sq l 0 0 []) ∧ Below w.heap.size w w' := by
  have HA := Seg.hid ha
  have HK := Seg.hid (SqG.keys_ok hby)
  clear ha hby
  have hmm := @run_makeMap Tryz.prog
  go_enter Tryz.func99, Tryz.ntmps99
  go_wp2_with fail
  go_loopw [3, 5, 6, 7, 8] (fun vo vp va _ _ wr => ∃ (at_ p g1 cap1 : Nat) (out : List Int), vo = .slice (some ⟨g1, 0, none⟩) out.length cap1 ∧ vp = .int .i64 p ∧ va = .int .i64 at_ ∧ Hid (Sq l at_ p out ∧ Out wr w.heap.size g1 cap1 out ∧ Rest w wr g o c l (min at_ (l.length - 3)))) (fun _ _ va _ _ _ => l.length - (intOf va).toNat)
  case atStart =>
    refine ⟨0, 0, w.heap.size, 0, [], rfl, rfl, rfl, Sq.start l, ?_, ?_⟩
    · exact World.ownsRow.alloc (World.ownsRow.alloc (none_new w _ (Nat.le_refl _)) _) _
    · refine ⟨?_, ?_, (((Below.refl _ _).alloc (Nat.le_refl _) _).alloc (by simp) _).alloc (by simp; omega) _⟩
      · have h := Grp.made (w.alloc (.cells #[] 5)) l HK.out
        rw [Nat.zero_min]
        rw [show (w.alloc (.cells #[] 5)).heap.size = w.heap.size + 1 by simp] at h
        exact h.below ((Below.refl _ _).alloc (Nat.le_refl _) _)
      · have h := heap_alloc_new ((w.alloc (.cells #[] 5)).alloc (.map #[] 0)) (.cells #[.slice (some ⟨g, o, none⟩) l.length c, .map (some (w.heap.size + 1))] 130)
        rw [show ((w.alloc (.cells #[] 5)).alloc (.map #[] 0)).heap.size = w.heap.size + 1 + 1 by simp] at h
        exact h
  case round =>
    obtain ⟨at_, p, g1, cap1, out, rfl, rfl, rfl, HR⟩ := hrel
    have PC := HR.out.2.2.par.cells
    obtain ⟨p0, p1⟩ := PC
    have hgw : g < wr.heap.size := Nat.lt_of_lt_of_le hg HR.out.2.2.bel.size
    have hgg1 : g ≠ g1 := by have := (SqS.Out.lt HR.out.2.1).1; omega
    have hpa := HR.out.1.pa
    have hal := HR.out.1.al
    have hol := HR.out.1.ol
    by_cases hlt : at_ < l.length
    · have i0 : (at_ : Int) < (l.length : Int) := by omega
      go_wp2_with fail
      refine (SqW.find_any g o c (w.heap.size + 1) at_ l wr hl hc hgw hlt (HR.out.2.2.cells hg HA.out) HR.out.2.2.grp).mono ?_
      rintro e w1 ⟨rfl, b1⟩
      have O1 := Seg.hid (out_below HR.out.2.1 b1)
      have R1 := Seg.hid (HR.out.2.2.below b1)
      have hg1w : g < w1.heap.size := Nat.lt_of_lt_of_le hgw b1.size
      clear b1 p0 p1
      obtain ⟨p0, p1⟩ := R1.out.par.cells
      have HCP := Seg.hid (SqM.cp_le l at_)
      by_cases hz : (cp l at_).1 = 0
      · have HZ := Seg.hid hz
        rw [hz]
        go_wp2_with fail
        refine (SqN.note_any g o c (w.heap.size + 1) at_ 1 l w1 hl hc hg1w (by omega) (.inl (by omega)) (by omega) (R1.out.cells hg HA.out) R1.out.grp).mono ?_
        rintro e w2 ⟨rfl, hG2, hK2⟩
        have N2 := Seg.hid (And.intro (HR.out.1.plain hlt HZ.out) (And.intro (out_kept R1.out O1.out hK2) (R1.out.noted hK2 hG2)))
        clear hG2 hK2
        go_wp2
        go_roundw
        case rel => exact ⟨at_ + 1, p, g1, cap1, out, rfl, rfl, by go_num, N2.out⟩
        case measure => simp [intOf]; omega
      · have HZ := Seg.hid hz
        have hzz : (((cp l at_).1 : Int) == 0) = false := by simp; omega
        have j1 : (0 : Int) ≤ (p : Int) := by omega
        have j2 : (p : Int) ≤ (at_ : Int) := by omega
        have j3 : (at_ : Int) ≤ (c : Int) := by omega
        go_wp2_with fail
        have hcl := Seg.hid (pl_cells HR.out.1 (R1.out.cells hg HA.out))
        refine (put_any g1 cap1 w.heap.size g (o + p) (at_ - p) (c - p) ((l.drop p).take (at_ - p)) out w1 (plain_len HR.out.1) (by omega) (by omega) (by omega) O1.out R1.out.bel.size hgg1 hg1w hcl.out).mono ?_
        rintro e w2 ⟨g2, cap2, rfl, o2, a2, gr2⟩
        have O2 := Seg.hid o2
        have R2 := Seg.hid (R1.out.grown O1.out gr2)
        clear o2 a2 gr2 p0 p1 hcl
        have hpn : (plain ((l.drop p).take (at_ - p))).length ≤ 120000 := by have h1 := SqP.plain_len ((l.drop p).take (at_ - p)); rw [plain_len HR.out.1] at h1; omega
        generalize hL : (cp l at_).1 = L at *
        generalize hD : (cp l at_).2 = d at *
        have HL := Seg.hid hL; have HD := Seg.hid hD
        clear hL hD
        obtain ⟨q1, q2, q3⟩ := HCP.out
        have b1 : 4 ≤ L ∧ L ≤ 67 ∧ 1 ≤ d ∧ d ≤ 4096 ∧ at_ + L ≤ l.length := by omega
        obtain ⟨b1, b2, b3, b4, b5⟩ := b1
        clear q1 q2 q3
        have hs2 := R2.out.bel.size
        obtain ⟨p0, p1⟩ := R2.out.par.cells
        have NX : Hid (∀ g3 cap3 w3 ob, Out w3 w.heap.size g3 cap3 (out ++ plain ((l.drop p).take (at_ - p)) ++ marks L d) → (w2.alloc ob).grownBy w3 (some g2) → Sq l (at_ + L) (at_ + L) (out ++ plain ((l.drop p).take (at_ - p)) ++ marks L d) ∧ Rest w w3 g o c l (min at_ (l.length - 3))) := fun g3 cap3 w3 ob h1 h2 => ⟨by rw [marks_eq b3, ← HL.out, ← HD.out]; exact HR.out.1.copy hlt (by rw [HL.out]; exact HZ.out), R2.out.grown O2.out ((World.grownBy_alloc _ ob _).trans h2)⟩
        go_wp2_with (at_builtin; refine app rfl (.tmp 40) (.tmp 52) rfl w.heap.size g2 cap2 (out ++ plain ((l.drop p).take (at_ - p))) (marks L d) ?hs ?ho ⟨w2.heap.size, 0, none⟩ 3 ?hx ?hn ?hm ?hb ?hba ?_; (case hs => rw [List.length_append]; rfl); (case ho => exact World.ownsRow.alloc O2.out _); (case hx => rfl); (case hn => exact marks_new w2 w2.heap.size L d _ rfl); (case hm => simp [marks]); (case hb => simp [marks]; omega); (case hba => simp; omega); intro g3 cap3 w3 o3 gr3 at3; have O3 := Seg.hid o3; have N3 := Seg.hid (NX.out g3 cap3 w3 _ o3 gr3); obtain ⟨r0, r1⟩ := N3.out.2.par.cells; have hs3 := N3.out.2.bel.size; clear o3 gr3 at3 p0 p1)
        have hg3w : g < w3.heap.size := by omega
        refine (SqN.note_any g o c (w.heap.size + 1) at_ L l w3 hl hc hg3w (by omega) (.inl (by omega)) b5 (N3.out.2.cells hg HA.out) N3.out.2.grp).mono ?_
        rintro e w4 ⟨rfl, hG4, hK4⟩
        have N4 := Seg.hid (And.intro N3.out.1 (And.intro (out_kept N3.out.2 O3.out hK4) (N3.out.2.noted hK4 hG4)))
        clear hG4 hK4
        go_wp2
        go_roundw
        case rel =>
          refine ⟨at_ + L, at_ + L, g3, cap3, out ++ plain ((l.drop p).take (at_ - p)) ++ marks L d, by simp only [List.length_append], by go_num, by go_num, N4.out⟩
        case measure => simp [intOf]; omega
    · obtain rfl : at_ = l.length := by omega
      have HE := Seg.hid (HR.out.1.ends hlt)
      have hdr : (l.drop p).take (l.length - p) = l.drop p := List.take_of_length_le (by simp)
      have HDR := Seg.hid hdr
      have hcl := Seg.hid (pl_cells HR.out.1 (HR.out.2.2.cells hg HA.out))
      have j1 : (0 : Int) ≤ (p : Int) := by omega
      have j2 : (p : Int) ≤ (l.length : Int) := by omega
      have j3 : (p : Int) ≤ (c : Int) := by omega
      have j4 : (l.length : Int) ≤ (c : Int) := by omega
      clear hdr p0 p1
      go_wp2_with fail
      · have hz0 : l.length - p = 0 := by omega
        refine (put_any g1 cap1 w.heap.size g o (l.length - p) 0 ((l.drop p).take (l.length - p)) out wr (plain_len HR.out.1) (by omega) (by omega) (by omega) HR.out.2.1 HR.out.2.2.bel.size hgg1 hgw (fun j hj => absurd hj (by omega))).mono ?_
        rintro e w2 ⟨g2, cap2, rfl, o2, a2, gr2⟩
        rw [HDR.out, ← HE.out] at o2
        rw [HDR.out, ← HE.out]
        have O2 := Seg.hid o2
        have B2 := Seg.hid (HR.out.2.2.grown HR.out.2.1 gr2).bel
        clear o2 a2 gr2
        go_wp2
        go_ret
        exact ⟨g2, cap2, rfl, O2.out, B2.out⟩
      · refine (put_any g1 cap1 w.heap.size g (o + p) (l.length - p) (c - p) ((l.drop p).take (l.length - p)) out wr (plain_len HR.out.1) (by omega) (by omega) (by omega) HR.out.2.1 HR.out.2.2.bel.size hgg1 hgw hcl.out).mono ?_
        rintro e w2 ⟨g2, cap2, rfl, o2, a2, gr2⟩
        rw [HDR.out, ← HE.out] at o2
        rw [HDR.out, ← HE.out]
        have O2 := Seg.hid o2
        have B2 := Seg.hid (HR.out.2.2.grown HR.out.2.1 gr2).bel
        clear o2 a2 gr2
        go_wp2
        go_ret
        exact ⟨g2, cap2, rfl, O2.out, B2.out⟩

set_option maxHeartbeats 400000 in
theorem impl_out (A : Option Addr) (n c : Nat) (w : World) (hn : 60000 < n) :
    Calls Tryz.prog 99 #[.slice A n c] w fun e w' => ∃ g' cap', e = .returned (.slice (some ⟨g', 0, none⟩) 0 cap') ∧ Out w' w.heap.size g' cap' [] ∧ Below w.heap.size w w' := by
  go_enter Tryz.func99, Tryz.ntmps99
  go_wp2
  go_ret
  exact ⟨w.heap.size, 0, rfl, none_new w _ (Nat.le_refl _), (Below.refl _ _).alloc (Nat.le_refl _) _⟩
end Go.Proofs.YtoplbemolnpngaaGreat.SqI
namespace Go.Proofs.YtoplbemolnpngaaGreat.WrI
set_option maxRecDepth 8000
open Go.RowKit
open Seg (B)
open SqP (Out app grow)
open PuI (Ext below_grown out_below out_lt out_cell)
open PuT (ints_new kept one_in two_in)
open WrP
open Recs
set_option linter.unusedVariables false

theorem out_mono {w : World} {b b' g cap : Nat} {l : List Int} (h : Out w b g cap l) (hb : b' ≤ b) : Out w b' g cap l := by
  refine ⟨h.1, h.2.imp id ?_⟩
  rintro ⟨g0, cap0, cur, h1, h2, h3⟩
  exact ⟨g0, cap0, cur, h1, Nat.le_trans hb h2, h3⟩
theorem out_kept {w w' : World} {b g g' cap : Nat} {l : List Int} (h : Out w b g cap l) (gr : w.grownBy w' (some g')) (hne : g ≠ g') : Out w' b g cap l := World.ownsRow.kept h gr (.inr (by simpa [Value.ownBlock] using hne))

/-- Where the writing stands: the batch's own block, the body's row, what is out. -/
structure Sta (w0 w : World) (gB capB : Nat) (X : Obj) (bd cur : List Int) (g cap : Nat) : Prop where
  var : w.heap[w0.heap.size]? = some X
  bod : Out w (w0.heap.size + 1) gB capB bd
  out : Out w (w0.heap.size + 1) g cap cur
  ne : gB ≠ g
  bl : Below w0.heap.size w0 w
theorem Sta.step {w0 w w' : World} {gB capB g cap : Nat} {X : Obj} {bd cur l : List Int} {e : Ending} (h : Sta w0 w gB capB X bd cur g cap) (E : Ext w w' (w0.heap.size + 1) g l e) :
    ∃ g3 cap3, e = .returned (.slice (some ⟨g3, 0, none⟩) l.length cap3) ∧ Sta w0 w' gB capB X bd l g3 cap3 := by
  obtain ⟨⟨g3, cap3, rfl, o3, h3⟩, gr3⟩ := E
  have a := out_lt h.out; have b := out_lt h.bod; have n := h.ne; have s := h.bl.size
  exact ⟨g3, cap3, rfl, kept h.var gr3 (by omega), out_kept h.bod gr3 n, o3, by omega, h.bl.grown gr3 s (fun k hk => by cases hk; omega)⟩
theorem Sta.ext {w0 w w' : World} {gB capB g cap g3 cap3 n : Nat} {X : Obj} {bd cur l : List Int} (h : Sta w0 w gB capB X bd cur g cap) (o3 : Out w' (w0.heap.size + 1) g3 cap3 l) (gr : w.grownBy w' (some g)) (h3 : g3 = g ∨ g3 = w.heap.size) : Sta w0 w' gB capB X bd l g3 cap3 := by
  obtain ⟨g4, cap4, e4, S4⟩ := h.step (e := .returned (.slice (some ⟨g3, 0, none⟩) l.length cap3)) ⟨⟨g3, cap3, rfl, o3, by omega⟩, gr⟩
  simp only [Ending.returned.injEq, Value.slice.injEq, Option.some.injEq, Addr.mk.injEq, and_true, true_and] at e4
  obtain ⟨rfl, rfl⟩ := e4
  exact S4
theorem Sta.lt {w0 w : World} {gB capB g cap : Nat} {X : Obj} {bd cur : List Int} (h : Sta w0 w gB capB X bd cur g cap) : w0.heap.size + 1 ≤ w.heap.size := by
  have := (Array.getElem?_eq_some_iff.1 h.var).1
  omega
theorem sq_posF (l : List Int) (h0 : 0 < l.length) : ∀ (n at_ p : Nat) (out : List Int), l.length - at_ ≤ n → SqF.Sq l at_ p out → (0 < p → 0 < out.length) → 0 < (SqF.sq l 0 0 []).length
  | n, at_, p, out, hn, h, ho => by
    by_cases hlt : at_ < l.length
    · match n with
      | 0 => omega
      | n + 1 =>
        by_cases hz : (SqM.cp l at_).1 = 0
        · exact sq_posF l h0 n (at_ + 1) p out (by omega) (h.plain hlt hz) ho
        · exact sq_posF l h0 n (at_ + (SqM.cp l at_).1) _ _ (by omega) (h.copy hlt hz) (fun _ => by simp [SqF.mark3]; omega)
    · rw [h.ends hlt, List.length_append]
      rcases Nat.eq_zero_or_pos p with hp | hp
      · subst hp
        rw [List.drop_zero, SqP.plain_cons _ rfl (by omega)]
        simp
        omega
      · have := ho hp
        omega
theorem sq_pos {l : List Int} (h : 0 < l.length) : 0 < (SqF.sq l 0 0 []).length := sq_posF l h _ 0 0 [] (Nat.le_refl _) (SqF.Sq.start l) (fun h => absurd h (by omega))
theorem body_pos (ver : Int) (rs : List Rec) : 0 < (body ver rs).length := by
  have := Nums.put_pos (rs.length : Int)
  rw [body, List.length_append]
  omega
theorem sq_le (l : List Int) : ∀ (n at_ p : Nat) (out : List Int), l.length - at_ ≤ n → SqF.Sq l at_ p out → (SqF.sq l 0 0 []).length ≤ 2 * l.length
  | n, at_, p, out, hn, h => by
    by_cases hlt : at_ < l.length
    · match n with
      | 0 => omega
      | n + 1 =>
        by_cases hz : (SqM.cp l at_).1 = 0
        · exact sq_le l n (at_ + 1) p out (by omega) (h.plain hlt hz)
        · exact sq_le l n (at_ + (SqM.cp l at_).1) _ _ (by omega) (h.copy hlt hz)
    · rw [h.ends hlt]
      have h1 := h.ol; have h2 := h.pa; have h3 := h.al
      have h4 := SqP.plain_len (l.drop p)
      rw [List.length_drop] at h4
      rw [List.length_append]; omega
theorem squeezed_le (l : List Int) : (SqF.sq l 0 0 []).length ≤ 2 * l.length := sq_le l _ 0 0 [] (Nat.le_refl _) (SqF.Sq.start l)
theorem ok_parts {t : Bat} (h : BOk.batOk t = true) : (0 ≤ t.base ∧ t.base ≤ 1000000000) ∧ (0 ≤ t.epoch ∧ t.epoch ≤ 1000000) ∧ (-1 ≤ t.producer ∧ t.producer ≤ 1000000000) ∧ (0 ≤ t.turn ∧ t.turn ≤ 1000) ∧ (0 ≤ t.seq ∧ t.seq ≤ 1000000000) ∧ (0 ≤ t.flags ∧ t.flags ≤ 7) ∧ t.recs.length ≤ 40 ∧ t.recs.all ROk.okR = true := by
  simp only [BOk.batOk, BOk.okB1, BOk.okB3, BOk.inR, Bool.and_eq_true, decide_eq_true_eq] at h
  obtain ⟨⟨⟨⟨h1, _⟩, h3⟩, h4⟩, _⟩ := h
  exact ⟨by omega, by omega, by omega, by omega, by omega, by omega, by omega, h4⟩
def odd (fl : Int) : Bool := bits BinOp.and IntKind.i64 fl 1 != 0
theorem odd_eq {fl : Int} (h : 0 ≤ fl ∧ fl ≤ 7) : odd fl = decide (fl % 2 = 1) := by
  have : fl = 0 ∨ fl = 1 ∨ fl = 2 ∨ fl = 3 ∨ fl = 4 ∨ fl = 5 ∨ fl = 6 ∨ fl = 7 := by omega
  rcases this with rfl | rfl | rfl | rfl | rfl | rfl | rfl | rfl <;> decide +kernel
theorem bodyS_facts (t : Bat) (ver : Int) (ha : t.recs.all ROk.okR = true) (hl : t.recs.length ≤ 40) : 0 < (bodyS t ver).length ∧ (bodyS t ver).length ≤ 80000 ∧ (body ver t.recs).length ≤ 60000 := by
  have h1 := body_le ver t.recs ha hl
  have h2 := body_pos ver t.recs
  unfold bodyS
  split
  · exact ⟨sq_pos h2, by have := squeezed_le (body ver t.recs); omega, by omega⟩
  · exact ⟨h2, by omega, by omega⟩

/-- What WriteBatch answers. -/
def Wrote (w w' : World) (t : Bat) (ver : Int) (e : Ending) : Prop := ∃ g cap, e = .returned (.slice (some ⟨g, 0, none⟩) (wr t ver).length cap) ∧ Out w' w.heap.size g cap (wr t ver) ∧ Below w.heap.size w w'
theorem wrote_none {w w' : World} {t : Bat} {ver : Int} (h : (BOk.batOk t && holds t ver) = false) (hb : Below w.heap.size w w') (x : TypeId) (hx : x = 5) : Wrote w (w'.alloc (.cells #[] x)) t ver (.returned (.slice (some ⟨w'.heap.size, 0, none⟩) 0 0)) := by
  subst hx
  have e : wr t ver = [] := by rw [wr, if_neg (by rw [h]; simp)]
  unfold Wrote
  rw [e]
  exact ⟨w'.heap.size, 0, rfl, World.ownsRow_lit w' #[] 0 hb.size (Nat.zero_le _) rfl, hb.alloc hb.size _⟩
theorem wr_yes {t : Bat} {ver : Int} (h1 : BOk.batOk t = true) (h2 : holds t ver = true) : wr t ver = pre t ver ++ four (Crc.check (pre t ver)) := by rw [wr, if_pos (by rw [h1, h2]; rfl)]
theorem by_cons {x : Int} {l : List Int} (hx : 0 ≤ x ∧ x < 256) (h : By l) : By (x :: l) := fun y hy => by
  rcases List.mem_cons.1 hy with rfl | hy
  · exact hx
  · exact h y hy
theorem by_plainF : ∀ (f : Nat) (l : List Int), By l → By (SqP.plainF f l)
  | 0, _, _ => by_nil
  | f + 1, l, h => by
    rw [SqP.plainF]
    split
    · exact by_nil
    · exact by_cons (by omega) (By.app (fun y hy => h y (List.mem_of_mem_take hy)) (by_plainF f _ fun y hy => h y (List.mem_of_mem_drop hy)))
theorem by_sqF (l : List Int) (h : By l) : ∀ (n at_ p : Nat) (out : List Int), l.length - at_ ≤ n → SqF.Sq l at_ p out → By out → By (SqF.sq l 0 0 [])
  | n, at_, p, out, hn, hS, ho => by
    by_cases hlt : at_ < l.length
    · match n with
      | 0 => omega
      | n + 1 =>
        by_cases hz : (SqM.cp l at_).1 = 0
        · exact by_sqF l h n (at_ + 1) p out (by omega) (hS.plain hlt hz) ho
        · have hc := SqM.cp_le l at_
          refine by_sqF l h n (at_ + (SqM.cp l at_).1) _ _ (by omega) (hS.copy hlt hz) ((ho.app (by_plainF _ _ fun y hy => h y (List.mem_of_mem_drop (List.mem_of_mem_take hy)))).app ?_)
          intro y hy
          simp only [SqF.mark3, List.mem_cons, List.not_mem_nil, or_false] at hy
          omega
    · rw [hS.ends hlt]
      exact ho.app (by_plainF _ _ fun y hy => h y (List.mem_of_mem_drop hy))
theorem by_bodyS (t : Bat) (ver : Int) : By (bodyS t ver) := by
  unfold bodyS
  split
  · exact by_sqF _ (by_body _ _) _ 0 0 [] (Nat.le_refl _) (SqF.Sq.start _) by_nil
  · exact by_body _ _

set_option maxHeartbeats 3200000 in
theorem impl_p1 (v : Value) (t : Bat) (w : World) (lo b : Nat) (hv : BatAt w lo b v t) (hb : b ≤ w.heap.size) (hok : BOk.batOk t = true) (hho : holds t 1 = true) (hodd : odd t.flags = false) :
    Calls Tryz.prog 90 #[v, .int .i64 1] w fun e w' => Wrote w w' t 1 e := by
  have HV := Seg.hid hv
  obtain ⟨rv, rfl, hrs⟩ := hv
  have HRS := Seg.hid hrs
  obtain ⟨H, ⟨hn, A, c, rfl, hx1⟩, hx2⟩ := hrs
  obtain ⟨p1, p2, p3, p4, p5, p6, p7, p8⟩ := ok_parts hok
  obtain ⟨s1, s2, s3⟩ := bodyS_facts t 1 p8 p7
  have P8 := Seg.hid p8; have OK := Seg.hid hok; have HO := Seg.hid hho
  have BS : Hid (bodyS t 1 = body 1 t.recs) := by
    have := odd_eq p6
    rw [hodd] at this
    show _ = _
    rw [bodyS, if_neg (by simpa using this.symm)]
  clear hx1 hx2 p8 hok hho
  unfold odd at hodd
  unfold batVal at HV ⊢
  go_enter Tryz.func90, Tryz.ntmps90
  go_wp2_with fail
  refine (BOk.impl_any _ t (w.alloc _) lo b (HV.out.below ((below1 w _).mono hb)) (by rw [hsz]; omega)).mono ?_
  rintro e w1 ⟨rfl, b1⟩
  rw [OK.out]
  have B1 := Seg.hid (chain (below1 w _) b1)
  have T1 : Hid (w1.heap[w.heap.size]? = some (.cells (BatW.batArr t (.slice A t.recs.length c)) 38 (0, 0))) := (b1.block w.heap.size (by rw [hsz]; omega)).trans (heap_alloc_new _ _)
  have z1 : w.heap.size < w1.heap.size := (Array.getElem?_eq_some_iff.1 T1.out).1
  clear b1
  obtain ⟨c0, c1, c2, c3, c4, c5, c6⟩ := BOk.seven T1.out
  go_wp2_with fail
  clear c0 c1 c2 c3 c4 c5 c6
  refine (WrC.holds_any 1 _ t w1 lo b (HV.out.below (B1.out.mono hb)) (by omega)).mono ?_
  rintro e w2 ⟨rfl, b2⟩
  rw [HO.out]
  have B2 := Seg.hid (chain B1.out b2)
  have T2 := Seg.hid ((b2.block w.heap.size z1).trans T1.out)
  have z2 : w.heap.size < w2.heap.size := (Array.getElem?_eq_some_iff.1 T2.out).1
  clear b2
  obtain ⟨c0, c1, c2, c3, c4, c5, c6⟩ := BOk.seven T2.out
  go_wp2_with fail
  clear c0 c1 c2 c3 c4 c5 c6
  refine (WrB.writeBody_any _ t.recs 1 w2 lo b (HRS.out.below (B2.out.mono hb)) (by omega) p7 P8.out).mono ?_
  rintro e w3 ⟨g3, cap3, rfl, o3, b3⟩
  obtain ⟨l3, hl3⟩ : ∃ l3, body 1 t.recs = l3 := ⟨_, rfl⟩
  have HL3 := Seg.hid hl3
  rw [hl3] at o3 s3 ⊢
  have O3 := Seg.hid (out_mono o3 z2)
  have B3 := Seg.hid (chain B2.out b3)
  have T3 := Seg.hid ((b3.block w.heap.size z2).trans T2.out)
  have z3 : w.heap.size < w3.heap.size := (Array.getElem?_eq_some_iff.1 T3.out).1
  clear o3 b3 hl3
  obtain ⟨c0, c1, c2, c3, c4, c5, c6⟩ := BOk.seven T3.out
  clear c0 c1 c2 c3 c4 c6
  have L4 : Hid (l3 = bodyS t 1) := by show _ = _; rw [BS.out, HL3.out]
  have L4p : 0 < l3.length ∧ l3.length ≤ 80000 := by rw [L4.out]; exact ⟨s1, s2⟩
  have O4 := O3; have B4 := B3; have T4 := T3; have z4 := z3
  have B4' := B4.out.size
  obtain ⟨c0, c1, c2, c3, c4, c5, c6⟩ := BOk.seven (heap_alloc_old w3 (.cells #[.int .u8 77, .int .u8 1] 5 (0, 0)) z4 |>.trans T4.out)
  go_wp2_with fail
  clear c0 c1 c2 c3 c4 c5 c6
  have S5 : Hid (Sta w (w3.alloc (.cells #[.int .u8 77, .int .u8 1] 5 (0, 0))) g3 cap3 (.cells (BatW.batArr t (.slice A t.recs.length c)) 38 (0, 0)) l3 [77, 1] w3.heap.size 2) :=
    ⟨(heap_alloc_old w3 _ z4).trans T4.out, World.ownsRow.alloc O4.out _, World.ownsRow_lit (e := 5) (size := 1) w3 #[.int .u8 77, .int .u8 1] 2 z4 (by unfold maxLen; omega) rfl, by have := (out_lt O4.out).2; omega, B4.out.alloc B4' _⟩
  refine (ints_new w3.heap.size 2 (w.heap.size + 1) [77, 1] [t.base, t.epoch] (w3.alloc _) 3 _ (hsz w3 _) (by simp) (by simp) (two_in (by omega) (by omega)) S5.out.out (by rw [hsz]; omega)).mono ?_
  rintro e w6 hE
  obtain ⟨l6, hl6⟩ : ∃ l6, [77, 1] ++ numsB [t.base, t.epoch] = l6 := ⟨_, rfl⟩
  have hl6l : l6.length ≤ 22 := by
    rw [← hl6, PuT.nums2]
    have := WrP.put_le t.base (by omega)
    have := WrP.put_le t.epoch (by omega)
    simp only [List.length_append, List.length_cons, List.length_nil]
    omega
  have HL6 := Seg.hid hl6
  rw [hl6] at hE
  obtain ⟨g6, cap6, rfl, st6⟩ := S5.out.step hE
  have S6 := Seg.hid st6
  have z6 := st6.lt
  clear st6 hE hl6
  obtain ⟨c0, c1, c2, c3, c4, c5, c6⟩ := BOk.seven S6.out.var
  have S7 := S6; have z7 := z6
  have hl7l : l6.length ≤ 60 := by omega
  clear c0 c1 c2 c3 c4 c5 c6
  obtain ⟨c0, c1, c2, c3, c4, c5, c6⟩ := BOk.seven S7.out.var
  go_wp2_with fail
  clear c0 c1 c2 c3 c4 c5 c6
  refine (ints_new g6 cap6 (w.heap.size + 1) l6 [t.flags, (l3.length : Int)] w6 3 _ rfl (by simp) (by omega) (two_in (by omega) (by omega)) S7.out.out (by omega)).mono ?_
  rintro e w8 hE
  obtain ⟨l8, hl8⟩ : ∃ l8, l6 ++ numsB [t.flags, (l3.length : Int)] = l8 := ⟨_, rfl⟩
  have hl8l : l8.length ≤ 200 := by
    rw [← hl8, PuT.nums2]
    have := WrP.put_le t.flags (by omega)
    have := WrP.put_le (l3.length : Int) (by omega)
    simp only [List.length_append]
    omega
  have HL8 := Seg.hid hl8
  rw [hl8] at hE
  obtain ⟨g8, cap8, rfl, st8⟩ := S7.out.step hE
  have S8 := Seg.hid st8
  have z8 := st8.lt
  clear st8 hE hl8
  go_wp2_with (at_builtin; refine app rfl (.tmp 55) (.tmp 56) rfl (w.heap.size + 1) g8 cap8 l8 l3 ?hs ?ho ⟨g3, 0, none⟩ cap3 ?hx ?hn ?hm ?hb ?hba ?_; (case hs => rfl); (case ho => exact S8.out.out); (case hx => rfl); (case hn => exact fun j hj => out_cell S8.out.bod j hj); (case hm => omega); (case hb => omega); (case hba => omega); intro g9 cap9 w9 o9 gr9 at9; have S9 := Seg.hid (Sta.ext (n := 0) S8.out o9 gr9 at9); have z9 := S9.out.lt; clear o9 gr9 at9)
  have HP : Hid (l8 ++ l3 = pre t 1) := by
    show _ = _
    rw [pre, ← L4.out, ← HL8.out, ← HL6.out, headN, if_neg (by decide)]
    simp only [numsB, List.append_assoc, List.append_nil, List.cons_append, List.nil_append]
  obtain ⟨l9, hl9⟩ : ∃ l9, l8 ++ l3 = l9 := ⟨_, rfl⟩
  have h9l : l8.length + l3.length = l9.length := by rw [← hl9, List.length_append]
  have hl9l : l9.length ≤ 80200 := by omega
  rw [hl9] at S9 HP
  rw [h9l]
  clear hl9 h9l
  have BY9 : Hid (Seg.Byt l9) := (by rw [HP.out]; exact (((show By [77, (1 : Int)] from fun x hx => by simp at hx; omega).app (by_nums _)).app (by_bodyS _ _)).byt : Seg.Byt l9)
  refine (WrC.checkBytes_any g9 0 l9.length cap9 l9 w9 (by omega) (Seg.owns_cap S9.out.out).1 rfl (.inr (out_lt S9.out.out).2) (fun i hi => by rw [Nat.zero_add]; exact Seg.owns_cell S9.out.out i hi) BY9.out).mono ?_
  rintro e w10 ⟨g10, rfl, o10, b10⟩
  have O10 := Seg.hid o10
  have N10 := Seg.hid (out_below S9.out.out b10)
  have B10 := Seg.hid (chain S9.out.bl b10)
  have z10 := b10.size
  clear o10 b10
  go_wp2_with (at_builtin; refine app rfl (.tmp 58) (.tmp 60) rfl (w.heap.size + 1) g9 cap9 l9 (four (Crc.check l9)) ?hs ?ho ⟨g10, 0, none⟩ 4 ?hx ?hn ?hm ?hb ?hba ?_; (case hs => rfl); (case ho => exact N10.out); (case hx => rfl); (case hn => exact fun j hj => out_cell O10.out j hj); (case hm => simp [four]); (case hb => simp [four]; omega); (case hba => omega); intro g11 cap11 w11 o11 gr11 at11; have O11 := Seg.hid o11; have B11 : Hid (Below w.heap.size w w11) := B10.out.grown gr11 (by omega) (fun k hk => by cases hk; have := (out_lt S9.out.out).1; omega); clear o11 gr11 at11)
  go_ret
  refine ⟨g11, cap11, ?_, ?_, B11.out⟩
  · rw [wr_yes OK.out HO.out, ← HP.out, List.length_append]
    rfl
  · rw [wr_yes OK.out HO.out, ← HP.out]
    exact out_mono O11.out (by omega)

set_option maxHeartbeats 3200000 in
theorem impl_p2 (v : Value) (t : Bat) (w : World) (lo b : Nat) (hv : BatAt w lo b v t) (hb : b ≤ w.heap.size) (hok : BOk.batOk t = true) (hho : holds t 2 = true) (hodd : odd t.flags = false) :
    Calls Tryz.prog 90 #[v, .int .i64 2] w fun e w' => Wrote w w' t 2 e := by
  have HV := Seg.hid hv
  obtain ⟨rv, rfl, hrs⟩ := hv
  have HRS := Seg.hid hrs
  obtain ⟨H, ⟨hn, A, c, rfl, hx1⟩, hx2⟩ := hrs
  obtain ⟨p1, p2, p3, p4, p5, p6, p7, p8⟩ := ok_parts hok
  obtain ⟨s1, s2, s3⟩ := bodyS_facts t 2 p8 p7
  have P8 := Seg.hid p8; have OK := Seg.hid hok; have HO := Seg.hid hho
  have BS : Hid (bodyS t 2 = body 2 t.recs) := by
    have := odd_eq p6
    rw [hodd] at this
    show _ = _
    rw [bodyS, if_neg (by simpa using this.symm)]
  clear hx1 hx2 p8 hok hho
  unfold odd at hodd
  unfold batVal at HV ⊢
  go_enter Tryz.func90, Tryz.ntmps90
  go_wp2_with fail
  refine (BOk.impl_any _ t (w.alloc _) lo b (HV.out.below ((below1 w _).mono hb)) (by rw [hsz]; omega)).mono ?_
  rintro e w1 ⟨rfl, b1⟩
  rw [OK.out]
  have B1 := Seg.hid (chain (below1 w _) b1)
  have T1 : Hid (w1.heap[w.heap.size]? = some (.cells (BatW.batArr t (.slice A t.recs.length c)) 38 (0, 0))) := (b1.block w.heap.size (by rw [hsz]; omega)).trans (heap_alloc_new _ _)
  have z1 : w.heap.size < w1.heap.size := (Array.getElem?_eq_some_iff.1 T1.out).1
  clear b1
  obtain ⟨c0, c1, c2, c3, c4, c5, c6⟩ := BOk.seven T1.out
  go_wp2_with fail
  clear c0 c1 c2 c3 c4 c5 c6
  refine (WrC.holds_any 2 _ t w1 lo b (HV.out.below (B1.out.mono hb)) (by omega)).mono ?_
  rintro e w2 ⟨rfl, b2⟩
  rw [HO.out]
  have B2 := Seg.hid (chain B1.out b2)
  have T2 := Seg.hid ((b2.block w.heap.size z1).trans T1.out)
  have z2 : w.heap.size < w2.heap.size := (Array.getElem?_eq_some_iff.1 T2.out).1
  clear b2
  obtain ⟨c0, c1, c2, c3, c4, c5, c6⟩ := BOk.seven T2.out
  go_wp2_with fail
  clear c0 c1 c2 c3 c4 c5 c6
  refine (WrB.writeBody_any _ t.recs 2 w2 lo b (HRS.out.below (B2.out.mono hb)) (by omega) p7 P8.out).mono ?_
  rintro e w3 ⟨g3, cap3, rfl, o3, b3⟩
  obtain ⟨l3, hl3⟩ : ∃ l3, body 2 t.recs = l3 := ⟨_, rfl⟩
  have HL3 := Seg.hid hl3
  rw [hl3] at o3 s3 ⊢
  have O3 := Seg.hid (out_mono o3 z2)
  have B3 := Seg.hid (chain B2.out b3)
  have T3 := Seg.hid ((b3.block w.heap.size z2).trans T2.out)
  have z3 : w.heap.size < w3.heap.size := (Array.getElem?_eq_some_iff.1 T3.out).1
  clear o3 b3 hl3
  obtain ⟨c0, c1, c2, c3, c4, c5, c6⟩ := BOk.seven T3.out
  clear c0 c1 c2 c3 c4 c6
  have L4 : Hid (l3 = bodyS t 2) := by show _ = _; rw [BS.out, HL3.out]
  have L4p : 0 < l3.length ∧ l3.length ≤ 80000 := by rw [L4.out]; exact ⟨s1, s2⟩
  have O4 := O3; have B4 := B3; have T4 := T3; have z4 := z3
  have B4' := B4.out.size
  obtain ⟨c0, c1, c2, c3, c4, c5, c6⟩ := BOk.seven (heap_alloc_old w3 (.cells #[.int .u8 77, .int .u8 2] 5 (0, 0)) z4 |>.trans T4.out)
  go_wp2_with fail
  clear c0 c1 c2 c3 c4 c5 c6
  have S5 : Hid (Sta w (w3.alloc (.cells #[.int .u8 77, .int .u8 2] 5 (0, 0))) g3 cap3 (.cells (BatW.batArr t (.slice A t.recs.length c)) 38 (0, 0)) l3 [77, 2] w3.heap.size 2) :=
    ⟨(heap_alloc_old w3 _ z4).trans T4.out, World.ownsRow.alloc O4.out _, World.ownsRow_lit (e := 5) (size := 1) w3 #[.int .u8 77, .int .u8 2] 2 z4 (by unfold maxLen; omega) rfl, by have := (out_lt O4.out).2; omega, B4.out.alloc B4' _⟩
  refine (ints_new w3.heap.size 2 (w.heap.size + 1) [77, 2] [t.base, t.epoch] (w3.alloc _) 3 _ (hsz w3 _) (by simp) (by simp) (two_in (by omega) (by omega)) S5.out.out (by rw [hsz]; omega)).mono ?_
  rintro e w6 hE
  obtain ⟨l6, hl6⟩ : ∃ l6, [77, 2] ++ numsB [t.base, t.epoch] = l6 := ⟨_, rfl⟩
  have hl6l : l6.length ≤ 22 := by
    rw [← hl6, PuT.nums2]
    have := WrP.put_le t.base (by omega)
    have := WrP.put_le t.epoch (by omega)
    simp only [List.length_append, List.length_cons, List.length_nil]
    omega
  have HL6 := Seg.hid hl6
  rw [hl6] at hE
  obtain ⟨g6, cap6, rfl, st6⟩ := S5.out.step hE
  have S6 := Seg.hid st6
  have z6 := st6.lt
  clear st6 hE hl6
  obtain ⟨c0, c1, c2, c3, c4, c5, c6⟩ := BOk.seven S6.out.var
  go_wp2_with fail
  clear c0 c1 c2 c3 c4 c5 c6
  refine (ints_new g6 cap6 (w.heap.size + 1) l6 [t.producer, t.turn, t.seq] w6 3 _ rfl (by simp) (by omega) (fun x hx => by simp at hx; omega) S6.out.out (by omega)).mono ?_
  rintro e w7 hE
  obtain ⟨l7, hl7⟩ : ∃ l7, l6 ++ numsB [t.producer, t.turn, t.seq] = l7 := ⟨_, rfl⟩
  have hl7l : l7.length ≤ 60 := by
    rw [← hl7]
    have := WrP.put_le t.producer (by omega)
    have := WrP.put_le t.turn (by omega)
    have := WrP.put_le t.seq (by omega)
    simp only [numsB, List.length_append, List.length_nil]
    omega
  have HL7 := Seg.hid hl7
  rw [hl7] at hE
  obtain ⟨g7, cap7, rfl, st7⟩ := S6.out.step hE
  have S7 := Seg.hid st7
  have z7 := st7.lt
  clear st7 hE hl7
  obtain ⟨c0, c1, c2, c3, c4, c5, c6⟩ := BOk.seven S7.out.var
  go_wp2_with fail
  clear c0 c1 c2 c3 c4 c5 c6
  refine (ints_new g7 cap7 (w.heap.size + 1) l7 [t.flags, (l3.length : Int)] w7 3 _ rfl (by simp) (by omega) (two_in (by omega) (by omega)) S7.out.out (by omega)).mono ?_
  rintro e w8 hE
  obtain ⟨l8, hl8⟩ : ∃ l8, l7 ++ numsB [t.flags, (l3.length : Int)] = l8 := ⟨_, rfl⟩
  have hl8l : l8.length ≤ 200 := by
    rw [← hl8, PuT.nums2]
    have := WrP.put_le t.flags (by omega)
    have := WrP.put_le (l3.length : Int) (by omega)
    simp only [List.length_append]
    omega
  have HL8 := Seg.hid hl8
  rw [hl8] at hE
  obtain ⟨g8, cap8, rfl, st8⟩ := S7.out.step hE
  have S8 := Seg.hid st8
  have z8 := st8.lt
  clear st8 hE hl8
  go_wp2_with (at_builtin; refine app rfl (.tmp 55) (.tmp 56) rfl (w.heap.size + 1) g8 cap8 l8 l3 ?hs ?ho ⟨g3, 0, none⟩ cap3 ?hx ?hn ?hm ?hb ?hba ?_; (case hs => rfl); (case ho => exact S8.out.out); (case hx => rfl); (case hn => exact fun j hj => out_cell S8.out.bod j hj); (case hm => omega); (case hb => omega); (case hba => omega); intro g9 cap9 w9 o9 gr9 at9; have S9 := Seg.hid (Sta.ext (n := 0) S8.out o9 gr9 at9); have z9 := S9.out.lt; clear o9 gr9 at9)
  have HP : Hid (l8 ++ l3 = pre t 2) := by
    show _ = _
    rw [pre, ← L4.out, ← HL8.out, ← HL7.out, ← HL6.out, headN, if_pos (by decide)]
    simp only [numsB, List.append_assoc, List.append_nil, List.cons_append, List.nil_append]
  obtain ⟨l9, hl9⟩ : ∃ l9, l8 ++ l3 = l9 := ⟨_, rfl⟩
  have h9l : l8.length + l3.length = l9.length := by rw [← hl9, List.length_append]
  have hl9l : l9.length ≤ 80200 := by omega
  rw [hl9] at S9 HP
  rw [h9l]
  clear hl9 h9l
  have BY9 : Hid (Seg.Byt l9) := (by rw [HP.out]; exact (((show By [77, (2 : Int)] from fun x hx => by simp at hx; omega).app (by_nums _)).app (by_bodyS _ _)).byt : Seg.Byt l9)
  refine (WrC.checkBytes_any g9 0 l9.length cap9 l9 w9 (by omega) (Seg.owns_cap S9.out.out).1 rfl (.inr (out_lt S9.out.out).2) (fun i hi => by rw [Nat.zero_add]; exact Seg.owns_cell S9.out.out i hi) BY9.out).mono ?_
  rintro e w10 ⟨g10, rfl, o10, b10⟩
  have O10 := Seg.hid o10
  have N10 := Seg.hid (out_below S9.out.out b10)
  have B10 := Seg.hid (chain S9.out.bl b10)
  have z10 := b10.size
  clear o10 b10
  go_wp2_with (at_builtin; refine app rfl (.tmp 58) (.tmp 60) rfl (w.heap.size + 1) g9 cap9 l9 (four (Crc.check l9)) ?hs ?ho ⟨g10, 0, none⟩ 4 ?hx ?hn ?hm ?hb ?hba ?_; (case hs => rfl); (case ho => exact N10.out); (case hx => rfl); (case hn => exact fun j hj => out_cell O10.out j hj); (case hm => simp [four]); (case hb => simp [four]; omega); (case hba => omega); intro g11 cap11 w11 o11 gr11 at11; have O11 := Seg.hid o11; have B11 : Hid (Below w.heap.size w w11) := B10.out.grown gr11 (by omega) (fun k hk => by cases hk; have := (out_lt S9.out.out).1; omega); clear o11 gr11 at11)
  go_ret
  refine ⟨g11, cap11, ?_, ?_, B11.out⟩
  · rw [wr_yes OK.out HO.out, ← HP.out, List.length_append]
    rfl
  · rw [wr_yes OK.out HO.out, ← HP.out]
    exact out_mono O11.out (by omega)

set_option maxHeartbeats 3200000 in
theorem impl_s1 (v : Value) (t : Bat) (w : World) (lo b : Nat) (hv : BatAt w lo b v t) (hb : b ≤ w.heap.size) (hok : BOk.batOk t = true) (hho : holds t 1 = true) (hodd : odd t.flags = true) :
    Calls Tryz.prog 90 #[v, .int .i64 1] w fun e w' => Wrote w w' t 1 e := by
  have HV := Seg.hid hv
  obtain ⟨rv, rfl, hrs⟩ := hv
  have HRS := Seg.hid hrs
  obtain ⟨H, ⟨hn, A, c, rfl, hx1⟩, hx2⟩ := hrs
  obtain ⟨p1, p2, p3, p4, p5, p6, p7, p8⟩ := ok_parts hok
  obtain ⟨s1, s2, s3⟩ := bodyS_facts t 1 p8 p7
  have P8 := Seg.hid p8; have OK := Seg.hid hok; have HO := Seg.hid hho
  have BS : Hid (bodyS t 1 = SqF.sq (body 1 t.recs) 0 0 []) := by
    have := odd_eq p6
    rw [hodd] at this
    show _ = _
    rw [bodyS, if_pos (by simpa using this.symm)]
  clear hx1 hx2 p8 hok hho
  unfold odd at hodd
  unfold batVal at HV ⊢
  go_enter Tryz.func90, Tryz.ntmps90
  go_wp2_with fail
  refine (BOk.impl_any _ t (w.alloc _) lo b (HV.out.below ((below1 w _).mono hb)) (by rw [hsz]; omega)).mono ?_
  rintro e w1 ⟨rfl, b1⟩
  rw [OK.out]
  have B1 := Seg.hid (chain (below1 w _) b1)
  have T1 : Hid (w1.heap[w.heap.size]? = some (.cells (BatW.batArr t (.slice A t.recs.length c)) 38 (0, 0))) := (b1.block w.heap.size (by rw [hsz]; omega)).trans (heap_alloc_new _ _)
  have z1 : w.heap.size < w1.heap.size := (Array.getElem?_eq_some_iff.1 T1.out).1
  clear b1
  obtain ⟨c0, c1, c2, c3, c4, c5, c6⟩ := BOk.seven T1.out
  go_wp2_with fail
  clear c0 c1 c2 c3 c4 c5 c6
  refine (WrC.holds_any 1 _ t w1 lo b (HV.out.below (B1.out.mono hb)) (by omega)).mono ?_
  rintro e w2 ⟨rfl, b2⟩
  rw [HO.out]
  have B2 := Seg.hid (chain B1.out b2)
  have T2 := Seg.hid ((b2.block w.heap.size z1).trans T1.out)
  have z2 : w.heap.size < w2.heap.size := (Array.getElem?_eq_some_iff.1 T2.out).1
  clear b2
  obtain ⟨c0, c1, c2, c3, c4, c5, c6⟩ := BOk.seven T2.out
  go_wp2_with fail
  clear c0 c1 c2 c3 c4 c5 c6
  refine (WrB.writeBody_any _ t.recs 1 w2 lo b (HRS.out.below (B2.out.mono hb)) (by omega) p7 P8.out).mono ?_
  rintro e w3 ⟨g3, cap3, rfl, o3, b3⟩
  obtain ⟨l3, hl3⟩ : ∃ l3, body 1 t.recs = l3 := ⟨_, rfl⟩
  have HL3 := Seg.hid hl3
  rw [hl3] at o3 s3 ⊢
  have O3 := Seg.hid (out_mono o3 z2)
  have B3 := Seg.hid (chain B2.out b3)
  have T3 := Seg.hid ((b3.block w.heap.size z2).trans T2.out)
  have z3 : w.heap.size < w3.heap.size := (Array.getElem?_eq_some_iff.1 T3.out).1
  clear o3 b3 hl3
  obtain ⟨c0, c1, c2, c3, c4, c5, c6⟩ := BOk.seven T3.out
  go_wp2_with fail
  clear c0 c1 c2 c3 c4 c5 c6
  refine (SqI.impl_in g3 0 cap3 l3 w3 (by omega) (Seg.owns_cap O3.out).1 (out_lt O3.out).2 (SqI.byt_wf (HL3.out ▸ (by_body _ _).byt)) (fun j hj => by rw [Nat.zero_add]; exact Seg.owns_cell O3.out j hj)).mono ?_
  rintro e w4 ⟨g4, cap4, rfl, o4, b4⟩
  obtain ⟨l4, hl4⟩ : ∃ l4, SqF.sq l3 0 0 [] = l4 := ⟨_, rfl⟩
  have L4 : Hid (l4 = bodyS t 1) := by show _ = _; rw [BS.out, HL3.out, hl4]
  have L4p : 0 < l4.length ∧ l4.length ≤ 80000 := by rw [L4.out]; exact ⟨s1, s2⟩
  rw [hl4] at o4 ⊢
  have O4 := Seg.hid (out_mono o4 z3)
  have B4 := Seg.hid (chain B3.out b4)
  have T4 := Seg.hid ((b4.block w.heap.size z3).trans T3.out)
  have z4 : w.heap.size < w4.heap.size := (Array.getElem?_eq_some_iff.1 T4.out).1
  clear o4 b4 hl4
  have B4' := B4.out.size
  obtain ⟨c0, c1, c2, c3, c4, c5, c6⟩ := BOk.seven (heap_alloc_old w4 (.cells #[.int .u8 77, .int .u8 1] 5 (0, 0)) z4 |>.trans T4.out)
  go_wp2_with fail
  clear c0 c1 c2 c3 c4 c5 c6
  have S5 : Hid (Sta w (w4.alloc (.cells #[.int .u8 77, .int .u8 1] 5 (0, 0))) g4 cap4 (.cells (BatW.batArr t (.slice A t.recs.length c)) 38 (0, 0)) l4 [77, 1] w4.heap.size 2) :=
    ⟨(heap_alloc_old w4 _ z4).trans T4.out, World.ownsRow.alloc O4.out _, World.ownsRow_lit (e := 5) (size := 1) w4 #[.int .u8 77, .int .u8 1] 2 z4 (by unfold maxLen; omega) rfl, by have := (out_lt O4.out).2; omega, B4.out.alloc B4' _⟩
  refine (ints_new w4.heap.size 2 (w.heap.size + 1) [77, 1] [t.base, t.epoch] (w4.alloc _) 3 _ (hsz w4 _) (by simp) (by simp) (two_in (by omega) (by omega)) S5.out.out (by rw [hsz]; omega)).mono ?_
  rintro e w6 hE
  obtain ⟨l6, hl6⟩ : ∃ l6, [77, 1] ++ numsB [t.base, t.epoch] = l6 := ⟨_, rfl⟩
  have hl6l : l6.length ≤ 22 := by
    rw [← hl6, PuT.nums2]
    have := WrP.put_le t.base (by omega)
    have := WrP.put_le t.epoch (by omega)
    simp only [List.length_append, List.length_cons, List.length_nil]
    omega
  have HL6 := Seg.hid hl6
  rw [hl6] at hE
  obtain ⟨g6, cap6, rfl, st6⟩ := S5.out.step hE
  have S6 := Seg.hid st6
  have z6 := st6.lt
  clear st6 hE hl6
  obtain ⟨c0, c1, c2, c3, c4, c5, c6⟩ := BOk.seven S6.out.var
  have S7 := S6; have z7 := z6
  have hl7l : l6.length ≤ 60 := by omega
  clear c0 c1 c2 c3 c4 c5 c6
  obtain ⟨c0, c1, c2, c3, c4, c5, c6⟩ := BOk.seven S7.out.var
  go_wp2_with fail
  clear c0 c1 c2 c3 c4 c5 c6
  refine (ints_new g6 cap6 (w.heap.size + 1) l6 [t.flags, (l4.length : Int)] w6 3 _ rfl (by simp) (by omega) (two_in (by omega) (by omega)) S7.out.out (by omega)).mono ?_
  rintro e w8 hE
  obtain ⟨l8, hl8⟩ : ∃ l8, l6 ++ numsB [t.flags, (l4.length : Int)] = l8 := ⟨_, rfl⟩
  have hl8l : l8.length ≤ 200 := by
    rw [← hl8, PuT.nums2]
    have := WrP.put_le t.flags (by omega)
    have := WrP.put_le (l4.length : Int) (by omega)
    simp only [List.length_append]
    omega
  have HL8 := Seg.hid hl8
  rw [hl8] at hE
  obtain ⟨g8, cap8, rfl, st8⟩ := S7.out.step hE
  have S8 := Seg.hid st8
  have z8 := st8.lt
  clear st8 hE hl8
  go_wp2_with (at_builtin; refine app rfl (.tmp 55) (.tmp 56) rfl (w.heap.size + 1) g8 cap8 l8 l4 ?hs ?ho ⟨g4, 0, none⟩ cap4 ?hx ?hn ?hm ?hb ?hba ?_; (case hs => rfl); (case ho => exact S8.out.out); (case hx => rfl); (case hn => exact fun j hj => out_cell S8.out.bod j hj); (case hm => omega); (case hb => omega); (case hba => omega); intro g9 cap9 w9 o9 gr9 at9; have S9 := Seg.hid (Sta.ext (n := 0) S8.out o9 gr9 at9); have z9 := S9.out.lt; clear o9 gr9 at9)
  have HP : Hid (l8 ++ l4 = pre t 1) := by
    show _ = _
    rw [pre, ← L4.out, ← HL8.out, ← HL6.out, headN, if_neg (by decide)]
    simp only [numsB, List.append_assoc, List.append_nil, List.cons_append, List.nil_append]
  obtain ⟨l9, hl9⟩ : ∃ l9, l8 ++ l4 = l9 := ⟨_, rfl⟩
  have h9l : l8.length + l4.length = l9.length := by rw [← hl9, List.length_append]
  have hl9l : l9.length ≤ 80200 := by omega
  rw [hl9] at S9 HP
  rw [h9l]
  clear hl9 h9l
  have BY9 : Hid (Seg.Byt l9) := (by rw [HP.out]; exact (((show By [77, (1 : Int)] from fun x hx => by simp at hx; omega).app (by_nums _)).app (by_bodyS _ _)).byt : Seg.Byt l9)
  refine (WrC.checkBytes_any g9 0 l9.length cap9 l9 w9 (by omega) (Seg.owns_cap S9.out.out).1 rfl (.inr (out_lt S9.out.out).2) (fun i hi => by rw [Nat.zero_add]; exact Seg.owns_cell S9.out.out i hi) BY9.out).mono ?_
  rintro e w10 ⟨g10, rfl, o10, b10⟩
  have O10 := Seg.hid o10
  have N10 := Seg.hid (out_below S9.out.out b10)
  have B10 := Seg.hid (chain S9.out.bl b10)
  have z10 := b10.size
  clear o10 b10
  go_wp2_with (at_builtin; refine app rfl (.tmp 58) (.tmp 60) rfl (w.heap.size + 1) g9 cap9 l9 (four (Crc.check l9)) ?hs ?ho ⟨g10, 0, none⟩ 4 ?hx ?hn ?hm ?hb ?hba ?_; (case hs => rfl); (case ho => exact N10.out); (case hx => rfl); (case hn => exact fun j hj => out_cell O10.out j hj); (case hm => simp [four]); (case hb => simp [four]; omega); (case hba => omega); intro g11 cap11 w11 o11 gr11 at11; have O11 := Seg.hid o11; have B11 : Hid (Below w.heap.size w w11) := B10.out.grown gr11 (by omega) (fun k hk => by cases hk; have := (out_lt S9.out.out).1; omega); clear o11 gr11 at11)
  go_ret
  refine ⟨g11, cap11, ?_, ?_, B11.out⟩
  · rw [wr_yes OK.out HO.out, ← HP.out, List.length_append]
    rfl
  · rw [wr_yes OK.out HO.out, ← HP.out]
    exact out_mono O11.out (by omega)

set_option maxHeartbeats 3200000 in
theorem impl_s2 (v : Value) (t : Bat) (w : World) (lo b : Nat) (hv : BatAt w lo b v t) (hb : b ≤ w.heap.size) (hok : BOk.batOk t = true) (hho : holds t 2 = true) (hodd : odd t.flags = true) :
    Calls Tryz.prog 90 #[v, .int .i64 2] w fun e w' => Wrote w w' t 2 e := by
  have HV := Seg.hid hv
  obtain ⟨rv, rfl, hrs⟩ := hv
  have HRS := Seg.hid hrs
  obtain ⟨H, ⟨hn, A, c, rfl, hx1⟩, hx2⟩ := hrs
  obtain ⟨p1, p2, p3, p4, p5, p6, p7, p8⟩ := ok_parts hok
  obtain ⟨s1, s2, s3⟩ := bodyS_facts t 2 p8 p7
  have P8 := Seg.hid p8; have OK := Seg.hid hok; have HO := Seg.hid hho
  have BS : Hid (bodyS t 2 = SqF.sq (body 2 t.recs) 0 0 []) := by
    have := odd_eq p6
    rw [hodd] at this
    show _ = _
    rw [bodyS, if_pos (by simpa using this.symm)]
  clear hx1 hx2 p8 hok hho
  unfold odd at hodd
  unfold batVal at HV ⊢
  go_enter Tryz.func90, Tryz.ntmps90
  go_wp2_with fail
  refine (BOk.impl_any _ t (w.alloc _) lo b (HV.out.below ((below1 w _).mono hb)) (by rw [hsz]; omega)).mono ?_
  rintro e w1 ⟨rfl, b1⟩
  rw [OK.out]
  have B1 := Seg.hid (chain (below1 w _) b1)
  have T1 : Hid (w1.heap[w.heap.size]? = some (.cells (BatW.batArr t (.slice A t.recs.length c)) 38 (0, 0))) := (b1.block w.heap.size (by rw [hsz]; omega)).trans (heap_alloc_new _ _)
  have z1 : w.heap.size < w1.heap.size := (Array.getElem?_eq_some_iff.1 T1.out).1
  clear b1
  obtain ⟨c0, c1, c2, c3, c4, c5, c6⟩ := BOk.seven T1.out
  go_wp2_with fail
  clear c0 c1 c2 c3 c4 c5 c6
  refine (WrC.holds_any 2 _ t w1 lo b (HV.out.below (B1.out.mono hb)) (by omega)).mono ?_
  rintro e w2 ⟨rfl, b2⟩
  rw [HO.out]
  have B2 := Seg.hid (chain B1.out b2)
  have T2 := Seg.hid ((b2.block w.heap.size z1).trans T1.out)
  have z2 : w.heap.size < w2.heap.size := (Array.getElem?_eq_some_iff.1 T2.out).1
  clear b2
  obtain ⟨c0, c1, c2, c3, c4, c5, c6⟩ := BOk.seven T2.out
  go_wp2_with fail
  clear c0 c1 c2 c3 c4 c5 c6
  refine (WrB.writeBody_any _ t.recs 2 w2 lo b (HRS.out.below (B2.out.mono hb)) (by omega) p7 P8.out).mono ?_
  rintro e w3 ⟨g3, cap3, rfl, o3, b3⟩
  obtain ⟨l3, hl3⟩ : ∃ l3, body 2 t.recs = l3 := ⟨_, rfl⟩
  have HL3 := Seg.hid hl3
  rw [hl3] at o3 s3 ⊢
  have O3 := Seg.hid (out_mono o3 z2)
  have B3 := Seg.hid (chain B2.out b3)
  have T3 := Seg.hid ((b3.block w.heap.size z2).trans T2.out)
  have z3 : w.heap.size < w3.heap.size := (Array.getElem?_eq_some_iff.1 T3.out).1
  clear o3 b3 hl3
  obtain ⟨c0, c1, c2, c3, c4, c5, c6⟩ := BOk.seven T3.out
  go_wp2_with fail
  clear c0 c1 c2 c3 c4 c5 c6
  refine (SqI.impl_in g3 0 cap3 l3 w3 (by omega) (Seg.owns_cap O3.out).1 (out_lt O3.out).2 (SqI.byt_wf (HL3.out ▸ (by_body _ _).byt)) (fun j hj => by rw [Nat.zero_add]; exact Seg.owns_cell O3.out j hj)).mono ?_
  rintro e w4 ⟨g4, cap4, rfl, o4, b4⟩
  obtain ⟨l4, hl4⟩ : ∃ l4, SqF.sq l3 0 0 [] = l4 := ⟨_, rfl⟩
  have L4 : Hid (l4 = bodyS t 2) := by show _ = _; rw [BS.out, HL3.out, hl4]
  have L4p : 0 < l4.length ∧ l4.length ≤ 80000 := by rw [L4.out]; exact ⟨s1, s2⟩
  rw [hl4] at o4 ⊢
  have O4 := Seg.hid (out_mono o4 z3)
  have B4 := Seg.hid (chain B3.out b4)
  have T4 := Seg.hid ((b4.block w.heap.size z3).trans T3.out)
  have z4 : w.heap.size < w4.heap.size := (Array.getElem?_eq_some_iff.1 T4.out).1
  clear o4 b4 hl4
  have B4' := B4.out.size
  obtain ⟨c0, c1, c2, c3, c4, c5, c6⟩ := BOk.seven (heap_alloc_old w4 (.cells #[.int .u8 77, .int .u8 2] 5 (0, 0)) z4 |>.trans T4.out)
  go_wp2_with fail
  clear c0 c1 c2 c3 c4 c5 c6
  have S5 : Hid (Sta w (w4.alloc (.cells #[.int .u8 77, .int .u8 2] 5 (0, 0))) g4 cap4 (.cells (BatW.batArr t (.slice A t.recs.length c)) 38 (0, 0)) l4 [77, 2] w4.heap.size 2) :=
    ⟨(heap_alloc_old w4 _ z4).trans T4.out, World.ownsRow.alloc O4.out _, World.ownsRow_lit (e := 5) (size := 1) w4 #[.int .u8 77, .int .u8 2] 2 z4 (by unfold maxLen; omega) rfl, by have := (out_lt O4.out).2; omega, B4.out.alloc B4' _⟩
  refine (ints_new w4.heap.size 2 (w.heap.size + 1) [77, 2] [t.base, t.epoch] (w4.alloc _) 3 _ (hsz w4 _) (by simp) (by simp) (two_in (by omega) (by omega)) S5.out.out (by rw [hsz]; omega)).mono ?_
  rintro e w6 hE
  obtain ⟨l6, hl6⟩ : ∃ l6, [77, 2] ++ numsB [t.base, t.epoch] = l6 := ⟨_, rfl⟩
  have hl6l : l6.length ≤ 22 := by
    rw [← hl6, PuT.nums2]
    have := WrP.put_le t.base (by omega)
    have := WrP.put_le t.epoch (by omega)
    simp only [List.length_append, List.length_cons, List.length_nil]
    omega
  have HL6 := Seg.hid hl6
  rw [hl6] at hE
  obtain ⟨g6, cap6, rfl, st6⟩ := S5.out.step hE
  have S6 := Seg.hid st6
  have z6 := st6.lt
  clear st6 hE hl6
  obtain ⟨c0, c1, c2, c3, c4, c5, c6⟩ := BOk.seven S6.out.var
  go_wp2_with fail
  clear c0 c1 c2 c3 c4 c5 c6
  refine (ints_new g6 cap6 (w.heap.size + 1) l6 [t.producer, t.turn, t.seq] w6 3 _ rfl (by simp) (by omega) (fun x hx => by simp at hx; omega) S6.out.out (by omega)).mono ?_
  rintro e w7 hE
  obtain ⟨l7, hl7⟩ : ∃ l7, l6 ++ numsB [t.producer, t.turn, t.seq] = l7 := ⟨_, rfl⟩
  have hl7l : l7.length ≤ 60 := by
    rw [← hl7]
    have := WrP.put_le t.producer (by omega)
    have := WrP.put_le t.turn (by omega)
    have := WrP.put_le t.seq (by omega)
    simp only [numsB, List.length_append, List.length_nil]
    omega
  have HL7 := Seg.hid hl7
  rw [hl7] at hE
  obtain ⟨g7, cap7, rfl, st7⟩ := S6.out.step hE
  have S7 := Seg.hid st7
  have z7 := st7.lt
  clear st7 hE hl7
  obtain ⟨c0, c1, c2, c3, c4, c5, c6⟩ := BOk.seven S7.out.var
  go_wp2_with fail
  clear c0 c1 c2 c3 c4 c5 c6
  refine (ints_new g7 cap7 (w.heap.size + 1) l7 [t.flags, (l4.length : Int)] w7 3 _ rfl (by simp) (by omega) (two_in (by omega) (by omega)) S7.out.out (by omega)).mono ?_
  rintro e w8 hE
  obtain ⟨l8, hl8⟩ : ∃ l8, l7 ++ numsB [t.flags, (l4.length : Int)] = l8 := ⟨_, rfl⟩
  have hl8l : l8.length ≤ 200 := by
    rw [← hl8, PuT.nums2]
    have := WrP.put_le t.flags (by omega)
    have := WrP.put_le (l4.length : Int) (by omega)
    simp only [List.length_append]
    omega
  have HL8 := Seg.hid hl8
  rw [hl8] at hE
  obtain ⟨g8, cap8, rfl, st8⟩ := S7.out.step hE
  have S8 := Seg.hid st8
  have z8 := st8.lt
  clear st8 hE hl8
  go_wp2_with (at_builtin; refine app rfl (.tmp 55) (.tmp 56) rfl (w.heap.size + 1) g8 cap8 l8 l4 ?hs ?ho ⟨g4, 0, none⟩ cap4 ?hx ?hn ?hm ?hb ?hba ?_; (case hs => rfl); (case ho => exact S8.out.out); (case hx => rfl); (case hn => exact fun j hj => out_cell S8.out.bod j hj); (case hm => omega); (case hb => omega); (case hba => omega); intro g9 cap9 w9 o9 gr9 at9; have S9 := Seg.hid (Sta.ext (n := 0) S8.out o9 gr9 at9); have z9 := S9.out.lt; clear o9 gr9 at9)
  have HP : Hid (l8 ++ l4 = pre t 2) := by
    show _ = _
    rw [pre, ← L4.out, ← HL8.out, ← HL7.out, ← HL6.out, headN, if_pos (by decide)]
    simp only [numsB, List.append_assoc, List.append_nil, List.cons_append, List.nil_append]
  obtain ⟨l9, hl9⟩ : ∃ l9, l8 ++ l4 = l9 := ⟨_, rfl⟩
  have h9l : l8.length + l4.length = l9.length := by rw [← hl9, List.length_append]
  have hl9l : l9.length ≤ 80200 := by omega
  rw [hl9] at S9 HP
  rw [h9l]
  clear hl9 h9l
  have BY9 : Hid (Seg.Byt l9) := (by rw [HP.out]; exact (((show By [77, (2 : Int)] from fun x hx => by simp at hx; omega).app (by_nums _)).app (by_bodyS _ _)).byt : Seg.Byt l9)
  refine (WrC.checkBytes_any g9 0 l9.length cap9 l9 w9 (by omega) (Seg.owns_cap S9.out.out).1 rfl (.inr (out_lt S9.out.out).2) (fun i hi => by rw [Nat.zero_add]; exact Seg.owns_cell S9.out.out i hi) BY9.out).mono ?_
  rintro e w10 ⟨g10, rfl, o10, b10⟩
  have O10 := Seg.hid o10
  have N10 := Seg.hid (out_below S9.out.out b10)
  have B10 := Seg.hid (chain S9.out.bl b10)
  have z10 := b10.size
  clear o10 b10
  go_wp2_with (at_builtin; refine app rfl (.tmp 58) (.tmp 60) rfl (w.heap.size + 1) g9 cap9 l9 (four (Crc.check l9)) ?hs ?ho ⟨g10, 0, none⟩ 4 ?hx ?hn ?hm ?hb ?hba ?_; (case hs => rfl); (case ho => exact N10.out); (case hx => rfl); (case hn => exact fun j hj => out_cell O10.out j hj); (case hm => simp [four]); (case hb => simp [four]; omega); (case hba => omega); intro g11 cap11 w11 o11 gr11 at11; have O11 := Seg.hid o11; have B11 : Hid (Below w.heap.size w w11) := B10.out.grown gr11 (by omega) (fun k hk => by cases hk; have := (out_lt S9.out.out).1; omega); clear o11 gr11 at11)
  go_ret
  refine ⟨g11, cap11, ?_, ?_, B11.out⟩
  · rw [wr_yes OK.out HO.out, ← HP.out, List.length_append]
    rfl
  · rw [wr_yes OK.out HO.out, ← HP.out]
    exact out_mono O11.out (by omega)
end Go.Proofs.YtoplbemolnpngaaGreat.WrI
