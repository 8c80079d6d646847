/- Squeeze of the program; The program's expander: its two kinds of piece. -/
import Derived.RegionTactic
import Derived.Maps.AppendAt
import Derived.Outline
import Derived.Deep.RegionLaw
import Derived.Deep.AppendLies
import Derived.Deep.QuietTactic
import Derived.BigQuiet
import Derived.WalkSmall
import Derived.Test.YtdnbcfochlfopaaRows
import Derived.Test.YtdnbcfochlfopaaJH25
import Derived.Test.YtdnbcfochlfopaaJH09
import Derived.Test.YtdnbcfochlfopaaJH29
import Derived.Test.YtdnbcfochlfopaaJH02
namespace Go.Proofs.Ytdnbcfochlfopaa.SqI
set_option maxRecDepth 8000
open Go.RowKit
open SqP (Out plain app put_any)
open SqM (cp)
open SqF (Sq sq mark3)
open SqG (Grp Kept NoRow)
open SqN (Par)
open SqS (plain_len marks marks_eq marks_new none_new)
set_option linter.unusedVariables false
theorem out_no {w : World} {base g cap : Nat} {l : List Int} (h : Out w base g cap l) : NoRow w g := fun cur fr e => by
  rcases h.2 with ⟨h1, _⟩ | ⟨g', cap', cur', h1, _, h3, _⟩
  · simp at h1
  · simp only [Value.slice.injEq, Option.some.injEq, Addr.mk.injEq, and_true, true_and] at h1
    obtain ⟨rfl, rfl⟩ := h1
    rw [h3] at e
    simp at e
theorem out_cells {w : World} {base g cap : Nat} {l : List Int} (h : Out w base g cap l) : ∃ cur, w.heap[g]? = some (.cells cur 5 (0, 0)) := by
  rcases h.2 with ⟨h1, _⟩ | ⟨g', cap', cur', h1, _, h3, _⟩
  · simp at h1
  · simp only [Value.slice.injEq, Option.some.injEq, Addr.mk.injEq, and_true, true_and] at h1
    obtain ⟨rfl, rfl⟩ := h1
    exact ⟨_, h3⟩
/-- All but what is out. -/
structure Rest (w wr : World) (g o c : Nat) (l : List Int) (m : Nat) : Prop where
  grp : Grp wr (w.heap.size + 1) l m
  par : Par wr (w.heap.size + 1 + 1) g o l.length c (w.heap.size + 1)
  bel : Below w.heap.size w wr
section
variable {w wr w' : World} {g o c m m' : Nat} {l out : List Int}
theorem Rest.below (h : Rest w wr g o c l m) (hb : Below wr.heap.size wr w') : Rest w w' g o c l m := ⟨h.grp.below hb, (hb.block _ h.par.lt).trans h.par, h.bel.trans (hb.mono h.bel.size)⟩
theorem Rest.ne_out {g1 cap1 : Nat} (h : Rest w wr g o c l m) (ho : Out wr w.heap.size g1 cap1 out) : g1 ≠ w.heap.size + 1 ∧ g1 ≠ w.heap.size + 1 + 1 := by
  obtain ⟨cur, hc⟩ := out_cells ho
  constructor
  · rintro rfl
    obtain ⟨D, ⟨es, clock, hb, _⟩, _⟩ := h.grp.own
    rw [hc] at hb
    simp at hb
  · rintro rfl
    have := h.par
    unfold Par at this
    rw [hc] at this
    simp at this
theorem Rest.grown {g1 cap1 : Nat} (h : Rest w wr g o c l m) (ho : Out wr w.heap.size g1 cap1 out) (hg : wr.grownBy w' (some g1)) : Rest w w' g o c l m := by
  have hne := h.ne_out ho
  refine ⟨h.grp.kept hg (fun j hj => by cases hj; exact out_no ho) (by simpa using hne.1.symm), ?_, h.bel.grown hg h.bel.size (fun k hk => by have := (SqS.Out.lt ho).1; simp at hk; omega)⟩
  exact (hg.block _ h.par.lt (by simpa using hne.2.symm)).trans h.par
theorem Rest.noted (h : Rest w wr g o c l m) (hk : Kept wr w' (w.heap.size + 1)) (hG : Grp w' (w.heap.size + 1) l m') : Rest w w' g o c l m' :=
  ⟨hG, h.par.kept hk (by omega), ⟨hk.os.trans h.bel.os, hk.tape.trans h.bel.tape, hk.output.trans h.bel.output, Nat.le_trans h.bel.size hk.size, fun k hkk => (hk.block k (Nat.lt_of_lt_of_le hkk h.bel.size) (by omega) (.inl (by omega))).trans (h.bel.block k hkk)⟩⟩
theorem out_of_block {base g1 cap1 : Nat} (ho : Out wr base g1 cap1 out) (he : w'.heap[g1]? = wr.heap[g1]?) : Out w' base g1 cap1 out := by
  refine ⟨ho.1, ?_⟩
  rcases ho.2 with hn | ⟨g', cap, cur, h1, hbs, hgg, rest⟩
  · exact .inl hn
  · refine .inr ⟨g', cap, cur, h1, hbs, ?_, rest⟩
    simp only [Value.slice.injEq, Option.some.injEq, Addr.mk.injEq, and_true, true_and] at h1
    obtain ⟨rfl, rfl⟩ := h1
    rw [he]; exact hgg
theorem out_kept {g1 cap1 : Nat} (h : Rest w wr g o c l m) (ho : Out wr w.heap.size g1 cap1 out) (hk : Kept wr w' (w.heap.size + 1)) : Out w' w.heap.size g1 cap1 out :=
  out_of_block ho (hk.block g1 (SqS.Out.lt ho).2 (h.ne_out ho).1 (.inr (out_no ho)))
theorem out_below {base g1 cap1 : Nat} (ho : Out wr base g1 cap1 out) (hb : Below wr.heap.size wr w') : Out w' base g1 cap1 out := out_of_block ho (hb.block g1 (SqS.Out.lt ho).2)
theorem Rest.cells (h : Rest w wr g o c l m) (hg : g < w.heap.size) (ha : ∀ i, i < l.length → w.cell? ⟨g, o + i, none⟩ = some (.int .u8 (l.getD i 0))) : ∀ i, i < l.length → wr.cell? ⟨g, o + i, none⟩ = some (.int .u8 (l.getD i 0)) := fun i hi => by rw [h.bel.cell (p := ⟨g, o + i, none⟩) hg]; exact ha i hi
end
theorem byt_wf {l : List Int} (h : Seg.Byt l) : ∀ i, (Lit.int .u8 (l.getD i 0)).wf = true := fun i => WalkArith.wf_u8 (by have := h i; omega)
theorem pl_cells {w1 : World} {g o p at_ : Nat} {l out : List Int} (hf : Sq l at_ p out) (ha : ∀ i, i < l.length → w1.cell? ⟨g, o + i, none⟩ = some (.int .u8 (l.getD i 0))) : ∀ j, j < at_ - p → w1.cell? ⟨g, o + p + j, none⟩ = some (.int .u8 (((l.drop p).take (at_ - p)).getD j 0)) := fun j hj => by
  have h1 := hf.pa; have h2 := hf.al
  have := ha (p + j) (by omega)
  rw [show o + p + j = o + (p + j) by omega, this]
  have h3 : p + j < l.length := by omega
  simp [hj]

set_option maxRecDepth 4000 in
set_option maxHeartbeats 1600000 in
theorem impl_in (g o c : Nat) (l : List Int) (w : World) (hl : l.length ≤ 60000) (hc : l.length ≤ c) (hg : g < w.heap.size) (hby : ∀ i, (Lit.int .u8 (l.getD i 0)).wf = true)
    (ha : ∀ i, i < l.length → w.cell? ⟨g, o + i, none⟩ = some (.int .u8 (l.getD i 0))) :
    Calls Try.prog 36 #[.slice (some ⟨g, o, none⟩) l.length c] w fun e w' => ∃ g' cap', e = .returned (.slice (some ⟨g', 0, none⟩) (sq l 0 0 []).length cap') ∧ Out w' w.heap.size g' cap' (sq l 0 0 []) ∧ Below w.heap.size w w' := by
  have HA := Seg.hid ha
  have HK := Seg.hid (SqG.keys_ok hby)
  clear ha hby
  have hmm := @run_makeMap Try.prog
  go_enter Try.func36, Try.ntmps36
  go_wp2_with fail
  go_loopw [3, 5, 6, 7, 8] (fun vo vp va _ _ wr => ∃ (at_ p g1 cap1 : Nat) (out : List Int), vo = .slice (some ⟨g1, 0, none⟩) out.length cap1 ∧ vp = .int .i64 p ∧ va = .int .i64 at_ ∧ Hid (Sq l at_ p out ∧ Out wr w.heap.size g1 cap1 out ∧ Rest w wr g o c l (min at_ (l.length - 3)))) (fun _ _ va _ _ _ => l.length - (intOf va).toNat)
  case atStart =>
    refine ⟨0, 0, w.heap.size, 0, [], rfl, rfl, rfl, Sq.start l, ?_, ?_⟩
    · exact World.ownsRow.alloc (World.ownsRow.alloc (none_new w _ (Nat.le_refl _)) _) _
    · refine ⟨?_, ?_, (((Below.refl _ _).alloc (Nat.le_refl _) _).alloc (by simp) _).alloc (by simp; omega) _⟩
      · have h := Grp.made (w.alloc (.cells #[] 5)) l HK.out
        rw [Nat.zero_min]
        rw [show (w.alloc (.cells #[] 5)).heap.size = w.heap.size + 1 by simp] at h
        exact h.below ((Below.refl _ _).alloc (Nat.le_refl _) _)
      · have h := heap_alloc_new ((w.alloc (.cells #[] 5)).alloc (.map #[] 0)) (.cells #[.slice (some ⟨g, o, none⟩) l.length c, .map (some (w.heap.size + 1))] 93)
        rw [show ((w.alloc (.cells #[] 5)).alloc (.map #[] 0)).heap.size = w.heap.size + 1 + 1 by simp] at h
        exact h
  case round =>
    obtain ⟨at_, p, g1, cap1, out, rfl, rfl, rfl, HR⟩ := hrel
    have PC := HR.out.2.2.par.cells
    obtain ⟨p0, p1⟩ := PC
    have hgw : g < wr.heap.size := Nat.lt_of_lt_of_le hg HR.out.2.2.bel.size
    have hgg1 : g ≠ g1 := by have := (SqS.Out.lt HR.out.2.1).1; omega
    have hpa := HR.out.1.pa
    have hal := HR.out.1.al
    have hol := HR.out.1.ol
    by_cases hlt : at_ < l.length
    · have i0 : (at_ : Int) < (l.length : Int) := by omega
      go_wp2_with fail
      refine (SqW.find_any g o c (w.heap.size + 1) at_ l wr hl hc hgw hlt (HR.out.2.2.cells hg HA.out) HR.out.2.2.grp).mono ?_
      rintro e w1 ⟨rfl, b1⟩
      have O1 := Seg.hid (out_below HR.out.2.1 b1)
      have R1 := Seg.hid (HR.out.2.2.below b1)
      have hg1w : g < w1.heap.size := Nat.lt_of_lt_of_le hgw b1.size
      clear b1 p0 p1
      obtain ⟨p0, p1⟩ := R1.out.par.cells
      have HCP := Seg.hid (SqM.cp_le l at_)
      by_cases hz : (cp l at_).1 = 0
      · have HZ := Seg.hid hz
        rw [hz]
        go_wp2_with fail
        refine (SqN.note_any g o c (w.heap.size + 1) at_ 1 l w1 hl hc hg1w (by omega) (.inl (by omega)) (by omega) (R1.out.cells hg HA.out) R1.out.grp).mono ?_
        rintro e w2 ⟨rfl, hG2, hK2⟩
        have N2 := Seg.hid (And.intro (HR.out.1.plain hlt HZ.out) (And.intro (out_kept R1.out O1.out hK2) (R1.out.noted hK2 hG2)))
        clear hG2 hK2
        go_wp2
        go_roundw
        case rel => exact ⟨at_ + 1, p, g1, cap1, out, rfl, rfl, by go_num, N2.out⟩
        case measure => simp [intOf]; omega
      · have HZ := Seg.hid hz
        have hzz : (((cp l at_).1 : Int) == 0) = false := by simp; omega
        have j1 : (0 : Int) ≤ (p : Int) := by omega
        have j2 : (p : Int) ≤ (at_ : Int) := by omega
        have j3 : (at_ : Int) ≤ (c : Int) := by omega
        go_wp2_with fail
        have hcl := Seg.hid (pl_cells HR.out.1 (R1.out.cells hg HA.out))
        refine (put_any g1 cap1 w.heap.size g (o + p) (at_ - p) (c - p) ((l.drop p).take (at_ - p)) out w1 (plain_len HR.out.1) (by omega) (by omega) (by omega) O1.out R1.out.bel.size hgg1 hg1w hcl.out).mono ?_
        rintro e w2 ⟨g2, cap2, rfl, o2, a2, gr2⟩
        have O2 := Seg.hid o2
        have R2 := Seg.hid (R1.out.grown O1.out gr2)
        clear o2 a2 gr2 p0 p1 hcl
        have hpn : (plain ((l.drop p).take (at_ - p))).length ≤ 120000 := by have h1 := SqP.plain_len ((l.drop p).take (at_ - p)); rw [plain_len HR.out.1] at h1; omega
        generalize hL : (cp l at_).1 = L at *
        generalize hD : (cp l at_).2 = d at *
        have HL := Seg.hid hL; have HD := Seg.hid hD
        clear hL hD
        obtain ⟨q1, q2, q3⟩ := HCP.out
        have b1 : 4 ≤ L ∧ L ≤ 67 ∧ 1 ≤ d ∧ d ≤ 4096 ∧ at_ + L ≤ l.length := by omega
        obtain ⟨b1, b2, b3, b4, b5⟩ := b1
        clear q1 q2 q3
        have hs2 := R2.out.bel.size
        obtain ⟨p0, p1⟩ := R2.out.par.cells
        have NX : Hid (∀ g3 cap3 w3 ob, Out w3 w.heap.size g3 cap3 (out ++ plain ((l.drop p).take (at_ - p)) ++ marks L d) → (w2.alloc ob).grownBy w3 (some g2) → Sq l (at_ + L) (at_ + L) (out ++ plain ((l.drop p).take (at_ - p)) ++ marks L d) ∧ Rest w w3 g o c l (min at_ (l.length - 3))) := fun g3 cap3 w3 ob h1 h2 => ⟨by rw [marks_eq b3, ← HL.out, ← HD.out]; exact HR.out.1.copy hlt (by rw [HL.out]; exact HZ.out), R2.out.grown O2.out ((World.grownBy_alloc _ ob _).trans h2)⟩
        go_wp2_with (at_builtin; refine app rfl (.tmp 40) (.tmp 52) rfl w.heap.size g2 cap2 (out ++ plain ((l.drop p).take (at_ - p))) (marks L d) ?hs ?ho ⟨w2.heap.size, 0, none⟩ 3 ?hx ?hn ?hm ?hb ?hba ?_; (case hs => rw [List.length_append]; rfl); (case ho => exact World.ownsRow.alloc O2.out _); (case hx => rfl); (case hn => exact marks_new w2 w2.heap.size L d _ rfl); (case hm => simp [marks]); (case hb => simp [marks]; omega); (case hba => simp; omega); intro g3 cap3 w3 o3 gr3 at3; have O3 := Seg.hid o3; have N3 := Seg.hid (NX.out g3 cap3 w3 _ o3 gr3); obtain ⟨r0, r1⟩ := N3.out.2.par.cells; have hs3 := N3.out.2.bel.size; clear o3 gr3 at3 p0 p1)
        have hg3w : g < w3.heap.size := by omega
        refine (SqN.note_any g o c (w.heap.size + 1) at_ L l w3 hl hc hg3w (by omega) (.inl (by omega)) b5 (N3.out.2.cells hg HA.out) N3.out.2.grp).mono ?_
        rintro e w4 ⟨rfl, hG4, hK4⟩
        have N4 := Seg.hid (And.intro N3.out.1 (And.intro (out_kept N3.out.2 O3.out hK4) (N3.out.2.noted hK4 hG4)))
        clear hG4 hK4
        go_wp2
        go_roundw
        case rel =>
          refine ⟨at_ + L, at_ + L, g3, cap3, out ++ plain ((l.drop p).take (at_ - p)) ++ marks L d, by simp only [List.length_append], by go_num, by go_num, N4.out⟩
        case measure => simp [intOf]; omega
    · obtain rfl : at_ = l.length := by omega
      have HE := Seg.hid (HR.out.1.ends hlt)
      have hdr : (l.drop p).take (l.length - p) = l.drop p := List.take_of_length_le (by simp)
      have HDR := Seg.hid hdr
      have hcl := Seg.hid (pl_cells HR.out.1 (HR.out.2.2.cells hg HA.out))
      have j1 : (0 : Int) ≤ (p : Int) := by omega
      have j2 : (p : Int) ≤ (l.length : Int) := by omega
      have j3 : (p : Int) ≤ (c : Int) := by omega
      have j4 : (l.length : Int) ≤ (c : Int) := by omega
      clear hdr p0 p1
      go_wp2_with fail
      · have hz0 : l.length - p = 0 := by omega
        refine (put_any g1 cap1 w.heap.size g o (l.length - p) 0 ((l.drop p).take (l.length - p)) out wr (plain_len HR.out.1) (by omega) (by omega) (by omega) HR.out.2.1 HR.out.2.2.bel.size hgg1 hgw (fun j hj => absurd hj (by omega))).mono ?_
        rintro e w2 ⟨g2, cap2, rfl, o2, a2, gr2⟩
        rw [HDR.out, ← HE.out] at o2
        rw [HDR.out, ← HE.out]
        have O2 := Seg.hid o2
        have B2 := Seg.hid (HR.out.2.2.grown HR.out.2.1 gr2).bel
        clear o2 a2 gr2
        go_wp2
        go_ret
        exact ⟨g2, cap2, rfl, O2.out, B2.out⟩
      · refine (put_any g1 cap1 w.heap.size g (o + p) (l.length - p) (c - p) ((l.drop p).take (l.length - p)) out wr (plain_len HR.out.1) (by omega) (by omega) (by omega) HR.out.2.1 HR.out.2.2.bel.size hgg1 hgw hcl.out).mono ?_
        rintro e w2 ⟨g2, cap2, rfl, o2, a2, gr2⟩
        rw [HDR.out, ← HE.out] at o2
        rw [HDR.out, ← HE.out]
        have O2 := Seg.hid o2
        have B2 := Seg.hid (HR.out.2.2.grown HR.out.2.1 gr2).bel
        clear o2 a2 gr2
        go_wp2
        go_ret
        exact ⟨g2, cap2, rfl, O2.out, B2.out⟩

set_option maxHeartbeats 400000 in
theorem impl_out (A : Option Addr) (n c : Nat) (w : World) (hn : 60000 < n) :
    Calls Try.prog 36 #[.slice A n c] w fun e w' => ∃ g' cap', e = .returned (.slice (some ⟨g', 0, none⟩) 0 cap') ∧ Out w' w.heap.size g' cap' [] ∧ Below w.heap.size w w' := by
  go_enter Try.func36, Try.ntmps36
  go_wp2
  go_ret
  exact ⟨w.heap.size, 0, rfl, none_new w _ (Nat.le_refl _), (Below.refl _ _).alloc (Nat.le_refl _) _⟩
end Go.Proofs.Ytdnbcfochlfopaa.SqI
namespace Go.Proofs.Ytdnbcfochlfopaa.Expd
set_option maxRecDepth 8000
open Go.RowKit
open Seg (B)
set_option linter.unusedVariables false
theorem infoB : (Try.prog.info? 5).map (fun i => (i.zero, i.size, i.bytes)) = some (some (.int .u8 0), 1, 1) := by kernel_rfl

set_option maxRecDepth 4000 in
set_option maxHeartbeats 800000 in
theorem plain_short (E m cp k cap : Nat) (A V : Option Addr) (cnt : Nat) (most : Int) (w : World) (hm : m ≤ 140737488355328) (hcnt : cnt ≤ 200)
    (c0 : w.cell? ⟨E, 0, none⟩ = some (.slice A m cp)) (hs : m < 1 + cnt) :
    Calls Try.prog 119 #[.pointer (some ⟨E, 0, none⟩), .int .i64 cnt] w fun e w' => e = .returned (.bool false) ∧ ∃ n, w' = w.drewN n := by
  have hd : decide ((m : Int) < 1 + (cnt : Int)) = true := decide_eq_true (by omega)
  go_enter Try.func119, Try.ntmps119
  go_wp2
  go_quiet (fail)
  go_wp2
  go_ret
  exact ⟨rfl, _, rfl⟩

set_option maxRecDepth 4000 in
set_option maxHeartbeats 800000 in
theorem plain_full (E m cp k cap : Nat) (A V : Option Addr) (cnt : Nat) (most : Int) (w : World) (hm : m ≤ 140737488355328) (hcnt : cnt ≤ 200) (hk : k ≤ 60000)
    (c0 : w.cell? ⟨E, 0, none⟩ = some (.slice A m cp)) (c1 : w.cell? ⟨E, 1, none⟩ = some (.slice V k cap)) (c2 : w.cell? ⟨E, 2, none⟩ = some (.int .i64 most)) (hs : 1 + cnt ≤ m) (hf : most < k + cnt) :
    Calls Try.prog 119 #[.pointer (some ⟨E, 0, none⟩), .int .i64 cnt] w fun e w' => e = .returned (.bool false) ∧ ∃ n, w' = w.drewN n := by
  have hd : decide ((m : Int) < 1 + (cnt : Int)) = false := decide_eq_false (by omega)
  go_enter Try.func119, Try.ntmps119
  go_wp2
  go_quiet (fail)
  go_wp2
  go_ret
  exact ⟨rfl, _, rfl⟩

/-- The expander behind a piece. -/
structure Done (w w' : World) (E gb i m k base : Nat) (most : Int) (out : List Int) : Prop where
  ps : ∃ A c, w'.cell? ⟨E, 0, none⟩ = some (.slice A m c) ∧ (0 < m → A = some ⟨gb, i, none⟩ ∧ m ≤ c)
  ou : ∃ g cap, w'.cell? ⟨E, 1, none⟩ = some (.slice (some ⟨g, 0, none⟩) k cap) ∧ w'.ownsRow base 5 1 (.slice (some ⟨g, 0, none⟩) k cap) k (B out) ∧ g ≠ E
  mo : w'.cell? ⟨E, 2, none⟩ = some (.int .i64 most)
  f0 : w'.frozen? ⟨E, 0, none⟩ = false
  f1 : w'.frozen? ⟨E, 1, none⟩ = false
  bl : Below base w w'
theorem Done.drew {w w' : World} {E gb i m k base : Nat} {most : Int} {out : List Int} (h : Done w w' E gb i m k base most out) : Done w w'.drew E gb i m k base most out := ⟨h.ps, h.ou, h.mo, h.f0, h.f1, h.bl.drew⟩
theorem Draw_grown (w : World) (b j : Nat) (v : Value) : w.grownBy (w.setCell ⟨b, j, none⟩ v) (some b) :=
  ⟨rfl, rfl, rfl, by simp, fun k _ hk => heap_setCell_other w ⟨b, j, none⟩ k v (fun e => hk (by simp [e]))⟩
theorem done_of {w w1 : World} {E gb i m k base g cap : Nat} {most : Int} {out : List Int} (A : Option Addr) (c : Nat) (x0 x1 : Value) (q0 : w1.cell? ⟨E, 0, none⟩ = some x0) (q1 : w1.cell? ⟨E, 1, none⟩ = some x1) (q2 : w1.cell? ⟨E, 2, none⟩ = some (.int .i64 most))
    (p0 : w1.frozen? ⟨E, 0, none⟩ = false) (p1 : w1.frozen? ⟨E, 1, none⟩ = false) (ho : w1.ownsRow base 5 1 (.slice (some ⟨g, 0, none⟩) k cap) k (B out)) (hgE : g ≠ E) (hb : Below base w w1) (hE : base ≤ E)
    (hA : 0 < m → A = some ⟨gb, i, none⟩ ∧ m ≤ c) : Done w ((w1.setCell ⟨E, 1, none⟩ (.slice (some ⟨g, 0, none⟩) k cap)).setCell ⟨E, 0, none⟩ (.slice A m c)) E gb i m k base most out := by
  have o1 := ho.kept (Draw_grown w1 E 1 (.slice (some ⟨g, 0, none⟩) k cap)) (.inr (by simp [Value.ownBlock]; exact hgE))
  have o2 := o1.kept (Draw_grown _ E 0 (.slice A m c)) (.inr (by simp [Value.ownBlock]; exact hgE))
  refine ⟨⟨A, c, ?_, hA⟩, ⟨g, cap, ?_, o2, hgE⟩, ?_, ?_, ?_, (hb.setCell hE _).setCell hE _⟩
  · exact World.cell?_setCell_same _ _ _ (by rw [World.cell?_setCell_other _ _ _ _ (by simp)]; exact q0)
  · rw [World.cell?_setCell_other _ _ _ _ (by simp)]
    exact World.cell?_setCell_same _ _ _ q1
  · rw [World.cell?_setCell_other _ _ _ _ (by simp), World.cell?_setCell_other _ _ _ _ (by simp)]; exact q2
  · rw [World.frozen?_setCell, World.frozen?_setCell]; exact p0
  · rw [World.frozen?_setCell, World.frozen?_setCell]; exact p1

set_option maxRecDepth 100000 in
set_option maxHeartbeats 3200000 in
theorem plain_ok (E gb i m cp k cap g base : Nat) (cnt : Nat) (most : Int) (f : Nat → Int) (out : List Int) (w : World) (hm : m ≤ 140737488355328) (hcnt : cnt ≤ 200) (hc1 : 1 ≤ cnt) (hk : k ≤ 60000) (hmc : m ≤ cp)
    (c0 : w.cell? ⟨E, 0, none⟩ = some (.slice (some ⟨gb, i, none⟩) m cp)) (c1 : w.cell? ⟨E, 1, none⟩ = some (.slice (some ⟨g, 0, none⟩) k cap)) (c2 : w.cell? ⟨E, 2, none⟩ = some (.int .i64 most))
    (f0 : w.frozen? ⟨E, 0, none⟩ = false) (f1 : w.frozen? ⟨E, 1, none⟩ = false) (hlen : out.length = k)
    (ho : w.ownsRow base 5 1 (.slice (some ⟨g, 0, none⟩) k cap) k (B out)) (hge : g ≠ E) (hbE : base ≤ E) (hgb : gb < base)
    (hcell : ∀ j, j < m → w.cell? ⟨gb, i + j, none⟩ = some (.int .u8 (f j))) (hs : 1 + cnt ≤ m) (hf : k + cnt ≤ most) (hmost : most ≤ 60000) :
    Calls Try.prog 119 #[.pointer (some ⟨E, 0, none⟩), .int .i64 cnt] w fun e w' => e = .returned (.bool true) ∧ Done w w' E gb (i + (1 + cnt)) (m - (1 + cnt)) (k + cnt) base most (out ++ (List.range cnt).map fun j => f (1 + j)) := by
  obtain ⟨i0, hi, hz0, hz1, hz2⟩ := info_parts infoB
  have hd : decide ((m : Int) < 1 + (cnt : Int)) = false := decide_eq_false (by omega)
  have HO := Seg.hid ho
  have HC := Seg.hid hcell
  have hoc := Seg.owns_cap ho
  have hEl : E < w.heap.size := World.block_lt_of_cell? w _ c0
  have HEG : Hid (some E ≠ (Value.slice (some ⟨g, 0, none⟩) k cap).ownBlock) := (by show _ ≠ _; simp [Value.ownBlock]; omega)
  have HS : ∀ d : Nat, Hid (∀ j u, (B ((List.range cnt).map fun j => f (1 + j)))[j]? = some u → (w.drewN d).cell? ((⟨gb, i + 1, none⟩ : Addr).add j) = some u) := fun d j u hj => by
    have hjl : j < cnt := by
      have := (List.getElem?_eq_some_iff.1 hj).1
      simpa [B] using this
    have e : (⟨gb, i + 1, none⟩ : Addr).add j = ⟨gb, i + (1 + j), none⟩ := by
      unfold Addr.add
      split
      · simp_all
      · simp; omega
    rw [e, World.cell?_drewN, hcell (1 + j) (by omega)]
    simpa [B, hjl] using hj
  have hcp : ¬ cp = 1 := by omega
  have hcz : ¬ cnt = 0 := by omega
  have hmi : (1 : Int) ≤ (m : Int) := by omega
  have hsi : (1 : Int) + (cnt : Int) ≤ (m : Int) := by omega
  have hsc : (1 : Int) + (cnt : Int) ≤ (cp : Int) := by omega
  by_cases hcc : cp = 1 + cnt
  · obtain rfl : m = 1 + cnt := by omega
    subst hcc
    have hs1 : (1 : Int) ≤ (1 : Int) + (cnt : Int) := by omega
    have hw : IntKind.i64.wrap (1 + (cnt : Int)) = 1 + (cnt : Int) := by rw [IntKind.wrap_i64]; omega
    have htn : (1 + (cnt : Int)).toNat = 1 + cnt := by omega
    clear ho hcell
    go_enter Try.func119, Try.ntmps119
    go_wp2
    go_quiet (fail)
    go_wp2
    go_region_law
      ((refine step_append_lies _ (by rfl) _ _ _ (by rfl) base 5 i0 (.int .u8 0) 1 1 Try.underlying22 hi hz0 hz1 hz2 rfl (by decide) _ k (B out) (by rfl) (show World.ownsRow (w.drewN (nq + 1)) base 5 1 _ k (B out) from HO.out) ⟨gb, i + 1, none⟩ cnt _ (B ((List.range cnt).map fun j => f (1 + j))) (by rfl) (by simp [B]) (HS (nq + 1)).out (by simp [B, Value.oneCell']) hc1 (by unfold maxLen; omega) (by omega) (by simp; omega) w.heap.size (by simp) ?_; intro g1 cap1 w1 hown1 hgrow hat hlt; have q0 : w1.cell? ⟨E, 0, none⟩ = some (.slice (some ⟨gb, i, none⟩) (1 + cnt) (1 + cnt)) := (hgrow.cell_far ⟨E, 0, none⟩ hEl HEG.out).trans c0; have q1 : w1.cell? ⟨E, 1, none⟩ = some (.slice (some ⟨g, 0, none⟩) k cap) := (hgrow.cell_far ⟨E, 1, none⟩ hEl HEG.out).trans c1; have p0 : w1.frozen? ⟨E, 0, none⟩ = false := (hgrow.frozen_far ⟨E, 0, none⟩ hEl HEG.out).trans f0; have p1 : w1.frozen? ⟨E, 1, none⟩ = false := (hgrow.frozen_far ⟨E, 1, none⟩ hEl HEG.out).trans f1))
    all_goals
      have q2 : Hid (w1.cell? ⟨E, 2, none⟩ = some (.int .i64 most)) := (hgrow.cell_far ⟨E, 2, none⟩ hEl HEG.out).trans c2
      have HB1 : Hid (Below base w w1) := (below_drewN (Below.refl base w) (nq + 1)).grown hgrow (by simp; omega) (fun j hj => by simp [Value.ownBlock] at hj; omega)
      have HO1 : Hid (w1.ownsRow base 5 1 (.slice (some ⟨g1, 0, none⟩) (k + cnt) cap1) (k + cnt) (B (out ++ (List.range cnt).map fun j => f (1 + j)))) := (by
        show World.ownsRow _ _ _ _ _ _ _
        simpa [B] using hown1)
      have hg1 : g1 ≠ E := by
        rcases hat with h | h
        · simp [Value.ownBlock] at h; omega
        · omega
      clear hown1 hgrow hat hlt
      go_wp2
      go_ret
      refine ⟨rfl, ?_⟩
      rw [Nat.sub_self]
      exact done_of _ _ _ _ q0 q1 q2.out p0 p1 HO1.out hg1 HB1.out hbE (fun h => absurd h (Nat.lt_irrefl 0))
  · skip
    have hs1 : (1 : Int) ≤ (1 : Int) + (cnt : Int) := by omega
    have hw : IntKind.i64.wrap (1 + (cnt : Int)) = 1 + (cnt : Int) := by rw [IntKind.wrap_i64]; omega
    have htn : (1 + (cnt : Int)).toNat = 1 + cnt := by omega
    clear ho hcell
    go_enter Try.func119, Try.ntmps119
    go_wp2
    go_quiet (fail)
    go_wp2
    go_region_law
      ((refine step_append_lies _ (by rfl) _ _ _ (by rfl) base 5 i0 (.int .u8 0) 1 1 Try.underlying22 hi hz0 hz1 hz2 rfl (by decide) _ k (B out) (by rfl) (show World.ownsRow (w.drewN (nq + 1)) base 5 1 _ k (B out) from HO.out) ⟨gb, i + 1, none⟩ cnt _ (B ((List.range cnt).map fun j => f (1 + j))) (by rfl) (by simp [B]) (HS (nq + 1)).out (by simp [B, Value.oneCell']) hc1 (by unfold maxLen; omega) (by omega) (by simp; omega) w.heap.size (by simp) ?_; intro g1 cap1 w1 hown1 hgrow hat hlt; have q0 : w1.cell? ⟨E, 0, none⟩ = some (.slice (some ⟨gb, i, none⟩) m cp) := (hgrow.cell_far ⟨E, 0, none⟩ hEl HEG.out).trans c0; have q1 : w1.cell? ⟨E, 1, none⟩ = some (.slice (some ⟨g, 0, none⟩) k cap) := (hgrow.cell_far ⟨E, 1, none⟩ hEl HEG.out).trans c1; have p0 : w1.frozen? ⟨E, 0, none⟩ = false := (hgrow.frozen_far ⟨E, 0, none⟩ hEl HEG.out).trans f0; have p1 : w1.frozen? ⟨E, 1, none⟩ = false := (hgrow.frozen_far ⟨E, 1, none⟩ hEl HEG.out).trans f1))
    all_goals
      have q2 : Hid (w1.cell? ⟨E, 2, none⟩ = some (.int .i64 most)) := (hgrow.cell_far ⟨E, 2, none⟩ hEl HEG.out).trans c2
      have HB1 : Hid (Below base w w1) := (below_drewN (Below.refl base w) (nq + 1)).grown hgrow (by simp; omega) (fun j hj => by simp [Value.ownBlock] at hj; omega)
      have HO1 : Hid (w1.ownsRow base 5 1 (.slice (some ⟨g1, 0, none⟩) (k + cnt) cap1) (k + cnt) (B (out ++ (List.range cnt).map fun j => f (1 + j)))) := (by
        show World.ownsRow _ _ _ _ _ _ _
        simpa [B] using hown1)
      have hg1 : g1 ≠ E := by
        rcases hat with h | h
        · simp [Value.ownBlock] at h; omega
        · omega
      clear hown1 hgrow hat hlt
      go_wp2
      go_ret
      exact ⟨rfl, done_of _ _ _ _ q0 q1 q2.out p0 p1 HO1.out hg1 HB1.out hbE (fun h => ⟨rfl, by omega⟩)⟩
end Go.Proofs.Ytdnbcfochlfopaa.Expd
