/- The finder's find, at every place; Squeeze of the program. -/
import Derived.Test.YtbihajcikleccaaJI26
import Derived.Test.YtbihajcikleccaaJI23
import Derived.Test.YtbihajcikleccaaJI18
namespace Go.Proofs.Ytbihajcikleccaa.SqW
set_option maxRecDepth 8000
open Go.RowKit
open SqM SqK SqG
set_option linter.unusedVariables false
theorem cp_short {l : List Int} {at_ : Nat} (h : l.length < at_ + 4) : cp l at_ = (0, 0) := by
  have hb := bestF_best l at_ (min 4096 at_)
  rw [cp, if_pos]
  rcases Nat.eq_zero_or_pos (bestF l at_ (min 4096 at_)).2 with h0 | h0
  · rw [hb.no h0]; omega
  · rw [(hb.is h0).1]; have := (rn_le l at_ (bestF l at_ (min 4096 at_)).2).2; omega
set_option maxHeartbeats 800000 in
theorem find_out (g o c M at_ : Nat) (l : List Int) (w : World) (hl : l.length ≤ 60000) (hat : at_ < l.length) (hsh : l.length < at_ + 4) :
    Calls Try.prog 86 #[fv g o l.length c M, .int .i64 at_] w fun e w' => e = .returned (.tuple #[.int .i64 0, .int .i64 0]) ∧ Below w.heap.size w w' := by
  unfold fv
  obtain ⟨s, hs⟩ : ∃ s : Nat, l.length = at_ + s := ⟨l.length - at_, by omega⟩
  have m2 : (l.length : Int) - (at_ : Int) = (s : Int) := by omega
  have m3 : (s : Int) ≤ 67 := by omega
  have m4 : (s : Int) < 4 := by omega
  clear hs
  go_enter Try.func86, Try.ntmps86
  go_wp2
  all_goals
    go_ret2
    exact ⟨rfl, (Below.refl _ _).alloc (Nat.le_refl _) _⟩
theorem find_any (g o c M at_ : Nat) (l : List Int) (w : World) (hl : l.length ≤ 60000) (hc : l.length ≤ c) (hg : g < w.heap.size) (hat : at_ < l.length)
    (ha : ∀ i, i < l.length → w.cell? ⟨g, o + i, none⟩ = some (.int .u8 (l.getD i 0))) (hG : Grp w M l (min at_ (l.length - 3))) :
    Calls Try.prog 86 #[fv g o l.length c M, .int .i64 at_] w fun e w' => e = .returned (.tuple #[.int .i64 (cp l at_).1, .int .i64 (cp l at_).2]) ∧ Below w.heap.size w w' := by
  by_cases h : at_ + 4 ≤ l.length
  · rw [show min at_ (l.length - 3) = at_ by omega] at hG
    exact find_in g o c M at_ l w hl hc hg h ha hG
  · rw [cp_short (by omega)]
    exact find_out g o c M at_ l w hl hat (by omega)
end Go.Proofs.Ytbihajcikleccaa.SqW
namespace Go.Proofs.Ytbihajcikleccaa.SqI
set_option maxRecDepth 8000
open Go.RowKit
open SqP (Out plain app put_any)
open SqM (cp)
open SqF (Sq sq mark3)
open SqG (Grp Kept NoRow)
open SqN (Par)
open SqS (plain_len marks marks_eq marks_new none_new)
set_option linter.unusedVariables false
theorem out_no {w : World} {base g cap : Nat} {l : List Int} (h : Out w base g cap l) : NoRow w g := fun cur fr e => by
  rcases h.2 with ⟨h1, _⟩ | ⟨g', cap', cur', h1, _, h3, _⟩
  · simp at h1
  · simp only [Value.slice.injEq, Option.some.injEq, Addr.mk.injEq, and_true, true_and] at h1
    obtain ⟨rfl, rfl⟩ := h1
    rw [h3] at e
    simp at e
theorem out_cells {w : World} {base g cap : Nat} {l : List Int} (h : Out w base g cap l) : ∃ cur, w.heap[g]? = some (.cells cur 5 (0, 0)) := by
  rcases h.2 with ⟨h1, _⟩ | ⟨g', cap', cur', h1, _, h3, _⟩
  · simp at h1
  · simp only [Value.slice.injEq, Option.some.injEq, Addr.mk.injEq, and_true, true_and] at h1
    obtain ⟨rfl, rfl⟩ := h1
    exact ⟨_, h3⟩
/-- All but what is out. -/
structure Rest (w wr : World) (g o c : Nat) (l : List Int) (m : Nat) : Prop where
  grp : Grp wr (w.heap.size + 1) l m
  par : Par wr (w.heap.size + 1 + 1) g o l.length c (w.heap.size + 1)
  bel : Below w.heap.size w wr
section
variable {w wr w' : World} {g o c m m' : Nat} {l out : List Int}
theorem Rest.below (h : Rest w wr g o c l m) (hb : Below wr.heap.size wr w') : Rest w w' g o c l m := ⟨h.grp.below hb, (hb.block _ h.par.lt).trans h.par, h.bel.trans (hb.mono h.bel.size)⟩
theorem Rest.ne_out {g1 cap1 : Nat} (h : Rest w wr g o c l m) (ho : Out wr w.heap.size g1 cap1 out) : g1 ≠ w.heap.size + 1 ∧ g1 ≠ w.heap.size + 1 + 1 := by
  obtain ⟨cur, hc⟩ := out_cells ho
  constructor
  · rintro rfl
    obtain ⟨D, ⟨es, clock, hb, _⟩, _⟩ := h.grp.own
    rw [hc] at hb
    simp at hb
  · rintro rfl
    have := h.par
    unfold Par at this
    rw [hc] at this
    simp at this
theorem Rest.grown {g1 cap1 : Nat} (h : Rest w wr g o c l m) (ho : Out wr w.heap.size g1 cap1 out) (hg : wr.grownBy w' (some g1)) : Rest w w' g o c l m := by
  have hne := h.ne_out ho
  refine ⟨h.grp.kept hg (fun j hj => by cases hj; exact out_no ho) (by simpa using hne.1.symm), ?_, h.bel.grown hg h.bel.size (fun k hk => by have := (SqS.Out.lt ho).1; simp at hk; omega)⟩
  exact (hg.block _ h.par.lt (by simpa using hne.2.symm)).trans h.par
theorem Rest.noted (h : Rest w wr g o c l m) (hk : Kept wr w' (w.heap.size + 1)) (hG : Grp w' (w.heap.size + 1) l m') : Rest w w' g o c l m' :=
  ⟨hG, h.par.kept hk (by omega), ⟨hk.os.trans h.bel.os, hk.tape.trans h.bel.tape, hk.output.trans h.bel.output, Nat.le_trans h.bel.size hk.size, fun k hkk => (hk.block k (Nat.lt_of_lt_of_le hkk h.bel.size) (by omega) (.inl (by omega))).trans (h.bel.block k hkk)⟩⟩
theorem out_of_block {base g1 cap1 : Nat} (ho : Out wr base g1 cap1 out) (he : w'.heap[g1]? = wr.heap[g1]?) : Out w' base g1 cap1 out := by
  refine ⟨ho.1, ?_⟩
  rcases ho.2 with hn | ⟨g', cap, cur, h1, hbs, hgg, rest⟩
  · exact .inl hn
  · refine .inr ⟨g', cap, cur, h1, hbs, ?_, rest⟩
    simp only [Value.slice.injEq, Option.some.injEq, Addr.mk.injEq, and_true, true_and] at h1
    obtain ⟨rfl, rfl⟩ := h1
    rw [he]; exact hgg
theorem out_kept {g1 cap1 : Nat} (h : Rest w wr g o c l m) (ho : Out wr w.heap.size g1 cap1 out) (hk : Kept wr w' (w.heap.size + 1)) : Out w' w.heap.size g1 cap1 out :=
  out_of_block ho (hk.block g1 (SqS.Out.lt ho).2 (h.ne_out ho).1 (.inr (out_no ho)))
theorem out_below {base g1 cap1 : Nat} (ho : Out wr base g1 cap1 out) (hb : Below wr.heap.size wr w') : Out w' base g1 cap1 out := out_of_block ho (hb.block g1 (SqS.Out.lt ho).2)
theorem Rest.cells (h : Rest w wr g o c l m) (hg : g < w.heap.size) (ha : ∀ i, i < l.length → w.cell? ⟨g, o + i, none⟩ = some (.int .u8 (l.getD i 0))) : ∀ i, i < l.length → wr.cell? ⟨g, o + i, none⟩ = some (.int .u8 (l.getD i 0)) := fun i hi => by rw [h.bel.cell (p := ⟨g, o + i, none⟩) hg]; exact ha i hi
end
theorem byt_wf {l : List Int} (h : Seg.Byt l) : ∀ i, (Lit.int .u8 (l.getD i 0)).wf = true := fun i => WalkArith.wf_u8 (by have := h i; omega)
theorem pl_cells {w1 : World} {g o p at_ : Nat} {l out : List Int} (hf : Sq l at_ p out) (ha : ∀ i, i < l.length → w1.cell? ⟨g, o + i, none⟩ = some (.int .u8 (l.getD i 0))) : ∀ j, j < at_ - p → w1.cell? ⟨g, o + p + j, none⟩ = some (.int .u8 (((l.drop p).take (at_ - p)).getD j 0)) := fun j hj => by
  have h1 := hf.pa; have h2 := hf.al
  have := ha (p + j) (by omega)
  rw [show o + p + j = o + (p + j) by omega, this]
  have h3 : p + j < l.length := by omega
  simp [hj]

set_option maxRecDepth 4000 in
set_option maxHeartbeats 1600000 in
theorem impl_in (g o c : Nat) (l : List Int) (w : World) (hl : l.length ≤ 60000) (hc : l.length ≤ c) (hg : g < w.heap.size) (hby : ∀ i, (Lit.int .u8 (l.getD i 0)).wf = true)
    (ha : ∀ i, i < l.length → w.cell? ⟨g, o + i, none⟩ = some (.int .u8 (l.getD i 0))) :
    Calls Try.prog 72 #[.slice (some ⟨g, o, none⟩) l.length c] w fun e w' => ∃ g' cap', e = .returned (.slice (some ⟨g', 0, none⟩) (sq l 0 0 []).length cap') ∧ Out w' w.heap.size g' cap' (sq l 0 0 []) ∧ Below w.heap.size w w' := by
  have HA := Seg.hid ha
  have HK := Seg.hid (SqG.keys_ok hby)
  clear ha hby
  have hmm := @run_makeMap Try.prog
  go_enter Try.func72, Try.ntmps72
  go_wp2_with fail
  go_loopw [3, 5, 6, 7, 8] (fun vo vp va _ _ wr => ∃ (at_ p g1 cap1 : Nat) (out : List Int), vo = .slice (some ⟨g1, 0, none⟩) out.length cap1 ∧ vp = .int .i64 p ∧ va = .int .i64 at_ ∧ Hid (Sq l at_ p out ∧ Out wr w.heap.size g1 cap1 out ∧ Rest w wr g o c l (min at_ (l.length - 3)))) (fun _ _ va _ _ _ => l.length - (intOf va).toNat)
  case atStart =>
    refine ⟨0, 0, w.heap.size, 0, [], rfl, rfl, rfl, Sq.start l, ?_, ?_⟩
    · exact World.ownsRow.alloc (World.ownsRow.alloc (none_new w _ (Nat.le_refl _)) _) _
    · refine ⟨?_, ?_, (((Below.refl _ _).alloc (Nat.le_refl _) _).alloc (by simp) _).alloc (by simp; omega) _⟩
      · have h := Grp.made (w.alloc (.cells #[] 5)) l HK.out
        rw [Nat.zero_min]
        rw [show (w.alloc (.cells #[] 5)).heap.size = w.heap.size + 1 by simp] at h
        exact h.below ((Below.refl _ _).alloc (Nat.le_refl _) _)
      · have h := heap_alloc_new ((w.alloc (.cells #[] 5)).alloc (.map #[] 0)) (.cells #[.slice (some ⟨g, o, none⟩) l.length c, .map (some (w.heap.size + 1))] 120)
        rw [show ((w.alloc (.cells #[] 5)).alloc (.map #[] 0)).heap.size = w.heap.size + 1 + 1 by simp] at h
        exact h
  case round =>
    obtain ⟨at_, p, g1, cap1, out, rfl, rfl, rfl, HR⟩ := hrel
    have PC := HR.out.2.2.par.cells
    obtain ⟨p0, p1⟩ := PC
    have hgw : g < wr.heap.size := Nat.lt_of_lt_of_le hg HR.out.2.2.bel.size
    have hgg1 : g ≠ g1 := by have := (SqS.Out.lt HR.out.2.1).1; omega
    have hpa := HR.out.1.pa
    have hal := HR.out.1.al
    have hol := HR.out.1.ol
    by_cases hlt : at_ < l.length
    · have i0 : (at_ : Int) < (l.length : Int) := by omega
      go_wp2_with fail
      refine (SqW.find_any g o c (w.heap.size + 1) at_ l wr hl hc hgw hlt (HR.out.2.2.cells hg HA.out) HR.out.2.2.grp).mono ?_
      rintro e w1 ⟨rfl, b1⟩
      have O1 := Seg.hid (out_below HR.out.2.1 b1)
      have R1 := Seg.hid (HR.out.2.2.below b1)
      have hg1w : g < w1.heap.size := Nat.lt_of_lt_of_le hgw b1.size
      clear b1 p0 p1
      obtain ⟨p0, p1⟩ := R1.out.par.cells
      have HCP := Seg.hid (SqM.cp_le l at_)
      by_cases hz : (cp l at_).1 = 0
      · have HZ := Seg.hid hz
        rw [hz]
        go_wp2_with fail
        refine (SqN.note_any g o c (w.heap.size + 1) at_ 1 l w1 hl hc hg1w (by omega) (.inl (by omega)) (by omega) (R1.out.cells hg HA.out) R1.out.grp).mono ?_
        rintro e w2 ⟨rfl, hG2, hK2⟩
        have N2 := Seg.hid (And.intro (HR.out.1.plain hlt HZ.out) (And.intro (out_kept R1.out O1.out hK2) (R1.out.noted hK2 hG2)))
        clear hG2 hK2
        go_wp2
        go_roundw
        case rel => exact ⟨at_ + 1, p, g1, cap1, out, rfl, rfl, by go_num, N2.out⟩
        case measure => simp [intOf]; omega
      · have HZ := Seg.hid hz
        have hzz : (((cp l at_).1 : Int) == 0) = false := by simp; omega
        have j1 : (0 : Int) ≤ (p : Int) := by omega
        have j2 : (p : Int) ≤ (at_ : Int) := by omega
        have j3 : (at_ : Int) ≤ (c : Int) := by omega
        go_wp2_with fail
        have hcl := Seg.hid (pl_cells HR.out.1 (R1.out.cells hg HA.out))
        refine (put_any g1 cap1 w.heap.size g (o + p) (at_ - p) (c - p) ((l.drop p).take (at_ - p)) out w1 (plain_len HR.out.1) (by omega) (by omega) (by omega) O1.out R1.out.bel.size hgg1 hg1w hcl.out).mono ?_
        rintro e w2 ⟨g2, cap2, rfl, o2, a2, gr2⟩
        have O2 := Seg.hid o2
        have R2 := Seg.hid (R1.out.grown O1.out gr2)
        clear o2 a2 gr2 p0 p1 hcl
        have hpn : (plain ((l.drop p).take (at_ - p))).length ≤ 120000 := by have h1 := SqP.plain_len ((l.drop p).take (at_ - p)); rw [plain_len HR.out.1] at h1; omega
        generalize hL : (cp l at_).1 = L at *
        generalize hD : (cp l at_).2 = d at *
        have HL := Seg.hid hL; have HD := Seg.hid hD
        clear hL hD
        obtain ⟨q1, q2, q3⟩ := HCP.out
        have b1 : 4 ≤ L ∧ L ≤ 67 ∧ 1 ≤ d ∧ d ≤ 4096 ∧ at_ + L ≤ l.length := by omega
        obtain ⟨b1, b2, b3, b4, b5⟩ := b1
        clear q1 q2 q3
        have hs2 := R2.out.bel.size
        obtain ⟨p0, p1⟩ := R2.out.par.cells
        have NX : Hid (∀ g3 cap3 w3 ob, Out w3 w.heap.size g3 cap3 (out ++ plain ((l.drop p).take (at_ - p)) ++ marks L d) → (w2.alloc ob).grownBy w3 (some g2) → Sq l (at_ + L) (at_ + L) (out ++ plain ((l.drop p).take (at_ - p)) ++ marks L d) ∧ Rest w w3 g o c l (min at_ (l.length - 3))) := fun g3 cap3 w3 ob h1 h2 => ⟨by rw [marks_eq b3, ← HL.out, ← HD.out]; exact HR.out.1.copy hlt (by rw [HL.out]; exact HZ.out), R2.out.grown O2.out ((World.grownBy_alloc _ ob _).trans h2)⟩
        go_wp2_with (at_builtin; refine app rfl (.tmp 40) (.tmp 52) rfl w.heap.size g2 cap2 (out ++ plain ((l.drop p).take (at_ - p))) (marks L d) ?hs ?ho ⟨w2.heap.size, 0, none⟩ 3 ?hx ?hn ?hm ?hb ?hba ?_; (case hs => rw [List.length_append]; rfl); (case ho => exact World.ownsRow.alloc O2.out _); (case hx => rfl); (case hn => exact marks_new w2 w2.heap.size L d _ rfl); (case hm => simp [marks]); (case hb => simp [marks]; omega); (case hba => simp; omega); intro g3 cap3 w3 o3 gr3 at3; have O3 := Seg.hid o3; have N3 := Seg.hid (NX.out g3 cap3 w3 _ o3 gr3); obtain ⟨r0, r1⟩ := N3.out.2.par.cells; have hs3 := N3.out.2.bel.size; clear o3 gr3 at3 p0 p1)
        have hg3w : g < w3.heap.size := by omega
        refine (SqN.note_any g o c (w.heap.size + 1) at_ L l w3 hl hc hg3w (by omega) (.inl (by omega)) b5 (N3.out.2.cells hg HA.out) N3.out.2.grp).mono ?_
        rintro e w4 ⟨rfl, hG4, hK4⟩
        have N4 := Seg.hid (And.intro N3.out.1 (And.intro (out_kept N3.out.2 O3.out hK4) (N3.out.2.noted hK4 hG4)))
        clear hG4 hK4
        go_wp2
        go_roundw
        case rel =>
          refine ⟨at_ + L, at_ + L, g3, cap3, out ++ plain ((l.drop p).take (at_ - p)) ++ marks L d, by simp only [List.length_append], by go_num, by go_num, N4.out⟩
        case measure => simp [intOf]; omega
    · obtain rfl : at_ = l.length := by omega
      have HE := Seg.hid (HR.out.1.ends hlt)
      have hdr : (l.drop p).take (l.length - p) = l.drop p := List.take_of_length_le (by simp)
      have HDR := Seg.hid hdr
      have hcl := Seg.hid (pl_cells HR.out.1 (HR.out.2.2.cells hg HA.out))
      have j1 : (0 : Int) ≤ (p : Int) := by omega
      have j2 : (p : Int) ≤ (l.length : Int) := by omega
      have j3 : (p : Int) ≤ (c : Int) := by omega
      have j4 : (l.length : Int) ≤ (c : Int) := by omega
      clear hdr p0 p1
      go_wp2_with fail
      · have hz0 : l.length - p = 0 := by omega
        refine (put_any g1 cap1 w.heap.size g o (l.length - p) 0 ((l.drop p).take (l.length - p)) out wr (plain_len HR.out.1) (by omega) (by omega) (by omega) HR.out.2.1 HR.out.2.2.bel.size hgg1 hgw (fun j hj => absurd hj (by omega))).mono ?_
        rintro e w2 ⟨g2, cap2, rfl, o2, a2, gr2⟩
        rw [HDR.out, ← HE.out] at o2
        rw [HDR.out, ← HE.out]
        have O2 := Seg.hid o2
        have B2 := Seg.hid (HR.out.2.2.grown HR.out.2.1 gr2).bel
        clear o2 a2 gr2
        go_wp2
        go_ret
        exact ⟨g2, cap2, rfl, O2.out, B2.out⟩
      · refine (put_any g1 cap1 w.heap.size g (o + p) (l.length - p) (c - p) ((l.drop p).take (l.length - p)) out wr (plain_len HR.out.1) (by omega) (by omega) (by omega) HR.out.2.1 HR.out.2.2.bel.size hgg1 hgw hcl.out).mono ?_
        rintro e w2 ⟨g2, cap2, rfl, o2, a2, gr2⟩
        rw [HDR.out, ← HE.out] at o2
        rw [HDR.out, ← HE.out]
        have O2 := Seg.hid o2
        have B2 := Seg.hid (HR.out.2.2.grown HR.out.2.1 gr2).bel
        clear o2 a2 gr2
        go_wp2
        go_ret
        exact ⟨g2, cap2, rfl, O2.out, B2.out⟩

set_option maxHeartbeats 400000 in
theorem impl_out (A : Option Addr) (n c : Nat) (w : World) (hn : 60000 < n) :
    Calls Try.prog 72 #[.slice A n c] w fun e w' => ∃ g' cap', e = .returned (.slice (some ⟨g', 0, none⟩) 0 cap') ∧ Out w' w.heap.size g' cap' [] ∧ Below w.heap.size w w' := by
  go_enter Try.func72, Try.ntmps72
  go_wp2
  go_ret
  exact ⟨w.heap.size, 0, rfl, none_new w _ (Nat.le_refl _), (Below.refl _ _).alloc (Nat.le_refl _) _⟩
end Go.Proofs.Ytbihajcikleccaa.SqI
