/- Squeeze of the model. -/
import Derived.Test.YtadfaeihpfjfcaaSqF
import Derived.Test.YtadfaeihpfjfcaaSqPs
import Derived.Test.YtadfaeihpfjfcaaSqC
import Derived.Laws.Rows
namespace Go.Proofs.Ytadfaeihpfjfcaa.SqS
open Go.RowKit
open SqP (Out plain app put_spec)
open SqM (cp)
open SqF (Sq sq mark3)
set_option linter.unusedVariables false
/-- How far the loop is, in memory. -/
structure At (w wr : World) (l : List Int) (at_ p : Nat) (out : List Int) (vo vp : Value) : Prop where
  far : Sq l at_ p out
  mem : ∃ g cap gp capp, vo = .slice (some ⟨g, 0, none⟩) out.length cap ∧ vp = .slice (some ⟨gp, 0, none⟩) (at_ - p) capp ∧ Out wr w.heap.size g cap out ∧ Out wr w.heap.size gp capp ((l.drop p).take (at_ - p)) ∧ gp ≠ g
  bel : Below w.heap.size w wr
theorem plain_len {l : List Int} {at_ p : Nat} {out : List Int} (h : Sq l at_ p out) : ((l.drop p).take (at_ - p)).length = at_ - p := by
  have := h.pa; have := h.al
  simp; omega
theorem Out.lt {w : World} {base g cap : Nat} {l : List Int} (h : Out w base g cap l) : base ≤ g ∧ g < w.heap.size := by
  have := Seg.owns_cap h
  exact ⟨this.2.2.1, this.2.2.2⟩
theorem Out.keep {w w' : World} {base g g1 cap : Nat} {l : List Int} (h : Out w base g cap l) (hg : w.grownBy w' (some g1)) (hne : g ≠ g1) : Out w' base g cap l := World.ownsRow.kept h hg (.inr (by simpa [Value.ownBlock] using hne))
theorem Out.cell {w : World} {base g cap : Nat} {l : List Int} (h : Out w base g cap l) (j : Nat) (hj : j < l.length) : w.cell? ⟨g, 0 + j, none⟩ = some (.int .u8 (l.getD j 0)) := by rw [Nat.zero_add]; exact Seg.owns_cell h j hj
theorem take_next {l : List Int} {at_ p : Nat} {out : List Int} (h : Sq l at_ p out) (hlt : at_ < l.length) : (l.drop p).take (at_ - p) ++ [l.getD at_ 0] = (l.drop p).take (at_ + 1 - p) := by
  have hp := h.pa
  rw [show at_ + 1 - p = (at_ - p) + 1 by omega, List.take_add_one]
  congr 1
  have : p + (at_ - p) = at_ := by omega
  simp [this, hlt]
theorem At.next {w wr w2 : World} {l : List Int} {at_ p q go_ cap gp capp g2 cap2 : Nat} {out : List Int} {x : Int} {ob : Obj} (hf : Sq l at_ p out) (hlt : at_ < l.length) (hz : (cp l at_).1 = 0) (hx : l.getD at_ 0 = x) (hb : Below w.heap.size w wr)
    (ho : Out wr w.heap.size go_ cap out) (hp : Out wr w.heap.size gp capp ((l.drop p).take (at_ - p))) (hne : gp ≠ go_) (o2 : Out w2 w.heap.size g2 cap2 ((l.drop p).take (at_ - p) ++ [x])) (gr2 : ((wr.drewN q).alloc ob).grownBy w2 (some gp)) (at2 : g2 = gp ∨ g2 = ((wr.drewN q).alloc ob).heap.size) :
    At w w2 l (at_ + 1) p out (.slice (some ⟨go_, 0, none⟩) out.length cap) (.slice (some ⟨g2, 0, none⟩) (at_ - p + 1) cap2) := by
  have hpa := hf.pa
  have gr : wr.grownBy w2 (some gp) := (World.grownBy_alloc wr ob (some gp)).trans ⟨gr2.os, gr2.tape, gr2.output, gr2.size, gr2.block⟩
  refine ⟨hf.plain hlt hz, ⟨go_, cap, g2, cap2, rfl, by rw [show at_ - p + 1 = at_ + 1 - p by omega], Out.keep ho gr (by omega), ?_, ?_⟩, ?_⟩
  · rw [← take_next hf hlt, hx]; exact o2
  · have := (Out.lt ho).2
    have hs : ((wr.drewN q).alloc ob).heap.size = wr.heap.size + 1 := by simp
    rcases at2 with h | h <;> omega
  · exact hb.grown gr hb.size (fun k hk => by have := (Out.lt hp).1; simp at hk; omega)
theorem below_drewN {B : Nat} {w w1 : World} (h : Below B w w1) (n : Nat) : Below B w (w1.drewN n) := ⟨h.os, h.tape, h.output, h.size, h.block⟩
def marks (L d : Nat) : List Int := [124 + (L : Int), ((d : Int) - 1) / 256, ((d : Int) - 1) % 256]
theorem marks_eq {L d : Nat} (h : 1 ≤ d) : marks L d = mark3 L d := by
  have h1 : (((d - 1) / 256 : Nat) : Int) = ((d : Int) - 1) / 256 := by omega
  have h2 : (((d - 1) % 256 : Nat) : Int) = ((d : Int) - 1) % 256 := by omega
  simp only [marks, mark3, h1, h2]
theorem three_new (w : World) (a b c : Int) (t : TypeId) : ∀ j, j < [a, b, c].length → (w.alloc (.cells #[.int .u8 a, .int .u8 b, .int .u8 c] t)).cell? ((⟨w.heap.size, 0, none⟩ : Addr).add j) = some (.int .u8 ([a, b, c].getD j 0)) := fun j hj => by
  rw [SqP.add_at, Nat.zero_add, cell_of_row _ w.heap.size j _ t (0, 0) (heap_alloc_new _ _)]
  match j, hj with
  | 0, _ => rfl
  | 1, _ => rfl
  | 2, _ => rfl
theorem marks_new (w : World) (B L d : Nat) (t : TypeId) (hB : B = w.heap.size) : ∀ j, j < (marks L d).length → (w.alloc (.cells #[.int .u8 (124 + (L : Int)), .int .u8 (((d : Int) - 1) / 256), .int .u8 (((d : Int) - 1) % 256)] t)).cell? ((⟨B, 0, none⟩ : Addr).add j) = some (.int .u8 ((marks L d).getD j 0)) := by
  subst hB
  exact three_new w _ _ _ t
theorem none_new (w : World) (base : Nat) (hb : base ≤ w.heap.size) : Out (w.alloc (.cells #[] 5)) base w.heap.size 0 [] := World.ownsRow_lit w #[] 0 hb (Nat.zero_le _) rfl
theorem At.copied {w wr w2 w3 : World} {l : List Int} {at_ p q go_ cap g2 cap2 g3 cap3 L d : Nat} {out : List Int} {ob : Obj} (hf : Sq l at_ p out) (hlt : at_ < l.length) (hL : (cp l at_).1 = L) (hD : (cp l at_).2 = d) (hz : ¬ L = 0) (hd : 1 ≤ d) (hb : Below w.heap.size w wr) (ho : Out wr w.heap.size go_ cap out)
    (o2 : Out w2 w.heap.size g2 cap2 (out ++ plain ((l.drop p).take (at_ - p)))) (a2 : g2 = go_ ∨ wr.heap.size ≤ g2) (gr2 : (wr.drewN q).grownBy w2 (some go_))
    (o3 : Out w3 w.heap.size g3 cap3 (out ++ plain ((l.drop p).take (at_ - p)) ++ marks L d)) (gr3 : ((w2.alloc (.cells #[] 5)).alloc ob).grownBy w3 (some g2)) (at3 : g3 = g2 ∨ g3 = ((w2.alloc (.cells #[] 5)).alloc ob).heap.size) :
    At w w3 l (at_ + L) (at_ + L) (out ++ plain ((l.drop p).take (at_ - p)) ++ marks L d) (.slice (some ⟨g3, 0, none⟩) (out ++ plain ((l.drop p).take (at_ - p)) ++ marks L d).length cap3) (.slice (some ⟨w2.heap.size, 0, none⟩) 0 0) := by
  have s1 := hb.size
  have s2 := gr2.size
  have l2 := Out.lt o2
  have s2' : wr.heap.size ≤ w2.heap.size := s2
  have gA : (w2.alloc (.cells #[] 5)).grownBy w3 (some g2) := (World.grownBy_alloc _ ob _).trans gr3
  have gB : w2.grownBy w3 (some g2) := (World.grownBy_alloc _ _ _).trans gA
  have bel2 : Below w.heap.size w w2 := (below_drewN hb q).grown gr2 s1 (fun k hk => by have := (Out.lt ho).1; simp at hk; omega)
  refine ⟨?_, ⟨g3, cap3, w2.heap.size, 0, rfl, by rw [Nat.sub_self], o3, ?_, ?_⟩, bel2.grown gB bel2.size (fun k hk => by simp at hk; omega)⟩
  · rw [marks_eq hd, ← hL, ← hD]
    exact hf.copy hlt (by rw [hL]; exact hz)
  · rw [Nat.sub_self, List.take_zero]
    exact Out.keep (none_new w2 _ (by omega)) gA (by omega)
  · have hs : ((w2.alloc (.cells #[] 5)).alloc ob).heap.size = w2.heap.size + 2 := by simp
    rcases at3 with h | h <;> omega
set_option maxRecDepth 4000 in
set_option maxHeartbeats 1600000 in
theorem spec_in (g o c : Nat) (l : List Int) (w : World) (hl : l.length ≤ 60000) (hc : l.length ≤ c) (hg : g < w.heap.size)
    (ha : ∀ i, i < l.length → w.cell? ⟨g, o + i, none⟩ = some (.int .u8 (l.getD i 0))) :
    Calls Try.prog 4 #[.slice (some ⟨g, o, none⟩) l.length c] w fun e w' => ∃ g' cap', e = .returned (.slice (some ⟨g', 0, none⟩) (sq l 0 0 []).length cap') ∧ Out w' w.heap.size g' cap' (sq l 0 0 []) ∧ Below w.heap.size w w' := by
  have HA := Seg.hid ha
  clear ha
  go_enter Try.func4, Try.ntmps4
  go_wp2_with fail
  go_loopw [3, 4, 5, 6, 7] (fun vo vp i _ _ wr => ∃ (at_ p : Nat) (out : List Int), i = .int .i64 at_ ∧ At w wr l at_ p out vo vp) (fun _ _ i _ _ _ => l.length - (intOf i).toNat)
  case atStart =>
    refine ⟨0, 0, [], rfl, Sq.start l, ⟨w.heap.size, 0, w.heap.size + 1, 0, rfl, rfl, ?_, ?_, by omega⟩, ((Below.refl _ _).alloc (Nat.le_refl _) _).alloc (by simp) _⟩
    · exact World.ownsRow.alloc (World.ownsRow_lit w #[] 0 (Nat.le_refl _) (Nat.zero_le _) rfl) _
    · have := none_new (w.alloc (.cells #[] 5)) w.heap.size (by simp)
      simpa using this
  case round =>
    obtain ⟨at_, p, out, rfl, AT⟩ := hrel
    obtain ⟨go_, cap, gp, capp, rfl, rfl, o1, o2, hne⟩ := AT.mem
    have HF := Seg.hid AT.far; have HO := Seg.hid o1; have HP := Seg.hid o2; have HB := Seg.hid AT.bel
    clear AT o1 o2
    by_cases hlt : at_ < l.length
    · have i0 : (0 : Int) ≤ (at_ : Int) := by omega
      have i1 : (at_ : Int) < (l.length : Int) := by omega
      have CE : Hid (∀ i, i < l.length → wr.cell? ⟨g, o + i, none⟩ = some (.int .u8 (l.getD i 0))) := fun i hi => by rw [HB.out.cell (p := ⟨g, o + i, none⟩) hg]; exact HA.out i hi
      go_wp2_with fail
      refine (SqC.copy_any g o c at_ l wr hl hc hlt CE.out).mono ?_
      rintro e w1 ⟨rfl, q, rfl⟩
      have hcp := SqM.cp_le l at_
      have HCP := Seg.hid hcp
      clear hcp
      by_cases hz : (cp l at_).1 = 0
      · have HZ := Seg.hid hz
        have ca := CE.out at_ hlt
        generalize hx : l.getD at_ 0 = x at ca
        have HX := Seg.hid hx
        clear hx
        rw [hz]
        have hs0 := HB.out.size
        have hpl : at_ - p ≤ 60000 := by omega
        go_wp2_with (at_builtin; refine app rfl (.tmp 26) (.tmp 31) rfl w.heap.size gp capp ((l.drop p).take (at_ - p)) [x] ?hs ?ho ⟨wr.heap.size, 0, none⟩ 1 ?hx ?hn ?hm ?hb ?hba ?_; (case hs => rw [plain_len HF.out]; rfl); (case ho => exact World.ownsRow.alloc HP.out _); (case hx => rfl); (case hn => exact SqP.one_new (wr.drewN q) _ _); (case hm => simp); (case hb => rw [plain_len HF.out]; simp; omega); (case hba => simp; omega); intro g2 cap2 w2 o2 gr2 at2; have N2 : Hid (At w w2 l (at_ + 1) p out (.slice (some ⟨go_, 0, none⟩) out.length cap) (.slice (some ⟨g2, 0, none⟩) (at_ - p + 1) cap2)) := At.next HF.out hlt HZ.out HX.out HB.out HO.out HP.out hne o2 gr2 at2; rw [plain_len HF.out]; clear o2 gr2 at2)
        go_roundw
        case rel => exact ⟨at_ + 1, p, out, by go_num, N2.out⟩
        case measure => simp [intOf]; omega
      · have HZ := Seg.hid hz
        have hs0 := HB.out.size
        have hpl : at_ - p ≤ 60000 := by omega
        have hol : out.length ≤ 120000 := by have h1 := HF.out.ol; have h2 := HF.out.pa; have h3 := HF.out.al; omega
        have hcc : at_ - p ≤ capp := by have := Seg.owns_cap HP.out; have h2 := plain_len HF.out; omega
        have hzz : (((cp l at_).1 : Int) == 0) = false := by simp; omega
        go_wp2_with fail
        refine (put_spec go_ cap w.heap.size gp 0 (at_ - p) capp ((l.drop p).take (at_ - p)) out (wr.drewN q) (plain_len HF.out) hpl (by omega) hcc HO.out hs0 hne (Out.lt HP.out).2 (fun j hj => Out.cell HP.out j (by rw [plain_len HF.out]; exact hj))).mono ?_
        rintro e w2 ⟨g2, cap2, rfl, o2, a2, gr2⟩
        have O2 := Seg.hid o2; have A2 := Seg.hid a2; have G2 := Seg.hid gr2
        clear o2 a2 gr2
        generalize hL : (cp l at_).1 = L at *
        generalize hD : (cp l at_).2 = d at *
        have HL := Seg.hid hL; have HD := Seg.hid hD
        clear hL hD
        obtain ⟨q1, q2, q3⟩ := HCP.out
        have b1 : 4 ≤ L ∧ L ≤ 67 ∧ 1 ≤ d ∧ d ≤ 4096 := by omega
        obtain ⟨b1, b2, b3, b4⟩ := b1
        clear q1 q2 q3
        have hpn : (plain ((l.drop p).take (at_ - p))).length ≤ 120000 := by have h1 := SqP.plain_len ((l.drop p).take (at_ - p)); rw [plain_len HF.out] at h1; omega
        have hs2 := G2.out.size
        have hs2' : w.heap.size ≤ w2.heap.size := Nat.le_trans hs0 hs2
        go_wp2_with (at_builtin; refine app rfl (.tmp 39) (.tmp 51) rfl w.heap.size g2 cap2 (out ++ plain ((l.drop p).take (at_ - p))) (marks L d) ?hs ?ho ⟨w2.heap.size + 1, 0, none⟩ 3 ?hx ?hn ?hm ?hb ?hba ?_; (case hs => rw [List.length_append]; rfl); (case ho => exact World.ownsRow.alloc (World.ownsRow.alloc O2.out _) _); (case hx => rfl); (case hn => exact marks_new (w2.alloc (.cells #[] 5)) (w2.heap.size + 1) L d _ (by simp)); (case hm => simp [marks]); (case hb => simp [marks]; omega); (case hba => simp; omega); intro g3 cap3 w3 o3 gr3 at3; have N3 := Seg.hid (At.copied HF.out hlt HL.out HD.out HZ.out b3 HB.out HO.out O2.out A2.out G2.out o3 gr3 at3); clear o3 gr3 at3)
        go_roundw
        case rel =>
          refine ⟨at_ + L, at_ + L, out ++ plain ((l.drop p).take (at_ - p)) ++ marks L d, by go_num, ?_⟩
          have h := N3.out
          simp only [List.length_append] at h
          exact h
        case measure => simp [intOf]; omega
    · have HE := Seg.hid (HF.out.ends hlt)
      have hpa := HF.out.pa
      have hal := HF.out.al
      have hol := HF.out.ol
      have hs0 := HB.out.size
      have hcc : at_ - p ≤ capp := by have := Seg.owns_cap HP.out; have h2 := plain_len HF.out; omega
      have hdr : (l.drop p).take (at_ - p) = l.drop p := List.take_of_length_le (by simp; omega)
      have HDR := Seg.hid hdr
      clear hdr
      go_wp2_with fail
      refine (put_spec go_ cap w.heap.size gp 0 (at_ - p) capp ((l.drop p).take (at_ - p)) out wr (plain_len HF.out) (by omega) (by omega) hcc HO.out hs0 hne (Out.lt HP.out).2 (fun j hj => Out.cell HP.out j (by rw [plain_len HF.out]; exact hj))).mono ?_
      rintro e w2 ⟨g2, cap2, rfl, o2, a2, gr2⟩
      rw [HDR.out, ← HE.out] at o2
      rw [HDR.out, ← HE.out]
      have O2 := Seg.hid o2
      have B2 := Seg.hid (HB.out.grown gr2 HB.out.size (fun k hk => by have := (Out.lt HO.out).1; simp at hk; omega))
      clear o2 a2 gr2
      go_wp2
      go_ret
      exact ⟨g2, cap2, rfl, O2.out, B2.out⟩

set_option maxHeartbeats 400000 in
theorem spec_out (A : Option Addr) (n c : Nat) (w : World) (hn : 60000 < n) :
    Calls Try.prog 4 #[.slice A n c] w fun e w' => ∃ g' cap', e = .returned (.slice (some ⟨g', 0, none⟩) 0 cap') ∧ Out w' w.heap.size g' cap' [] ∧ Below w.heap.size w w' := by
  go_enter Try.func4, Try.ntmps4
  go_wp2
  go_ret
  exact ⟨w.heap.size, 0, rfl, none_new w _ (Nat.le_refl _), (Below.refl _ _).alloc (Nat.le_refl _) _⟩
end Go.Proofs.Ytadfaeihpfjfcaa.SqS
