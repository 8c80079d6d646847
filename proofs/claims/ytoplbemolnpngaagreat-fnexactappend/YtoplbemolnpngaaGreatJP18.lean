/- A batch as bytes; What both Squeezes want of memory; The copy at a place, found among the places where its first four bytes stand. -/
import Derived.Laws.Rows
import Derived.Test.YtoplbemolnpngaaGreatJP13
import Derived.Test.YtoplbemolnpngaaGreatJP10
import Derived.Test.YtoplbemolnpngaaGreatJP14
import Derived.Test.YtoplbemolnpngaaGreatJP12
namespace Go.Proofs.YtoplbemolnpngaaGreat.WrP
set_option maxRecDepth 8000
open Recs
set_option linter.unusedVariables false
def wr (t : Bat) (ver : Int) : List Int := if (BOk.batOk t && holds t ver) = true then pre t ver ++ four (Crc.check (pre t ver)) else []
end Go.Proofs.YtoplbemolnpngaaGreat.WrP
namespace Go.Proofs.YtoplbemolnpngaaGreat.SqS
set_option maxRecDepth 8000
open Go.RowKit
open SqP (Out plain app)
open SqM (cp)
open SqF (Sq sq mark3)
set_option linter.unusedVariables false
/-- How far the loop is, in memory. -/
structure At (w wr : World) (l : List Int) (at_ p : Nat) (out : List Int) (vo vp : Value) : Prop where
  far : Sq l at_ p out
  mem : ∃ g cap gp capp, vo = .slice (some ⟨g, 0, none⟩) out.length cap ∧ vp = .slice (some ⟨gp, 0, none⟩) (at_ - p) capp ∧ Out wr w.heap.size g cap out ∧ Out wr w.heap.size gp capp ((l.drop p).take (at_ - p)) ∧ gp ≠ g
  bel : Below w.heap.size w wr
theorem plain_len {l : List Int} {at_ p : Nat} {out : List Int} (h : Sq l at_ p out) : ((l.drop p).take (at_ - p)).length = at_ - p := by
  have := h.pa; have := h.al
  simp; omega
theorem Out.lt {w : World} {base g cap : Nat} {l : List Int} (h : Out w base g cap l) : base ≤ g ∧ g < w.heap.size := by
  have := Seg.owns_cap h
  exact ⟨this.2.2.1, this.2.2.2⟩
theorem Out.keep {w w' : World} {base g g1 cap : Nat} {l : List Int} (h : Out w base g cap l) (hg : w.grownBy w' (some g1)) (hne : g ≠ g1) : Out w' base g cap l := World.ownsRow.kept h hg (.inr (by simpa [Value.ownBlock] using hne))
theorem Out.cell {w : World} {base g cap : Nat} {l : List Int} (h : Out w base g cap l) (j : Nat) (hj : j < l.length) : w.cell? ⟨g, 0 + j, none⟩ = some (.int .u8 (l.getD j 0)) := by rw [Nat.zero_add]; exact Seg.owns_cell h j hj
theorem take_next {l : List Int} {at_ p : Nat} {out : List Int} (h : Sq l at_ p out) (hlt : at_ < l.length) : (l.drop p).take (at_ - p) ++ [l.getD at_ 0] = (l.drop p).take (at_ + 1 - p) := by
  have hp := h.pa
  rw [show at_ + 1 - p = (at_ - p) + 1 by omega, List.take_add_one]
  congr 1
  have : p + (at_ - p) = at_ := by omega
  simp [this, hlt]
theorem At.next {w wr w2 : World} {l : List Int} {at_ p q go_ cap gp capp g2 cap2 : Nat} {out : List Int} {x : Int} {ob : Obj} (hf : Sq l at_ p out) (hlt : at_ < l.length) (hz : (cp l at_).1 = 0) (hx : l.getD at_ 0 = x) (hb : Below w.heap.size w wr)
    (ho : Out wr w.heap.size go_ cap out) (hp : Out wr w.heap.size gp capp ((l.drop p).take (at_ - p))) (hne : gp ≠ go_) (o2 : Out w2 w.heap.size g2 cap2 ((l.drop p).take (at_ - p) ++ [x])) (gr2 : ((wr.drewN q).alloc ob).grownBy w2 (some gp)) (at2 : g2 = gp ∨ g2 = ((wr.drewN q).alloc ob).heap.size) :
    At w w2 l (at_ + 1) p out (.slice (some ⟨go_, 0, none⟩) out.length cap) (.slice (some ⟨g2, 0, none⟩) (at_ - p + 1) cap2) := by
  have hpa := hf.pa
  have gr : wr.grownBy w2 (some gp) := (World.grownBy_alloc wr ob (some gp)).trans ⟨gr2.os, gr2.tape, gr2.output, gr2.size, gr2.block⟩
  refine ⟨hf.plain hlt hz, ⟨go_, cap, g2, cap2, rfl, by rw [show at_ - p + 1 = at_ + 1 - p by omega], Out.keep ho gr (by omega), ?_, ?_⟩, ?_⟩
  · rw [← take_next hf hlt, hx]; exact o2
  · have := (Out.lt ho).2
    have hs : ((wr.drewN q).alloc ob).heap.size = wr.heap.size + 1 := by simp
    rcases at2 with h | h <;> omega
  · exact hb.grown gr hb.size (fun k hk => by have := (Out.lt hp).1; simp at hk; omega)
theorem below_drewN {B : Nat} {w w1 : World} (h : Below B w w1) (n : Nat) : Below B w (w1.drewN n) := ⟨h.os, h.tape, h.output, h.size, h.block⟩
def marks (L d : Nat) : List Int := [124 + (L : Int), ((d : Int) - 1) / 256, ((d : Int) - 1) % 256]
theorem marks_eq {L d : Nat} (h : 1 ≤ d) : marks L d = mark3 L d := by
  have h1 : (((d - 1) / 256 : Nat) : Int) = ((d : Int) - 1) / 256 := by omega
  have h2 : (((d - 1) % 256 : Nat) : Int) = ((d : Int) - 1) % 256 := by omega
  simp only [marks, mark3, h1, h2]
theorem three_new (w : World) (a b c : Int) (t : TypeId) : ∀ j, j < [a, b, c].length → (w.alloc (.cells #[.int .u8 a, .int .u8 b, .int .u8 c] t)).cell? ((⟨w.heap.size, 0, none⟩ : Addr).add j) = some (.int .u8 ([a, b, c].getD j 0)) := fun j hj => by
  rw [SqP.add_at, Nat.zero_add, cell_of_row _ w.heap.size j _ t (0, 0) (heap_alloc_new _ _)]
  match j, hj with
  | 0, _ => rfl
  | 1, _ => rfl
  | 2, _ => rfl
theorem marks_new (w : World) (B L d : Nat) (t : TypeId) (hB : B = w.heap.size) : ∀ j, j < (marks L d).length → (w.alloc (.cells #[.int .u8 (124 + (L : Int)), .int .u8 (((d : Int) - 1) / 256), .int .u8 (((d : Int) - 1) % 256)] t)).cell? ((⟨B, 0, none⟩ : Addr).add j) = some (.int .u8 ((marks L d).getD j 0)) := by
  subst hB
  exact three_new w _ _ _ t
theorem none_new (w : World) (base : Nat) (hb : base ≤ w.heap.size) : Out (w.alloc (.cells #[] 5)) base w.heap.size 0 [] := World.ownsRow_lit w #[] 0 hb (Nat.zero_le _) rfl
theorem At.copied {w wr w2 w3 : World} {l : List Int} {at_ p q go_ cap g2 cap2 g3 cap3 L d : Nat} {out : List Int} {ob : Obj} (hf : Sq l at_ p out) (hlt : at_ < l.length) (hL : (cp l at_).1 = L) (hD : (cp l at_).2 = d) (hz : ¬ L = 0) (hd : 1 ≤ d) (hb : Below w.heap.size w wr) (ho : Out wr w.heap.size go_ cap out)
    (o2 : Out w2 w.heap.size g2 cap2 (out ++ plain ((l.drop p).take (at_ - p)))) (a2 : g2 = go_ ∨ wr.heap.size ≤ g2) (gr2 : (wr.drewN q).grownBy w2 (some go_))
    (o3 : Out w3 w.heap.size g3 cap3 (out ++ plain ((l.drop p).take (at_ - p)) ++ marks L d)) (gr3 : ((w2.alloc (.cells #[] 5)).alloc ob).grownBy w3 (some g2)) (at3 : g3 = g2 ∨ g3 = ((w2.alloc (.cells #[] 5)).alloc ob).heap.size) :
    At w w3 l (at_ + L) (at_ + L) (out ++ plain ((l.drop p).take (at_ - p)) ++ marks L d) (.slice (some ⟨g3, 0, none⟩) (out ++ plain ((l.drop p).take (at_ - p)) ++ marks L d).length cap3) (.slice (some ⟨w2.heap.size, 0, none⟩) 0 0) := by
  have s1 := hb.size
  have s2 := gr2.size
  have l2 := Out.lt o2
  have s2' : wr.heap.size ≤ w2.heap.size := s2
  have gA : (w2.alloc (.cells #[] 5)).grownBy w3 (some g2) := (World.grownBy_alloc _ ob _).trans gr3
  have gB : w2.grownBy w3 (some g2) := (World.grownBy_alloc _ _ _).trans gA
  have bel2 : Below w.heap.size w w2 := (below_drewN hb q).grown gr2 s1 (fun k hk => by have := (Out.lt ho).1; simp at hk; omega)
  refine ⟨?_, ⟨g3, cap3, w2.heap.size, 0, rfl, by rw [Nat.sub_self], o3, ?_, ?_⟩, bel2.grown gB bel2.size (fun k hk => by simp at hk; omega)⟩
  · rw [marks_eq hd, ← hL, ← hD]
    exact hf.copy hlt (by rw [hL]; exact hz)
  · rw [Nat.sub_self, List.take_zero]
    exact Out.keep (none_new w2 _ (by omega)) gA (by omega)
  · have hs : ((w2.alloc (.cells #[] 5)).alloc ob).heap.size = w2.heap.size + 2 := by simp
    rcases at3 with h | h <;> omega
end Go.Proofs.YtoplbemolnpngaaGreat.SqS
namespace Go.Proofs.YtoplbemolnpngaaGreat.SqM
set_option maxRecDepth 8000
set_option linter.unusedVariables false
/-- The same four bytes stand at both places. -/
def alike (l : List Int) (i j : Nat) : Bool := decide (l.getD i 0 = l.getD j 0) && decide (l.getD (i + 1) 0 = l.getD (j + 1) 0) && decide (l.getD (i + 2) 0 = l.getD (j + 2) 0) && decide (l.getD (i + 3) 0 = l.getD (j + 3) 0)
theorem alike_iff {l : List Int} {at_ e : Nat} (he : e ≤ at_) (hl : at_ + 4 ≤ l.length) : 4 ≤ rn l at_ e ↔ alike l at_ (at_ - e) = true := by
  have key : ∀ j, at_ + j - e = at_ - e + j := fun j => by omega
  constructor
  · intro h
    simp only [alike, Bool.and_eq_true, decide_eq_true_eq]
    have g : ∀ j, j < 4 → l.getD (at_ + j) 0 = l.getD (at_ - e + j) 0 := fun j hj => by rw [← key j]; exact rn_in (by omega)
    exact ⟨⟨⟨g 0 (by omega), g 1 (by omega)⟩, g 2 (by omega)⟩, g 3 (by omega)⟩
  · intro h
    simp only [alike, Bool.and_eq_true, decide_eq_true_eq] at h
    refine rn_ge (by omega) hl (fun j hj => ?_)
    rw [key j]
    match j, hj with
    | 0, _ => exact h.1.1.1
    | 1, _ => exact h.1.1.2
    | 2, _ => exact h.1.2
    | 3, _ => exact h.2
/-- The best of those distances from 1 to D at which four bytes are alike. -/
structure Best4 (l : List Int) (at_ D L d : Nat) : Prop where
  le : d ≤ D
  no : d = 0 → L = 0
  is : 0 < d → L = rn l at_ d ∧ 4 ≤ L
  far : ∀ e, 0 < e → e ≤ D → 4 ≤ rn l at_ e → rn l at_ e ≤ L
  near : ∀ e, 0 < e → e < d → rn l at_ e < L
theorem Best4.start (l : List Int) (at_ : Nat) : Best4 l at_ 0 0 0 := ⟨Nat.le_refl _, fun _ => rfl, fun h => absurd h (by omega), fun e h h' => by omega, fun e h h' => by omega⟩
/-- No four bytes are alike at the distances between. -/
theorem Best4.skip {l : List Int} {at_ D D' L d : Nat} (h : Best4 l at_ D L d) (hD : D ≤ D') (hn : ∀ e, D < e → e ≤ D' → rn l at_ e < 4) : Best4 l at_ D' L d :=
  ⟨by have := h.le; omega, h.no, h.is, fun e h1 h2 h3 => by
    by_cases he : e ≤ D
    · exact h.far e h1 he h3
    · have := hn e (by omega) h2; omega, h.near⟩
theorem Best4.worse {l : List Int} {at_ D L d : Nat} (h : Best4 l at_ D L d) (hr : rn l at_ (D + 1) ≤ L) : Best4 l at_ (D + 1) L d :=
  ⟨by have := h.le; omega, h.no, h.is, fun e h1 h2 h3 => by
    by_cases he : e = D + 1
    · subst he; exact hr
    · exact h.far e h1 (by omega) h3, h.near⟩
theorem Best4.better {l : List Int} {at_ D L d : Nat} (h : Best4 l at_ D L d) (h4 : 4 ≤ rn l at_ (D + 1)) (hr : L < rn l at_ (D + 1)) : Best4 l at_ (D + 1) (rn l at_ (D + 1)) (D + 1) :=
  ⟨Nat.le_refl _, fun h => by omega, fun _ => ⟨rfl, h4⟩, fun e h1 h2 h3 => by
    by_cases he : e = D + 1
    · subst he; exact Nat.le_refl _
    · have := h.far e h1 (by omega) h3; omega, fun e h1 h2 => by
    by_cases h3 : 4 ≤ rn l at_ e
    · have := h.far e h1 (by omega) h3; omega
    · omega⟩
/-- It is as long as can be: no other is longer. -/
theorem Best4.full {l : List Int} {at_ D D' L d : Nat} (h : Best4 l at_ D L d) (hD : d ≤ D') (hf : ∀ e, rn l at_ e ≤ L) : Best4 l at_ D' L d := ⟨hD, h.no, h.is, fun e _ _ _ => hf e, h.near⟩
theorem Best4.cut {l : List Int} {at_ D D' L d : Nat} (h : Best4 l at_ D L d) (hD : D' ≤ D) (hd : d ≤ D') : Best4 l at_ D' L d := ⟨hd, h.no, h.is, fun e h1 h2 h3 => h.far e h1 (by omega) h3, h.near⟩
theorem cp_of_best4 {l : List Int} {at_ L d : Nat} (h : Best4 l at_ (min 4096 at_) L d) : cp l at_ = (L, d) := by
  have hb := bestF_best l at_ (min 4096 at_)
  by_cases hd : d = 0
  · have hL := h.no hd
    have hlt : (bestF l at_ (min 4096 at_)).1 < 4 := by
      rcases Nat.lt_or_ge (bestF l at_ (min 4096 at_)).1 4 with h1 | h1
      · exact h1
      · have hp : 0 < (bestF l at_ (min 4096 at_)).2 := by
          rcases Nat.eq_zero_or_pos (bestF l at_ (min 4096 at_)).2 with h0 | h0
          · have := hb.no h0; omega
          · exact h0
        have hi := hb.is hp
        have := h.far _ hp hb.le (by omega)
        omega
    rw [cp, if_pos hlt, hL, hd]
  · have hi := h.is (by omega)
    have B : Best l at_ (min 4096 at_) L d := ⟨h.le, h.no, fun _ => ⟨hi.1, by omega⟩, fun e h1 h2 => by
      by_cases h3 : 4 ≤ rn l at_ e
      · exact h.far e h1 h2 h3
      · omega, h.near⟩
    rw [cp_of_best B, if_neg (by omega)]

/-- The places below m where the same four bytes stand. -/
def pos (l : List Int) (m at_ : Nat) : List Nat := (List.range m).filter (fun j => alike l at_ j)
end Go.Proofs.YtoplbemolnpngaaGreat.SqM
