/- Plain bytes in pieces, behind what is out: both functions that put them; The squeezed bytes, as plain lists: how far the squeezing is. -/
import Derived.Deep.AppendLies
import Derived.Deep.LoopGhost
import Derived.Maps.AppendAt
import Derived.Outline
import Derived.Test.YtojalklkpnaofaaRows
import Derived.Test.YtojalklkpnaofaaJF01
import Derived.Test.YtojalklkpnaofaaJF23
namespace Go.Proofs.Ytojalklkpnaofaa.SqP
set_option maxRecDepth 8000
open Go.RowKit
open Seg (B)
set_option linter.unusedVariables false
theorem infoB : (Try.prog.info? 5).map (fun i => (i.zero, i.size, i.bytes)) = some (some (.int .u8 0), 1, 1) := by kernel_rfl

/-- Plain bytes in pieces, f of them at most. -/
def plainF : Nat → List Int → List Int
  | 0, _ => []
  | f + 1, l => if l.length = 0 then [] else ((min l.length 128 - 1 : Nat) : Int) :: (l.take (min l.length 128) ++ plainF f (l.drop (min l.length 128)))
theorem plainF_same : ∀ (f g : Nat) (l : List Int), l.length ≤ f → l.length ≤ g → plainF f l = plainF g l
  | 0, 0, l, _, _ => rfl
  | 0, g + 1, l, h, _ => by rw [plainF, plainF, if_pos (by omega)]
  | f + 1, 0, l, _, h => by rw [plainF, plainF, if_pos (by omega)]
  | f + 1, g + 1, l, h1, h2 => by
    rw [plainF, plainF]
    by_cases h : l.length = 0
    · rw [if_pos h, if_pos h]
    · rw [if_neg h, if_neg h, plainF_same f g _ (by simp; omega) (by simp; omega)]
def plain (l : List Int) : List Int := plainF l.length l
theorem plain_nil {l : List Int} (h : l.length = 0) : plain l = [] := by rw [plain, h]; rfl
theorem plain_cons {l : List Int} (n : Nat) (hn : n = min l.length 128) (h : ¬ l.length = 0) : plain l = ((n - 1 : Nat) : Int) :: (l.take n ++ plain (l.drop n)) := by
  obtain ⟨f, hf⟩ : ∃ f, l.length = f + 1 := ⟨l.length - 1, by omega⟩
  rw [plain, hf, plainF, if_neg h, plain, ← hn, plainF_same f (l.drop n).length (l.drop n) (by simp; omega) (Nat.le_refl _)]
theorem plainF_len : ∀ (f : Nat) (l : List Int), (plainF f l).length ≤ 2 * l.length
  | 0, l => by simp [plainF]
  | f + 1, l => by
    rw [plainF]
    split
    · simp
    · have := plainF_len f (l.drop (min l.length 128))
      simp only [List.length_cons, List.length_append, List.length_take, List.length_drop] at this ⊢
      omega
theorem plain_len (l : List Int) : (plain l).length ≤ 2 * l.length := plainF_len _ _

/-- A row of bytes of the call's own, over the whole of it. -/
def Out (w : World) (base g cap : Nat) (l : List Int) : Prop := w.ownsRow base 5 1 (.slice (some ⟨g, 0, none⟩) l.length cap) l.length (B l)

/-- append of bytes that lie somewhere to a row of one's own. -/
theorem app {w : World} {ops : Array Oper} {rest : List Oper} {o : Oper} {a : Act} {Q : Exit → Act → World → Prop} (hgd : o.guard = none) (s x : Operand) (ho : o.op = .call { callee := .builtin .append, args := #[s, x], argTypes := #[68, 68] })
    (base g cap : Nat) (l news : List Int) (hs : a.eval s = .slice (some ⟨g, 0, none⟩) l.length cap) (hown : Out w base g cap l) (ad : Addr) (c : Nat) (hx : a.eval x = .slice (some ad) news.length c)
    (hnews : ∀ j, j < news.length → w.cell? (ad.add j) = some (.int .u8 (news.getD j 0))) (hm : 0 < news.length) (hb : l.length + news.length ≤ 10000000) (hbase : base ≤ w.heap.size)
    (h : ∀ g' cap' w', Out w' base g' cap' (l ++ news) → w.grownBy w' (some g) → (g' = g ∨ g' = w.heap.size) → wpList Try.prog ops Q rest (a.put o.dst (.slice (some ⟨g', 0, none⟩) (l.length + news.length) cap')) w') : wpList Try.prog ops Q (o :: rest) a w := by
  obtain ⟨i0, hi, hz0, hz1, hz2⟩ := info_parts infoB
  refine wpList_append_lies w hgd s x 68 ho base 5 i0 (.int .u8 0) 1 1 Try.underlying68 hi hz0 hz1 hz2 rfl (by decide) _ _ _ hs hown ad news.length c (B news) hx (by simp [B]) (fun j u hj => ?_) (by simp [B, Value.oneCell']) hm (by unfold maxLen; omega) (by omega) hbase w.heap.size rfl ?_
  · have hjl : j < news.length := by have := (List.getElem?_eq_some_iff.1 hj).1; simpa [B] using this
    rw [hnews j hjl]
    simpa [B, hjl] using hj
  · intro g' cap' w' h1 h2 h3 h4
    refine h g' cap' w' ?_ h2 (h3.imp (fun e => by simpa [Value.ownBlock] using e.symm) id)
    unfold Out
    rw [List.length_append, show B (l ++ news) = B l ++ B news by simp [B]]
    exact h1
end Go.Proofs.Ytojalklkpnaofaa.SqP
namespace Go.Proofs.Ytojalklkpnaofaa.SqF
set_option maxRecDepth 8000
open SqM (cp cp_le)
open SqP (plain plain_len)
set_option linter.unusedVariables false
def mark3 (L d : Nat) : List Int := [124 + (L : Int), (((d - 1) / 256 : Nat) : Int), (((d - 1) % 256 : Nat) : Int)]
/-- f steps at most. -/
def sqF (l : List Int) : Nat → Nat → Nat → List Int → List Int
  | 0, at_, p, out => out ++ plain (l.drop p)
  | f + 1, at_, p, out => if at_ < l.length then
      (if (cp l at_).1 = 0 then sqF l f (at_ + 1) p out
       else sqF l f (at_ + (cp l at_).1) (at_ + (cp l at_).1) (out ++ plain ((l.drop p).take (at_ - p)) ++ mark3 (cp l at_).1 (cp l at_).2))
    else out ++ plain (l.drop p)
theorem sqF_same (l : List Int) : ∀ (f g at_ p : Nat) (out : List Int), l.length - at_ ≤ f → l.length - at_ ≤ g → sqF l f at_ p out = sqF l g at_ p out
  | 0, 0, _, _, _, _, _ => rfl
  | 0, g + 1, at_, p, out, h, _ => by rw [sqF, sqF, if_neg (by omega)]
  | f + 1, 0, at_, p, out, _, h => by rw [sqF, sqF, if_neg (by omega)]
  | f + 1, g + 1, at_, p, out, h1, h2 => by
    rw [sqF, sqF]
    by_cases h : at_ < l.length
    · rw [if_pos h, if_pos h]
      by_cases hz : (cp l at_).1 = 0
      · rw [if_pos hz, if_pos hz]
        exact sqF_same l f g _ _ _ (by omega) (by omega)
      · rw [if_neg hz, if_neg hz]
        exact sqF_same l f g _ _ _ (by omega) (by omega)
    · rw [if_neg h, if_neg h]
def sq (l : List Int) (at_ p : Nat) (out : List Int) : List Int := sqF l (l.length - at_) at_ p out
theorem sq_end {l : List Int} {at_ p : Nat} {out : List Int} (h : ¬ at_ < l.length) : sq l at_ p out = out ++ plain (l.drop p) := by
  rw [sq, show l.length - at_ = 0 by omega]; rfl
theorem sq_plain {l : List Int} {at_ p : Nat} {out : List Int} (h : at_ < l.length) (hz : (cp l at_).1 = 0) : sq l at_ p out = sq l (at_ + 1) p out := by
  obtain ⟨f, hf⟩ : ∃ f, l.length - at_ = f + 1 := ⟨l.length - at_ - 1, by omega⟩
  rw [sq, hf, sqF, if_pos h, if_pos hz]
  exact sqF_same l _ _ _ _ _ (by omega) (by omega)
theorem sq_copy {l : List Int} {at_ p : Nat} {out : List Int} (h : at_ < l.length) (hz : ¬ (cp l at_).1 = 0) :
    sq l at_ p out = sq l (at_ + (cp l at_).1) (at_ + (cp l at_).1) (out ++ plain ((l.drop p).take (at_ - p)) ++ mark3 (cp l at_).1 (cp l at_).2) := by
  obtain ⟨f, hf⟩ : ∃ f, l.length - at_ = f + 1 := ⟨l.length - at_ - 1, by omega⟩
  rw [sq, hf, sqF, if_pos h, if_neg hz]
  exact sqF_same l _ _ _ _ _ (by omega) (by omega)
/-- How far the squeezing is: the bytes up to p are out, those from p to the place are plain. -/
structure Sq (l : List Int) (at_ p : Nat) (out : List Int) : Prop where
  pa : p ≤ at_
  al : at_ ≤ l.length
  ol : out.length ≤ 2 * p
  eq : sq l 0 0 [] = sq l at_ p out
theorem Sq.start (l : List Int) : Sq l 0 0 [] := ⟨Nat.le_refl _, Nat.zero_le _, by simp, rfl⟩
theorem Sq.plain {l : List Int} {at_ p : Nat} {out : List Int} (h : Sq l at_ p out) (hlt : at_ < l.length) (hz : (cp l at_).1 = 0) : Sq l (at_ + 1) p out :=
  ⟨by have := h.pa; omega, by omega, h.ol, h.eq.trans (sq_plain hlt hz)⟩
theorem Sq.copy {l : List Int} {at_ p : Nat} {out : List Int} (h : Sq l at_ p out) (hlt : at_ < l.length) (hz : ¬ (cp l at_).1 = 0) :
    Sq l (at_ + (cp l at_).1) (at_ + (cp l at_).1) (out ++ SqP.plain ((l.drop p).take (at_ - p)) ++ mark3 (cp l at_).1 (cp l at_).2) := by
  have hc := cp_le l at_
  have hp := h.pa
  refine ⟨Nat.le_refl _, by omega, ?_, h.eq.trans (sq_copy hlt hz)⟩
  have h1 := h.ol
  have h2 := plain_len ((l.drop p).take (at_ - p))
  simp only [List.length_append, List.length_take, List.length_drop, mark3, List.length_cons, List.length_nil] at h2 ⊢
  omega
theorem Sq.ends {l : List Int} {at_ p : Nat} {out : List Int} (h : Sq l at_ p out) (hlt : ¬ at_ < l.length) : sq l 0 0 [] = out ++ SqP.plain (l.drop p) := h.eq.trans (sq_end hlt)
/-- The squeezed bytes. -/
def squeeze (l : List Int) : List Int := if 60000 < l.length then [] else sq l 0 0 []
end Go.Proofs.Ytojalklkpnaofaa.SqF
