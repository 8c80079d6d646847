/- Plain bytes in pieces, behind what is out: both functions that put them. -/
import Derived.Test.YtbilpicolfpoaaaSeg
import Derived.Test.YtbilpicolfpoaaaRows
import Derived.Deep.AppendLies
import Derived.Deep.LoopGhost
import Derived.Maps.AppendAt
import Derived.Outline
namespace Go.Proofs.Ytbilpicolfpoaaa.SqP
open Go.RowKit
open Seg (B)
set_option linter.unusedVariables false
theorem infoB : (Try.prog.info? 5).map (fun i => (i.zero, i.size, i.bytes)) = some (some (.int .u8 0), 1, 1) := by kernel_rfl

/-- Plain bytes in pieces, f of them at most. -/
def plainF : Nat → List Int → List Int
  | 0, _ => []
  | f + 1, l => if l.length = 0 then [] else ((min l.length 128 - 1 : Nat) : Int) :: (l.take (min l.length 128) ++ plainF f (l.drop (min l.length 128)))
theorem plainF_same : ∀ (f g : Nat) (l : List Int), l.length ≤ f → l.length ≤ g → plainF f l = plainF g l
  | 0, 0, l, _, _ => rfl
  | 0, g + 1, l, h, _ => by rw [plainF, plainF, if_pos (by omega)]
  | f + 1, 0, l, _, h => by rw [plainF, plainF, if_pos (by omega)]
  | f + 1, g + 1, l, h1, h2 => by
    rw [plainF, plainF]
    by_cases h : l.length = 0
    · rw [if_pos h, if_pos h]
    · rw [if_neg h, if_neg h, plainF_same f g _ (by simp; omega) (by simp; omega)]
def plain (l : List Int) : List Int := plainF l.length l
theorem plain_nil {l : List Int} (h : l.length = 0) : plain l = [] := by rw [plain, h]; rfl
theorem plain_cons {l : List Int} (n : Nat) (hn : n = min l.length 128) (h : ¬ l.length = 0) : plain l = ((n - 1 : Nat) : Int) :: (l.take n ++ plain (l.drop n)) := by
  obtain ⟨f, hf⟩ : ∃ f, l.length = f + 1 := ⟨l.length - 1, by omega⟩
  rw [plain, hf, plainF, if_neg h, plain, ← hn, plainF_same f (l.drop n).length (l.drop n) (by simp; omega) (Nat.le_refl _)]
theorem plainF_len : ∀ (f : Nat) (l : List Int), (plainF f l).length ≤ 2 * l.length
  | 0, l => by simp [plainF]
  | f + 1, l => by
    rw [plainF]
    split
    · simp
    · have := plainF_len f (l.drop (min l.length 128))
      simp only [List.length_cons, List.length_append, List.length_take, List.length_drop] at this ⊢
      omega
theorem plain_len (l : List Int) : (plain l).length ≤ 2 * l.length := plainF_len _ _

/-- A row of bytes of the call's own, over the whole of it. -/
def Out (w : World) (base g cap : Nat) (l : List Int) : Prop := w.ownsRow base 5 1 (.slice (some ⟨g, 0, none⟩) l.length cap) l.length (B l)

/-- append of bytes that lie somewhere to a row of one's own. -/
theorem app {w : World} {ops : Array Oper} {rest : List Oper} {o : Oper} {a : Act} {Q : Exit → Act → World → Prop} (hgd : o.guard = none) (s x : Operand) (ho : o.op = .call { callee := .builtin .append, args := #[s, x], argTypes := #[22, 22] })
    (base g cap : Nat) (l news : List Int) (hs : a.eval s = .slice (some ⟨g, 0, none⟩) l.length cap) (hown : Out w base g cap l) (ad : Addr) (c : Nat) (hx : a.eval x = .slice (some ad) news.length c)
    (hnews : ∀ j, j < news.length → w.cell? (ad.add j) = some (.int .u8 (news.getD j 0))) (hm : 0 < news.length) (hb : l.length + news.length ≤ 10000000) (hbase : base ≤ w.heap.size)
    (h : ∀ g' cap' w', Out w' base g' cap' (l ++ news) → w.grownBy w' (some g) → (g' = g ∨ g' = w.heap.size) → wpList Try.prog ops Q rest (a.put o.dst (.slice (some ⟨g', 0, none⟩) (l.length + news.length) cap')) w') : wpList Try.prog ops Q (o :: rest) a w := by
  obtain ⟨i0, hi, hz0, hz1, hz2⟩ := info_parts infoB
  refine wpList_append_lies w hgd s x 22 ho base 5 i0 (.int .u8 0) 1 1 Try.underlying22 hi hz0 hz1 hz2 rfl (by decide) _ _ _ hs hown ad news.length c (B news) hx (by simp [B]) (fun j u hj => ?_) (by simp [B, Value.oneCell']) hm (by unfold maxLen; omega) (by omega) hbase w.heap.size rfl ?_
  · have hjl : j < news.length := by have := (List.getElem?_eq_some_iff.1 hj).1; simpa [B] using this
    rw [hnews j hjl]
    simpa [B, hjl] using hj
  · intro g' cap' w' h1 h2 h3 h4
    refine h g' cap' w' ?_ h2 (h3.imp (fun e => by simpa [Value.ownBlock] using e.symm) id)
    unfold Out
    rw [List.length_append, show B (l ++ news) = B l ++ B news by simp [B]]
    exact h1
end Go.Proofs.Ytbilpicolfpoaaa.SqP
