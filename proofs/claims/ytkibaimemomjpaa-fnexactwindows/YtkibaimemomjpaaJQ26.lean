/- A list that grows, its last element's own block told. -/
import Derived.Test.YtkibaimemomjpaaJQ24
import Derived.Test.YtkibaimemomjpaaJQ23
import Derived.Test.YtkibaimemomjpaaJQ19
namespace Go.Proofs.Ytkibaimemomjpaa.Ow
set_option maxRecDepth 8000
open Go.RowKit
open Recs
open Ls
set_option linter.unusedVariables false
section
variable {T : Type} [Inhabited T] {ty nf : Nat} {EO : Elt T}
theorem LGr.pushE (hE : KeepsO nf EO) {wr w2 w3 : World} {base g cap : Nat} {v : Value} {us : List T} {F : Nat → Value} {P : Nat → Nat → Prop} {Q : Nat → Prop} {t : T} {news : List Value} (h : LGr ty nf EO wr base v us F P) (hbase : base ≤ wr.heap.size) (hs : wr.heap.size ≤ w2.heap.size) (hk : ∀ x, base ≤ x → x < wr.heap.size → w2.heap[x]? = wr.heap[x]?)
    (he : EO w2 Q (fun q => news.getD q default) t) (hQ : ∀ x, Q x → wr.heap.size ≤ x ∧ x < w2.heap.size) (hl : news.length = nf) (hown : w3.ownsRow base ty nf (.slice (some ⟨g, 0, none⟩) (us.length + 1) cap) (us.length + 1) ((List.range (us.length * nf)).map F ++ news)) (gr : w2.grownBy w3 v.ownBlock) (hg : v.ownBlock = some g ∨ g = w2.heap.size) :
    LGr ty nf EO w3 base (.slice (some ⟨g, 0, none⟩) (us.length + 1) cap) (us ++ [t]) (fun q => if q < us.length * nf then F q else news.getD (q - us.length * nf) default) (fun i => if i = us.length then Q else P i) := by
  have h2 := h.keep hE hs hk
  have hvb : ∀ x, v.ownBlock = some x → base ≤ x ∧ x < wr.heap.size := fun x hx => World.ownsRow.lt h.own x hx
  have gs := gr.size
  refine ⟨?_, fun i hi => ?_, fun i hi x hx => ?_, fun i j hi hj hij x hx hx' => ?_⟩
  · rw [List.length_append, List.length_singleton, ← map_push F us.length nf news hl]
    exact hown
  · by_cases e : i = us.length
    · subst e
      rw [if_pos rfl, getD_app_last]
      refine hE _ _ _ _ _ _ he gs (fun x hx => gr.block x (hQ x hx).2 (fun e => ?_)) (fun q hq => ?_)
      · have a1 := hvb x e.symm
        have a2 := hQ x hx
        omega
      · rw [if_neg (by omega), Nat.add_sub_cancel_left]
    · have hi' : i < us.length := by rw [List.length_append, List.length_singleton] at hi; omega
      rw [if_neg e, getD_app_left hi']
      refine hE _ _ _ _ _ _ (h2.el i hi') gs (fun x hx => gr.block x (h2.apart i hi' x hx).2.1 (fun e => (h2.apart i hi' x hx).2.2 e.symm)) (fun q hq => ?_)
      have : (i + 1) * nf ≤ us.length * nf := Nat.mul_le_mul_right nf (by omega)
      rw [Nat.succ_mul] at this
      rw [if_pos (by omega)]
  · by_cases e : i = us.length
    · subst e
      rw [if_pos rfl] at hx
      have a1 := hQ x hx
      refine ⟨by omega, by omega, fun e => ?_⟩
      simp only [Value.ownBlock, Option.some.injEq] at e
      rcases hg with hg | hg
      · have := hvb g hg; omega
      · omega
    · have hi' : i < us.length := by rw [List.length_append, List.length_singleton] at hi; omega
      rw [if_neg e] at hx
      have a1 := h2.apart i hi' x hx
      refine ⟨a1.1, by omega, fun e => ?_⟩
      simp only [Value.ownBlock, Option.some.injEq] at e
      rcases hg with hg | hg
      · exact a1.2.2 (by rw [hg, e])
      · omega
  · rw [List.length_append, List.length_singleton] at hi hj
    by_cases e : i = us.length
    · subst e
      rw [if_pos rfl] at hx
      rw [if_neg (Ne.symm hij)] at hx'
      have a1 := hQ x hx
      have a2 := h.apart j (by omega) x hx'
      omega
    · rw [if_neg e] at hx
      by_cases e2 : j = us.length
      · subst e2
        rw [if_pos rfl] at hx'
        have a1 := hQ x hx'
        have a2 := h.apart i (by omega) x hx
        omega
      · rw [if_neg e2] at hx'
        exact h.disj i j (by omega) (by omega) hij x hx hx'
end
/-- The last of the lists is two numbers in a block of its own. -/
def Lst (w : World) (us : List (List Int)) (F : Nat → Value) (P : Nat → Nat → Prop) (gl : Nat) (a b : Int) : Prop := P (us.length - 1) gl ∧ F (us.length - 1) = .slice (some ⟨gl, 0, none⟩) 2 2 ∧ w.heap[gl]? = some (.cells #[.int .i64 a, .int .i64 b] 3 (0, 0)) ∧ us.getD (us.length - 1) default = [a, b]
theorem two_own {w : World} {gl : Nat} {a b : Int} {S : Nat → Prop} (h : w.heap[gl]? = some (.cells #[.int .i64 a, .int .i64 b] 3 (0, 0))) (hS : S gl) : IntsOwn w S (.slice (some ⟨gl, 0, none⟩) 2 2) [a, b] := by
  have hr : w.ownsRow 0 3 1 (.slice (some ⟨gl, 0, none⟩) 2 2) 2 ([a, b].map (Value.int .i64)) := ⟨rfl, .inr ⟨gl, 2, _, rfl, Nat.zero_le _, h, by simp, by unfold maxLen; omega, by simp, by simp⟩⟩
  exact LOwn.mono (ints_own hr (by simp)) (fun y hy => by simp only [Value.ownBlock, Option.some.injEq] at hy; rw [← hy]; exact hS)
theorem set_last {wr : World} {base gl : Nat} {a b e : Int} {v : Value} {us : List (List Int)} {F : Nat → Value} {P : Nat → Nat → Prop} (h : LGr 27 1 EOI2 wr base v us F P) (h0 : 0 < us.length) (hl : Lst wr us F P gl a b) :
    LGr 27 1 EOI2 (wr.setCell ⟨gl, 1, none⟩ (.int .i64 e)) base v (us.set (us.length - 1) [a, e]) F P ∧ Lst (wr.setCell ⟨gl, 1, none⟩ (.int .i64 e)) (us.set (us.length - 1) [a, e]) F P gl a e ∧ base ≤ gl := by
  obtain ⟨p1, p2, p3, p4⟩ := hl
  have n1 : us.length - 1 < us.length := by omega
  have ap := h.apart _ n1 gl p1
  have hsm : (wr.setCell ⟨gl, 1, none⟩ (.int .i64 e)).heap[gl]? = some (.cells #[.int .i64 a, .int .i64 e] 3 (0, 0)) := heap_setCell_same wr gl 1 _ _ (.int .i64 e) p3
  have hot : ∀ x, x ≠ gl → (wr.setCell ⟨gl, 1, none⟩ (.int .i64 e)).heap[x]? = wr.heap[x]? := fun x hx => heap_setCell_other wr _ x _ hx
  have hsz : (wr.setCell ⟨gl, 1, none⟩ (.int .i64 e)).heap.size = wr.heap.size := World.size_setCell _ _ _
  generalize wr.setCell ⟨gl, 1, none⟩ (.int .i64 e) = w' at *
  have len : (us.set (us.length - 1) [a, e]).length = us.length := List.length_set
  refine ⟨⟨?_, fun i hi => ?_, fun i hi x hx => ?_, fun i j hi hj => ?_⟩, ?_, ap.1⟩
  · rw [len]
    exact owns_keep h.own (fun x hx => hot x (fun e1 => ap.2.2 (by rw [hx, e1])))
  · rw [len] at hi
    by_cases ei : i = us.length - 1
    · subst ei
      have e1 : (us.set (us.length - 1) [a, e]).getD (us.length - 1) default = [a, e] := by simp [List.getD_eq_getElem?_getD, n1]
      rw [e1]
      show IntsOwn w' (P (us.length - 1)) (F ((us.length - 1) * 1 + 0)) [a, e]
      rw [Nat.mul_one, Nat.add_zero, p2]
      exact two_own hsm p1
    · have e1 : (us.set (us.length - 1) [a, e]).getD i default = us.getD i default := by
        rw [List.getD_eq_getElem?_getD, List.getD_eq_getElem?_getD, List.getElem?_set_ne (Ne.symm ei)]
      rw [e1]
      exact keepsOI2 _ _ _ _ _ _ (h.el i hi) (by omega) (fun x hx => hot x (fun e2 => h.disj i (us.length - 1) hi n1 ei x hx (by rw [e2]; exact p1))) (fun _ _ => rfl)
  · rw [len] at hi
    have := h.apart i hi x hx
    rw [hsz]
    exact this
  · rw [len] at hi hj
    exact h.disj i j hi hj
  · refine ⟨by rw [len]; exact p1, by rw [len]; exact p2, hsm, ?_⟩
    rw [len]
    simp [List.getD_eq_getElem?_getD, n1]
end Go.Proofs.Ytkibaimemomjpaa.Ow
