/- A list that grows, with the sets of its blocks told. -/
import Derived.Test.YticihnoekffelaaJC25
namespace Go.Proofs.Yticihnoekffelaa.Ft
set_option maxRecDepth 8000
open Go.RowKit
open Recs
set_option linter.unusedVariables false
section
variable {T : Type} [Inhabited T] {ty nf : Nat} {EO : World → (Nat → Prop) → (Nat → Value) → T → Prop}
theorem LGr.push_own (hE : Keeps nf EO) {wr w2 w3 : World} {base g cap : Nat} {v : Value} {us : List T} {F : Nat → Value} {P : Nat → Nat → Prop} {Q : Nat → Prop} {t : T} {news : List Value} (h : LGr ty nf EO wr base v us F P) (hbase : base ≤ wr.heap.size) (hs : wr.heap.size ≤ w2.heap.size) (hk : ∀ x, base ≤ x → x < wr.heap.size → w2.heap[x]? = wr.heap[x]?)
    (he : EO w2 Q (fun q => news.getD q default) t) (hQ : ∀ x, Q x → wr.heap.size ≤ x ∧ x < w2.heap.size) (hl : news.length = nf) (hown : w3.ownsRow base ty nf (.slice (some ⟨g, 0, none⟩) (us.length + 1) cap) (us.length + 1) ((List.range (us.length * nf)).map F ++ news)) (gr : w2.grownBy w3 v.ownBlock) (hg : v.ownBlock = some g ∨ g = w2.heap.size) (hn : us.length + 1 ≤ 1048576) :
    LOwn ty nf EO w3 (fun x => (∃ i, i < us.length ∧ P i x) ∨ v.ownBlock = some x ∨ Q x ∨ x = w2.heap.size) (.slice (some ⟨g, 0, none⟩) (us.length + 1) cap) (us ++ [t]) := by
  have h2 := h.keep hE hs hk
  have hvb : ∀ x, v.ownBlock = some x → base ≤ x ∧ x < wr.heap.size := fun x hx => World.ownsRow.lt h.own x hx
  have gs := gr.size
  have hlt : g < w3.heap.size := (World.ownsRow.lt hown g rfl).2
  have hlen : (us ++ [t]).length = us.length + 1 := by simp
  refine ⟨by rw [hlen]; exact hn, some ⟨g, 0, none⟩, cap, by rw [hlen], .inr ⟨g, fun q => if q < us.length * nf then F q else news.getD (q - us.length * nf) default, fun i => if i = us.length then Q else P i, rfl, ?_, fun i hi x hx => ?_, ?_, rfl, fun i hi => ?_, fun i hi x hx => ?_, fun i j hi hj hij x hx hx' => ?_⟩⟩
  · rcases hg with hg | hg
    · exact .inr (.inl hg)
    · exact .inr (.inr (.inr hg))
  · rw [hlen] at hi
    by_cases e : i = us.length
    · rw [if_pos e] at hx
      exact .inr (.inr (.inl hx))
    · rw [if_neg e] at hx
      exact .inl ⟨i, by omega, hx⟩
  · rw [hlen]
    show w3.ownsRow g ty nf _ _ _
    rw [← map_push F us.length nf news hl]
    refine ⟨hown.1, ?_⟩
    rcases hown.2 with ⟨h1, h3⟩ | ⟨g', cap', cur, h1, h3, h4, h5⟩
    · omega
    · have h1' := h1
      simp only [Value.slice.injEq, Option.some.injEq, Addr.mk.injEq, and_true, true_and] at h1'
      obtain ⟨rfl, rfl⟩ := h1'
      exact .inr ⟨g, cap, cur, rfl, Nat.le_refl _, h4, h5⟩
  · by_cases e : i = us.length
    · subst e
      rw [if_pos rfl, getD_app_last]
      refine hE _ _ _ _ _ _ he gs (fun x hx => gr.block x (hQ x hx).2 (fun e => ?_)) (fun q hq => ?_)
      · have a1 := hvb x e.symm
        have a2 := hQ x hx
        omega
      · rw [if_neg (by omega), Nat.add_sub_cancel_left]
    · have hi' : i < us.length := by rw [hlen] at hi; omega
      rw [if_neg e, getD_app_left hi']
      refine hE _ _ _ _ _ _ (h2.el i hi') gs (fun x hx => gr.block x (h2.apart i hi' x hx).2.1 (fun e => (h2.apart i hi' x hx).2.2 e.symm)) (fun q hq => ?_)
      have : (i + 1) * nf ≤ us.length * nf := Nat.mul_le_mul_right nf (by omega)
      rw [Nat.succ_mul] at this
      rw [if_pos (by omega)]
  · by_cases e : i = us.length
    · subst e
      rw [if_pos rfl] at hx
      have a1 := hQ x hx
      refine ⟨fun e => ?_, by omega⟩
      rcases hg with hg | hg
      · have := hvb g hg; omega
      · omega
    · have hi' : i < us.length := by rw [hlen] at hi; omega
      rw [if_neg e] at hx
      have a1 := h2.apart i hi' x hx
      refine ⟨fun e => ?_, by omega⟩
      rcases hg with hg | hg
      · exact a1.2.2 (by rw [hg, e])
      · omega
  · rw [hlen] at hi hj
    by_cases e : i = us.length
    · subst e
      rw [if_pos rfl] at hx
      rw [if_neg (Ne.symm hij)] at hx'
      have a1 := hQ x hx
      have a2 := h.apart j (by omega) x hx'
      omega
    · rw [if_neg e] at hx
      by_cases e2 : j = us.length
      · subst e2
        rw [if_pos rfl] at hx'
        have a1 := hQ x hx'
        have a2 := h.apart i (by omega) x hx
        omega
      · rw [if_neg e2] at hx'
        exact h.disj i j (by omega) (by omega) hij x hx hx'
end
end Go.Proofs.Yticihnoekffelaa.Ft
