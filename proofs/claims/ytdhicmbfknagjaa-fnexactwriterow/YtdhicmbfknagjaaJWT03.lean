/- The copy at a place and the squeezed bytes, as plain lists; Plain bytes in pieces, behind what is out: both functions that put them. -/
import Derived.Deep.AppendLies
import Derived.Deep.LoopGhost
import Derived.Maps.AppendAt
import Derived.Outline
import Derived.Test.YtdhicmbfknagjaaRows
import Derived.Test.YtdhicmbfknagjaaJWT02
namespace Go.Proofs.Ytdhicmbfknagjaa.SqM
set_option maxRecDepth 8000
set_option linter.unusedVariables false

/-- How many from the first on are true, m at most. -/
def pre (p : Nat → Bool) : Nat → Nat
  | 0 => 0
  | m + 1 => if pre p m = m ∧ p m = true then m + 1 else pre p m
theorem pre_le (p : Nat → Bool) : ∀ m, pre p m ≤ m
  | 0 => Nat.le_refl _
  | m + 1 => by
    have := pre_le p m
    rw [pre]
    split <;> omega
theorem pre_in (p : Nat → Bool) : ∀ m j, j < pre p m → p j = true
  | 0, j, h => by simp [pre] at h
  | m + 1, j, h => by
    rw [pre] at h
    split at h
    · rename_i hc
      by_cases hj : j = m
      · subst hj; exact hc.2
      · exact pre_in p m j (by omega)
    · exact pre_in p m j h
theorem pre_out (p : Nat → Bool) : ∀ m, pre p m < m → p (pre p m) = false
  | 0, h => by omega
  | m + 1, h => by
    rw [pre] at h ⊢
    split at h
    · omega
    · rename_i hc
      rw [if_neg hc]
      by_cases hm : pre p m = m
      · rw [hm]
        cases hp : p m with
        | false => rfl
        | true => exact absurd ⟨hm, hp⟩ hc
      · have := pre_le p m
        exact pre_out p m (by omega)
theorem pre_is {p : Nat → Bool} {m k : Nat} (h1 : k ≤ m) (h2 : ∀ j, j < k → p j = true) (h3 : k < m → p k = false) : k = pre p m := by
  have a := pre_le p m
  rcases Nat.lt_trichotomy k (pre p m) with h | h | h
  · have := pre_in p m k h
    rw [h3 (by omega)] at this
    cases this
  · exact h
  · have := pre_out p m (by omega)
    rw [h2 _ h] at this
    cases this

/-- How long the run d ahead is. -/
def rn (l : List Int) (at_ d : Nat) : Nat := pre (fun j => decide (l.getD (at_ + j) 0 = l.getD (at_ + j - d) 0)) (min 67 (l.length - at_))
theorem rn_le (l : List Int) (at_ d : Nat) : rn l at_ d ≤ 67 ∧ rn l at_ d ≤ l.length - at_ := by
  have := pre_le (fun j => decide (l.getD (at_ + j) 0 = l.getD (at_ + j - d) 0)) (min 67 (l.length - at_))
  unfold rn; omega
theorem rn_is {l : List Int} {at_ d k : Nat} (h1 : k ≤ 67) (h1' : at_ + k ≤ l.length) (h2 : ∀ j, j < k → l.getD (at_ + j) 0 = l.getD (at_ + j - d) 0) (h3 : k < 67 → at_ + k < l.length → ¬ l.getD (at_ + k) 0 = l.getD (at_ + k - d) 0) : k = rn l at_ d :=
  pre_is (by omega) (fun j hj => by simpa using h2 j hj) (fun hk => by simpa using h3 (by omega) (by omega))
theorem rn_in {l : List Int} {at_ d j : Nat} (h : j < rn l at_ d) : l.getD (at_ + j) 0 = l.getD (at_ + j - d) 0 := by
  have := pre_in _ _ _ h
  simpa using this
/-- Where a byte is unlike, the run is no longer. -/
theorem rn_stop {l : List Int} {at_ d j : Nat} (h : ¬ l.getD (at_ + j) 0 = l.getD (at_ + j - d) 0) : rn l at_ d ≤ j := by
  rcases Nat.lt_or_ge j (rn l at_ d) with hj | hj
  · exact absurd (rn_in hj) h
  · exact hj
theorem rn_ge {l : List Int} {at_ d k : Nat} (h1 : k ≤ 67) (h1' : at_ + k ≤ l.length) (h2 : ∀ j, j < k → l.getD (at_ + j) 0 = l.getD (at_ + j - d) 0) : k ≤ rn l at_ d := by
  rcases Nat.lt_or_ge (rn l at_ d) k with h | h
  · have hl := rn_le l at_ d
    have := pre_out (fun j => decide (l.getD (at_ + j) 0 = l.getD (at_ + j - d) 0)) (min 67 (l.length - at_)) (by show rn l at_ d < _; omega)
    have h4 := h2 _ h
    exact absurd h4 (by simpa [rn] using this)
  · exact h

/-- The best of the distances from 1 to D. -/
structure Best (l : List Int) (at_ D L d : Nat) : Prop where
  le : d ≤ D
  no : d = 0 → L = 0
  is : 0 < d → L = rn l at_ d ∧ 0 < L
  far : ∀ e, 0 < e → e ≤ D → rn l at_ e ≤ L
  near : ∀ e, 0 < e → e < d → rn l at_ e < L
theorem Best.start (l : List Int) (at_ : Nat) : Best l at_ 0 0 0 := ⟨Nat.le_refl _, fun _ => rfl, fun h => absurd h (by omega), fun e h h' => by omega, fun e h h' => by omega⟩
theorem Best.worse {l : List Int} {at_ D L d : Nat} (h : Best l at_ D L d) (hr : rn l at_ (D + 1) ≤ L) : Best l at_ (D + 1) L d :=
  ⟨by have := h.le; omega, h.no, h.is, fun e h1 h2 => by
    by_cases he : e = D + 1
    · subst he; exact hr
    · exact h.far e h1 (by omega), h.near⟩
theorem Best.better {l : List Int} {at_ D L d : Nat} (h : Best l at_ D L d) (hr : L < rn l at_ (D + 1)) : Best l at_ (D + 1) (rn l at_ (D + 1)) (D + 1) :=
  ⟨Nat.le_refl _, fun h => by omega, fun _ => ⟨rfl, by omega⟩, fun e h1 h2 => by
    by_cases he : e = D + 1
    · subst he; exact Nat.le_refl _
    · have := h.far e h1 (by omega); omega, fun e h1 h2 => by have := h.far e h1 (by omega); omega⟩
theorem Best.unique {l : List Int} {at_ D L d L' d' : Nat} (h : Best l at_ D L d) (h' : Best l at_ D L' d') : L = L' ∧ d = d' := by
  by_cases hd : d = 0
  · have hL := h.no hd
    by_cases hd' : d' = 0
    · exact ⟨by rw [hL, h'.no hd'], by omega⟩
    · have := h'.is (by omega); have := h.far d' (by omega) h'.le; omega
  · have a := h.is (by omega)
    by_cases hd' : d' = 0
    · have := h'.no hd'; have := h'.far d (by omega) h.le; omega
    · have b := h'.is (by omega)
      have e1 := h.far d' (by omega) h'.le
      have e2 := h'.far d (by omega) h.le
      have hL : L = L' := by omega
      refine ⟨hL, ?_⟩
      rcases Nat.lt_trichotomy d d' with hlt | heq | hgt
      · have := h'.near d (by omega) hlt; omega
      · exact heq
      · have := h.near d' (by omega) hgt; omega

def bestF (l : List Int) (at_ : Nat) : Nat → Nat × Nat
  | 0 => (0, 0)
  | D + 1 => if (bestF l at_ D).1 < rn l at_ (D + 1) then (rn l at_ (D + 1), D + 1) else bestF l at_ D
theorem bestF_best (l : List Int) (at_ : Nat) : ∀ D, Best l at_ D (bestF l at_ D).1 (bestF l at_ D).2
  | 0 => Best.start l at_
  | D + 1 => by
    rw [bestF]
    split
    · rename_i h; exact (bestF_best l at_ D).better h
    · rename_i h; exact (bestF_best l at_ D).worse (by omega)

/-- The copy at a place: its length and distance. -/
def cp (l : List Int) (at_ : Nat) : Nat × Nat := if (bestF l at_ (min 4096 at_)).1 < 4 then (0, 0) else bestF l at_ (min 4096 at_)
theorem cp_of_best {l : List Int} {at_ L d : Nat} (h : Best l at_ (min 4096 at_) L d) : cp l at_ = if L < 4 then (0, 0) else (L, d) := by
  obtain ⟨h1, h2⟩ := h.unique (bestF_best l at_ _)
  rw [cp, ← h1]
  split
  · rfl
  · rw [h1, h2]
theorem cp_le (l : List Int) (at_ : Nat) : (cp l at_).1 ≤ 67 ∧ at_ + (cp l at_).1 ≤ max at_ l.length ∧ ((cp l at_).1 = 0 ∨ 4 ≤ (cp l at_).1 ∧ 1 ≤ (cp l at_).2 ∧ (cp l at_).2 ≤ 4096 ∧ (cp l at_).2 ≤ at_) := by
  have hb := bestF_best l at_ (min 4096 at_)
  rw [cp]
  split
  · simp; omega
  · rename_i h
    have hd : 0 < (bestF l at_ (min 4096 at_)).2 := by
      rcases Nat.eq_zero_or_pos (bestF l at_ (min 4096 at_)).2 with h0 | h0
      · have := hb.no h0; omega
      · exact h0
    have hi := hb.is hd
    have hl := rn_le l at_ (bestF l at_ (min 4096 at_)).2
    have := hb.le
    omega
end Go.Proofs.Ytdhicmbfknagjaa.SqM
namespace Go.Proofs.Ytdhicmbfknagjaa.SqP
set_option maxRecDepth 8000
open Go.RowKit
open Seg (B)
set_option linter.unusedVariables false
theorem infoB : (Try.prog.info? 5).map (fun i => (i.zero, i.size, i.bytes)) = some (some (.int .u8 0), 1, 1) := by kernel_rfl

/-- Plain bytes in pieces, f of them at most. -/
def plainF : Nat → List Int → List Int
  | 0, _ => []
  | f + 1, l => if l.length = 0 then [] else ((min l.length 128 - 1 : Nat) : Int) :: (l.take (min l.length 128) ++ plainF f (l.drop (min l.length 128)))
theorem plainF_same : ∀ (f g : Nat) (l : List Int), l.length ≤ f → l.length ≤ g → plainF f l = plainF g l
  | 0, 0, l, _, _ => rfl
  | 0, g + 1, l, h, _ => by rw [plainF, plainF, if_pos (by omega)]
  | f + 1, 0, l, _, h => by rw [plainF, plainF, if_pos (by omega)]
  | f + 1, g + 1, l, h1, h2 => by
    rw [plainF, plainF]
    by_cases h : l.length = 0
    · rw [if_pos h, if_pos h]
    · rw [if_neg h, if_neg h, plainF_same f g _ (by simp; omega) (by simp; omega)]
def plain (l : List Int) : List Int := plainF l.length l
theorem plain_nil {l : List Int} (h : l.length = 0) : plain l = [] := by rw [plain, h]; rfl
theorem plain_cons {l : List Int} (n : Nat) (hn : n = min l.length 128) (h : ¬ l.length = 0) : plain l = ((n - 1 : Nat) : Int) :: (l.take n ++ plain (l.drop n)) := by
  obtain ⟨f, hf⟩ : ∃ f, l.length = f + 1 := ⟨l.length - 1, by omega⟩
  rw [plain, hf, plainF, if_neg h, plain, ← hn, plainF_same f (l.drop n).length (l.drop n) (by simp; omega) (Nat.le_refl _)]
theorem plainF_len : ∀ (f : Nat) (l : List Int), (plainF f l).length ≤ 2 * l.length
  | 0, l => by simp [plainF]
  | f + 1, l => by
    rw [plainF]
    split
    · simp
    · have := plainF_len f (l.drop (min l.length 128))
      simp only [List.length_cons, List.length_append, List.length_take, List.length_drop] at this ⊢
      omega
theorem plain_len (l : List Int) : (plain l).length ≤ 2 * l.length := plainF_len _ _

/-- A row of bytes of the call's own, over the whole of it. -/
def Out (w : World) (base g cap : Nat) (l : List Int) : Prop := w.ownsRow base 5 1 (.slice (some ⟨g, 0, none⟩) l.length cap) l.length (B l)

/-- append of bytes that lie somewhere to a row of one's own. -/
theorem app {w : World} {ops : Array Oper} {rest : List Oper} {o : Oper} {a : Act} {Q : Exit → Act → World → Prop} (hgd : o.guard = none) (s x : Operand) (ho : o.op = .call { callee := .builtin .append, args := #[s, x], argTypes := #[52, 52] })
    (base g cap : Nat) (l news : List Int) (hs : a.eval s = .slice (some ⟨g, 0, none⟩) l.length cap) (hown : Out w base g cap l) (ad : Addr) (c : Nat) (hx : a.eval x = .slice (some ad) news.length c)
    (hnews : ∀ j, j < news.length → w.cell? (ad.add j) = some (.int .u8 (news.getD j 0))) (hm : 0 < news.length) (hb : l.length + news.length ≤ 10000000) (hbase : base ≤ w.heap.size)
    (h : ∀ g' cap' w', Out w' base g' cap' (l ++ news) → w.grownBy w' (some g) → (g' = g ∨ g' = w.heap.size) → wpList Try.prog ops Q rest (a.put o.dst (.slice (some ⟨g', 0, none⟩) (l.length + news.length) cap')) w') : wpList Try.prog ops Q (o :: rest) a w := by
  obtain ⟨i0, hi, hz0, hz1, hz2⟩ := info_parts infoB
  refine wpList_append_lies w hgd s x 52 ho base 5 i0 (.int .u8 0) 1 1 Try.underlying52 hi hz0 hz1 hz2 rfl (by decide) _ _ _ hs hown ad news.length c (B news) hx (by simp [B]) (fun j u hj => ?_) (by simp [B, Value.oneCell']) hm (by unfold maxLen; omega) (by omega) hbase w.heap.size rfl ?_
  · have hjl : j < news.length := by have := (List.getElem?_eq_some_iff.1 hj).1; simpa [B] using this
    rw [hnews j hjl]
    simpa [B, hjl] using hj
  · intro g' cap' w' h1 h2 h3 h4
    refine h g' cap' w' ?_ h2 (h3.imp (fun e => by simpa [Value.ownBlock] using e.symm) id)
    unfold Out
    rw [List.length_append, show B (l ++ news) = B l ++ B news by simp [B]]
    exact h1
end Go.Proofs.Ytdhicmbfknagjaa.SqP
