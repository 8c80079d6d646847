/- Sets of blocks that hold cells alone; copy of a whole slice of structs onto a row of the call's own that has just as many. -/
import Derived.Laws.CopyRow
import Derived.Test.YtojalklkpnaofaaJF16
import Derived.Test.YtojalklkpnaofaaJF38
namespace Go.Proofs.Ytojalklkpnaofaa.Ft
set_option maxRecDepth 8000
open Go.RowKit
open Recs
open ToO (MineC)
set_option linter.unusedVariables false
/-- The block holds cells. -/
def IsC (w : World) (x : Nat) : Prop := ∃ cs t fr, w.heap[x]? = some (.cells cs t fr)
def Shrinks {T : Type} (EO : World → (Nat → Prop) → (Nat → Value) → T → Prop) : Prop := ∀ w S f t, EO w S f t → EO w (fun x => S x ∧ IsC w x) f t
theorem mine_isC {w : World} {ty nf g n c : Nat} {F : Nat → Value} (h : MineC w ty nf g n c F) : IsC w g := by
  rcases h.2 with ⟨h', _⟩ | ⟨g', cap', cur, h', hb, hg, _⟩
  · simp at h'
  · simp only [Value.slice.injEq, Option.some.injEq, Addr.mk.injEq, and_true, true_and] at h'
    obtain ⟨rfl, rfl⟩ := h'
    exact ⟨_, _, _, hg⟩
theorem LOwn.cells {T : Type} [Inhabited T] {ty nf : Nat} {EO : World → (Nat → Prop) → (Nat → Value) → T → Prop} (hE : Shrinks EO) {w : World} {S : Nat → Prop} {v : Value} {us : List T} (h : LOwn ty nf EO w S v us) : LOwn ty nf EO w (fun x => S x ∧ IsC w x) v us := by
  obtain ⟨h0, A, c, h1, h2⟩ := h
  refine ⟨h0, A, c, h1, h2.imp id ?_⟩
  rintro ⟨g, F, P, h3, h4, h5, h6⟩
  exact ⟨g, F, fun i x => P i x ∧ IsC w x, h3, ⟨h4, mine_isC h6.mine⟩, fun i hi x hx => ⟨h5 i hi x hx.1, hx.2⟩, h6.mine, h6.len, fun i hi => hE _ _ _ _ (h6.el i hi), fun i hi x hx => h6.apart i hi x hx.1, fun i j hi hj hij x hx hx' => h6.disj i j hi hj hij x hx.1 hx'.1⟩
theorem shrinksH : Shrinks EH := fun w S f t h => h
theorem shrinksR : Shrinks ER := fun w S f t h => ⟨h.1, LOwn.cells shrinksH h.2⟩
theorem shrinksB : Shrinks EB := fun w S f t h => ⟨h.1, LOwn.cells shrinksR h.2⟩
end Go.Proofs.Ytojalklkpnaofaa.Ft
namespace Go.Proofs.Ytojalklkpnaofaa.Ft
set_option maxRecDepth 8000
open Go.RowKit
open Recs
set_option linter.unusedVariables false
section
variable {P : Program} (w : World)
theorem run_copy_all (base : Nat) (t t' ty e : TypeId) (i : TypeInfo) (size : Nat) (ht : P.underlying t = some (.slice e)) (hi : P.info? e = some i) (hsize : i.size = size)
    (g n : Nat) (xs : List Value) (hown : w.ownsRow base e size (.slice (some ⟨g, 0, none⟩) n n) n xs)
    (A : Option Addr) (c : Nat) (news : List Value) (hl : news.length = n * size) (hnews : n ≠ 0 → ∃ ad, A = some ad ∧ ∀ j u, news[j]? = some u → w.cell? (ad.add j) = some u) (h1 : ∀ u ∈ news, u.oneCell' = true) :
    ∃ w', (Builtin.copy_ #[t, t'] ty #[.slice (some ⟨g, 0, none⟩) n n, .slice A n c]).run P w = .ok (goInt n) w' ∧ w'.ownsRow base e size (.slice (some ⟨g, 0, none⟩) n n) n news ∧ w.grownBy w' (some g) := by
  subst hsize
  by_cases hm : n = 0
  · subst hm
    have hn : news = [] := List.eq_nil_of_length_eq_zero (by simpa using hl)
    subst hn
    refine ⟨w, ?_, by simpa [List.eq_nil_of_length_eq_zero (show xs.length = 0 by simpa using hown.1)] using hown, ⟨rfl, rfl, rfl, Nat.le_refl _, fun _ _ _ => rfl⟩⟩
    cases A with
    | some ad =>
      have hld := run_loadCells_list (P := P) w ad [] (by simp)
      simp only [List.length_nil] at hld
      simp [Builtin.copy_, run_underlying ht, sizeOf, typeInfo, hi, Builtin.lenOf, Builtin.firstCells, hld, storeCells]
    | none => simp [Builtin.copy_, run_underlying ht, sizeOf, typeInfo, hi, Builtin.lenOf, Builtin.firstCells, storeCells]
  · obtain ⟨ad, rfl, hc⟩ := hnews hm
    rcases hown.2 with ⟨h, _⟩ | ⟨g', cap, cur, h, hb, hg, hnc, hcm, hcs, htake⟩
    · simp at h
    · simp only [Value.slice.injEq, Option.some.injEq, Addr.mk.injEq, and_true, true_and] at h
      obtain ⟨rfl, rfl⟩ := h
      have hld := run_loadCells_list (P := P) w ad news hc
      have hst := run_storeCells_at P g 0 e news 0 cur w hg (by omega) h1
      have hd : cur.toList.drop (news.length) = [] := List.drop_eq_nil_of_le (by simp; omega)
      refine ⟨w.setRow g news.toArray, ?_, ⟨hl, .inr ⟨g, n, news.toArray, rfl, hb, setRow_heap w g cur _ e _ hg, hnc, hcm, by simpa using hl, by simp [← hl]⟩⟩, ⟨rfl, rfl, rfl, by simp [World.setRow], fun k _ hk => setRow_other w g k _ (fun e => hk (by rw [e]))⟩⟩
      simp only [Nat.zero_add, List.take_zero, List.nil_append, hd, List.append_nil] at hst
      simp [Builtin.copy_, run_underlying ht, Builtin.lenOf, Builtin.firstCells, sizeOf, typeInfo, hi, ← hl, hld, hst]
theorem wpList_copy_all {ops : Array Oper} {rest : List Oper} {o : Oper} {a : Act} {Q : Exit → Act → World → Prop} (hgd : o.guard = none) (d s : Operand) (t t' : TypeId)
    (ho : o.op = .call { callee := .builtin .copy, args := #[d, s], argTypes := #[t, t'] })
    (base : Nat) (e : TypeId) (i : TypeInfo) (size : Nat) (ht : P.underlying t = some (.slice e)) (hi : P.info? e = some i) (hsize : i.size = size)
    (g n : Nat) (xs : List Value) (hd : a.eval d = .slice (some ⟨g, 0, none⟩) n n) (hown : w.ownsRow base e size (.slice (some ⟨g, 0, none⟩) n n) n xs)
    (A : Option Addr) (c : Nat) (news : List Value) (hs : a.eval s = .slice A n c) (hl : news.length = n * size) (hnews : n ≠ 0 → ∃ ad, A = some ad ∧ ∀ j u, news[j]? = some u → w.cell? (ad.add j) = some u) (h1 : ∀ u ∈ news, u.oneCell' = true)
    (h : ∀ w', w'.ownsRow base e size (.slice (some ⟨g, 0, none⟩) n n) n news → w.grownBy w' (some g) → wpList P ops Q rest (a.put o.dst (goInt n)) w') : wpList P ops Q (o :: rest) a w := by
  obtain ⟨w', hr, h2, h3⟩ := run_copy_all (P := P) w base t t' o.type e i size ht hi hsize g n xs hown A c news hl hnews h1
  refine wpList_plain hgd fun K hK => ?_
  unfold Oper.wp
  simp [execOp, ho, resolve, invoke, builtin, hd, hs, hr, Result.andThen]
  exact hK _ _ (h w' h2 h3)
end
end Go.Proofs.Ytojalklkpnaofaa.Ft
