/- The model's Ends: what its loops keep. -/
import Derived.Test.YtkibaimemomjpaaJE18
import Derived.Test.YtkibaimemomjpaaJE20
import Derived.Test.YtkibaimemomjpaaJE21
import Derived.Test.YtkibaimemomjpaaJE23
namespace Go.Proofs.Ytkibaimemomjpaa.EdT
set_option maxRecDepth 8000
open Go.RowKit
open Ls Lp QyP QsP QtP QuP TbP IoP EdP RkP IrA EdL
open Recs (hsz below1 below2 chain)
set_option linter.unusedVariables false
def rowN (n : Nat) (f : Nat → Int) : Array Value := ((List.range n).map (fun p => Value.int .i64 (f p))).toArray
theorem rowN_at {n p : Nat} (f : Nat → Int) (h : p < n) : (rowN n f)[p]? = some (.int .i64 (f p)) := by simp [rowN, h]
theorem rowN_set {n p : Nat} (f : Nat → Int) (x : Int) : (rowN n f).setIfInBounds p (.int .i64 x) = rowN n (upd f p x) := by
  apply Array.ext
  · simp [rowN]
  · intro i h1 h2
    have hi : i < n := by simpa [rowN] using h2
    rw [Array.getElem_setIfInBounds (by simpa [rowN] using hi)]
    by_cases e : p = i
    · subst e; simp [rowN, upd]
    · rw [if_neg e]; simp [rowN, upd, Ne.symm e]
theorem rowN_zero (n : Nat) : Array.replicate n (Value.int .i64 0) = rowN n (fun _ => 0) := by
  apply Array.ext
  · simp [rowN]
  · intro i h1 h2; simp [rowN]
/-- The comings so far: none of their memory lies between bo and bq. -/
structure Mo (bo bq : Nat) (wr : World) (v : Value) (us : List Cmg) : Prop where
  own : ∀ y, v.ownBlock = some y → y = bo ∨ bq ≤ y
  gro : ∃ F P, Ow.LGr 90 5 Ow.EOCmg wr bo v us F P ∧ ∀ i, i < us.length → ∀ y, P i y → bq ≤ y
theorem Mo.keep {bo bq : Nat} {wr w' : World} {v : Value} {us : List Cmg} (h : Mo bo bq wr v us) (hs : wr.heap.size ≤ w'.heap.size) (hk : ∀ y, y = bo ∨ bq ≤ y → y < wr.heap.size → w'.heap[y]? = wr.heap[y]?) : Mo bo bq w' v us := by
  obtain ⟨F, P, h1, h2⟩ := h.gro
  refine ⟨h.own, F, P, ⟨Ow.owns_keep h1.own (fun y hy => hk y (h.own y hy) (World.ownsRow.lt h1.own y hy).2), fun i hi => Ow.keepsOCmg _ _ _ _ _ _ (h1.el i hi) hs (fun g hg => hk g (.inr (h2 i hi g hg)) (h1.apart i hi g hg).2.1) (fun _ _ => rfl), fun i hi x hx => ⟨(h1.apart i hi x hx).1, Nat.lt_of_lt_of_le (h1.apart i hi x hx).2.1 hs, (h1.apart i hi x hx).2.2⟩, h1.disj⟩, h2⟩
theorem Mo.form {bo bq : Nat} {wr : World} {v : Value} {us : List Cmg} (h : Mo bo bq wr v us) : ∃ A c, v = .slice A us.length c := by
  obtain ⟨F, P, h1, -⟩ := h.gro
  exact Ow.LGrow.form ⟨F, P, h1⟩
theorem Mo.push {bo bq g9 cap9 : Nat} {wr w6 w9 : World} {v : Value} {us : List Cmg} {F : Nat → Value} {P : Nat → Nat → Prop} {u : Cmg} {news : List Value} {Q : Nat → Prop} (hv : ∀ y, v.ownBlock = some y → y = bo ∨ bq ≤ y) (h1 : Ow.LGr 90 5 Ow.EOCmg wr bo v us F P) (h2 : ∀ i, i < us.length → ∀ y, P i y → bq ≤ y) (hq : bq ≤ wr.heap.size) (hbo : bo ≤ wr.heap.size)
    (hb : Below wr.heap.size wr w6) (he : Ow.EOCmg w6 Q (fun q => news.getD q default) u) (hQ : ∀ x, Q x → wr.heap.size ≤ x ∧ x < w6.heap.size) (hl : news.length = 5)
    (hown : w9.ownsRow bo 90 5 (.slice (some ⟨g9, 0, none⟩) (us.length + 1) cap9) (us.length + 1) ((List.range (us.length * 5)).map F ++ news)) (gr : w6.grownBy w9 v.ownBlock) (hg : v.ownBlock = some g9 ∨ g9 = w6.heap.size) : Mo bo bq w9 (.slice (some ⟨g9, 0, none⟩) (us.length + 1) cap9) (us ++ [u]) := by
  have hs := hb.size
  have D := Ow.LGr.pushE Ow.keepsOCmg h1 hbo hs (fun z _ hz => hb.block z hz) he hQ hl hown gr hg
  refine ⟨fun y hy => ?_, _, _, D, fun i hi y hy => ?_⟩
  · simp only [Value.ownBlock, Option.some.injEq] at hy
    subst hy
    rcases hg with e | e
    · exact hv _ e
    · right; omega
  · rw [List.length_append, List.length_singleton] at hi
    split at hy
    · have := (hQ y hy).1; omega
    · exact h2 i (by omega) y hy
structure Md (w0 : World) (bo gn gm bq n : Nat) (inp : List (List Arr)) (wr : World) (v : Value) (s : St) (nx : Nat → Nat) : Prop where
  bel : Below bo w0 wr
  nxt : wr.heap[gn]? = some (.cells (rowN n (fun p => (nx p : Int))) 3 (0, 0))
  mrk : wr.heap[gm]? = some (.cells (rowN n s.marks) 3 (0, 0))
  out : Mo bo bq wr v s.out
  big : bq ≤ wr.heap.size
  lef : ∀ p, s.left p = (inp.getD p []).drop (nx p)
/-- The order of the blocks. -/
structure Ob (bo gn gm bq : Nat) : Prop where
  a : bo < gn
  b : gn < gm
  c : gm < bq
theorem Md.keep {w0 wr w' : World} {bo gn gm bq n : Nat} {inp : List (List Arr)} {v : Value} {s : St} {nx : Nat → Nat} (h : Md w0 bo gn gm bq n inp wr v s nx) (o : Ob bo gn gm bq) (hb : Below wr.heap.size wr w') : Md w0 bo gn gm bq n inp w' v s nx := by
  have h1 := h.big; have h2 := hb.size; have a := o.a; have b := o.b; have c := o.c
  exact ⟨h.bel.trans (hb.mono (by omega)), (hb.block gn (by omega)).trans h.nxt, (hb.block gm (by omega)).trans h.mrk, h.out.keep h2 (fun y _ hy => hb.block y hy), by omega, h.lef⟩
theorem Md.note {w0 wr : World} {bo gn gm bq n p : Nat} {inp : List (List Arr)} {v : Value} {s : St} {nx : Nat → Nat} (h : Md w0 bo gn gm bq n inp wr v s nx) (o : Ob bo gn gm bq) (m : Int) : Md w0 bo gn gm bq n inp (wr.setCell ⟨gm, p, none⟩ (.int .i64 m)) v ⟨s.left, upd s.marks p m, s.out⟩ nx := by
  have a := o.a; have b := o.b; have c := o.c
  refine ⟨h.bel.setCell (by show bo ≤ gm; omega) _, (heap_setCell_other wr _ gn _ (by show gn ≠ gm; omega)).trans h.nxt, ?_, h.out.keep (by rw [World.size_setCell]; exact Nat.le_refl _) (fun y hy _ => heap_setCell_other wr _ y _ (by show y ≠ gm; omega)), by rw [World.size_setCell]; exact h.big, h.lef⟩
  have := heap_setCell_same wr gm p _ _ (.int .i64 m) h.mrk
  rw [rowN_set] at this
  exact this
theorem Md.next {w0 wr : World} {bo gn gm bq n p : Nat} {inp : List (List Arr)} {v : Value} {s : St} {nx : Nat → Nat} (h : Md w0 bo gn gm bq n inp wr v s nx) (o : Ob bo gn gm bq) {a : Arr} {r : List Arr} (hl : s.left p = a :: r) : Md w0 bo gn gm bq n inp (wr.setCell ⟨gn, p, none⟩ (.int .i64 ((nx p : Int) + 1))) v ⟨upd s.left p r, s.marks, s.out⟩ (upd nx p (nx p + 1)) := by
  have oa := o.a; have b := o.b; have c := o.c
  refine ⟨h.bel.setCell (by show bo ≤ gn; omega) _, ?_, (heap_setCell_other wr _ gm _ (by show gm ≠ gn; omega)).trans h.mrk, h.out.keep (by rw [World.size_setCell]; exact Nat.le_refl _) (fun y hy _ => heap_setCell_other wr _ y _ (by show y ≠ gn; omega)), by rw [World.size_setCell]; exact h.big, fun q => ?_⟩
  · have := heap_setCell_same wr gn p _ _ (.int .i64 ((nx p : Int) + 1)) h.nxt
    rw [rowN_set] at this
    rw [this]
    congr 3
    funext q
    unfold upd
    split
    · next e => subst e; simp
    · rfl
  · by_cases e : q = p
    · subst e
      show upd s.left q r q = _
      rw [upd_same, upd_same]
      have h2 := h.lef q
      rw [hl] at h2
      rw [← List.drop_drop, ← h2]
      rfl
    · show upd s.left p r q = _
      rw [upd_other _ _ e, upd_other _ _ e]
      exact h.lef q
theorem Md.put {w0 wr w6 w9 : World} {bo gn gm bq n : Nat} {inp : List (List Arr)} {v v9 : Value} {s : St} {nx : Nat → Nat} {u : Cmg} (h : Md w0 bo gn gm bq n inp wr v s nx) (o : Ob bo gn gm bq) (hb : Below wr.heap.size wr w6) (gr : w6.grownBy w9 v.ownBlock) (hlt : ∀ y, v.ownBlock = some y → bo ≤ y) (hm : Mo bo bq w9 v9 (s.out ++ [u])) : Md w0 bo gn gm bq n inp w9 v9 ⟨s.left, s.marks, s.out ++ [u]⟩ nx := by
  have a := o.a; have b := o.b; have c := o.c
  have h1 := h.big; have h2 := hb.size; have h3 := gr.size
  have ne : ∀ y, bo < y → y < bq → some y ≠ v.ownBlock := fun y h1 h2 e => by
    rcases h.out.own y e.symm with q | q <;> omega
  exact ⟨(h.bel.trans (hb.mono (by omega))).grown gr (by have := h.bel.size; omega) hlt, (gr.block gn (by omega) (ne gn (by omega) (by omega))).trans ((hb.block gn (by omega)).trans h.nxt), (gr.block gm (by omega) (ne gm (by omega) (by omega))).trans ((hb.block gm (by omega)).trans h.mrk), hm, by omega, h.lef⟩
theorem Md.push {w0 wr w6 w9 : World} {bo gn gm bq n g9 cap9 c : Nat} {inp : List (List Arr)} {A : Option Addr} {s : St} {nx : Nat → Nat} {F : Nat → Value} {P : Nat → Nat → Prop} {u : Cmg} {news : List Value} {Q : Nat → Prop} (h : Md w0 bo gn gm bq n inp wr (.slice A s.out.length c) s nx) (o : Ob bo gn gm bq) (h1 : Ow.LGr 90 5 Ow.EOCmg wr bo (.slice A s.out.length c) s.out F P) (h2 : ∀ i, i < s.out.length → ∀ y, P i y → bq ≤ y)
    (hb : Below wr.heap.size wr w6) (he : Ow.EOCmg w6 Q (fun q => news.getD q default) u) (hQ : ∀ x, Q x → wr.heap.size ≤ x ∧ x < w6.heap.size) (hl : news.length = 5)
    (hown : w9.ownsRow bo 90 5 (.slice (some ⟨g9, 0, none⟩) (s.out.length + 1) cap9) (s.out.length + 1) ((List.range (s.out.length * 5)).map F ++ news)) (gr : w6.grownBy w9 (Value.slice A s.out.length c).ownBlock) (hg : (Value.slice A s.out.length c).ownBlock = some g9 ∨ g9 = w6.heap.size) :
    Md w0 bo gn gm bq n inp w9 (.slice (some ⟨g9, 0, none⟩) (s.out.length + 1) cap9) ⟨s.left, s.marks, s.out ++ [u]⟩ nx := by
  have a := o.a; have b := o.b; have cc := o.c; have hq := h.big
  exact h.put o hb gr (fun y hy => (World.ownsRow.lt h1.own y hy).1) (Mo.push h.out.own h1 h2 hq (by omega) hb he hQ hl hown gr hg)
/-- What the last loop keeps. -/
structure Me (w0 : World) (bo bq : Nat) (wr : World) (v : Value) (us : List Cmg) : Prop where
  bel : Below bo w0 wr
  out : Mo bo bq wr v us
  big : bq ≤ wr.heap.size
theorem Me.push {w0 wr w6 w9 : World} {bo bq g9 cap9 c : Nat} {A : Option Addr} {us : List Cmg} {F : Nat → Value} {P : Nat → Nat → Prop} {u : Cmg} {news : List Value} {Q : Nat → Prop} (h : Me w0 bo bq wr (.slice A us.length c) us) (hbq : bo ≤ bq) (h1 : Ow.LGr 90 5 Ow.EOCmg wr bo (.slice A us.length c) us F P) (h2 : ∀ i, i < us.length → ∀ y, P i y → bq ≤ y)
    (hb : Below wr.heap.size wr w6) (he : Ow.EOCmg w6 Q (fun q => news.getD q default) u) (hQ : ∀ x, Q x → wr.heap.size ≤ x ∧ x < w6.heap.size) (hl : news.length = 5)
    (hown : w9.ownsRow bo 90 5 (.slice (some ⟨g9, 0, none⟩) (us.length + 1) cap9) (us.length + 1) ((List.range (us.length * 5)).map F ++ news)) (gr : w6.grownBy w9 (Value.slice A us.length c).ownBlock) (hg : (Value.slice A us.length c).ownBlock = some g9 ∨ g9 = w6.heap.size) :
    Me w0 bo bq w9 (.slice (some ⟨g9, 0, none⟩) (us.length + 1) cap9) (us ++ [u]) := by
  have hq := h.big
  have h3 := hb.size; have h4 := gr.size
  exact ⟨(h.bel.trans (hb.mono (by omega))).grown gr (by have := h.bel.size; omega) (fun y hy => (World.ownsRow.lt h1.own y hy).1), Mo.push h.out.own h1 h2 hq (by omega) hb he hQ hl hown gr hg, by omega⟩
/-- How many of a list came. -/
theorem Md.len {w0 wr : World} {bo gn gm bq n p : Nat} {inp : List (List Arr)} {v : Value} {s : St} {nx : Nat → Nat} (h : Md w0 bo gn gm bq n inp wr v s nx) : (s.left p).length = (inp.getD p []).length - nx p := by rw [h.lef p, List.length_drop]
end Go.Proofs.Ytkibaimemomjpaa.EdT
