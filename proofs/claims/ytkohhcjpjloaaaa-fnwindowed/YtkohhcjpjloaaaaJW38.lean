/- A list that grows, its last element's own block told; The program's sessions. -/
import Derived.Test.YtkohhcjpjloaaaaJW37
import Derived.Test.YtkohhcjpjloaaaaJW36
import Derived.Test.YtkohhcjpjloaaaaJW32
import Derived.Test.YtkohhcjpjloaaaaJW35
namespace Go.Proofs.Ytkohhcjpjloaaaa.Ow
set_option maxRecDepth 8000
open Go.RowKit
open Recs
open Ls
set_option linter.unusedVariables false
section
variable {T : Type} [Inhabited T] {ty nf : Nat} {EO : Elt T}
theorem LGr.pushE (hE : KeepsO nf EO) {wr w2 w3 : World} {base g cap : Nat} {v : Value} {us : List T} {F : Nat → Value} {P : Nat → Nat → Prop} {Q : Nat → Prop} {t : T} {news : List Value} (h : LGr ty nf EO wr base v us F P) (hbase : base ≤ wr.heap.size) (hs : wr.heap.size ≤ w2.heap.size) (hk : ∀ x, base ≤ x → x < wr.heap.size → w2.heap[x]? = wr.heap[x]?)
    (he : EO w2 Q (fun q => news.getD q default) t) (hQ : ∀ x, Q x → wr.heap.size ≤ x ∧ x < w2.heap.size) (hl : news.length = nf) (hown : w3.ownsRow base ty nf (.slice (some ⟨g, 0, none⟩) (us.length + 1) cap) (us.length + 1) ((List.range (us.length * nf)).map F ++ news)) (gr : w2.grownBy w3 v.ownBlock) (hg : v.ownBlock = some g ∨ g = w2.heap.size) :
    LGr ty nf EO w3 base (.slice (some ⟨g, 0, none⟩) (us.length + 1) cap) (us ++ [t]) (fun q => if q < us.length * nf then F q else news.getD (q - us.length * nf) default) (fun i => if i = us.length then Q else P i) := by
  have h2 := h.keep hE hs hk
  have hvb : ∀ x, v.ownBlock = some x → base ≤ x ∧ x < wr.heap.size := fun x hx => World.ownsRow.lt h.own x hx
  have gs := gr.size
  refine ⟨?_, fun i hi => ?_, fun i hi x hx => ?_, fun i j hi hj hij x hx hx' => ?_⟩
  · rw [List.length_append, List.length_singleton, ← map_push F us.length nf news hl]
    exact hown
  · by_cases e : i = us.length
    · subst e
      rw [if_pos rfl, getD_app_last]
      refine hE _ _ _ _ _ _ he gs (fun x hx => gr.block x (hQ x hx).2 (fun e => ?_)) (fun q hq => ?_)
      · have a1 := hvb x e.symm
        have a2 := hQ x hx
        omega
      · rw [if_neg (by omega), Nat.add_sub_cancel_left]
    · have hi' : i < us.length := by rw [List.length_append, List.length_singleton] at hi; omega
      rw [if_neg e, getD_app_left hi']
      refine hE _ _ _ _ _ _ (h2.el i hi') gs (fun x hx => gr.block x (h2.apart i hi' x hx).2.1 (fun e => (h2.apart i hi' x hx).2.2 e.symm)) (fun q hq => ?_)
      have : (i + 1) * nf ≤ us.length * nf := Nat.mul_le_mul_right nf (by omega)
      rw [Nat.succ_mul] at this
      rw [if_pos (by omega)]
  · by_cases e : i = us.length
    · subst e
      rw [if_pos rfl] at hx
      have a1 := hQ x hx
      refine ⟨by omega, by omega, fun e => ?_⟩
      simp only [Value.ownBlock, Option.some.injEq] at e
      rcases hg with hg | hg
      · have := hvb g hg; omega
      · omega
    · have hi' : i < us.length := by rw [List.length_append, List.length_singleton] at hi; omega
      rw [if_neg e] at hx
      have a1 := h2.apart i hi' x hx
      refine ⟨a1.1, by omega, fun e => ?_⟩
      simp only [Value.ownBlock, Option.some.injEq] at e
      rcases hg with hg | hg
      · exact a1.2.2 (by rw [hg, e])
      · omega
  · rw [List.length_append, List.length_singleton] at hi hj
    by_cases e : i = us.length
    · subst e
      rw [if_pos rfl] at hx
      rw [if_neg (Ne.symm hij)] at hx'
      have a1 := hQ x hx
      have a2 := h.apart j (by omega) x hx'
      omega
    · rw [if_neg e] at hx
      by_cases e2 : j = us.length
      · subst e2
        rw [if_pos rfl] at hx'
        have a1 := hQ x hx'
        have a2 := h.apart i (by omega) x hx
        omega
      · rw [if_neg e2] at hx'
        exact h.disj i j (by omega) (by omega) hij x hx hx'
end
/-- The last of the lists is two numbers in a block of its own. -/
def Lst (w : World) (us : List (List Int)) (F : Nat → Value) (P : Nat → Nat → Prop) (gl : Nat) (a b : Int) : Prop := P (us.length - 1) gl ∧ F (us.length - 1) = .slice (some ⟨gl, 0, none⟩) 2 2 ∧ w.heap[gl]? = some (.cells #[.int .i64 a, .int .i64 b] 3 (0, 0)) ∧ us.getD (us.length - 1) default = [a, b]
theorem two_own {w : World} {gl : Nat} {a b : Int} {S : Nat → Prop} (h : w.heap[gl]? = some (.cells #[.int .i64 a, .int .i64 b] 3 (0, 0))) (hS : S gl) : IntsOwn w S (.slice (some ⟨gl, 0, none⟩) 2 2) [a, b] := by
  have hr : w.ownsRow 0 3 1 (.slice (some ⟨gl, 0, none⟩) 2 2) 2 ([a, b].map (Value.int .i64)) := ⟨rfl, .inr ⟨gl, 2, _, rfl, Nat.zero_le _, h, by simp, by unfold maxLen; omega, by simp, by simp⟩⟩
  exact LOwn.mono (ints_own hr (by simp)) (fun y hy => by simp only [Value.ownBlock, Option.some.injEq] at hy; rw [← hy]; exact hS)
theorem set_last {wr : World} {base gl : Nat} {a b e : Int} {v : Value} {us : List (List Int)} {F : Nat → Value} {P : Nat → Nat → Prop} (h : LGr 29 1 EOI2 wr base v us F P) (h0 : 0 < us.length) (hl : Lst wr us F P gl a b) :
    LGr 29 1 EOI2 (wr.setCell ⟨gl, 1, none⟩ (.int .i64 e)) base v (us.set (us.length - 1) [a, e]) F P ∧ Lst (wr.setCell ⟨gl, 1, none⟩ (.int .i64 e)) (us.set (us.length - 1) [a, e]) F P gl a e ∧ base ≤ gl := by
  obtain ⟨p1, p2, p3, p4⟩ := hl
  have n1 : us.length - 1 < us.length := by omega
  have ap := h.apart _ n1 gl p1
  have hsm : (wr.setCell ⟨gl, 1, none⟩ (.int .i64 e)).heap[gl]? = some (.cells #[.int .i64 a, .int .i64 e] 3 (0, 0)) := heap_setCell_same wr gl 1 _ _ (.int .i64 e) p3
  have hot : ∀ x, x ≠ gl → (wr.setCell ⟨gl, 1, none⟩ (.int .i64 e)).heap[x]? = wr.heap[x]? := fun x hx => heap_setCell_other wr _ x _ hx
  have hsz : (wr.setCell ⟨gl, 1, none⟩ (.int .i64 e)).heap.size = wr.heap.size := World.size_setCell _ _ _
  generalize wr.setCell ⟨gl, 1, none⟩ (.int .i64 e) = w' at *
  have len : (us.set (us.length - 1) [a, e]).length = us.length := List.length_set
  refine ⟨⟨?_, fun i hi => ?_, fun i hi x hx => ?_, fun i j hi hj => ?_⟩, ?_, ap.1⟩
  · rw [len]
    exact owns_keep h.own (fun x hx => hot x (fun e1 => ap.2.2 (by rw [hx, e1])))
  · rw [len] at hi
    by_cases ei : i = us.length - 1
    · subst ei
      have e1 : (us.set (us.length - 1) [a, e]).getD (us.length - 1) default = [a, e] := by simp [List.getD_eq_getElem?_getD, n1]
      rw [e1]
      show IntsOwn w' (P (us.length - 1)) (F ((us.length - 1) * 1 + 0)) [a, e]
      rw [Nat.mul_one, Nat.add_zero, p2]
      exact two_own hsm p1
    · have e1 : (us.set (us.length - 1) [a, e]).getD i default = us.getD i default := by
        rw [List.getD_eq_getElem?_getD, List.getD_eq_getElem?_getD, List.getElem?_set_ne (Ne.symm ei)]
      rw [e1]
      exact keepsOI2 _ _ _ _ _ _ (h.el i hi) (by omega) (fun x hx => hot x (fun e2 => h.disj i (us.length - 1) hi n1 ei x hx (by rw [e2]; exact p1))) (fun _ _ => rfl)
  · rw [len] at hi
    have := h.apart i hi x hx
    rw [hsz]
    exact this
  · rw [len] at hi hj
    exact h.disj i j hi hj
  · refine ⟨by rw [len]; exact p1, by rw [len]; exact p2, hsm, ?_⟩
    rw [len]
    simp [List.getD_eq_getElem?_getD, n1]
end Go.Proofs.Ytkohhcjpjloaaaa.Ow
namespace Go.Proofs.Ytkohhcjpjloaaaa.SnI
set_option maxRecDepth 8000
open Go.RowKit
open Ls Lp QyP QsP RkP IrA SrP WnP WnI
open Recs (hsz below1 below2 chain chainD)
set_option linter.unusedVariables false
/-- The sessions' windows of the first k of sorted numbers. -/
def sesK (size : Int) (s : List Int) : Nat → List (List Int)
  | 0 => []
  | k + 1 => if k = 0 ∨ size < s.getD k default - s.getD (k - 1) default then sesK size s k ++ [[s.getD k default, s.getD k default + size + 1]] else (sesK size s k).set ((sesK size s k).length - 1) [((sesK size s k).getD ((sesK size s k).length - 1) default).getD 0 0, s.getD k default + size + 1]
theorem ses_len (size : Int) (s : List Int) : ∀ k, (sesK size s k).length ≤ k ∧ (0 < k → 0 < (sesK size s k).length)
  | 0 => ⟨Nat.le_refl _, fun h => h⟩
  | k + 1 => by
    have ih := ses_len size s k
    rw [sesK]
    split
    · rw [List.length_append, List.length_singleton]; omega
    · next h => rw [List.length_set]; omega
structure Hs (b2 : Nat) (w3 wr : World) (size : Int) (s : List Int) (k : Nat) (v : Value) : Prop where
  le : k ≤ s.length
  bel : Below b2 w3 wr
  gro : ∃ F P, Ow.LGr 29 1 Ow.EOI2 wr b2 v (sesK size s k) F P ∧ (0 < k → ∃ gl a b, Ow.Lst wr (sesK size s k) F P gl a b)
/-- Behind the append: the last window's row is known, its end is not yet told. -/
structure Hm (b2 : Nat) (w3 wr : World) (us : List (List Int)) (v : Value) (gl : Nat) (a b : Int) : Prop where
  pos : 0 < us.length
  bel : Below b2 w3 wr
  gro : ∃ F P, Ow.LGr 29 1 Ow.EOI2 wr b2 v us F P ∧ Ow.Lst wr us F P gl a b
theorem Hm.look {b2 : Nat} {w3 wr : World} {us : List (List Int)} {v : Value} {gl : Nat} {a b : Int} (h : Hm b2 w3 wr us v gl a b) : ∃ g cap, v = .slice (some ⟨g, 0, none⟩) us.length cap ∧ us.length ≤ cap ∧ wr.cell? ⟨g, us.length - 1, none⟩ = some (.slice (some ⟨gl, 0, none⟩) 2 2) ∧ wr.frozen? ⟨gl, 1, none⟩ = false ∧ wr.cell? ⟨gl, 1, none⟩ = some (.int .i64 b) := by
  obtain ⟨F, P, h1, p1, p2, p3, p4⟩ := h.gro
  have h0 := h.pos
  rcases h1.own.2 with ⟨e1, e2⟩ | ⟨g, cap, cur, e1, hb, hg, hnc, hcm, hcs, htake⟩
  · omega
  · subst e1
    refine ⟨g, cap, rfl, hnc, ?_, frozen_of_row wr gl 1 _ _ p3, cell_of_row wr gl 1 _ _ (0, 0) p3⟩
    have := World.ownsRow.cellAt h1.own (us.length - 1) (by omega)
    rw [this, List.getElem?_map, List.getElem?_range (by omega)]
    simp [p2]
theorem Hm.put {b2 k : Nat} {w3 wr : World} {us : List (List Int)} {v : Value} {gl : Nat} {a b e size : Int} {s : List Int} (h : Hm b2 w3 wr us v gl a b) (hk : k < s.length) (he : sesK size s (k + 1) = us.set (us.length - 1) [a, e]) : Hs b2 w3 (wr.setCell ⟨gl, 1, none⟩ (.int .i64 e)) size s (k + 1) v := by
  obtain ⟨F, P, h1, h2⟩ := h.gro
  obtain ⟨h3, h4, h5⟩ := Ow.set_last (e := e) h1 h.pos h2
  refine ⟨hk, h.bel.setCell h5 _, F, P, ?_, fun _ => ⟨gl, a, e, ?_⟩⟩
  · rw [he]; exact h3
  · rw [he]; exact h4
theorem Hs.keepM {b2 k : Nat} {w3 wr : World} {v : Value} {size : Int} {s : List Int} (h : Hs b2 w3 wr size s k v) (hk : 0 < k) : ∃ gl a b, Hm b2 w3 wr (sesK size s k) v gl a b ∧ (sesK size s k).getD ((sesK size s k).length - 1) default = [a, b] := by
  obtain ⟨F, P, h1, h2⟩ := h.gro
  obtain ⟨gl, a, b, h3⟩ := h2 hk
  exact ⟨gl, a, b, ⟨(ses_len size s k).2 hk, h.bel, F, P, h1, h3⟩, h3.2.2.2⟩
theorem Hs.pushM {b2 k g9 cap9 : Nat} {w3 wr w9 : World} {v : Value} {size x : Int} {s : List Int} {ob : Obj} {F : Nat → Value} {P : Nat → Nat → Prop} (bel : Below b2 w3 wr) (hb : b2 ≤ wr.heap.size) (h1 : Ow.LGr 29 1 Ow.EOI2 wr b2 v (sesK size s k) F P)
    (hown : w9.ownsRow b2 29 1 (.slice (some ⟨g9, 0, none⟩) ((sesK size s k).length + 1) cap9) ((sesK size s k).length + 1) ((List.range ((sesK size s k).length * 1)).map F ++ [.slice (some ⟨wr.heap.size, 0, none⟩) 2 2]))
    (gr : ((wr.alloc (.cells #[.int .i64 x, .int .i64 0] 3 (0, 0))).alloc ob).grownBy w9 v.ownBlock) (hg : v.ownBlock = some g9 ∨ g9 = ((wr.alloc (.cells #[.int .i64 x, .int .i64 0] 3 (0, 0))).alloc ob).heap.size) :
    Hm b2 w3 w9 (sesK size s k ++ [[x, 0]]) (.slice (some ⟨g9, 0, none⟩) ((sesK size s k).length + 1) cap9) wr.heap.size x 0 := by
  have hb6 : Below wr.heap.size wr ((wr.alloc (.cells #[.int .i64 x, .int .i64 0] 3 (0, 0))).alloc ob) := chain (below1 wr _) (below1 _ ob)
  have n6 := (two_row wr x 0).keep (below1 _ ob)
  have r6 : ((wr.alloc (.cells #[.int .i64 x, .int .i64 0] 3 (0, 0))).alloc ob).heap[wr.heap.size]? = some (.cells #[.int .i64 x, .int .i64 0] 3 (0, 0)) := ((below1 _ ob).block _ (by rw [hsz]; omega)).trans (heap_alloc_new _ _)
  have s6 : wr.heap.size < ((wr.alloc (.cells #[.int .i64 x, .int .i64 0] 3 (0, 0))).alloc ob).heap.size := by rw [hsz, hsz]; omega
  generalize (wr.alloc (.cells #[.int .i64 x, .int .i64 0] 3 (0, 0))).alloc ob = w6 at *
  have hs := hb6.size
  have vb : ∀ y, v.ownBlock = some y → b2 ≤ y ∧ y < wr.heap.size := fun y hy => World.ownsRow.lt h1.own y hy
  have D := Ow.LGr.pushE Ow.keepsOI2 (w2 := w6) (Q := seg wr.heap.size w6.heap.size) (t := [x, 0]) (news := [.slice (some ⟨wr.heap.size, 0, none⟩) 2 2]) h1 hb hs (fun y _ hy => hb6.block y hy) (own n6 (by simp)) (fun y hy => hy) rfl hown gr hg
  have len : (sesK size s k ++ [[x, 0]]).length = (sesK size s k).length + 1 := by simp
  refine ⟨by rw [len]; omega, (bel.trans (hb6.mono hb)).grown gr (by omega) (fun y hy => (vb y hy).1), _, _, D, ?_⟩
  refine ⟨?_, ?_, (gr.block _ s6 (fun e => by have := vb _ e.symm; omega)).trans r6, ?_⟩
  · rw [len, Nat.add_sub_cancel]
    dsimp only
    rw [if_pos rfl]
    exact ⟨Nat.le_refl _, s6⟩
  · rw [len, Nat.add_sub_cancel]
    dsimp only
    rw [if_neg (by omega), Nat.mul_one, Nat.sub_self]
    rfl
  · rw [len, Nat.add_sub_cancel]
    simp
set_option maxHeartbeats 6400000 in
theorem sessions_any (size : Int) (x : Value) (ts : List Int) (w : World) (S : Nat → Prop) (hv : IntsAt w S x ts) (hS : ∀ g, S g → g < w.heap.size) (ht : ts.all inT = true) (hl : ts.length ≤ 3000) (hs : 1 ≤ size ∧ size ≤ 1000000000000) :
    Calls Try.prog 18 #[.int .i64 size, x] w fun e w' => ∃ v, e = .returned v ∧ (∃ B, w.heap.size ≤ B ∧ Ow.LGrow 29 1 Ow.EOI2 w' B v (sesK size (srt ts) ts.length)) ∧ Below w.heap.size w w' := by
  obtain ⟨A, c, rfl⟩ := hv.form
  obtain ⟨i1, hj, hy0, hy1, hy2⟩ := info_parts infoW
  have HT := Seg.hid ht
  have SO : Hid (Calls Try.prog 33 #[.func (.func 47) #[] #[.pointer (some ⟨w.heap.size, 0, none⟩)]] (w.alloc (.cells #[.slice A ts.length c] 29 (0, 0))) fun e w' => ∃ v, e = .returned v ∧ NRow w' w.heap.size v (srt ts) ∧ Below w.heap.size w w') :=
    (SvI.sorted_seq w.heap.size A c ts (w.alloc (.cells #[.slice A ts.length c] 29 (0, 0))) S (LAt.below keepsI hv (below1 w _) hS) (fun y hy => by rw [hsz]; have := hS y hy; omega) (by rw [hsz]; omega) (cell_of_row _ w.heap.size 0 _ _ (0, 0) (heap_alloc_new _ _)) (by omega)).mono fun e w' ⟨v, h1, h2, h3⟩ => ⟨v, h1, row_weak h2 (by rw [hsz]; omega), chain (below1 w _) h3⟩
  clear hv ht
  go_enter Try.func18, Try.ntmps18
  go_upto_region 2 with (first | (go_at_call 34; refine (SvI.values_any A ts.length c w).mono ?_; rintro e w1 ⟨rfl, rfl⟩) | (go_at_call 33; refine SO.out.mono ?_; rintro e w2 ⟨v2, rfl, h2, h3⟩; obtain ⟨A2, c2, rfl⟩ := row_form h2; have R2 := Seg.hid h2; have B2 := Seg.hid h3; clear h2 h3))
  clear SO
  obtain ⟨w3, hw3⟩ : ∃ w3, w2.alloc (.cells #[] 29 (0, 0)) = w3 := ⟨_, rfl⟩
  have B3 : Hid (Below w2.heap.size w2 w3) := by show Below _ _ _; rw [← hw3]; exact below1 _ _
  have O3 : Hid (w3.ownsRow w2.heap.size 29 1 (.slice (some ⟨w2.heap.size, 0, none⟩) 0 0) 0 []) := by
    show World.ownsRow _ _ _ _ _ _ _
    rw [← hw3]
    exact ⟨rfl, .inr ⟨w2.heap.size, 0, #[], rfl, Nat.le_refl _, heap_alloc_new _ _, by simp, by unfold maxLen; omega, by simp, by simp⟩⟩
  go_upto_region 3 with fail
  try rw [hw3]
  clear hw3
  have SL : Hid ((srt ts).length = ts.length) := srt_len ts
  have CM : Hid (∀ j, j < (srt ts).length → 0 ≤ (srt ts).getD j default ∧ (srt ts).getD j default ≤ 1000000000000) := fun j hj => by
    rw [List.getD_eq_getElem?_getD, List.getElem?_eq_getElem hj]
    exact inT_iff (List.all_eq_true.1 HT.out _ ((srt_perm ts).mem_iff.1 (List.getElem_mem hj)))
  have C3 : Hid (0 < (srt ts).length → ∃ y, A2 = some ⟨y, 0, none⟩ ∧ (srt ts).length ≤ c2 ∧ ∀ wr, Below w2.heap.size w3 wr → ∀ j, j < (srt ts).length → wr.cell? ⟨y, j, none⟩ = some (.int .i64 ((srt ts).getD j default))) := fun h0 => by
    obtain ⟨y, cap, e1, e2, e3, e4, e5, e6⟩ := NRow.open R2.out h0
    cases e1
    refine ⟨y, rfl, e6, fun wr hb j hj => ?_⟩
    rw [World.cell?_of_block (w := w2) (a := ⟨y, j, none⟩) ((hb.block y e3).trans (B3.out.block y e3))]
    exact e4 j hj
  have W3 := Seg.hid (chain B2.out B3.out)
  have WB : Hid (w.heap.size ≤ w2.heap.size) := B2.out.size
  have s3 : w2.heap.size ≤ w3.heap.size := B3.out.size
  have ln : (srt ts).length ≤ 3000 := by rw [srt_len]; exact hl
  clear R2 B2 B3 HT hl
  generalize hst : srt ts = st at *
  have HST := Seg.hid hst
  clear hst
  obtain ⟨b2, hb2⟩ : ∃ b2, w2.heap.size = b2 := ⟨_, rfl⟩
  rw [hb2] at O3 s3 C3 WB ⊢
  clear hb2
  go_wp2
  go_loopw [6, 15] (fun v i wr => ∃ k : Nat, i = .int .i64 k ∧ Hid (Hs b2 w3 wr size st k v)) (fun _ i _ => st.length - (intOf i).toNat)
  case atStart =>
    obtain ⟨F, P, h⟩ : Ow.LGrow 29 1 Ow.EOI2 w3 b2 (.slice (some ⟨b2, 0, none⟩) 0 0) ([] : List (List Int)) := Ow.LGrow.empty O3.out
    exact ⟨0, rfl, Nat.zero_le _, Below.refl _ _, F, P, h, fun h => absurd h (by omega)⟩
  case round =>
  clear O3
  obtain ⟨k, rfl, HG⟩ := hrel
  have hk := HG.out.le
  by_cases hlt : k < st.length
  · obtain ⟨y, rfl, hc2, CL⟩ := C3.out (by omega)
    have CLH := Seg.hid CL
    have d0 := CL wr HG.out.bel k hlt
    obtain ⟨p0, p1⟩ := CM.out k hlt
    have SES : Hid (sesK size st (k + 1) = if k = 0 ∨ size < st.getD k default - st.getD (k - 1) default then sesK size st k ++ [[st.getD k default, st.getD k default + size + 1]] else (sesK size st k).set ((sesK size st k).length - 1) [((sesK size st k).getD ((sesK size st k).length - 1) default).getD 0 0, st.getD k default + size + 1]) := rfl
    obtain ⟨x, hx⟩ : ∃ x, st.getD k default = x := ⟨_, rfl⟩
    rw [hx] at d0 p0 p1 SES
    have ik0 : (0 : Int) ≤ (k : Int) := by omega
    have ik1 : (k : Int) < (st.length : Int) := by omega
    have we : IntKind.i64.wrap (x + size) = x + size := by rw [IntKind.wrap_i64]; omega
    have we2 : IntKind.i64.wrap (x + size + 1) = x + size + 1 := by rw [IntKind.wrap_i64]; omega
    clear hx CL
    by_cases hz : k = 0
    · have SE1 : Hid (sesK size st (k + 1) = sesK size st k ++ [[x, x + size + 1]]) := by show _ = _; rw [SES.out, if_pos (.inl hz)]
      have kz : ((k : Int) == 0) = true := by simp [hz]
      clear SES hz
      obtain ⟨A7, c7, hv⟩ : ∃ A c, u6 = .slice A (sesK size st k).length c := by
        obtain ⟨F, P, h, -⟩ := HG.out.gro
        exact Ow.LGrow.form ⟨F, P, h⟩
      obtain ⟨v7, hv7⟩ : ∃ v7, v7 = u6 := ⟨_, rfl⟩
      rw [← hv7] at HG hv ⊢
      clear hv7
      subst hv
      obtain ⟨F7, P7, LG0, -⟩ := HG.out.gro
      have LG := Seg.hid LG0
      have BL := Seg.hid HG.out.bel
      have LK : Hid ((sesK size st k).length ≤ 3000) := Nat.le_trans (ses_len size st k).1 (by omega)
      have b4 : b2 ≤ wr.heap.size := by have := HG.out.bel.size; omega
      clear LG0 HG
      have OWN : Hid (∀ o1 o2, ((wr.alloc o1).alloc o2).ownsRow b2 29 1 (.slice A7 (sesK size st k).length c7) (sesK size st k).length ((List.range ((sesK size st k).length * 1)).map F7)) := fun o1 o2 => Ow.own_keep LG.out.own (fun y _ hy => (chain (below1 wr o1) (below1 _ o2)).block y hy)
      go_upto_region 8 with (at_builtin; (refine wpList_append_lies _ rfl _ _ 32 rfl b2 29 i1 _ 1 24 Try.underlying32 hj hy0 hy1 hy2 rfl (by decide) (.slice A7 (sesK size st k).length c7) (sesK size st k).length ((List.range ((sesK size st k).length * 1)).map F7) rfl (OWN.out _ _) ⟨_, 0, none⟩ 1 1 [.slice (some ⟨wr.heap.size, 0, none⟩) 2 2] rfl rfl (World.news_of_block (cs := #[.slice (some ⟨wr.heap.size, 0, none⟩) 2 2]) (new2 _ _ _)) (by simp [Value.oneCell']) (by decide) (by have := LK.out; unfold maxLen; omega) (by have := LK.out; omega) (by rw [hsz, hsz]; omega) _ rfl ?_; intro g9 cap9 w9 hown9 gr9 hat9 hlt9; have HM := Seg.hid (Hs.pushM BL.out b4 LG.out hown9 gr9 hat9); clear hown9 gr9 hat9 hlt9))
      have LN : Hid ((sesK size st k ++ [[x, 0]]).length = (sesK size st k).length + 1) := by show _ = _; simp
      obtain ⟨go, capo, hvo, hlc, q0, q1, q2⟩ := HM.out.look
      simp only [Value.slice.injEq, Option.some.injEq, Addr.mk.injEq, and_true] at hvo
      obtain ⟨rfl, -, rfl⟩ := hvo
      rw [LN.out] at hlc q0
      rw [Nat.add_sub_cancel] at q0
      have HP : Hid (Hs b2 w3 (w9.setCell ⟨wr.heap.size, 1, none⟩ (.int .i64 (x + size + 1))) size st (k + 1) (.slice (some ⟨g9, 0, none⟩) ((sesK size st k).length + 1) cap9)) := HM.out.put hlt (by rw [SE1.out, LN.out, Nat.add_sub_cancel, List.set_append_right _ _ (Nat.le_refl _), Nat.sub_self]; rfl)
      obtain ⟨n, hnn⟩ : ∃ n, (sesK size st k).length = n := ⟨_, rfl⟩
      have n3 : n ≤ 3000 := by rw [← hnn]; exact LK.out
      rw [hnn] at hlc q0 HP ⊢
      have wl : IntKind.i64.wrap (((n + 1 : Nat) : Int) - 1) = (n : Int) := by rw [IntKind.wrap_i64] <;> omega
      clear hnn HM LN LK OWN LG BL
      go_wp2
      go_roundw
      case rel => exact ⟨k + 1, by go_num, HP.out⟩
      case measure => simp [intOf]; omega
    · obtain ⟨m, hm⟩ : ∃ m, k - 1 = m := ⟨_, rfl⟩
      have d1 := CLH.out wr HG.out.bel m (by omega)
      obtain ⟨p2, p3⟩ := CM.out m (by omega)
      rw [hm] at SES
      obtain ⟨pv, hpv⟩ : ∃ pv, st.getD m default = pv := ⟨_, rfl⟩
      rw [hpv] at d1 p2 p3 SES
      have kz : ((k : Int) == 0) = false := by simp; omega
      have wk : IntKind.i64.wrap ((k : Int) - 1) = (m : Int) := by rw [IntKind.wrap_i64] <;> omega
      have m0 : (0 : Int) ≤ (m : Int) := by omega
      have m1 : (m : Int) < (st.length : Int) := by omega
      have k1 : 0 < k := by omega
      have wd : IntKind.i64.wrap (x - pv) = x - pv := by rw [IntKind.wrap_i64]; omega
      clear hpv hm
      by_cases hg : size < x - pv
      · have SE1 : Hid (sesK size st (k + 1) = sesK size st k ++ [[x, x + size + 1]]) := by show _ = _; rw [SES.out, if_pos (.inr hg)]
        clear SES hz
        obtain ⟨A7, c7, hv⟩ : ∃ A c, u6 = .slice A (sesK size st k).length c := by
          obtain ⟨F, P, h, -⟩ := HG.out.gro
          exact Ow.LGrow.form ⟨F, P, h⟩
        obtain ⟨v7, hv7⟩ : ∃ v7, v7 = u6 := ⟨_, rfl⟩
        rw [← hv7] at HG hv ⊢
        clear hv7
        subst hv
        obtain ⟨F7, P7, LG0, -⟩ := HG.out.gro
        have LG := Seg.hid LG0
        have BL := Seg.hid HG.out.bel
        have LK : Hid ((sesK size st k).length ≤ 3000) := Nat.le_trans (ses_len size st k).1 (by omega)
        have b4 : b2 ≤ wr.heap.size := by have := HG.out.bel.size; omega
        clear LG0 HG
        have OWN : Hid (∀ o1 o2, ((wr.alloc o1).alloc o2).ownsRow b2 29 1 (.slice A7 (sesK size st k).length c7) (sesK size st k).length ((List.range ((sesK size st k).length * 1)).map F7)) := fun o1 o2 => Ow.own_keep LG.out.own (fun y _ hy => (chain (below1 wr o1) (below1 _ o2)).block y hy)
        go_upto_region 8 with (at_builtin; (refine wpList_append_lies _ rfl _ _ 32 rfl b2 29 i1 _ 1 24 Try.underlying32 hj hy0 hy1 hy2 rfl (by decide) (.slice A7 (sesK size st k).length c7) (sesK size st k).length ((List.range ((sesK size st k).length * 1)).map F7) rfl (OWN.out _ _) ⟨_, 0, none⟩ 1 1 [.slice (some ⟨wr.heap.size, 0, none⟩) 2 2] rfl rfl (World.news_of_block (cs := #[.slice (some ⟨wr.heap.size, 0, none⟩) 2 2]) (new2 _ _ _)) (by simp [Value.oneCell']) (by decide) (by have := LK.out; unfold maxLen; omega) (by have := LK.out; omega) (by rw [hsz, hsz]; omega) _ rfl ?_; intro g9 cap9 w9 hown9 gr9 hat9 hlt9; have HM := Seg.hid (Hs.pushM BL.out b4 LG.out hown9 gr9 hat9); clear hown9 gr9 hat9 hlt9))
        have LN : Hid ((sesK size st k ++ [[x, 0]]).length = (sesK size st k).length + 1) := by show _ = _; simp
        obtain ⟨go, capo, hvo, hlc, q0, q1, q2⟩ := HM.out.look
        simp only [Value.slice.injEq, Option.some.injEq, Addr.mk.injEq, and_true] at hvo
        obtain ⟨rfl, -, rfl⟩ := hvo
        rw [LN.out] at hlc q0
        rw [Nat.add_sub_cancel] at q0
        have HP : Hid (Hs b2 w3 (w9.setCell ⟨wr.heap.size, 1, none⟩ (.int .i64 (x + size + 1))) size st (k + 1) (.slice (some ⟨g9, 0, none⟩) ((sesK size st k).length + 1) cap9)) := HM.out.put hlt (by rw [SE1.out, LN.out, Nat.add_sub_cancel, List.set_append_right _ _ (Nat.le_refl _), Nat.sub_self]; rfl)
        obtain ⟨n, hnn⟩ : ∃ n, (sesK size st k).length = n := ⟨_, rfl⟩
        have n3 : n ≤ 3000 := by rw [← hnn]; exact LK.out
        rw [hnn] at hlc q0 HP ⊢
        have wl : IntKind.i64.wrap (((n + 1 : Nat) : Int) - 1) = (n : Int) := by rw [IntKind.wrap_i64] <;> omega
        clear hnn HM LN LK OWN LG BL
        go_wp2
        go_roundw
        case rel => exact ⟨k + 1, by go_num, HP.out⟩
        case measure => simp [intOf]; omega
      · have SE1 : Hid (sesK size st (k + 1) = (sesK size st k).set ((sesK size st k).length - 1) [((sesK size st k).getD ((sesK size st k).length - 1) default).getD 0 0, x + size + 1]) := by show _ = _; rw [SES.out, if_neg (by omega)]
        clear SES hz
        obtain ⟨gl, a0, b0, HM0, EL⟩ := HG.out.keepM (by omega)
        have HM := Seg.hid HM0
        have ELH := Seg.hid EL
        clear HM0 EL HG
        have LK : Hid ((sesK size st k).length ≤ 3000) := Nat.le_trans (ses_len size st k).1 (by omega)
        obtain ⟨go, capo, hvo, hlc, q0, q1, q2⟩ := HM.out.look
        obtain ⟨v7, hv7⟩ : ∃ v7, v7 = u6 := ⟨_, rfl⟩
        rw [← hv7] at HM hvo ⊢
        clear hv7
        subst hvo
        have HP : Hid (Hs b2 w3 (wr.setCell ⟨gl, 1, none⟩ (.int .i64 (x + size + 1))) size st (k + 1) (.slice (some ⟨go, 0, none⟩) (sesK size st k).length capo)) := HM.out.put hlt (by rw [SE1.out, ELH.out]; rfl)
        have hp0 := HM.out.pos
        obtain ⟨n, hnn⟩ : ∃ n, (sesK size st k).length = n := ⟨_, rfl⟩
        have n3 : n ≤ 3000 := by rw [← hnn]; exact LK.out
        rw [hnn] at hlc q0 HP hp0 ⊢
        clear hnn LK HM ELH
        obtain ⟨j, hjn⟩ : ∃ j, n - 1 = j := ⟨_, rfl⟩
        rw [hjn] at q0
        have wl : IntKind.i64.wrap ((n : Int) - 1) = (j : Int) := by rw [IntKind.wrap_i64] <;> omega
        have j0 : (0 : Int) ≤ (j : Int) := by omega
        have j1 : (j : Int) < (n : Int) := by omega
        clear hjn
        go_wp2
        go_roundw
        case rel => exact ⟨k + 1, by go_num, HP.out⟩
        case measure => simp [intOf]; omega
  · have hkl : k = st.length := by omega
    have LG : Hid (Ow.LGrow 29 1 Ow.EOI2 wr b2 u6 (sesK size st st.length)) := by obtain ⟨F, P, h, -⟩ := HG.out.gro; rw [hkl] at h; exact ⟨F, P, h⟩
    have BL := Seg.hid HG.out.bel
    have z1 : ¬ (k : Int) < (st.length : Int) := by omega
    clear hkl HG
    go_wp2
    go_ret
    exact ⟨u6, rfl, ⟨b2, WB.out, by rw [HST.out, ← SL.out]; exact LG.out⟩, ⟨BL.out.os.trans W3.out.os, BL.out.tape.trans W3.out.tape, BL.out.output.trans W3.out.output, Nat.le_trans W3.out.size BL.out.size, fun y hy => (BL.out.block y (Nat.lt_of_lt_of_le hy WB.out)).trans (W3.out.block y hy)⟩⟩
end Go.Proofs.Ytkohhcjpjloaaaa.SnI
