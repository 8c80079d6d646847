/- A log cut at its end, on plain data; What every range over batchesFrom wants; What is safe in a Part, on plain data: a right log cut at an offset is right; pairs of a Batch and the value of its Records. -/
import Derived.Scope
import Derived.BigQuiet
import Derived.Test.YticihnoekffelaaJS17
import Derived.Test.YticihnoekffelaaJS13
import Derived.Test.YticihnoekffelaaJS05
import Derived.Test.YticihnoekffelaaJS11
namespace Go.Proofs.Yticihnoekffelaa.CtP
set_option maxRecDepth 8000
open Recs SegW LogW SrP
open LgP (bats segs logOk inR)
set_option linter.unusedVariables false
def cutB (x : Int) (b : Bat) : Bat := if x < bEnd b then ⟨b.base, b.epoch, b.producer, b.turn, b.seq, b.flags, b.recs.take (x - b.base).toNat⟩ else b
def cutBs (x : Int) : List Bat → List Bat
  | [] => []
  | b :: t => if b.base < x then cutB x b :: cutBs x t else cutBs x t
def one (x : Int) (s : Sg) : List Sg := if (cutBs x s.bats).length = 0 then [] else [⟨s.base, cutBs x s.bats⟩]
def cutSs (x : Int) : List Sg → List Sg
  | [] => []
  | s :: t => one x s ++ cutSs x t
def cutT (l : Lg) (x : Int) : Lg × Bool := if (logOk l && inR x l.start l.next) = true then (⟨l.start, x, l.roll, cutSs x l.segs⟩, true) else (⟨0, 0, 0, []⟩, false)
theorem cutBs_none (x : Int) : ∀ (bs : List Bat), (∀ i, i < bs.length → x ≤ (bs.getD i default).base) → cutBs x bs = []
  | [], _ => rfl
  | b :: t, h => by
    have h0 := h 0 (by simp)
    simp only [List.getD_cons_zero] at h0
    unfold cutBs
    rw [if_neg (by omega)]
    exact cutBs_none x t (fun i hi => by have := h (i + 1) (by simpa using hi); simpa using this)
theorem cutBs_all (x : Int) : ∀ (bs : List Bat), (∀ i, i < bs.length → bEnd (bs.getD i default) ≤ x ∧ (bs.getD i default).base < x) → cutBs x bs = bs
  | [], _ => rfl
  | b :: t, h => by
    have h0 := h 0 (by simp)
    simp only [List.getD_cons_zero] at h0
    unfold cutBs cutB
    rw [if_pos h0.2, if_neg (by omega), cutBs_all x t (fun i hi => by have := h (i + 1) (by simpa using hi); simpa using this)]
theorem end_gt {b : Bat} (h : BOk.batOk b = true) : b.base < bEnd b := by
  have := LgP.okLen h
  unfold bEnd
  omega
theorem cutBs_found (x : Int) : ∀ (bs : List Bat) (f e f' e' : Int), bats f e bs = some (f', e') → ∀ r, Fnd (fun i => pB x (bs.getD i default)) bs.length r → cutBs x bs = bs.take r ++ (if r < bs.length ∧ (bs.getD r default).base < x then [cutB x (bs.getD r default)] else [])
  | [], _, _, _, _, _, r, h => by simp [cutBs]
  | b :: t, f, e, f', e', hb, r, h => by
    have hall := bats_ok _ _ _ _ _ hb
    have hge := hb
    unfold bats at hge
    split at hge
    · rename_i hc
      match r with
      | 0 =>
        have h0 := h.yes (by simp)
        simp only [List.getD_cons_zero, pB, decide_eq_true_eq] at h0
        have hn : cutBs x t = [] := cutBs_none x t (fun i hi => by
          have := bats_ge _ _ _ _ _ hge i hi
          unfold bEnd at h0
          omega)
        unfold cutBs
        rw [hn]
        simp only [List.take_zero, List.nil_append, List.getD_cons_zero, List.length_cons]
        by_cases hx : b.base < x
        · rw [if_pos hx, if_pos ⟨by omega, hx⟩]
        · rw [if_neg hx, if_neg (by omega)]
      | r + 1 =>
        have h0 := h.no 0 (by omega)
        simp only [List.getD_cons_zero, pB, decide_eq_false_iff_not] at h0
        have he := end_gt hc.1
        have ih := cutBs_found x t _ _ _ _ hge r ⟨by have := h.le; simp at this; exact this, fun i hi => by have := h.no (i + 1) (by omega); simpa using this, fun hi => by have := h.yes (by simpa using hi); simpa using this⟩
        have hcb : cutB x b = b := if_neg h0
        unfold cutBs
        rw [if_pos (by omega), hcb, ih]
        simp only [List.take_succ_cons, List.cons_append, List.getD_cons_succ, List.length_cons, Nat.add_lt_add_iff_right]
    · cases hge
theorem cutSs_none (x : Int) : ∀ (ss : List Sg) (f e f' : Int), segs f e ss = some f' → x ≤ f → cutSs x ss = []
  | [], _, _, _, _, _ => rfl
  | s :: t, f, e, f', h, hx => by
    obtain ⟨h1, h2, f1, e1, h3, h4⟩ := segs_head h
    have hle := LgP.bats_le _ _ _ _ _ h3
    have hn : cutBs x s.bats = [] := cutBs_none x _ (fun i hi => by have := bats_ge _ _ _ _ _ h3 i hi; omega)
    unfold cutSs one
    rw [hn, cutSs_none x t _ _ _ h4 (by omega)]
    rfl
theorem cutSs_found (x : Int) : ∀ (ss : List Sg) (f e f' : Int), segs f e ss = some f' → ∀ r, Fnd (fun i => pS x (ss.getD i default)) ss.length r → cutSs x ss = ss.take r ++ (if r < ss.length then one x (ss.getD r default) else [])
  | [], _, _, _, _, r, h => by simp [cutSs]
  | s :: t, f, e, f', hs, r, h => by
    obtain ⟨h1, h2, f1, e1, h3, h4⟩ := segs_head hs
    match r with
    | 0 =>
      have h0 := h.yes (by simp)
      simp only [List.getD_cons_zero, pS, Bool.or_eq_true, decide_eq_true_eq] at h0
      have hn : cutSs x t = [] := by
        by_cases hz : s.bats.length = 0
        · have := h2 hz
          rw [List.length_eq_zero_iff.1 this]
          rfl
        · have he := bats_end _ _ _ _ _ h3 hz
          refine cutSs_none x t _ _ _ h4 ?_
          have h0' := h0.resolve_left hz
          unfold sEnd at h0'
          omega
      unfold cutSs
      rw [hn]
      simp
    | r + 1 =>
      have h0 := h.no 0 (by omega)
      simp only [List.getD_cons_zero, pS, Bool.or_eq_false_iff, decide_eq_false_iff_not] at h0
      have hall : cutBs x s.bats = s.bats := cutBs_all x _ (fun i hi => by
        have a1 := bats_mono _ _ _ _ _ h3 i (s.bats.length - 1) (by omega) (by omega)
        have a2 := end_gt (bats_ok _ _ _ _ _ h3 i hi)
        have a3 := h0.2
        unfold sEnd at a3
        exact ⟨by omega, by omega⟩)
      have ih := cutSs_found x t _ _ _ h4 r ⟨by have := h.le; simp at this; exact this, fun i hi => by have := h.no (i + 1) (by omega); simpa using this, fun hi => by have := h.yes (by simpa using hi); simpa using this⟩
      have hone : one x s = [s] := by
        unfold one
        rw [hall, if_neg h0.1]
      unfold cutSs
      rw [hone, ih]
      simp only [List.take_succ_cons, List.cons_append, List.nil_append, List.getD_cons_succ, List.length_cons, Nat.add_lt_add_iff_right]
end Go.Proofs.Yticihnoekffelaa.CtP
namespace Go.Proofs.Yticihnoekffelaa.Of
set_option maxRecDepth 8000
open Go.RowKit Go.Shelf
open Recs
open Bats SegW Segs LogW BfP BfI
open LgP (logOk)
set_option linter.unusedVariables false
attribute [local go_sem] Oper.semAt_some
theorem at1 (w : World) (o : Obj) : (w.alloc o).heap[w.heap.size]? = some o := heap_alloc_new _ _
theorem four {w : World} {g ty : Nat} {t : Lg} {v : Value} (h : w.heap[g]? = some (.cells (logArr t v) ty (0, 0))) : w.cell? ⟨g, 0, none⟩ = some (.int .i64 t.start) ∧ w.cell? ⟨g, 1, none⟩ = some (.int .i64 t.next) ∧ w.cell? ⟨g, 2, none⟩ = some (.int .i64 t.roll) ∧ w.cell? ⟨g, 3, none⟩ = some v :=
  ⟨cell_of_row w g 0 _ _ (0, 0) h, cell_of_row w g 1 _ _ (0, 0) h, cell_of_row w g 2 _ _ (0, 0) h, cell_of_row w g 3 _ _ (0, 0) h⟩
theorem flat_count : ∀ ss : List Sg, (flatB ss).length = LgP.many ss
  | [] => rfl
  | s :: t => by simp only [flatB, List.length_append, flat_count t, LgP.many]
theorem okB_flat {ss : List Sg} {f e f' : Int} (h : LgP.segs f e ss = some f') : ∀ b ∈ flatB ss, BOk.batOk b = true := by
  have key : ∀ (ss : List Sg) (f e f' : Int), LgP.segs f e ss = some f' → ∀ b ∈ flatB ss, BOk.batOk b = true := by
    intro ss
    induction ss with
    | nil => intro f e f' _ b hb; simp [flatB] at hb
    | cons s t ih =>
      intro f e f' h b hb
      obtain ⟨h1, h2, f1, e1, h3, h4⟩ := SrP.segs_head h
      simp only [flatB, List.mem_append] at hb
      rcases hb with hb | hb
      · obtain ⟨k, hk, rfl⟩ := List.getElem_of_mem hb
        have := SrP.bats_ok _ _ _ _ _ h3 k hk
        rw [List.getD_eq_getElem?_getD, List.getElem?_eq_getElem hk] at this
        simpa using this
      · exact ih f1 e1 f' h4 b hb
  exact key ss f e f' h
theorem ok_all {l : Lg} (h : logOk l = true) : ∃ f, LgP.segs 0 0 l.segs = some f ∧ f ≤ l.next ∧ l.segs.length ≤ 60 ∧ 0 ≤ l.start ∧ l.start ≤ l.next ∧ l.next ≤ 1000000000 ∧ LgP.many l.segs ≤ 400 := by
  unfold LgP.logOk LgP.bounds LgP.counts LgP.stands at h
  simp only [Bool.and_eq_true, decide_eq_true_eq, LgP.inR] at h
  obtain ⟨⟨⟨a1, a2⟩, ⟨a3, a4⟩, a5⟩, ⟨a6, a7⟩, a8⟩ := h
  cases hs : LgP.segs 0 0 l.segs with
  | none => rw [hs] at a8; cases a8
  | some f =>
    rw [hs] at a8
    exact ⟨f, rfl, by simpa using a8, a6, a3, a4, a2, a7⟩
theorem batchesFrom_any (v : Value) (x : Int) (A : Option Addr) (m c : Nat) (w : World) (hv : v = .slice A m c) :
    Calls Try.prog 42 #[v, .int .i64 x] w fun e w' => e = .returned (.func (.func 71) #[] #[.pointer (some ⟨w.heap.size, 0, none⟩), .pointer (some ⟨w.heap.size + 1, 0, none⟩)]) ∧ w'.cell? ⟨w.heap.size, 0, none⟩ = some v ∧ w'.cell? ⟨w.heap.size + 1, 0, none⟩ = some (.int .i64 x) ∧ Below w.heap.size w w' ∧ w'.heap.size = w.heap.size + 2 := by
  subst hv
  go_enter Try.func42, Try.ntmps42
  go_wp2_with fail
  go_ret
  refine ⟨rfl, ?_, ?_, below2 w _ _, by rw [hsz, hsz]⟩
  · exact cell_of_row _ w.heap.size 0 _ _ (0, 0) (((below1 _ _).block _ (by rw [hsz]; omega)).trans (heap_alloc_new _ _))
  · have := heap_alloc_new (w.alloc (.cells #[.slice A m c] 26 (0, 0))) (.cells #[.int .i64 x] 3 (0, 0))
    rw [hsz] at this
    exact cell_of_row _ (w.heap.size + 1) 0 _ _ (0, 0) this
theorem kp_of_below {V : Nat → Prop} {n₀ : Nat} {W W' : World} (h : Below W.heap.size W W') : Kp V n₀ W W' := ⟨h.os, h.tape, h.output, h.size, fun k hk _ => h.block k hk⟩
theorem keeps_of_below {B : Nat} {W W' : World} (h : Below W.heap.size W W') : KeepsFrom B W W' := ⟨h.size, fun k o _ hk _ => (h.block k (Array.getElem?_eq_some_iff.1 hk).1).trans hk⟩
theorem block_own {β : Type} (B : Nat) (g ty : Nat) (cs : Array Value) : OwnFrom B (fun (_ : β) W => W.heap[g]? = some (.cells cs ty (0, 0))) := fun _ W W' row hs hg hr => (hg.block g (Array.getElem?_eq_some_iff.1 hs).1 (fun e => by
  obtain ⟨_, o, ho, hc⟩ := hr g e.symm
  rw [hs] at ho
  cases ho
  cases hc)).trans hs
end Go.Proofs.Yticihnoekffelaa.Of
namespace Go.Proofs.Yticihnoekffelaa.SfP
set_option maxRecDepth 8000
open Recs SegW LogW SrP BfP CtP
open LgP (bats segs logOk)
set_option linter.unusedVariables false
theorem all_mem {T : Type} [Inhabited T] {p : T → Prop} {l : List T} : (∀ i, i < l.length → p (l.getD i default)) ↔ ∀ x ∈ l, p x := by
  constructor
  · intro h x hx
    obtain ⟨i, hi, rfl⟩ := List.getElem_of_mem hx
    have := h i hi
    rwa [List.getD_eq_getElem?_getD, List.getElem?_eq_getElem hi, Option.getD_some] at this
  · intro h i hi
    rw [List.getD_eq_getElem?_getD, List.getElem?_eq_getElem hi, Option.getD_some]
    exact h _ (List.getElem_mem hi)
theorem cutB_ok {b : Bat} {x : Int} (h : BOk.batOk b = true) (hx : b.base < x) : BOk.batOk (cutB x b) = true := by
  unfold cutB
  split
  · rename_i hc
    unfold bEnd at hc
    simp only [BOk.batOk, BOk.okB3, BOk.inR, Bool.and_eq_true, decide_eq_true_eq, Bool.or_eq_true, Bool.not_eq_true', List.all_eq_true] at h ⊢
    obtain ⟨⟨⟨⟨h1, h2⟩, ⟨⟨h3, h4⟩, h5⟩, h6⟩, h7⟩, h8⟩ := h
    have hl : (b.recs.take (x - b.base).toNat).length = (x - b.base).toNat := by rw [List.length_take]; omega
    refine ⟨⟨⟨⟨h1, h2⟩, ⟨⟨?_, ?_⟩, ?_⟩, ?_⟩, fun y hy => h7 y (List.mem_of_mem_take hy)⟩, ?_⟩
    · rw [hl]; omega
    · rw [hl]; omega
    · rw [hl]; omega
    · rw [hl]; omega
    · rcases h8 with h8 | ⟨h8, h9⟩
      · exact .inl h8
      · omega
  · exact h
theorem cutB_end (x : Int) (b : Bat) : (cutB x b).base = b.base ∧ (cutB x b).epoch = b.epoch ∧ (cutB x b).recs.length ≤ b.recs.length := by
  unfold cutB
  split
  · exact ⟨rfl, rfl, by simp [List.length_take]; omega⟩
  · exact ⟨rfl, rfl, Nat.le_refl _⟩
theorem bats_cut (x : Int) : ∀ (bs : List Bat) (f e f' e' f0 e0 : Int), bats f e bs = some (f', e') → f0 ≤ f → e0 ≤ e → ∃ f1 e1, bats f0 e0 (cutBs x bs) = some (f1, e1) ∧ f1 ≤ f' ∧ e1 ≤ e'
  | [], f, e, f', e', f0, e0, h, hf, he => by
    simp only [bats, Option.some.injEq, Prod.mk.injEq] at h
    obtain ⟨rfl, rfl⟩ := h
    exact ⟨f0, e0, rfl, hf, he⟩
  | b :: t, f, e, f', e', f0, e0, h, hf, he => by
    unfold bats at h
    split at h
    · rename_i hc
      have hl := LgP.okLen hc.1
      unfold cutBs
      split
      · rename_i hx
        obtain ⟨a1, a2, a3⟩ := cutB_end x b
        obtain ⟨f1, e1, g1, g2, g3⟩ := bats_cut x t _ _ _ _ ((cutB x b).base + (cutB x b).recs.length) (cutB x b).epoch h (by omega) (by omega)
        refine ⟨f1, e1, ?_, g2, g3⟩
        unfold bats
        rw [if_pos ⟨cutB_ok hc.1 hx, by omega, by omega⟩]
        exact g1
      · exact bats_cut x t _ _ _ _ f0 e0 h (by omega) (by omega)
    · cases h
theorem segs_cut (x : Int) : ∀ (ss : List Sg) (f e f' f0 e0 : Int), segs f e ss = some f' → f0 ≤ f → e0 ≤ e → ∃ f1, segs f0 e0 (cutSs x ss) = some f1
  | [], f, e, f', f0, e0, h, hf, he => ⟨f0, rfl⟩
  | s :: t, f, e, f', f0, e0, h, hf, he => by
    obtain ⟨h1, h2, f2, e2, h3, h4⟩ := segs_head h
    obtain ⟨f3, e3, g1, g2, g3⟩ := bats_cut x s.bats _ _ _ _ s.base e0 h3 (Int.le_refl _) he
    unfold cutSs one
    split
    · rename_i hz
      have hz' := List.length_eq_zero_iff.1 hz
      rw [hz'] at g1
      simp only [bats, Option.some.injEq, Prod.mk.injEq] at g1
      have := LgP.bats_le _ _ _ _ _ h3
      exact segs_cut x t _ _ _ f0 e0 h4 (by omega) (by omega)
    · rename_i hz
      obtain ⟨f4, g4⟩ := segs_cut x t _ _ _ f3 e3 h4 g2 g3
      refine ⟨f4, ?_⟩
      show segs f0 e0 (⟨s.base, cutBs x s.bats⟩ :: cutSs x t) = some f4
      unfold segs
      rw [if_pos ⟨by show f0 ≤ s.base; omega, fun h => absurd h hz⟩]
      show (match bats s.base e0 (cutBs x s.bats) with | none => none | some (f, e) => segs f e (cutSs x t)) = some f4
      rw [g1]
      exact g4
theorem few_take {r : List Rec} {n k : Nat} (h : r.length ≤ n) : (r.take k).length ≤ n := by rw [List.length_take]; omega
theorem few_cutB (x : Int) {b : Bat} (h : FewB b) : FewB (cutB x b) := by
  unfold cutB
  split
  · exact ⟨few_take h.1, all_mem.2 fun y hy => all_mem.1 h.2 y (List.mem_of_mem_take hy)⟩
  · exact h
theorem few_cutBs (x : Int) : ∀ {bs : List Bat}, (∀ b ∈ bs, FewB b) → ∀ b ∈ cutBs x bs, FewB b
  | [], _, b, hb => by simp [cutBs] at hb
  | a :: t, h, b, hb => by
    unfold cutBs at hb
    split at hb
    · rcases List.mem_cons.1 hb with rfl | hb
      · exact few_cutB x (h a (by simp))
      · exact few_cutBs x (fun y hy => h y (by simp [hy])) b hb
    · exact few_cutBs x (fun y hy => h y (by simp [hy])) b hb
theorem cutBs_le (x : Int) : ∀ bs : List Bat, (cutBs x bs).length ≤ bs.length
  | [] => Nat.le_refl _
  | b :: t => by
    have := cutBs_le x t
    unfold cutBs
    split <;> simp only [List.length_cons] <;> omega
theorem few_cutSs (x : Int) : ∀ {ss : List Sg}, (∀ s ∈ ss, FewS s) → ∀ s ∈ cutSs x ss, FewS s
  | [], _, s, hs => by simp [cutSs] at hs
  | a :: t, h, s, hs => by
    unfold cutSs one at hs
    rcases List.mem_append.1 hs with hs | hs
    · split at hs
      · simp at hs
      · obtain rfl := List.mem_singleton.1 hs
        have ha := h a (by simp)
        exact ⟨Nat.le_trans (cutBs_le x _) ha.1, all_mem.2 (few_cutBs x (all_mem.1 ha.2))⟩
    · exact few_cutSs x (fun y hy => h y (by simp [hy])) s hs
theorem flat_le (x : Int) : ∀ ss : List Sg, (flatB (cutSs x ss)).length ≤ (flatB ss).length
  | [] => Nat.le_refl _
  | s :: t => by
    have h1 := flat_le x t
    have h2 := cutBs_le x s.bats
    unfold cutSs one
    split
    · simp only [List.nil_append, flatB, List.length_append]; omega
    · simp only [List.cons_append, List.nil_append, flatB, List.length_append]; omega
theorem segs_le (x : Int) : ∀ ss : List Sg, (cutSs x ss).length ≤ ss.length
  | [] => Nat.le_refl _
  | s :: t => by
    have h1 := segs_le x t
    unfold cutSs one
    split
    · simp only [List.nil_append, List.length_cons]; omega
    · simp only [List.cons_append, List.nil_append, List.length_cons]; omega
/-- A Batch and the value of its Records. -/
abbrev BV := Bat × Value
def fromP (x : Int) (ps : List BV) : List BV := ps.filter (fun p => pB x p.1)
theorem fromP_app (x : Int) (a b : List BV) : fromP x (a ++ b) = fromP x a ++ fromP x b := by simp [fromP]
theorem fromP_fst (x : Int) (ps : List BV) : (fromP x ps).map Prod.fst = fromB x (ps.map Prod.fst) := by
  unfold fromP fromB
  rw [List.filter_map]
  rfl
theorem getD_fst (ps : List BV) (i : Nat) : (ps.map Prod.fst).getD i default = (ps.getD i default).1 := by
  rw [List.getD_eq_getElem?_getD, List.getElem?_map, List.getD_eq_getElem?_getD]
  cases ps[i]? <;> rfl
theorem flatten_take {T : Type} {pss : List (List T)} {i : Nat} (h : i < pss.length) : (pss.take (i + 1)).flatten = (pss.take i).flatten ++ pss.getD i [] := by
  rw [show pss.take (i + 1) = pss.take i ++ [pss.getD i []] by rw [List.take_add_one, List.getElem?_eq_getElem h, List.getD_eq_getElem?_getD, List.getElem?_eq_getElem h]; rfl, List.flatten_append]
  simp only [List.flatten_cons, List.flatten_nil, List.append_nil]
theorem totP {x : Int} {pss : List (List BV)} {i : Nat} (h : i < pss.length) : fromP x pss.flatten = fromP x (pss.take i).flatten ++ (fromP x (pss.getD i []) ++ fromP x (pss.drop (i + 1)).flatten) := by
  rw [← fromP_app, ← fromP_app, ← List.append_assoc, ← flatten_take h, ← List.flatten_append, List.take_append_drop]
theorem fst_flat {pss : List (List BV)} : ∀ {ss : List Sg}, pss.length = ss.length → (∀ i, i < ss.length → (pss.getD i []).map Prod.fst = (ss.getD i default).bats) → pss.flatten.map Prod.fst = flatB ss := by
  induction pss with
  | nil =>
    intro ss h _
    have := List.length_eq_zero_iff.1 h.symm
    subst this
    rfl
  | cons p t ih =>
    intro ss h he
    cases ss with
    | nil => simp at h
    | cons s u =>
      have h0 := he 0 (by simp)
      simp only [List.getD_cons_zero] at h0
      rw [List.flatten_cons, List.map_append, h0, ih (ss := u) (by simpa using h) (fun i hi => by have := he (i + 1) (by simpa using hi); simpa using this)]
      rfl
theorem fst_take {pss : List (List BV)} {ss : List Sg} (hl : pss.length = ss.length) (he : ∀ i, i < ss.length → (pss.getD i []).map Prod.fst = (ss.getD i default).bats) (r : Nat) : (pss.take r).flatten.map Prod.fst = flatB (ss.take r) := by
  refine fst_flat (by simp [hl]) fun i hi => ?_
  rw [List.length_take] at hi
  rw [getDT _ _ _ (by omega), List.getD_eq_getElem?_getD, List.getElem?_take_of_lt (by omega), ← List.getD_eq_getElem?_getD]
  exact he i (by omega)
theorem fromP_nil {x : Int} {ps : List BV} (h : fromB x (ps.map Prod.fst) = []) : fromP x ps = [] := by
  rw [← fromP_fst] at h
  exact List.map_eq_nil_iff.1 h
theorem found_pairs {x : Int} {ps : List BV} {bs : List Bat} {r : Nat} (he : ps.map Prod.fst = bs) (h : Fnd (fun i => pB x (bs.getD i default)) bs.length r) (hm : ∀ i j, i ≤ j → j < bs.length → pB x (bs.getD i default) = true → pB x (bs.getD j default) = true) : fromP x ps = ps.drop r := by
  subst he
  have hr := h.le
  rw [List.length_map] at hr
  conv => lhs; rw [← List.take_append_drop r ps]
  rw [fromP_app]
  have h1 : fromP x (ps.take r) = [] := by
    unfold fromP
    rw [List.filter_eq_nil_iff]
    refine all_mem.1 fun i hi => ?_
    rw [List.length_take] at hi
    rw [getDT _ _ _ (by omega), ← getD_fst, h.no i (by omega)]
    simp
  have h2 : fromP x (ps.drop r) = ps.drop r := by
    unfold fromP
    rw [List.filter_eq_self]
    refine all_mem.1 fun i hi => ?_
    rw [List.length_drop] at hi
    rw [getDD, ← getD_fst]
    exact hm r (r + i) (by omega) (by rw [List.length_map]; omega) (h.yes (by rw [List.length_map]; omega))
  rw [h1, h2, List.nil_append]
end Go.Proofs.Yticihnoekffelaa.SfP
