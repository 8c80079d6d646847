/- What every range over batchesFrom wants; The least of a number and of where what is open began; Lists of Gone of the call's own; data alone. -/
import Derived.Scope
import Derived.BigQuiet
import Derived.Test.YtdnfnjlnfmafkaaJVS25
import Derived.Test.YtdnfnjlnfmafkaaJVS06
import Derived.Test.YtdnfnjlnfmafkaaJVS21
import Derived.Test.YtdnfnjlnfmafkaaJVS15
import Derived.Test.YtdnfnjlnfmafkaaJVS02
namespace Go.Proofs.Ytdnfnjlnfmafkaa.Of
set_option maxRecDepth 8000
open Go.RowKit Go.Shelf
open Recs
open Bats SegW Segs LogW BfP BfI
open LgP (logOk)
set_option linter.unusedVariables false
attribute [local go_sem] Oper.semAt_some
theorem at1 (w : World) (o : Obj) : (w.alloc o).heap[w.heap.size]? = some o := heap_alloc_new _ _
theorem four {w : World} {g ty : Nat} {t : Lg} {v : Value} (h : w.heap[g]? = some (.cells (logArr t v) ty (0, 0))) : w.cell? ⟨g, 0, none⟩ = some (.int .i64 t.start) ∧ w.cell? ⟨g, 1, none⟩ = some (.int .i64 t.next) ∧ w.cell? ⟨g, 2, none⟩ = some (.int .i64 t.roll) ∧ w.cell? ⟨g, 3, none⟩ = some v :=
  ⟨cell_of_row w g 0 _ _ (0, 0) h, cell_of_row w g 1 _ _ (0, 0) h, cell_of_row w g 2 _ _ (0, 0) h, cell_of_row w g 3 _ _ (0, 0) h⟩
theorem flat_count : ∀ ss : List Sg, (flatB ss).length = LgP.many ss
  | [] => rfl
  | s :: t => by simp only [flatB, List.length_append, flat_count t, LgP.many]
theorem okB_flat {ss : List Sg} {f e f' : Int} (h : LgP.segs f e ss = some f') : ∀ b ∈ flatB ss, BOk.batOk b = true := by
  have key : ∀ (ss : List Sg) (f e f' : Int), LgP.segs f e ss = some f' → ∀ b ∈ flatB ss, BOk.batOk b = true := by
    intro ss
    induction ss with
    | nil => intro f e f' _ b hb; simp [flatB] at hb
    | cons s t ih =>
      intro f e f' h b hb
      obtain ⟨h1, h2, f1, e1, h3, h4⟩ := SrP.segs_head h
      simp only [flatB, List.mem_append] at hb
      rcases hb with hb | hb
      · obtain ⟨k, hk, rfl⟩ := List.getElem_of_mem hb
        have := SrP.bats_ok _ _ _ _ _ h3 k hk
        rw [List.getD_eq_getElem?_getD, List.getElem?_eq_getElem hk] at this
        simpa using this
      · exact ih f1 e1 f' h4 b hb
  exact key ss f e f' h
theorem ok_all {l : Lg} (h : logOk l = true) : ∃ f, LgP.segs 0 0 l.segs = some f ∧ f ≤ l.next ∧ l.segs.length ≤ 60 ∧ 0 ≤ l.start ∧ l.start ≤ l.next ∧ l.next ≤ 1000000000 ∧ LgP.many l.segs ≤ 400 := by
  unfold LgP.logOk LgP.bounds LgP.counts LgP.stands at h
  simp only [Bool.and_eq_true, decide_eq_true_eq, LgP.inR] at h
  obtain ⟨⟨⟨a1, a2⟩, ⟨a3, a4⟩, a5⟩, ⟨a6, a7⟩, a8⟩ := h
  cases hs : LgP.segs 0 0 l.segs with
  | none => rw [hs] at a8; cases a8
  | some f =>
    rw [hs] at a8
    exact ⟨f, rfl, by simpa using a8, a6, a3, a4, a2, a7⟩
theorem batchesFrom_any (v : Value) (x : Int) (A : Option Addr) (m c : Nat) (w : World) (hv : v = .slice A m c) :
    Calls Try.prog 23 #[v, .int .i64 x] w fun e w' => e = .returned (.func (.func 44) #[] #[.pointer (some ⟨w.heap.size, 0, none⟩), .pointer (some ⟨w.heap.size + 1, 0, none⟩)]) ∧ w'.cell? ⟨w.heap.size, 0, none⟩ = some v ∧ w'.cell? ⟨w.heap.size + 1, 0, none⟩ = some (.int .i64 x) ∧ Below w.heap.size w w' ∧ w'.heap.size = w.heap.size + 2 := by
  subst hv
  go_enter Try.func23, Try.ntmps23
  go_wp2_with fail
  go_ret
  refine ⟨rfl, ?_, ?_, below2 w _ _, by rw [hsz, hsz]⟩
  · exact cell_of_row _ w.heap.size 0 _ _ (0, 0) (((below1 _ _).block _ (by rw [hsz]; omega)).trans (heap_alloc_new _ _))
  · have := heap_alloc_new (w.alloc (.cells #[.slice A m c] 29 (0, 0))) (.cells #[.int .i64 x] 3 (0, 0))
    rw [hsz] at this
    exact cell_of_row _ (w.heap.size + 1) 0 _ _ (0, 0) this
theorem kp_of_below {V : Nat → Prop} {n₀ : Nat} {W W' : World} (h : Below W.heap.size W W') : Kp V n₀ W W' := ⟨h.os, h.tape, h.output, h.size, fun k hk _ => h.block k hk⟩
theorem keeps_of_below {B : Nat} {W W' : World} (h : Below W.heap.size W W') : KeepsFrom B W W' := ⟨h.size, fun k o _ hk _ => (h.block k (Array.getElem?_eq_some_iff.1 hk).1).trans hk⟩
theorem block_own {β : Type} (B : Nat) (g ty : Nat) (cs : Array Value) : OwnFrom B (fun (_ : β) W => W.heap[g]? = some (.cells cs ty (0, 0))) := fun _ W W' row hs hg hr => (hg.block g (Array.getElem?_eq_some_iff.1 hs).1 (fun e => by
  obtain ⟨_, o, ho, hc⟩ := hr g e.symm
  rw [hs] at ho
  cases ho
  cases hc)).trans hs
end Go.Proofs.Ytdnfnjlnfmafkaa.Of
namespace Go.Proofs.Ytdnfnjlnfmafkaa.SdL
set_option maxRecDepth 8000
open Go.RowKit Go.Maps
open Ls SdQ SdM
open Recs (hsz below1 below2 chain Bat batVal)
set_option linter.unusedVariables false
/-- No producer twice. -/
def Uniq (st : List Gon) : Prop := ∀ g ∈ st, fnd g.producer st = some g.first
theorem uniq_nil : Uniq [] := fun g h => by cases h
theorem uniq_app {st : List Gon} (h : Uniq st) {p f l : Int} (hp : fnd p st = none) : Uniq (st ++ [⟨p, f, l⟩]) := fun g hg => by
  rw [fnd_app]
  rcases List.mem_append.1 hg with e | e
  · rw [h g e]; rfl
  · simp only [List.mem_singleton] at e
    subst e
    rw [hp]
    simp
theorem uniq_del {st : List Gon} (h : Uniq st) (p : Int) : Uniq (del p st) := fun g hg => by
  have hm := List.mem_filter.1 hg
  rw [fnd_del]
  have hne : ¬ g.producer = p := by simpa using hm.2
  rw [if_neg hne]
  exact h g hm.1
theorem uniq_opn {st : List Gon} (h : Uniq st) (b : Bat) : Uniq (opn2 st b) := by
  unfold opn2
  split
  · exact uniq_del h _
  · split
    · rename_i h1
      simp only [Bool.and_eq_true, Option.isNone_iff_eq_none] at h1
      exact uniq_app h h1.2
    · exact h
theorem least_le (l : List Gon) : ∀ a, least a l ≤ a ∧ ∀ g ∈ l, least a l ≤ g.first := by
  induction l with
  | nil => intro a; exact ⟨Int.le_refl _, fun g h => by cases h⟩
  | cons x r ih =>
    intro a
    have h1 := ih (min a x.first)
    show least (min a x.first) r ≤ a ∧ _
    refine ⟨Int.le_trans h1.1 (Int.min_le_left _ _), fun g hg => ?_⟩
    rcases List.mem_cons.1 hg with e | e
    · subst e; exact Int.le_trans h1.1 (Int.min_le_right _ _)
    · exact h1.2 g e
theorem least_is (l : List Gon) : ∀ a, least a l = a ∨ ∃ g ∈ l, least a l = g.first := by
  induction l with
  | nil => intro a; exact .inl rfl
  | cons x r ih =>
    intro a
    show least (min a x.first) r = a ∨ _
    rcases ih (min a x.first) with h | ⟨g, hg, h⟩
    · by_cases hx : a ≤ x.first
      · left; rw [h]; omega
      · right; refine ⟨x, List.mem_cons_self, ?_⟩
        show least (min a x.first) r = _
        rw [h]; omega
    · right; exact ⟨g, List.mem_cons_of_mem _ hg, h⟩
theorem fnd_mem {p f : Int} : ∀ {l : List Gon}, fnd p l = some f → ∃ g ∈ l, g.first = f
  | [], h => by cases h
  | x :: r, h => by
    simp only [fnd] at h
    split at h
    · exact ⟨x, List.mem_cons_self, by cases h; rfl⟩
    · obtain ⟨g, h1, h2⟩ := fnd_mem h
      exact ⟨g, List.mem_cons_of_mem _ h1, h2⟩
/-- Whoever is no more than all, and one of them, is the least. -/
theorem least_eq {a m : Int} {st : List Gon} (hu : Uniq st) (h1 : m ≤ a) (h2 : ∀ p f, fnd p st = some f → m ≤ f) (h3 : m = a ∨ ∃ p f, fnd p st = some f ∧ m = f) : m = least a st := by
  have l1 := least_le st a
  have e1 : m ≤ least a st := by
    rcases least_is st a with h | ⟨g, hg, h⟩
    · rw [h]; exact h1
    · rw [h]; exact h2 _ _ (hu g hg)
  have e2 : least a st ≤ m := by
    rcases h3 with h | ⟨p, f, hf, h⟩
    · rw [h]; exact l1.1
    · obtain ⟨g, hg, e⟩ := fnd_mem hf
      rw [h, ← e]; exact l1.2 g hg
  omega
set_option maxHeartbeats 1600000 in
theorem least_any (a : Int) (bm n : Nat) (st : List Gon) (w : World) (h : MapAt w bm n st) (hu : Uniq st) :
    Calls Try.prog 43 #[.map (some bm), .int .i64 a] w fun e w' => e = .returned (.int .i64 (least a st)) ∧ w.grownBy w' none := by
  obtain ⟨D, hown, hm⟩ := h
  have HM := Seg.hid hm
  clear hm
  go_enter Try.func43, Try.ntmps43
  go_wp2_with (first | (at_range; refine wpList_range_own _ rfl _ 82 rfl 3 3 law Try.underlying82 _ bm n _ rfl hown ?_; intro w0 hrg0 hg0 hs0))
  go_frame
  go_loopw [1] (fun x wr => ∃ (left : Lit → Bool) (cnt : Nat) (m : Int), x = .int .i64 m ∧ wr.ranges Try.prog 3 (plainElem Try.prog 3) bm w.heap.size n D left cnt ∧ w.grownBy wr none ∧ Hid (m ≤ a ∧ (∀ p f, fnd p st = some f → left (.int .i64 p) = false → m ≤ f) ∧ (m = a ∨ ∃ p f, fnd p st = some f ∧ m = f))) (fun _ wr => wr.rangeLeft bm w.heap.size)
  case atStart =>
    refine ⟨_, _, a, rfl, hrg0, hg0, Int.le_refl _, fun p f hf hl => ?_, .inl rfl⟩
    have := (HM.out p).1
    rw [hf] at this
    rw [this] at hl
    cases hl
  case round =>
    obtain ⟨left, cnt, m, rfl, hrg, hgw, HI⟩ := hrel
    go_wp2_with (first | (at_next; refine wpList_next_ranges_ii _ rfl _ rfl 3 3 .i64 .i64 law Try.underlying3 Try.underlying3 bm w.heap.size n _ _ _ rfl hrg ?_ ?_) | go_in)
    · intro _ hl0
      have Z := Seg.hid (least_eq hu HI.out.1 (fun p f hf => HI.out.2.1 p f hf (hl0 _)) HI.out.2.2)
      go_wp2
      go_ret
      exact ⟨by rw [← Z.out]; rfl, hgw⟩
    · intro x c w1 cnt1 hwx hwc hlx hat hrg1 hlt hg1 hs1 hen
      have hgw1 := hgw.andThen hg1 (fun j hj => by cases hj; exact Or.inl (Nat.le_refl _))
      have FX : Hid (fnd x st = some c) := by
        show _ = _
        have h1 := HM.out x
        have h2 : Maps.has D (.int .i64 x) = true := has_true_of_atKey hat
        rw [h2] at h1
        cases hq : fnd x st with
        | none => rw [hq] at h1; exact absurd h1.1 (by simp)
        | some f =>
          have h3 := h1.2 f hq (.lit (.int .i64 0))
          rw [hat] at h3
          cases h3; rfl
      have HN : Hid (min m c ≤ a ∧ (∀ p f, fnd p st = some f → (left (.int .i64 p) && !(Lit.int .i64 p).sameKey (.int .i64 x)) = false → min m c ≤ f) ∧ (min m c = a ∨ ∃ p f, fnd p st = some f ∧ min m c = f)) := by
        refine ⟨Int.le_trans (Int.min_le_left _ _) HI.out.1, fun p f hf hl => ?_, ?_⟩
        · by_cases hp : p = x
          · subst hp
            rw [FX.out] at hf
            cases hf
            exact Int.min_le_right _ _
          · have h4 : (Lit.int .i64 p).sameKey (.int .i64 x) = false := sameKey_ne (key_ne hp)
            rw [h4] at hl
            simp only [Bool.not_false, Bool.and_true] at hl
            exact Int.le_trans (Int.min_le_left _ _) (HI.out.2.1 p f hf hl)
        · by_cases hmc : m ≤ c
          · rw [show min m c = m by omega]; exact HI.out.2.2
          · right; exact ⟨x, c, FX.out, by omega⟩
      clear HI
      go_wp2
      go_roundw
      case rel => exact ⟨_, cnt1, min m c, congrArg (Value.int .i64) (by show (if c < m then c else m) = min m c; split <;> omega), hrg1, hgw1, HN.out⟩
      case measure => rw [hrg1.left_eq, hrg.left_eq]; exact hlt
end Go.Proofs.Ytdnfnjlnfmafkaa.SdL
namespace Go.Proofs.Ytdnfnjlnfmafkaa.Ow
set_option maxRecDepth 8000
open Go.RowKit
open Recs
open Ls
set_option linter.unusedVariables false
def EOGon : Elt Gon := EGon
theorem keepsOGon : KeepsO 3 EOGon := keepsO_of keepsGon
theorem atOGon (w : World) (S : Nat → Prop) (f : Nat → Value) (u : Gon) (h : EOGon w S f u) : EGon w S f u := h
abbrev GonsOwn := LOwn 50 3 EOGon
def mGon (k : Nat) (u : Gon) : Gon := ⟨(((k + 0) : Nat) : Int), (((k + 1) : Nat) : Int), (((k + 2) : Nat) : Int)⟩
def nGon (u : Gon) : Nat := 3
end Go.Proofs.Ytdnfnjlnfmafkaa.Ow
