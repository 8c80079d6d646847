/- Pairs of a Batch and the value of its Records: whose memory they are; Sets of blocks that hold cells alone; Lists of structs that are read, told by the set of their blocks: of any element; a copier's loop; what a measure leaves. -/
import Derived.RegionTactic
import Derived.Maps.AppendAt
import Derived.Laws.Rows
import Derived.Deep.RegionWith
import Derived.Outline
import Derived.Deep.Cut
import Derived.Test.YtggjinjadllapaaRows
import Derived.Test.YtggjinjadllapaaJSF17
import Derived.Test.YtggjinjadllapaaJSF12
import Derived.Test.YtggjinjadllapaaJSF13
import Derived.Test.YtggjinjadllapaaJSF03
namespace Go.Proofs.Ytggjinjadllapaa.SfO
set_option maxRecDepth 8000
open Go.RowKit
open Recs (hsz below1 chain RecsAt Bat Rec Row)
open Bats SegW Segs LogW BfP SfP BfQ
open Ft (OwnR OwnB OwnS keepsR recs_of)
set_option linter.unusedVariables false
/-- Each has Records of its own, in a set apart from the others. -/
def PO (w : World) : (Nat → Prop) → List BV → Prop
  | _, [] => True
  | S, p :: t => ∃ Q R : Nat → Prop, OwnR w Q p.2 p.1.recs ∧ (∀ x, Q x → S x) ∧ (∀ x, R x → S x) ∧ (∀ x, Q x → ¬ R x) ∧ PO w R t
theorem PO.mono {w : World} {S S' : Nat → Prop} (hs : ∀ x, S x → S' x) : ∀ {ps : List BV}, PO w S ps → PO w S' ps
  | [], _ => trivial
  | p :: t, ⟨Q, R, h1, h2, h3, h4, h5⟩ => ⟨Q, R, h1, fun x hx => hs x (h2 x hx), fun x hx => hs x (h3 x hx), h4, h5⟩
theorem PO.app {w : World} : ∀ {a b : List BV} {S S' : Nat → Prop}, PO w S a → PO w S' b → (∀ x, S x → ¬ S' x) → PO w (fun x => S x ∨ S' x) (a ++ b)
  | [], b, S, S', _, h, _ => h.mono fun x hx => .inr hx
  | p :: t, b, S, S', ⟨Q, R, h1, h2, h3, h4, h5⟩, h, hd => ⟨Q, fun x => R x ∨ S' x, h1, fun x hx => .inl (h2 x hx), fun x hx => hx.imp (h3 x) id, fun x hx hr => hr.elim (h4 x hx) (hd x (h2 x hx)), PO.app h5 h (fun x hx => hd x (h3 x hx))⟩
theorem PO.filter {w : World} (f : BV → Bool) : ∀ {ps : List BV} {S : Nat → Prop}, PO w S ps → PO w S (ps.filter f)
  | [], S, _ => trivial
  | p :: t, S, ⟨Q, R, h1, h2, h3, h4, h5⟩ => by
    by_cases hp : f p = true
    · rw [List.filter_cons_of_pos hp]
      exact ⟨Q, R, h1, h2, h3, h4, PO.filter f h5⟩
    · rw [List.filter_cons_of_neg hp]
      exact (PO.filter f h5).mono h3
theorem PO.keep {w w' : World} (hz : w.heap.size ≤ w'.heap.size) : ∀ {ps : List BV} {S : Nat → Prop}, PO w S ps → (∀ x, S x → w'.heap[x]? = w.heap[x]?) → PO w' S ps
  | [], _, _, _ => trivial
  | p :: t, S, ⟨Q, R, h1, h2, h3, h4, h5⟩, hk => ⟨Q, R, Ft.LOwn.keep keepsR h1 hz (fun x hx => hk x (h2 x hx)), h2, h3, h4, PO.keep hz h5 (fun x hx => hk x (h3 x hx))⟩
theorem PO.index {w : World} : ∀ {ps : List BV} {S : Nat → Prop}, PO w S ps → ∃ P : Nat → Nat → Prop, (∀ i, i < ps.length → OwnR w (P i) (ps.getD i default).2 (ps.getD i default).1.recs) ∧ (∀ i, i < ps.length → ∀ x, P i x → S x) ∧ (∀ i j, i < ps.length → j < ps.length → i ≠ j → ∀ x, P i x → ¬ P j x)
  | [], S, _ => ⟨fun _ _ => False, fun i hi => absurd hi (by simp), fun i hi => absurd hi (by simp), fun i j hi => absurd hi (by simp)⟩
  | p :: t, S, ⟨Q, R, h1, h2, h3, h4, h5⟩ => by
    obtain ⟨P, g1, g2, g3⟩ := PO.index h5
    refine ⟨fun i => match i with | 0 => Q | i + 1 => P i, fun i hi => ?_, fun i hi x hx => ?_, fun i j hi hj hij x hx => ?_⟩
    · match i with
      | 0 => exact h1
      | i + 1 => rw [List.getD_cons_succ]; exact g1 i (by simpa using hi)
    · match i with
      | 0 => exact h2 x hx
      | i + 1 => exact h3 x (g2 i (by simpa using hi) x hx)
    · match i, j with
      | 0, 0 => exact absurd rfl hij
      | 0, j + 1 => exact fun hr => h4 x hx (g2 j (by simpa using hj) x hr)
      | i + 1, 0 => exact fun hr => h4 x hr (g2 i (by simpa using hi) x hx)
      | i + 1, j + 1 => exact g3 i j (by simpa using hi) (by simpa using hj) (by omega) x hx
theorem PO.of {w : World} : ∀ {ps : List BV} {S : Nat → Prop} {P : Nat → Nat → Prop}, (∀ i, i < ps.length → OwnR w (P i) (ps.getD i default).2 (ps.getD i default).1.recs) → (∀ i, i < ps.length → ∀ x, P i x → S x) → (∀ i j, i < ps.length → j < ps.length → i ≠ j → ∀ x, P i x → ¬ P j x) → PO w S ps
  | [], _, _, _, _, _ => trivial
  | p :: t, S, P, h1, h2, h3 => by
    refine ⟨P 0, fun x => ∃ i, i < t.length ∧ P (i + 1) x, h1 0 (by simp), h2 0 (by simp), fun x ⟨i, hi, hx⟩ => h2 (i + 1) (by simpa using hi) x hx, fun x hx ⟨i, hi, hr⟩ => h3 0 (i + 1) (by simp) (by simpa using hi) (by omega) x hx hr, ?_⟩
    exact PO.of (P := fun i => P (i + 1)) (fun i hi => by have := h1 (i + 1) (by simpa using hi); rwa [List.getD_cons_succ] at this) (fun i hi x hx => ⟨i, hi, hx⟩) (fun i j hi hj hij => h3 (i + 1) (j + 1) (by simpa using hi) (by simpa using hj) (by omega))
theorem row_mine {w : World} {lo b ty s g n c : Nat} {F : Nat → Value} (hn : n ≤ 1048576) (h : ToO.MineC w ty s g n c F) (hl : lo ≤ g) (hb : g < b) : Row w lo b s (.slice (some ⟨g, 0, none⟩) n c) n (fun i j => F (i * s + j)) := by
  refine ⟨by omega, _, c, rfl, .inr ⟨g, 0, rfl, hb, h.le, fun i hi j hj => ?_, hl⟩⟩
  have hq : i * s + j < n * s := by
    have : (i + 1) * s ≤ n * s := Nat.mul_le_mul_right s hi
    rw [Nat.succ_mul] at this
    omega
  rw [Nat.zero_add]
  exact h.cell _ hq
theorem row_eqf {w : World} {lo b s n : Nat} {v : Value} {f f' : Nat → Nat → Value} (h : Row w lo b s v n f) (he : ∀ i, i < n → ∀ j, j < s → f i j = f' i j) : Row w lo b s v n f' := by
  obtain ⟨h0, A, c, h1, h2⟩ := h
  refine ⟨h0, A, c, h1, h2.imp id ?_⟩
  rintro ⟨g, o, h3, h4, h5, h6, h7⟩
  exact ⟨g, o, h3, h4, h5, fun i hi j hj => by rw [h6 i hi j hj, he i hi j hj], h7⟩
theorem getD_range {T : Type} [Inhabited T] (f : Nat → T) (n i : Nat) (h : i < n) : ((List.range n).map f).getD i default = f i := by
  rw [List.getD_eq_getElem?_getD, List.getElem?_map, List.getElem?_range h]; rfl
theorem map_range {T : Type} [Inhabited T] (ts : List T) : (List.range ts.length).map (fun i => ts.getD i default) = ts := by
  refine List.ext_getElem (by simp) fun i h1 h2 => ?_
  simp [List.getD_eq_getElem?_getD, List.getElem?_eq_getElem h2]
theorem bats_pairs {w : World} {S : Nat → Prop} {lo b : Nat} {v : Value} {ts : List Bat} (h : OwnB w S v ts) (hS : ∀ x, S x → lo ≤ x ∧ x < b) : ∃ ps : List BV, ps.map Prod.fst = ts ∧ BatsV w lo b v ps ∧ PO w S ps := by
  obtain ⟨h0, A, c, rfl, h2⟩ := h
  rcases h2 with h2 | ⟨g, F, P, rfl, h3, h4, h5⟩
  · have := List.length_eq_zero_iff.1 h2
    subst this
    exact ⟨[], rfl, ⟨⟨by simp, A, c, rfl, .inl rfl⟩, fun i hi => absurd hi (by simp)⟩, trivial⟩
  have el := h5.el
  have hl : ((List.range ts.length).map (fun i => (ts.getD i default, F (i * 7 + 6)))).length = ts.length := by simp
  refine ⟨(List.range ts.length).map (fun i => (ts.getD i default, F (i * 7 + 6))), ?_, ⟨?_, fun i hi => ?_⟩, PO.of (P := P) (fun i hi => ?_) (fun i hi => h4 i (by rw [hl] at hi; exact hi)) (fun i j hi hj => h5.disj i j (by rw [hl] at hi; exact hi) (by rw [hl] at hj; exact hj))⟩
  · rw [List.map_map]
    exact map_range ts
  · rw [hl]
    refine row_eqf (row_mine h0 h5.mine (hS g h3).1 (hS g h3).2) fun i hi j hj => ?_
    obtain ⟨⟨e0, e1, e2, e3, e4, e5⟩, _⟩ := el i hi
    have hg := getD_range (fun i => (ts.getD i default, F (i * 7 + 6))) ts.length i hi
    unfold batsCells
    rw [getD_fst, hg]
    match j, hj with
    | 0, _ => exact e0
    | 1, _ => exact e1
    | 2, _ => exact e2
    | 3, _ => exact e3
    | 4, _ => exact e4
    | 5, _ => exact e5
    | 6, _ =>
      show F (i * 7 + 6) = (((List.range ts.length).map (fun i => (ts.getD i default, F (i * 7 + 6)))).getD i default).2
      rw [hg]
  · rw [hl] at hi
    rw [getD_range _ _ i hi]
    exact recs_of (el i hi).2 (fun x hx => hS x (h4 i hi x hx))
  · rw [hl] at hi
    rw [getD_range _ _ i hi]
    exact (el i hi).2
theorem segs_pairs {w : World} {S : Nat → Prop} {lo b : Nat} {v : Value} {ss : List Sg} (h : OwnS w S v ss) (hS : ∀ x, S x → lo ≤ x ∧ x < b) : ∃ pss : List (List BV), SegsV w lo b v ss pss ∧ PO w S pss.flatten := by
  obtain ⟨h0, A, c, rfl, h2⟩ := h
  rcases h2 with h2 | ⟨g, F, P, rfl, h3, h4, h5⟩
  · have := List.length_eq_zero_iff.1 h2
    subst this
    exact ⟨[], ⟨rfl, fun i hi => absurd hi (by simp), fun _ => default, ⟨by simp, A, c, rfl, .inl rfl⟩, fun i hi => absurd hi (by simp)⟩, trivial⟩
  have el := h5.el
  have key : ∀ i, ∃ ps : List BV, i < ss.length → ps.map Prod.fst = (ss.getD i default).bats ∧ BatsV w lo b (F (i * 2 + 1)) ps ∧ PO w (P i) ps := fun i => by
    by_cases hi : i < ss.length
    · obtain ⟨ps, g1, g2, g3⟩ := bats_pairs (lo := lo) (b := b) (el i hi).2 (fun x hx => hS x (h4 i hi x hx))
      exact ⟨ps, fun _ => ⟨g1, g2, g3⟩⟩
    · exact ⟨[], fun h => absurd h hi⟩
  obtain ⟨K, hK⟩ := Classical.axiomOfChoice key
  have hl : ((List.range ss.length).map K).length = ss.length := by simp
  have hg : ∀ i, i < ss.length → ((List.range ss.length).map K).getD i [] = K i := fun i hi => by rw [List.getD_eq_getElem?_getD, List.getElem?_map, List.getElem?_range hi]; rfl
  refine ⟨(List.range ss.length).map K, ⟨hl, fun i hi => by rw [hg i hi]; exact (hK i hi).1, fun i => F (i * 2 + 1), ?_, fun i hi => by rw [hg i hi]; exact (hK i hi).2.1⟩, ?_⟩
  · refine row_eqf (row_mine h0 h5.mine (hS g h3).1 (hS g h3).2) fun i hi j hj => ?_
    match j, hj with
    | 0, _ => exact (el i hi).1
    | 1, _ => rfl
  · have : ∀ n, n ≤ ss.length → PO w (fun x => ∃ i, i < n ∧ P i x) ((List.range n).map K).flatten := fun n => by
      induction n with
      | zero => exact fun _ => trivial
      | succ n ih =>
        intro hn
        rw [List.range_succ, List.map_append, List.flatten_append]
        have h9 := PO.app (ih (by omega)) (b := (List.map K [n]).flatten) (S' := P n) (by simpa using (hK n (by omega)).2.2) (fun x ⟨i, hi, hx⟩ => h5.disj i n (by omega) (by omega) (by omega) x hx)
        exact h9.mono fun x hx => hx.elim (fun ⟨i, hi, hx⟩ => ⟨i, by omega, hx⟩) (fun hx => ⟨n, by omega, hx⟩)
    exact (this ss.length (Nat.le_refl _)).mono fun x ⟨i, hi, hx⟩ => h4 i hi x hx
/-- The cells of a row of pairs. -/
def cellsP (ps : List BV) : List Value := ps.flatMap (fun p => (BatW.batArr p.1 p.2).toList)
theorem cellsP_app (a : List BV) (p : BV) : cellsP (a ++ [p]) = cellsP a ++ (BatW.batArr p.1 p.2).toList := by simp [cellsP]
theorem cellsP_len : ∀ ps : List BV, (cellsP ps).length = ps.length * 7
  | [] => rfl
  | p :: t => by
    have := cellsP_len t
    unfold cellsP at this ⊢
    rw [List.flatMap_cons, List.length_append, this]
    simp only [BatW.batArr, List.length_cons, List.length_nil]
    omega
theorem cellsP_at : ∀ (ps : List BV) (i j : Nat), i < ps.length → j < 7 → (cellsP ps).getD (i * 7 + j) default = (BatW.batArr (ps.getD i default).1 (ps.getD i default).2).toList.getD j default
  | [], i, j, hi, _ => absurd hi (by simp)
  | p :: t, 0, j, _, hj => by
    unfold cellsP
    rw [List.flatMap_cons, List.getD_eq_getElem?_getD, List.getElem?_append_left (by simp [BatW.batArr]; omega), ← List.getD_eq_getElem?_getD]
    simp
  | p :: t, i + 1, j, hi, hj => by
    have := cellsP_at t i j (by simpa using hi) hj
    unfold cellsP at this ⊢
    rw [List.flatMap_cons, List.getD_eq_getElem?_getD, List.getElem?_append_right (by simp [BatW.batArr]; omega), ← List.getD_eq_getElem?_getD, List.getD_cons_succ, ← this]
    congr 1
    simp [BatW.batArr]
    omega
/-- A row of pairs with Records of their own is a list of Batches of one's own. -/
theorem own_of {w : World} {base n0 : Nat} {S : Nat → Prop} {v : Value} {ps : List BV} (hn : ps.length ≤ 1048576) (hr : w.ownsRow n0 52 7 v ps.length (cellsP ps)) (hp : PO w S ps) (hv : ∀ g, v.ownBlock = some g → ¬ S g) (hS : ∀ x, S x → base ≤ x ∧ x < w.heap.size) (hb : base ≤ n0) : OwnB w (Ft.seg base w.heap.size) v (ps.map Prod.fst) := by
  rcases hr.2 with ⟨h1, h2⟩ | ⟨g, cap, cur, rfl, hbs, hgg, hnc, hcm, hcs, htake⟩
  · have := List.length_eq_zero_iff.1 h2
    subst this
    exact h1 ▸ Ft.LOwn.nil _ _ _ _
  obtain ⟨P, p1, p2, p3⟩ := hp.index
  have hlt : g < w.heap.size := (Array.getElem?_eq_some_iff.1 hgg).1
  have hl : (ps.map Prod.fst).length = ps.length := by simp
  refine ⟨by rw [hl]; exact hn, _, cap, by rw [hl], .inr ⟨g, fun q => (cellsP ps).getD q default, P, rfl, ⟨by omega, hlt⟩, fun i hi x hx => hS x (p2 i (by rw [hl] at hi; exact hi) x hx), ⟨?_, rfl, fun i hi => ?_, fun i hi x hx => ?_, fun i j hi hj => p3 i j (by rw [hl] at hi; exact hi) (by rw [hl] at hj; exact hj)⟩⟩⟩
  · rw [hl]
    have e : (List.range (ps.length * 7)).map (fun q => (cellsP ps).getD q default) = cellsP ps := by
      rw [← cellsP_len]
      exact map_range _
    show w.ownsRow g _ _ _ _ _
    rw [e]
    exact ⟨hr.1, .inr ⟨g, cap, cur, rfl, Nat.le_refl _, hgg, hnc, hcm, hcs, htake⟩⟩
  · rw [hl] at hi
    rw [getD_fst]
    have hc := fun j hj => cellsP_at ps i j hi hj
    refine ⟨⟨hc 0 (by omega), hc 1 (by omega), hc 2 (by omega), hc 3 (by omega), hc 4 (by omega), hc 5 (by omega)⟩, ?_⟩
    have h6 : (cellsP ps).getD (i * 7 + 6) default = (ps.getD i default).2 := hc 6 (by omega)
    show OwnR w (P i) ((cellsP ps).getD (i * 7 + 6) default) _
    rw [h6]
    exact p1 i hi
  · rw [hl] at hi
    have hx' := p2 i hi x hx
    exact ⟨fun e => hv g rfl (e ▸ hx'), (hS x hx').2⟩
end Go.Proofs.Ytggjinjadllapaa.SfO
namespace Go.Proofs.Ytggjinjadllapaa.Ft
set_option maxRecDepth 8000
open Go.RowKit
open Recs
open ToO (MineC)
set_option linter.unusedVariables false
/-- The block holds cells. -/
def IsC (w : World) (x : Nat) : Prop := ∃ cs t fr, w.heap[x]? = some (.cells cs t fr)
def Shrinks {T : Type} (EO : World → (Nat → Prop) → (Nat → Value) → T → Prop) : Prop := ∀ w S f t, EO w S f t → EO w (fun x => S x ∧ IsC w x) f t
theorem mine_isC {w : World} {ty nf g n c : Nat} {F : Nat → Value} (h : MineC w ty nf g n c F) : IsC w g := by
  rcases h.2 with ⟨h', _⟩ | ⟨g', cap', cur, h', hb, hg, _⟩
  · simp at h'
  · simp only [Value.slice.injEq, Option.some.injEq, Addr.mk.injEq, and_true, true_and] at h'
    obtain ⟨rfl, rfl⟩ := h'
    exact ⟨_, _, _, hg⟩
theorem LOwn.cells {T : Type} [Inhabited T] {ty nf : Nat} {EO : World → (Nat → Prop) → (Nat → Value) → T → Prop} (hE : Shrinks EO) {w : World} {S : Nat → Prop} {v : Value} {us : List T} (h : LOwn ty nf EO w S v us) : LOwn ty nf EO w (fun x => S x ∧ IsC w x) v us := by
  obtain ⟨h0, A, c, h1, h2⟩ := h
  refine ⟨h0, A, c, h1, h2.imp id ?_⟩
  rintro ⟨g, F, P, h3, h4, h5, h6⟩
  exact ⟨g, F, fun i x => P i x ∧ IsC w x, h3, ⟨h4, mine_isC h6.mine⟩, fun i hi x hx => ⟨h5 i hi x hx.1, hx.2⟩, h6.mine, h6.len, fun i hi => hE _ _ _ _ (h6.el i hi), fun i hi x hx => h6.apart i hi x hx.1, fun i j hi hj hij x hx hx' => h6.disj i j hi hj hij x hx.1 hx'.1⟩
theorem shrinksH : Shrinks EH := fun w S f t h => h
theorem shrinksR : Shrinks ER := fun w S f t h => ⟨h.1, LOwn.cells shrinksH h.2⟩
theorem shrinksB : Shrinks EB := fun w S f t h => ⟨h.1, LOwn.cells shrinksR h.2⟩
end Go.Proofs.Ytggjinjadllapaa.Ft
namespace Go.Proofs.Ytggjinjadllapaa.Ls
set_option maxRecDepth 8000
open Go.RowKit
open Recs
set_option linter.unusedVariables false

/-- The set of all blocks from lo on, below b. -/
def seg (lo b : Nat) (x : Nat) : Prop := lo ≤ x ∧ x < b
/-- What the cells of an element say of it; its lists lie in blocks of a set. -/
abbrev Elt (T : Type) := World → (Nat → Prop) → (Nat → Value) → T → Prop
section
variable {T : Type} [Inhabited T] {ty nf : Nat} {E : Elt T}
def Keeps (nf : Nat) (E : Elt T) : Prop := ∀ w w' S f f' t, E w S f t → (∀ g, S g → w'.heap[g]? = w.heap[g]?) → (∀ q, q < nf → f' q = f q) → E w' S f' t
def Grows (E : Elt T) : Prop := ∀ w S S' f t, E w S f t → (∀ g, S g → S' g) → E w S' f t
def LAt (nf : Nat) (E : Elt T) (w : World) (S : Nat → Prop) (v : Value) (us : List T) : Prop :=
  us.length ≤ 9223372036854775807 ∧ ∃ A c, v = .slice A us.length c ∧ (us.length = 0 ∨ ∃ (g o : Nat) (F : Nat → Nat → Value), A = some ⟨g, o, none⟩ ∧ S g ∧ us.length ≤ c ∧ (∀ i, i < us.length → ∀ j, j < nf → w.cell? ⟨g, o + i * nf + j, none⟩ = some (F i j)) ∧ ∀ i, i < us.length → E w S (F i) (us.getD i default))
theorem LAt.keep (hE : Keeps nf E) {w w' : World} {S : Nat → Prop} {v : Value} {us : List T} (h : LAt nf E w S v us) (hk : ∀ g, S g → w'.heap[g]? = w.heap[g]?) : LAt nf E w' S v us := by
  obtain ⟨h0, A, c, h1, h2⟩ := h
  refine ⟨h0, A, c, h1, h2.imp id ?_⟩
  rintro ⟨g, o, F, h3, h4, h5, h6, h7⟩
  exact ⟨g, o, F, h3, h4, h5, fun i hi j hj => by rw [World.cell?_of_block (w := w) (a := ⟨g, o + i * nf + j, none⟩) (hk g h4)]; exact h6 i hi j hj, fun i hi => hE _ _ _ _ _ _ (h7 i hi) hk (fun _ _ => rfl)⟩
theorem LAt.mono (hE : Grows E) {w : World} {S S' : Nat → Prop} {v : Value} {us : List T} (h : LAt nf E w S v us) (hs : ∀ g, S g → S' g) : LAt nf E w S' v us := by
  obtain ⟨h0, A, c, h1, h2⟩ := h
  refine ⟨h0, A, c, h1, h2.imp id ?_⟩
  rintro ⟨g, o, F, h3, h4, h5, h6, h7⟩
  exact ⟨g, o, F, h3, hs g h4, h5, h6, fun i hi => hE _ _ _ _ _ (h7 i hi) hs⟩
theorem LAt.below (hE : Keeps nf E) {w w' : World} {B : Nat} {S : Nat → Prop} {v : Value} {us : List T} (h : LAt nf E w S v us) (hb : Below B w w') (hs : ∀ g, S g → g < B) : LAt nf E w' S v us := h.keep hE fun g hg => hb.block g (hs g hg)
theorem LAt.form {w : World} {S : Nat → Prop} {v : Value} {us : List T} (h : LAt nf E w S v us) : ∃ A c, v = .slice A us.length c := by
  obtain ⟨_, A, c, h1, _⟩ := h
  exact ⟨A, c, h1⟩
theorem LAt.nil (w : World) (S : Nat → Prop) (A : Option Addr) (c : Nat) : LAt nf E w S (.slice A 0 c) ([] : List T) := ⟨by simp, A, c, rfl, .inl rfl⟩
theorem LAt.one {w : World} {S : Nat → Prop} {v : Value} {us : List T} (h : LAt nf E w S v us) : v.oneCell' = true := by
  obtain ⟨A, c, rfl⟩ := h.form
  rfl
theorem LAt.drewN {w : World} {S : Nat → Prop} {v : Value} {us : List T} (hE : Keeps nf E) (h : LAt nf E w S v us) (k : Nat) : LAt nf E (w.drewN k) S v us := h.keep hE fun _ _ => rfl
/-- What a copier's loop has done: j elements stand in a row of its own. -/
structure Done (ty nf : Nat) (E : Elt T) (w wr : World) (us : List T) (n j : Nat) (F : Nat → Value) : Prop where
  mine : Mine wr ty nf w.heap.size n F
  bel : Below w.heap.size w wr
  el : ∀ i, i < j → E wr (seg (w.heap.size + 1) wr.heap.size) (fun q => F (i * nf + q)) (us.getD i default)
theorem Done.step (hK : Keeps nf E) (hG : Grows E) {w wr w1 : World} {us : List T} {n j : Nat} {F : Nat → Value} (h : Done ty nf E w wr us n j F) (vs : List Value) (hv : vs.length = nf) (b1 : Below wr.heap.size wr w1) (he : E w1 (seg wr.heap.size w1.heap.size) (fun q => vs.getD q default) (us.getD j default)) :
    Done ty nf E w (w1.setCells w.heap.size (j * nf) vs) us n (j + 1) (Own.upd F (j * nf) vs) := by
  have hlt := h.mine.lt
  have keep : ∀ g, g ≠ w.heap.size → (w1.setCells w.heap.size (j * nf) vs).heap[g]? = w1.heap[g]? := fun g hg => Cells.heap_setCells_other _ _ hg
  have hsize := Cells.size_setCells (g := w.heap.size) vs (o := j * nf) w1
  have b1s := b1.size
  refine ⟨Own.mine_setCells _ _ _ _ (h.mine.below b1 hlt), Cells.below_setCells (Nat.le_refl _) _ _ _ _ (chain h.bel b1), fun i hi => ?_⟩
  by_cases e : i = j
  · subst e
    refine hG _ (seg wr.heap.size w1.heap.size) _ _ _ (hK _ _ _ _ _ _ he (fun g hg => keep g (by have := hg.1; omega)) (fun q hq => Own.upd_in (by omega))) (fun g hg => ⟨by have := hg.1; omega, by rw [hsize]; exact hg.2⟩)
  · refine hG _ (seg (w.heap.size + 1) wr.heap.size) _ _ _ (hK _ _ _ _ _ _ (h.el i (by omega)) (fun g hg => ?_) (fun q hq => ?_)) (fun g hg => ⟨hg.1, by rw [hsize]; exact Nat.lt_of_lt_of_le hg.2 b1s⟩)
    · exact (keep g (by have := hg.1; omega)).trans (b1.block g hg.2)
    · refine Own.upd_out (.inl ?_)
      have : (i + 1) * nf ≤ j * nf := Nat.mul_le_mul_right nf (by omega)
      rw [Nat.succ_mul] at this
      omega
theorem Done.all (hG : Grows E) {w wr : World} {us : List T} {F : Nat → Value} (h : Done ty nf E w wr us us.length us.length F) (hn : us.length ≤ 9223372036854775807) : LAt nf E wr (seg w.heap.size wr.heap.size) (.slice (some ⟨w.heap.size, 0, none⟩) us.length us.length) us := by
  refine ⟨hn, _, _, rfl, .inr ⟨w.heap.size, 0, fun i j => F (i * nf + j), rfl, ⟨Nat.le_refl _, h.mine.lt⟩, Nat.le_refl _, fun i hi j hj => ?_, fun i hi => hG _ _ _ _ _ (h.el i hi) (fun g hg => ⟨by have := hg.1; omega, hg.2⟩)⟩⟩
  have hq : i * nf + j < us.length * nf := by
    have : (i + 1) * nf ≤ us.length * nf := Nat.mul_le_mul_right nf hi
    rw [Nat.succ_mul] at this
    omega
  rw [Nat.zero_add]
  exact h.mine.cell _ hq
theorem cells_later {w w' : World} {g o n : Nat} {F : Nat → Nat → Value} (h : ∀ i, i < n → ∀ j, j < nf → w.cell? ⟨g, o + i * nf + j, none⟩ = some (F i j)) (hb : Below w.heap.size w w') (hg : g < w.heap.size) :
    ∀ i, i < n → ∀ j, j < nf → w'.cell? ⟨g, o + i * nf + j, none⟩ = some (F i j) := fun i hi j hj => by rw [hb.cell (p := ⟨g, o + i * nf + j, none⟩) hg]; exact h i hi j hj
end
/-- A measure that had l left, and has q left behind n more (below 0: there were fewer). -/
def Lf (l : Int) (n : Nat) (q : Int) : Prop := (0 ≤ q → q = l - n) ∧ (q < 0 → l < n)
section
variable {T : Type} (f : T → Nat)
def tot : List T → Nat
  | [] => 0
  | t :: r => f t + tot r
def szL (us : List T) : Nat := us.length + tot f us
theorem tot_app : ∀ (a b : List T), tot f (a ++ b) = tot f a + tot f b
  | [], b => by simp [tot]
  | t :: r, b => by simp only [List.cons_append, tot, tot_app r b]; omega
theorem tot_take [Inhabited T] {ts : List T} {j : Nat} (h : j < ts.length) : tot f (ts.take (j + 1)) = tot f (ts.take j) + f (ts.getD j default) := by
  have : ts.take (j + 1) = ts.take j ++ [ts.getD j default] := by rw [List.take_add_one, List.getElem?_eq_getElem h]; simp [h]
  rw [this, tot_app]; simp [tot]
theorem tot_le (ts : List T) (j : Nat) : tot f (ts.take j) ≤ tot f ts := by
  have := tot_app f (ts.take j) (ts.drop j)
  rw [List.take_append_drop] at this
  omega
theorem tot_one [Inhabited T] {ts : List T} {j : Nat} (h : j < ts.length) : f (ts.getD j default) ≤ tot f ts := by
  have a := tot_take f h
  have b := tot_le f ts (j + 1)
  omega
theorem tot_zero (hf : ∀ t, f t = 0) : ∀ us : List T, tot f us = 0
  | [] => rfl
  | t :: r => by simp only [tot, hf t, tot_zero hf r]
theorem szL_len {ts : List T} {l : Nat} (h : szL f ts ≤ l) : ts.length ≤ l := by unfold szL at h; omega
theorem szL_one [Inhabited T] {ts : List T} {l j : Nat} (h : szL f ts ≤ l) (hj : j < ts.length) : f (ts.getD j default) ≤ l := by
  have := tot_one f hj
  unfold szL at h; omega
end
/-- A list that memory holds, of elements that it holds. -/
def FineL {T : Type} [Inhabited T] (P : T → Prop) (us : List T) : Prop := us.length ≤ maxLen ∧ ∀ i, i < us.length → P (us.getD i default)
def I64 (n : Int) : Prop := -9223372036854775808 ≤ n ∧ n ≤ 9223372036854775807
theorem at3z (w : World) (a b c : Obj) : (((w.alloc a).alloc b).alloc c).heap[w.heap.size]? = some a := by
  show (((w.heap.push a).push b).push c)[w.heap.size]? = some a
  rw [Array.getElem?_push, if_neg (by simp; omega), Array.getElem?_push, if_neg (by simp), Array.getElem?_push, if_pos rfl]
theorem at2z (w : World) (a b : Obj) : ((w.alloc a).alloc b).heap[w.heap.size]? = some a := by
  show ((w.heap.push a).push b)[w.heap.size]? = some a
  rw [Array.getElem?_push, if_neg (by simp), Array.getElem?_push, if_pos rfl]
theorem at2y (w : World) (a b : Obj) : ((w.alloc a).alloc b).heap[w.heap.size + 1]? = some b := by
  show ((w.heap.push a).push b)[w.heap.size + 1]? = some b
  rw [Array.getElem?_push, if_pos (by simp)]

/-- Numbers in a list. -/
def EI : Elt Int := fun _ _ f n => f 0 = .int .i64 n
theorem keepsI : Keeps 1 EI := fun w w' S f f' t h hk hf => by show f' 0 = _; rw [hf 0 (by omega)]; exact h
theorem growsI : Grows EI := fun w S S' f t h hs => h
abbrev IntsAt := LAt 1 EI
theorem int_cell {w : World} {S : Nat → Prop} {g o n : Nat} {ns : List Int} {F : Nat → Nat → Value} (h : ∀ i, i < n → ∀ j, j < 1 → w.cell? ⟨g, o + i * 1 + j, none⟩ = some (F i j)) (he : ∀ i, i < n → EI w S (F i) (ns.getD i default)) : ∀ i, i < n → w.cell? ⟨g, o + i, none⟩ = some (.int .i64 (ns.getD i default)) := fun i hi => by
  have := h i hi 0 (by omega)
  rw [show F i 0 = _ from he i hi] at this
  simpa using this
end Go.Proofs.Ytggjinjadllapaa.Ls
