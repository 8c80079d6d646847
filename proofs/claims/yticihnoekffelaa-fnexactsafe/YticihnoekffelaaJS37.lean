/- The beginning of a list of the call's own; A variable of struct type with a list in it that grows by append, and what lies beside it; The model's copy of a Batch. -/
import Derived.Test.YticihnoekffelaaJS14
import Derived.Test.YticihnoekffelaaJS15
import Derived.Test.YticihnoekffelaaJS16
namespace Go.Proofs.Yticihnoekffelaa.Ft
set_option maxRecDepth 8000
open Go.RowKit
open Recs
open ToO (MineC)
set_option linter.unusedVariables false
theorem mine_take {w : World} {ty nf g n c k : Nat} {F : Nat → Value} (h : MineC w ty nf g n c F) (hk : k ≤ n) : MineC w ty nf g k c F := by
  refine ⟨by simp, ?_⟩
  rcases h.2 with ⟨h', _⟩ | ⟨g', cap', cur, h', hb, hg, hnc, hcm, hcs, htake⟩
  · simp at h'
  · simp only [Value.slice.injEq, Option.some.injEq, Addr.mk.injEq, and_true, true_and] at h'
    obtain ⟨rfl, rfl⟩ := h'
    have hkn : k * nf ≤ n * nf := Nat.mul_le_mul_right nf hk
    refine .inr ⟨g, c, cur, rfl, hb, hg, by omega, hcm, hcs, ?_⟩
    have : cur.toList.take (k * nf) = (cur.toList.take (n * nf)).take (k * nf) := by rw [List.take_take, Nat.min_eq_left hkn]
    rw [this, htake, ← List.map_take, List.take_range, Nat.min_eq_left hkn]
theorem LOwn.take {T : Type} [Inhabited T] {ty nf : Nat} {EO : World → (Nat → Prop) → (Nat → Value) → T → Prop} {w : World} {S : Nat → Prop} {A : Option Addr} {c k : Nat} {us : List T} (h : LOwn ty nf EO w S (.slice A us.length c) us) (hk : k ≤ us.length) : LOwn ty nf EO w S (.slice A k c) (us.take k) := by
  obtain ⟨h0, A', c', h1, h2⟩ := h
  simp only [Value.slice.injEq] at h1
  obtain ⟨rfl, _, rfl⟩ := h1
  have hl : (us.take k).length = k := by rw [List.length_take]; omega
  refine ⟨by rw [hl]; omega, A, c, by rw [hl], ?_⟩
  rw [hl]
  by_cases hz : k = 0
  · exact .inl hz
  obtain ⟨g, F, P, h3, h4, h5, h6⟩ := h2.resolve_left (by omega)
  refine .inr ⟨g, F, P, h3, h4, fun i hi => h5 i (by omega), mine_take h6.mine hk, hl, fun i hi => ?_, fun i hi => h6.apart i (by omega), fun i j hi hj => h6.disj i j (by omega) (by omega)⟩
  rw [List.getD_eq_getElem?_getD, List.getElem?_take_of_lt hi, ← List.getD_eq_getElem?_getD]
  exact h6.el i (by omega)
end Go.Proofs.Yticihnoekffelaa.Ft
namespace Go.Proofs.Yticihnoekffelaa.Ft
set_option maxRecDepth 8000
open Go.RowKit
open Recs
set_option linter.unusedVariables false
section
variable {T : Type} [Inhabited T] {ty nf : Nat} {EO : World → (Nat → Prop) → (Nat → Value) → T → Prop}
/-- Blocks w.heap.size .. are the call's variables, m of them; q: the one with the list, in its cell p; 'fr': what the others hold. -/
structure GV (ty nf : Nat) (EO : World → (Nat → Prop) → (Nat → Value) → T → Prop) (w wr : World) (m q tyO : Nat) (row : Value → Array Value) (fr : Nat → Option Obj) (v : Value) (us : List T) : Prop where
  grow : LGrow ty nf EO wr (w.heap.size + m) v us
  out : wr.heap[q]? = some (.cells (row v) tyO (0, 0))
  front : ∀ x, w.heap.size ≤ x → x < w.heap.size + m → x ≠ q → wr.heap[x]? = fr x
  bel : Below w.heap.size w wr
  size : w.heap.size + m ≤ wr.heap.size
/-- Later, where no variable was written. -/
theorem GV.later (hE : Keeps nf EO) {w wr w' : World} {m q tyO : Nat} {row : Value → Array Value} {fr : Nat → Option Obj} {v : Value} {us : List T} (h : GV ty nf EO w wr m q tyO row fr v us) (hq : q < w.heap.size + m) (b : Below wr.heap.size wr w') : GV ty nf EO w w' m q tyO row fr v us := by
  have hs := h.size
  exact ⟨h.grow.below hE b, (b.block q (by omega)).trans h.out, fun x h1 h2 h3 => (b.block x (by omega)).trans (h.front x h1 h2 h3), chain h.bel b, Nat.le_trans hs b.size⟩
/-- One element more: w8: ahead of the element's own block o; w9: behind append. -/
theorem GV.push (hE : Keeps nf EO) {w wr w8 w9 : World} {m q p tyO : Nat} {row : Value → Array Value} {fr : Nat → Option Obj} {v : Value} {us : List T} {F : Nat → Value} {P : Nat → Nat → Prop} {t : T} {Q : Nat → Prop} {news : List Value} {o : Obj} {g cap : Nat} (h : GV ty nf EO w wr m q tyO row fr v us) (hq1 : w.heap.size ≤ q) (hq2 : q < w.heap.size + m)
    (hcell : (row v)[p]? = some v) (hrow : ∀ v', (row v).setIfInBounds p v' = row v') (hG : LGr ty nf EO wr (w.heap.size + m) v us F P) (b8 : Below wr.heap.size wr w8) (he : EO (w8.alloc o) Q (fun q => news.getD q default) t) (hQ : ∀ x, Q x → wr.heap.size ≤ x ∧ x < w8.heap.size) (hl : news.length = nf)
    (hown : w9.ownsRow (w.heap.size + m) ty nf (.slice (some ⟨g, 0, none⟩) (us.length + 1) cap) (us.length + 1) ((List.range (us.length * nf)).map F ++ news)) (gr : (w8.alloc o).grownBy w9 v.ownBlock) (hg : v.ownBlock = some g ∨ g = w8.heap.size + 1) :
    GV ty nf EO w (w9.setCell ⟨q, p, none⟩ (.slice (some ⟨g, 0, none⟩) (us.length + 1) cap)) m q tyO row fr (.slice (some ⟨g, 0, none⟩) (us.length + 1) cap) (us ++ [t]) ∧ w9.cell? ⟨q, p, none⟩ = some v ∧ w9.frozen? ⟨q, p, none⟩ = false := by
  have s8 := b8.size
  have hz := h.size
  have gs := gr.size
  rw [hsz] at gs
  have hvb : ∀ x, v.ownBlock = some x → w.heap.size + m ≤ x ∧ x < wr.heap.size := fun x hx => World.ownsRow.lt hG.own x hx
  have k9 : ∀ x, x < w.heap.size + m → w9.heap[x]? = wr.heap[x]? := fun x hx => by
    rw [gr.block x (by rw [hsz]; omega) (fun e => by have := hvb x e.symm; omega), (Recs.below1 _ _).block x (by omega), b8.block x (by omega)]
  have O9 := (k9 q hq2).trans h.out
  have D9 := LGr.push hE (w2 := w8.alloc o) (w3 := w9) (g := g) (cap := cap) (Q := Q) (t := t) (news := news) hG h.size (by rw [hsz]; omega) (fun x _ hx => by rw [(Recs.below1 _ _).block x (by omega), b8.block x hx]) he (fun x hx => by rw [hsz]; obtain ⟨x1, x2⟩ := hQ x hx; exact ⟨x1, by omega⟩) hl hown gr (by rw [hsz]; exact hg)
  have B9 : Below w.heap.size w w9 := ⟨gr.os.trans (b8.os.trans h.bel.os), gr.tape.trans (b8.tape.trans h.bel.tape), gr.output.trans (b8.output.trans h.bel.output), by omega, fun x hx => (k9 x (by omega)).trans (h.bel.block x hx)⟩
  refine ⟨⟨D9.keep hE (by simp) (fun x hx _ => heap_setCell_other _ _ _ _ (by show x ≠ q; omega)), ?_, fun x h1 h2 h3 => (heap_setCell_other _ _ _ _ (by show x ≠ q; exact h3)).trans ((k9 x h2).trans (h.front x h1 h2 h3)), B9.setCell (p := ⟨q, p, none⟩) hq1 _, by simp; omega⟩, ?_, ?_⟩
  · rw [← hrow]
    exact heap_setCell_same w9 q p _ _ _ O9
  · rw [cell_of_row w9 q p _ _ (0, 0) O9]
    exact hcell
  · exact frozen_of_row w9 q p _ _ O9
end
end Go.Proofs.Yticihnoekffelaa.Ft
namespace Go.Proofs.Yticihnoekffelaa.Ft
set_option maxRecDepth 8000
open Go.RowKit
open Recs
open Bats (BatsAt batsCells)
open SegW
set_option linter.unusedVariables false
theorem rec_el {w : World} {r : Rec} {hv : Value} {Q : Nat → Prop} (h : OwnH w Q hv r.heads) : ER w Q (fun q => (RecW.recArr r hv).toList.getD q default) r := ⟨⟨rfl, rfl, rfl, rfl, rfl⟩, h⟩
theorem rec6 {w : World} {g ty : Nat} {r : Rec} {v : Value} (h : w.heap[g]? = some (.cells (RecW.recArr r v) ty (0, 0))) : w.cell? ⟨g, 0, none⟩ = some (.int .i64 r.time) ∧ w.cell? ⟨g, 1, none⟩ = some (.bool r.keyed) ∧ w.cell? ⟨g, 2, none⟩ = some (.string r.key) ∧ w.cell? ⟨g, 3, none⟩ = some (.bool r.gone) ∧ w.cell? ⟨g, 4, none⟩ = some (.string r.val) ∧ w.cell? ⟨g, 5, none⟩ = some v :=
  ⟨cell_of_row w g 0 _ _ (0, 0) h, cell_of_row w g 1 _ _ (0, 0) h, cell_of_row w g 2 _ _ (0, 0) h, cell_of_row w g 3 _ _ (0, 0) h, cell_of_row w g 4 _ _ (0, 0) h, cell_of_row w g 5 _ _ (0, 0) h⟩
/-- What the other variables of the copy hold. -/
def frB (w : World) (t : Bat) (v0 : Value) (x : Nat) : Option Obj := if x = w.heap.size then some (.cells (BatW.batArr t v0) 58 (0, 0)) else some (.cells (BatW.batArr ⟨0, 0, 0, 0, 0, 0, []⟩ (.slice none 0 0)) 58 (0, 0))

/-- Behind the copy of one record's Heads: w2; the record's own block is wr.heap.size. -/
structure AfterH (w wr w2 : World) (t : Bat) (fr : Nat → Option Obj) (r : Rec) (v hv hv0 : Value) (us : List Rec) (F : Nat → Value) (P : Nat → Nat → Prop) (o9 : Obj) : Prop where
  c5 : w2.cell? ⟨wr.heap.size, 5, none⟩ = some hv0
  f5 : w2.frozen? ⟨wr.heap.size, 5, none⟩ = false
  out6 : (w2.setCell ⟨wr.heap.size, 5, none⟩ hv).cell? ⟨w.heap.size + 1 + 1, 6, none⟩ = some v
  six : (w2.setCell ⟨wr.heap.size, 5, none⟩ hv).cell? ⟨wr.heap.size, 0, none⟩ = some (.int .i64 r.time) ∧ (w2.setCell ⟨wr.heap.size, 5, none⟩ hv).cell? ⟨wr.heap.size, 1, none⟩ = some (.bool r.keyed) ∧ (w2.setCell ⟨wr.heap.size, 5, none⟩ hv).cell? ⟨wr.heap.size, 2, none⟩ = some (.string r.key) ∧ (w2.setCell ⟨wr.heap.size, 5, none⟩ hv).cell? ⟨wr.heap.size, 3, none⟩ = some (.bool r.gone) ∧ (w2.setCell ⟨wr.heap.size, 5, none⟩ hv).cell? ⟨wr.heap.size, 4, none⟩ = some (.string r.val) ∧ (w2.setCell ⟨wr.heap.size, 5, none⟩ hv).cell? ⟨wr.heap.size, 5, none⟩ = some hv
  lt : w.heap.size + 1 + 1 < w2.heap.size
  size : wr.heap.size < w2.heap.size
  own : ((w2.setCell ⟨wr.heap.size, 5, none⟩ hv).alloc o9).ownsRow (w.heap.size + 3) 88 6 v us.length ((List.range (us.length * 6)).map F)
  news : o9 = .cells (RecW.recArr r hv) 88 (0, 0) → ∀ j u, (RecW.recArr r hv).toList[j]? = some u → ((w2.setCell ⟨wr.heap.size, 5, none⟩ hv).alloc o9).cell? ((⟨w2.heap.size, 0, none⟩ : Addr).add j) = some u
  push : ∀ g cap w9, w9.ownsRow (w.heap.size + 3) 88 6 (.slice (some ⟨g, 0, none⟩) (us.length + 1) cap) (us.length + 1) ((List.range (us.length * 6)).map F ++ (RecW.recArr r hv).toList) → ((w2.setCell ⟨wr.heap.size, 5, none⟩ hv).alloc o9).grownBy w9 v.ownBlock → (v.ownBlock = some g ∨ g = w2.heap.size + 1) → GV 88 6 ER w (w9.setCell ⟨w.heap.size + 1 + 1, 6, none⟩ (.slice (some ⟨g, 0, none⟩) (us.length + 1) cap)) 3 (w.heap.size + 1 + 1) 58 (BatW.batArr t) fr (.slice (some ⟨g, 0, none⟩) (us.length + 1) cap) (us ++ [r]) ∧ w9.cell? ⟨w.heap.size + 1 + 1, 6, none⟩ = some v ∧ w9.frozen? ⟨w.heap.size + 1 + 1, 6, none⟩ = false
theorem l3_after {w wr w2 : World} {t : Bat} {fr : Nat → Option Obj} {r : Rec} {v hv hv0 : Value} {us : List Rec} {F : Nat → Value} {P : Nat → Nat → Prop} {o9 : Obj} (h : GV 88 6 ER w wr 3 (w.heap.size + 1 + 1) 58 (BatW.batArr t) fr v us) (hG : LGr 88 6 ER wr (w.heap.size + 3) v us F P) (hf : r.heads.length ≤ 1048576)
    (hown : w2.ownsRow (wr.heap.size + 1) 116 2 hv r.heads.length (flat 2 r.heads.length (hdCells r.heads))) (hgr : ((wr.alloc (.cells (RecW.recArr r hv0) 88 (0, 0))).alloc (.cells #[] 116 (0, 0))).grownBy w2 (some (wr.heap.size + 1))) : AfterH w wr w2 t fr r v hv hv0 us F P o9 := by
  have hz := h.size
  have gs := hgr.size
  rw [hsz, hsz] at gs
  have B2 : Below wr.heap.size wr w2 := (below2 wr _ _).grown hgr (by rw [hsz, hsz]; omega) (fun k hk => by cases hk; omega)
  have T : w2.heap[wr.heap.size]? = some (.cells (RecW.recArr r hv0) 88 (0, 0)) := (hgr.block wr.heap.size (by rw [hsz, hsz]; omega) (by simp)).trans (((Recs.below1 _ _).block _ (by rw [hsz]; omega)).trans (heap_alloc_new _ _))
  have T' : (w2.setCell ⟨wr.heap.size, 5, none⟩ hv).heap[wr.heap.size]? = some (.cells (RecW.recArr r hv) 88 (0, 0)) := heap_setCell_same w2 wr.heap.size 5 _ _ hv T
  have b8 : Below wr.heap.size wr (w2.setCell ⟨wr.heap.size, 5, none⟩ hv) := B2.setCell (p := ⟨wr.heap.size, 5, none⟩) (Nat.le_refl _) hv
  have O2 := own_heads_flat hown hf
  have s8 : (w2.setCell ⟨wr.heap.size, 5, none⟩ hv).heap.size = w2.heap.size := by simp
  refine ⟨cell_of_row w2 wr.heap.size 5 _ _ (0, 0) T, frozen_of_row w2 wr.heap.size 5 _ _ T, ?_, rec6 T', by omega, by omega, World.ownsRow.alloc (own_keep hG.own (fun x _ hx => b8.block x hx)) _, fun e => ?_, fun g cap w9 a1 a2 a3 => ?_⟩
  · rw [cell_of_row (w2.setCell ⟨wr.heap.size, 5, none⟩ hv) (w.heap.size + 1 + 1) 6 (BatW.batArr t v) 58 (0, 0) ((b8.block (w.heap.size + 1 + 1) (by omega)).trans h.out)]
    rfl
  · subst e
    have := heap_alloc_new (w2.setCell ⟨wr.heap.size, 5, none⟩ hv) (.cells (RecW.recArr r hv) 88 (0, 0))
    rw [s8] at this
    exact World.news_of_block this
  · refine GV.push keepsR (w8 := w2.setCell ⟨wr.heap.size, 5, none⟩ hv) (Q := seg (wr.heap.size + 1) w2.heap.size) h (by omega) (by omega) rfl (fun _ => rfl) hG b8 (rec_el ?_) (fun x hx => ?_) rfl a1 a2 (by rw [s8]; exact a3)
    · refine LOwn.keep keepsH O2 (by rw [hsz, s8]; omega) (fun x hx => ?_)
      obtain ⟨x1, x2⟩ := hx
      rw [(Recs.below1 _ _).block _ (by rw [s8]; exact x2), heap_setCell_other _ _ _ _ (by show x ≠ wr.heap.size; omega)]
    · obtain ⟨x1, x2⟩ := hx
      rw [s8]
      exact ⟨by omega, x2⟩
set_option maxHeartbeats 3200000 in
theorem l3Batch_core (t : Bat) (A : Option Addr) (c : Nat) (H : Nat → Value) (w : World) (lo b : Nat) (hb : b ≤ w.heap.size) (hf : FewB t) (hr : Row w lo b 6 (.slice A t.recs.length c) t.recs.length (recCells t.recs H)) (hh : ∀ i, i < t.recs.length → Heads w lo b (H i) (t.recs.getD i default).heads) :
    Calls Try.prog 24 #[batVal t (.slice A t.recs.length c)] w fun e w' => ∃ rv, e = .returned (batVal t rv) ∧ OwnR w' (seg w.heap.size w'.heap.size) rv t.recs ∧ Below w.heap.size w w' := by
  obtain ⟨i0, hi, hz0, hz1, hz2⟩ := info_parts infoR
  obtain ⟨i1, hi', hz0', hz1', hz2'⟩ := info_parts infoH
  obtain ⟨_, A', c', hsl, hrow⟩ := hr
  simp only [Value.slice.injEq] at hsl
  obtain ⟨rfl, _, rfl⟩ := hsl
  have HROW := Seg.hid hrow; have HH := Seg.hid hh; have HF := Seg.hid hf.2
  have hl := hf.1
  clear hrow hh hf
  unfold batVal
  go_enter Try.func24, Try.ntmps24
  go_wp2_with fail
  have C0 : Hid (GV 88 6 ER w ((((w.alloc (.cells (BatW.batArr t (.slice A t.recs.length c)) 58 (0, 0))).alloc (.cells (BatW.batArr ⟨0, 0, 0, 0, 0, 0, []⟩ (.slice none 0 0)) 58 (0, 0))).alloc (.cells (BatW.batArr t (.slice (some ⟨w.heap.size + 1 + 1 + 1, 0, none⟩) 0 0)) 58 (0, 0))).alloc (.cells #[] 88 (0, 0))) 3 (w.heap.size + 1 + 1) 58 (BatW.batArr t) (frB w t (.slice A t.recs.length c)) (.slice (some ⟨w.heap.size + 1 + 1 + 1, 0, none⟩) 0 0) []) := by
    have h3 : (((w.alloc (.cells (BatW.batArr t (.slice A t.recs.length c)) 58 (0, 0))).alloc (.cells (BatW.batArr ⟨0, 0, 0, 0, 0, 0, []⟩ (.slice none 0 0)) 58 (0, 0))).alloc (.cells (BatW.batArr t (.slice (some ⟨w.heap.size + 1 + 1 + 1, 0, none⟩) 0 0)) 58 (0, 0))).heap.size = w.heap.size + 1 + 1 + 1 := by rw [hsz, hsz, hsz]
    refine ⟨LGrow.empty ?_, ((Recs.below1 _ _).block _ (by rw [h3]; omega)).trans (Cells.at3' w _ _ _), fun x h1 h2 h4 => ?_, (below3 w _ _ _).alloc (by rw [h3]; omega) _, by rw [hsz, h3]; omega⟩
    · have := World.ownsRow_lit (base := w.heap.size + 3) (e := 88) (size := 6) (((w.alloc (.cells (BatW.batArr t (.slice A t.recs.length c)) 58 (0, 0))).alloc (.cells (BatW.batArr ⟨0, 0, 0, 0, 0, 0, []⟩ (.slice none 0 0)) 58 (0, 0))).alloc (.cells (BatW.batArr t (.slice (some ⟨w.heap.size + 1 + 1 + 1, 0, none⟩) 0 0)) 58 (0, 0))) #[] 0 (by rw [h3]; exact Nat.le_refl _) (Nat.zero_le _) rfl
      rw [h3] at this
      exact this
    · rw [(Recs.below1 _ _).block _ (by rw [h3]; omega)]
      unfold frB
      by_cases e : x = w.heap.size
      · rw [if_pos e, e]
        exact ((Recs.below1 _ _).block _ (by rw [hsz, hsz]; omega)).trans (((Recs.below1 _ _).block _ (by rw [hsz]; omega)).trans (heap_alloc_new _ _))
      · have : x = w.heap.size + 1 := by omega
        rw [if_neg e, this]
        exact at3 w _ _ _
  go_loopw [4] (fun i wr => ∃ (j : Nat) (us : List Rec) (A1 : Option Addr) (c1 : Nat), j ≤ t.recs.length ∧ i = .int .i64 j ∧ Hid (us = t.recs.take j ∧ GV 88 6 ER w wr 3 (w.heap.size + 1 + 1) 58 (BatW.batArr t) (frB w t (.slice A t.recs.length c)) (.slice A1 us.length c1) us)) (fun i _ => t.recs.length - (intOf i).toNat)
  case atStart => exact ⟨0, [], some ⟨w.heap.size + 1 + 1 + 1, 0, none⟩, 0, Nat.zero_le _, rfl, by simp, C0.out⟩
  case round =>
    clear C0
    obtain ⟨j, us, A1, c1, hj, rfl, HW⟩ := hrel
    have WC := Seg.hid HW.out.2
    have hz := HW.out.2.size
    have PAR : Hid (wr.heap[w.heap.size]? = some (.cells (BatW.batArr t (.slice A t.recs.length c)) 58 (0, 0))) := (HW.out.2.front w.heap.size (Nat.le_refl _) (by omega) (by omega)).trans (if_pos rfl)
    have p6 : wr.cell? ⟨w.heap.size, 6, none⟩ = some (.slice A t.recs.length c) := cell_of_row wr w.heap.size 6 _ _ (0, 0) PAR.out
    by_cases hlt : j < t.recs.length
    · have h0 : (0 : Int) ≤ (j : Int) := by omega
      have h1 : (j : Int) < (t.recs.length : Int) := by omega
      obtain ⟨g, o, rfl, hg, hc, hcell, _⟩ := HROW.out.resolve_left (by omega)
      have hgw : g < w.heap.size := by omega
      obtain ⟨e0, e1, e2, e3, e4, e5⟩ := RecsW.six (fun i hi q hq => by rw [HW.out.2.bel.cell (p := ⟨g, o + i * 6 + q, none⟩) hgw]; exact hcell i hi q hq) j hlt
      have UL : Hid (us.length = j) := by show _ = _; rw [HW.out.1, List.length_take]; omega
      have UN : Hid (us ++ [t.recs.getD j default] = t.recs.take (j + 1)) := by show _ = _; rw [HW.out.1]; exact (take_one hlt).symm
      obtain ⟨F, P, hG⟩ := HW.out.2.grow
      have HG := Seg.hid hG
      have hul : us.length ≤ 1048576 := by rw [UL.out]; omega
      have KH := Seg.hid ((HH.out j hlt).below (HW.out.2.bel.mono hb))
      have FH := HF.out j hlt
      unfold FewR at FH
      obtain ⟨_, Ah, ch, hHj, _⟩ := id KH.out
      rw [hHj] at e5 KH
      clear hcell HW hG hHj
      generalize t.recs.getD j default = rj at *
      have hww : w.heap.size < wr.heap.size := by omega
      go_wp2_with (first | (at_builtin; (refine wpList_append_all _ rfl (.tmp 21) (.tmp 23) 86 rfl (wr.heap.size + 1) 116 i1 _ 2 32 Try.underlying86 hi' hz0' hz1' hz2' rfl (by decide) (.slice (some ⟨wr.heap.size + 1, 0, none⟩) 0 0) 0 [] rfl ?zqa Ah rj.heads.length ch (flat 2 rj.heads.length (hdCells rj.heads)) rfl (flat_len _ _ _) ?zqb (flat_one (hd_one _) (by omega)) (by unfold maxLen; omega) (by omega) (by rw [hsz, hsz]; omega) ?_; (case zqa => have := World.ownsRow_lit (base := wr.heap.size + 1) (e := 116) (size := 2) (wr.alloc (.cells (RecW.recArr rj (.slice Ah rj.heads.length ch)) 88 (0, 0))) #[] 0 (by rw [hsz]; exact Nat.le_refl _) (Nat.zero_le _) rfl; rw [hsz] at this; exact this); (case zqb => exact flat_news (by decide) (Row.below KH.out ((below2 wr _ _).mono (by omega)))); intro v2 w2 hown2 hgr2 hat2; rw [Nat.zero_add, List.nil_append] at hown2; obtain ⟨A2, c2, hv2, hA2⟩ := owns_form hown2; subst hv2; clear hA2; have AF := Seg.hid (l3_after (o9 := .cells (RecW.recArr rj (.slice A2 rj.heads.length c2)) 88 (0, 0)) WC.out HG.out FH hown2 hgr2); have y5 := AF.out.c5; have x5 := AF.out.f5; have x6 := AF.out.out6; obtain ⟨k0, k1, k2, k3, k4, k5⟩ := AF.out.six; have K8 := AF.out.lt; have s2 := AF.out.size; clear hown2 hgr2 hat2)) | (at_builtin; (refine wpList_append_lies _ rfl (.tmp 27) (.tmp 29) 56 rfl (w.heap.size + 3) 88 i0 _ 6 80 Try.underlying56 hi hz0 hz1 hz2 rfl (by decide) (.slice A1 us.length c1) us.length ((List.range (us.length * 6)).map F) rfl AF.out.own ⟨w2.heap.size, 0, none⟩ 1 1 (RecW.recArr rj (.slice A2 rj.heads.length c2)).toList rfl rfl ?zqc (by simp [RecW.recArr, Value.oneCell']) (by decide) (by unfold maxLen; omega) (by omega) (by rw [hsz]; simp; omega) (w2.heap.size + 1) (by rw [hsz]; simp) ?_; (case zqc => exact AF.out.news rfl); intro g9 cap9 w9 hown9 gr9 hat9 hlt9; have D9 := Seg.hid (AF.out.push g9 cap9 w9 hown9 gr9 hat9); have q6 := D9.out.2.1; have p6' := D9.out.2.2; clear hown9 gr9 hat9 hlt9)))
      go_roundw
      case rel => exact ⟨j + 1, us ++ [rj], some ⟨g9, 0, none⟩, cap9, by omega, by go_num, UN.out, by rw [List.length_append]; exact D9.out.1⟩
      case measure => simp [intOf]; omega
    · have G1 : Hid (OwnR wr (seg (w.heap.size + 3) wr.heap.size) (.slice A1 t.recs.length c1) t.recs) := by
        have := HW.out
        rw [show j = t.recs.length by omega, List.take_length] at this
        obtain ⟨rfl, h2⟩ := this
        exact LGrow.own h2.grow hl
      have hul : us.length = t.recs.length := by rw [HW.out.1, show j = t.recs.length by omega, List.take_length]
      have O1 : Hid (wr.heap[w.heap.size + 1 + 1]? = some (.cells (BatW.batArr t (.slice A1 t.recs.length c1)) 58 (0, 0))) := by rw [← hul]; exact HW.out.2.out
      have R1 : Hid (wr.heap[w.heap.size + 1]? = some (.cells (BatW.batArr ⟨0, 0, 0, 0, 0, 0, []⟩ (.slice none 0 0)) 58 (0, 0))) := (HW.out.2.front (w.heap.size + 1) (by omega) (by omega) (by omega)).trans (if_neg (by omega))
      have BL := Seg.hid HW.out.2.bel
      have : j = t.recs.length := by omega
      clear HW hul WC
      subst this
      have H5 := Seg.hid (Cells.there_of R1.out)
      have H4 := Seg.hid (Cells.whole (vs := BatW.batArr t (.slice A1 t.recs.length c1)) R1.out rfl)
      have B2 := Seg.hid (Cells.below_setCells (g := w.heap.size + 1) (by omega) (BatW.batArr t (.slice A1 t.recs.length c1)).toList 0 _ _ BL.out)
      have HF' : Hid (OwnR (wr.setCells (w.heap.size + 1) 0 (BatW.batArr t (.slice A1 t.recs.length c1)).toList) (seg w.heap.size (wr.setCells (w.heap.size + 1) 0 (BatW.batArr t (.slice A1 t.recs.length c1)).toList).heap.size) (.slice A1 t.recs.length c1) t.recs) := by
        refine (LOwn.keep keepsR G1.out (by rw [Cells.size_setCells]; exact Nat.le_refl _) (fun g h1 => ?_)).mono (fun x hx => ?_)
        · have := h1.1
          exact Cells.heap_setCells_other _ _ (by omega)
        · obtain ⟨x1, x2⟩ := hx
          refine ⟨by omega, ?_⟩
          rw [Cells.size_setCells]
          exact x2
      go_wp2_with (first | (refine wpList_load_row rfl 58 _ rfl (w.heap.size + 1 + 1) rfl _ _ _ _ O1.out Try.underlying58 rfl BatW.info40 ?_) | (refine wpList_store_mid rfl 58 _ _ rfl (w.heap.size + 1) 0 (BatW.batArr t (.slice A1 t.recs.length c1)) rfl rfl H5.out BatW.info40 (BatW.batArr_one _ _ rfl) ?_))
      exact bodyPost_ret (v := batVal t (.slice A1 t.recs.length c1)) (results_cell_row rfl _ _ (w.heap.size + 1) _ _ _ _ rfl H4.out Try.underlying58 rfl BatW.info40) rfl ⟨_, rfl, HF'.out, B2.out⟩
theorem l3Batch_any (v : Value) (t : Bat) (w : World) (lo b : Nat) (hv : BatAt w lo b v t) (hb : b ≤ w.heap.size) (hf : FewB t) :
    Calls Try.prog 24 #[v] w fun e w' => ∃ rv, e = .returned (batVal t rv) ∧ OwnR w' (seg w.heap.size w'.heap.size) rv t.recs ∧ Below w.heap.size w w' := by
  obtain ⟨rv, rfl, H, hr, hh⟩ := hv
  obtain ⟨_, A, c, rfl, _⟩ := id hr
  exact l3Batch_core t A c H w lo b hb hf hr hh
end Go.Proofs.Yticihnoekffelaa.Ft
