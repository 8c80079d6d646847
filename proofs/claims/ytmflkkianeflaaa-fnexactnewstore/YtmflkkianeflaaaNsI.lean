/- NewStore of the program. -/
import Derived.Test.YtmflkkianeflaaaNsQ
namespace Go.Proofs.Ytmflkkianeflaaa.NsP
set_option maxRecDepth 8000
open Go.RowKit
open Ls Ow
open LogW (Lg)
open Recs (hsz below1 below2 chain)
set_option linter.unusedVariables false
set_option maxHeartbeats 3200000 in
theorem impl_any (n roll : Int) (w : World) : Calls Try.prog 11 #[.int .i64 n, .int .i64 roll] w fun e w' => ∃ v, e = .returned v ∧ StoOwn w' (seg w.heap.size w'.heap.size) v (newS n roll) ∧ Below w.heap.size w w' := by
  obtain ⟨q, hq⟩ : ∃ q, (if inR 1 roll 20000 = true then roll else 0) = q := ⟨_, rfl⟩
  have NL : Hid (NewL.nl 0 roll = .agg #[.int .i64 0, .int .i64 0, .int .i64 q, .slice none 0 0]) := by show _ = _; rw [nl_form, hq]; rfl
  have BO : Hid ((NewL.inR 0 0 1000000000 && (NewL.inR 0 0 0 && NewL.inR q 1 20000)) = inR 1 roll 20000) := by
    show _ = _
    rw [← hq]
    have e : ∀ x, NewL.inR x 1 20000 = inR 1 x 20000 := fun _ => rfl
    rw [e]
    cases hr : inR 1 roll 20000
    · rfl
    · simp only [if_true]; rw [hr]; rfl
  have HQ := Seg.hid hq
  clear hq
  go_enter Try.func11, Try.ntmps11
  go_wp2_with fail
  refine (NewL.impl_any 0 roll (w.alloc _)).mono ?_
  rintro e w1 ⟨rfl, b1⟩
  rw [NL.out]
  have s1 := b1.size
  rw [hsz] at s1
  have R2 : Hid ((w1.alloc (.cells #[.int .i64 0, .int .i64 0, .int .i64 q, .slice none 0 0] 44 (0, 0))).heap[w.heap.size]? = some (.cells #[.slice none 0 0, .slice none 0 0, .int .i64 0] 31 (0, 0))) := ((below1 w1 _).block w.heap.size (by omega)).trans ((b1.block w.heap.size (by rw [hsz]; omega)).trans (heap_alloc_new _ _))
  have P2 : Hid ((w1.alloc (.cells #[.int .i64 0, .int .i64 0, .int .i64 q, .slice none 0 0] 44 (0, 0))).heap[w1.heap.size]? = some (.cells #[.int .i64 0, .int .i64 0, .int .i64 q, .slice none 0 0] 44 (0, 0))) := heap_alloc_new _ _
  have B2 : Hid (Below w.heap.size w (w1.alloc (.cells #[.int .i64 0, .int .i64 0, .int .i64 q, .slice none 0 0] 44 (0, 0)))) := chain (chain (below1 w _) b1) (below1 w1 _)
  clear b1
  go_upto_region 2 with fail
  generalize w1.alloc (.cells #[.int .i64 0, .int .i64 0, .int .i64 q, .slice none 0 0] 44 (0, 0)) = w2 at *
  have e0 : w2.cell? ⟨w1.heap.size, 0, none⟩ = some (.int .i64 0) := cell_of_row w2 _ 0 _ _ (0, 0) P2.out
  have e1 : w2.cell? ⟨w1.heap.size, 1, none⟩ = some (.int .i64 0) := cell_of_row w2 _ 1 _ _ (0, 0) P2.out
  have e2 : w2.cell? ⟨w1.heap.size, 2, none⟩ = some (.int .i64 q) := cell_of_row w2 _ 2 _ _ (0, 0) P2.out
  have e3 : w2.cell? ⟨w1.heap.size, 3, none⟩ = some (.slice none 0 0) := cell_of_row w2 _ 3 _ _ (0, 0) P2.out
  go_wp2_with fail
  cases g1 : inR 1 n 12 with
  | false =>
    refine (InB.within_b _ _ _ false g1 _).mono ?_
    rintro e wq ⟨rfl, rfl⟩
    have Z := Seg.hid (newS_no (n := n) (roll := roll) (by simp [good, g1]))
    clear g1
    have RR : Hid (w2.heap[w.heap.size]? = some (.cells #[.slice none 0 0, .slice none 0 0, .int .i64 0] 31 (0, 0))) := R2.out
    have BB : Hid (Below w.heap.size w w2) := B2.out
    have H5 := Seg.hid (Cells.there_of RR.out)
    have H4 := Seg.hid (Cells.whole (vs := #[.slice none 0 0, .slice none 0 0, .int .i64 0]) RR.out rfl)
    have B9 := Seg.hid (Cells.below_setCells (g := w.heap.size) (Nat.le_refl _) (#[.slice none 0 0, .slice none 0 0, .int .i64 0] : Array Value).toList 0 _ _ BB.out)
    go_wp2_with (refine wpList_store_mid rfl 31 _ _ rfl w.heap.size 0 #[.slice none 0 0, .slice none 0 0, .int .i64 0] rfl rfl H5.out infoSto (on3 rfl) ?_)
    exact bodyPost_ret (v := .agg #[.slice none 0 0, .slice none 0 0, .int .i64 0]) (results_cell_row rfl _ _ w.heap.size _ _ _ _ rfl H4.out Try.underlying31 rfl infoSto) rfl ⟨_, rfl, by rw [Z.out]; exact sto_own (LOwn.nil _ _ _ _), B9.out⟩
  | true =>
  refine (InB.within_b _ _ _ true g1 _).mono ?_
  rintro e wq ⟨rfl, rfl⟩
  have K1 := Seg.hid g1
  clear g1
  go_wp2_with fail
  cases g2 : inR 1 roll 20000 with
  | false =>
    refine (NewL.bounds_any 0 0 q _ false (BO.out.trans g2) w2).mono ?_
    rintro e w3 ⟨rfl, b3⟩
    have Z := Seg.hid (newS_no (n := n) (roll := roll) (by simp [good, g2]))
    have s2 := (Array.getElem?_eq_some_iff.1 R2.out).1
    have RR : Hid (w3.heap[w.heap.size]? = some (.cells #[.slice none 0 0, .slice none 0 0, .int .i64 0] 31 (0, 0))) := (b3.block w.heap.size s2).trans R2.out
    have BB : Hid (Below w.heap.size w w3) := chain B2.out b3
    have H5 := Seg.hid (Cells.there_of RR.out)
    have H4 := Seg.hid (Cells.whole (vs := #[.slice none 0 0, .slice none 0 0, .int .i64 0]) RR.out rfl)
    have B9 := Seg.hid (Cells.below_setCells (g := w.heap.size) (Nat.le_refl _) (#[.slice none 0 0, .slice none 0 0, .int .i64 0] : Array Value).toList 0 _ _ BB.out)
    go_wp2_with (refine wpList_store_mid rfl 31 _ _ rfl w.heap.size 0 #[.slice none 0 0, .slice none 0 0, .int .i64 0] rfl rfl H5.out infoSto (on3 rfl) ?_)
    exact bodyPost_ret (v := .agg #[.slice none 0 0, .slice none 0 0, .int .i64 0]) (results_cell_row rfl _ _ w.heap.size _ _ _ _ rfl H4.out Try.underlying31 rfl infoSto) rfl ⟨_, rfl, by rw [Z.out]; exact sto_own (LOwn.nil _ _ _ _), B9.out⟩
  | true =>
  refine (NewL.bounds_any 0 0 q _ true (BO.out.trans g2) w2).mono ?_
  rintro e w3 ⟨rfl, b3⟩
  have Z := Seg.hid (newS_yes (n := n) (roll := roll) (by simp [good, K1.out, g2]))
  have QR : Hid (q = roll) := by show _ = _; rw [← HQ.out, g2]; rfl
  have s2 := (Array.getElem?_eq_some_iff.1 R2.out).1
  have s2' := (Array.getElem?_eq_some_iff.1 P2.out).1
  have R3 : Hid (w3.heap[w.heap.size]? = some (.cells #[.slice none 0 0, .slice none 0 0, .int .i64 0] 31 (0, 0))) := (b3.block w.heap.size s2).trans R2.out
  have P3 : Hid (w3.heap[w1.heap.size]? = some (.cells #[.int .i64 0, .int .i64 0, .int .i64 q, .slice none 0 0] 44 (0, 0))) := (b3.block w1.heap.size s2').trans P2.out
  have B3 := Seg.hid (chain B2.out b3)
  obtain ⟨m, rfl⟩ : ∃ m : Nat, n = (m : Int) := ⟨n.toNat, by have := K1.out; simp [inR] at this; omega⟩
  have hm : 1 ≤ m ∧ m ≤ 12 := by have := K1.out; simp [inR] at this; omega
  have s3 : w.heap.size < w3.heap.size := (Array.getElem?_eq_some_iff.1 R3.out).1
  clear b3 g2 K1 s2 s2' R2 P2 B2 e0 e1 e2 e3
  have qr := QR.out
  clear HQ BO NL
  subst qr
  go_wp2_with (refine wpList_load_row rfl 44 _ rfl w1.heap.size rfl _ _ _ _ P3.out Try.underlying44 rfl infoLg ?_)
  obtain ⟨w4, hw4⟩ : ∃ w4, w3.alloc (.cells #[.int .i64 0, .int .i64 0, .int .i64 q, .slice none 0 0] 44 (0, 0)) = w4 := ⟨_, rfl⟩
  have P4 : Hid (w4.heap[w3.heap.size]? = some (.cells (pt q) 44 (0, 0))) := by show _ = _; rw [← hw4]; exact heap_alloc_new _ _
  have R4 : Hid (w4.heap[w.heap.size]? = some (.cells #[.slice none 0 0, .slice none 0 0, .int .i64 0] 31 (0, 0))) := by show _ = _; rw [← hw4]; exact ((below1 w3 _).block w.heap.size s3).trans R3.out
  have B4 : Hid (Below w.heap.size w w4) := by show Below _ _ _; rw [← hw4]; exact chain B3.out (below1 w3 _)
  rw [hw4]
  clear hw4
  have s4 : w.heap.size < w4.heap.size := (Array.getElem?_eq_some_iff.1 R4.out).1
  refine (NsQ.repeat_any q w3.heap.size m hm w4 P4.out).mono ?_
  rintro e w5 ⟨rfl, own5, b5⟩
  have T5 : Hid (w5.heap[w.heap.size]? = some (.cells #[.slice none 0 0, .slice none 0 0, .int .i64 0] 31 (0, 0))) := (b5.block w.heap.size s4).trans R4.out
  have B5 := Seg.hid (chain B4.out b5)
  have OW := Seg.hid own5
  have hlt5 := World.ownsRow.lt own5 w4.heap.size rfl
  clear b5 own5
  have H5 := Seg.hid (Cells.there_of T5.out)
  have H4 := Seg.hid (Cells.whole (vs := #[.slice (some ⟨w4.heap.size, 0, none⟩) m m, .slice none 0 0, .int .i64 0]) T5.out rfl)
  have B9 := Seg.hid (Cells.below_setCells (g := w.heap.size) (Nat.le_refl _) (#[.slice (some ⟨w4.heap.size, 0, none⟩) m m, .slice none 0 0, .int .i64 0] : Array Value).toList 0 _ _ B5.out)
  have ON : Hid ((#[.slice (some ⟨w4.heap.size, 0, none⟩) m m, .slice none 0 0, .int .i64 0] : Array Value).all (·.oneCell') = true) := Seg.hid (on3 rfl)
  have VO : Hid (StoOwn (w5.setCells w.heap.size 0 (#[.slice (some ⟨w4.heap.size, 0, none⟩) m m, .slice none 0 0, .int .i64 0] : Array Value).toList) (seg w.heap.size (w5.setCells w.heap.size 0 (#[.slice (some ⟨w4.heap.size, 0, none⟩) m m, .slice none 0 0, .int .i64 0] : Array Value).toList).heap.size) (.agg #[.slice (some ⟨w4.heap.size, 0, none⟩) m m, .slice none 0 0, .int .i64 0]) (newS m q)) := by
    show StoOwn _ _ _ _
    rw [Z.out]
    refine sto_own (own_rep (base := w4.heap.size) _ ?_ (by simpa using hm.2) (fun g hg => ?_))
    · refine ⟨by simpa using OW.out.1, ?_⟩
      rcases OW.out.2 with ⟨h1, h2⟩ | ⟨g', cap', cur, h', hbs, hgg, rest⟩
      · simp at h1
      · exact .inr ⟨g', cap', cur, by simpa using h', hbs, by rw [Cells.heap_setCells_other _ _ (by omega)]; exact hgg, by simpa using rest⟩
    · simp only [Value.ownBlock, Option.some.injEq] at hg
      subst hg
      refine ⟨by omega, ?_⟩
      rw [Cells.size_setCells]; exact hlt5.2
  go_wp2_with (refine wpList_store_mid rfl 31 _ _ rfl w.heap.size 0 #[.slice (some ⟨w4.heap.size, 0, none⟩) m m, .slice none 0 0, .int .i64 0] rfl rfl H5.out infoSto ON.out ?_)
  exact bodyPost_ret (v := .agg #[.slice (some ⟨w4.heap.size, 0, none⟩) m m, .slice none 0 0, .int .i64 0]) (results_cell_row rfl _ _ w.heap.size _ _ _ _ rfl H4.out Try.underlying31 rfl infoSto) rfl ⟨_, rfl, VO.out, B9.out⟩
end Go.Proofs.Ytmflkkianeflaaa.NsP
