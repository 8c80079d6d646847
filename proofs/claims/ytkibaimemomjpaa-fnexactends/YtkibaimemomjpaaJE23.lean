/- The program's feed: its memory; slices.Clone over lists of lists; mark; The program's feed: mark. -/
import Derived.Deep.AppendLies
import Derived.Deep.Cut
import Derived.Test.YtkibaimemomjpaaJE22
import Derived.Test.YtkibaimemomjpaaJE19
import Derived.Test.YtkibaimemomjpaaJE21
import Derived.Test.YtkibaimemomjpaaJE16
namespace Go.Proofs.Ytkibaimemomjpaa.EdF
set_option maxRecDepth 8000
open Go.RowKit
open Ls Lp QyP QsP QtP QuP TbP IoP EdP RkP IrA EdI
open Recs (hsz below1 below2 chain chainD)
set_option linter.unusedVariables false
theorem infoAs : (Try.prog.info? 85).map (fun i => (i.zero, i.size, i.bytes)) = some (some (.slice none 0 0), 1, 24) := by kernel_rfl
theorem LRow.keep {w0 w w' : World} {S : Nat → Prop} {B n : Nat} {v : Value} {f : Nat → List Arr} (h : LRow w0 w S B v n f) (hk : ∀ y, v.ownBlock = some y → w'.heap[y]? = w.heap[y]?) : LRow w0 w' S B v n f := by
  obtain ⟨V, h1, h2⟩ := h
  exact ⟨V, Ow.owns_keep h1 hk, h2⟩
theorem LRow.lt {w0 w : World} {S : Nat → Prop} {B n : Nat} {v : Value} {f : Nat → List Arr} (h : LRow w0 w S B v n f) : ∀ y, v.ownBlock = some y → B ≤ y ∧ y < w.heap.size := by
  obtain ⟨V, h1, -⟩ := h
  exact fun y hy => World.ownsRow.lt h1 y hy
theorem LRow.look {w0 w : World} {S : Nat → Prop} {B n p : Nat} {v : Value} {f : Nat → List Arr} (h : LRow w0 w S B v n f) (hp : p < n) : ∃ g c A' c', v = .slice (some ⟨g, 0, none⟩) n c ∧ n ≤ c ∧ w.cell? ⟨g, p, none⟩ = some (.slice A' (f p).length c') ∧ w.frozen? ⟨g, p, none⟩ = false ∧ LAt 3 EArr w0 S (.slice A' (f p).length c') (f p) ∧ ∀ f' x, LAt 3 EArr w0 S x (f' p) → (∀ q, q ≠ p → f' q = f q) → LRow w0 (w.setCell ⟨g, p, none⟩ x) S B v n f' := by
  obtain ⟨V, h1, h2⟩ := h
  have hv := h2 p hp
  obtain ⟨A', c', e⟩ := hv.form
  rcases h1.2 with ⟨e1, e2⟩ | ⟨g, cap, cur, e1, hb, hg, hnc, hcm, hcs, htake⟩
  · omega
  · subst e1
    refine ⟨g, cap, A', c', rfl, hnc, ?_, frozen_of_row w g p _ _ hg, e ▸ hv, fun f' x hx hq => ?_⟩
    · have := World.ownsRow.cellAt h1 p (by simpa using hp)
      rw [this, List.getElem?_map, List.getElem?_range hp]
      exact congrArg some e
    · refine ⟨upd V p x, ⟨by simp, .inr ⟨g, cap, cur.setIfInBounds p x, rfl, hb, heap_setCell_same w g p cur _ x hg, hnc, hcm, by simpa using hcs, ?_⟩⟩, fun q hq' => ?_⟩
      · rw [Nat.mul_one] at htake ⊢
        rw [Array.toList_setIfInBounds, List.take_set, htake]
        apply List.ext_getElem
        · simp
        · intro i h3 h4
          have hi : i < n := by simpa using h4
          rw [List.getElem_set]
          by_cases hip : p = i
          · subst hip
            simp [upd]
          · rw [if_neg hip]
            simp [upd, Ne.symm hip]
      · by_cases e3 : q = p
        · subst e3; rw [upd_same]; exact hx
        · rw [upd_other _ _ e3, hq q e3]; exact h2 q hq'
set_option maxHeartbeats 1600000 in
theorem clone_any (v : Value) (us : List (List Arr)) (w : World) (S : Nat → Prop) (h : LAt 1 EArr2 w S v us) (hS : ∀ g, S g → g < w.heap.size) (hl : us.length ≤ 1048576) :
    Calls Try.prog 61 #[v] w fun e w' => ∃ v', e = .returned v' ∧ LRow w w' S w.heap.size v' us.length (fun p => us.getD p []) ∧ Below w.heap.size w w' := by
  obtain ⟨hn, A, c, rfl, h⟩ := h
  cases A with
  | none =>
    have hz : us.length = 0 := by
      rcases h with h2 | ⟨g, o, F, h3, _⟩
      · exact h2
      · cases h3
    obtain rfl := List.length_eq_zero_iff.1 hz
    clear h
    have hq := Lib.run_eql_slice_nil (P := Try.prog) w 52 85 none 0 c 0 0 Try.underlying52
    go_enter Try.func61, Try.ntmps61
    go_wp2
    go_ret
    exact ⟨_, rfl, ⟨fun _ => default, World.ownsRow_nil w _ _ _, fun p hp => absurd hp (by simp)⟩, Below.refl _ _⟩
  | some ad =>
    obtain ⟨i0, hi, hz0, hz1, hz2⟩ := info_parts infoAs
    obtain ⟨V, hV⟩ : ∃ V : Nat → Value, (us.length ≠ 0 → ∀ j u, ((List.range us.length).map V)[j]? = some u → w.cell? (ad.add j) = some u) ∧ (∀ p, p < us.length → LAt 3 EArr w S (V p) (us.getD p [])) ∧ ∀ p, p < us.length → (V p).oneCell' = true := by
      rcases h with h2 | ⟨g, o, F, h3, hg, hc, hcell, hel⟩
      · exact ⟨fun _ => .slice none 0 0, fun e => absurd h2 e, fun p hp => by omega, fun p hp => by omega⟩
      · cases h3
        refine ⟨fun p => F p 0, fun _ j u hu => ?_, fun p hp => hel p hp, fun p hp => LAt.one (hel p hp)⟩
        have hj : j < us.length := by simpa using (List.getElem?_eq_some_iff.1 hu).1
        have cc := hcell j hj 0 (by omega)
        have hu' : u = F j 0 := by simpa [hj] using hu.symm
        have ead : Addr.add ⟨g, o, none⟩ j = ⟨g, o + j, none⟩ := by
          by_cases h0 : j = 0
          · subst h0; rfl
          · simp [Addr.add, h0]
        rw [hu', ead]
        simpa using cc
    have OW : Hid ((w.alloc (.cells #[] 85 (0, 0))).ownsRow w.heap.size 85 1 (.slice (some ⟨w.heap.size, 0, none⟩) 0 0) 0 []) := ⟨rfl, .inr ⟨w.heap.size, 0, #[], rfl, Nat.le_refl _, heap_alloc_new _ _, by simp, by unfold maxLen; omega, by simp, by simp⟩⟩
    have NW : Hid (us.length ≠ 0 → ∃ ad', some ad = some ad' ∧ ∀ j u, ((List.range us.length).map V)[j]? = some u → (w.alloc (.cells #[] 85 (0, 0))).cell? (ad'.add j) = some u) := fun h0 => ⟨ad, rfl, fun j u hu => by
      have hc := hV.1 h0 j u hu
      rw [World.cell?_alloc_some _ _ _ (by rw [hc]; rfl)]
      exact hc⟩
    have V2 := Seg.hid hV.2.1
    have V3 : Hid (∀ u ∈ (List.range us.length).map V, u.oneCell' = true) := fun u hu => by
      obtain ⟨p, hp, rfl⟩ := List.mem_map.1 hu
      exact hV.2.2 p (List.mem_range.1 hp)
    have hq := Lib.run_eql_slice_nil (P := Try.prog) w 52 85 (some ad) us.length c 0 0 Try.underlying52
    clear h hV
    go_enter Try.func61, Try.ntmps61
    go_wp2_with (at_builtin; refine AppW.wpList_append_all _ rfl _ _ 52 rfl w.heap.size 85 i0 _ 1 24 Try.underlying52 hi hz0 hz1 hz2 rfl (by decide) (.slice (some ⟨w.heap.size, 0, none⟩) 0 0) 0 [] rfl OW.out (some ad) us.length c ((List.range us.length).map V) rfl (by simp) NW.out V3.out (by unfold maxLen; omega) (by omega) (by rw [hsz]; omega) ?_; intro v' w2 hown hgr hvb; have OA : Hid (w2.ownsRow w.heap.size 85 1 v' us.length ((List.range us.length).map V)) := (by rw [Nat.zero_add, List.nil_append] at hown; exact hown); have B2 : Hid (Below w.heap.size w w2) := (below1 w _).grown hgr (by rw [hsz]; omega) (fun k hk => by simp only [Value.ownBlock, Option.some.injEq] at hk; omega); clear hown hgr hvb)
    go_ret
    exact ⟨_, rfl, ⟨V, OA.out, V2.out⟩, B2.out⟩
/-- The cells of a feed. -/
def fbox (L vc : Value) (m : Nat → Int) : Array Value := #[L, .int .i64 (m 0), .int .i64 (m 1), .int .i64 (m 2), .int .i64 (m 3), .int .i64 (m 4), .int .i64 (m 5), .int .i64 (m 6), .int .i64 (m 7), .int .i64 (m 8), .int .i64 (m 9), vc]
theorem ten {p : Nat} (h : p < 10) : p = 0 ∨ p = 1 ∨ p = 2 ∨ p = 3 ∨ p = 4 ∨ p = 5 ∨ p = 6 ∨ p = 7 ∨ p = 8 ∨ p = 9 := by omega
theorem fbox_mark (L vc : Value) (m : Nat → Int) {p : Nat} (h : p < 10) (x : Int) : (fbox L vc m).setIfInBounds (1 + p) (.int .i64 x) = fbox L vc (upd m p x) := by
  rcases ten h with rfl | rfl | rfl | rfl | rfl | rfl | rfl | rfl | rfl | rfl <;> simp [fbox, upd]
theorem fbox_out (L vc vc' : Value) (m : Nat → Int) : (fbox L vc m).setIfInBounds 11 vc' = fbox L vc' m := by simp [fbox]
theorem fbox_at (L vc : Value) (m : Nat → Int) {p : Nat} (h : p < 10) : (fbox L vc m)[1 + p]? = some (.int .i64 (m p)) := by
  rcases ten h with rfl | rfl | rfl | rfl | rfl | rfl | rfl | rfl | rfl | rfl <;> simp [fbox]
/-- A feed: what is left, the marks, what came. -/
structure Fee (w0 : World) (S : Nat → Prop) (fb : Nat) (wr : World) (L : Value) (n : Nat) (s : St) : Prop where
  bel : Below w0.heap.size w0 wr
  row : LRow w0 wr S w0.heap.size L n s.left
  low : ∀ y, L.ownBlock = some y → y < fb
  old : w0.heap.size ≤ fb
  box : ∃ vc, wr.heap[fb]? = some (.cells (fbox L vc s.marks) 100 (0, 0)) ∧ Ow.LGrow 90 5 Ow.EOCmg wr (fb + 1) vc s.out
theorem Fee.lt {w0 : World} {S : Nat → Prop} {fb n : Nat} {wr : World} {L : Value} {s : St} (h : Fee w0 S fb wr L n s) : fb < wr.heap.size := by
  obtain ⟨vc, h1, -⟩ := h.box
  exact (Array.getElem?_eq_some_iff.1 h1).1
theorem Fee.keep {w0 : World} {S : Nat → Prop} {fb n : Nat} {wr w' : World} {L : Value} {s : St} (h : Fee w0 S fb wr L n s) (hb : Below wr.heap.size wr w') : Fee w0 S fb w' L n s := by
  obtain ⟨vc, h1, h2⟩ := h.box
  have lt := h.lt
  have h3 := h.old
  exact ⟨h.bel.trans (hb.mono (by omega)), LRow.keep h.row (fun y hy => hb.block y (by have := h.low y hy; omega)), h.low, h.old, vc, (hb.block fb lt).trans h1, h2.below Ow.keepsOCmg hb⟩
/-- A mark is written. -/
theorem Fee.note {w0 : World} {S : Nat → Prop} {fb n p : Nat} {wr : World} {L : Value} {s : St} (h : Fee w0 S fb wr L n s) (hp : p < 10) (x : Int) : Fee w0 S fb (wr.setCell ⟨fb, 1 + p, none⟩ (.int .i64 x)) L n ⟨s.left, upd s.marks p x, s.out⟩ := by
  obtain ⟨vc, h1, h2⟩ := h.box
  have h3 := h.old
  refine ⟨h.bel.setCell h3 _, LRow.keep h.row (fun y hy => heap_setCell_other wr _ y _ (by have := h.low y hy; show y ≠ fb; omega)), h.low, h.old, vc, ?_, h2.keep Ow.keepsOCmg (by rw [World.size_setCell]; omega) (fun y hy _ => heap_setCell_other wr _ y _ (by show y ≠ fb; omega))⟩
  have := heap_setCell_same wr fb (1 + p) _ _ (.int .i64 x) h1
  rw [fbox_mark L vc s.marks hp x] at this
  exact this
/-- A coming is appended. -/
theorem Fee.put {w0 : World} {S : Nat → Prop} {fb n : Nat} {wr w6 w9 : World} {L : Value} {s : St} {vc v9 : Value} {u : Cmg} (h : Fee w0 S fb wr L n s) (h1 : wr.heap[fb]? = some (.cells (fbox L vc s.marks) 100 (0, 0))) (hb : Below wr.heap.size wr w6) (gr : w6.grownBy w9 vc.ownBlock) (hlt : ∀ y, vc.ownBlock = some y → fb + 1 ≤ y) (hg : Ow.LGrow 90 5 Ow.EOCmg w9 (fb + 1) v9 (s.out ++ [u])) : Fee w0 S fb (w9.setCell ⟨fb, 11, none⟩ v9) L n ⟨s.left, s.marks, s.out ++ [u]⟩ := by
  have lt := h.lt
  have h3 := h.old
  have h6 := hb.size
  have h9 := gr.size
  have b9 : Below w0.heap.size w0 w9 := (h.bel.trans (hb.mono (by omega))).grown gr (by have := h.bel.size; omega) (fun y hy => by have := hlt y hy; omega)
  have e9 : ∀ y, y ≤ fb → w9.heap[y]? = wr.heap[y]? := fun y hy => (gr.block y (by omega) (fun e => by have := hlt y e.symm; omega)).trans (hb.block y (by omega))
  refine ⟨b9.setCell h3 _, LRow.keep h.row (fun y hy => (heap_setCell_other w9 _ y _ (by have := h.low y hy; show y ≠ fb; omega)).trans (e9 y (by have := h.low y hy; omega))), h.low, h.old, v9, ?_, hg.keep Ow.keepsOCmg (by rw [World.size_setCell]; omega) (fun y hy _ => heap_setCell_other w9 _ y _ (by show y ≠ fb; omega))⟩
  have := heap_setCell_same w9 fb 11 _ _ v9 ((e9 fb (Nat.le_refl _)).trans h1)
  rw [fbox_out L vc v9 s.marks] at this
  exact this
/-- A list goes on behind its first. -/
theorem Fee.pop {w0 : World} {S : Nat → Prop} {fb n g c p : Nat} {wr : World} {s : St} {x : Value} {f' : Nat → List Arr} (h : Fee w0 S fb wr (.slice (some ⟨g, 0, none⟩) n c) n s) (hr : LRow w0 (wr.setCell ⟨g, p, none⟩ x) S w0.heap.size (.slice (some ⟨g, 0, none⟩) n c) n f') : Fee w0 S fb (wr.setCell ⟨g, p, none⟩ x) (.slice (some ⟨g, 0, none⟩) n c) n ⟨f', s.marks, s.out⟩ := by
  obtain ⟨vc, h1, h2⟩ := h.box
  have hl := h.low g rfl
  have ho := (LRow.lt h.row g rfl).1
  exact ⟨h.bel.setCell ho _, hr, h.low, h.old, vc, (heap_setCell_other wr _ fb _ (by show fb ≠ g; omega)).trans h1, h2.keep Ow.keepsOCmg (by rw [World.size_setCell]; omega) (fun y hy _ => heap_setCell_other wr _ y _ (by show y ≠ g; omega))⟩
end Go.Proofs.Ytkibaimemomjpaa.EdF
namespace Go.Proofs.Ytkibaimemomjpaa.EdM
set_option maxRecDepth 8000
open Go.RowKit
open Ls Lp QyP QsP QtP QuP TbP IoP EdP RkP IrA EdI EdF
open Recs (hsz below1 below2 chain chainD)
set_option linter.unusedVariables false
theorem eo_mark (w : World) (p : Nat) (m : Int) : Ow.EOCmg w (fun _ => False) (fun q => [Value.int .i64 p, .int .i64 0, .slice none 0 0, .bool false, .int .i64 m].getD q default) (cmM p m) :=
  ⟨⟨rfl, rfl, rfl, rfl⟩, fun _ _ => False, fun _ _ h => h, fun _ _ _ _ h => h.elim, ⟨by simp [cmM], none, 0, rfl, .inl rfl⟩⟩
/-- What is known of the comings so far, ahead of an append. -/
structure Pt (fb : Nat) (wr : World) (us : List Cmg) (A : Option Addr) (c : Nat) (F : Nat → Value) (P : Nat → Nat → Prop) : Prop where
  lg : Ow.LGr 90 5 Ow.EOCmg wr (fb + 1) (.slice A us.length c) us F P
  old : fb + 1 ≤ wr.heap.size
theorem Pt.own {fb : Nat} {wr w' : World} {us : List Cmg} {A : Option Addr} {c : Nat} {F : Nat → Value} {P : Nat → Nat → Prop} (h : Pt fb wr us A c F P) (hb : Below wr.heap.size wr w') : w'.ownsRow (fb + 1) 90 5 (.slice A us.length c) us.length ((List.range (us.length * 5)).map F) := Ow.own_keep h.lg.own (fun y _ hy => hb.block y hy)
theorem fee_pt {w0 : World} {S : Nat → Prop} {fb n : Nat} {wr : World} {L : Value} {s : St} (h : Fee w0 S fb wr L n s) : ∃ A c F P, wr.heap[fb]? = some (.cells (fbox L (.slice A s.out.length c) s.marks) 100 (0, 0)) ∧ Pt fb wr s.out A c F P := by
  obtain ⟨vc, h1, h2⟩ := h.box
  obtain ⟨A, c, rfl⟩ := h2.form
  obtain ⟨F, P, h3⟩ := h2
  exact ⟨A, c, F, P, h1, h3, h.lt⟩
/-- The append of one coming, and its store. -/
theorem fee_push {w0 : World} {S : Nat → Prop} {fb n c g9 cap9 : Nat} {wr w6 w9 : World} {L : Value} {s : St} {A : Option Addr} {F : Nat → Value} {P : Nat → Nat → Prop} {u : Cmg} {news : List Value} {Q : Nat → Prop} (h : Fee w0 S fb wr L n s) (h1 : wr.heap[fb]? = some (.cells (fbox L (.slice A s.out.length c) s.marks) 100 (0, 0))) (hp : Pt fb wr s.out A c F P)
    (hb : Below wr.heap.size wr w6) (he : Ow.EOCmg w6 Q (fun q => news.getD q default) u) (hQ : ∀ x, Q x → wr.heap.size ≤ x ∧ x < w6.heap.size) (hl : news.length = 5)
    (hown : w9.ownsRow (fb + 1) 90 5 (.slice (some ⟨g9, 0, none⟩) (s.out.length + 1) cap9) (s.out.length + 1) ((List.range (s.out.length * 5)).map F ++ news)) (gr : w6.grownBy w9 (Value.slice A s.out.length c).ownBlock) (hg : (Value.slice A s.out.length c).ownBlock = some g9 ∨ g9 = w6.heap.size) :
    Fee w0 S fb (w9.setCell ⟨fb, 11, none⟩ (.slice (some ⟨g9, 0, none⟩) (s.out.length + 1) cap9)) L n ⟨s.left, s.marks, s.out ++ [u]⟩ ∧ w9.cell? ⟨fb, 11, none⟩ = some (.slice A s.out.length c) ∧ w9.frozen? ⟨fb, 11, none⟩ = false := by
  have lg := Ow.LGr.push Ow.keepsOCmg hp.lg hp.old hb.size (fun x _ hx => hb.block x hx) he hQ hl hown gr hg
  have hlt : ∀ y, (Value.slice A s.out.length c).ownBlock = some y → fb + 1 ≤ y := fun y hy => (World.ownsRow.lt hp.lg.own y hy).1
  have e9 : w9.heap[fb]? = some (.cells (fbox L (.slice A s.out.length c) s.marks) 100 (0, 0)) := (gr.block fb (by have := hp.old; have := hb.size; omega) (fun e => by have := hlt fb e.symm; omega)).trans ((hb.block fb (by have := hp.old; omega)).trans h1)
  exact ⟨h.put h1 hb gr hlt lg, cell_of_row w9 fb 11 _ _ (0, 0) e9, frozen_of_row w9 fb 11 _ _ e9⟩
theorem infoC : (Try.prog.info? 90).map (fun i => (i.zero, i.size, i.bytes)) = some (some (.agg #[.int .i64 0, .int .i64 0, .slice none 0 0, .bool false, .int .i64 0]), 5, 56) := by kernel_rfl
set_option maxHeartbeats 3200000 in
theorem mark_any (w0 : World) (S : Nat → Prop) (fb n p : Nat) (wr : World) (L : Value) (s : St) (m : Int) (h : Fee w0 S fb wr L n s) (hp : p < 10) (hc : s.out.length ≤ 1000000) :
    Calls Try.prog 96 #[.pointer (some ⟨fb, 0, none⟩), .int .i64 p, .int .i64 m] wr fun e w' => e = .returned (.tuple #[]) ∧ Fee w0 S fb w' L n (markS p m s) := by
  obtain ⟨A1, k1, F1, P1, hbx, -⟩ := fee_pt h
  have c1 : wr.cell? ⟨fb, 1 + p, none⟩ = some (.int .i64 (s.marks p)) := by rw [cell_of_row wr fb (1 + p) _ _ (0, 0) hbx]; exact fbox_at _ _ _ hp
  have f1 := frozen_of_row wr fb (1 + p) _ _ hbx
  have N0 := Seg.hid (h.note hp m)
  clear h hbx
  obtain ⟨s1, hs1⟩ : ∃ s1 : St, (⟨s.left, upd s.marks p m, s.out⟩ : St) = s1 := ⟨_, rfl⟩
  rw [hs1] at N0
  have HE : Hid (markS p m s = ⟨s1.left, s1.marks, s1.out ++ [cmM p m]⟩) := by show _ = _; rw [← hs1]; rfl
  have hl1 : s1.out.length ≤ 1000000 := by rw [← hs1]; exact hc
  clear hs1 hc
  obtain ⟨w1, hw1⟩ : ∃ w1, wr.setCell ⟨fb, 1 + p, none⟩ (.int .i64 m) = w1 := ⟨_, rfl⟩
  rw [hw1] at N0
  obtain ⟨A, c, F, P, hbox, hpt⟩ := fee_pt N0.out
  have BX := Seg.hid hbox
  have PT := Seg.hid hpt
  have e11 : w1.cell? ⟨fb, 11, none⟩ = some (.slice A s1.out.length c) := cell_of_row w1 fb 11 _ _ (0, 0) hbox
  have lt := N0.out.lt
  clear hbox hpt
  obtain ⟨i0, hi, hz0, hz1, hz2⟩ := info_parts infoC
  have h0 : (0 : Int) ≤ (p : Int) := by omega
  have h10 : (p : Int) < 10 := by omega
  have LK : Hid (s1.out.length ≤ 1000000) := hl1
  clear hl1
  go_enter Try.func96, Try.ntmps96
  go_upto_region 1 with fail
  try rw [hw1]
  clear hw1 c1 f1
  go_wp2_with (at_builtin; (refine wpList_append_lies _ rfl _ _ 48 rfl (fb + 1) 90 i0 _ 5 56 Try.underlying48 hi hz0 hz1 hz2 rfl (by decide) (.slice A s1.out.length c) s1.out.length ((List.range (s1.out.length * 5)).map F) rfl (PT.out.own (below1 w1 _)) ⟨w1.heap.size, 0, none⟩ 1 1 [.int .i64 p, .int .i64 0, .slice none 0 0, .bool false, .int .i64 m] rfl rfl (World.news_of_block (cs := #[.int .i64 p, .int .i64 0, .slice none 0 0, .bool false, .int .i64 m]) (heap_alloc_new _ _)) (by simp [Value.oneCell']) (by decide) (by have := LK.out; unfold maxLen; omega) (by have := LK.out; omega) (by rw [hsz]; omega) _ rfl ?_; intro g9 cap9 w9 hown9 gr9 hat9 hlt9; obtain ⟨q1, q2, q3⟩ := fee_push N0.out BX.out PT.out (below1 w1 _) (eo_mark _ p m) (fun _ h => h.elim) rfl hown9 gr9 hat9; have FH := Seg.hid q1; clear q1 hown9 gr9 hat9 hlt9))
  go_end0
  exact ⟨rfl, by rw [HE.out]; exact FH.out⟩
end Go.Proofs.Ytkibaimemomjpaa.EdM
