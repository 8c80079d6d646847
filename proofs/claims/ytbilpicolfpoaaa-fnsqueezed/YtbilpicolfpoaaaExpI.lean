/- What the program's Expand answers: the bytes that the pieces are of. -/
import Derived.Test.YtbilpicolfpoaaaExpA
import Derived.Deep.LoopGhost
namespace Go.Proofs.Ytbilpicolfpoaaa.ExpI
open Go.RowKit
open Seg (B)
open Expd (Done)
open ExpM (piece expand Far)
set_option linter.unusedVariables false

/-- The expander at a place. -/
structure At (W w : World) (E gb base most : Nat) (l : List Int) (i : Nat) (out : List Int) : Prop where
  d : Done W w E gb i (l.length - i) out.length base most out
  cells : ∀ j, j < l.length → w.cell? ⟨gb, j, none⟩ = some (.int .u8 (l.getD j 0))
theorem at_next {W w w' : World} {E gb base most i : Nat} {l out : List Int} {i' k : Nat} {out' : List Int} (h : At W w E gb base most l i out) (hgb : gb < base) (hd : Done w w' E gb i' (l.length - i') k base most out') (hk : k = out'.length) : At W w' E gb base most l i' out' := by
  subst hk
  exact ⟨⟨hd.ps, hd.ou, hd.mo, hd.f0, hd.f1, h.d.bl.trans hd.bl⟩, fun j hj => by rw [hd.bl.cell (p := ⟨gb, j, none⟩) hgb]; exact h.cells j hj⟩

set_option maxRecDepth 4000 in
set_option maxHeartbeats 1600000 in
theorem piece_any (W w : World) (E gb base most : Nat) (l : List Int) (i : Nat) (out : List Int) (hl : l.length ≤ 2000000) (hby : Seg.Byt l) (hmost : most ≤ 60000) (hbE : base ≤ E) (hgb : gb < base) (hi : i < l.length) (ho : out.length ≤ most)
    (h : At W w E gb base most l i out) :
    Calls Try.prog 17 #[.pointer (some ⟨E, 0, none⟩)] w fun e w' =>
      (e = .returned (.bool false) ∧ piece l most i out = none ∧ ∃ d, w' = w.drewN d) ∨ (∃ i' out', e = .returned (.bool true) ∧ piece l most i out = some (i', out') ∧ At W w' E gb base most l i' out') := by
  obtain ⟨A, cp, c0, hA⟩ := h.d.ps
  obtain ⟨rfl, hmc⟩ := hA (by omega)
  obtain ⟨g, cap, c1, o1, hgE⟩ := h.d.ou
  have c2 := h.d.mo
  obtain ⟨x, HX, hx⟩ : ∃ x : Nat, Hid (l.getD i 0 = (x : Int)) ∧ x < 256 := ⟨(l.getD i 0).toNat, by show _ = _; have := hby i; omega, by have := hby i; omega⟩
  have cx : w.cell? ⟨gb, i, none⟩ = some (.int .u8 (x : Int)) := by rw [h.cells i hi, HX.out]
  have HX2 : Hid ((l.getD i 0).toNat = x) := (by show _ = _; rw [HX.out]; simp)
  have H := Seg.hid h; have HY := Seg.hid hby; have O1 := Seg.hid o1
  have hm0 : (0 : Int) < ((l.length - i : Nat) : Int) := by omega
  clear h hby o1
  have C0 := Seg.hid c0; have C1 := Seg.hid c1; have C2 := Seg.hid c2
  by_cases h1 : x < 128
  · go_enter Try.func17, Try.ntmps17
    go_wp2_with fail
    by_cases h2 : l.length - i < 1 + (x + 1)
    · refine (Expd.plain_short E (l.length - i) cp 0 0 _ none (x + 1) 0 _ (by omega) (by omega) C0.out h2).mono ?_
      rintro e w1 ⟨rfl, d, rfl⟩
      go_wp2_with fail
      go_ret
      exact .inl ⟨rfl, ExpM.p_short HX2.out h1 h2, d, rfl⟩
    by_cases h3 : most < out.length + (x + 1)
    · refine (Expd.plain_full E (l.length - i) cp out.length cap _ _ (x + 1) most _ (by omega) (by omega) (by omega) C0.out C1.out C2.out (by omega) (by omega)).mono ?_
      rintro e w1 ⟨rfl, d, rfl⟩
      go_wp2_with fail
      go_ret
      exact .inl ⟨rfl, ExpM.p_full HX2.out h1 h2 h3, d, rfl⟩
    · refine (Expd.plain_ok E gb i (l.length - i) cp out.length cap g base (x + 1) most (fun j => l.getD (i + j) 0) out _ (by omega) (by omega) (by omega) (by omega) hmc C0.out C1.out C2.out H.out.d.f0 H.out.d.f1 rfl O1.out hgE hbE hgb (fun j hj => H.out.cells (i + j) (by omega)) (by omega) (by omega) (by omega)).mono ?_
      rintro e w1 ⟨rfl, D⟩
      have HD := Seg.hid D
      clear D
      go_wp2_with fail
      go_ret
      refine .inr ⟨_, _, rfl, ExpM.p_plain HX2.out h1 h2 h3, at_next H.out hgb (by rw [show l.length - (i + (1 + (x + 1))) = l.length - i - (1 + (x + 1)) by omega]; exact HD.out) (by simp)⟩
  · by_cases h2 : 191 < x
    · go_enter Try.func17, Try.ntmps17
      go_wp2_with fail
      go_ret
      exact .inl ⟨rfl, ExpM.p_high HX2.out h1 h2, 0, rfl⟩
    · obtain ⟨n, hn⟩ : ∃ n : Nat, (x : Int) - 124 = (n : Int) := ⟨x - 124, by omega⟩
      have hnx : x - 124 = n := by omega
      go_enter Try.func17, Try.ntmps17
      go_wp2_with fail
      clear hn
      by_cases h3 : l.length - i < 3
      · refine (Expc.copied_short E (l.length - i) cp _ n _ h3 (by omega) C0.out).mono ?_
        rintro e w1 ⟨rfl, d, rfl⟩
        go_wp2_with fail
        go_ret
        exact .inl ⟨rfl, ExpM.p_cut HX2.out h1 h2 h3, d, rfl⟩
      by_cases h4 : most < out.length + (x - 124)
      · refine (Expc.copied_full E (l.length - i) cp out.length cap _ _ n most _ (by omega) (by omega) (by omega) (by omega) C0.out C1.out C2.out (by omega)).mono ?_
        rintro e w1 ⟨rfl, d, rfl⟩
        go_wp2_with fail
        go_ret
        exact .inl ⟨rfl, ExpM.p_much HX2.out h1 h2 h3 h4, d, rfl⟩
      obtain ⟨a, HA, ha⟩ : ∃ a : Nat, Hid (l.getD (i + 1) 0 = (a : Int)) ∧ a < 256 := ⟨(l.getD (i + 1) 0).toNat, by show _ = _; have := HY.out (i + 1); omega, by have := HY.out (i + 1); omega⟩
      obtain ⟨b, HB, hb⟩ : ∃ b : Nat, Hid (l.getD (i + 2) 0 = (b : Int)) ∧ b < 256 := ⟨(l.getD (i + 2) 0).toNat, by show _ = _; have := HY.out (i + 2); omega, by have := HY.out (i + 2); omega⟩
      have ca : Hid (w.cell? ⟨gb, i + 1, none⟩ = some (.int .u8 (a : Int))) := (by show _ = _; rw [H.out.cells (i + 1) (by omega), HA.out])
      have cb : Hid (w.cell? ⟨gb, i + 2, none⟩ = some (.int .u8 (b : Int))) := (by show _ = _; rw [H.out.cells (i + 2) (by omega), HB.out])
      have HA2 : Hid ((l.getD (i + 1) 0).toNat = a) := (by show _ = _; rw [HA.out]; simp)
      have HB2 : Hid ((l.getD (i + 2) 0).toNat = b) := (by show _ = _; rw [HB.out]; simp)
      by_cases h5 : out.length < a * 256 + b + 1
      · refine (Expc.copied_far E gb i (l.length - i) cp out.length cap _ n a b most _ (by omega) (by omega) hmc (by omega) (by omega) ha hb C0.out C1.out C2.out (by omega) ca.out cb.out h5).mono ?_
        rintro e w1 ⟨rfl, d, rfl⟩
        go_wp2_with fail
        go_ret
        exact .inl ⟨rfl, ExpM.p_back HX2.out h1 h2 h3 h4 HA2.out HB2.out h5, d, rfl⟩
      · refine (Expc.copied_ok E gb i (l.length - i) cp out.length cap g base n a b most out _ (by omega) (by omega) hmc (by omega) (by omega) ha hb C0.out C1.out C2.out (by omega) (by omega) H.out.d.f0 H.out.d.f1 rfl O1.out hgE hbE hgb ca.out cb.out (by omega)).mono ?_
        rintro e w1 ⟨rfl, D⟩
        have HD := Seg.hid D
        clear D
        go_wp2_with fail
        go_ret
        refine .inr ⟨_, _, rfl, ExpM.p_copy HX2.out h1 h2 h3 h4 HA2.out HB2.out h5, at_next H.out hgb (by rw [hnx, show l.length - (i + 3) = l.length - i - 3 by omega]; exact HD.out) (by rw [Expc.cpy_len, hnx])⟩

set_option maxHeartbeats 800000 in
theorem impl_out (A : Option Addr) (n c : Nat) (most : Int) (w : World) (h : most < 0 ∨ (0 ≤ most ∧ 60000 < most)) :
    Calls Try.prog 7 #[.slice A n c, .int .i64 most] w fun e w' => ExpS.Ans w none e w' := by
  rcases h with h | ⟨h, h'⟩
  · go_enter Try.func7, Try.ntmps7
    go_wp2
    go_ret2
    exact ⟨w.heap.size, rfl, World.ownsRow_lit w #[] 0 (Nat.le_refl _) (Nat.zero_le _) rfl, (Below.refl _ _).alloc (Nat.le_refl _) _⟩
  · go_enter Try.func7, Try.ntmps7
    go_wp2
    go_ret2
    exact ⟨w.heap.size, rfl, World.ownsRow_lit w #[] 0 (Nat.le_refl _) (Nat.zero_le _) rfl, (Below.refl _ _).alloc (Nat.le_refl _) _⟩

theorem at_start {w : World} {gb n c most : Nat} {l : List Int} (hl : l.length = n) (hc1 : n ≤ c) (hg : gb < w.heap.size) (hcell : ∀ j, j < n → w.cell? ⟨gb, j, none⟩ = some (.int .u8 (l.getD j 0))) (t : TypeId) :
    At w ((w.alloc (.cells #[] 5)).alloc (.cells #[.slice (some ⟨gb, 0, none⟩) n c, .slice (some ⟨w.heap.size, 0, none⟩) 0 0, .int .i64 most] t)) (w.heap.size + 1) gb w.heap.size most l 0 [] := by
  subst hl
  have h2 := heap_alloc2_new w (.cells #[] 5) (.cells #[.slice (some ⟨gb, 0, none⟩) l.length c, .slice (some ⟨w.heap.size, 0, none⟩) 0 0, .int .i64 most] t)
  have k := fun (j : Nat) => cell_of_row _ (w.heap.size + 1) j _ _ _ h2
  have hb : Below w.heap.size w ((w.alloc (.cells #[] 5)).alloc (.cells #[.slice (some ⟨gb, 0, none⟩) l.length c, .slice (some ⟨w.heap.size, 0, none⟩) 0 0, .int .i64 most] t)) := ((Below.refl _ _).alloc (Nat.le_refl _) _).alloc (by simp) _
  refine ⟨⟨⟨_, _, by rw [k]; rfl, fun _ => ⟨rfl, hc1⟩⟩, ⟨w.heap.size, 0, by rw [k]; rfl, (World.ownsRow_lit w #[] 0 (Nat.le_refl _) (Nat.zero_le _) rfl).alloc _, by omega⟩, by rw [k]; rfl, frozen_of_row _ _ _ _ _ h2, frozen_of_row _ _ _ _ _ h2, hb⟩, fun j hj => ?_⟩
  rw [hb.cell (p := ⟨gb, j, none⟩) hg]; exact hcell j hj

set_option maxRecDepth 100000 in
set_option maxHeartbeats 1600000 in
theorem impl_in (g n c : Nat) (l : List Int) (most : Nat) (w : World) (hn : n ≤ 2000000) (hc1 : n ≤ c) (hl : l.length = n) (hby : Seg.Byt l) (hg : g < w.heap.size) (hmost : most ≤ 60000)
    (hcell : ∀ j, j < n → w.cell? ⟨g, j, none⟩ = some (.int .u8 (l.getD j 0))) :
    Calls Try.prog 7 #[.slice (some ⟨g, 0, none⟩) n c, .int .i64 most] w fun e w' => ExpS.Ans w (expand l most 0 []) e w' := by
  have A0 := Seg.hid (at_start (most := most) hl hc1 hg hcell 42)
  have HY := Seg.hid hby; have HL := Seg.hid hl
  clear hcell hby hl
  have hneg : decide ((most : Int) < 0) = false := by simp
  go_enter Try.func7, Try.ntmps7
  go_wp2_with fail
  go_loopg [4] l.length (fun q v wr => v = .slice none 0 0 ∧ ∃ (i : Nat) (out : List Int), i ≤ l.length ∧ q = l.length - i ∧ Far l most i out ∧ At w wr (w.heap.size + 1) g w.heap.size most l i out)
  case atStart => exact ⟨rfl, 0, [], Nat.zero_le _, rfl, Far.start l most, A0.out⟩
  case round =>
    clear A0
    obtain ⟨rfl, i, out, hle, hq, F, T⟩ := hrel
    have HQ := Seg.hid hq
    have HF := Seg.hid F; have HT := Seg.hid T
    obtain ⟨A, cp, c0, hA⟩ := T.d.ps
    have hb0 := T.d.bl.size
    have hol := F.ol
    have hlen := HL.out
    clear F T hA hq
    by_cases hlt : i < l.length
    · have hm0 : (0 : Int) < ((l.length - i : Nat) : Int) := by omega
      go_wp2_with fail
      refine (piece_any w wr (w.heap.size + 1) g w.heap.size most l i out (by omega) HY.out hmost (by omega) hg hlt hol HT.out).mono ?_
      rintro e w2 (⟨rfl, hp, d, rfl⟩ | ⟨i', out', rfl, hp, T2⟩)
      · have HE := Seg.hid (HF.out.bad hlt hp)
        clear hp
        go_wp2_with fail
        go_ret2
        rw [HE.out]
        exact ⟨wr.heap.size, rfl, World.ownsRow_lit (wr.drewN d) #[] 0 hb0 (Nat.zero_le _) rfl, (below_drewN HT.out.d.bl d).alloc (by simpa using hb0) _⟩
      · have HN := Seg.hid (HF.out.next hlt hp)
        have hpn := ExpM.piece_next hp
        have HT2 := Seg.hid T2
        clear hp T2
        go_wp2_with fail
        go_roundg (l.length - i')
        case measure => rw [HQ.out]; omega
        case rel => exact ⟨rfl, i', out', hpn.2.1, rfl, HN.out, HT2.out⟩
    · have hm0 : l.length - i = 0 := by omega
      have HE := Seg.hid (HF.out.done hlt)
      obtain ⟨g1, cap1, c1, o1, hgE⟩ := HT.out.d.ou
      have O1 := Seg.hid o1
      rw [hm0] at c0
      clear o1
      go_wp2_with fail
      go_ret2
      rw [HE.out]
      exact ⟨g1, cap1, rfl, O1.out, HT.out.d.bl⟩
end Go.Proofs.Ytbilpicolfpoaaa.ExpI
