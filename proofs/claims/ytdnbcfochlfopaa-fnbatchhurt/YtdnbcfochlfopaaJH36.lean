/- A record, drawn; One of some numbers, drawn. -/
import Derived.Deep.RegionHeld3
import Derived.Deep.RegionLaw
import Derived.Test.YtdnbcfochlfopaaJH35
import Derived.Test.YtdnbcfochlfopaaJH21
import Derived.Test.YtdnbcfochlfopaaJH34
namespace Go.Proofs.Ytdnbcfochlfopaa.DrawD
set_option maxRecDepth 8000
open Go.RowKit
open Draw (Cur Lft Bytes)
open Recs (hsz Hd Rec Heads recVal RecAt)
open Rd (HsAt hcells hcells_app infoH)
open RecW (recArr recArr_one info29)
set_option linter.unusedVariables false

/-- The record that is being drawn lies in block q; its Heads in memory from q + 1 on. -/
structure DR (w wr : World) (b : Nat) (A : Option Addr) (n c : Nat) (r : Rec) (hv : Value) : Prop where
  z : ∃ o, wr.heap[w.heap.size]? = some (.cells o 36 (0, 0)) ∧ o.size = 6
  blk : wr.heap[w.heap.size + 1]? = some (.cells (recArr r hv) 36 (0, 0))
  hs : HsAt wr (w.heap.size + 1 + 1) hv r.heads
  len : r.heads.length ≤ 3
  lft : Lft w wr b A n c
section
variable {w wr w2 : World} {b : Nat} {A : Option Addr} {n c : Nat} {r : Rec} {hv : Value}
theorem DR.lt (h : DR w wr b A n c r hv) : w.heap.size + 1 < wr.heap.size := (Array.getElem?_eq_some_iff.1 h.blk).1
theorem DR.lft2 (h0 : Cur w b A n c) (h : DR w wr b A n c r hv) (L : Lft wr w2 b A n c) : DR w w2 b A n c r hv := by
  have hb := h0.lt
  have hl := h.lt
  obtain ⟨o, h1, h2⟩ := h.z
  exact ⟨⟨o, (L.grown.block _ (by omega) (by intro e; cases e; omega)).trans h1, h2⟩, (L.grown.block _ hl (by intro e; cases e; omega)).trans h.blk, h.hs.keep L.grown (fun g e => by cases e; omega), h.len, h.lft.trans L⟩
theorem DR.alloc (h0 : Cur w b A n c) (h : DR w wr b A n c r hv) (o : Obj) : DR w (wr.alloc o) b A n c r hv :=
  h.lft2 h0 ⟨h.lft.cur.alloc o, World.grownBy_alloc wr o (some b)⟩
theorem grown_cell (w : World) (g j : Nat) (v : Value) : w.grownBy (w.setCell ⟨g, j, none⟩ v) (some g) := Draw.grown_setCell w g j v
/-- One cell of it is written. -/
theorem DR.set (h0 : Cur w b A n c) (h : DR w wr b A n c r hv) (j : Nat) (v : Value) (r' : Rec) (hr : r'.heads = r.heads) (he : (recArr r hv).setIfInBounds j v = recArr r' hv) : DR w (wr.setCell ⟨w.heap.size + 1, j, none⟩ v) b A n c r' hv := by
  have hl := h.lt
  have gr := grown_cell wr (w.heap.size + 1) j v
  obtain ⟨o, h1, h2⟩ := h.z
  refine ⟨⟨o, (gr.block _ (by omega) (by simp)).trans h1, h2⟩, ?_, ?_, by rw [hr]; exact h.len, DrawB.Lft.above h0 h.lft gr (fun k e => by cases e; omega)⟩
  · rw [heap_setCell_same wr (w.heap.size + 1) j _ _ v h.blk, he]
  · rw [hr]; exact h.hs.keep gr (fun g e => by cases e; omega)
theorem DR.cell (h : DR w wr b A n c r hv) (j : Nat) (v : Value) (hj : (recArr r hv)[j]? = some v) : wr.cell? ⟨w.heap.size + 1, j, none⟩ = some v := by
  rw [cell_of_row wr (w.heap.size + 1) j _ _ _ h.blk, hj]
theorem DR.free (h : DR w wr b A n c r hv) (j : Nat) : wr.frozen? ⟨w.heap.size + 1, j, none⟩ = false := frozen_of_row wr (w.heap.size + 1) j _ _ h.blk
theorem DR.form (h : DR w wr b A n c r hv) : ∃ A' c', hv = .slice A' r.heads.length c' := by
  rcases h.hs.form with ⟨h1, h2⟩ | ⟨g, c', h1, _⟩
  · exact ⟨none, 0, by rw [h1, h2]; rfl⟩
  · exact ⟨_, _, h1⟩
theorem DR.drew (h : DR w wr b A n c r hv) : DR w wr.drew b A n c r hv := ⟨h.z, h.blk, World.ownsRow.drew h.hs, h.len, h.lft.cur.drew, Draw.grown_drew h.lft.grown⟩
theorem DR.own (h : DR w wr b A n c r hv) : wr.ownsRow (w.heap.size + 1 + 1) 100 2 hv r.heads.length (hcells r.heads) := h.hs
theorem DR.blocks (h : DR w wr b A n c r hv) {o : Obj} {w' : World} (gr : (wr.alloc o).grownBy w' hv.ownBlock) : w'.heap[w.heap.size]? = wr.heap[w.heap.size]? ∧ w'.heap[w.heap.size + 1]? = wr.heap[w.heap.size + 1]? := by
  have hl := h.lt
  have hne : ∀ k, some k = hv.ownBlock → w.heap.size + 1 + 1 ≤ k := fun k e => (World.ownsRow.lt h.own k e.symm).1
  exact ⟨(gr.block _ (by rw [hsz]; omega) (fun e => by have := hne _ e; omega)).trans (heap_alloc_old _ _ (by omega)), (gr.block _ (by rw [hsz]; omega) (fun e => by have := hne _ e; omega)).trans (heap_alloc_old _ _ (by omega))⟩
theorem DR.push5 (h : DR w wr b A n c r hv) {o : Obj} {w' : World} (gr : (wr.alloc o).grownBy w' hv.ownBlock) : w'.cell? ⟨w.heap.size + 1, 5, none⟩ = some hv ∧ w'.frozen? ⟨w.heap.size + 1, 5, none⟩ = false := by
  have := (h.blocks gr).2.trans h.blk
  exact ⟨by rw [cell_of_row _ _ 5 _ _ _ this]; rfl, frozen_of_row _ _ 5 _ _ this⟩
theorem DR.pushed (h0 : Cur w b A n c) (h : DR w wr b A n c r hv) {o : Obj} {w' : World} (gr : (wr.alloc o).grownBy w' hv.ownBlock) {v' : Value} {x : Hd} (ho : w'.ownsRow (w.heap.size + 1 + 1) 100 2 v' (r.heads.length + 1) (hcells r.heads ++ [.string x.key, .string x.val])) (h3 : (r.heads.length : Int) < 3) :
    DR w (w'.setCell ⟨w.heap.size + 1, 5, none⟩ v') b A n c { r with heads := r.heads ++ [x] } v' := by
  have hb := h.blocks gr
  have hl := h.lt
  have g5 := grown_cell w' (w.heap.size + 1) 5 v'
  obtain ⟨z, h1, h2⟩ := h.z
  refine ⟨⟨z, ?_, h2⟩, ?_, ?_, by simp; omega, ?_⟩
  · rw [heap_setCell_other _ _ _ _ (by simp), hb.1, h1]
  · rw [heap_setCell_same w' (w.heap.size + 1) 5 _ _ v' (hb.2.trans h.blk)]; rfl
  · refine HsAt.keep ?_ g5 (fun g e => by cases e; omega)
    unfold HsAt
    rw [hcells_app, List.length_append]
    exact ho
  · exact DrawB.Lft.above h0 (DrawB.Lft.above h0 (DrawB.Lft.above h0 h.lft (World.grownBy_alloc wr o none) (fun k e => by cases e)) gr (fun k e => by have := (World.ownsRow.lt h.own k e).1; omega)) g5 (fun k e => by cases e; omega)
/-- It is copied into the answer's own block. -/
structure Dn (w wr : World) (b : Nat) (A : Option Addr) (n c : Nat) (r : Rec) (hv : Value) : Prop where
  th : wr.there w.heap.size 0 (recArr r hv).size
  at_ : (wr.setCells w.heap.size 0 (recArr r hv).toList).heap[w.heap.size]? = some (.cells (recArr r hv) 36 (0, 0))
  rc : RecAt (wr.setCells w.heap.size 0 (recArr r hv).toList) w.heap.size (wr.setCells w.heap.size 0 (recArr r hv).toList).heap.size (recVal r hv) r
  lft : Lft w (wr.setCells w.heap.size 0 (recArr r hv).toList) b A n c
theorem grown_cells (g : Nat) : ∀ (vs : List Value) (o : Nat) (w : World), w.grownBy (w.setCells g o vs) (some g)
  | [], _, w => World.grownBy.refl _ _
  | v :: r, o, w => (grown_cell w g o v).trans (grown_cells g r (o + 1) _)
theorem DR.done (h0 : Cur w b A n c) (h : DR w wr b A n c r hv) : Dn w wr b A n c r hv := by
  have hl := h.lt
  obtain ⟨o, h1, h2⟩ := h.z
  have gr := grown_cells w.heap.size (recArr r hv).toList 0 wr
  have hh := (h.hs.keep gr (fun g e => by cases e; omega)).heads (by have := h.len; omega)
  refine ⟨?_, Cells.whole h1 h2, ⟨hv, rfl, hh.1.mono (by omega) (Nat.le_refl _)⟩, DrawB.Lft.above h0 h.lft gr (fun k e => by cases e; omega)⟩
  have := Cells.there_of h1
  rw [h2] at this
  exact this
end
def lenAt (w : World) (g : Nat) : Nat := match w.cell? ⟨g, 5, none⟩ with | some (.slice _ k _) => k | _ => 0
theorem lenAt_of {w : World} {g k c : Nat} {A : Option Addr} (h : w.cell? ⟨g, 5, none⟩ = some (.slice A k c)) : lenAt w g = k := by unfold lenAt; rw [h]
theorem texts (w : World) (vs : List ByteArray) (t : TypeId) (g i : Nat) (hg : g = w.heap.size) (hi : i < vs.length) : (w.alloc (.cells (vs.map Value.string).toArray t)).cell? ⟨g, i, none⟩ = some (.string (vs.getD i default)) := by
  subst hg
  rw [cell_of_row _ w.heap.size i _ _ _ (heap_alloc_new w _)]
  simp [hi]

set_option maxHeartbeats 1600000 in
theorem record_any (b : Nat) (A : Option Addr) (n c : Nat) (ver now : Int) (w : World) (hc : Cur w b A n c) :
    Calls Try.prog 96 #[.pointer (some ⟨b, 0, none⟩), .int .i64 ver, .int .i64 now] w fun e w' => ∃ v r, e = .returned v ∧ RecAt w' w.heap.size w'.heap.size v r ∧ Lft w w' b A n c := by
  obtain ⟨i0, hi, hz0, hz1, hz2⟩ := info_parts infoH
  have HC := Seg.hid hc
  have hbl := hc.lt
  clear hc
  have D0 : Hid (DR w ((w.alloc (.cells #[.int .i64 0, .bool false, .string ⟨#[]⟩, .bool false, .string ⟨#[]⟩, .slice none 0 0] 36)).alloc (.cells #[.int .i64 now, .bool false, .string ⟨#[]⟩, .bool false, .string ⟨#[]⟩, .slice none 0 0] 36)) b A n c ⟨now, false, ⟨#[]⟩, false, ⟨#[]⟩, []⟩ (.slice none 0 0)) := by
    refine ⟨⟨#[.int .i64 0, .bool false, .string ⟨#[]⟩, .bool false, .string ⟨#[]⟩, .slice none 0 0], ?_, rfl⟩, ?_, World.ownsRow_nil _ _ _ _, by simp, ⟨(HC.out.alloc _).alloc _, (World.grownBy_alloc _ _ _).trans (World.grownBy_alloc _ _ _)⟩⟩
    · rw [heap_alloc_old _ _ (by rw [hsz]; omega), heap_alloc_new]
    · have := heap_alloc_new (w.alloc (.cells #[.int .i64 0, .bool false, .string ⟨#[]⟩, .bool false, .string ⟨#[]⟩, .slice none 0 0] 36)) (.cells #[.int .i64 now, .bool false, .string ⟨#[]⟩, .bool false, .string ⟨#[]⟩, .slice none 0 0] 36)
      rw [hsz] at this
      exact this
  go_enter Try.func96, Try.ntmps96
  go_wp2_with fail
  rename_i Q' K2 a2 K1 a1 K0 a0
  have J1 : ∀ (x10 x11 x12 x13 x14 x15 x16 x17 : Value) (kd : Bool) (ky : ByteArray) (wr : World), Hid (DR w wr b A n c ⟨now, kd, ky, false, ⟨#[]⟩, []⟩ (.slice none 0 0)) → K2 ⟨#[.pointer (some ⟨b, 0, none⟩), .int .i64 ver, .int .i64 now, undef, undef, undef, .pointer (some ⟨w.heap.size, 0, none⟩), .pointer (some ⟨w.heap.size + 1, 0, none⟩), .int .i64 now, .agg #[.int .i64 now, .bool false, .string ⟨#[]⟩, .bool false, .string ⟨#[]⟩, .slice none 0 0], x10, x11, x12, x13, x14, x15, x16, x17, undef, undef, undef, undef, undef, undef, undef, undef, undef, undef, undef, undef, undef, undef, undef, undef, undef, undef, undef, undef, undef, undef, undef, undef, undef, undef, undef, undef, undef, undef, undef, undef, undef, undef, undef, undef, undef, undef, undef, undef, undef, undef], []⟩ wr := by
    clear a0 a1 K0 K1 D0
    intro x10 x11 x12 x13 x14 x15 x16 x17 kd ky wr D1
    refine a2 _ _ ?_
    clear a2 K2
    go_wp2_with fail
    rename_i K4 a4 K3 a3 K0 a0
    have J2 : ∀ (x10 x11 x12 x13 x14 x15 x16 x17 x18 x19 x20 x21 x22 x23 x24 x25 x26 x27 x28 x29 x30 x31 x32 x33 : Value) (r1 : Rec) (wr : World), Hid (DR w wr b A n c r1 (.slice none 0 0)) → K4 ⟨#[.pointer (some ⟨b, 0, none⟩), .int .i64 ver, .int .i64 now, undef, undef, undef, .pointer (some ⟨w.heap.size, 0, none⟩), .pointer (some ⟨w.heap.size + 1, 0, none⟩), .int .i64 now, .agg #[.int .i64 now, .bool false, .string ⟨#[]⟩, .bool false, .string ⟨#[]⟩, .slice none 0 0], x10, x11, x12, x13, x14, x15, x16, x17, x18, x19, x20, x21, x22, x23, x24, x25, x26, x27, x28, x29, x30, x31, x32, x33, undef, undef, undef, undef, undef, undef, undef, undef, undef, undef, undef, undef, undef, undef, undef, undef, undef, undef, undef, undef, undef, undef, undef, undef, undef, undef], []⟩ wr := by
      clear a0 a3 K0 K3 D1 x10 x11 x12 x13 x14 x15 x16 x17
      intro x10 x11 x12 x13 x14 x15 x16 x17 x18 x19 x20 x21 x22 x23 x24 x25 x26 x27 x28 x29 x30 x31 x32 x33 r1 wr D6
      refine a4 _ _ ?_
      clear a4 K4
      go_wp2_with fail
      go_loopw [34] (fun x wr => ∃ (r : Rec) (hv : Value), Hid (DR w wr b A n c r hv)) (fun _ wr => 3 - lenAt wr (w.heap.size + 1))
      case atStart => exact ⟨_, _, D6.out⟩
      case round =>
        clear D6
        obtain ⟨r, hv, D7⟩ := hrel
        obtain ⟨A1, c1, rfl⟩ := D7.out.form
        by_cases hver : ver = 2
        · subst hver
          go_wp2_with fail
          refine (Draw.once_any b A n c 4 _ D7.out.lft.cur (by decide) (by decide)).mono ?_
          rintro e w8 ⟨⟨t8, rfl⟩, L8⟩
          have D8 := Seg.hid (D7.out.lft2 HC.out L8)
          have M7 : Hid (lenAt wr (w.heap.size + 1) = r.heads.length) := lenAt_of (D7.out.cell 5 (.slice A1 r.heads.length c1) rfl)
          clear D7 L8
          have h3 := D8.out.len
          cases t8
          · clear M7
            have DN := Seg.hid (D8.out.done HC.out)
            have H3 := Seg.hid D8.out.blk
            clear D8
            go_wp2_with (first | (refine wpList_load_row rfl 36 _ rfl (w.heap.size + 1) rfl _ _ _ _ H3.out Try.underlying36 rfl info29 ?_) | (refine wpList_store_mid rfl 36 _ _ rfl w.heap.size 0 (recArr r (.slice A1 r.heads.length c1)) rfl rfl DN.out.th info29 (recArr_one _ _ rfl) ?_))
            exact bodyPost_ret (v := recVal r (.slice A1 r.heads.length c1)) (results_cell_row rfl _ _ w.heap.size _ _ _ _ rfl DN.out.at_ Try.underlying36 rfl info29) rfl ⟨_, _, rfl, DN.out.rc, DN.out.lft⟩
          · have d5 := D8.out.cell 5 (.slice A1 r.heads.length c1) rfl
            have f5 := D8.out.free 5
            by_cases hlt : (r.heads.length : Int) < 3
            · have d5a : (w8.alloc (.cells #[.string ⟨#[104]⟩, .string ⟨#[105, 100]⟩, .string ⟨#[116, 114, 97, 99, 101]⟩] 9)).cell? ⟨w.heap.size + 1, 5, none⟩ = some (.slice A1 r.heads.length c1) := (D8.out.alloc HC.out _).cell 5 _ rfl
              go_wp2_with fail
              go_region_law
                ((first | (go_simp; go_at_call 97; refine (Draw.pick_any b A n c w8.heap.size 3 (fun i => [⟨#[104]⟩, ⟨#[105, 100]⟩, ⟨#[116, 114, 97, 99, 101]⟩].getD i default) _ (D8.out.drew.alloc HC.out _).lft.cur (by decide) (by decide) (by rw [hsz]; show w8.heap.size < w8.heap.size + 1; omega) (by have := D8.out.lt; omega) (fun i hi => texts _ [⟨#[104]⟩, ⟨#[105, 100]⟩, ⟨#[116, 114, 97, 99, 101]⟩] _ _ i rfl hi)).mono ?_; rintro e w9 ⟨⟨i9, _, rfl⟩, L9⟩; have D9 := Seg.hid ((D8.out.drew.alloc HC.out _).lft2 HC.out L9); have K9 : w9.cell? ⟨w.heap.size + 1, 5, none⟩ = some (.slice A1 r.heads.length c1) := D9.out.cell 5 _ rfl; clear L9) | (go_simp; go_at_call 63; refine (Draw.below_any b A n c 9 w9 D9.out.lft.cur (by decide) (by decide)).mono ?_; rintro e w10 ⟨⟨y0, hy1, hy2, rfl⟩, L10⟩; obtain ⟨y, rfl⟩ := Int.eq_ofNat_of_zero_le hy1; have D10 := Seg.hid (D9.out.lft2 HC.out L10); have K10 : w10.cell? ⟨w.heap.size + 1, 5, none⟩ = some (.slice A1 r.heads.length c1) := D10.out.cell 5 _ rfl; clear L10) | (go_simp; go_at_call 98; refine (DrawB.bytes_any b A n c y w10 D10.out.lft.cur (by omega)).mono ?_; rintro e w11 ⟨⟨s11, hs11, rfl⟩, L11⟩; have D11 := Seg.hid (D10.out.lft2 HC.out L11); have K11 : w11.cell? ⟨w.heap.size + 1, 5, none⟩ = some (.slice A1 r.heads.length c1) := D11.out.cell 5 _ rfl; have hl11 := D11.out.lt; clear L11) | (refine step_append_lies _ (by rfl) _ _ _ (by rfl) (w.heap.size + 1 + 1) 100 i0 _ 2 32 Try.underlying34 hi hz0 hz1 hz2 rfl (by decide) (.slice A1 r.heads.length c1) r.heads.length (hcells r.heads) (by rfl) (World.ownsRow.alloc D11.out.own _) ⟨w11.heap.size, 0, none⟩ 1 1 [.string _, .string s11] (by rfl) (by rfl) (World.news_of_block (cs := #[.string _, .string s11]) (heap_alloc_new w11 _)) (by simp [Value.oneCell']) (by decide) (by unfold maxLen; omega) (by omega) (by rw [hsz]; omega) (w11.heap.size + 1) (hsz w11 _) ?_; intro g12 cap12 w12 hown12 gr12 hat12 hlt12; have q5 := (D11.out.push5 gr12).1; have p5 := (D11.out.push5 gr12).2; have D12 := Seg.hid (D11.out.pushed HC.out gr12 (x := ⟨_, s11⟩) hown12 hlt); clear hown12 gr12 hat12 hlt12)))
              all_goals
                clear D8 D9 D10 D11 K9 K10 K11 d5 d5a f5 q5 p5
                go_wp2_with fail
                go_roundw
                case rel => exact ⟨_, _, D12⟩
                case measure => rw [lenAt_of (D12.out.cell 5 _ rfl), M7.out]; omega
            · clear M7
              have DN := Seg.hid (D8.out.done HC.out)
              have H3 := Seg.hid D8.out.blk
              clear D8
              go_wp2_with (first | (refine wpList_load_row rfl 36 _ rfl (w.heap.size + 1) rfl _ _ _ _ H3.out Try.underlying36 rfl info29 ?_) | (refine wpList_store_mid rfl 36 _ _ rfl w.heap.size 0 (recArr r (.slice A1 r.heads.length c1)) rfl rfl DN.out.th info29 (recArr_one _ _ rfl) ?_))
              exact bodyPost_ret (v := recVal r (.slice A1 r.heads.length c1)) (results_cell_row rfl _ _ w.heap.size _ _ _ _ rfl DN.out.at_ Try.underlying36 rfl info29) rfl ⟨_, _, rfl, DN.out.rc, DN.out.lft⟩
        · have bv : (ver == 2) = false := beq_eq_false_iff_ne.2 hver
          have DN := Seg.hid (D7.out.done HC.out)
          have H3 := Seg.hid D7.out.blk
          clear D7
          go_wp2_with (first | (refine wpList_load_row rfl 36 _ rfl (w.heap.size + 1) rfl _ _ _ _ H3.out Try.underlying36 rfl info29 ?_) | (refine wpList_store_mid rfl 36 _ _ rfl w.heap.size 0 (recArr r (.slice A1 r.heads.length c1)) rfl rfl DN.out.th info29 (recArr_one _ _ rfl) ?_))
          exact bodyPost_ret (v := recVal r (.slice A1 r.heads.length c1)) (results_cell_row rfl _ _ w.heap.size _ _ _ _ rfl DN.out.at_ Try.underlying36 rfl info29) rfl ⟨_, _, rfl, DN.out.rc, DN.out.lft⟩
    clear a4
    refine (Draw.below_any b A n c 6 _ D1.out.lft.cur (by decide) (by decide)).mono ?_
    rintro e w5 ⟨⟨x, hx1, hx2, rfl⟩, L5⟩
    have DX := Seg.hid (D1.out.lft2 HC.out L5)
    clear D1 L5
    by_cases e0 : x = 0
    case' pos =>
      subst e0
      have d1 := DX.out.free 3
      have d2 := DX.out.cell 3 _ rfl
      obtain ⟨r1, D6⟩ : ∃ r1, Hid (DR w (w5.setCell ⟨w.heap.size + 1, 3, none⟩ (.bool true)) b A n c r1 (.slice none 0 0)) := ⟨⟨now, kd, ky, true, ⟨#[]⟩, []⟩, DX.out.set HC.out 3 (.bool true) ⟨now, kd, ky, true, ⟨#[]⟩, []⟩ rfl rfl⟩
      clear DX
      go_wp2_with fail
      exact J2 _ _ _ _ _ _ _ _ _ _ _ _ _ _ _ _ _ _ _ _ _ _ _ _ _ _ D6
    case' neg =>
      by_cases e1 : x = 1
      case' pos =>
        subst e1
        go_wp2_with fail
        refine (Draw.below_any b A n c 60 _ DX.out.lft.cur (by decide) (by decide)).mono ?_
        rintro e w6 ⟨⟨y0, hy1, hy2, rfl⟩, L6⟩
        obtain ⟨y, rfl⟩ := Int.eq_ofNat_of_zero_le hy1
        have D6 := Seg.hid (DX.out.lft2 HC.out L6)
        clear DX L6 hx1 hx2 e0
        go_wp2_with fail
        refine (DrawB.bytes_any b A n c y _ D6.out.lft.cur (by omega)).mono ?_
        rintro e w7 ⟨⟨s, hs, rfl⟩, L7⟩
        have D7 := Seg.hid (D6.out.lft2 HC.out L7)
        have d1 := D7.out.free 4
        have d2 := D7.out.cell 4 _ rfl
        obtain ⟨r1, D6⟩ : ∃ r1, Hid (DR w (w7.setCell ⟨w.heap.size + 1, 4, none⟩ (.string s)) b A n c r1 (.slice none 0 0)) := ⟨⟨now, kd, ky, false, s, []⟩, D7.out.set HC.out 4 (.string s) ⟨now, kd, ky, false, s, []⟩ rfl rfl⟩
        clear D7 L7 hs hy1 hy2
        go_wp2_with fail
        exact J2 _ _ _ _ _ _ _ _ _ _ _ _ _ _ _ _ _ _ _ _ _ _ _ _ _ _ D6
      case' neg =>
        have b0 : (x == 0) = false := beq_eq_false_iff_ne.2 e0
        have b1 : (x == 1) = false := beq_eq_false_iff_ne.2 e1
        clear e0 e1
        go_wp2_with fail
        refine (Draw.pick_any b A n c w5.heap.size 8 (fun i => [⟨#[49]⟩, ⟨#[50, 50]⟩, ⟨#[51, 51, 51]⟩, ⟨#[118]⟩, ⟨#[]⟩, ⟨#[49, 55]⟩, ⟨#[45, 52]⟩, ⟨#[97, 98, 99, 97, 98, 99, 97, 98, 99, 97, 98, 99]⟩].getD i default) _ (DX.out.alloc HC.out _).lft.cur (by decide) (by decide) (by rw [hsz]; simp) (by have := DX.out.lt; omega) (fun i hi => texts _ [⟨#[49]⟩, ⟨#[50, 50]⟩, ⟨#[51, 51, 51]⟩, ⟨#[118]⟩, ⟨#[]⟩, ⟨#[49, 55]⟩, ⟨#[45, 52]⟩, ⟨#[97, 98, 99, 97, 98, 99, 97, 98, 99, 97, 98, 99]⟩] _ _ i (by simp) hi)).mono ?_
        rintro e w7 ⟨⟨i, _, rfl⟩, L7⟩
        have D7 := Seg.hid ((DX.out.alloc HC.out _).lft2 HC.out L7)
        generalize [(⟨#[49]⟩ : ByteArray), ⟨#[50, 50]⟩, ⟨#[51, 51, 51]⟩, ⟨#[118]⟩, ⟨#[]⟩, ⟨#[49, 55]⟩, ⟨#[45, 52]⟩, ⟨#[97, 98, 99, 97, 98, 99, 97, 98, 99, 97, 98, 99]⟩].getD i default = s
        have d1 := D7.out.free 4
        have d2 := D7.out.cell 4 _ rfl
        obtain ⟨r1, D6⟩ : ∃ r1, Hid (DR w (w7.setCell ⟨w.heap.size + 1, 4, none⟩ (.string s)) b A n c r1 (.slice none 0 0)) := ⟨⟨now, kd, ky, false, s, []⟩, D7.out.set HC.out 4 (.string s) ⟨now, kd, ky, false, s, []⟩ rfl rfl⟩
        clear D7 L7 DX hx1 hx2 b0 b1
        go_wp2_with fail
        exact J2 _ _ _ _ _ _ _ _ _ _ _ _ _ _ _ _ _ _ _ _ _ _ _ _ _ _ D6
  clear a2
  refine (Draw.once_any b A n c 4 _ D0.out.lft.cur (by decide) (by decide)).mono ?_
  rintro e w1 ⟨⟨t1, rfl⟩, L1⟩
  have D1 := Seg.hid (D0.out.lft2 HC.out L1)
  clear D0 L1
  cases t1
  · skip
    have d1 := D1.out.free 1
    have d2 := D1.out.cell 1 _ rfl
    have D2 := Seg.hid (D1.out.set HC.out 1 (.bool true) ⟨now, true, ⟨#[]⟩, false, ⟨#[]⟩, []⟩ rfl rfl)
    go_wp2_with fail
    have hs1 := D2.out.lt
    refine (Draw.pick_any b A n c w1.heap.size 7 (fun i => [⟨#[97]⟩, ⟨#[98]⟩, ⟨#[107, 49]⟩, ⟨#[107, 50]⟩, ⟨#[]⟩, ⟨#[117, 115, 101, 114]⟩, ⟨#[120]⟩].getD i default) _ (D2.out.alloc HC.out _).lft.cur (by decide) (by decide) (by rw [hsz]; simp) (by have := D1.out.lt; omega) (fun i hi => texts _ [⟨#[97]⟩, ⟨#[98]⟩, ⟨#[107, 49]⟩, ⟨#[107, 50]⟩, ⟨#[]⟩, ⟨#[117, 115, 101, 114]⟩, ⟨#[120]⟩] _ _ i (by simp) hi)).mono ?_
    rintro e w2 ⟨⟨i, _, rfl⟩, L2⟩
    have D3 := Seg.hid ((D2.out.alloc HC.out _).lft2 HC.out L2)
    clear D2 L2 D1 d1 d2 hs1
    generalize [(⟨#[97]⟩ : ByteArray), ⟨#[98]⟩, ⟨#[107, 49]⟩, ⟨#[107, 50]⟩, ⟨#[]⟩, ⟨#[117, 115, 101, 114]⟩, ⟨#[120]⟩].getD i default = s
    have d1 := D3.out.free 2
    have d2 := D3.out.cell 2 _ rfl
    have D4 := Seg.hid (D3.out.set HC.out 2 (.string s) ⟨now, true, s, false, ⟨#[]⟩, []⟩ rfl rfl)
    clear D3
    go_wp2_with fail
    exact J1 _ _ _ _ _ _ _ _ _ _ _ D4
  · go_wp2_with fail
    exact J1 _ _ _ _ _ _ _ _ _ _ _ D1
end Go.Proofs.Ytdnbcfochlfopaa.DrawD
namespace Go.Proofs.Ytdnbcfochlfopaa.Draw
set_option maxRecDepth 8000
open Go.RowKit
set_option linter.unusedVariables false
set_option maxHeartbeats 800000 in
theorem pickInt_any (b : Nat) (A : Option Addr) (n c : Nat) (g m : Nat) (f : Nat → Int) (w : World) (hc : Cur w b A n c) (hm : 0 < m) (hm2 : m ≤ 1000) (hg : g < w.heap.size) (hgb : g ≠ b)
    (hcell : ∀ i, i < m → w.cell? ⟨g, i, none⟩ = some (.int .i64 (f i))) :
    Calls Try.prog 68 #[.pointer (some ⟨b, 0, none⟩), .slice (some ⟨g, 0, none⟩) m m] w fun e w' => (∃ i : Nat, i < m ∧ e = .returned (.int .i64 (f i))) ∧ Lft w w' b A n c := by
  have HC := Seg.hid hc
  have HL := Seg.hid hcell
  clear hc hcell
  go_enter Try.func68, Try.ntmps68
  go_wp2_with fail
  refine (below_any b A n c m _ HC.out (by omega) (by omega)).mono ?_
  rintro e w1 ⟨⟨x, hx1, hx2, rfl⟩, L1⟩
  obtain ⟨k, rfl⟩ := Int.eq_ofNat_of_zero_le hx1
  have hk : k < m := by omega
  have hck : w1.cell? ⟨g, k, none⟩ = some (.int .i64 (f k)) := L1.grown.cell (HL.out k hk) (by simpa using hgb)
  go_wp2_with fail
  go_ret
  exact ⟨⟨k, hk, rfl⟩, L1⟩
end Go.Proofs.Ytdnbcfochlfopaa.Draw
