/- A drawn batch of any kind, and a version; The law's helper: a byte of the draw, or a number made up. -/
import Derived.Laws.ResultCell
import Derived.WalkSmall
import Derived.Test.YtdnbcfochlfopaaJH38
import Derived.Test.YtdnbcfochlfopaaJH36
import Derived.Test.YtdnbcfochlfopaaJH34
namespace Go.Proofs.Ytdnbcfochlfopaa.DrawG
set_option maxRecDepth 8000
open Go.RowKit
open Draw (Cur Lft Bytes)
open Recs (hsz Hd Rec Bat Heads recVal RecAt RecsAt BatAt batVal)
open BatW (batArr batArr_one info40)
open RsO (RsAt rs)
open DrawE (nums infoR)
set_option linter.unusedVariables false
theorem up {w : World} {A : Option Addr} {n c : Nat} (h : Bytes w w.heap.size A n c) (o : Obj) : Bytes (w.alloc o) (w.alloc o).heap.size A n c := by
  rcases h with h | ⟨g, o', rfl, hgb, hgl, hnc, hby⟩
  · exact .inl h
  · refine .inr ⟨g, o', rfl, by rw [hsz]; omega, by rw [hsz]; omega, hnc, fun j hj => ?_⟩
    obtain ⟨x, hx, hc⟩ := hby j hj
    exact ⟨x, hx, by rw [((Below.refl w.heap.size w).alloc (Nat.le_refl _) o).cell (p := ⟨g, o' + j, none⟩) hgl]; exact hc⟩
theorem results_row_tmp {P : Program} {fn : Func} {p u : Tmp} {ty : TypeId} (h : fn.results = #[.cell p ty, .tmp u]) (tmps : Array Value) (w : World) (g : Nat) (t : TypeId) (cs : Array Value) (fr : Nat × Nat) (d : TypeDesc)
    (x : Value) (hp : tmps.getD p undef = .pointer (some ⟨g, 0, none⟩)) (hx : tmps.getD u undef = x) (hg : w.heap[g]? = some (.cells cs t fr))
    (hu : P.underlying ty = some d) (hd : (match d with | .struct _ | .array _ _ => true | _ => false) = true) (hi : (P.info? ty).map (·.size) = some cs.size) :
    (results fn tmps).run P w = .ok (.tuple #[.agg cs, x]) w := by
  subst hx
  have hp' : tmps[p]?.getD undef = .pointer (some ⟨g, 0, none⟩) := by simpa using hp
  rw [results_cell_tmp h]
  simp [hp', asAddr, run_loadVar_row w g t ty cs fr d hg hu hd hi, Result.andThen]
/-- The batch lies in block q; w0: the world ahead of the batch. -/
structure BB (w0 : World) (q base b : Nat) (A : Option Addr) (n c : Nat) (wr : World) (t : Bat) (rv : Value) (ps : List (Rec × Value)) : Prop where
  blk : wr.heap[q]? = some (.cells (batArr t rv) 26 (0, 0))
  hq : w0.heap.size ≤ q
  hb : w0.heap.size < base ∧ base ≤ wr.heap.size
  hs : RsX.RsX wr base (fun g => g = q) rv ps
  few : ps.length ≤ 1000
  lft : Lft w0 wr b A n c
section
variable {w0 wr w' : World} {q base b : Nat} {A : Option Addr} {n c : Nat} {t t' : Bat} {rv rv' : Value} {ps ps' : List (Rec × Value)}
theorem BB.lt (h : BB w0 q base b A n c wr t rv ps) : q < wr.heap.size := (Array.getElem?_eq_some_iff.1 h.blk).1
theorem BB.lft2 (hc : Cur w0 b A n c) (h : BB w0 q base b A n c wr t rv ps) (L : Lft wr w' b A n c) : BB w0 q base b A n c w' t rv ps := by
  have hbl := hc.lt
  have hq := h.hq
  have hl := h.lt
  have hb := h.hb
  exact ⟨(L.grown.block _ hl (by intro e; cases e; omega)).trans h.blk, hq, ⟨hb.1, Nat.le_trans hb.2 L.grown.size⟩, h.hs.keep L.grown (fun g e => by cases e; exact .inl (by omega)), h.few, h.lft.trans L⟩
theorem BB.alloc (hc : Cur w0 b A n c) (h : BB w0 q base b A n c wr t rv ps) (o : Obj) : BB w0 q base b A n c (wr.alloc o) t rv ps := h.lft2 hc ⟨h.lft.cur.alloc o, World.grownBy_alloc wr o (some b)⟩
/-- The batch that was bent, written back. -/
theorem BB.bent (hc : Cur w0 b A n c) (h : BB w0 q base b A n c wr t rv ps) (hs : base ≤ w'.heap.size) (hr : RsX.RsX w' base (fun g => g = q) rv' ps') (hf : ps'.length ≤ 1000) (L : Lft w0 w' b A n c) (hk : w'.heap[q]? = wr.heap[q]?) :
    w'.there q 0 (batArr t' rv').size ∧ BB w0 q base b A n c (w'.setCells q 0 (batArr t' rv').toList) t' rv' ps' := by
  have e := hk.trans h.blk
  have gr := DrawD.grown_cells q (batArr t' rv').toList 0 w'
  have hq := h.hq
  have th : w'.there q 0 7 := Cells.there_of e
  refine ⟨th, Cells.whole e rfl, hq, ⟨h.hb.1, Nat.le_trans hs gr.size⟩, hr.keep gr (fun g e => by cases e; exact .inr rfl), hf, DrawB.Lft.above hc L gr (fun k e => by cases e; omega)⟩
/-- The answer's block, which was there ahead. -/
theorem BB.ans (h : BB w0 q base b A n c wr t rv ps) (z : Nat) (o : Array Value) (hz : w0.heap[z]? = some (.cells o 26 (0, 0))) (ho : o.size = 7) (hzb : z ≠ b) :
    wr.there z 0 (batArr t rv).size ∧ (wr.setCells z 0 (batArr t rv).toList).heap[z]? = some (.cells (batArr t rv) 26 (0, 0)) ∧ RsAt (wr.setCells z 0 (batArr t rv).toList) base rv ps := by
  have hzl : z < w0.heap.size := (Array.getElem?_eq_some_iff.1 hz).1
  have e : wr.heap[z]? = some (.cells o 26 (0, 0)) := (h.lft.grown.block z hzl (by intro e; cases e; omega)).trans hz
  have gr := DrawD.grown_cells z (batArr t rv).toList 0 wr
  have hb := h.hb
  have th := Cells.there_of e
  rw [ho] at th
  exact ⟨th, Cells.whole e ho, h.hs.at_.keep gr (fun g e => by cases e; omega)⟩
end
set_option maxHeartbeats 1600000 in
theorem any_any (A : Option Addr) (n c : Nat) (w : World) (hn : n ≤ 1048576) (hb : Bytes w w.heap.size A n c) :
    Calls Try.prog 33 #[.slice A n c] w fun e w' => ∃ (t : Bat) (v : Value) (x : Int), e = .returned (.tuple #[v, .int .i64 x]) ∧ BatAt w' w.heap.size w'.heap.size v t ∧ Below w.heap.size w w' := by
  have UB := Seg.hid (up hb (.cells #[.int .i64 0, .int .i64 0, .int .i64 0, .int .i64 0, .int .i64 0, .int .i64 0, .slice none 0 0] 26))
  clear hb
  go_enter Try.func33, Try.ntmps33
  go_wp2_with fail
  refine (Draw.new_any A n c _ hn UB.out).mono ?_
  rintro e w1 ⟨h, rfl, rfl⟩
  have hz1 : (w.alloc (.cells #[.int .i64 0, .int .i64 0, .int .i64 0, .int .i64 0, .int .i64 0, .int .i64 0, .slice none 0 0] 26)).heap.size = w.heap.size + 1 := hsz _ _
  have C1 := Seg.hid (Draw.cur_new hn UB.out h 117)
  rw [hz1] at C1 ⊢
  clear UB
  go_wp2_with fail
  refine (Draw.below_any (w.heap.size + 1) A n c 2 _ C1.out (by decide) (by decide)).mono ?_
  rintro e w2 ⟨⟨x2, h2a, h2b, rfl⟩, L2⟩
  have D2 := Seg.hid L2
  clear L2
  go_wp2_with fail
  refine (DrawB.size_any A n c 12 _ hn (by decide) (by decide)).mono ?_
  rintro e w3 ⟨⟨x3, h3a, h3b, rfl⟩, rfl⟩
  go_wp2_with fail
  refine (DrawE.batch_any (w.heap.size + 1) A n c _ x3 _ D2.out.cur (by omega) (by omega)).mono ?_
  rintro e w4 ⟨t4, rv4, base, ps4, rfl, hb1, hb2, hr4, hp1, hp2, L4⟩
  obtain ⟨A4, c4, rfl⟩ := hr4.form
  have hs2 : w.heap.size + 1 < w2.heap.size := D2.out.cur.lt
  have D4 : Hid (BB w2 w4.heap.size base (w.heap.size + 1) A n c (w4.alloc (.cells #[.int .i64 t4.base, .int .i64 t4.epoch, .int .i64 t4.producer, .int .i64 t4.turn, .int .i64 t4.seq, .int .i64 t4.flags, .slice A4 ps4.length c4] 26)) t4 (.slice A4 ps4.length c4) ps4) := by
    have hs4 := L4.grown.size
    exact ⟨heap_alloc_new _ _, hs4, ⟨hb1, by rw [hsz]; omega⟩, (RsX.RsX.of hr4 (fun g e => by omega)).keep (World.grownBy_alloc _ _ none) (fun g e => by cases e), hp2, L4.trans ⟨L4.cur.alloc _, World.grownBy_alloc _ _ _⟩⟩
  have C2 := Seg.hid D2.out.cur
  have Z2 : Hid (w2.heap[w.heap.size]? = some (.cells #[.int .i64 0, .int .i64 0, .int .i64 0, .int .i64 0, .int .i64 0, .int .i64 0, .slice none 0 0] 26 (0, 0))) := by
    show w2.heap[w.heap.size]? = _
    rw [D2.out.grown.block _ (by rw [hsz, hsz]; omega) (by simp), heap_alloc_old _ _ (by rw [hsz]; omega), heap_alloc_new]
  have B2 := Seg.hid ((Recs.below2 w _ _).grown D2.out.grown (by rw [hsz, hsz]; omega) (fun k e => by cases e; omega))
  unfold batVal
  clear hr4 L4 D2 C1
  go_wp2_with fail
  refine (Draw.once_any (w.heap.size + 1) A n c 4 _ D4.out.lft.cur (by decide) (by decide)).mono ?_
  rintro e w5 ⟨⟨x5, rfl⟩, L5⟩
  have D5 := Seg.hid (D4.out.lft2 C2.out L5)
  clear D4 L5
  rename_i Q' K2 a2 K1 a1 K0 a0
  have J : ∀ (x16 x17 x18 x19 x20 x21 x22 x23 x24 x25 x26 x27 x28 : Value) (t : Bat) (rv : Value) (ps : List (Rec × Value)) (wr : World), Hid (BB w2 w4.heap.size base (w.heap.size + 1) A n c wr t rv ps) → K2 ⟨List.toArray (.slice A n c :: undef :: .pointer (some ⟨w.heap.size, 0, none⟩) :: .int .i64 0 :: .pointer (some ⟨w.heap.size + 1, 0, none⟩) :: .int .i64 (1 + x2) :: .pointer (some ⟨w4.heap.size, 0, none⟩) :: .slice A n c :: .pointer (some ⟨w.heap.size + 1, 0, none⟩) :: .pointer (some ⟨w.heap.size + 1, 0, none⟩) :: .int .i64 x2 :: .int .i64 (1 + x2) :: .pointer (some ⟨w.heap.size + 1, 0, none⟩) :: .int .i64 (1 + x2) :: .slice A n c :: .int .i64 x3 :: x16 :: x17 :: x18 :: x19 :: x20 :: x21 :: x22 :: x23 :: x24 :: x25 :: x26 :: x27 :: x28 :: []), []⟩ wr := by
    clear a0 a1 K0 K1 D5
    intro x16 x17 x18 x19 x20 x21 x22 x23 x24 x25 x26 x27 x28 t rv ps wr D6
    refine a2 _ _ ?_
    clear a2 K2
    go_wp2_with fail
    refine (Draw.once_any (w.heap.size + 1) A n c 12 _ D6.out.lft.cur (by decide) (by decide)).mono ?_
    rintro e w7 ⟨⟨x7, rfl⟩, L7⟩
    have D7 := Seg.hid (D6.out.lft2 C2.out L7)
    clear D6 L7
    obtain ⟨A7, c7, rfl⟩ := D7.out.hs.at_.form
    cases x7 with
    | false =>
      have H3 := Seg.hid D7.out.blk
      have HA := Seg.hid (D7.out.ans w.heap.size _ Z2.out rfl (by omega))
      have G7 := Seg.hid D7.out.lft.grown
      have hb7 := D7.out.hb
      have hf7 := D7.out.few
      clear D7
      go_wp2_with (first | (refine wpList_load_row rfl 26 _ rfl w4.heap.size rfl _ _ _ _ H3.out Try.underlying26 rfl info40 ?_) | (refine wpList_store_mid rfl 26 _ _ rfl w.heap.size 0 (batArr t (.slice A7 ps.length c7)) rfl rfl HA.out.1 info40 (batArr_one _ _ rfl) ?_))
      refine bodyPost_ret (v := .tuple #[.agg (batArr t (.slice A7 ps.length c7)), .int .i64 (1 + x2)]) (results_row_tmp rfl _ _ w.heap.size _ _ _ _ _ rfl rfl HA.out.2.1 Try.underlying26 rfl info40) rfl ?_
      exact ⟨{ t with recs := rs ps }, _, _, rfl, ⟨_, rfl, (HA.out.2.2.recs (by omega)).mono (by omega) (Nat.le_refl _)⟩, Cells.below_setCells (Nat.le_refl _) _ _ _ _ (B2.out.grown G7.out (by omega) (fun k e => by cases e; omega))⟩
    | true =>
      go_wp2_with fail
      refine (Draw.pickInt_any (w.heap.size + 1) A n c w7.heap.size 5 (fun i => ([0, 1, 2, 3, (-1)] : List Int).getD i 0) _ (D7.out.alloc C2.out _).lft.cur (by decide) (by decide) (by rw [hsz]; omega) (by have := D7.out.lft.cur.lt; omega) (fun i hi => nums w7 [0, 1, 2, 3, (-1)] _ _ i rfl hi)).mono ?_
      rintro e w8 ⟨⟨i8, h8, rfl⟩, L8⟩
      have D8 := Seg.hid ((D7.out.alloc C2.out _).lft2 C2.out L8)
      clear D7 L8
      have H3 := Seg.hid D8.out.blk
      have HA := Seg.hid (D8.out.ans w.heap.size _ Z2.out rfl (by omega))
      have G7 := Seg.hid D8.out.lft.grown
      have hb7 := D8.out.hb
      have hf7 := D8.out.few
      clear D8
      generalize ([0, 1, 2, 3, (-1)] : List Int).getD i8 0 = x8
      go_wp2_with (first | (refine wpList_load_row rfl 26 _ rfl w4.heap.size rfl _ _ _ _ H3.out Try.underlying26 rfl info40 ?_) | (refine wpList_store_mid rfl 26 _ _ rfl w.heap.size 0 (batArr t (.slice A7 ps.length c7)) rfl rfl HA.out.1 info40 (batArr_one _ _ rfl) ?_))
      refine bodyPost_ret (v := .tuple #[.agg (batArr t (.slice A7 ps.length c7)), .int .i64 x8]) (results_row_tmp rfl _ _ w.heap.size _ _ _ _ _ rfl rfl HA.out.2.1 Try.underlying26 rfl info40) rfl ?_
      exact ⟨{ t with recs := rs ps }, _, _, rfl, ⟨_, rfl, (HA.out.2.2.recs (by omega)).mono (by omega) (Nat.le_refl _)⟩, Cells.below_setCells (Nat.le_refl _) _ _ _ _ (B2.out.grown G7.out (by omega) (fun k e => by cases e; omega))⟩
  clear a2
  cases x5 with
  | false =>
    go_wp2_with fail
    exact J _ _ _ _ _ _ _ _ _ _ _ _ _ _ _ _ _ D5
  | true =>
    have H3 := Seg.hid D5.out.blk
    go_wp2_with (first | (refine wpList_load_row rfl 26 _ rfl w4.heap.size rfl _ _ _ _ H3.out Try.underlying26 rfl info40 ?_))
    refine (DrawF.bent_any (fun g => g = w4.heap.size) w2 (w.heap.size + 1) A n c t4 (.slice A4 ps4.length c4) base ps4 w5 C2.out D5.out.lft D5.out.hb.1 D5.out.hb.2 (fun g e => by subst e; exact ⟨D5.out.hq, D5.out.lt⟩) D5.out.hs hp1 hp2).mono ?_
    rintro e w6 ⟨t6, rv6, ps6, rfl, h6a, h6b, h6c, h6d, h6e⟩
    obtain ⟨A6, c6, rfl⟩ := h6b.at_.form
    have D6 := Seg.hid (D5.out.bent C2.out (t' := t6) h6a h6b h6c h6d (h6e _ rfl))
    clear D5 h6a h6b h6d h6e H3
    unfold batVal
    go_wp2_with (first | (refine wpList_store_mid rfl 26 _ _ rfl w4.heap.size 0 (batArr t6 (.slice A6 ps6.length c6)) rfl rfl D6.out.1 info40 (batArr_one _ _ rfl) ?_))
    exact J _ _ _ _ _ _ _ _ _ _ _ _ _ _ _ _ _ D6.out.2
theorem draw_any (A : Option Addr) (n c : Nat) (w : World) (hn : n ≤ 1048576) (hb : Bytes w w.heap.size A n c) :
    Calls Try.prog 9 #[.slice A n c] w fun e w' => ∃ (t : Bat) (v : Value) (x : Int), e = .returned (.tuple #[v, .int .i64 x]) ∧ BatAt w' w.heap.size w'.heap.size v t ∧ Below w.heap.size w w' := by
  go_enter Try.func9, Try.ntmps9
  go_wp2_with fail
  refine (any_any A n c _ hn (up hb _)).mono ?_
  rintro e w1 ⟨t, v, x, rfl, ⟨rv, rfl, HR⟩, b1⟩
  have HR' := HR
  obtain ⟨_, ⟨_, A1, c1, rfl, _⟩, _⟩ := HR'
  have hs := b1.size
  rw [hsz] at hs
  have z : w1.heap[w.heap.size]? = some (.cells #[.int .i64 0, .int .i64 0, .int .i64 0, .int .i64 0, .int .i64 0, .int .i64 0, .slice none 0 0] 26 (0, 0)) := by
    rw [b1.block _ (by rw [hsz]; omega), heap_alloc_new]
  have th : Hid (w1.there w.heap.size 0 7) := Cells.there_of z
  have at_ := Seg.hid (Cells.whole (vs := batArr t (.slice A1 t.recs.length c1)) z rfl)
  have K1 : Hid (RecsAt (w1.setCells w.heap.size 0 (batArr t (.slice A1 t.recs.length c1)).toList) w.heap.size (w1.setCells w.heap.size 0 (batArr t (.slice A1 t.recs.length c1)).toList).heap.size (.slice A1 t.recs.length c1) t.recs) := by
    refine (HR.keep (fun g h1 h2 => ?_)).mono ?_ ?_
    · rw [hsz] at h1
      exact Cells.heap_setCells_other _ _ (by omega)
    · rw [hsz]; omega
    · rw [Cells.size_setCells]; exact Nat.le_refl _
  have B1 := Seg.hid (Cells.below_setCells (g := w.heap.size) (Nat.le_refl _) (batArr t (.slice A1 t.recs.length c1)).toList 0 _ _ ((Recs.below1 w _).trans (b1.mono (by rw [hsz]; omega))))
  clear HR z b1
  unfold batVal
  go_wp2_with (first | (refine wpList_store_mid rfl 26 _ _ rfl w.heap.size 0 (batArr t (.slice A1 t.recs.length c1)) rfl rfl th.out info40 (batArr_one _ _ rfl) ?_))
  refine bodyPost_ret (v := .tuple #[.agg (batArr t (.slice A1 t.recs.length c1)), .int .i64 x]) (results_row_tmp rfl _ _ w.heap.size _ _ _ _ _ rfl rfl at_.out Try.underlying26 rfl info40) rfl ?_
  exact ⟨t, _, _, rfl, ⟨_, rfl, K1.out⟩, B1.out⟩
end Go.Proofs.Ytdnbcfochlfopaa.DrawG
namespace Go.Proofs.Ytdnbcfochlfopaa.DrawC
set_option maxRecDepth 8000
open Go.RowKit
open Draw (Cur Lft Bytes)
set_option linter.unusedVariables false

theorem at_any (A : Option Addr) (n c b : Nat) (i : Nat) (w : World) (hn : n ≤ 1048576) (hb : Bytes w b A n c) (hi : i ≤ 1000) :
    Calls Try.prog 17 #[.slice A n c, .int .i64 i] w fun e w' => (∃ x : Nat, x < 256 ∧ e = .returned (.int .i64 x)) ∧ w = w' := by
  by_cases hlt : i < n
  · obtain ⟨g, o, rfl, hgb, hgl, hnc, hby⟩ := hb.resolve_left (by omega)
    obtain ⟨x, hx, hcx⟩ := hby i hlt
    clear hby hb
    go_enter Try.func17, Try.ntmps17
    go_wp2
    go_ret
    exact ⟨⟨x, hx, rfl⟩, rfl⟩
  · clear hb
    go_enter Try.func17, Try.ntmps17
    go_wp2
    go_ret
    exact ⟨⟨(i * 7 + n) % 256, Nat.mod_lt _ (by decide), Seg.ret_int (by omega)⟩, rfl⟩
end Go.Proofs.Ytdnbcfochlfopaa.DrawC
