/- The model's l14DrawQuery; One of some texts, drawn. -/
import Derived.Deep.Cut
import Derived.Deep.CutRange
import Derived.Deep.RegionHeld3
import Derived.Deep.RegionLaw
import Derived.BigQuiet
import Derived.WalkSmall
import Derived.Test.YtkohhcjpjloaaaaJW19
import Derived.Test.YtkohhcjpjloaaaaJW20
import Derived.Test.YtkohhcjpjloaaaaJW01
namespace Go.Proofs.Ytkohhcjpjloaaaa.DwD
set_option maxRecDepth 8000
open Go.RowKit
open Ls Lp QtP DsP QsP DwQ DwG
open Draw (Cur Lft Bytes)
open Recs (hsz below1 below2 chain)
set_option linter.unusedVariables false
abbrev tOrders : ByteArray := ⟨#[111, 114, 100, 101, 114, 115]⟩
abbrev tClicks : ByteArray := ⟨#[99, 108, 105, 99, 107, 115]⟩
abbrev tUser : ByteArray := ⟨#[117, 115, 101, 114]⟩
abbrev tItem : ByteArray := ⟨#[105, 116, 101, 109]⟩
abbrev tPrice : ByteArray := ⟨#[112, 114, 105, 99, 101]⟩
abbrev tPage : ByteArray := ⟨#[112, 97, 103, 101]⟩
abbrev tUsers : ByteArray := ⟨#[117, 115, 101, 114, 115]⟩
abbrev tAge : ByteArray := ⟨#[97, 103, 101]⟩
abbrev tTown : ByteArray := ⟨#[116, 111, 119, 110]⟩
abbrev z0 : ByteArray := ⟨#[]⟩
theorem infoT : (Try.prog.info? 9).map (fun i => (i.zero, i.size, i.bytes)) = some (some (.string ⟨#[]⟩), 1, 16) := by kernel_rfl
theorem infoGz : (Try.prog.info? 35).map (fun i => (i.zero, i.size, i.bytes)) = some (some (.agg #[.int .i64 0, .slice none 0 0, .string ⟨#[]⟩]), 3, 48) := by kernel_rfl
theorem row_form {w : World} {B : Nat} {v : Value} {ns : List ByteArray} (h : Row w B v ns) : ∃ A c, v = .slice A ns.length c := by
  rcases h.2 with ⟨h1, h2⟩ | ⟨g, cap, cur, h1, -⟩
  · exact ⟨none, 0, by rw [h1, h2]⟩
  · exact ⟨_, cap, h1⟩
theorem own_one {w : World} {B ty k n : Nat} {v : Value} {cs : List Value} (h : w.ownsRow B ty k v n cs) : ∃ A m c, v = .slice A m c := by
  rcases h.2 with ⟨h1, h2⟩ | ⟨g, cap, cur, h1, -⟩
  · exact ⟨none, 0, 0, h1⟩
  · exact ⟨_, _, _, h1⟩
theorem qv_one {q : Qry} {v5 v6 v10 : Value} (h5 : ∃ A m c, v5 = .slice A m c) (h6 : ∃ A m c, v6 = .slice A m c) (h10 : ∃ A m c, v10 = .slice A m c) : (qv q v5 v6 v10).all (·.oneCell') = true := by
  obtain ⟨A, m, c, rfl⟩ := h5
  obtain ⟨A, m, c, rfl⟩ := h6
  obtain ⟨A, m, c, rfl⟩ := h10
  simp [Value.oneCell']
abbrev q0 (s : ByteArray) : Qry := ⟨s, z0, 0, z0, z0, [], [], 0, 0, 0, []⟩
set_option maxHeartbeats 25600000 in
theorem drawn_any (b : Nat) (A : Option Addr) (n c : Nat) (w : World) (hc : Cur w b A n c) :
    Calls Try.prog 9 #[.pointer (some ⟨b, 0, none⟩)] w fun e w' => ∃ q v5 v6 v10 ps, e = .returned (.agg (qv q v5 v6 v10)) ∧ Qo w w' b A n c q v5 v6 v10 ps ∧ 0 < ps.length := by
  have HC := Seg.hid hc
  have hb := hc.lt
  clear hc
  obtain ⟨i0, hi, hz0, hz1, hz2⟩ := info_parts infoT
  obtain ⟨wa, hwa⟩ : ∃ wa, w.alloc (.cells (qv (q0 z0) (.slice none 0 0) (.slice none 0 0) (.slice none 0 0)) 28 (0, 0)) = wa := ⟨_, rfl⟩
  go_enter Try.func9, Try.ntmps9
  go_upto_region 1 with fail
  try rw [hwa]
  have CA : Hid (Cur wa b A n c) := by show Cur _ _ _ _ _; rw [← hwa]; exact HC.out.alloc _
  have RS : Hid (wa.heap[w.heap.size]? = some (.cells (qv (q0 z0) (.slice none 0 0) (.slice none 0 0) (.slice none 0 0)) 28 (0, 0))) := by show _ = _; rw [← hwa]; exact heap_alloc_new _ _
  have SA : Hid (wa.heap.size = w.heap.size + 1) := by show _ = _; rw [← hwa, hsz]
  have GA : Hid (w.grownBy wa (some b)) := by show World.grownBy _ _ _; rw [← hwa]; exact World.grownBy_alloc _ _ _
  have hba : b < wa.heap.size := by have := SA.out; omega
  have HWA := Seg.hid hwa
  clear hwa
  go_upto_region 2 with (go_at_call 22; refine (pickS_new [tOrders, tClicks] CA.out (by decide) (by decide) (by decide) _ rfl).mono ?_; rintro e w2 ⟨⟨x1, hx1, rfl⟩, M1⟩; have L1 := Seg.hid M1; clear M1)
  go_upto_if 15 with fail
  obtain ⟨w4, hw4⟩ : ∃ w4, (w2.alloc (.cells (qv (q0 x1) (.slice none 0 0) (.slice none 0 0) (.slice none 0 0)) 28 (0, 0))).alloc (.cells #[.string tUser, .string tItem, .string tPrice] 9 (0, 0)) = w4 := ⟨_, rfl⟩
  have Q4 : Hid (Qs wa w4 b A n c w2.heap.size (q0 x1) (.slice none 0 0) (.slice none 0 0) (.slice none 0 0) (.slice (some ⟨w2.heap.size + 1, 0, none⟩) 3 3) [tUser, tItem, tPrice] []) := by show Qs _ _ _ _ _ _ _ _ _ _ _ _ _ _; rw [← hw4]; exact Qs.start L1.out x1 hx1 [tUser, tItem, tPrice] (by decide) (by decide) (by decide) _ rfl
  try rw [hw4]
  clear hw4
  generalize hgq : w2.heap.size = gq at *
  clear hgq
  go_cut [4] from 13 to 16 (fun v wx => ∃ cs, cs.length ≤ 3 ∧ Qs wa wx b A n c gq (q0 x1) (.slice none 0 0) (.slice none 0 0) (.slice none 0 0) v cs [])
  case first =>
    have QN := Seg.hid (Q4.out.newCols hba [tUser, tPage] (by decide) (by decide) (by decide) #[.string tUser, .string tPage] rfl)
    cases hq : (x1.toList == [99, 108, 105, 99, 107, 115]) with
    | true =>
      go_wp2
      go_meet
      exact ⟨_, by decide, QN.out⟩
    | false =>
      go_wp2
      go_meet
      exact ⟨_, by decide, Q4.out⟩
  case rest =>
  obtain ⟨cs, lc, hQ⟩ := hcut
  have Q5 := Seg.hid hQ
  clear hQ Q4
  rename World => w5
  obtain ⟨vc, hvc⟩ : ∃ v, v = u4 := ⟨_, rfl⟩
  rw [← hvc] at Q5 ⊢
  clear hvc L1
  go_upto_region 5 with fail
  go_cut [18] from 17 to 18 (fun v wx => ∃ y : Int, v = .int .i64 y ∧ Qs wa wx b A n c gq (q0 x1) (.slice none 0 0) (.slice none 0 0) (.slice none 0 0) vc cs [])
  case first =>
    go_wp2_with (go_at_call 12; refine (Draw.below_any b A n c 4 w5 Q5.out.o.lft.cur (by decide) (by decide)).mono ?_; rintro e w6 ⟨⟨y1, ya1, yb1, rfl⟩, M6⟩; have Q6 := Seg.hid (Q5.out.draw hba M6); clear M6)
    go_meet
    exact ⟨_, rfl, Q6.out⟩
  case rest =>
  obtain ⟨y1, hy, hQ⟩ := hcut
  subst hy
  have Q6 := Seg.hid hQ
  clear hQ Q5
  rename World => w6
  rename_i KU aU KS aS
  refine aS _ _ ?_
  clear aS KS
  go_cut [4] from 17 to 42 (fun v wx => ∃ q cs, cs.length ≤ 5 ∧ Qs wa wx b A n c gq q (.slice none 0 0) (.slice none 0 0) (.slice none 0 0) v cs [])
  case first =>
    by_cases hy0 : y1 = 0
    · have by0 : (y1 == 0) = true := by rw [beq_iff_eq]; exact hy0
      obtain ⟨c0, c1, c2, c3, c4, c5, c6, c7, c8, c9, c10⟩ := qcells Q6.out.var
      have hf := qfroz Q6.out.var
      go_upto_region 9 with fail
      obtain ⟨w7, hw7⟩ : ∃ wx, (w6.setCell ⟨gq, 1, none⟩ (.string tOrders)).setCell ⟨gq, 3, none⟩ (.string tUser) = wx := ⟨_, rfl⟩
      have Q7 : Hid (Qs wa w7 b A n c gq ⟨x1, tOrders, 0, tUser, z0, [], [], 0, 0, 0, []⟩ (.slice none 0 0) (.slice none 0 0) (.slice none 0 0) vc cs []) := by show Qs _ _ _ _ _ _ _ _ _ _ _ _ _ _; rw [← hw7]; exact (Q6.out.set CA.out 1 (.string tOrders) ⟨x1, tOrders, 0, z0, z0, [], [], 0, 0, 0, []⟩ rfl rfl rfl rfl ⟨hx1, (show (tOrders : ByteArray).size ≤ 10 by decide), (show (z0 : ByteArray).size ≤ 10 by decide), (show (z0 : ByteArray).size ≤ 10 by decide)⟩).set CA.out 3 (.string tUser) ⟨x1, tOrders, 0, tUser, z0, [], [], 0, 0, 0, []⟩ rfl rfl rfl rfl ⟨hx1, (show (tOrders : ByteArray).size ≤ 10 by decide), (show (tUser : ByteArray).size ≤ 10 by decide), (show (z0 : ByteArray).size ≤ 10 by decide)⟩
      try rw [hw7]
      clear hw7
      clear c0 c1 c2 c3 c4 c5 c6 c7 c8 c9 c10 hf
      obtain ⟨c0, c1, c2, c3, c4, c5, c6, c7, c8, c9, c10⟩ := qcells Q7.out.var
      have hf := qfroz Q7.out.var
      go_upto_region 10 with (go_at_call 12; refine (Draw.below_any b A n c 12 w7 Q7.out.o.lft.cur (by decide) (by decide)).mono ?_; rintro e w8 ⟨⟨y2, ya2, yb2, rfl⟩, M8⟩; have Q8 := Seg.hid (Q7.out.draw hba M8); clear M8; have hf := qfroz Q8.out.var; obtain ⟨d0, d1, d2, d3, d4, d5, d6, d7, d8, d9, d10⟩ := qcells Q8.out.var)
      obtain ⟨w9, hw9⟩ : ∃ wx, w8.setCell ⟨gq, 2, none⟩ (.int .i64 y2) = wx := ⟨_, rfl⟩
      have Q9 : Hid (Qs wa w9 b A n c gq ⟨x1, tOrders, y2, tUser, z0, [], [], 0, 0, 0, []⟩ (.slice none 0 0) (.slice none 0 0) (.slice none 0 0) vc cs []) := by show Qs _ _ _ _ _ _ _ _ _ _ _ _ _ _; rw [← hw9]; exact Q8.out.set CA.out 2 (.int .i64 y2) ⟨x1, tOrders, y2, tUser, z0, [], [], 0, 0, 0, []⟩ rfl rfl rfl rfl ⟨hx1, (show (tOrders : ByteArray).size ≤ 10 by decide), (show (tUser : ByteArray).size ≤ 10 by decide), (show (z0 : ByteArray).size ≤ 10 by decide)⟩
      try rw [hw9]
      clear hw9
      clear d0 d1 d2 d3 d4 d5 d6 d7 d8 d9 d10
      clear c0 c1 c2 c3 c4 c5 c6 c7 c8 c9 c10 hf
      obtain ⟨c0, c1, c2, c3, c4, c5, c6, c7, c8, c9, c10⟩ := qcells Q9.out.var
      have hf := qfroz Q9.out.var
      cases hq : (x1.toList == [111, 114, 100, 101, 114, 115]) with
      | true =>
        go_upto_region 12 with fail
        obtain ⟨wA, hwA⟩ : ∃ wx, w9.setCell ⟨gq, 1, none⟩ (.string tClicks) = wx := ⟨_, rfl⟩
        have QA : Hid (Qs wa wA b A n c gq ⟨x1, tClicks, y2, tUser, z0, [], [], 0, 0, 0, []⟩ (.slice none 0 0) (.slice none 0 0) (.slice none 0 0) vc cs []) := by show Qs _ _ _ _ _ _ _ _ _ _ _ _ _ _; rw [← hwA]; exact Q9.out.set CA.out 1 (.string tClicks) ⟨x1, tClicks, y2, tUser, z0, [], [], 0, 0, 0, []⟩ rfl rfl rfl rfl ⟨hx1, (show (tClicks : ByteArray).size ≤ 10 by decide), (show (tUser : ByteArray).size ≤ 10 by decide), (show (z0 : ByteArray).size ≤ 10 by decide)⟩
        try rw [hwA]
        clear hwA
        clear c0 c1 c2 c3 c4 c5 c6 c7 c8 c9 c10 hf
        have OW : Hid (∀ o1, (wA.alloc o1).ownsRow wa.heap.size 9 1 vc cs.length (cs.map Value.string)) := fun o1 => (QA.out.alloc hba o1).cols
        have PU : Hid (∀ o1 wx v', wx.ownsRow wa.heap.size 9 1 v' (cs.length + 1) (cs.map Value.string ++ [.string tPage]) → (wA.alloc o1).grownBy wx vc.ownBlock → Qs wa wx b A n c gq _ (.slice none 0 0) (.slice none 0 0) (.slice none 0 0) v' (cs ++ [tPage]) []) := fun o1 wx v' h1 h2 => (QA.out.alloc hba o1).more (ms := [tPage]) CA.out rfl h1 h2 (by simp; omega) (by decide)
        have hs9 := QA.out.o.lft.grown.size
        go_wp2_with (first | (at_builtin; (refine wpList_append_lies _ rfl _ _ 25 rfl wa.heap.size 9 i0 _ 1 16 Try.underlying25 hi hz0 hz1 hz2 rfl (by decide) vc cs.length (cs.map Value.string) rfl (OW.out _) ⟨wA.heap.size, 0, none⟩ 1 1 [.string tPage] rfl rfl (World.news_of_block (cs := #[.string tPage]) (heap_alloc_new _ _)) (by simp [Value.oneCell']) (by decide) (by unfold maxLen; omega) (by omega) (by rw [hsz]; omega) (wA.heap.size + 1) (by rw [hsz]) ?_; intro g9 cap9 wy hown9 gr9 hat9 hlt9; have S9 := Seg.hid (PU.out _ _ _ hown9 gr9); clear hown9 gr9 hat9 hlt9)))
        go_meet
        exact ⟨_, _, by simp; omega, S9.out⟩
      | false =>
        go_upto_region 13 with fail
        clear c0 c1 c2 c3 c4 c5 c6 c7 c8 c9 c10 hf
        have OW : Hid (∀ o1, (w9.alloc o1).ownsRow wa.heap.size 9 1 vc cs.length (cs.map Value.string)) := fun o1 => (Q9.out.alloc hba o1).cols
        have PU : Hid (∀ o1 wx v', wx.ownsRow wa.heap.size 9 1 v' (cs.length + 2) (cs.map Value.string ++ [.string tItem, .string tPrice]) → (w9.alloc o1).grownBy wx vc.ownBlock → Qs wa wx b A n c gq _ (.slice none 0 0) (.slice none 0 0) (.slice none 0 0) v' (cs ++ [tItem, tPrice]) []) := fun o1 wx v' h1 h2 => (Q9.out.alloc hba o1).more (ms := [tItem, tPrice]) CA.out rfl h1 h2 (by simp; omega) (by decide)
        have hs9 := Q9.out.o.lft.grown.size
        go_wp2_with (first | (at_builtin; (refine wpList_append_lies _ rfl _ _ 25 rfl wa.heap.size 9 i0 _ 1 16 Try.underlying25 hi hz0 hz1 hz2 rfl (by decide) vc cs.length (cs.map Value.string) rfl (OW.out _) ⟨w9.heap.size, 0, none⟩ 2 2 [.string tItem, .string tPrice] rfl rfl (World.news_of_block (cs := #[.string tItem, .string tPrice]) (heap_alloc_new _ _)) (by simp [Value.oneCell']) (by decide) (by unfold maxLen; omega) (by omega) (by rw [hsz]; omega) (w9.heap.size + 1) (by rw [hsz]) ?_; intro g9 cap9 wy hown9 gr9 hat9 hlt9; have S9 := Seg.hid (PU.out _ _ _ hown9 gr9); clear hown9 gr9 hat9 hlt9)))
        go_meet
        exact ⟨_, _, by simp; omega, S9.out⟩
    have by0 : (y1 == 0) = false := by rw [beq_eq_false_iff_ne]; exact hy0
    by_cases hy1 : y1 = 1
    · have by1 : (y1 == 1) = true := by rw [beq_iff_eq]; exact hy1
      obtain ⟨c0, c1, c2, c3, c4, c5, c6, c7, c8, c9, c10⟩ := qcells Q6.out.var
      have hf := qfroz Q6.out.var
      go_upto_region 17 with fail
      obtain ⟨w7, hw7⟩ : ∃ wx, (w6.setCell ⟨gq, 4, none⟩ (.string tUsers)).setCell ⟨gq, 3, none⟩ (.string tUser) = wx := ⟨_, rfl⟩
      have Q7 : Hid (Qs wa w7 b A n c gq ⟨x1, z0, 0, tUser, tUsers, [], [], 0, 0, 0, []⟩ (.slice none 0 0) (.slice none 0 0) (.slice none 0 0) vc cs []) := by show Qs _ _ _ _ _ _ _ _ _ _ _ _ _ _; rw [← hw7]; exact (Q6.out.set CA.out 4 (.string tUsers) ⟨x1, z0, 0, z0, tUsers, [], [], 0, 0, 0, []⟩ rfl rfl rfl rfl ⟨hx1, (show (z0 : ByteArray).size ≤ 10 by decide), (show (z0 : ByteArray).size ≤ 10 by decide), (show (tUsers : ByteArray).size ≤ 10 by decide)⟩).set CA.out 3 (.string tUser) ⟨x1, z0, 0, tUser, tUsers, [], [], 0, 0, 0, []⟩ rfl rfl rfl rfl ⟨hx1, (show (z0 : ByteArray).size ≤ 10 by decide), (show (tUser : ByteArray).size ≤ 10 by decide), (show (tUsers : ByteArray).size ≤ 10 by decide)⟩
      try rw [hw7]
      clear hw7
      clear c0 c1 c2 c3 c4 c5 c6 c7 c8 c9 c10 hf
      have OW : Hid (∀ o1, (w7.alloc o1).ownsRow wa.heap.size 9 1 vc cs.length (cs.map Value.string)) := fun o1 => (Q7.out.alloc hba o1).cols
      have PU : Hid (∀ o1 wx v', wx.ownsRow wa.heap.size 9 1 v' (cs.length + 2) (cs.map Value.string ++ [.string tAge, .string tTown]) → (w7.alloc o1).grownBy wx vc.ownBlock → Qs wa wx b A n c gq _ (.slice none 0 0) (.slice none 0 0) (.slice none 0 0) v' (cs ++ [tAge, tTown]) []) := fun o1 wx v' h1 h2 => (Q7.out.alloc hba o1).more (ms := [tAge, tTown]) CA.out rfl h1 h2 (by simp; omega) (by decide)
      have hs9 := Q7.out.o.lft.grown.size
      go_wp2_with (first | (at_builtin; (refine wpList_append_lies _ rfl _ _ 25 rfl wa.heap.size 9 i0 _ 1 16 Try.underlying25 hi hz0 hz1 hz2 rfl (by decide) vc cs.length (cs.map Value.string) rfl (OW.out _) ⟨w7.heap.size, 0, none⟩ 2 2 [.string tAge, .string tTown] rfl rfl (World.news_of_block (cs := #[.string tAge, .string tTown]) (heap_alloc_new _ _)) (by simp [Value.oneCell']) (by decide) (by unfold maxLen; omega) (by omega) (by rw [hsz]; omega) (w7.heap.size + 1) (by rw [hsz]) ?_; intro g9 cap9 wy hown9 gr9 hat9 hlt9; have S9 := Seg.hid (PU.out _ _ _ hown9 gr9); clear hown9 gr9 hat9 hlt9)))
      go_meet
      exact ⟨_, _, by simp; omega, S9.out⟩
    have by1 : (y1 == 1) = false := by rw [beq_eq_false_iff_ne]; exact hy1
    go_wp2
    go_meet
    exact ⟨_, _, by omega, Q6.out⟩
  case rest =>
  clear Q6
  obtain ⟨q, cs, lc, hQ⟩ := hcut
  have Q7 := Seg.hid hQ
  clear hQ
  rename World => w7
  obtain ⟨vd, hvd⟩ : ∃ v, v = u4 := ⟨_, rfl⟩
  rw [← hvd] at Q7 ⊢
  clear hvd
  obtain ⟨gc, cap, ec, hcc, hgc, CO7⟩ := co_of Q7.out.cols hba Q7.out.csz.1
  subst ec
  have lc0 := Q7.out.csz.1
  have CSZ := Seg.hid Q7.out.csz
  clear CO7
  go_upto_if 44 with (go_at_call 10; refine (Draw.once_any b A n c 2 w7 Q7.out.o.lft.cur (by decide) (by decide)).mono ?_; rintro e w8 ⟨⟨x2, rfl⟩, M⟩; have Q8 := Seg.hid (Q7.out.draw hba M); clear M)
  go_cut [] from 43 to 48 (fun wx => ∃ q v5, Qs wa wx b A n c gq q v5 (.slice none 0 0) (.slice none 0 0) (.slice (some ⟨gc, 0, none⟩) cs.length cap) cs [])
  case first =>
    cases x2 with
    | false =>
      go_wp2
      go_meet
      exact ⟨_, _, Q8.out⟩
    | true =>
      obtain ⟨g', cap', ec', _, _, CO8⟩ := co_of Q8.out.cols hba lc0
      simp only [Value.slice.injEq, Option.some.injEq, Addr.mk.injEq, true_and, and_true] at ec'
      obtain ⟨rfl, rfl⟩ := ec'
      have EX := Seg.hid (DqE.expr_any b A n c gc cs.length cap lc0 (by omega) (fun i => cs.getD i ⟨#[]⟩) (col_sz CSZ.out.2.2) 2 (by decide) 2 w8 (by decide) Q8.out.o.lft.cur CO8)
      clear CO8
      go_upto_region 19 with fail
      go_wp2_with (go_at_call 23; refine EX.out.mono ?_; rintro e w9 ⟨v9, acc, rfl, p0, p1, p2, s9⟩; have Q9 := Seg.hid (Q8.out.draw hba s9.lft); have SM := Seg.hid p2; have SR := Seg.hid (row_weak s9.own Q8.out.o.lft.grown.size); have la : acc.length ≤ 7 := (by have : (2 : Nat) ^ (2 + 1) = 8 := rfl; omega); obtain ⟨A9, k9, e9⟩ := s9.own.form; subst e9; clear s9 p2 p0 p1; obtain ⟨c0, c1, c2, c3, c4, c5, c6, c7, c8, c9, c10⟩ := qcells Q9.out.var; have hf := qfroz Q9.out.var)
      go_meet
      have QP := Q9.out.put CA.out 5 (.slice A9 acc.length k9) { q with wh := acc } (.slice A9 acc.length k9) (.slice none 0 0) (.slice none 0 0) [] rfl SR.out Q9.out.o.gps Q9.out.o.gets Q9.out.o.el Q9.out.o.hm ⟨Q9.out.o.sz.names, ⟨by show acc.length ≤ 10; omega, SM.out⟩, Q9.out.o.sz.gps, Q9.out.o.sz.gets⟩ (fun p0 rest e => (by cases e)) (fun y hy => by simp [Value.ownBlock])
      exact ⟨_, _, QP⟩
  case rest =>
  clear Q7 Q8
  obtain ⟨q2, v5, hQ⟩ := hcut
  have Q9 := Seg.hid hQ
  clear hQ q
  rename World => w9
  go_upto_if 51 with (go_at_call 10; refine (Draw.once_any b A n c 3 w9 Q9.out.o.lft.cur (by decide) (by decide)).mono ?_; rintro e wA ⟨⟨x3, rfl⟩, M⟩; have QA := Seg.hid (Q9.out.draw hba M); clear M)
  go_cut [] from 49 to 95 (fun wx => ∃ q v6, Qs wa wx b A n c gq q v5 v6 (.slice none 0 0) (.slice (some ⟨gc, 0, none⟩) cs.length cap) cs [])
  case first =>
    cases x3 with
    | true =>
      go_wp2
      go_meet
      exact ⟨_, _, QA.out⟩
    | false =>
      have PK := Seg.hid (pickC_any QA.out.o.lft.cur QA.out.cols hba lc0 (by omega) CSZ.out.2.2)
      go_upto_region 22 with (go_at_call 22; refine PK.out.mono ?_; rintro e wB ⟨⟨xg, hxg, rfl⟩, M⟩; have QB := Seg.hid (QA.out.draw hba M); have hgqs := (Array.getElem?_eq_some_iff.1 QB.out.var).1; clear M; obtain ⟨c0, c1, c2, c3, c4, c5, c6, c7, c8, c9, c10⟩ := qcells QB.out.var; have hf := qfroz QB.out.var)
      obtain ⟨wC, hwC⟩ : ∃ wx, (wB.setCell ⟨gq, 6, none⟩ (.slice (some ⟨wB.heap.size, 0, none⟩) 1 1)).alloc (.cells #[.string xg] 9 (0, 0)) = wx := ⟨_, rfl⟩
      have QC : Hid (Qs wa wC b A n c gq { q2 with gps := [xg] } v5 (.slice (some ⟨wB.heap.size, 0, none⟩) 1 1) (.slice none 0 0) (.slice (some ⟨gc, 0, none⟩) cs.length cap) cs []) := by
        show Qs _ _ _ _ _ _ _ _ _ _ _ _ _ _
        rw [← hwC, show (wB.setCell ⟨gq, 6, none⟩ (.slice (some ⟨wB.heap.size, 0, none⟩) 1 1)).alloc (.cells #[.string xg] 9 (0, 0)) = (wB.alloc (.cells #[.string xg] 9 (0, 0))).setCell ⟨gq, 6, none⟩ (.slice (some ⟨wB.heap.size, 0, none⟩) 1 1) from (by rw [World.setCell_alloc_past]; exact hgqs)]
        have Qal := QB.out.alloc hba (.cells #[.string xg] 9 (0, 0))
        exact Qal.put CA.out 6 (.slice (some ⟨wB.heap.size, 0, none⟩) 1 1) { q2 with gps := [xg] } v5 (.slice (some ⟨wB.heap.size, 0, none⟩) 1 1) (.slice none 0 0) [] rfl Qal.o.wh (lit_row wB wa.heap.size QB.out.o.lft.grown.size [xg] (by simp) _ rfl) Qal.o.gets Qal.o.el Qal.o.hm ⟨Qal.o.sz.names, Qal.o.sz.wh, ⟨(by show (1 : Nat) ≤ 5; decide), fun s hs => (by rw [List.mem_singleton.1 hs]; exact hxg)⟩, Qal.o.sz.gets⟩ (fun p0 rest e => (by cases e)) (fun y hy e => (by have h1 := (own_ty QB.out.cols hy).2.1; simp only [Value.ownBlock, Option.some.injEq] at e; omega))
      try rw [hwC]
      clear hwC c0 c1 c2 c3 c4 c5 c6 c7 c8 c9 c10 hf
      have sBC : Hid (wB.heap.size < wC.heap.size) := (own_ty QC.out.o.gps rfl).2.1
      clear QB QA PK
      generalize wB.heap.size = gG at *
      go_cut [68] from 57 to 68 (fun v wx => ∃ x, v = .bool x ∧ Qs wa wx b A n c gq { q2 with gps := [xg] } v5 (.slice (some ⟨gG, 0, none⟩) 1 1) (.slice none 0 0) (.slice (some ⟨gc, 0, none⟩) cs.length cap) cs [])
      case first =>
        have i0' : (0 : Int) < (cs.length : Int) := by omega
        obtain ⟨_, _, _, _, _, _, e6, _, _, _, _⟩ := qcells QC.out.var
        have g0 := World.ownsRow.cellAt QC.out.o.gps 0 (by simp)
        have k0 := co_at QC.out.cols lc0
        obtain ⟨col0, hcol⟩ : ∃ x, cs.getD 0 ⟨#[]⟩ = x := ⟨_, rfl⟩
        rw [hcol] at k0
        cases hq : (xg.toList == col0.toList) with
        | true =>
          refine wp_region_held_drew (S := (fun w' => w'.cell? ⟨gq, 6, none⟩ = some (.slice (some ⟨gG, 0, none⟩) 1 1) ∧ w'.cell? ⟨gG, 0, none⟩ = some (.string xg) ∧ w'.cell? ⟨gc, 0, none⟩ = some (.string col0))) (by kernel_rfl) ⟨e6, g0, k0⟩ (fun hHeld => ?_)
          refine HdK.tke 0 (some 57) (.pointer (some ⟨b, 0, none⟩)) rfl rfl ?_
          try simp only [Act.put, List.setIfInBounds_toArray, List.set_cons_zero, List.set_cons_succ]
          refine wpAnyH_ready (rs := [1]) (by kernel_rfl) (by simp) ?_
          refine AllReadyH.cons rfl (fun K hK => ?_) AllReadyH.nil
          (go_simp; go_at_call 10; refine (Draw.once_any b A n c 4 _ QC.out.o.lft.cur.drew (by decide) (by decide)).mono ?_; rintro e wD ⟨⟨x4, rfl⟩, M⟩; have QD := Seg.hid (QC.out.draw hba ⟨M.cur, ⟨M.grown.os, M.grown.tape, M.grown.output, M.grown.size, M.grown.block⟩⟩); clear M; obtain ⟨_, _, _, _, _, _, f6, _, _, _, _⟩ := qcells QD.out.var; have g1 := World.ownsRow.cellAt QD.out.o.gps 0 (by simp); have k1 := co_at QD.out.cols lc0; try (go_wp2_with fail))
          rw [hcol] at k1
          refine hK.out _ _ ⟨f6, g1, k1⟩ (fun hHeld => ?_)
          clear hK K
          try simp only [Act.put, List.setIfInBounds_toArray, List.set_cons_zero, List.set_cons_succ]
          cases x4 with
          | true =>
            refine HdK.tke 2 (some 59) (.bool true) rfl rfl ?_
            try simp only [Act.put, List.setIfInBounds_toArray, List.set_cons_zero, List.set_cons_succ]
            refine HdK.tke 3 (some 60) (.pointer (some ⟨gq, 6, none⟩)) rfl rfl ?_
            try simp only [Act.put, List.setIfInBounds_toArray, List.set_cons_zero, List.set_cons_succ]
            refine HdK.tke 4 (some 61) (.slice (some ⟨gG, 0, none⟩) 1 1) rfl rfl ?_
            try simp only [Act.put, List.setIfInBounds_toArray, List.set_cons_zero, List.set_cons_succ]
            refine HdK.tke 5 (some 62) (.pointer (some ⟨gG, 0, none⟩)) rfl rfl ?_
            try simp only [Act.put, List.setIfInBounds_toArray, List.set_cons_zero, List.set_cons_succ]
            refine HdK.tke 6 (some 63) (.string xg) rfl rfl ?_
            try simp only [Act.put, List.setIfInBounds_toArray, List.set_cons_zero, List.set_cons_succ]
            refine HdK.tke 7 (some 64) ((.slice (some ⟨gc, 0, none⟩) cs.length cap)) rfl rfl ?_
            try simp only [Act.put, List.setIfInBounds_toArray, List.set_cons_zero, List.set_cons_succ]
            refine HdK.tke 8 (some 65) (.pointer (some ⟨gc, 0, none⟩)) rfl rfl ?_
            try simp only [Act.put, List.setIfInBounds_toArray, List.set_cons_zero, List.set_cons_succ]
            refine HdK.tke 9 (some 66) (.string col0) rfl rfl ?_
            try simp only [Act.put, List.setIfInBounds_toArray, List.set_cons_zero, List.set_cons_succ]
            refine HdK.tke 10 (some 67) (.bool false) rfl rfl ?_
            try simp only [Act.put, List.setIfInBounds_toArray, List.set_cons_zero, List.set_cons_succ]
            refine HdK.tke 11 (some 68) (.bool false) rfl rfl ?_
            try simp only [Act.put, List.setIfInBounds_toArray, List.set_cons_zero, List.set_cons_succ]
            refine wpAnyH_done (by kernel_rfl) ?_ _
            try (go_wp2_with fail)
            go_meet
            exact ⟨_, rfl, QD.out⟩
          | false =>
            refine HdK.tke 2 (some 59) (.bool false) rfl rfl ?_
            try simp only [Act.put, List.setIfInBounds_toArray, List.set_cons_zero, List.set_cons_succ]
            refine HdK.skp 3 (some 60) rfl rfl ?_
            try simp only [Act.put, List.setIfInBounds_toArray, List.set_cons_zero, List.set_cons_succ]
            refine HdK.skp 4 (some 61) rfl rfl ?_
            try simp only [Act.put, List.setIfInBounds_toArray, List.set_cons_zero, List.set_cons_succ]
            refine HdK.skp 5 (some 62) rfl rfl ?_
            try simp only [Act.put, List.setIfInBounds_toArray, List.set_cons_zero, List.set_cons_succ]
            refine HdK.skp 6 (some 63) rfl rfl ?_
            try simp only [Act.put, List.setIfInBounds_toArray, List.set_cons_zero, List.set_cons_succ]
            refine HdK.skp 7 (some 64) rfl rfl ?_
            try simp only [Act.put, List.setIfInBounds_toArray, List.set_cons_zero, List.set_cons_succ]
            refine HdK.skp 8 (some 65) rfl rfl ?_
            try simp only [Act.put, List.setIfInBounds_toArray, List.set_cons_zero, List.set_cons_succ]
            refine HdK.skp 9 (some 66) rfl rfl ?_
            try simp only [Act.put, List.setIfInBounds_toArray, List.set_cons_zero, List.set_cons_succ]
            refine HdK.skp 10 (some 67) rfl rfl ?_
            try simp only [Act.put, List.setIfInBounds_toArray, List.set_cons_zero, List.set_cons_succ]
            refine HdK.tke 11 (some 68) (.bool false) rfl rfl ?_
            try simp only [Act.put, List.setIfInBounds_toArray, List.set_cons_zero, List.set_cons_succ]
            refine wpAnyH_done (by kernel_rfl) ?_ _
            try (go_wp2_with fail)
            go_meet
            exact ⟨_, rfl, QD.out⟩
        | false =>
          refine wp_region_held_drew (S := (fun w' => w'.cell? ⟨gq, 6, none⟩ = some (.slice (some ⟨gG, 0, none⟩) 1 1) ∧ w'.cell? ⟨gG, 0, none⟩ = some (.string xg) ∧ w'.cell? ⟨gc, 0, none⟩ = some (.string col0))) (by kernel_rfl) ⟨e6, g0, k0⟩ (fun hHeld => ?_)
          refine HdK.tke 0 (some 57) (.pointer (some ⟨b, 0, none⟩)) rfl rfl ?_
          try simp only [Act.put, List.setIfInBounds_toArray, List.set_cons_zero, List.set_cons_succ]
          refine wpAnyH_ready (rs := [1]) (by kernel_rfl) (by simp) ?_
          refine AllReadyH.cons rfl (fun K hK => ?_) AllReadyH.nil
          (go_simp; go_at_call 10; refine (Draw.once_any b A n c 4 _ QC.out.o.lft.cur.drew (by decide) (by decide)).mono ?_; rintro e wD ⟨⟨x4, rfl⟩, M⟩; have QD := Seg.hid (QC.out.draw hba ⟨M.cur, ⟨M.grown.os, M.grown.tape, M.grown.output, M.grown.size, M.grown.block⟩⟩); clear M; obtain ⟨_, _, _, _, _, _, f6, _, _, _, _⟩ := qcells QD.out.var; have g1 := World.ownsRow.cellAt QD.out.o.gps 0 (by simp); have k1 := co_at QD.out.cols lc0; try (go_wp2_with fail))
          rw [hcol] at k1
          refine hK.out _ _ ⟨f6, g1, k1⟩ (fun hHeld => ?_)
          clear hK K
          try simp only [Act.put, List.setIfInBounds_toArray, List.set_cons_zero, List.set_cons_succ]
          cases x4 with
          | true =>
            refine HdK.tke 2 (some 59) (.bool true) rfl rfl ?_
            try simp only [Act.put, List.setIfInBounds_toArray, List.set_cons_zero, List.set_cons_succ]
            refine HdK.tke 3 (some 60) (.pointer (some ⟨gq, 6, none⟩)) rfl rfl ?_
            try simp only [Act.put, List.setIfInBounds_toArray, List.set_cons_zero, List.set_cons_succ]
            refine HdK.tke 4 (some 61) (.slice (some ⟨gG, 0, none⟩) 1 1) rfl rfl ?_
            try simp only [Act.put, List.setIfInBounds_toArray, List.set_cons_zero, List.set_cons_succ]
            refine HdK.tke 5 (some 62) (.pointer (some ⟨gG, 0, none⟩)) rfl rfl ?_
            try simp only [Act.put, List.setIfInBounds_toArray, List.set_cons_zero, List.set_cons_succ]
            refine HdK.tke 6 (some 63) (.string xg) rfl rfl ?_
            try simp only [Act.put, List.setIfInBounds_toArray, List.set_cons_zero, List.set_cons_succ]
            refine HdK.tke 7 (some 64) ((.slice (some ⟨gc, 0, none⟩) cs.length cap)) rfl rfl ?_
            try simp only [Act.put, List.setIfInBounds_toArray, List.set_cons_zero, List.set_cons_succ]
            refine HdK.tke 8 (some 65) (.pointer (some ⟨gc, 0, none⟩)) rfl rfl ?_
            try simp only [Act.put, List.setIfInBounds_toArray, List.set_cons_zero, List.set_cons_succ]
            refine HdK.tke 9 (some 66) (.string col0) rfl rfl ?_
            try simp only [Act.put, List.setIfInBounds_toArray, List.set_cons_zero, List.set_cons_succ]
            refine HdK.tke 10 (some 67) (.bool true) rfl rfl ?_
            try simp only [Act.put, List.setIfInBounds_toArray, List.set_cons_zero, List.set_cons_succ]
            refine HdK.tke 11 (some 68) (.bool true) rfl rfl ?_
            try simp only [Act.put, List.setIfInBounds_toArray, List.set_cons_zero, List.set_cons_succ]
            refine wpAnyH_done (by kernel_rfl) ?_ _
            try (go_wp2_with fail)
            go_meet
            exact ⟨_, rfl, QD.out⟩
          | false =>
            refine HdK.tke 2 (some 59) (.bool false) rfl rfl ?_
            try simp only [Act.put, List.setIfInBounds_toArray, List.set_cons_zero, List.set_cons_succ]
            refine HdK.skp 3 (some 60) rfl rfl ?_
            try simp only [Act.put, List.setIfInBounds_toArray, List.set_cons_zero, List.set_cons_succ]
            refine HdK.skp 4 (some 61) rfl rfl ?_
            try simp only [Act.put, List.setIfInBounds_toArray, List.set_cons_zero, List.set_cons_succ]
            refine HdK.skp 5 (some 62) rfl rfl ?_
            try simp only [Act.put, List.setIfInBounds_toArray, List.set_cons_zero, List.set_cons_succ]
            refine HdK.skp 6 (some 63) rfl rfl ?_
            try simp only [Act.put, List.setIfInBounds_toArray, List.set_cons_zero, List.set_cons_succ]
            refine HdK.skp 7 (some 64) rfl rfl ?_
            try simp only [Act.put, List.setIfInBounds_toArray, List.set_cons_zero, List.set_cons_succ]
            refine HdK.skp 8 (some 65) rfl rfl ?_
            try simp only [Act.put, List.setIfInBounds_toArray, List.set_cons_zero, List.set_cons_succ]
            refine HdK.skp 9 (some 66) rfl rfl ?_
            try simp only [Act.put, List.setIfInBounds_toArray, List.set_cons_zero, List.set_cons_succ]
            refine HdK.skp 10 (some 67) rfl rfl ?_
            try simp only [Act.put, List.setIfInBounds_toArray, List.set_cons_zero, List.set_cons_succ]
            refine HdK.tke 11 (some 68) (.bool false) rfl rfl ?_
            try simp only [Act.put, List.setIfInBounds_toArray, List.set_cons_zero, List.set_cons_succ]
            refine wpAnyH_done (by kernel_rfl) ?_ _
            try (go_wp2_with fail)
            go_meet
            exact ⟨_, rfl, QD.out⟩
      case rest =>
      clear QC
      obtain ⟨x5, hx5, hQ⟩ := hcut
      subst hx5
      have QD := Seg.hid hQ
      clear hQ
      rename World => wD
      go_upto_if 68 with fail
      go_cut [] from 69 to 76 (fun wx => ∃ q v6, Qs wa wx b A n c gq q v5 v6 (.slice none 0 0) (.slice (some ⟨gc, 0, none⟩) cs.length cap) cs [])
      case first =>
        cases x5 with
        | false =>
          go_wp2
          go_meet
          exact ⟨_, _, QD.out⟩
        | true =>
          obtain ⟨_, _, _, _, _, _, e6, _, _, _, _⟩ := qcells QD.out.var
          have e6a : ∀ o1, (wD.alloc o1).cell? ⟨gq, 6, none⟩ = some (.slice (some ⟨gG, 0, none⟩) 1 1) := fun o1 => (qcells (QD.out.alloc hba o1).var).2.2.2.2.2.2.1
          have k0 := co_at QD.out.cols lc0
          have hk0 : (cs.getD 0 ⟨#[]⟩).size ≤ 10 := col_sz CSZ.out.2.2 0
          have i0' : (0 : Int) < (cs.length : Int) := by omega
          obtain ⟨col0, hcol⟩ : ∃ x, cs.getD 0 ⟨#[]⟩ = x := ⟨_, rfl⟩
          rw [hcol] at k0 hk0
          clear hcol
          have hba' : ∀ o1, wa.heap.size ≤ (wD.drew.alloc o1).heap.size := fun o1 => by rw [hsz]; have := QD.out.o.lft.grown.size; exact Nat.le_succ_of_le this
          have OW : Hid (∀ o1, (wD.drew.alloc o1).ownsRow wa.heap.size 9 1 (.slice (some ⟨gG, 0, none⟩) 1 1) 1 [.string xg]) := fun o1 => ((QD.out.drew hba).alloc hba o1).o.gps
          have PU : Hid (∀ o1 w9 v', w9.ownsRow wa.heap.size 9 1 v' (1 + 1) ([.string xg] ++ [.string col0]) → (wD.drew.alloc o1).grownBy w9 (some gG) → (∀ y, v'.ownBlock = some y → some gG = some y ∨ y = (wD.drew.alloc o1).heap.size) → w9.heap[gq]? = some (.cells (qv { q2 with gps := [xg] } v5 (.slice (some ⟨gG, 0, none⟩) 1 1) (.slice none 0 0)) 28 (0, 0)) ∧ Qs wa (w9.setCell ⟨gq, 6, none⟩ v') b A n c gq { q2 with gps := [xg] ++ [col0] } v5 v' (.slice none 0 0) (.slice (some ⟨gc, 0, none⟩) cs.length cap) cs []) := fun o1 w9 v' h1 h2 h3 => ((QD.out.drew hba).alloc hba o1).pushG (ms := [col0]) CA.out h1 h2 h3 (by show 1 + 1 ≤ 5; decide) (fun s hs => by rw [List.mem_singleton.1 hs]; exact hk0)
          go_upto_region 23 with fail
          go_region_law (refine step_append_lies _ (by rfl) _ _ _ (by rfl) wa.heap.size 9 i0 _ 1 16 Try.underlying25 hi hz0 hz1 hz2 rfl (by decide) (.slice (some ⟨gG, 0, none⟩) 1 1) 1 [.string xg] (by rfl) (OW.out _) ⟨wD.heap.size, 0, none⟩ 1 1 [.string col0] (by rfl) (by rfl) (World.news_of_block (cs := #[.string col0]) (heap_alloc_new wD.drew _)) (by simp [Value.oneCell']) (by decide) (by unfold maxLen; decide) (by decide) (hba' _) (wD.heap.size + 1) (hsz wD.drew _) ?_; intro g9 cap9 w9 hown9 gr9 hat9 hlt9; have P9 := Seg.hid (PU.out _ _ _ hown9 gr9 (fun y hy => by simp only [Value.ownBlock, Option.some.injEq] at hy hat9; subst hy; rcases hat9 with h | h; (exact .inl (congrArg some h)); exact .inr (by rw [hsz]; exact h))); clear hown9 gr9 hat9 hlt9; have hf := qfroz P9.out.1; obtain ⟨_, _, _, _, _, _, c6, _, _, _, _⟩ := qcells P9.out.1)
          all_goals
            go_wp2_with fail
            go_meet
            exact ⟨_, _, P9.out.2⟩
      case rest =>
      clear QD
      obtain ⟨q3, v6, hQ⟩ := hcut
      have QE := Seg.hid hQ
      clear hQ
      rename World => wE
      obtain ⟨A6, c6', e6⟩ := row_form QE.out.o.gps
      subst e6
      go_upto_region 25 with (go_at_call 12; refine (Draw.below_any b A n c 4 wE QE.out.o.lft.cur (by first | decide | omega) (by first | decide | omega)).mono ?_; rintro e wF ⟨⟨y3, y3a, y3b, rfl⟩, M⟩; have QF := Seg.hid (QE.out.draw hba M); clear M; obtain ⟨c0, c1, c2, c3, c4, c5, c6, c7, c8, c9, c10⟩ := qcells QF.out.var; have hf := qfroz QF.out.var)
      clear c0 c1 c2 c3 c4 c5 c6 c7 c8 c9 c10 hf
      obtain ⟨wG, hwG⟩ : ∃ wx, wF.setCell ⟨gq, 7, none⟩ (.int .i64 y3) = wx := ⟨_, rfl⟩
      have QG : Hid (Qs wa wG b A n c gq { q3 with win := y3 } v5 (.slice A6 q3.gps.length c6') (.slice none 0 0) (.slice (some ⟨gc, 0, none⟩) cs.length cap) cs []) := by
        show Qs _ _ _ _ _ _ _ _ _ _ _ _ _ _
        rw [← hwG]
        exact QF.out.set CA.out 7 (.int .i64 y3) { q3 with win := y3 } rfl rfl rfl rfl QF.out.o.sz.names
      try rw [hwG]
      clear hwG QF QE
      obtain ⟨c0, c1, c2, c3, c4, c5, c6, c7, c8, c9, c10⟩ := qcells QG.out.var
      have hf := qfroz QG.out.var
      by_cases hy3 : y3 = 0
      · have by3 : (y3 != 0) = false := by simp [hy3]
        have by4 : (y3 == 2) = false := by rw [beq_eq_false_iff_ne]; omega
        clear hy3
        go_wp2
        go_meet
        exact ⟨_, _, QG.out⟩
      have by3 : (y3 != 0) = true := by simpa using hy3
      clear hy3
      go_upto_region 27 with (go_at_call 12; refine (Draw.below_any b A n c 20 wG QG.out.o.lft.cur (by first | decide | omega) (by first | decide | omega)).mono ?_; rintro e wH ⟨⟨y4, y4a, y4b, rfl⟩, M⟩; have QH := Seg.hid (QG.out.draw hba M); clear M; clear c0 c1 c2 c3 c4 c5 c6 c7 c8 c9 c10 hf; obtain ⟨c0, c1, c2, c3, c4, c5, c6, c7, c8, c9, c10⟩ := qcells QH.out.var; have hf := qfroz QH.out.var; have wr1 : IntKind.i64.wrap (1 + y4) = 1 + y4 := (by rw [IntKind.wrap_i64] <;> omega))
      clear c0 c1 c2 c3 c4 c5 c6 c7 c8 c9 c10 hf
      obtain ⟨wI, hwI⟩ : ∃ wx, wH.setCell ⟨gq, 8, none⟩ (.int .i64 (1 + y4)) = wx := ⟨_, rfl⟩
      have QI : Hid (Qs wa wI b A n c gq { q3 with win := y3, size := 1 + y4 } v5 (.slice A6 q3.gps.length c6') (.slice none 0 0) (.slice (some ⟨gc, 0, none⟩) cs.length cap) cs []) := by
        show Qs _ _ _ _ _ _ _ _ _ _ _ _ _ _
        rw [← hwI]
        exact QH.out.set CA.out 8 (.int .i64 (1 + y4)) { q3 with win := y3, size := 1 + y4 } rfl rfl rfl rfl QH.out.o.sz.names
      try rw [hwI]
      clear hwI QH QG
      obtain ⟨c0, c1, c2, c3, c4, c5, c6, c7, c8, c9, c10⟩ := qcells QI.out.var
      have hf := qfroz QI.out.var
      cases by4 : (y3 == 2) with
      | false =>
        go_wp2
        go_meet
        exact ⟨_, _, QI.out⟩
      | true =>
        go_wp2_with (go_at_call 12; refine (Draw.below_any b A n c (1 + y4) wI QI.out.o.lft.cur (by first | decide | omega) (by first | decide | omega)).mono ?_; rintro e wJ ⟨⟨y5, y5a, y5b, rfl⟩, M⟩; have QJ := Seg.hid (QI.out.draw hba M); clear M; clear c0 c1 c2 c3 c4 c5 c6 c7 c8 c9 c10 hf; obtain ⟨c0, c1, c2, c3, c4, c5, c6, c7, c8, c9, c10⟩ := qcells QJ.out.var; have hf := qfroz QJ.out.var; have wr2 : IntKind.i64.wrap (1 + y5) = 1 + y5 := (by rw [IntKind.wrap_i64] <;> omega))
        have QK := QJ.out.set CA.out 9 (.int .i64 (1 + y5)) { q3 with win := y3, size := 1 + y4, every := 1 + y5 } rfl rfl rfl rfl QJ.out.o.sz.names
        go_meet
        exact ⟨_, _, QK⟩
  case rest =>
  clear QA Q9
  obtain ⟨q3, v6, hQ⟩ := hcut
  have QL := Seg.hid hQ
  clear hQ
  rename World => wL
  obtain ⟨A6, c6', e6⟩ := row_form QL.out.o.gps
  subst e6
  go_upto_region 30 with fail
  obtain ⟨wM, hwM⟩ : ∃ wx, wL.alloc (.cells #[.string ⟨#[112]⟩, .string ⟨#[113]⟩, .string ⟨#[114]⟩, .string ⟨#[116, 111, 116, 97, 108]⟩] 9 (0, 0)) = wx := ⟨_, rfl⟩
  have QM : Hid (Qn wa wM b A n c gq q3 v5 (.slice A6 q3.gps.length c6') (.slice none 0 0) (.slice (some ⟨gc, 0, none⟩) cs.length cap) cs [] wL.heap.size) := by
    show Qn _ _ _ _ _ _ _ _ _ _ _ _ _ _ _
    rw [← hwM]
    exact ⟨QL.out.alloc hba _, lit_row wL wa.heap.size QL.out.o.lft.grown.size nms (by decide) _ rfl⟩
  try rw [hwM]
  clear hwM QL
  generalize wL.heap.size = gN at *
  generalize q3.gps.length = m6 at *
  go_upto_region 31 with fail
  go_loopw [6, 7] (fun i v wr => ∃ (k : Nat) (q : Qry) (v10 : Value) (ps : List (Gqt × Value)), k ≤ 3 ∧ i = .int .i64 k ∧ Hid (ps.length = k) ∧ Hid (Qn wa wr b A n c gq q v5 (.slice A6 m6 c6') v10 (.slice (some ⟨gc, 0, none⟩) cs.length cap) cs ps gN)) (fun i _ _ => 3 - (intOf i).toNat)
  case atStart => exact ⟨0, q3, _, [], by omega, rfl, rfl, QM.out⟩
  case round =>
    clear QM
    obtain ⟨k, q, v10, ps, hk, rfl, HK, HQ⟩ := hrel
    go_upto_region 31 with fail
    go_cut [106] from 97 to 106 (fun v wx => ∃ x, v = .bool x ∧ (x = false → 0 < k) ∧ (x = true → k < 3) ∧ Qn wa wx b A n c gq q v5 (.slice A6 m6 c6') v10 (.slice (some ⟨gc, 0, none⟩) cs.length cap) cs ps gN)
    case first =>
      by_cases hk0 : k = 0
      · subst hk0
        go_wp2
        go_meet
        exact ⟨true, rfl, by simp, by simp, HQ.out⟩
      have e0 : ((k : Int) == 0) = false := by rw [beq_eq_false_iff_ne]; omega
      by_cases hlt : k < 3
      · have e1 : decide ((k : Int) < 3) = true := by rw [decide_eq_true_iff]; omega
        have Q0 := Seg.hid (HQ.out.drew hba)
        go_wp2_with (go_at_call 10; refine (Draw.once_any b A n c 2 wr HQ.out.s.o.lft.cur (by decide) (by decide)).mono ?_; rintro e w2 ⟨⟨x, rfl⟩, M⟩; have Q2 := Seg.hid (HQ.out.draw hba M); clear M)
        go_meet
        exact ⟨x, rfl, by intro _; omega, fun _ => hlt, Q2.out⟩
      · have e1 : decide ((k : Int) < 3) = false := by rw [decide_eq_false_iff_not]; omega
        go_wp2
        go_meet
        exact ⟨false, rfl, by intro _; omega, by simp, HQ.out⟩
    case rest =>
    obtain ⟨x, hx, hx0, hx1, hQ⟩ := hcut
    subst hx
    have Q1 := Seg.hid hQ
    clear hQ HQ
    rename World => w1
    cases x with
    | false =>
      have hk0 : 0 < k := hx0 rfl
      have HK0 := Seg.hid hk0
      clear hx0 hx1 hk0
      have hne : w.heap.size ≠ b := by omega
      have R1 : Hid (w1.heap[w.heap.size]? = some (.cells (qv (q0 z0) (.slice none 0 0) (.slice none 0 0) (.slice none 0 0)) 28 (0, 0))) := by
        show _ = _
        exact (Q1.out.s.o.lft.grown.block _ (by have := SA.out; omega) (by simp only [ne_eq, Option.some.injEq]; exact hne)).trans RS.out
      obtain ⟨t4, w4', o4⟩ := Qn.out HWA.out.symm hb HC.out Q1.out R1.out rfl
      have T4 := Seg.hid t4
      have W4 := Seg.hid w4'
      have O4 := Seg.hid o4
      have VAR := Seg.hid Q1.out.s.var
      have ON : Hid ((qv q v5 (.slice A6 m6 c6') v10).all (·.oneCell') = true) := qv_one (own_one Q1.out.s.o.wh) ⟨_, _, _, rfl⟩ (own_one Q1.out.s.o.gets)
      clear t4 w4' o4 hne
      go_wp2_with (first | (refine wpList_load_row rfl 28 _ rfl gq rfl _ _ _ _ VAR.out Try.underlying28 rfl infoQ ?_) | (refine wpList_store_mid rfl 28 _ _ rfl w.heap.size 0 (qv q v5 (.slice A6 m6 c6') v10) rfl rfl T4.out infoQ ON.out ?_))
      exact bodyPost_ret (v := .agg (qv q v5 (.slice A6 m6 c6') v10)) (results_cell_row rfl _ _ w.heap.size _ _ _ _ rfl W4.out Try.underlying28 rfl infoQ) rfl ⟨q, v5, _, v10, rfl, ps, O4.out, by have := HK.out; have := HK0.out; omega⟩
    | true =>
      have hk3 : k < 3 := hx1 rfl
      clear hx0 hx1
      obtain ⟨nmc, nmz⟩ := Q1.out.at_ k (by omega)
      have NC : Hid (∀ wx, Lft w1 wx b A n c → wx.cell? ⟨gN, k, none⟩ = some (.string (nms.getD k ⟨#[]⟩))) := fun wx l => ((Q1.out.draw hba l).at_ k (by omega)).1
      obtain ⟨nmx, hnmx⟩ : ∃ x, nms.getD k ⟨#[]⟩ = x := ⟨_, rfl⟩
      rw [hnmx] at nmc nmz NC
      have HNX := Seg.hid hnmx
      clear hnmx
      have HZ := Seg.hid nmz
      clear nmz
      have dr1 : Hid (Lft w1 w1.drew b A n c) := ⟨Q1.out.s.o.lft.cur.drew, Draw.grown_drew (World.grownBy.refl _ _)⟩
      have EXC : Hid (Calls Try.prog 23 #[.pointer (some ⟨b, 0, none⟩), .slice (some ⟨gc, 0, none⟩) cs.length cap, .int .i64 2] w1.drew fun e w' => ∃ v acc, e = .returned v ∧ 0 < acc.length ∧ acc.length < 2 ^ (2 + 1) ∧ Sm acc ∧ SL w1.drew w' b A n c v acc) := by
        obtain ⟨g', cap', ec', _, _, CO8⟩ := co_of (Q1.out.drew hba).s.cols hba lc0
        simp only [Value.slice.injEq, Option.some.injEq, Addr.mk.injEq, true_and, and_true] at ec'
        obtain ⟨rfl, rfl⟩ := ec'
        exact DqE.expr_any b A n c gc cs.length cap lc0 (by have := CSZ.out; omega) (fun i => cs.getD i ⟨#[]⟩) (col_sz CSZ.out.2.2) 2 (by decide) 2 w1.drew (by decide) (Q1.out.drew hba).s.o.lft.cur CO8
      have EXA : Hid (∀ o1, Calls Try.prog 23 #[.pointer (some ⟨b, 0, none⟩), .slice (some ⟨gc, 0, none⟩) cs.length cap, .int .i64 2] (w1.drew.alloc o1) fun e w' => ∃ v acc, e = .returned v ∧ 0 < acc.length ∧ acc.length < 2 ^ (2 + 1) ∧ Sm acc ∧ SL (w1.drew.alloc o1) w' b A n c v acc) := by
        intro o1
        obtain ⟨g', cap', ec', _, _, CO8⟩ := co_of ((Q1.out.drew hba).alloc hba o1).s.cols hba lc0
        simp only [Value.slice.injEq, Option.some.injEq, Addr.mk.injEq, true_and, and_true] at ec'
        obtain ⟨rfl, rfl⟩ := ec'
        exact DqE.expr_any b A n c gc cs.length cap lc0 (by have := CSZ.out; omega) (fun i => cs.getD i ⟨#[]⟩) (col_sz CSZ.out.2.2) 2 (by decide) 2 _ (by decide) ((Q1.out.drew hba).alloc hba o1).s.o.lft.cur CO8
      have NCW : Hid (∀ o1, (w1.drew.alloc o1).cell? ⟨gN, k, none⟩ = some (.string nmx)) := fun o1 => NC.out _ (dr1.out.trans ⟨dr1.out.cur.alloc o1, World.grownBy_alloc _ _ _⟩)
      have i0 : (0 : Int) ≤ (k : Int) := by omega
      have i4 : (k : Int) < 4 := by omega
      go_upto_region 33 with fail
      go_cut [7] from 109 to 116 (fun v wx => ∃ (g : Nat) (gt : Gqt) (vg : Value), v = .pointer (some ⟨g, 0, none⟩) ∧ Gs wa wx b A n c gq q v5 (.slice A6 m6 c6') v10 (.slice (some ⟨gc, 0, none⟩) cs.length cap) cs ps gN g gt vg)
      case first =>
        refine wp_region_held_drew (S := (fun w' => w'.cell? ⟨gN, k, none⟩ = some (.string nmx))) (by kernel_rfl) nmc (fun hHeld => ?_)
        refine HdK.tke 0 (some 109) (.slice (some ⟨gN, 0, none⟩) 4 4) rfl rfl ?_
        try simp only [Act.put, List.setIfInBounds_toArray, List.set_cons_zero, List.set_cons_succ]
        refine HdK.tke 1 (some 110) (.int .i64 k) rfl rfl ?_
        try simp only [Act.put, List.setIfInBounds_toArray, List.set_cons_zero, List.set_cons_succ]
        refine HdK.tke 2 (some 111) (.pointer (some ⟨gN, k, none⟩)) rfl rfl ?_
        try simp only [Act.put, List.setIfInBounds_toArray, List.set_cons_zero, List.set_cons_succ]
        refine HdK.tke 3 (some 112) (.string nmx) rfl rfl ?_
        try simp only [Act.put, List.setIfInBounds_toArray, List.set_cons_zero, List.set_cons_succ]
        refine HdK.tke 4 (some 113) (.pointer (some ⟨b, 0, none⟩)) rfl rfl ?_
        try simp only [Act.put, List.setIfInBounds_toArray, List.set_cons_zero, List.set_cons_succ]
        refine HdK.tke 5 (some 114) (.slice (some ⟨gc, 0, none⟩) cs.length cap) rfl rfl ?_
        try simp only [Act.put, List.setIfInBounds_toArray, List.set_cons_zero, List.set_cons_succ]
        refine wpAnyH_ready (rs := [6, 8]) (by kernel_rfl) (by simp) ?_
        refine AllReadyH.cons rfl (fun K hK => ?_) (AllReadyH.cons rfl (fun K hK => ?_) AllReadyH.nil)
        · (go_simp; go_at_call 23; refine EXC.out.mono ?_; rintro e w9 ⟨v9, acc, rfl, p0, p1, p2, s9⟩; obtain ⟨A9, m9, c9, e9⟩ := own_one s9.own; subst e9; have la : acc.length ≤ 7 := (by have : (2 : Nat) ^ (2 + 1) = 8 := rfl; omega); have M9 : Lft w1 w9 b A n c := dr1.out.trans s9.lft; have GC := Seg.hid (Gs.makeC0 CA.out hba Q1.out M9 s9.own (by omega) p2 nmx HZ.out); have NCA : Hid (∀ o1, (w9.alloc o1).cell? ⟨gN, k, none⟩ = some (.string nmx)) := (fun o1 => NC.out _ (M9.trans ⟨M9.cur.alloc o1, World.grownBy_alloc _ _ _⟩)); have nmc9 := NC.out w9 M9; clear p0 p1 p2 s9 la M9; try (go_wp2_with fail))
          refine hK.out _ _ nmc9 (fun hHeld => ?_)
          clear hK K
          try simp only [Act.put, List.setIfInBounds_toArray, List.set_cons_zero, List.set_cons_succ]
          refine HdK.tke 7 (some 116) (.agg #[.int .i64 0, .slice A9 m9 c9, .string nmx]) rfl rfl ?_
          try simp only [Act.put, List.setIfInBounds_toArray, List.set_cons_zero, List.set_cons_succ]
          refine wpAnyH_ready (rs := [8]) (by kernel_rfl) (by simp) ?_
          refine AllReadyH.cons rfl (fun K hK => ?_) AllReadyH.nil
          go_simp
          refine hK.out _ _ (NCA.out _) (fun hHeld => ?_)
          clear hK K
          try simp only [Act.put, List.setIfInBounds_toArray, List.set_cons_zero, List.set_cons_succ]
          refine wpAnyH_ready (rs := [9]) (by kernel_rfl) (by simp) ?_
          refine AllReadyH.cons rfl (fun K hK => ?_) AllReadyH.nil
          go_simp
          refine hK.out _ _ (NCA.out _) (fun hHeld => ?_)
          clear hK K
          try simp only [Act.put, List.setIfInBounds_toArray, List.set_cons_zero, List.set_cons_succ]
          refine wpAnyH_done (by kernel_rfl) ?_ _
          try (go_wp2_with fail)
          go_meet
          exact ⟨_, _, _, rfl, GC.out⟩
        · go_simp
          refine hK.out _ _ (NCW.out _) (fun hHeld => ?_)
          clear hK K
          try simp only [Act.put, List.setIfInBounds_toArray, List.set_cons_zero, List.set_cons_succ]
          refine wpAnyH_ready (rs := [6]) (by kernel_rfl) (by simp) ?_
          refine AllReadyH.cons rfl (fun K hK => ?_) AllReadyH.nil
          (go_simp; go_at_call 23; refine (EXA.out _).mono ?_; rintro e w9 ⟨v9, acc, rfl, p0, p1, p2, s9⟩; obtain ⟨A9, m9, c9, e9⟩ := own_one s9.own; subst e9; have la : acc.length ≤ 7 := (by have : (2 : Nat) ^ (2 + 1) = 8 := rfl; omega); have M9 : Lft (w1.drew.alloc (.cells #[.int .i64 0, .slice none 0 0, .string ⟨#[]⟩] 35 (0, 0))) w9 b A n c := s9.lft; have GC := Seg.hid (Gs.makeA CA.out hba (Q1.out.drew hba) M9 s9.own (by omega) p2 nmx HZ.out rfl); have nmc9 := NC.out w9 ((dr1.out.trans ⟨dr1.out.cur.alloc _, World.grownBy_alloc _ _ _⟩).trans M9); clear p0 p1 p2 s9 la M9; try (go_wp2_with fail))
          refine hK.out _ _ nmc9 (fun hHeld => ?_)
          clear hK K
          try simp only [Act.put, List.setIfInBounds_toArray, List.set_cons_zero, List.set_cons_succ]
          refine HdK.tke 7 (some 116) (.agg #[.int .i64 0, .slice A9 m9 c9, .string nmx]) rfl rfl ?_
          try simp only [Act.put, List.setIfInBounds_toArray, List.set_cons_zero, List.set_cons_succ]
          refine wpAnyH_ready (rs := [9]) (by kernel_rfl) (by simp) ?_
          refine AllReadyH.cons rfl (fun K hK => ?_) AllReadyH.nil
          refine HdK.step_store_mid rfl 35 _ _ rfl w1.heap.size 0 #[.int .i64 0, .slice A9 m9 c9, .string nmx] rfl rfl GC.out.1 infoG (by simp [Value.oneCell']) ?_
          refine hK.out _ _ (by have h := (GC.out.2.q.at_ k (by omega)).1; rw [HNX.out] at h; exact h) (fun hHeld => ?_)
          clear hK K
          try simp only [Act.put, List.setIfInBounds_toArray]
          refine wpAnyH_done (by kernel_rfl) ?_ _
          try (go_wp2_with fail)
          go_meet
          exact ⟨_, _, _, rfl, GC.out.2⟩
      case rest =>
        clear NC HZ HNX EXC EXA NCW dr1 nmc Q1
        obtain ⟨g, gt, vg, hvg, hG⟩ := hcut
        subst hvg
        have G1 := Seg.hid hG
        clear hG
        rename World => w2
        obtain ⟨_, _, _, _, _, _, e6, _, _, _, _⟩ := qcells G1.out.q.s.var
        go_upto_if 120 with fail
        obtain ⟨x7, hx7⟩ : ∃ x, decide (0 < m6) = x := ⟨_, rfl⟩
        rw [hx7]
        clear hx7
        go_cut [] from 121 to 128 (fun wx => ∃ (gt : Gqt) (vg : Value), Gs wa wx b A n c gq q v5 (.slice A6 m6 c6') v10 (.slice (some ⟨gc, 0, none⟩) cs.length cap) cs ps gN g gt vg)
        case first =>
          cases x7 with
          | false =>
            go_wp2
            go_meet
            exact ⟨_, _, G1.out⟩
          | true =>
            go_upto_region 36 with (go_at_call 12; refine (Draw.below_any b A n c 4 w2 G1.out.q.s.o.lft.cur (by decide) (by decide)).mono ?_; rintro e w3 ⟨⟨y, ya, yb, rfl⟩, M⟩; have G3 := Seg.hid (G1.out.draw hba M); clear M; obtain ⟨d0, d1, d2⟩ := G3.out.cells3; have df := qfroz G3.out.var)
            clear d0 d1 d2 df e6
            obtain ⟨w4, hw4⟩ : ∃ wx, w3.setCell ⟨g, 0, none⟩ (.int .i64 (1 + y)) = wx := ⟨_, rfl⟩
            have G4 : Hid (Gs wa w4 b A n c gq q v5 (.slice A6 m6 c6') v10 (.slice (some ⟨gc, 0, none⟩) cs.length cap) cs ps gN g { gt with kind := 1 + y } vg) := by
              show Gs _ _ _ _ _ _ _ _ _ _ _ _ _ _ _ _ _ _
              rw [← hw4]
              exact G3.out.setK CA.out (1 + y)
            try rw [hw4]
            clear hw4 G3 G1
            obtain ⟨d0, d1, d2⟩ := G4.out.cells3
            have df := qfroz G4.out.var
            cases hk1 : ((1 + y) == 1) with
            | true =>
              go_wp2
              go_meet
              exact ⟨_, _, G4.out.setN CA.out⟩
            | false =>
              go_wp2
              go_meet
              exact ⟨_, _, G4.out⟩
        case rest =>
        clear G1 e6
        obtain ⟨gt', vg', hG⟩ := hcut
        obtain ⟨Ag, mg, cg, eg⟩ := own_one hG.row
        subst eg
        obtain ⟨At, mt, ct, et⟩ := own_one hG.q.s.o.gets
        subst et
        have G5 := Seg.hid hG
        clear hG
        rename World => w5
        have VARG := Seg.hid G5.out.var
        obtain ⟨iG, hiG, hgz0, hgz1, hgz2⟩ := info_parts infoGz
        have e10 := (qcells G5.out.q.s.var).2.2.2.2.2.2.2.2.2.2
        have hl5 : wa.heap.size ≤ w5.heap.size := G5.out.q.s.o.lft.grown.size
        have hk10 : ps.length ≤ 3 := by have := HK.out; omega
        have OW : Hid (∀ o1, (w5.alloc o1).ownsRow wa.heap.size 35 3 (.slice At mt ct) ps.length (gcells ps)) := fun o1 => (G5.out.draw hba ⟨G5.out.q.s.o.lft.cur.alloc o1, World.grownBy_alloc _ _ _⟩).q.s.o.gets
        have PU : Hid (∀ o1 w9 v', w9.ownsRow wa.heap.size 35 3 v' (ps.length + 1) (gcells ps ++ gc1 (gt', .slice Ag mg cg)) → (w5.alloc o1).grownBy w9 (Value.slice At mt ct).ownBlock → w9.heap[gq]? = some (.cells (qv q v5 (.slice A6 m6 c6') (.slice At mt ct)) 28 (0, 0)) ∧ Qn wa (w9.setCell ⟨gq, 10, none⟩ v') b A n c gq { q with gets := q.gets ++ [gt'] } v5 (.slice A6 m6 c6') v' (.slice (some ⟨gc, 0, none⟩) cs.length cap) cs (ps ++ [(gt', .slice Ag mg cg)]) gN) := fun o1 w9 v' h1 h2 => Qn.pushP CA.out (G5.out.draw hba ⟨G5.out.q.s.o.lft.cur.alloc o1, World.grownBy_alloc _ _ _⟩).q h1 h2 (by omega) (G5.out.draw hba ⟨G5.out.q.s.o.lft.cur.alloc o1, World.grownBy_alloc _ _ _⟩).row G5.out.sz G5.out.fr
        have LP : Hid ((ps ++ [(gt', Value.slice Ag mg cg)]).length = k + 1) := by show _ = _; rw [List.length_append, HK.out]; rfl
        go_wp2_with (first | (refine wpList_load_row rfl 35 _ rfl g rfl _ _ _ _ VARG.out Try.underlying35 rfl infoG ?_) | (at_builtin; (refine wpList_append_lies _ rfl _ _ 26 rfl wa.heap.size 35 iG _ 3 48 Try.underlying26 hiG hgz0 hgz1 hgz2 rfl (by decide) (.slice At mt ct) ps.length (gcells ps) rfl (OW.out _) ⟨w5.heap.size, 0, none⟩ 1 1 [.int .i64 gt'.kind, .slice Ag mg cg, .string gt'.nm] rfl rfl (World.news_of_block (cs := #[.int .i64 gt'.kind, .slice Ag mg cg, .string gt'.nm]) (heap_alloc_new _ _)) (by simp [Value.oneCell']) (by decide) (by unfold maxLen; omega) (by omega) (by rw [hsz]; omega) (w5.heap.size + 1) (by rw [hsz]) ?_; intro g9 cap9 w9 hown9 gr9 hat9 hlt9; have P9 := Seg.hid (PU.out _ _ _ hown9 gr9); clear hown9 gr9 hat9 hlt9; have hf := qfroz P9.out.1; obtain ⟨_, _, _, _, _, _, _, _, _, _, c10⟩ := qcells P9.out.1)))
        go_roundw
        case rel => exact ⟨k + 1, { q with gets := q.gets ++ [gt'] }, _, ps ++ [(gt', .slice Ag mg cg)], by omega, by go_num, LP, Seg.hid P9.out.2⟩
        case measure => simp [intOf]; omega
end Go.Proofs.Ytkohhcjpjloaaaa.DwD
namespace Go.Proofs.Ytkohhcjpjloaaaa.Draw
set_option maxRecDepth 8000
open Go.RowKit
set_option linter.unusedVariables false
set_option maxHeartbeats 800000 in
theorem pick_any (b : Nat) (A : Option Addr) (n c : Nat) (g m : Nat) (f : Nat → ByteArray) (w : World) (hc : Cur w b A n c) (hm : 0 < m) (hm2 : m ≤ 1000) (hg : g < w.heap.size) (hgb : g ≠ b)
    (hcell : ∀ i, i < m → w.cell? ⟨g, i, none⟩ = some (.string (f i))) :
    Calls Try.prog 22 #[.pointer (some ⟨b, 0, none⟩), .slice (some ⟨g, 0, none⟩) m m] w fun e w' => (∃ i : Nat, i < m ∧ e = .returned (.string (f i))) ∧ Lft w w' b A n c := by
  have HC := Seg.hid hc
  have HL := Seg.hid hcell
  clear hc hcell
  go_enter Try.func22, Try.ntmps22
  go_wp2_with fail
  refine (below_any b A n c m _ HC.out (by omega) (by omega)).mono ?_
  rintro e w1 ⟨⟨x, hx1, hx2, rfl⟩, L1⟩
  obtain ⟨k, rfl⟩ := Int.eq_ofNat_of_zero_le hx1
  have hk : k < m := by omega
  have hck : w1.cell? ⟨g, k, none⟩ = some (.string (f k)) := L1.grown.cell (HL.out k hk) (by simpa using hgb)
  go_wp2_with fail
  go_ret
  exact ⟨⟨k, hk, rfl⟩, L1⟩
end Go.Proofs.Ytkohhcjpjloaaaa.Draw
