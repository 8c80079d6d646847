/- The program's Retain; A variable of struct type with a list in it that grows by append, and what lies beside it. -/
import Derived.Deep.RegionHeld3
import Derived.Test.YtdcbgkcnidbakaaJR38
import Derived.Test.YtdcbgkcnidbakaaJR34
import Derived.Test.YtdcbgkcnidbakaaJR41
import Derived.Test.YtdcbgkcnidbakaaJR43
import Derived.Test.YtdcbgkcnidbakaaJR39
namespace Go.Proofs.Ytdcbgkcnidbakaa.Ft
set_option maxRecDepth 8000
open Go.RowKit
open Recs
open Bats SegW Segs LogW ReP
open LgP (logOk inR)
set_option linter.unusedVariables false
set_option maxHeartbeats 12800000 in
theorem retain_core (l : Lg) (y x : Int) (A : Option Addr) (c : Nat) (w : World) (lo b : Nat) (hb : b ≤ w.heap.size) (hf : FewL l) (hs : SegsAt w lo b (.slice A l.segs.length c) l.segs) :
    Calls Try.prog 7 #[logVal l (.slice A l.segs.length c), .int .i64 y, .int .i64 x] w fun e w' => ∃ sv, e = .returned (.tuple #[logVal (retain l y x).1 sv, .bool (retain l y x).2]) ∧ OwnS w' (seg w.heap.size w'.heap.size) sv (retain l y x).1.segs ∧ Below w.heap.size w w' := by
  have HS := Seg.hid hs
  have HV : Hid (LogAt w lo b (logVal l (.slice A l.segs.length c)) l) := ⟨_, rfl, hs⟩
  have HF := Seg.hid hf
  clear hs hf
  unfold logVal at HV ⊢
  go_enter Try.func7, Try.ntmps7
  go_wp2_with fail
  refine (LgI.impl_any _ l ((w.alloc _).alloc _) lo b (HV.out.below ((below2 w _ _).mono hb)) (by rw [hsz, hsz]; omega) HF.out).mono ?_
  rintro e w1 ⟨rfl, b1⟩
  have B1 := Seg.hid (chain (below2 w _ _) b1)
  have T1 : Hid (w1.heap[w.heap.size]? = some (.cells (logArr l (.slice A l.segs.length c)) 28 (0, 0))) := (b1.block w.heap.size (by rw [hsz, hsz]; omega)).trans (at1 w _ _)
  have T2 : Hid (w1.heap[w.heap.size + 1]? = some (.cells (logArr ⟨0, 0, 0, []⟩ (.slice none 0 0)) 28 (0, 0))) := (b1.block (w.heap.size + 1) (by rw [hsz, hsz]; omega)).trans (at2 w _ _)
  have s1 := b1.size
  rw [hsz, hsz] at s1
  clear b1
  have NO : Hid (∀ w2, Below w1.heap.size w1 w2 → w2.there (w.heap.size + 1) 0 (logArr ⟨0, 0, 0, []⟩ (.slice none 0 0)).size ∧ (w2.setCells (w.heap.size + 1) 0 (logArr ⟨0, 0, 0, []⟩ (.slice none 0 0)).toList).heap[w.heap.size + 1]? = some (.cells (logArr ⟨0, 0, 0, []⟩ (.slice none 0 0)) 28 (0, 0)) ∧ Below w.heap.size w (w2.setCells (w.heap.size + 1) 0 (logArr ⟨0, 0, 0, []⟩ (.slice none 0 0)).toList)) := fun w2 b2 => by
    have T := (b2.block (w.heap.size + 1) (by omega)).trans T2.out
    exact ⟨Cells.there_of T, Cells.whole (vs := logArr ⟨0, 0, 0, []⟩ (.slice none 0 0)) T rfl, Cells.below_setCells (by omega) _ _ _ _ (chain B1.out b2)⟩
  have NO2 : Hid (retain l y x = (⟨0, 0, 0, []⟩, false) → ∃ sv, Ending.returned (.tuple #[.agg #[.int .i64 0, .int .i64 0, .int .i64 0, .slice none 0 0], .bool false]) = Ending.returned (.tuple #[.agg #[.int .i64 (retain l y x).1.start, .int .i64 (retain l y x).1.next, .int .i64 (retain l y x).1.roll, sv], .bool (retain l y x).2]) ∧ OwnS (w1.setCells (w.heap.size + 1) 0 (logArr ⟨0, 0, 0, []⟩ (.slice none 0 0)).toList) (seg w.heap.size (w1.setCells (w.heap.size + 1) 0 (logArr ⟨0, 0, 0, []⟩ (.slice none 0 0)).toList).heap.size) sv (retain l y x).1.segs ∧ Below w.heap.size w (w1.setCells (w.heap.size + 1) 0 (logArr ⟨0, 0, 0, []⟩ (.slice none 0 0)).toList)) := fun h => ⟨.slice none 0 0, by rw [h], by rw [h]; exact LOwn.nil _ _ _ _, (NO.out _ (Below.refl _ _)).2.2⟩
  cases hok : logOk l with
  | false =>
    have HC : Hid (retain l y x = (⟨0, 0, 0, []⟩, false)) := by show _ = _; simp [retain, hok]
    clear hok
    go_wp2_with (first | (refine wpList_store_mid rfl 28 _ _ rfl (w.heap.size + 1) 0 (logArr ⟨0, 0, 0, []⟩ (.slice none 0 0)) rfl rfl (NO.out _ (Below.refl _ _)).1 infoN (logArr_one _ _ rfl) ?_))
    exact bodyPost_ret (v := .tuple #[logVal ⟨0, 0, 0, []⟩ (.slice none 0 0), .bool false]) (results_row_tmp rfl _ _ (w.heap.size + 1) _ _ _ _ _ rfl rfl (NO.out _ (Below.refl _ _)).2.1 Try.underlying28 rfl infoN) rfl (NO2.out HC.out)
  | true =>
  obtain ⟨c0, c1, c2, c3⟩ := four T1.out
  by_cases hy : y < 0
  · have HC : Hid (retain l y x = (⟨0, 0, 0, []⟩, false)) := by show _ = _; simp [retain, hok]; omega
    clear hok
    go_wp2_with (first | (refine wpList_store_mid rfl 28 _ _ rfl (w.heap.size + 1) 0 (logArr ⟨0, 0, 0, []⟩ (.slice none 0 0)) rfl rfl (NO.out _ (Below.refl _ _)).1 infoN (logArr_one _ _ rfl) ?_))
    exact bodyPost_ret (v := .tuple #[logVal ⟨0, 0, 0, []⟩ (.slice none 0 0), .bool false]) (results_row_tmp rfl _ _ (w.heap.size + 1) _ _ _ _ _ rfl rfl (NO.out _ (Below.refl _ _)).2.1 Try.underlying28 rfl infoN) rfl (NO2.out HC.out)
  have HC : Hid (retain l y x = (⟨newStart l (gone y x l.segs), l.next, l.roll, l.segs.drop (gone y x l.segs)⟩, true)) := by show _ = _; unfold retain; rw [if_pos (by rw [hok, decide_eq_true (show (0 : Int) ≤ y by omega)]; rfl)]
  obtain ⟨f, k1, k2, k3, k4, k5, k6⟩ := ok_parts hok
  have SO := Seg.hid (okAllS k1)
  clear hok k1 NO NO2
  have hy0 : decide (y < 0) = false := decide_eq_false hy
  have GL := gone_lt y x l.segs
  have GE := gone_le y x l.segs
  go_wp2_with fail
  refine (Re.countGone_core l.segs y x A c w1 lo b (by omega) k3 HF.out.1.2 SO.out (HS.out.below (B1.out.mono hb))).mono ?_
  rintro e w2 ⟨rfl, b2⟩
  generalize gone y x l.segs = r at *
  have B2 := Seg.hid (chain B1.out b2)
  have U1 := Seg.hid ((b2.block w.heap.size (by omega)).trans T1.out)
  have U2 := Seg.hid ((b2.block (w.heap.size + 1) (by omega)).trans T2.out)
  have s2 := b2.size
  clear b2 c0 c1 c2 c3 T1 T2 B1
  obtain ⟨c0, c1, c2, c3⟩ := four U1.out
  have hw2 : w.heap.size < w2.heap.size := by omega
  have r0 : (0 : Int) ≤ (r : Int) := by omega
  have r1 : (r : Int) ≤ (l.segs.length : Int) := by omega
  have hcc : l.segs.length ≤ c := by
    obtain ⟨_, ⟨_, A', c', hsl, hrow⟩, _⟩ := HS.out
    simp only [Value.slice.injEq] at hsl
    obtain ⟨rfl, _, rfl⟩ := hsl
    rcases hrow with h | ⟨_, _, _, _, h, _⟩ <;> omega
  have r2 : (r : Int) ≤ (c : Int) := by omega
  have r3 : (l.segs.length : Int) ≤ (c : Int) := by omega
  have hul : (l.segs.drop r).length = l.segs.length - r := List.length_drop
  have SD : Hid (∀ wx, Below w2.heap.size w2 wx → SegsAt wx lo b (.slice (if c = r then A else Option.map (fun x => x.add (r * 2)) A) (l.segs.length - r) (c - r)) (l.segs.drop r)) := fun wx bx => by
    have hs2 := HS.out.below ((chain B2.out bx).mono hb)
    by_cases hz : l.segs.length = 0
    · have e : l.segs = [] := List.length_eq_zero_iff.1 hz
      rw [hz, e, List.drop_nil, Nat.zero_sub]
      exact segs_nil
    · obtain ⟨_, ⟨_, A', c', hsl, hrow⟩, _⟩ := id hs2
      simp only [Value.slice.injEq] at hsl
      obtain ⟨rfl, _, rfl⟩ := hsl
      obtain ⟨g, o, rfl, _⟩ := hrow.resolve_left hz
      rw [if_neg (by omega), Option.map_some, addOff]
      exact segs_drop hs2 (by omega)
  have CALL : Hid (∀ wx, Below w2.heap.size w2 wx → Calls Try.prog 18 #[.slice (if c = r then A else Option.map (fun x => x.add (r * 2)) A) (l.segs.length - r) (c - r)] wx fun e w' => ∃ sv, e = .returned sv ∧ LGrow 41 2 ES w' wx.heap.size sv (l.segs.drop r) ∧ Below wx.heap.size wx w') := fun wx bx => copySegments_any _ (l.segs.drop r) wx lo b (Nat.le_trans hb (Nat.le_trans B2.out.size bx.size)) (by rw [hul]; omega) (fun i hi => by rw [hul] at hi; rw [getD_drop]; exact HF.out.1.2 _ (by omega)) (SD.out wx bx)
  have KS : Hid (∀ wx : World, wx.heap[w.heap.size]? = w2.heap[w.heap.size]? → wx.cell? ⟨w.heap.size, 0, none⟩ = some (.int .i64 l.start) ∧ wx.cell? ⟨w.heap.size, 1, none⟩ = some (.int .i64 l.next) ∧ wx.cell? ⟨w.heap.size, 2, none⟩ = some (.int .i64 l.roll) ∧ wx.cell? ⟨w.heap.size, 3, none⟩ = some (.slice A l.segs.length c)) := fun wx hx => by
    rw [World.cell?_of_block (w := w2) (a := ⟨w.heap.size, 0, none⟩) hx, World.cell?_of_block (w := w2) (a := ⟨w.heap.size, 1, none⟩) hx, World.cell?_of_block (w := w2) (a := ⟨w.heap.size, 2, none⟩) hx, World.cell?_of_block (w := w2) (a := ⟨w.heap.size, 3, none⟩) hx]
    exact ⟨c0, c1, c2, c3⟩
  go_wp2_with fail
  rename_i K aK
  have J : ∀ (OB : Nat) (wx : World) (A3 : Option Addr) (c3' : Nat) (u23 u24 u25 u26 u27 u28 u29 u30 u31 u32 u33 u34 : Value), CL w2 wx OB ⟨l.start, l.next, l.roll, []⟩ (.slice A3 (l.segs.length - r) c3') (l.segs.drop r) → K ⟨#[(.agg #[.int .i64 l.start, .int .i64 l.next, .int .i64 l.roll, .slice A l.segs.length c]), .int .i64 y, .int .i64 x, .pointer (some ⟨w.heap.size, 0, none⟩), undef, undef, .pointer (some ⟨w.heap.size + 1, 0, none⟩), .bool false, .int .i64 r, .pointer (some ⟨OB, 0, none⟩), (.agg #[.int .i64 l.start, .int .i64 l.next, .int .i64 l.roll, .slice A l.segs.length c]), .bool true, .bool false, .bool false, .int .i64 y, .bool false, .bool false, undef, .pointer (some ⟨w.heap.size, 3, none⟩), .slice A l.segs.length c, .int .i64 y, .int .i64 x, .int .i64 r, u23, u24, u25, u26, u27, u28, u29, u30, u31, u32, u33, u34, undef, undef, undef, undef, undef, undef, undef, undef, undef, undef, undef, undef], []⟩ wx := by
    intro OB wx A3 c3' u23 u24 u25 u26 u27 u28 u29 u30 u31 u32 u33 u34 D
    refine aK _ _ ?_
    have T2 := Seg.hid ((D.bel.block w.heap.size (by omega)).trans U1.out)
    have Z2 := Seg.hid ((D.bel.block (w.heap.size + 1) (by omega)).trans U2.out)
    have B3 := Seg.hid (chain B2.out D.bel)
    have hOB := D.lo
    have hOBh := D.hi
    have DD := Seg.hid D
    clear D c0 c1 c2 c3
    have NOM : Hid (∀ (wy : World) (st : Int), newStart l r = st → wy.heap[w.heap.size + 1]? = wx.heap[w.heap.size + 1]? → Below w.heap.size w wy → wx.heap.size = wy.heap.size → (∀ q, q ≠ OB → wy.heap[q]? = wx.heap[q]?) → (wy.setCells (w.heap.size + 1) 0 (logArr ⟨st, l.next, l.roll, []⟩ (.slice A3 (l.segs.length - r) c3')).toList).heap[w.heap.size + 1]? = some (.cells (logArr ⟨st, l.next, l.roll, []⟩ (.slice A3 (l.segs.length - r) c3')) 28 (0, 0)) ∧ ∃ sv, Ending.returned (.tuple #[logVal ⟨st, l.next, l.roll, []⟩ (.slice A3 (l.segs.length - r) c3'), .bool true]) = Ending.returned (.tuple #[.agg #[.int .i64 (retain l y x).1.start, .int .i64 (retain l y x).1.next, .int .i64 (retain l y x).1.roll, sv], .bool (retain l y x).2]) ∧ OwnS (wy.setCells (w.heap.size + 1) 0 (logArr ⟨st, l.next, l.roll, []⟩ (.slice A3 (l.segs.length - r) c3')).toList) (seg w.heap.size (wy.setCells (w.heap.size + 1) 0 (logArr ⟨st, l.next, l.roll, []⟩ (.slice A3 (l.segs.length - r) c3')).toList).heap.size) sv (retain l y x).1.segs ∧ Below w.heap.size w (wy.setCells (w.heap.size + 1) 0 (logArr ⟨st, l.next, l.roll, []⟩ (.slice A3 (l.segs.length - r) c3')).toList)) := fun wy st hst hz9 by_ hsy hq => by
      refine ⟨Cells.whole (vs := logArr ⟨st, l.next, l.roll, []⟩ (.slice A3 (l.segs.length - r) c3')) (hz9.trans Z2.out) rfl, .slice A3 (l.segs.length - r) c3', by rw [HC.out, hst]; rfl, ?_, Cells.below_setCells (by omega) _ _ _ _ by_⟩
      obtain ⟨F, P, base, hG, g1, g2, g3, g4⟩ := DD.out.grow
      rw [HC.out]
      show OwnS _ _ _ (l.segs.drop r)
      have hlen : (l.segs.drop r).length ≤ 1048576 := by rw [hul]; omega
      have hvb : ∀ q, (Value.slice A3 (l.segs.length - r) c3').ownBlock = some q → base ≤ q ∧ q < wx.heap.size := fun q hq' => World.ownsRow.lt hG.own q hq'
      refine (LOwn.keep keepsS (LGr.own_set hG hlen) (by rw [Cells.size_setCells, hsy]; exact Nat.le_refl _) (fun q hq' => ?_)).mono (fun q hq' => ?_)
      · have hqb : base ≤ q ∧ q ≠ OB := by
          rcases hq' with hq' | ⟨i, hi, hp⟩
          · exact ⟨(hvb q hq').1, fun e => g3 (e ▸ hq')⟩
          · exact ⟨(hG.apart i hi q hp).1, fun e => g4 i hi (e ▸ hp)⟩
        exact (Cells.heap_setCells_other _ _ (by omega)).trans (hq q hqb.2)
      · have hqb : base ≤ q ∧ q < wx.heap.size := by
          rcases hq' with hq' | ⟨i, hi, hp⟩
          · exact hvb q hq'
          · exact ⟨(hG.apart i hi q hp).1, (hG.apart i hi q hp).2.1⟩
        refine ⟨by omega, ?_⟩
        rw [Cells.size_setCells, ← hsy]
        exact hqb.2
    obtain ⟨o0, o1, o2, o3⟩ := four DD.out.out
    obtain ⟨c0, c1, c2, c3⟩ := four T2.out
    obtain ⟨n0, n1, n2, n3⟩ := four Z2.out
    have f0 := frozen_of_row wx (w.heap.size + 1) 0 _ _ Z2.out
    have f1 := frozen_of_row wx (w.heap.size + 1) 1 _ _ Z2.out
    have f2 := frozen_of_row wx (w.heap.size + 1) 2 _ _ Z2.out
    have f3 := frozen_of_row wx (w.heap.size + 1) 3 _ _ Z2.out
    by_cases hr0 : r = 0
    · have NQ := Seg.hid (NOM.out wx l.start (by rw [hr0]; rfl) rfl B3.out rfl (fun _ _ => rfl))
      have q2 : ¬ (0 : Int) < (r : Int) := by omega
      clear NOM hr0
      go_wp2_with fail
      exact bodyPost_ret (v := .tuple #[logVal ⟨l.start, l.next, l.roll, []⟩ (.slice A3 (l.segs.length - r) c3'), .bool true]) (results_row_tmp rfl _ _ (w.heap.size + 1) _ (logArr ⟨l.start, l.next, l.roll, []⟩ (.slice A3 (l.segs.length - r) c3')) _ _ _ rfl rfl NQ.out.1 Try.underlying28 rfl infoN) rfl NQ.out.2
    · have q2 : (0 : Int) < (r : Int) := by omega
      have hrn : r < l.segs.length := by omega
      obtain ⟨g9, e9, eb, h9, h10⟩ : ∃ g9, A3 = some ⟨g9, 0, none⟩ ∧ wx.cell? ⟨g9, 0, none⟩ = some (.int .i64 (baseAt l.segs r)) ∧ g9 ≠ OB ∧ g9 < wx.heap.size := by
        obtain ⟨F, P, base, hG, g1, g2, g3, g4⟩ := DD.out.grow
        rcases hG.own.2 with ⟨e1, e2⟩ | ⟨g9, cap9, cur9, e1, e2, e3, e4⟩
        · rw [hul] at e2; omega
        · simp only [Value.slice.injEq] at e1
          obtain ⟨rfl, _, rfl⟩ := e1
          refine ⟨g9, rfl, ?_, fun e => g3 (by rw [e]; rfl), (Array.getElem?_eq_some_iff.1 e3).1⟩
          have hown := hG.own
          rw [hul] at hown
          rw [World.ownsRow.cellAt hown 0 (by omega)]
          have hel := (hG.el 0 (by rw [hul]; omega)).1
          rw [getD_drop, Nat.add_zero] at hel
          have hel' : F 0 = .int .i64 (baseAt l.segs r) := hel
          rw [← hel', List.getElem?_map, List.getElem?_range (by omega)]
          rfl
      subst e9
      have NS : Hid (newStart l r = max l.start (baseAt l.segs r)) := by show _ = _; unfold newStart; rw [if_neg hr0]
      generalize baseAt l.segs r = nb at *
      have y5 : (0 : Int) < ((l.segs.length - r : Nat) : Int) := by omega
      have z0 := frozen_of_row wx OB 0 _ _ DD.out.out
      have hwx : w.heap.size < wx.heap.size := by omega
      have hne : w.heap.size ≠ OB := by omega
      have y6 : 0 < l.segs.length - r := by omega
      have y7 : ¬ l.segs.length ≤ r := by omega
      have KSo : Hid (∀ v : Value, (wx.setCell ⟨OB, 0, none⟩ v).drew.cell? ⟨w.heap.size, 0, none⟩ = some (.int .i64 l.start) ∧ (wx.setCell ⟨OB, 0, none⟩ v).drew.cell? ⟨OB, 3, none⟩ = some (.slice (some ⟨g9, 0, none⟩) (l.segs.length - r) c3') ∧ (wx.setCell ⟨OB, 0, none⟩ v).drew.cell? ⟨g9, 0, none⟩ = some (.int .i64 nb)) := fun v => by
        show (wx.setCell ⟨OB, 0, none⟩ v).cell? _ = _ ∧ (wx.setCell ⟨OB, 0, none⟩ v).cell? _ = _ ∧ (wx.setCell ⟨OB, 0, none⟩ v).cell? _ = _
        refine ⟨?_, ?_, ?_⟩
        · rw [World.cell?_setCell_other _ _ _ _ (fun e => by simp only [Addr.mk.injEq] at e; omega)]; exact c0
        · rw [World.cell?_setCell_other _ _ _ _ (fun e => by simp only [Addr.mk.injEq] at e; omega)]; exact o3
        · rw [World.cell?_setCell_other _ _ _ _ (fun e => by simp only [Addr.mk.injEq] at e; omega)]; exact eb
      go_wp2_with fail
      go_region_held3 (fun w' => w'.cell? ⟨w.heap.size, 0, none⟩ = some (.int .i64 l.start) ∧ w'.cell? ⟨OB, 3, none⟩ = some (.slice (some ⟨g9, 0, none⟩) (l.segs.length - r) c3') ∧ w'.cell? ⟨g9, 0, none⟩ = some (.int .i64 nb)) (first | exact KSo.out _ | exact ⟨c0, o3, eb⟩ | go_keep)
        (fail)
      obtain ⟨st, hst⟩ : ∃ st, (if l.start < nb then nb else l.start) = st := ⟨_, rfl⟩
      rw [hst]
      have NST : Hid (newStart l r = st) := by show _ = _; rw [NS.out, ← hst]; split <;> omega
      obtain ⟨wz, hwz⟩ : ∃ wz, (wx.setCell ⟨OB, 0, none⟩ (.int .i64 st)).drew = wz := ⟨_, rfl⟩
      rw [hwz]
      have WO : Hid (wz.heap[OB]? = some (.cells (logArr ⟨st, l.next, l.roll, []⟩ (.slice (some ⟨g9, 0, none⟩) (l.segs.length - r) c3')) 28 (0, 0))) := by rw [← hwz]; exact heap_setCell_same wx OB 0 _ _ (.int .i64 st) DD.out.out
      have WZ : Hid (wz.heap[w.heap.size + 1]? = wx.heap[w.heap.size + 1]?) := by rw [← hwz]; exact heap_setCell_other _ _ _ _ (by show w.heap.size + 1 ≠ OB; omega)
      have BZ : Hid (Below w.heap.size w wz) := by rw [← hwz]; exact (B3.out.setCell (p := ⟨OB, 0, none⟩) (by show w.heap.size ≤ OB; omega) _).drew
      have SZ9 : Hid (wx.heap.size = wz.heap.size) := by show _ = _; rw [← hwz]; exact (World.size_setCell _ _ _).symm
      have OZ : Hid (∀ q, q ≠ OB → wz.heap[q]? = wx.heap[q]?) := fun q hq => by rw [← hwz]; exact heap_setCell_other _ _ _ _ hq
      have NQ := Seg.hid (NOM.out wz st NST.out WZ.out BZ.out SZ9.out OZ.out)
      have Z9 := Seg.hid (WZ.out.trans Z2.out)
      clear NOM KSo hst hwz c0 c1 c2 c3 o0 o1 o2 o3 n0 n1 n2 n3 f0 f1 f2 f3 eb z0
      obtain ⟨o0, o1, o2, o3⟩ := four WO.out
      obtain ⟨n0, n1, n2, n3⟩ := four Z9.out
      have f0 := frozen_of_row wz (w.heap.size + 1) 0 _ _ Z9.out
      have f1 := frozen_of_row wz (w.heap.size + 1) 1 _ _ Z9.out
      have f2 := frozen_of_row wz (w.heap.size + 1) 2 _ _ Z9.out
      have f3 := frozen_of_row wz (w.heap.size + 1) 3 _ _ Z9.out
      go_wp2_with fail
      exact bodyPost_ret (v := .tuple #[logVal ⟨st, l.next, l.roll, []⟩ (.slice (some ⟨g9, 0, none⟩) (l.segs.length - r) c3'), .bool true]) (results_row_tmp rfl _ _ (w.heap.size + 1) _ (logArr ⟨st, l.next, l.roll, []⟩ (.slice (some ⟨g9, 0, none⟩) (l.segs.length - r) c3')) _ _ _ rfl rfl NQ.out.1 Try.underlying28 rfl infoN) rfl NQ.out.2
  clear aK
  by_cases hr00 : r = 0
  · subst hr00
    rw [show (((0 : Nat) : Int)) = (0 : Int) from rfl, Nat.sub_zero, List.drop_zero] at J
    have CALL2 : Hid (∀ wx, Below w2.heap.size w2 wx → Calls Try.prog 18 #[.slice A l.segs.length c] wx fun e w' => ∃ sv, e = .returned sv ∧ LGrow 41 2 ES w' wx.heap.size sv l.segs ∧ Below wx.heap.size wx w') := fun wx bx => copySegments_any _ l.segs wx lo b (Nat.le_trans hb (Nat.le_trans B2.out.size bx.size)) (by omega) HF.out.1.2 (HS.out.below ((chain B2.out bx).mono hb))
    clear CALL SD
    go_region_held3 (fun w' => w'.cell? ⟨w.heap.size, 0, none⟩ = some (.int .i64 l.start) ∧ w'.cell? ⟨w.heap.size, 1, none⟩ = some (.int .i64 l.next) ∧ w'.cell? ⟨w.heap.size, 2, none⟩ = some (.int .i64 l.roll) ∧ w'.cell? ⟨w.heap.size, 3, none⟩ = some (.slice A l.segs.length c)) (first | go_keep | exact KSc.out | exact KSd.out | exact KSf.out _ | exact KSe.out _ _ _ _ | exact KS.out _ rfl)
      (first | (go_at_call 18; refine (CALL2.out w2.drew (Below.refl _ _).drew).mono ?_; rintro e wc ⟨sv, rfl, hG, bc⟩; obtain ⟨A3, c3', hA3⟩ := LGrow.form hG; subst hA3; have HGc := Seg.hid hG; have Bc : Hid (Below w2.heap.size w2 wc) := ⟨bc.os, bc.tape, bc.output, bc.size, bc.block⟩; have KSc := Seg.hid (KS.out wc (Bc.out.block w.heap.size hw2)); have hwc : w.heap.size < wc.heap.size := Nat.lt_of_lt_of_le hw2 Bc.out.size; have KSf : Hid (∀ o9 : Obj, (wc.alloc o9).cell? ⟨w.heap.size, 0, none⟩ = some (.int .i64 l.start) ∧ (wc.alloc o9).cell? ⟨w.heap.size, 1, none⟩ = some (.int .i64 l.next) ∧ (wc.alloc o9).cell? ⟨w.heap.size, 2, none⟩ = some (.int .i64 l.roll) ∧ (wc.alloc o9).cell? ⟨w.heap.size, 3, none⟩ = some (.slice A l.segs.length c)) := fun o9 => KS.out _ ((heap_alloc_old _ _ hwc).trans (Bc.out.block w.heap.size hw2)); clear hG bc) | (go_at_call 18; refine (CALL2.out (w2.drew.alloc _) ((below1 w2 _).drew)).mono ?_; rintro e wc ⟨sv, rfl, hG, bc⟩; obtain ⟨A3, c3', hA3⟩ := LGrow.form hG; subst hA3; rw [hsz] at hG bc; have HGd := Seg.hid hG; have Bd : Hid (Below (w2.heap.size + 1) (w2.alloc (.cells #[.int .i64 0, .int .i64 0, .int .i64 0, .slice none 0 0] 28 (0, 0))) wc) := ⟨bc.os, bc.tape, bc.output, bc.size, bc.block⟩; have V : Hid (wc.heap[w2.heap.size]? = some (.cells (logArr ⟨0, 0, 0, []⟩ (.slice none 0 0)) 28 (0, 0))) := (Bd.out.block w2.heap.size (by omega)).trans (heap_alloc_new _ _); obtain ⟨k0, k1, k2, k3⟩ := four V.out; have y0 := frozen_of_row wc w2.heap.size 0 _ _ V.out; have y1 := frozen_of_row wc w2.heap.size 1 _ _ V.out; have y2 := frozen_of_row wc w2.heap.size 2 _ _ V.out; have y3 := frozen_of_row wc w2.heap.size 3 _ _ V.out; have KSd := Seg.hid (KS.out wc ((Bd.out.block w.heap.size (by omega)).trans (heap_alloc_old _ _ hw2))); have KSe : Hid (∀ z0 z1 z2 z3 : Value, ((((wc.setCell ⟨w2.heap.size, 0, none⟩ z0).setCell ⟨w2.heap.size, 1, none⟩ z1).setCell ⟨w2.heap.size, 2, none⟩ z2).setCell ⟨w2.heap.size, 3, none⟩ z3).cell? ⟨w.heap.size, 0, none⟩ = some (.int .i64 l.start) ∧ ((((wc.setCell ⟨w2.heap.size, 0, none⟩ z0).setCell ⟨w2.heap.size, 1, none⟩ z1).setCell ⟨w2.heap.size, 2, none⟩ z2).setCell ⟨w2.heap.size, 3, none⟩ z3).cell? ⟨w.heap.size, 1, none⟩ = some (.int .i64 l.next) ∧ ((((wc.setCell ⟨w2.heap.size, 0, none⟩ z0).setCell ⟨w2.heap.size, 1, none⟩ z1).setCell ⟨w2.heap.size, 2, none⟩ z2).setCell ⟨w2.heap.size, 3, none⟩ z3).cell? ⟨w.heap.size, 2, none⟩ = some (.int .i64 l.roll) ∧ ((((wc.setCell ⟨w2.heap.size, 0, none⟩ z0).setCell ⟨w2.heap.size, 1, none⟩ z1).setCell ⟨w2.heap.size, 2, none⟩ z2).setCell ⟨w2.heap.size, 3, none⟩ z3).cell? ⟨w.heap.size, 3, none⟩ = some (.slice A l.segs.length c)) := fun z0 z1 z2 z3 => KS.out _ (setc4 hw2 ((Bd.out.block w.heap.size (by omega)).trans (heap_alloc_old _ _ hw2))); clear hG bc))
    · show K _ _
      refine J wc.heap.size _ A3 c3' _ _ _ _ _ _ _ _ _ _ _ _ ?_
      exact CL.after (l := ⟨l.start, l.next, l.roll, []⟩) HGc.out Bc.out
    · show K _ _
      refine J w2.heap.size _ A3 c3' _ _ _ _ _ _ _ _ _ _ _ _ ?_
      have hs3 : w2.heap.size + 1 ≤ wc.heap.size := by have := Bd.out.size; rw [hsz] at this; exact this
      exact CL.ahead (l := ⟨l.start, l.next, l.roll, []⟩) (.cells #[.int .i64 0, .int .i64 0, .int .i64 0, .slice none 0 0] 28 (0, 0)) HGd.out Bd.out hs3 (Cells.whole (vs := logArr ⟨l.start, l.next, l.roll, []⟩ (.slice A3 l.segs.length c3')) V.out rfl)
  · have hn0 : ¬ l.segs.length = 0 := by omega
    have hcr : ¬ c = r := by omega
    obtain ⟨g, o, hA⟩ : ∃ g o, A = some ⟨g, o, none⟩ := by
      obtain ⟨_, ⟨_, A', c', hsl, hrow⟩, _⟩ := HS.out
      simp only [Value.slice.injEq] at hsl
      obtain ⟨rfl, _, rfl⟩ := hsl
      obtain ⟨g, o, h, _⟩ := hrow.resolve_left hn0
      exact ⟨g, o, h⟩
    subst hA
    have CALL2 : Hid (∀ wx, Below w2.heap.size w2 wx → Calls Try.prog 18 #[.slice (some ⟨g, o + r * 2, none⟩) (l.segs.length - r) (c - r)] wx fun e w' => ∃ sv, e = .returned sv ∧ LGrow 41 2 ES w' wx.heap.size sv (l.segs.drop r) ∧ Below wx.heap.size wx w') := fun wx bx => by
      have := CALL.out wx bx
      rw [if_neg hcr, Option.map_some, addOff] at this
      exact this
    clear CALL SD
    go_region_held3 (fun w' => w'.cell? ⟨w.heap.size, 0, none⟩ = some (.int .i64 l.start) ∧ w'.cell? ⟨w.heap.size, 1, none⟩ = some (.int .i64 l.next) ∧ w'.cell? ⟨w.heap.size, 2, none⟩ = some (.int .i64 l.roll) ∧ w'.cell? ⟨w.heap.size, 3, none⟩ = some (.slice (some ⟨g, o, none⟩) l.segs.length c)) (first | go_keep | exact KSc.out | exact KSd.out | exact KSf.out _ | exact KSe.out _ _ _ _ | exact KS.out _ rfl)
      (first | (go_at_call 18; refine (CALL2.out w2.drew (Below.refl _ _).drew).mono ?_; rintro e wc ⟨sv, rfl, hG, bc⟩; obtain ⟨A3, c3', hA3⟩ := LGrow.form hG; rw [hul] at hA3; subst hA3; have HGc := Seg.hid hG; have Bc : Hid (Below w2.heap.size w2 wc) := ⟨bc.os, bc.tape, bc.output, bc.size, bc.block⟩; have KSc := Seg.hid (KS.out wc (Bc.out.block w.heap.size hw2)); have hwc : w.heap.size < wc.heap.size := Nat.lt_of_lt_of_le hw2 Bc.out.size; have KSf : Hid (∀ o9 : Obj, (wc.alloc o9).cell? ⟨w.heap.size, 0, none⟩ = some (.int .i64 l.start) ∧ (wc.alloc o9).cell? ⟨w.heap.size, 1, none⟩ = some (.int .i64 l.next) ∧ (wc.alloc o9).cell? ⟨w.heap.size, 2, none⟩ = some (.int .i64 l.roll) ∧ (wc.alloc o9).cell? ⟨w.heap.size, 3, none⟩ = some (.slice (some ⟨g, o, none⟩) l.segs.length c)) := fun o9 => KS.out _ ((heap_alloc_old _ _ hwc).trans (Bc.out.block w.heap.size hw2)); clear hG bc) | (go_at_call 18; refine (CALL2.out (w2.drew.alloc _) ((below1 w2 _).drew)).mono ?_; rintro e wc ⟨sv, rfl, hG, bc⟩; obtain ⟨A3, c3', hA3⟩ := LGrow.form hG; rw [hul] at hA3; subst hA3; rw [hsz] at hG bc; have HGd := Seg.hid hG; have Bd : Hid (Below (w2.heap.size + 1) (w2.alloc (.cells #[.int .i64 0, .int .i64 0, .int .i64 0, .slice none 0 0] 28 (0, 0))) wc) := ⟨bc.os, bc.tape, bc.output, bc.size, bc.block⟩; have V : Hid (wc.heap[w2.heap.size]? = some (.cells (logArr ⟨0, 0, 0, []⟩ (.slice none 0 0)) 28 (0, 0))) := (Bd.out.block w2.heap.size (by omega)).trans (heap_alloc_new _ _); obtain ⟨k0, k1, k2, k3⟩ := four V.out; have y0 := frozen_of_row wc w2.heap.size 0 _ _ V.out; have y1 := frozen_of_row wc w2.heap.size 1 _ _ V.out; have y2 := frozen_of_row wc w2.heap.size 2 _ _ V.out; have y3 := frozen_of_row wc w2.heap.size 3 _ _ V.out; have KSd := Seg.hid (KS.out wc ((Bd.out.block w.heap.size (by omega)).trans (heap_alloc_old _ _ hw2))); have KSe : Hid (∀ z0 z1 z2 z3 : Value, ((((wc.setCell ⟨w2.heap.size, 0, none⟩ z0).setCell ⟨w2.heap.size, 1, none⟩ z1).setCell ⟨w2.heap.size, 2, none⟩ z2).setCell ⟨w2.heap.size, 3, none⟩ z3).cell? ⟨w.heap.size, 0, none⟩ = some (.int .i64 l.start) ∧ ((((wc.setCell ⟨w2.heap.size, 0, none⟩ z0).setCell ⟨w2.heap.size, 1, none⟩ z1).setCell ⟨w2.heap.size, 2, none⟩ z2).setCell ⟨w2.heap.size, 3, none⟩ z3).cell? ⟨w.heap.size, 1, none⟩ = some (.int .i64 l.next) ∧ ((((wc.setCell ⟨w2.heap.size, 0, none⟩ z0).setCell ⟨w2.heap.size, 1, none⟩ z1).setCell ⟨w2.heap.size, 2, none⟩ z2).setCell ⟨w2.heap.size, 3, none⟩ z3).cell? ⟨w.heap.size, 2, none⟩ = some (.int .i64 l.roll) ∧ ((((wc.setCell ⟨w2.heap.size, 0, none⟩ z0).setCell ⟨w2.heap.size, 1, none⟩ z1).setCell ⟨w2.heap.size, 2, none⟩ z2).setCell ⟨w2.heap.size, 3, none⟩ z3).cell? ⟨w.heap.size, 3, none⟩ = some (.slice (some ⟨g, o, none⟩) l.segs.length c)) := fun z0 z1 z2 z3 => KS.out _ (setc4 hw2 ((Bd.out.block w.heap.size (by omega)).trans (heap_alloc_old _ _ hw2))); clear hG bc))
    · show K _ _
      refine J wc.heap.size _ A3 c3' _ _ _ _ _ _ _ _ _ _ _ _ ?_
      exact CL.after (l := ⟨l.start, l.next, l.roll, []⟩) HGc.out Bc.out
    · show K _ _
      refine J w2.heap.size _ A3 c3' _ _ _ _ _ _ _ _ _ _ _ _ ?_
      have hs3 : w2.heap.size + 1 ≤ wc.heap.size := by have := Bd.out.size; rw [hsz] at this; exact this
      exact CL.ahead (l := ⟨l.start, l.next, l.roll, []⟩) (.cells #[.int .i64 0, .int .i64 0, .int .i64 0, .slice none 0 0] 28 (0, 0)) HGd.out Bd.out hs3 (Cells.whole (vs := logArr ⟨l.start, l.next, l.roll, []⟩ (.slice A3 (l.segs.length - r) c3')) V.out rfl)
theorem retain_any (v : Value) (l : Lg) (y x : Int) (w : World) (lo b : Nat) (hv : LogAt w lo b v l) (hb : b ≤ w.heap.size) (hf : FewL l) :
    Calls Try.prog 7 #[v, .int .i64 y, .int .i64 x] w fun e w' => ∃ sv, e = .returned (.tuple #[logVal (retain l y x).1 sv, .bool (retain l y x).2]) ∧ OwnS w' (seg w.heap.size w'.heap.size) sv (retain l y x).1.segs ∧ Below w.heap.size w w' := by
  obtain ⟨sv, rfl, hs⟩ := hv
  obtain ⟨_, ⟨_, A, c, rfl, _⟩, _⟩ := id hs
  exact retain_core l y x A c w lo b hb hf hs
end Go.Proofs.Ytdcbgkcnidbakaa.Ft
namespace Go.Proofs.Ytdcbgkcnidbakaa.Ft
set_option maxRecDepth 8000
open Go.RowKit
open Recs
set_option linter.unusedVariables false
section
variable {T : Type} [Inhabited T] {ty nf : Nat} {EO : World → (Nat → Prop) → (Nat → Value) → T → Prop}
/-- Blocks w.heap.size .. are the call's variables, m of them; q: the one with the list, in its cell p; 'fr': what the others hold. -/
structure GV (ty nf : Nat) (EO : World → (Nat → Prop) → (Nat → Value) → T → Prop) (w wr : World) (m q tyO : Nat) (row : Value → Array Value) (fr : Nat → Option Obj) (v : Value) (us : List T) : Prop where
  grow : LGrow ty nf EO wr (w.heap.size + m) v us
  out : wr.heap[q]? = some (.cells (row v) tyO (0, 0))
  front : ∀ x, w.heap.size ≤ x → x < w.heap.size + m → x ≠ q → wr.heap[x]? = fr x
  bel : Below w.heap.size w wr
  size : w.heap.size + m ≤ wr.heap.size
/-- Later, where no variable was written. -/
theorem GV.later (hE : Keeps nf EO) {w wr w' : World} {m q tyO : Nat} {row : Value → Array Value} {fr : Nat → Option Obj} {v : Value} {us : List T} (h : GV ty nf EO w wr m q tyO row fr v us) (hq : q < w.heap.size + m) (b : Below wr.heap.size wr w') : GV ty nf EO w w' m q tyO row fr v us := by
  have hs := h.size
  exact ⟨h.grow.below hE b, (b.block q (by omega)).trans h.out, fun x h1 h2 h3 => (b.block x (by omega)).trans (h.front x h1 h2 h3), chain h.bel b, Nat.le_trans hs b.size⟩
/-- One element more: w8: ahead of the element's own block o; w9: behind append. -/
theorem GV.push (hE : Keeps nf EO) {w wr w8 w9 : World} {m q p tyO : Nat} {row : Value → Array Value} {fr : Nat → Option Obj} {v : Value} {us : List T} {F : Nat → Value} {P : Nat → Nat → Prop} {t : T} {Q : Nat → Prop} {news : List Value} {o : Obj} {g cap : Nat} (h : GV ty nf EO w wr m q tyO row fr v us) (hq1 : w.heap.size ≤ q) (hq2 : q < w.heap.size + m)
    (hcell : (row v)[p]? = some v) (hrow : ∀ v', (row v).setIfInBounds p v' = row v') (hG : LGr ty nf EO wr (w.heap.size + m) v us F P) (b8 : Below wr.heap.size wr w8) (he : EO (w8.alloc o) Q (fun q => news.getD q default) t) (hQ : ∀ x, Q x → wr.heap.size ≤ x ∧ x < w8.heap.size) (hl : news.length = nf)
    (hown : w9.ownsRow (w.heap.size + m) ty nf (.slice (some ⟨g, 0, none⟩) (us.length + 1) cap) (us.length + 1) ((List.range (us.length * nf)).map F ++ news)) (gr : (w8.alloc o).grownBy w9 v.ownBlock) (hg : v.ownBlock = some g ∨ g = w8.heap.size + 1) :
    GV ty nf EO w (w9.setCell ⟨q, p, none⟩ (.slice (some ⟨g, 0, none⟩) (us.length + 1) cap)) m q tyO row fr (.slice (some ⟨g, 0, none⟩) (us.length + 1) cap) (us ++ [t]) ∧ w9.cell? ⟨q, p, none⟩ = some v ∧ w9.frozen? ⟨q, p, none⟩ = false := by
  have s8 := b8.size
  have hz := h.size
  have gs := gr.size
  rw [hsz] at gs
  have hvb : ∀ x, v.ownBlock = some x → w.heap.size + m ≤ x ∧ x < wr.heap.size := fun x hx => World.ownsRow.lt hG.own x hx
  have k9 : ∀ x, x < w.heap.size + m → w9.heap[x]? = wr.heap[x]? := fun x hx => by
    rw [gr.block x (by rw [hsz]; omega) (fun e => by have := hvb x e.symm; omega), heap_alloc_old _ _ (by omega), b8.block x (by omega)]
  have O9 := (k9 q hq2).trans h.out
  have D9 := LGr.push hE (w2 := w8.alloc o) (w3 := w9) (g := g) (cap := cap) (Q := Q) (t := t) (news := news) hG h.size (by rw [hsz]; omega) (fun x _ hx => by rw [heap_alloc_old _ _ (by omega), b8.block x hx]) he (fun x hx => by rw [hsz]; obtain ⟨x1, x2⟩ := hQ x hx; exact ⟨x1, by omega⟩) hl hown gr (by rw [hsz]; exact hg)
  have B9 : Below w.heap.size w w9 := ⟨gr.os.trans (b8.os.trans h.bel.os), gr.tape.trans (b8.tape.trans h.bel.tape), gr.output.trans (b8.output.trans h.bel.output), by omega, fun x hx => (k9 x (by omega)).trans (h.bel.block x hx)⟩
  refine ⟨⟨D9.keep hE (by simp) (fun x hx _ => heap_setCell_other _ _ _ _ (by show x ≠ q; omega)), ?_, fun x h1 h2 h3 => (heap_setCell_other _ _ _ _ (by show x ≠ q; exact h3)).trans ((k9 x h2).trans (h.front x h1 h2 h3)), B9.setCell (p := ⟨q, p, none⟩) hq1 _, by simp; omega⟩, ?_, ?_⟩
  · rw [← hrow]
    exact heap_setCell_same w9 q p _ _ _ O9
  · rw [cell_of_row w9 q p _ _ (0, 0) O9]
    exact hcell
  · exact frozen_of_row w9 q p _ _ O9
end
end Go.Proofs.Ytdcbgkcnidbakaa.Ft
