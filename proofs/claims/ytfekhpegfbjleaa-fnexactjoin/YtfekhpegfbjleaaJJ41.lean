/- The model's Join. -/
import Derived.Deep.RegionLaw
import Derived.Deep.RegionHeld3
import Derived.BigQuiet
import Derived.Test.YtfekhpegfbjleaaJJ31
import Derived.Test.YtfekhpegfbjleaaJJ33
import Derived.Test.YtfekhpegfbjleaaJJ38
import Derived.Test.YtfekhpegfbjleaaJJ40
namespace Go.Proofs.Ytfekhpegfbjleaa.Ft
set_option maxRecDepth 8000
open Go.RowKit
open Recs
open Bats SegW Segs LogW JoP Zs BfP
open LgP (logOk inR)
set_option linter.unusedVariables false
set_option maxHeartbeats 64000000 in
theorem joinS_core (l : Lg) (A : Option Addr) (c : Nat) (w : World) (lo b : Nat) (hb : b ≤ w.heap.size) (hf : FewL l) (hw : ∀ i, i < l.segs.length → -9223372036854775808 ≤ (l.segs.getD i default).base ∧ (l.segs.getD i default).base ≤ 9223372036854775807) (hs : SegsAt w lo b (.slice A l.segs.length c) l.segs) :
    Calls Try.prog 5 #[logVal l (.slice A l.segs.length c)] w fun e w' => ∃ sv, e = .returned (logVal (join l) sv) ∧ SegsAt w' w.heap.size w'.heap.size sv (join l).segs ∧ Below w.heap.size w w' := by
  obtain ⟨i0, hi, hz0, hz1, hz2⟩ := info_parts infoSgG
  obtain ⟨i1, hi1, hy0, hy1, hy2⟩ := info_parts infoB
  have HS := Seg.hid hs
  have HV : Hid (LogAt w lo b (logVal l (.slice A l.segs.length c)) l) := ⟨_, rfl, hs⟩
  have HF := Seg.hid hf; have HWW := Seg.hid hw
  clear hs hf hw
  unfold logVal at HV ⊢
  go_enter Try.func5, Try.ntmps5
  go_wp2_with fail
  refine (LgS.spec_any _ l ((w.alloc _).alloc _) lo b (HV.out.below ((below2 w _ _).mono hb)) (by rw [hsz, hsz]; omega) HF.out HWW.out).mono ?_
  rintro e w1 ⟨rfl, b1⟩
  have B1 := Seg.hid (chain (below2 w _ _) b1)
  have T1 : Hid (w1.heap[w.heap.size]? = some (.cells (logArr l (.slice A l.segs.length c)) 28 (0, 0))) := (b1.block w.heap.size (by rw [hsz, hsz]; omega)).trans (at1 w _ _)
  have T2 : Hid (w1.heap[w.heap.size + 1]? = some (.cells (logArr ⟨0, 0, 0, []⟩ (.slice none 0 0)) 28 (0, 0))) := (b1.block (w.heap.size + 1) (by rw [hsz, hsz]; omega)).trans (at2 w _ _)
  have s1 := b1.size
  rw [hsz, hsz] at s1
  clear b1
  cases hok : logOk l with
  | false =>
    have HC : Hid (join l = ⟨0, 0, 0, []⟩) := by show _ = _; simp [join, hok]
    have H5 := Seg.hid (Cells.there_of T2.out)
    have H4 := Seg.hid (Cells.whole (vs := logArr ⟨0, 0, 0, []⟩ (.slice none 0 0)) T2.out rfl)
    have B2 := Seg.hid (Cells.below_setCells (g := w.heap.size + 1) (by omega) (logArr ⟨0, 0, 0, []⟩ (.slice none 0 0)).toList 0 _ _ B1.out)
    clear hok
    go_wp2_with (first | (refine wpList_store_mid rfl 28 _ _ rfl (w.heap.size + 1) 0 (logArr ⟨0, 0, 0, []⟩ (.slice none 0 0)) rfl rfl H5.out infoN (logArr_one _ _ rfl) ?_))
    exact bodyPost_ret (v := logVal ⟨0, 0, 0, []⟩ (.slice none 0 0)) (results_cell_row rfl _ _ (w.heap.size + 1) _ _ _ _ rfl H4.out Try.underlying28 rfl infoN) rfl ⟨.slice none 0 0, by rw [HC.out]; rfl, by rw [HC.out]; exact segs_nil, B2.out⟩
  | true =>
  have HC : Hid (join l = ⟨l.start, l.next, l.roll, joinS l.roll l.segs⟩) := by show _ = _; simp [join, hok]
  obtain ⟨f, k1, k2, k3, k4, k5, k6⟩ := ok_parts hok
  have SO := Seg.hid (okAllS k1)
  have FC := Seg.hid (ok_many hok)
  clear hok k1
  obtain ⟨c0, c1, c2, c3⟩ := four T1.out
  have hw1 : w.heap.size < w1.heap.size := by omega
  go_wp2_with fail
  refine (l3Copy_grow _ l w1 lo b (HV.out.below (B1.out.mono hb)) (by omega) HF.out).mono ?_
  rintro e w2 ⟨sv, rfl, hG, b2, s2⟩
  obtain ⟨F0, P0, hG0⟩ := hG
  obtain ⟨A0, c0', hA0⟩ := LGr.form hG0
  subst hA0
  unfold logVal
  have B2 : Hid (Below w.heap.size w w2) := chain B1.out b2
  have T12 := Seg.hid ((b2.block w.heap.size (by omega)).trans T1.out)
  have T22 := Seg.hid ((b2.block (w.heap.size + 1) (by omega)).trans T2.out)
  clear c0 c1 c2 c3 b2
  obtain ⟨c0, c1, c2, c3⟩ := four T12.out
  go_wp2_with fail
  have s3 : ((w2.alloc (.cells #[.int .i64 l.start, .int .i64 l.next, .int .i64 l.roll, .slice A0 l.segs.length c0'] 28 (0, 0))).alloc (.cells #[.int .i64 l.start, .int .i64 l.next, .int .i64 l.roll, .slice (some ⟨w2.heap.size + 1 + 1, 0, none⟩) 0 0] 28 (0, 0))).heap.size = w2.heap.size + 1 + 1 := by rw [hsz, hsz]
  have OUTb : Hid (((w2.alloc (.cells #[.int .i64 l.start, .int .i64 l.next, .int .i64 l.roll, .slice A0 l.segs.length c0'] 28 (0, 0))).alloc (.cells #[.int .i64 l.start, .int .i64 l.next, .int .i64 l.roll, .slice (some ⟨w2.heap.size + 1 + 1, 0, none⟩) 0 0] 28 (0, 0))).heap[w2.heap.size + 1]? = some (.cells (logArr ⟨l.start, l.next, l.roll, []⟩ (.slice (some ⟨w2.heap.size + 1 + 1, 0, none⟩) 0 0)) 28 (0, 0))) := by
    have := heap_alloc_new (w2.alloc (.cells #[.int .i64 l.start, .int .i64 l.next, .int .i64 l.roll, .slice A0 l.segs.length c0'] 28 (0, 0))) (.cells #[.int .i64 l.start, .int .i64 l.next, .int .i64 l.roll, .slice (some ⟨w2.heap.size + 1 + 1, 0, none⟩) 0 0] 28 (0, 0))
    rw [hsz] at this
    exact this
  have INb : Hid (((w2.alloc (.cells #[.int .i64 l.start, .int .i64 l.next, .int .i64 l.roll, .slice A0 l.segs.length c0'] 28 (0, 0))).alloc (.cells #[.int .i64 l.start, .int .i64 l.next, .int .i64 l.roll, .slice (some ⟨w2.heap.size + 1 + 1, 0, none⟩) 0 0] 28 (0, 0))).heap[w2.heap.size]? = some (.cells (logArr l (.slice A0 l.segs.length c0')) 28 (0, 0))) := ((below1 _ _).block _ (by rw [hsz]; omega)).trans (heap_alloc_new _ _)
  have Bb : Hid (Below w2.heap.size w2 ((w2.alloc (.cells #[.int .i64 l.start, .int .i64 l.next, .int .i64 l.roll, .slice A0 l.segs.length c0'] 28 (0, 0))).alloc (.cells #[.int .i64 l.start, .int .i64 l.next, .int .i64 l.roll, .slice (some ⟨w2.heap.size + 1 + 1, 0, none⟩) 0 0] 28 (0, 0)))) := below2 w2 _ _
  generalize ((w2.alloc (.cells #[.int .i64 l.start, .int .i64 l.next, .int .i64 l.roll, .slice A0 l.segs.length c0'] 28 (0, 0))).alloc (.cells #[.int .i64 l.start, .int .i64 l.next, .int .i64 l.roll, .slice (some ⟨w2.heap.size + 1 + 1, 0, none⟩) 0 0] 28 (0, 0))) = wb at *
  have GR0 : Hid (LGr 39 2 EG wb (w1.heap.size + 3) (.slice A0 l.segs.length c0') l.segs F0 P0) := hG0.keepV keepsG Bb.out.size (fun g hg => Bb.out.block g (World.ownsRow.lt hG0.own g hg).2) (fun i hi x hx => Bb.out.block x (hG0.apart i hi x hx).2.1)
  have PLO : Hid (∀ i, i < l.segs.length → ∀ x, P0 i x → w1.heap.size + 3 ≤ x ∧ x < w2.heap.size) := fun i hi x hx => ⟨(hG0.apart i hi x hx).1, (hG0.apart i hi x hx).2.1⟩
  have ROW : Hid (∀ x, (Value.slice A0 l.segs.length c0').ownBlock = some x → x < w2.heap.size) := fun x hx => (World.ownsRow.lt hG0.own x hx).2
  have JS0 : Hid (JS wb (w2.heap.size + 1) l.segs (.slice A0 l.segs.length c0') F0 P0) := ⟨GR0.out.base (Nat.zero_le _), by omega, fun e => by have := ROW.out _ e; omega, fun i hi hp => by have := PLO.out i hi _ hp; omega⟩
  have JV0 : Hid (JV wb (wb.alloc (.cells #[] 39 (0, 0))) (w2.heap.size + 1) ⟨l.start, l.next, l.roll, []⟩ l.segs P0 0 (.slice (some ⟨w2.heap.size + 1 + 1, 0, none⟩) 0 0) [] (fun _ => default) (fun _ _ => False)) := by
    have ba := below1 wb (.cells #[] 39 (0, 0))
    have hl := World.ownsRow_lit (base := 0) (e := 39) (size := 2) wb #[] 0 (Nat.zero_le _) (Nat.zero_le _) rfl
    rw [s3] at hl
    exact ⟨(ba.block _ (by omega)).trans OUTb.out, ⟨hl, fun i hi => absurd hi (by simp), fun i hi => absurd hi (by simp), fun i j hi => absurd hi (by simp)⟩, fun x hx => by simp only [Value.ownBlock, Option.some.injEq] at hx; omega, fun j hj => absurd hj (by simp), fun x hx _ _ => ba.block x hx, ⟨rfl, rfl, rfl⟩, ba.size⟩
  have B3 : Hid (Below w.heap.size w wb) := chain B2.out Bb.out
  have PAR : Hid (∀ (wr : World) (k : Nat) (v : Value) (us : List Sg) (F : Nat → Value) (P : Nat → Nat → Prop), k ≤ l.segs.length → JV wb wr (w2.heap.size + 1) ⟨l.start, l.next, l.roll, []⟩ l.segs P0 k v us F P → ∀ x, (x < w1.heap.size ∨ x = w2.heap.size) → wr.heap[x]? = wb.heap[x]?) := fun wr k v us F P hk h x hx => h.keep x (by omega) (by omega) (fun i hi hp => by have := PLO.out i (by omega) x hp; omega)
  have T13 := Seg.hid ((Bb.out.block w.heap.size (by omega)).trans T12.out)
  have T23 := Seg.hid ((Bb.out.block (w.heap.size + 1) (by omega)).trans T22.out)
  have s3' : w2.heap.size + 1 < wb.heap.size := by omega
  clear c0 c1 c2 c3 hG0 OUTb s3 T1 T2 T12 T22 B1
  go_loopw [5] (fun i wr => ∃ (k : Nat) (us : List Sg) (A1 : Option Addr) (c1 : Nat), k ≤ l.segs.length ∧ i = .int .i64 k ∧ Hid (us = joinS l.roll (l.segs.take k) ∧ ∃ F P, JV wb wr (w2.heap.size + 1) ⟨l.start, l.next, l.roll, []⟩ l.segs P0 k (.slice A1 us.length c1) us F P)) (fun i _ => l.segs.length - (intOf i).toNat)
  case atStart => exact ⟨0, [], some ⟨w2.heap.size + 1 + 1, 0, none⟩, 0, Nat.zero_le _, rfl, by simp [joinS], _, _, JV0.out⟩
  case round =>
    clear JV0
    obtain ⟨k, us, A1, c1, hk, rfl, HW⟩ := hrel
    obtain ⟨F, P, hJ⟩ := HW.out.2
    have US := Seg.hid HW.out.1
    have JJ := Seg.hid hJ
    have hz := hJ.size
    have LEN := joinS_len (roll := l.roll) l.segs k hk
    rw [← US.out] at LEN
    have ul : us.length ≤ 60 := by omega
    have r2 : wr.cell? ⟨w.heap.size, 2, none⟩ = some (.int .i64 l.roll) := (four ((PAR.out wr k _ us F P hk hJ w.heap.size (by omega)).trans T13.out)).2.2.1
    have i3 : wr.cell? ⟨w2.heap.size, 3, none⟩ = some (.slice A0 l.segs.length c0') := (four ((PAR.out wr k _ us F P hk hJ w2.heap.size (by omega)).trans INb.out)).2.2.2
    have o3 : wr.cell? ⟨w2.heap.size + 1, 3, none⟩ = some (.slice A1 us.length c1) := (four hJ.out).2.2.2
    clear HW hJ
    by_cases hlt : k < l.segs.length
    · have h0 : (0 : Int) ≤ (k : Int) := by omega
      have h1 : (k : Int) < (l.segs.length : Int) := by omega
      obtain ⟨g0, e9⟩ : ∃ g0, A0 = some ⟨g0, 0, none⟩ := by
        rcases GR0.out.own.2 with ⟨x1, x2⟩ | ⟨g0, cap, cur, x1, _⟩
        · omega
        · simp only [Value.slice.injEq] at x1
          exact ⟨g0, x1.1⟩
      subst e9
      have EL := JJ.out.elem JS0.out (Nat.le_refl k) hlt
      obtain ⟨A2, c2, hF2⟩ := EL.2.form
      replace hF2 : F0 (k * 2 + 1) = .slice A2 (l.segs.getD k default).bats.length c2 := hF2
      have hF1 : F0 (k * 2) = .int .i64 (l.segs.getD k default).base := EL.1
      have E01 : Hid (∀ wx, Below wr.heap.size wr wx → wx.cell? ⟨g0, k * 2, none⟩ = some (.int .i64 (l.segs.getD k default).base) ∧ wx.cell? ⟨g0, k * 2 + 1, none⟩ = some (.slice A2 (l.segs.getD k default).bats.length c2)) := fun wx bx => by
        have jx := JJ.out.later JS0.out bx
        exact ⟨by rw [← hF1]; exact jx.cell JS0.out hk rfl (by omega), by rw [← hF2]; exact jx.cell JS0.out hk rfl (by omega)⟩
      have gl : g0 < wr.heap.size := by have := ROW.out g0 rfl; omega
      have BT : BatsAt wr 0 wr.heap.size (.slice A2 (l.segs.getD k default).bats.length c2) (l.segs.getD k default).bats := by rw [← hF2]; exact EG.bats EL (fun x hx => by have := (JS0.out.src.apart k hlt x hx).2.1; omega)
      obtain ⟨bd1, bd2, bd3, bd4⟩ := bnd (roll := l.roll) hlt SO.out FC.out
      rw [← US.out] at bd1 bd3 bd4
      have ADD := Seg.hid (join_take (roll := l.roll) hlt)
      rw [← US.out] at ADD
      have SOk := Seg.hid (SO.out k hlt)
      have HF2 := Seg.hid hF2
      have ELH := Seg.hid EL
      clear EL hF1 hF2
      obtain ⟨tk, htk⟩ : ∃ tk, l.segs.getD k default = tk := ⟨_, rfl⟩
      rw [htk] at E01 BT bd2 bd3 ADD SOk HF2 ELH
      have TK := Seg.hid htk
      clear htk
      obtain ⟨m, hm⟩ : ∃ m, sizes tk.bats = m := ⟨_, rfl⟩
      obtain ⟨a, ha⟩ : ∃ a, sizes (lastS us).bats = a := ⟨_, rfl⟩
      rw [hm] at bd2
      rw [ha] at bd1
      have HM := Seg.hid hm; have HA := Seg.hid ha
      clear hm ha
      have SZ2 : Hid (∀ wx, Below wr.heap.size wr wx → Calls Try.prog 14 #[.slice A2 tk.bats.length c2] wx fun e w' => e = .returned (.int .i64 m) ∧ Below wx.heap.size wx w') := fun wx bx => by
        have := l3Sizes_any _ tk.bats wx 0 wr.heap.size bx.size (by omega) SOk.out (BT.below bx)
        rw [HM.out] at this
        exact this
      clear BT
      have NP' : Hid ((us.length = 0 ∨ l.roll < (a : Int) + (m : Int)) → us ++ [tk] = joinS l.roll (l.segs.take (k + 1))) := fun hc => by
        rw [ADD.out, add, if_pos (by rw [HA.out, HM.out]; exact hc)]
      have hobw : w2.heap.size + 1 < wr.heap.size := by omega
      have hibw : w2.heap.size < wr.heap.size := by omega
      have hwww : w.heap.size < wr.heap.size := by omega
      by_cases hk0 : k = 0
      · have NP := Seg.hid (NP'.out (.inl (LEN.2.2 hk0)))
        have g1 : decide (0 < us.length) = false := decide_eq_false (by have := LEN.2.2 hk0; omega)
        clear hk0 LEN
        go_wp2_with fail
        go_quiet (fail)
        obtain ⟨wp, hwp⟩ : ∃ wp, wr.drewN nq = wp := ⟨_, rfl⟩
        have BP : Hid (Below wr.heap.size wr wp) := by rw [← hwp]; exact ⟨rfl, rfl, rfl, Nat.le_refl _, fun _ _ => rfl⟩
        rw [hwp]
        clear hwp
        have JP := Seg.hid (JJ.out.later JS0.out BP.out)
        have zp := BP.out.size
        have J8d := Seg.hid (JP.out.later (w8 := wp.drew) JS0.out ((Below.refl _ _).drew))
        have PSH : Hid (∀ g9 cap9 w9 o9, w9.ownsRow 0 39 2 (.slice (some ⟨g9, 0, none⟩) (us.length + 1) cap9) (us.length + 1) ((List.range (us.length * 2)).map F ++ (segArr tk (.slice A2 tk.bats.length c2)).toList) → (wp.drew.alloc o9).grownBy w9 (Value.slice A1 us.length c1).ownBlock → ((Value.slice A1 us.length c1).ownBlock = some g9 ∨ g9 = wp.drew.heap.size + 1) → (∃ F' P', JV wb (w9.setCell ⟨w2.heap.size + 1, 3, none⟩ (.slice (some ⟨g9, 0, none⟩) (us.length + 1) cap9)) (w2.heap.size + 1) ⟨l.start, l.next, l.roll, []⟩ l.segs P0 (k + 1) (.slice (some ⟨g9, 0, none⟩) (us.length + 1) cap9) (us ++ [tk]) F' P') ∧ w9.cell? ⟨w2.heap.size + 1, 3, none⟩ = some (.slice A1 us.length c1) ∧ w9.frozen? ⟨w2.heap.size + 1, 3, none⟩ = false) := fun g9 cap9 w9 o9 x1 x2 x3 => by
          have O9 : w9.heap[w2.heap.size + 1]? = some (.cells (logArr ⟨l.start, l.next, l.roll, []⟩ (.slice A1 us.length c1)) 28 (0, 0)) := (x2.block (w2.heap.size + 1) (by rw [hsz]; show _ < wp.heap.size + 1; omega) (fun e => by have := J8d.out.row _ e.symm; omega)).trans (((below1 _ _).block _ (by show _ < wp.heap.size; omega)).trans J8d.out.out)
          refine ⟨?_, (four O9).2.2.2, frozen_of_row w9 (w2.heap.size + 1) 3 _ _ O9⟩
          have := JV.push JS0.out J8d.out hlt (Below.refl _ _) HF2.out (by rw [TK.out]; exact x1) x2 x3
          rw [TK.out] at this
          exact this
        have OWN8 : Hid (∀ o9, (wp.drew.alloc o9).ownsRow 0 39 2 (.slice A1 us.length c1) us.length ((List.range (us.length * 2)).map F)) := fun o9 => World.ownsRow.alloc J8d.out.grow.own _
        have i3 : wp.cell? ⟨w2.heap.size, 3, none⟩ = some (.slice (some ⟨g0, 0, none⟩) l.segs.length c0') := (BP.out.cell (p := ⟨w2.heap.size, 3, none⟩) hibw).trans i3
        have o3 : wp.cell? ⟨w2.heap.size + 1, 3, none⟩ = some (.slice A1 us.length c1) := (BP.out.cell (p := ⟨w2.heap.size + 1, 3, none⟩) hobw).trans o3
        obtain ⟨e0, e1⟩ := E01.out wp BP.out
        have hobp : w2.heap.size + 1 < wp.heap.size := by omega
        have hibp : w2.heap.size < wp.heap.size := by omega
        have glp : g0 < wp.heap.size := by omega
        clear JJ PLO HS HV SO HF HWW T13 T23 ELH SOk J8d JP BP E01 JS0 SZ2 ADD
        go_wp2_with fail
        go_region_law
          ((first | (refine step_append_lies _ (by rfl) _ _ _ (by rfl) 0 39 i0 _ 2 32 Try.underlying26 hi hz0 hz1 hz2 rfl (by decide) (.slice A1 us.length c1) us.length ((List.range (us.length * 2)).map F) (by rfl) (OWN8.out _) ⟨wp.heap.size, 0, none⟩ 1 1 (segArr tk (.slice A2 tk.bats.length c2)).toList (by rfl) (by rfl) (World.news_of_block (cs := segArr tk (.slice A2 tk.bats.length c2)) (heap_alloc_new wp.drew _)) (by simp [segArr, Value.oneCell']) (by decide) (by unfold maxLen; omega) (by omega) (Nat.zero_le _) (wp.heap.size + 1) (hsz wp.drew _) ?_; intro g9 cap9 w9 hown9 gr9 hat9 hlt9; have D9 := Seg.hid (PSH.out _ _ _ _ hown9 gr9 hat9); have q6 := D9.out.2.1; have p6 := D9.out.2.2; clear hown9 gr9 hat9 hlt9)))
        all_goals
          clear i3 o3 e0 e1 q6 p6
          go_wp2_with fail
          go_roundw
          case rel => exact ⟨k + 1, us ++ [tk], some ⟨g9, 0, none⟩, cap9, by omega, by go_num, NP.out, by rw [List.length_append]; exact D9.out.1⟩
          case measure => simp [intOf]; omega
      have un : us.length ≠ 0 := fun e => hk0 (LEN.2.1 e)
      obtain ⟨g, e9⟩ : ∃ g, A1 = some ⟨g, 0, none⟩ := by
        rcases JJ.out.grow.own.2 with ⟨x1, x2⟩ | ⟨g, cap, cur, x1, _⟩
        · omega
        · simp only [Value.slice.injEq] at x1
          exact ⟨g, x1.1⟩
      subst e9
      have EJ := JJ.out.grow.el (us.length - 1) (by omega)
      obtain ⟨A3, c3, hF3⟩ := EJ.2.form
      replace hF3 : F ((us.length - 1) * 2 + 1) = .slice A3 (lastS us).bats.length c3 := hF3
      have HF3 := Seg.hid hF3
      have t3 : wr.cell? ⟨g, (us.length - 1) * 2 + 1, none⟩ = some (.slice A3 (lastS us).bats.length c3) := by
        rw [← hF3]
        have := World.ownsRow.cellAt JJ.out.grow.own ((us.length - 1) * 2 + 1) (by omega)
        rw [this, List.getElem?_map, List.getElem?_range (by omega)]
        rfl
      have BT3 : BatsAt wr 0 wr.heap.size (.slice A3 (lastS us).bats.length c3) (lastS us).bats := by rw [← hF3]; exact EG.bats EJ (fun x hx => (JJ.out.grow.apart (us.length - 1) (by omega) x hx).2.1)
      have SZ1 : Hid (∀ wx, Below wr.heap.size wr wx → Calls Try.prog 14 #[.slice A3 (lastS us).bats.length c3] wx fun e w' => e = .returned (.int .i64 a) ∧ Below wx.heap.size wx w') := fun wx bx => by
        have := l3Sizes_any _ (lastS us).bats wx 0 wr.heap.size bx.size (by omega) bd4 (BT3.below bx)
        rw [HA.out] at this
        exact this
      have glw : g < wr.heap.size := (World.ownsRow.lt JJ.out.grow.own g rfl).2
      have NJ : Hid (¬ l.roll < (a : Int) + (m : Int) → us.set (us.length - 1) ⟨(us.getD (us.length - 1) default).base, (lastS us).bats ++ tk.bats⟩ = joinS l.roll (l.segs.take (k + 1))) := fun hr => by
        rw [ADD.out, add, if_neg (by rw [HA.out, HM.out]; intro h; rcases h with h | h; exact un h; exact hr h)]
        rfl
      obtain ⟨bl, hbl⟩ : ∃ bl, (lastS us).bats = bl := ⟨_, rfl⟩
      rw [hbl] at t3 SZ1 NJ bd3 HF3
      have HBL := Seg.hid hbl
      clear hbl hF3 BT3 bd4
      have g1 : decide (0 < us.length) = true := decide_eq_true (by omega)
      have ST : Hid (∀ wx, Below wr.heap.size wr wx → wx.cell? ⟨w2.heap.size + 1, 3, none⟩ = some (.slice (some ⟨g, 0, none⟩) us.length c1) ∧ wx.cell? ⟨g, (us.length - 1) * 2 + 1, none⟩ = some (.slice A3 bl.length c3) ∧ wx.cell? ⟨w2.heap.size, 3, none⟩ = some (.slice (some ⟨g0, 0, none⟩) l.segs.length c0') ∧ wx.cell? ⟨g0, k * 2 + 1, none⟩ = some (.slice A2 tk.bats.length c2) ∧ wx.cell? ⟨w.heap.size, 2, none⟩ = some (.int .i64 l.roll)) := fun wx bx => ⟨(bx.cell (p := ⟨w2.heap.size + 1, 3, none⟩) hobw).trans o3, (bx.cell (p := ⟨g, (us.length - 1) * 2 + 1, none⟩) glw).trans t3, (bx.cell (p := ⟨w2.heap.size, 3, none⟩) hibw).trans i3, (E01.out wx bx).2, (bx.cell (p := ⟨w.heap.size, 2, none⟩) hwww).trans r2⟩
      have zw : IntKind.i64.wrap ((us.length : Int) - 1) = (us.length : Int) - 1 := by rw [IntKind.wrap_i64]; omega
      have wz : IntKind.i64.wrap ((a : Int) + (m : Int)) = (a : Int) + (m : Int) := by rw [IntKind.wrap_i64]; omega
      have u0 : (0 : Int) ≤ (us.length : Int) - 1 := by omega
      have u1 : (1 : Int) ≤ (us.length : Int) := by omega
      have u2 : us.length - 1 < us.length := by omega
      have u3 : 1 ≤ us.length := by omega
      have u4 : 0 < us.length := by omega
      have u5 : (us.length : Int) - 1 < (us.length : Int) := by omega
      have gne : ¬ g = w2.heap.size + 1 := by have := JJ.out.row g rfl; omega
      obtain ⟨e0, e1⟩ := E01.out wr (Below.refl _ _)
      clear EJ hk0 LEN
      by_cases hr : l.roll < (a : Int) + (m : Int)
      · have NP := Seg.hid (NP'.out (.inr hr))
        have g3 : decide ((a : Int) + (m : Int) ≤ l.roll) = false := decide_eq_false (by omega)
        go_wp2_with fail
        go_region_held3 (fun w' => w'.cell? ⟨w2.heap.size + 1, 3, none⟩ = some (.slice (some ⟨g, 0, none⟩) us.length c1) ∧ w'.cell? ⟨g, (us.length - 1) * 2 + 1, none⟩ = some (.slice A3 bl.length c3) ∧ w'.cell? ⟨w2.heap.size, 3, none⟩ = some (.slice (some ⟨g0, 0, none⟩) l.segs.length c0') ∧ w'.cell? ⟨g0, k * 2 + 1, none⟩ = some (.slice A2 tk.bats.length c2) ∧ w'.cell? ⟨w.heap.size, 2, none⟩ = some (.int .i64 l.roll)) (first | exact ST.out _ BP.out | exact ST.out _ B8.out | exact ST.out _ (Below.refl _ _).drew | exact ST.out _ (Below.refl _ _) | go_keep)
          (first | (go_at_call 14; (with_reducible refine (SZ1.out w8 B8.out).mono ?_); rintro e wp ⟨rfl, b9⟩; have BP := Seg.hid (chain B8.out b9); clear b9) | (go_at_call 14; (with_reducible refine (SZ2.out w8 B8.out).mono ?_); rintro e wp ⟨rfl, b9⟩; have BP := Seg.hid (chain B8.out b9); clear b9) | (go_at_call 14; (with_reducible refine (SZ1.out wr.drew (Below.refl _ _).drew).mono ?_); rintro e w8 ⟨rfl, b8⟩; have B8 : Hid (Below wr.heap.size wr w8) := ⟨b8.os, b8.tape, b8.output, b8.size, b8.block⟩; clear b8) | (go_at_call 14; (with_reducible refine (SZ2.out wr.drew (Below.refl _ _).drew).mono ?_); rintro e w8 ⟨rfl, b8⟩; have B8 : Hid (Below wr.heap.size wr w8) := ⟨b8.os, b8.tape, b8.output, b8.size, b8.block⟩; clear b8))
        have JP := Seg.hid (JJ.out.later JS0.out BP.out)
        have zp := BP.out.size
        have J8d := Seg.hid (JP.out.later (w8 := wp.drew) JS0.out ((Below.refl _ _).drew))
        have PSH : Hid (∀ g9 cap9 w9 o9, w9.ownsRow 0 39 2 (.slice (some ⟨g9, 0, none⟩) (us.length + 1) cap9) (us.length + 1) ((List.range (us.length * 2)).map F ++ (segArr tk (.slice A2 tk.bats.length c2)).toList) → (wp.drew.alloc o9).grownBy w9 (Value.slice (some ⟨g, 0, none⟩) us.length c1).ownBlock → ((Value.slice (some ⟨g, 0, none⟩) us.length c1).ownBlock = some g9 ∨ g9 = wp.drew.heap.size + 1) → (∃ F' P', JV wb (w9.setCell ⟨w2.heap.size + 1, 3, none⟩ (.slice (some ⟨g9, 0, none⟩) (us.length + 1) cap9)) (w2.heap.size + 1) ⟨l.start, l.next, l.roll, []⟩ l.segs P0 (k + 1) (.slice (some ⟨g9, 0, none⟩) (us.length + 1) cap9) (us ++ [tk]) F' P') ∧ w9.cell? ⟨w2.heap.size + 1, 3, none⟩ = some (.slice (some ⟨g, 0, none⟩) us.length c1) ∧ w9.frozen? ⟨w2.heap.size + 1, 3, none⟩ = false) := fun g9 cap9 w9 o9 x1 x2 x3 => by
          have O9 : w9.heap[w2.heap.size + 1]? = some (.cells (logArr ⟨l.start, l.next, l.roll, []⟩ (.slice (some ⟨g, 0, none⟩) us.length c1)) 28 (0, 0)) := (x2.block (w2.heap.size + 1) (by rw [hsz]; show _ < wp.heap.size + 1; omega) (fun e => by have := J8d.out.row _ e.symm; omega)).trans (((below1 _ _).block _ (by show _ < wp.heap.size; omega)).trans J8d.out.out)
          refine ⟨?_, (four O9).2.2.2, frozen_of_row w9 (w2.heap.size + 1) 3 _ _ O9⟩
          have := JV.push JS0.out J8d.out hlt (Below.refl _ _) HF2.out (by rw [TK.out]; exact x1) x2 x3
          rw [TK.out] at this
          exact this
        have OWN8 : Hid (∀ o9, (wp.drew.alloc o9).ownsRow 0 39 2 (.slice (some ⟨g, 0, none⟩) us.length c1) us.length ((List.range (us.length * 2)).map F)) := fun o9 => World.ownsRow.alloc J8d.out.grow.own _
        have i3 : wp.cell? ⟨w2.heap.size, 3, none⟩ = some (.slice (some ⟨g0, 0, none⟩) l.segs.length c0') := (BP.out.cell (p := ⟨w2.heap.size, 3, none⟩) hibw).trans i3
        have o3 : wp.cell? ⟨w2.heap.size + 1, 3, none⟩ = some (.slice (some ⟨g, 0, none⟩) us.length c1) := (BP.out.cell (p := ⟨w2.heap.size + 1, 3, none⟩) hobw).trans o3
        obtain ⟨e0, e1⟩ := E01.out wp BP.out
        have hobp : w2.heap.size + 1 < wp.heap.size := by omega
        have hibp : w2.heap.size < wp.heap.size := by omega
        have glp : g0 < wp.heap.size := by omega
        clear JJ PLO SZ1 ST NJ HS HV SO HF HWW T13 T23 ELH SOk J8d JP BP E01 JS0 SZ2 ADD
        go_wp2_with fail
        go_region_law
          ((first | (refine step_append_lies _ (by rfl) _ _ _ (by rfl) 0 39 i0 _ 2 32 Try.underlying26 hi hz0 hz1 hz2 rfl (by decide) (.slice (some ⟨g, 0, none⟩) us.length c1) us.length ((List.range (us.length * 2)).map F) (by rfl) (OWN8.out _) ⟨wp.heap.size, 0, none⟩ 1 1 (segArr tk (.slice A2 tk.bats.length c2)).toList (by rfl) (by rfl) (World.news_of_block (cs := segArr tk (.slice A2 tk.bats.length c2)) (heap_alloc_new wp.drew _)) (by simp [segArr, Value.oneCell']) (by decide) (by unfold maxLen; omega) (by omega) (Nat.zero_le _) (wp.heap.size + 1) (hsz wp.drew _) ?_; intro g9 cap9 w9 hown9 gr9 hat9 hlt9; have D9 := Seg.hid (PSH.out _ _ _ _ hown9 gr9 hat9); have q6 := D9.out.2.1; have p6 := D9.out.2.2; clear hown9 gr9 hat9 hlt9)))
        all_goals
          clear i3 o3 e0 e1 q6 p6
          go_wp2_with fail
          go_roundw
          case rel => exact ⟨k + 1, us ++ [tk], some ⟨g9, 0, none⟩, cap9, by omega, by go_num, NP.out, by rw [List.length_append]; exact D9.out.1⟩
          case measure => simp [intOf]; omega
      · have NJ2 := Seg.hid (NJ.out hr)
        clear NJ
        have g3 : decide ((a : Int) + (m : Int) ≤ l.roll) = true := decide_eq_true (by omega)
        go_wp2_with fail
        go_region_held3 (fun w' => w'.cell? ⟨w2.heap.size + 1, 3, none⟩ = some (.slice (some ⟨g, 0, none⟩) us.length c1) ∧ w'.cell? ⟨g, (us.length - 1) * 2 + 1, none⟩ = some (.slice A3 bl.length c3) ∧ w'.cell? ⟨w2.heap.size, 3, none⟩ = some (.slice (some ⟨g0, 0, none⟩) l.segs.length c0') ∧ w'.cell? ⟨g0, k * 2 + 1, none⟩ = some (.slice A2 tk.bats.length c2) ∧ w'.cell? ⟨w.heap.size, 2, none⟩ = some (.int .i64 l.roll)) (first | exact ST.out _ BP.out | exact ST.out _ B8.out | exact ST.out _ (Below.refl _ _).drew | exact ST.out _ (Below.refl _ _) | go_keep)
          (first | (go_at_call 14; (with_reducible refine (SZ1.out w8 B8.out).mono ?_); rintro e wp ⟨rfl, b9⟩; have BP := Seg.hid (chain B8.out b9); clear b9) | (go_at_call 14; (with_reducible refine (SZ2.out w8 B8.out).mono ?_); rintro e wp ⟨rfl, b9⟩; have BP := Seg.hid (chain B8.out b9); clear b9) | (go_at_call 14; (with_reducible refine (SZ1.out wr.drew (Below.refl _ _).drew).mono ?_); rintro e w8 ⟨rfl, b8⟩; have B8 : Hid (Below wr.heap.size wr w8) := ⟨b8.os, b8.tape, b8.output, b8.size, b8.block⟩; clear b8) | (go_at_call 14; (with_reducible refine (SZ2.out wr.drew (Below.refl _ _).drew).mono ?_); rintro e w8 ⟨rfl, b8⟩; have B8 : Hid (Below wr.heap.size wr w8) := ⟨b8.os, b8.tape, b8.output, b8.size, b8.block⟩; clear b8))
        have JP := Seg.hid (JJ.out.later JS0.out BP.out)
        have zp := BP.out.size
        have J8d := Seg.hid (JP.out.later (w8 := wp.drew) JS0.out ((Below.refl _ _).drew))
        have EJ := J8d.out.grow.el (us.length - 1) (by omega)
        obtain ⟨_, F1, P1, hL1, o1', p1'⟩ := EJ.2
        obtain ⟨_, F2, P2, hL2, _, p2'⟩ := (J8d.out.elem JS0.out (Nat.le_refl k) hlt).2
        replace hL1 : LGr 52 7 EB wp.drew 0 (F ((us.length - 1) * 2 + 1)) (lastS us).bats F1 P1 := hL1
        replace o1' : ∀ x, (F ((us.length - 1) * 2 + 1)).ownBlock = some x → P (us.length - 1) x := o1'
        replace p1' : ∀ i, i < (lastS us).bats.length → ∀ x, P1 i x → P (us.length - 1) x := p1'
        rw [HBL.out] at hL1 p1'
        replace hL2 : LGr 52 7 EB wp.drew 0 (F0 (k * 2 + 1)) (l.segs.getD k default).bats F2 P2 := hL2
        rw [HF3.out] at hL1 o1'
        rw [HF2.out, TK.out] at hL2
        rw [TK.out] at p2'
        have HL1 := Seg.hid hL1; have HL2 := Seg.hid hL2
        have JN : Hid (∀ A9 c9 w9, w9.ownsRow 0 52 7 (.slice A9 (bl.length + tk.bats.length) c9) (bl.length + tk.bats.length) ((List.range (bl.length * 7)).map F1 ++ (List.range (tk.bats.length * 7)).map F2) → wp.drew.grownBy w9 (Value.slice A3 bl.length c3).ownBlock → ((Value.slice A9 (bl.length + tk.bats.length) c9).ownBlock = (Value.slice A3 bl.length c3).ownBlock ∨ (Value.slice A9 (bl.length + tk.bats.length) c9).ownBlock = some wp.drew.heap.size) → (∃ F' P', JV wb (w9.setCell ⟨g, (us.length - 1) * 2 + 1, none⟩ (.slice A9 (bl.length + tk.bats.length) c9)) (w2.heap.size + 1) ⟨l.start, l.next, l.roll, []⟩ l.segs P0 (k + 1) (.slice (some ⟨g, 0, none⟩) us.length c1) (us.set (us.length - 1) ⟨(us.getD (us.length - 1) default).base, bl ++ tk.bats⟩) F' P') ∧ w9.cell? ⟨g, (us.length - 1) * 2 + 1, none⟩ = some (.slice A3 bl.length c3) ∧ w9.frozen? ⟨g, (us.length - 1) * 2 + 1, none⟩ = false ∧ w9.cell? ⟨w2.heap.size + 1, 3, none⟩ = some (.slice (some ⟨g, 0, none⟩) us.length c1)) := fun A9 c9 w9 x1 x2 x3 => by
          obtain ⟨y1, y2, y3⟩ := JV.join JS0.out J8d.out hlt (show us.length - 1 < us.length by omega) HL1.out o1' p1' HL2.out p2' (by omega) x1 x2 x3
          refine ⟨y1, ?_, World.ownsRow.frozenAt y2 _, (four (y3.trans J8d.out.out)).2.2.2⟩
          rw [World.ownsRow.cellAt y2 ((us.length - 1) * 2 + 1) (by omega), List.getElem?_map, List.getElem?_range (by omega), ← HF3.out]
          rfl
        have i3 : wp.cell? ⟨w2.heap.size, 3, none⟩ = some (.slice (some ⟨g0, 0, none⟩) l.segs.length c0') := (BP.out.cell (p := ⟨w2.heap.size, 3, none⟩) hibw).trans i3
        have o3 : wp.cell? ⟨w2.heap.size + 1, 3, none⟩ = some (.slice (some ⟨g, 0, none⟩) us.length c1) := (BP.out.cell (p := ⟨w2.heap.size + 1, 3, none⟩) hobw).trans o3
        have t3 : wp.cell? ⟨g, (us.length - 1) * 2 + 1, none⟩ = some (.slice A3 bl.length c3) := (BP.out.cell (p := ⟨g, (us.length - 1) * 2 + 1, none⟩) glw).trans t3
        obtain ⟨e0, e1⟩ := E01.out wp BP.out
        have hobp : w2.heap.size + 1 < wp.heap.size := by omega
        have hibp : w2.heap.size < wp.heap.size := by omega
        have glp : g0 < wp.heap.size := by omega
        have glg : g < wp.heap.size := by omega
        have bd5 := bd3
        clear hL1 hL2 o1' p1' p2' EJ JJ PLO HS HV SO HF HWW T13 T23 ELH SOk J8d JP BP E01 JS0 SZ1 SZ2 ADD ST
        go_wp2_with fail
        go_region_law
          ((first | (refine step_append_all _ (by rfl) _ _ _ (by rfl) 0 52 i1 _ 7 72 Try.underlying37 hi1 hy0 hy1 hy2 rfl (by decide) (.slice A3 bl.length c3) bl.length ((List.range (bl.length * 7)).map F1) (by rfl) HL1.out.own A2 tk.bats.length c2 ((List.range (tk.bats.length * 7)).map F2) (by rfl) (by simp) (news_own HL2.out.own) (one_own HL2.out) (by unfold maxLen; omega) (by omega) (Nat.zero_le _) ?_; intro v9 w9 hown9 gr9 hat9; obtain ⟨A9, c9, hA9⟩ := own_form hown9; subst hA9; have D9 := Seg.hid (JN.out _ _ _ hown9 gr9 hat9); have q6 := D9.out.2.1; have p6 := D9.out.2.2.1; have q7 := D9.out.2.2.2; clear hown9 gr9 hat9)))
        all_goals
          clear i3 o3 e0 e1 q6 p6 q7 t3
          go_wp2_with fail
          go_roundw
          case rel => exact ⟨k + 1, _, some ⟨g, 0, none⟩, c1, by omega, by go_num, NJ2.out, by rw [List.length_set]; exact D9.out.1⟩
          case measure => simp [intOf]; omega
    · have KN : k = l.segs.length := by omega
      have UA : Hid (us = joinS l.roll l.segs) := by show _ = _; rw [US.out, KN, List.take_length]
      have O1 := Seg.hid JJ.out.out
      have R1 : Hid (wr.heap[w.heap.size + 1]? = some (.cells (logArr ⟨0, 0, 0, []⟩ (.slice none 0 0)) 28 (0, 0))) := (PAR.out wr k _ us F P hk JJ.out (w.heap.size + 1) (by omega)).trans T23.out
      have BW : Hid (Below w.heap.size w wr) := ⟨JJ.out.os.1.trans B3.out.os, JJ.out.os.2.1.trans B3.out.tape, JJ.out.os.2.2.trans B3.out.output, by omega, fun x hx => (PAR.out wr k _ us F P hk JJ.out x (by omega)).trans (B3.out.block x hx)⟩
      have SX : Hid (∀ x, ((Value.slice A1 us.length c1).ownBlock = some x ∨ ∃ i, i < us.length ∧ P i x) → w1.heap.size + 3 ≤ x ∧ x < wr.heap.size) := fun x hx => by
        rcases hx with hx | ⟨i, hi, hx⟩
        · have a1 := JJ.out.row x hx
          exact ⟨by omega, (World.ownsRow.lt JJ.out.grow.own x hx).2⟩
        · have a1 := JJ.out.grow.apart i hi x hx
          refine ⟨?_, a1.2.1⟩
          rcases JJ.out.els i hi x hx with ⟨i', hi', hx'⟩ | hx'
          · exact (PLO.out i' (by omega) x hx').1
          · omega
      have OW : Hid (OwnS wr (fun x => (Value.slice A1 us.length c1).ownBlock = some x ∨ ∃ i, i < us.length ∧ P i x) (.slice A1 us.length c1) us) := LGr.ownL (LGr.weak (fun _ _ _ _ h => EG.es h) JJ.out.grow) (by omega)
      have H5 := Seg.hid (Cells.there_of R1.out)
      have H4 := Seg.hid (Cells.whole (vs := logArr ⟨l.start, l.next, l.roll, []⟩ (.slice A1 us.length c1)) R1.out rfl)
      have B4 := Seg.hid (Cells.below_setCells (g := w.heap.size + 1) (by omega) (logArr ⟨l.start, l.next, l.roll, []⟩ (.slice A1 us.length c1)).toList 0 _ _ BW.out)
      have HF' : Hid (SegsAt (wr.setCells (w.heap.size + 1) 0 (logArr ⟨l.start, l.next, l.roll, []⟩ (.slice A1 us.length c1)).toList) w.heap.size (wr.setCells (w.heap.size + 1) 0 (logArr ⟨l.start, l.next, l.roll, []⟩ (.slice A1 us.length c1)).toList).heap.size (.slice A1 us.length c1) us) := by
        refine segs_of (LOwn.keep keepsS OW.out (by rw [Cells.size_setCells]; exact Nat.le_refl _) (fun x hx => Cells.heap_setCells_other _ _ (by have := (SX.out x hx).1; omega))) (fun x hx => ?_)
        have a1 := SX.out x hx
        refine ⟨by omega, ?_⟩
        rw [Cells.size_setCells]
        exact a1.2
      have q9 : ¬ (k : Int) < (l.segs.length : Int) := by omega
      clear OW SX US LEN KN
      go_wp2_with (first | (refine wpList_load_row rfl 28 _ rfl (w2.heap.size + 1) rfl _ _ _ _ O1.out Try.underlying28 rfl infoN ?_) | (refine wpList_store_mid rfl 28 _ _ rfl (w.heap.size + 1) 0 (logArr ⟨l.start, l.next, l.roll, []⟩ (.slice A1 us.length c1)) rfl rfl H5.out infoN (logArr_one _ _ rfl) ?_))
      exact bodyPost_ret (v := logVal ⟨l.start, l.next, l.roll, []⟩ (.slice A1 us.length c1)) (results_cell_row rfl _ _ (w.heap.size + 1) _ _ _ _ rfl H4.out Try.underlying28 rfl infoN) rfl ⟨.slice A1 us.length c1, by rw [HC.out]; rfl, by rw [HC.out]; show SegsAt _ _ _ _ (joinS l.roll l.segs); rw [← UA.out]; exact HF'.out, B4.out⟩
theorem joinS_any (v : Value) (l : Lg) (w : World) (lo b : Nat) (hv : LogAt w lo b v l) (hb : b ≤ w.heap.size) (hf : FewL l) (hw : ∀ i, i < l.segs.length → -9223372036854775808 ≤ (l.segs.getD i default).base ∧ (l.segs.getD i default).base ≤ 9223372036854775807) :
    Calls Try.prog 5 #[v] w fun e w' => ∃ sv, e = .returned (logVal (join l) sv) ∧ SegsAt w' w.heap.size w'.heap.size sv (join l).segs ∧ Below w.heap.size w w' := by
  obtain ⟨sv, rfl, hs⟩ := hv
  obtain ⟨_, ⟨_, A, c, rfl, _⟩, _⟩ := id hs
  exact joinS_core l A c w lo b hb hf hw hs
end Go.Proofs.Ytfekhpegfbjleaa.Ft
