/- The program's Join. -/
import Derived.Deep.RegionLaw
import Derived.Test.YtfekhpegfbjleaaJJ24
import Derived.Test.YtfekhpegfbjleaaJJ28
import Derived.Test.YtfekhpegfbjleaaJJ29
import Derived.Test.YtfekhpegfbjleaaJJ30
namespace Go.Proofs.Ytfekhpegfbjleaa.Ft
set_option maxRecDepth 8000
open Go.RowKit
open Recs
open Bats SegW Segs LogW JoP Zs BfP
open LgP (logOk inR)
set_option linter.unusedVariables false
/-- One Segment in memory of the call's own, to be read. -/
theorem EG.bats {w : World} {S : Nat → Prop} {f : Nat → Value} {t : Sg} (h : EG w S f t) (hS : ∀ x, S x → x < w.heap.size) : BatsAt w 0 w.heap.size (f 1) t.bats := bats_of h.2.own (fun x hx => ⟨Nat.zero_le _, hS x hx⟩)
theorem own_form {w : World} {base ty nf n : Nat} {v : Value} {xs : List Value} (h : w.ownsRow base ty nf v n xs) : ∃ A c, v = .slice A n c := by
  rcases h.2 with ⟨h1, h2⟩ | ⟨g, cap, cur, h1, _⟩
  · exact ⟨none, 0, by rw [h1, h2]⟩
  · exact ⟨_, _, h1⟩
set_option maxHeartbeats 12800000 in
theorem join_core (l : Lg) (A : Option Addr) (c : Nat) (w : World) (lo b : Nat) (hb : b ≤ w.heap.size) (hf : FewL l) (hs : SegsAt w lo b (.slice A l.segs.length c) l.segs) :
    Calls Try.prog 7 #[logVal l (.slice A l.segs.length c)] w fun e w' => ∃ sv, e = .returned (logVal (join l) sv) ∧ OwnS w' (seg w.heap.size w'.heap.size) sv (join l).segs ∧ Below w.heap.size w w' := by
  obtain ⟨i0, hi, hz0, hz1, hz2⟩ := info_parts infoSgG
  obtain ⟨i1, hi1, hy0, hy1, hy2⟩ := info_parts infoB
  have HS := Seg.hid hs
  have HV : Hid (LogAt w lo b (logVal l (.slice A l.segs.length c)) l) := ⟨_, rfl, hs⟩
  have HF := Seg.hid hf
  clear hs hf
  unfold logVal at HV ⊢
  go_enter Try.func7, Try.ntmps7
  go_wp2_with fail
  refine (LgI.impl_any _ l ((w.alloc _).alloc _) lo b (HV.out.below ((below2 w _ _).mono hb)) (by rw [hsz, hsz]; omega) HF.out).mono ?_
  rintro e w1 ⟨rfl, b1⟩
  have B1 := Seg.hid (chain (below2 w _ _) b1)
  have T1 : Hid (w1.heap[w.heap.size]? = some (.cells (logArr l (.slice A l.segs.length c)) 28 (0, 0))) := (b1.block w.heap.size (by rw [hsz, hsz]; omega)).trans (at1 w _ _)
  have T2 : Hid (w1.heap[w.heap.size + 1]? = some (.cells (logArr ⟨0, 0, 0, []⟩ (.slice none 0 0)) 28 (0, 0))) := (b1.block (w.heap.size + 1) (by rw [hsz, hsz]; omega)).trans (at2 w _ _)
  have s1 := b1.size
  rw [hsz, hsz] at s1
  clear b1
  cases hok : logOk l with
  | false =>
    have HC : Hid (join l = ⟨0, 0, 0, []⟩) := by show _ = _; simp [join, hok]
    have H5 := Seg.hid (Cells.there_of T2.out)
    have H4 := Seg.hid (Cells.whole (vs := logArr ⟨0, 0, 0, []⟩ (.slice none 0 0)) T2.out rfl)
    have B2 := Seg.hid (Cells.below_setCells (g := w.heap.size + 1) (by omega) (logArr ⟨0, 0, 0, []⟩ (.slice none 0 0)).toList 0 _ _ B1.out)
    clear hok
    go_wp2_with (first | (refine wpList_store_mid rfl 28 _ _ rfl (w.heap.size + 1) 0 (logArr ⟨0, 0, 0, []⟩ (.slice none 0 0)) rfl rfl H5.out infoN (logArr_one _ _ rfl) ?_))
    exact bodyPost_ret (v := logVal ⟨0, 0, 0, []⟩ (.slice none 0 0)) (results_cell_row rfl _ _ (w.heap.size + 1) _ _ _ _ rfl H4.out Try.underlying28 rfl infoN) rfl ⟨.slice none 0 0, by rw [HC.out]; rfl, by rw [HC.out]; exact LOwn.nil _ _ _ _, B2.out⟩
  | true =>
  have HC : Hid (join l = ⟨l.start, l.next, l.roll, joinS l.roll l.segs⟩) := by show _ = _; simp [join, hok]
  obtain ⟨f, k1, k2, k3, k4, k5, k6⟩ := ok_parts hok
  have SO := Seg.hid (okAllS k1)
  have FC := Seg.hid (ok_many hok)
  clear hok k1
  obtain ⟨c0, c1, c2, c3⟩ := four T1.out
  have hw1 : w.heap.size < w1.heap.size := by omega
  have CALL : Hid (∀ wx, Below w1.heap.size w1 wx → Calls Try.prog 17 #[.slice A l.segs.length c] wx fun e w' => ∃ sv, e = .returned sv ∧ LGrow 39 2 EG w' wx.heap.size sv l.segs ∧ Below wx.heap.size wx w') := fun wx bx => copySegments_grow _ l.segs wx lo b (Nat.le_trans hb (Nat.le_trans B1.out.size bx.size)) (by omega) HF.out.1.2 (HS.out.below ((chain B1.out bx).mono hb))
  go_wp2_with fail
  refine (CALL.out (w1.alloc _) (below1 w1 _)).mono ?_
  rintro e w2 ⟨sv, rfl, hG, b2⟩
  rw [hsz] at hG b2
  obtain ⟨F0, P0, hG0⟩ := hG
  obtain ⟨A0, c0', hA0⟩ := LGr.form hG0
  subst hA0
  have s2 := b2.size
  rw [hsz] at s2
  have B2 : Hid (Below w.heap.size w w2) := (B1.out.trans ((below1 w1 _).mono (by omega))).trans (b2.mono (by omega))
  have OUT2 : Hid (w2.heap[w1.heap.size]? = some (.cells (logArr ⟨l.start, l.next, l.roll, []⟩ (.slice none 0 0)) 28 (0, 0))) := (b2.block w1.heap.size (by omega)).trans (heap_alloc_new _ _)
  have T12 := Seg.hid ((b2.block w.heap.size (by omega)).trans (((below1 w1 _).block _ (by omega)).trans T1.out))
  have T22 := Seg.hid ((b2.block (w.heap.size + 1) (by omega)).trans (((below1 w1 _).block _ (by omega)).trans T2.out))
  have JS0 : Hid (JS w2 w1.heap.size l.segs (.slice A0 l.segs.length c0') F0 P0) := ⟨hG0.base (Nat.zero_le _), by omega, fun e => by have := World.ownsRow.lt hG0.own _ e; omega, fun i hi hp => by have := hG0.apart i hi _ hp; omega⟩
  have PLO : Hid (∀ i, i < l.segs.length → ∀ x, P0 i x → w1.heap.size + 1 ≤ x) := fun i hi x hx => (hG0.apart i hi x hx).1
  have JV0 : Hid (JV w2 w2 w1.heap.size ⟨l.start, l.next, l.roll, []⟩ l.segs P0 0 (.slice none 0 0) [] (fun _ => default) (fun _ _ => False)) := ⟨OUT2.out, ⟨by simpa using World.ownsRow_nil w2 0 _ _, fun i hi => absurd hi (by simp), fun i hi => absurd hi (by simp), fun i j hi => absurd hi (by simp)⟩, fun x hx => by simp [Value.ownBlock] at hx, fun j hj => absurd hj (by simp), fun _ _ _ _ => rfl, ⟨rfl, rfl, rfl⟩, Nat.le_refl _⟩
  have GR0 := Seg.hid hG0
  have PAR : Hid (∀ (wr : World) (k : Nat) (v : Value) (us : List Sg) (F : Nat → Value) (P : Nat → Nat → Prop), k ≤ l.segs.length → JV w2 wr w1.heap.size ⟨l.start, l.next, l.roll, []⟩ l.segs P0 k v us F P → ∀ x, x < w1.heap.size → wr.heap[x]? = w2.heap[x]?) := fun wr k v us F P hk h x hx => h.keep x (by omega) (by omega) (fun i hi hp => by have := PLO.out i (by omega) x hp; omega)
  clear c0 c1 c2 c3 b2 OUT2 CALL hG0
  go_wp2_with fail
  go_loopw [4, 24] (fun sz i wr => ∃ (k : Nat) (us : List Sg) (A1 : Option Addr) (c1 a : Nat), k ≤ l.segs.length ∧ sz = .int .i64 a ∧ i = .int .i64 k ∧ Hid (us = joinS l.roll (l.segs.take k) ∧ a = sizes (lastS us).bats ∧ ∃ F P, JV w2 wr w1.heap.size ⟨l.start, l.next, l.roll, []⟩ l.segs P0 k (.slice A1 us.length c1) us F P)) (fun _ i _ => l.segs.length - (intOf i).toNat)
  case atStart => exact ⟨0, [], none, 0, 0, Nat.zero_le _, rfl, rfl, by simp [joinS], rfl, _, _, JV0.out⟩
  case round =>
    clear JV0
    obtain ⟨k, us, A1, c1, a, hk, rfl, rfl, HW⟩ := hrel
    obtain ⟨F, P, hJ⟩ := HW.out.2.2
    have US := Seg.hid HW.out.1
    have SA := Seg.hid HW.out.2.1
    have JJ := Seg.hid hJ
    have hz := hJ.size
    have LEN := joinS_len (roll := l.roll) l.segs k hk
    rw [← US.out] at LEN
    have r2' := Seg.hid ((PAR.out wr k _ us F P hk hJ w.heap.size (by omega)).trans T12.out)
    clear HW hJ
    by_cases hlt : k < l.segs.length
    · have h0 : (0 : Int) ≤ (k : Int) := by omega
      have h1 : (k : Int) < (l.segs.length : Int) := by omega
      obtain ⟨g0, e9⟩ : ∃ g0, A0 = some ⟨g0, 0, none⟩ := by
        rcases GR0.out.own.2 with ⟨x1, x2⟩ | ⟨g0, cap, cur, x1, _⟩
        · omega
        · simp only [Value.slice.injEq] at x1
          exact ⟨g0, x1.1⟩
      subst e9
      have EL := JJ.out.elem JS0.out (Nat.le_refl k) hlt
      obtain ⟨A2, c2, hF2⟩ := EL.2.form
      replace hF2 : F0 (k * 2 + 1) = .slice A2 (l.segs.getD k default).bats.length c2 := hF2
      have hF1 : F0 (k * 2) = .int .i64 (l.segs.getD k default).base := EL.1
      have e0 : wr.cell? ⟨g0, k * 2, none⟩ = some (.int .i64 (l.segs.getD k default).base) := by rw [← hF1]; exact JJ.out.cell JS0.out hk rfl (by omega)
      have e1 : wr.cell? ⟨g0, k * 2 + 1, none⟩ = some (.slice A2 (l.segs.getD k default).bats.length c2) := by rw [← hF2]; exact JJ.out.cell JS0.out hk rfl (by omega)
      have gl : g0 < wr.heap.size := by have := (World.ownsRow.lt GR0.out.own g0 rfl).2; omega
      have BT : BatsAt wr 0 wr.heap.size (.slice A2 (l.segs.getD k default).bats.length c2) (l.segs.getD k default).bats := by rw [← hF2]; exact EG.bats EL (fun x hx => by have := (JS0.out.src.apart k hlt x hx).2.1; omega)
      obtain ⟨bd1, bd2, bd3, bd4⟩ := bnd (roll := l.roll) hlt SO.out FC.out
      rw [← US.out] at bd1 bd3 bd4
      rw [← SA.out] at bd1
      have ADD := Seg.hid (join_take (roll := l.roll) hlt)
      rw [← US.out] at ADD
      have SOk := Seg.hid (SO.out k hlt)
      have HF2 := Seg.hid hF2
      have ELH := Seg.hid EL
      have TKD : Hid (l.segs.getD k default = l.segs.getD k default) := rfl
      clear EL hF1 hF2
      obtain ⟨tk, htk⟩ : ∃ tk, l.segs.getD k default = tk := ⟨_, rfl⟩
      rw [htk] at e0 e1 BT bd2 bd3 ADD SOk HF2 ELH
      have TK := Seg.hid htk
      clear htk TKD
      obtain ⟨m, hm⟩ : ∃ m, sizes tk.bats = m := ⟨_, rfl⟩
      rw [hm] at bd2
      have HM := Seg.hid hm
      clear hm
      have BS : Hid (∀ wx, Below wr.heap.size wr wx → Calls Try.prog 18 #[.slice A2 tk.bats.length c2] wx fun e w' => e = .returned (.int .i64 m) ∧ Below wx.heap.size wx w') := fun wx bx => by
        have := batchSizes_any _ tk.bats wx 0 wr.heap.size bx.size (by omega) SOk.out (BT.below bx)
        rw [HM.out] at this
        exact this
      clear BT
      go_wp2_with fail
      refine (BS.out (wr.alloc _) (below1 wr _)).mono ?_
      rintro e w8 ⟨rfl, b8⟩
      have B8 := Seg.hid (chain (below1 wr _) b8)
      have M8 : Hid (w8.heap[wr.heap.size]? = some (.cells (segArr tk (.slice A2 tk.bats.length c2)) 39 (0, 0))) := (b8.block wr.heap.size (by rw [hsz]; omega)).trans (heap_alloc_new _ _)
      have s8 : wr.heap.size < w8.heap.size := (Array.getElem?_eq_some_iff.1 M8.out).1
      clear b8 BS e0 e1
      have J8 := Seg.hid (JJ.out.later JS0.out B8.out)
      have o3 : w8.cell? ⟨w1.heap.size, 3, none⟩ = some (.slice A1 us.length c1) := (four J8.out.out).2.2.2
      have r2 : w8.cell? ⟨w.heap.size, 2, none⟩ = some (.int .i64 l.roll) := (four ((B8.out.block w.heap.size (by omega)).trans r2'.out)).2.2.1
      have m0 : w8.cell? ⟨wr.heap.size, 0, none⟩ = some (.int .i64 tk.base) := cell_of_row w8 wr.heap.size 0 _ _ (0, 0) M8.out
      have m1 : w8.cell? ⟨wr.heap.size, 1, none⟩ = some (.slice A2 tk.bats.length c2) := cell_of_row w8 wr.heap.size 1 _ _ (0, 0) M8.out
      have hob : w1.heap.size < w8.heap.size := by omega
      have hww : w.heap.size < w8.heap.size := by omega
      have wz : IntKind.i64.wrap ((a : Int) + (m : Int)) = (a : Int) + (m : Int) := by rw [IntKind.wrap_i64]; omega
      have ul : us.length ≤ 60 := by omega
      have PSH : Hid (∀ g9 cap9 w9 o9, w9.ownsRow 0 39 2 (.slice (some ⟨g9, 0, none⟩) (us.length + 1) cap9) (us.length + 1) ((List.range (us.length * 2)).map F ++ (segArr tk (.slice A2 tk.bats.length c2)).toList) → (w8.alloc o9).grownBy w9 (Value.slice A1 us.length c1).ownBlock → ((Value.slice A1 us.length c1).ownBlock = some g9 ∨ g9 = w8.heap.size + 1) → (∃ F' P', JV w2 (w9.setCell ⟨w1.heap.size, 3, none⟩ (.slice (some ⟨g9, 0, none⟩) (us.length + 1) cap9)) w1.heap.size ⟨l.start, l.next, l.roll, []⟩ l.segs P0 (k + 1) (.slice (some ⟨g9, 0, none⟩) (us.length + 1) cap9) (us ++ [tk]) F' P') ∧ w9.cell? ⟨w1.heap.size, 3, none⟩ = some (.slice A1 us.length c1) ∧ w9.frozen? ⟨w1.heap.size, 3, none⟩ = false) := fun g9 cap9 w9 o9 x1 x2 x3 => by
        have O9 : w9.heap[w1.heap.size]? = some (.cells (logArr ⟨l.start, l.next, l.roll, []⟩ (.slice A1 us.length c1)) 28 (0, 0)) := (x2.block w1.heap.size (by rw [hsz]; omega) (fun e => by have := J8.out.row _ e.symm; omega)).trans (((below1 _ _).block _ hob).trans J8.out.out)
        refine ⟨?_, (four O9).2.2.2, frozen_of_row w9 w1.heap.size 3 _ _ O9⟩
        have := JV.push JS0.out J8.out hlt (Below.refl _ _) HF2.out (by rw [TK.out]; exact x1) x2 x3
        rw [TK.out] at this
        exact this
      have NP : Hid ((us.length = 0 ∨ l.roll < (a : Int) + (m : Int)) → us ++ [tk] = joinS l.roll (l.segs.take (k + 1)) ∧ m = sizes (lastS (us ++ [tk])).bats) := fun hc => by
        refine ⟨?_, by rw [lastS_push, HM.out]⟩
        rw [ADD.out, add, if_pos (by rw [← SA.out, HM.out]; exact hc)]
      by_cases hk0 : k = 0
      · have NP := Seg.hid (NP.out (.inl (LEN.2.2 hk0)))
        have g1 : decide ((k : Int) = 0) = true := decide_eq_true (by omega)
        have g2 : (k : Int) = 0 := by omega
        go_wp2_with (at_builtin; (refine wpList_append_lies _ rfl _ _ 26 rfl 0 39 i0 _ 2 32 Try.underlying26 hi hz0 hz1 hz2 rfl (by decide) (.slice A1 us.length c1) us.length ((List.range (us.length * 2)).map F) rfl (World.ownsRow.alloc J8.out.grow.own _) ⟨w8.heap.size, 0, none⟩ 1 1 (segArr tk (.slice A2 tk.bats.length c2)).toList rfl rfl (World.news_of_block (cs := segArr tk (.slice A2 tk.bats.length c2)) (heap_alloc_new w8 _)) (by simp [segArr, Value.oneCell']) (by decide) (by unfold maxLen; omega) (by omega) (Nat.zero_le _) (w8.heap.size + 1) (hsz w8 _) ?_; intro g9 cap9 w9 hown9 gr9 hat9 hlt9; have D9 := Seg.hid (PSH.out _ _ _ _ hown9 gr9 hat9); have q6 := D9.out.2.1; have p6 := D9.out.2.2; clear hown9 gr9 hat9 hlt9))
        clear o3 r2 m0 m1 q6 p6
        go_wp2_with fail
        go_roundw
        case rel => exact ⟨k + 1, us ++ [tk], some ⟨g9, 0, none⟩, cap9, m, by omega, rfl, by go_num, NP.out.1, NP.out.2, by rw [List.length_append]; exact D9.out.1⟩
        case measure => simp [intOf]; omega
      have g1 : decide ((k : Int) = 0) = false := decide_eq_false (by omega)
      have g2 : ¬ (k : Int) = 0 := by omega
      by_cases hr : l.roll < (a : Int) + (m : Int)
      · have NP := Seg.hid (NP.out (.inr hr))
        have g3 : decide (l.roll < (a : Int) + (m : Int)) = true := decide_eq_true hr
        go_wp2_with (at_builtin; (refine wpList_append_lies _ rfl _ _ 26 rfl 0 39 i0 _ 2 32 Try.underlying26 hi hz0 hz1 hz2 rfl (by decide) (.slice A1 us.length c1) us.length ((List.range (us.length * 2)).map F) rfl (World.ownsRow.alloc J8.out.grow.own _) ⟨w8.heap.size, 0, none⟩ 1 1 (segArr tk (.slice A2 tk.bats.length c2)).toList rfl rfl (World.news_of_block (cs := segArr tk (.slice A2 tk.bats.length c2)) (heap_alloc_new w8 _)) (by simp [segArr, Value.oneCell']) (by decide) (by unfold maxLen; omega) (by omega) (Nat.zero_le _) (w8.heap.size + 1) (hsz w8 _) ?_; intro g9 cap9 w9 hown9 gr9 hat9 hlt9; have D9 := Seg.hid (PSH.out _ _ _ _ hown9 gr9 hat9); have q6 := D9.out.2.1; have p6 := D9.out.2.2; clear hown9 gr9 hat9 hlt9))
        clear o3 r2 m0 m1 q6 p6
        go_wp2_with fail
        go_roundw
        case rel => exact ⟨k + 1, us ++ [tk], some ⟨g9, 0, none⟩, cap9, m, by omega, rfl, by go_num, NP.out.1, NP.out.2, by rw [List.length_append]; exact D9.out.1⟩
        case measure => simp [intOf]; omega
      · have g3 : decide (l.roll < (a : Int) + (m : Int)) = false := decide_eq_false hr
        have un : us.length ≠ 0 := fun e => hk0 (LEN.2.1 e)
        obtain ⟨g, e9⟩ : ∃ g, A1 = some ⟨g, 0, none⟩ := by
          rcases J8.out.grow.own.2 with ⟨x1, x2⟩ | ⟨g, cap, cur, x1, _⟩
          · omega
          · simp only [Value.slice.injEq] at x1
            exact ⟨g, x1.1⟩
        subst e9
        have J8d := Seg.hid (J8.out.later (w8 := w8.drew) JS0.out ((Below.refl _ _).drew))
        have EJ := J8d.out.grow.el (us.length - 1) (by omega)
        obtain ⟨A3, c3, hF3⟩ := EJ.2.form
        obtain ⟨_, F1, P1, hL1, o1', p1'⟩ := EJ.2
        obtain ⟨_, F2, P2, hL2, _, p2'⟩ := (J8d.out.elem JS0.out (Nat.le_refl k) hlt).2
        replace hF3 : F ((us.length - 1) * 2 + 1) = .slice A3 (lastS us).bats.length c3 := hF3
        replace hL1 : LGr 52 7 EB w8.drew 0 (F ((us.length - 1) * 2 + 1)) (lastS us).bats F1 P1 := hL1
        replace o1' : ∀ x, (F ((us.length - 1) * 2 + 1)).ownBlock = some x → P (us.length - 1) x := o1'
        replace p1' : ∀ i, i < (lastS us).bats.length → ∀ x, P1 i x → P (us.length - 1) x := p1'
        replace hL2 : LGr 52 7 EB w8.drew 0 (F0 (k * 2 + 1)) (l.segs.getD k default).bats F2 P2 := hL2
        rw [hF3] at hL1 o1'
        rw [HF2.out, TK.out] at hL2
        rw [TK.out] at p2'
        have t3 : w8.cell? ⟨g, (us.length - 1) * 2 + 1, none⟩ = some (.slice A3 (lastS us).bats.length c3) := by
          rw [← hF3]
          have := World.ownsRow.cellAt J8.out.grow.own ((us.length - 1) * 2 + 1) (by omega)
          rw [this, List.getElem?_map, List.getElem?_range (by omega)]
          rfl
        have HL1 := Seg.hid hL1; have HL2 := Seg.hid hL2
        have NJ : Hid (us.set (us.length - 1) ⟨(us.getD (us.length - 1) default).base, (lastS us).bats ++ tk.bats⟩ = joinS l.roll (l.segs.take (k + 1)) ∧ a + m = sizes (lastS (us.set (us.length - 1) ⟨(us.getD (us.length - 1) default).base, (lastS us).bats ++ tk.bats⟩)).bats) := by
          refine ⟨?_, by rw [lastS_set un, sizes_app, ← SA.out, HM.out]⟩
          rw [ADD.out, add, if_neg (by rw [← SA.out, HM.out]; intro h; rcases h with h | h; exact un h; exact hr h)]
          rfl
        have JN : Hid (∀ A9 c9 w9, w9.ownsRow 0 52 7 (.slice A9 ((lastS us).bats.length + tk.bats.length) c9) ((lastS us).bats.length + tk.bats.length) ((List.range ((lastS us).bats.length * 7)).map F1 ++ (List.range (tk.bats.length * 7)).map F2) → w8.drew.grownBy w9 (Value.slice A3 (lastS us).bats.length c3).ownBlock → ((Value.slice A9 ((lastS us).bats.length + tk.bats.length) c9).ownBlock = (Value.slice A3 (lastS us).bats.length c3).ownBlock ∨ (Value.slice A9 ((lastS us).bats.length + tk.bats.length) c9).ownBlock = some w8.drew.heap.size) → (∃ F' P', JV w2 (w9.setCell ⟨g, (us.length - 1) * 2 + 1, none⟩ (.slice A9 ((lastS us).bats.length + tk.bats.length) c9)) w1.heap.size ⟨l.start, l.next, l.roll, []⟩ l.segs P0 (k + 1) (.slice (some ⟨g, 0, none⟩) us.length c1) (us.set (us.length - 1) ⟨(us.getD (us.length - 1) default).base, (lastS us).bats ++ tk.bats⟩) F' P') ∧ w9.cell? ⟨g, (us.length - 1) * 2 + 1, none⟩ = some (.slice A3 (lastS us).bats.length c3) ∧ w9.frozen? ⟨g, (us.length - 1) * 2 + 1, none⟩ = false) := fun A9 c9 w9 x1 x2 x3 => by
          obtain ⟨y1, y2, y3⟩ := JV.join JS0.out J8d.out hlt (show us.length - 1 < us.length by omega) HL1.out o1' p1' HL2.out p2' (by omega) x1 x2 x3
          refine ⟨y1, ?_, World.ownsRow.frozenAt y2 _⟩
          rw [World.ownsRow.cellAt y2 ((us.length - 1) * 2 + 1) (by omega), List.getElem?_map, List.getElem?_range (by omega), ← hF3]
          rfl
        have bd5 := bd3
        obtain ⟨bl, hbl⟩ : ∃ bl, (lastS us).bats = bl := ⟨_, rfl⟩
        rw [hbl] at t3 HL1 NJ JN bd5
        have gl8 : g < w8.heap.size := (World.ownsRow.lt J8.out.grow.own g rfl).2
        have zw : IntKind.i64.wrap ((us.length : Int) - 1) = (us.length : Int) - 1 := by rw [IntKind.wrap_i64]; omega
        have u0 : (0 : Int) ≤ (us.length : Int) - 1 := by omega
        have u1 : (1 : Int) ≤ (us.length : Int) := by omega
        have u2 : us.length - 1 < us.length := by omega
        have gne : ¬ g = w1.heap.size := by have := J8.out.row g rfl; omega
        clear hF3 hL1 hL2 o1' p1' p2' hbl EJ
        go_wp2_with fail
        go_region_law
          ((first | (refine step_append_all _ (by rfl) _ _ _ (by rfl) 0 52 i1 _ 7 72 Try.underlying37 hi1 hy0 hy1 hy2 rfl (by decide) (.slice A3 bl.length c3) bl.length ((List.range (bl.length * 7)).map F1) (by rfl) HL1.out.own A2 tk.bats.length c2 ((List.range (tk.bats.length * 7)).map F2) (by rfl) (by simp) (news_own HL2.out.own) (one_own HL2.out) (by unfold maxLen; omega) (by omega) (Nat.zero_le _) ?_; intro v9 w9 hown9 gr9 hat9; obtain ⟨A9, c9, hA9⟩ := own_form hown9; subst hA9; have D9 := Seg.hid (JN.out _ _ _ hown9 gr9 hat9); have q6 := D9.out.2.1; have p6 := D9.out.2.2; clear hown9 gr9 hat9)))
        all_goals
          clear o3 r2 m0 m1 q6 p6 t3
          go_wp2_with fail
          go_roundw
          case rel => exact ⟨k + 1, _, some ⟨g, 0, none⟩, c1, a + m, by omega, by go_num, by go_num, NJ.out.1, NJ.out.2, by rw [List.length_set]; exact D9.out.1⟩
          case measure => simp [intOf]; omega
    · have KN : k = l.segs.length := by omega
      have UA : Hid (us = joinS l.roll l.segs) := by show _ = _; rw [US.out, KN, List.take_length]
      have O1 := Seg.hid JJ.out.out
      have R1 : Hid (wr.heap[w.heap.size + 1]? = some (.cells (logArr ⟨0, 0, 0, []⟩ (.slice none 0 0)) 28 (0, 0))) := (PAR.out wr k _ us F P hk JJ.out (w.heap.size + 1) (by omega)).trans T22.out
      have BW : Hid (Below w.heap.size w wr) := ⟨JJ.out.os.1.trans B2.out.os, JJ.out.os.2.1.trans B2.out.tape, JJ.out.os.2.2.trans B2.out.output, by omega, fun x hx => (PAR.out wr k _ us F P hk JJ.out x (by omega)).trans (B2.out.block x hx)⟩
      have ul : us.length ≤ 60 := by omega
      have SX : Hid (∀ x, ((Value.slice A1 us.length c1).ownBlock = some x ∨ ∃ i, i < us.length ∧ P i x) → w1.heap.size + 1 ≤ x ∧ x < wr.heap.size) := fun x hx => by
        rcases hx with hx | ⟨i, hi, hx⟩
        · have a1 := JJ.out.row x hx
          exact ⟨by omega, (World.ownsRow.lt JJ.out.grow.own x hx).2⟩
        · have a1 := JJ.out.grow.apart i hi x hx
          refine ⟨?_, a1.2.1⟩
          rcases JJ.out.els i hi x hx with ⟨i', hi', hx'⟩ | hx'
          · exact PLO.out i' (by omega) x hx'
          · omega
      have OW : Hid (OwnS wr (fun x => (Value.slice A1 us.length c1).ownBlock = some x ∨ ∃ i, i < us.length ∧ P i x) (.slice A1 us.length c1) us) := LGr.ownL (LGr.weak (fun _ _ _ _ h => EG.es h) JJ.out.grow) (by omega)
      have H5 := Seg.hid (Cells.there_of R1.out)
      have H4 := Seg.hid (Cells.whole (vs := logArr ⟨l.start, l.next, l.roll, []⟩ (.slice A1 us.length c1)) R1.out rfl)
      have B3 := Seg.hid (Cells.below_setCells (g := w.heap.size + 1) (by omega) (logArr ⟨l.start, l.next, l.roll, []⟩ (.slice A1 us.length c1)).toList 0 _ _ BW.out)
      have HF' : Hid (OwnS (wr.setCells (w.heap.size + 1) 0 (logArr ⟨l.start, l.next, l.roll, []⟩ (.slice A1 us.length c1)).toList) (seg w.heap.size (wr.setCells (w.heap.size + 1) 0 (logArr ⟨l.start, l.next, l.roll, []⟩ (.slice A1 us.length c1)).toList).heap.size) (.slice A1 us.length c1) us) := by
        refine (LOwn.keep keepsS OW.out (by rw [Cells.size_setCells]; exact Nat.le_refl _) (fun x hx => Cells.heap_setCells_other _ _ (by have := (SX.out x hx).1; omega))).mono (fun x hx => ?_)
        have a1 := SX.out x hx
        refine ⟨by omega, ?_⟩
        rw [Cells.size_setCells]
        exact a1.2
      have q9 : ¬ (k : Int) < (l.segs.length : Int) := by omega
      clear OW SX US SA LEN KN
      go_wp2_with (first | (refine wpList_load_row rfl 28 _ rfl w1.heap.size rfl _ _ _ _ O1.out Try.underlying28 rfl infoN ?_) | (refine wpList_store_mid rfl 28 _ _ rfl (w.heap.size + 1) 0 (logArr ⟨l.start, l.next, l.roll, []⟩ (.slice A1 us.length c1)) rfl rfl H5.out infoN (logArr_one _ _ rfl) ?_))
      exact bodyPost_ret (v := logVal ⟨l.start, l.next, l.roll, []⟩ (.slice A1 us.length c1)) (results_cell_row rfl _ _ (w.heap.size + 1) _ _ _ _ rfl H4.out Try.underlying28 rfl infoN) rfl ⟨.slice A1 us.length c1, by rw [HC.out]; rfl, by rw [HC.out]; show OwnS _ _ _ (joinS l.roll l.segs); rw [← UA.out]; exact HF'.out, B3.out⟩
theorem join_any (v : Value) (l : Lg) (w : World) (lo b : Nat) (hv : LogAt w lo b v l) (hb : b ≤ w.heap.size) (hf : FewL l) :
    Calls Try.prog 7 #[v] w fun e w' => ∃ sv, e = .returned (logVal (join l) sv) ∧ OwnS w' (seg w.heap.size w'.heap.size) sv (join l).segs ∧ Below w.heap.size w w' := by
  obtain ⟨sv, rfl, hs⟩ := hv
  obtain ⟨_, ⟨_, A, c, rfl, _⟩, _⟩ := id hs
  exact join_core l A c w lo b hb hf hs
end Go.Proofs.Ytfekhpegfbjleaa.Ft
