/- Commit of the program. -/
import Derived.Test.YtkdhelmnnbnphaaDoorCoP
import Derived.Test.YtkdhelmnnbnphaaDoorShelf
import Derived.Lib.AppendIntMem
import Derived.Test.YtkdhelmnnbnphaaDoorR2
import Derived.Deep.RegionHeld3
import Derived.Deep.RegionLaw
namespace Go.Proofs.YtkdhelmnnbnphaaDoor.CoI
set_option maxRecDepth 8000
open Go.RowKit
open Lp (inR inR_true)
open ItS (dec)
open CoP
open Recs (hsz below1 below2 chain)
set_option linter.unusedVariables false
set_option maxHeartbeats 6400000 in
theorem impl_any (g tp : ByteArray) (pt off tm : Int) (w : World) (hg : g.size ≤ maxLen) (hp : tp.size ≤ maxLen) (ht : Lib.TabIs Tryd.prog w "internal/strconv.uint64pow10" .u64 Lib.pow10Tab) :
    Calls Tryd.prog 8 #[.string g, .agg #[.string tp, .int .i64 pt], .int .i64 off, .int .i64 tm] w fun e w' => e = .returned (.tuple #[.agg (recA g tp pt off tm), .bool (okC g tp pt off tm)]) ∧ Below w.heap.size w w' := by
  have ON : Hid (∀ (a : Int) (b : Bool) (c d : ByteArray), (row a b c d).all (·.oneCell') = true) := fun a b c d => by simp [row, Value.oneCell']
  go_enter Tryd.func8, Tryd.ntmps8
  go_upto_region 1 with fail
  obtain ⟨w2, hw2⟩ : ∃ w2, (w.alloc (.cells #[.string tp, .int .i64 pt] 30 (0, 0))).alloc (.cells zrow 27 (0, 0)) = w2 := ⟨_, rfl⟩
  rw [hw2]
  have RA : Hid (w2.heap[w.heap.size]? = some (.cells #[.string tp, .int .i64 pt] 30 (0, 0))) := by show _ = _; rw [← hw2]; exact Ls.at2z _ _ _
  have RB : Hid (w2.heap[w.heap.size + 1]? = some (.cells zrow 27 (0, 0))) := by show _ = _; rw [← hw2]; exact Ls.at2y _ _ _
  have B2 : Hid (Below w.heap.size w w2) := by show Below _ _ _; rw [← hw2]; exact below2 w _ _
  have hl2 : w.heap.size + 1 < w2.heap.size := (Array.getElem?_eq_some_iff.1 RB.out).1
  clear hw2
  have c0 := cell_of_row w2 _ 0 _ _ (0, 0) RA.out
  have c1 := cell_of_row w2 _ 1 _ _ (0, 0) RA.out
  have END0 : Hid (∀ w3, Below w2.heap.size w2 w3 → (w3.setCells (w.heap.size + 1) 0 zrow.toList).heap[w.heap.size + 1]? = some (.cells zrow 27 (0, 0)) ∧ Below w.heap.size w (w3.setCells (w.heap.size + 1) 0 zrow.toList) ∧ w3.there (w.heap.size + 1) 0 6) := fun w3 b => ⟨row_whole (by rw [b.block _ hl2]; exact RB.out) rfl, Cells.below_setCells (g := w.heap.size + 1) (by omega) _ 0 _ _ (chain B2.out b), Cells.there_of (by rw [b.block _ hl2]; exact RB.out)⟩
  cases k1 : Nm.nameOk g with
  | false =>
    have Z : Hid (okC g tp pt off tm = false) := by show _ = _; simp [okC, k1]
    have K1 := Seg.hid k1
    clear k1
    go_upto_region 2 with (first | (go_at_call 21; refine (Nm.impl_q _ _ K1.out _ hg).mono ?_; rintro e w5 ⟨rfl, rfl⟩))
    clear c0 c1
    obtain ⟨RS, BS, TH⟩ := END0.out _ (Below.refl _ _)
    have RS' := Seg.hid RS
    have BS' := Seg.hid BS
    have TH' := Seg.hid TH
    clear RS BS TH
    go_wp2_with (refine wpList_store_mid rfl 27 _ _ rfl (w.heap.size + 1) 0 zrow rfl rfl TH'.out infoRec (ON.out _ _ _ _) ?_)
    exact bodyPost_ret (R2.results_row_tmp rfl _ _ (w.heap.size + 1) _ _ _ _ _ rfl rfl RS'.out Tryd.underlying27 rfl infoRec) rfl ⟨by rw [recA_no Z.out, Z.out]; rfl, BS'.out⟩
  | true =>
  have K1 := Seg.hid k1
  cases k2 : okT tp pt with
  | false =>
    have Z : Hid (okC g tp pt off tm = false) := by show _ = _; simp [okC, k2]
    have K2 := Seg.hid k2
    clear k1 k2
    go_upto_region 2 with (first | (go_at_call 21; refine (Nm.impl_q _ _ K1.out _ hg).mono ?_; rintro e w5 ⟨rfl, rfl⟩) | (go_at_call 22; refine (slotI_any tp pt false K2.out _ hp).mono ?_; rintro e w3 ⟨rfl, b3⟩; have B3 := Seg.hid b3; clear b3))
    clear c0 c1
    obtain ⟨RS, BS, TH⟩ := END0.out w3 B3.out
    have RS' := Seg.hid RS
    have BS' := Seg.hid BS
    have TH' := Seg.hid TH
    clear RS BS TH
    go_wp2_with (refine wpList_store_mid rfl 27 _ _ rfl (w.heap.size + 1) 0 zrow rfl rfl TH'.out infoRec (ON.out _ _ _ _) ?_)
    exact bodyPost_ret (R2.results_row_tmp rfl _ _ (w.heap.size + 1) _ _ _ _ _ rfl rfl RS'.out Tryd.underlying27 rfl infoRec) rfl ⟨by rw [recA_no Z.out, Z.out]; rfl, BS'.out⟩
  | true =>
  have K2 := Seg.hid k2
  cases k3 : inR 0 off 1000000000 with
  | false =>
    have Z : Hid (okC g tp pt off tm = false) := by show _ = _; simp [okC, k3]
    have K3 := Seg.hid k3
    clear k1 k2 k3
    go_upto_region 2 with (first | (go_at_call 21; refine (Nm.impl_q _ _ K1.out _ hg).mono ?_; rintro e w5 ⟨rfl, rfl⟩) | (go_at_call 22; refine (slotI_any tp pt true K2.out _ hp).mono ?_; rintro e w3 ⟨rfl, b3⟩; have B3 := Seg.hid b3; clear b3) | (go_at_call_of 23 (Value.int IntKind.i64 off); refine (InB.within_b _ _ _ false K3.out _).mono ?_; rintro e w5 ⟨rfl, rfl⟩))
    clear c0 c1
    obtain ⟨RS, BS, TH⟩ := END0.out w3 B3.out
    have RS' := Seg.hid RS
    have BS' := Seg.hid BS
    have TH' := Seg.hid TH
    clear RS BS TH
    go_wp2_with (refine wpList_store_mid rfl 27 _ _ rfl (w.heap.size + 1) 0 zrow rfl rfl TH'.out infoRec (ON.out _ _ _ _) ?_)
    exact bodyPost_ret (R2.results_row_tmp rfl _ _ (w.heap.size + 1) _ _ _ _ _ rfl rfl RS'.out Tryd.underlying27 rfl infoRec) rfl ⟨by rw [recA_no Z.out, Z.out]; rfl, BS'.out⟩
  | true =>
  have K3 := Seg.hid k3
  cases k4 : inR 0 tm 1000000000000 with
  | false =>
    have Z : Hid (okC g tp pt off tm = false) := by show _ = _; simp [okC, k4]
    have K4 := Seg.hid k4
    clear k1 k2 k3 k4
    go_upto_region 2 with (first | (go_at_call 21; refine (Nm.impl_q _ _ K1.out _ hg).mono ?_; rintro e w5 ⟨rfl, rfl⟩) | (go_at_call 22; refine (slotI_any tp pt true K2.out _ hp).mono ?_; rintro e w3 ⟨rfl, b3⟩; have B3 := Seg.hid b3; clear b3) | (go_at_call_of 23 (Value.int IntKind.i64 off); refine (InB.within_b _ _ _ true K3.out _).mono ?_; rintro e w5 ⟨rfl, rfl⟩) | (go_at_call_of 23 (Value.int IntKind.i64 tm); refine (InB.within_b _ _ _ false K4.out _).mono ?_; rintro e w5 ⟨rfl, rfl⟩))
    clear c0 c1
    obtain ⟨RS, BS, TH⟩ := END0.out w3 B3.out
    have RS' := Seg.hid RS
    have BS' := Seg.hid BS
    have TH' := Seg.hid TH
    clear RS BS TH
    go_wp2_with (refine wpList_store_mid rfl 27 _ _ rfl (w.heap.size + 1) 0 zrow rfl rfl TH'.out infoRec (ON.out _ _ _ _) ?_)
    exact bodyPost_ret (R2.results_row_tmp rfl _ _ (w.heap.size + 1) _ _ _ _ _ rfl rfl RS'.out Tryd.underlying27 rfl infoRec) rfl ⟨by rw [recA_no Z.out, Z.out]; rfl, BS'.out⟩
  | true =>
  have K4 := Seg.hid k4
  have Z : Hid (okC g tp pt off tm = true) := by show _ = _; simp [okC, k1, k2, k3, k4]
  have s1 := name_small k1
  have kk2 := k2
  simp only [okT, Bool.and_eq_true] at kk2
  have s2 := name_small kk2.1
  have s3 := inR_true kk2.2
  have s4 := inR_true k3
  clear k1 k2 k3 k4 kk2
  go_upto_region 3 with (first | (go_at_call 21; refine (Nm.impl_q _ _ K1.out _ hg).mono ?_; rintro e w5 ⟨rfl, rfl⟩) | (go_at_call 22; refine (slotI_any tp pt true K2.out _ hp).mono ?_; rintro e w3 ⟨rfl, b3⟩; have B3 := Seg.hid b3; clear b3) | (go_at_call_of 23 (Value.int IntKind.i64 off); refine (InB.within_b _ _ _ true K3.out _).mono ?_; rintro e w5 ⟨rfl, rfl⟩) | (go_at_call_of 23 (Value.int IntKind.i64 tm); refine (InB.within_b _ _ _ true K4.out _).mono ?_; rintro e w5 ⟨rfl, rfl⟩))
  have R3 : Hid (w3.heap[w.heap.size + 1]? = some (.cells zrow 27 (0, 0))) := by show _ = _; rw [B3.out.block _ hl2]; exact RB.out
  have B9 : Hid (Below w.heap.size w w3) := chain B2.out B3.out
  have d0 : w3.cell? ⟨w.heap.size, 0, none⟩ = some (.string tp) := (B3.out.cell (p := ⟨w.heap.size, 0, none⟩) (by show w.heap.size < _; omega)).trans c0
  have d1 : w3.cell? ⟨w.heap.size, 1, none⟩ = some (.int .i64 pt) := (B3.out.cell (p := ⟨w.heap.size, 1, none⟩) (by show w.heap.size < _; omega)).trans c1
  have hl3 : w.heap.size + 1 < w3.heap.size := Nat.lt_of_lt_of_le hl2 B3.out.size
  have HTB : Hid (∀ wx, Below w.heap.size w wx → Lib.TabIs Tryd.prog wx "internal/strconv.uint64pow10" .u64 Lib.pow10Tab) := fun wx b => Lib.tabBelow_of_tabIs ht wx b
  have FIN : Hid (∀ wx, Below w3.heap.size w3 wx → (wx.setCells (w.heap.size + 1) 0 (row tm true (key g tp pt) (dec off.toNat)).toList).heap[w.heap.size + 1]? = some (.cells (row tm true (key g tp pt) (dec off.toNat)) 27 (0, 0)) ∧ Below w.heap.size w (wx.setCells (w.heap.size + 1) 0 (row tm true (key g tp pt) (dec off.toNat)).toList) ∧ wx.there (w.heap.size + 1) 0 6) := fun wx b => ⟨row_whole (cs := zrow) (by rw [b.block _ hl3]; exact R3.out) rfl, Cells.below_setCells (g := w.heap.size + 1) (by omega) _ 0 _ _ (chain B9.out b), Cells.there_of (cs := zrow) (by rw [b.block _ hl3]; exact R3.out)⟩
  clear c0 c1 END0 ht
  have CP : Hid (∀ wx, Calls Tryd.prog 25 #[.int .i64 pt] wx fun e w' => e = .returned (.string (dec pt.toNat)) ∧ w' = wx) := fun wx => by
    have := Tryd.strconv_Itoa_small pt.toNat (by omega) wx
    rw [show ((pt.toNat : Nat) : Int) = pt by omega] at this
    exact this
  have CO : Hid (∀ wx, Below w.heap.size w wx → Calls Tryd.prog 25 #[.int .i64 off] wx fun e w' => e = .returned (.string (dec off.toNat)) ∧ Below wx.heap.size wx w') := fun wx b => by
    refine (Tryd.strconv_Itoa off (by omega) (by omega) wx (HTB.out wx b)).mono ?_
    rintro e w' ⟨rfl, k, os, rfl⟩
    refine ⟨?_, Lib.below_grow _ wx (Nat.le_refl _) k os⟩
    unfold Lib.itoa dec
    rw [if_neg (by omega)]
  have CJ : Hid (∀ wx : World, wx.heap = (w3.alloc (.cells #[.string g, .string tp, .string (dec pt.toNat)] 9 (0, 0))).heap → Calls Tryd.prog 24 #[.slice (some ⟨w3.heap.size, 0, none⟩) 3 3, .string ⟨#[47]⟩] wx fun e w' => e = .returned (.string (key g tp pt)) ∧ Below wx.heap.size wx w') := fun wx hx => by
    have hl : wx.heap.size = w3.heap.size + 1 := by rw [hx, hsz]
    have m1 := dec_size pt.toNat
    have hkey : (⟨(Lib.join ([g, tp, dec pt.toNat].map (·.data.toList)) (⟨#[47]⟩ : ByteArray).data.toList).toArray⟩ : ByteArray) = key g tp pt := by
      apply ByteArray.ext
      simp [Lib.join, List.intercalate, key, ByteArray.data_append]
    have hsize : (Lib.join ([g, tp, dec pt.toNat].map (·.data.toList)) (⟨#[47]⟩ : ByteArray).data.toList).length ≤ 140737488355328 := by
      have e : (Lib.join ([g, tp, dec pt.toNat].map (·.data.toList)) (⟨#[47]⟩ : ByteArray).data.toList).length = (key g tp pt).size := by rw [← hkey]; simp [ByteArray.size]
      rw [e]
      unfold key
      simp only [ByteArray.size_append]
      have : (⟨#[47]⟩ : ByteArray).size = 1 := rfl
      omega
    have := Tryd.strings_Join w3.heap.size 0 3 [g, tp, dec pt.toNat] ⟨#[47]⟩ wx (fun j x hj => by
      have hr : wx.heap[w3.heap.size]? = some (.cells #[.string g, .string tp, .string (dec pt.toNat)] 9 (0, 0)) := by rw [hx]; exact heap_alloc_new _ _
      rw [Nat.zero_add, cell_of_row wx w3.heap.size j _ _ (0, 0) hr]
      match j, hj with
      | 0, hj => cases hj; rfl
      | 1, hj => cases hj; rfl
      | 2, hj => cases hj; rfl) (by omega) (by simp) (by simp) hsize
    rw [hkey] at this
    exact this
  clear s1 s2 s3 s4
  go_region_law (first | (go_simp; go_at_call 25; refine (CP.out _).mono ?_; rintro e w8 ⟨rfl, h8⟩; subst h8) | (go_simp; go_at_call 24; refine (CJ.out _ (by rfl)).mono ?_; rintro e w9 ⟨rfl, b9⟩; have BJ : Hid (Below w3.heap.size w3 w9) := chain (below1 w3 _) ⟨b9.os, b9.tape, b9.output, b9.size, b9.block⟩; clear b9))
  all_goals
    have BX := Seg.hid (chain B9.out BJ.out)
    clear d0 d1
    go_wp2_with (first | (go_at_call 25; refine (CO.out _ BX.out).mono ?_; rintro e w7 ⟨rfl, b7⟩; have FI := Seg.hid (FIN.out _ (chain BJ.out b7)); clear b7) | (refine wpList_store_mid rfl 27 _ _ rfl (w.heap.size + 1) 0 (row tm true (key g tp pt) (dec off.toNat)) rfl rfl FI.out.2.2 infoRec (ON.out _ _ _ _) ?_))
    exact bodyPost_ret (v := .tuple #[.agg (row tm true (key g tp pt) (dec off.toNat)), .bool true]) (R2.results_row_tmp rfl _ _ (w.heap.size + 1) _ (row tm true (key g tp pt) (dec off.toNat)) _ _ _ rfl rfl FI.out.1 Tryd.underlying27 rfl infoRec) rfl ⟨by rw [recA_yes Z.out, Z.out], FI.out.2.1⟩
end Go.Proofs.YtkdhelmnnbnphaaDoor.CoI
