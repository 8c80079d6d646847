/- Commit of the model. -/
import Derived.Test.YtkdhelmnnbnphaaDoorCoP
import Derived.Test.YtkdhelmnnbnphaaDoorR2
import Derived.Deep.RegionHeld3
import Derived.Deep.RegionLaw
namespace Go.Proofs.YtkdhelmnnbnphaaDoor.CoS
set_option maxRecDepth 8000
open Go.RowKit
open Lp (inR inR_true)
open ItS (dec)
open CoP
open Recs (hsz below1 below2 chain)
set_option linter.unusedVariables false
set_option maxHeartbeats 6400000 in
theorem spec_any (g tp : ByteArray) (pt off tm : Int) (w : World) (hg : g.size ≤ maxLen) (hp : tp.size ≤ maxLen) :
    Calls Tryd.prog 6 #[.string g, .agg #[.string tp, .int .i64 pt], .int .i64 off, .int .i64 tm] w fun e w' => e = .returned (.tuple #[.agg (recA g tp pt off tm), .bool (okC g tp pt off tm)]) ∧ Below w.heap.size w w' := by
  have ON : Hid (∀ (a : Int) (b : Bool) (c d : ByteArray), (row a b c d).all (·.oneCell') = true) := fun a b c d => by simp [row, Value.oneCell']
  go_enter Tryd.func6, Tryd.ntmps6
  go_upto_region 1 with fail
  obtain ⟨w2, hw2⟩ : ∃ w2, (w.alloc (.cells #[.string tp, .int .i64 pt] 30 (0, 0))).alloc (.cells zrow 27 (0, 0)) = w2 := ⟨_, rfl⟩
  rw [hw2]
  have RA : Hid (w2.heap[w.heap.size]? = some (.cells #[.string tp, .int .i64 pt] 30 (0, 0))) := by show _ = _; rw [← hw2]; exact Ls.at2z _ _ _
  have RB : Hid (w2.heap[w.heap.size + 1]? = some (.cells zrow 27 (0, 0))) := by show _ = _; rw [← hw2]; exact Ls.at2y _ _ _
  have B2 : Hid (Below w.heap.size w w2) := by show Below _ _ _; rw [← hw2]; exact below2 w _ _
  have hl2 : w.heap.size + 1 < w2.heap.size := (Array.getElem?_eq_some_iff.1 RB.out).1
  clear hw2
  have c0 := cell_of_row w2 _ 0 _ _ (0, 0) RA.out
  have c1 := cell_of_row w2 _ 1 _ _ (0, 0) RA.out
  have END0 : Hid (∀ w3, Below w2.heap.size w2 w3 → (w3.setCells (w.heap.size + 1) 0 zrow.toList).heap[w.heap.size + 1]? = some (.cells zrow 27 (0, 0)) ∧ Below w.heap.size w (w3.setCells (w.heap.size + 1) 0 zrow.toList) ∧ w3.there (w.heap.size + 1) 0 6) := fun w3 b => ⟨row_whole (by rw [b.block _ hl2]; exact RB.out) rfl, Cells.below_setCells (g := w.heap.size + 1) (by omega) _ 0 _ _ (chain B2.out b), Cells.there_of (by rw [b.block _ hl2]; exact RB.out)⟩
  cases k1 : Nm.nameOk g with
  | false =>
    have Z : Hid (okC g tp pt off tm = false) := by show _ = _; simp [okC, k1]
    have K1 := Seg.hid k1
    clear k1
    go_upto_region 2 with (first | (go_at_call 17; refine (Nm.spec_q _ _ K1.out _ hg).mono ?_; rintro e w5 ⟨rfl, rfl⟩))
    clear c0 c1
    obtain ⟨RS, BS, TH⟩ := END0.out _ (Below.refl _ _)
    have RS' := Seg.hid RS
    have BS' := Seg.hid BS
    have TH' := Seg.hid TH
    clear RS BS TH
    go_wp2_with (refine wpList_store_mid rfl 27 _ _ rfl (w.heap.size + 1) 0 zrow rfl rfl TH'.out infoRec (ON.out _ _ _ _) ?_)
    exact bodyPost_ret (R2.results_row_tmp rfl _ _ (w.heap.size + 1) _ _ _ _ _ rfl rfl RS'.out Tryd.underlying27 rfl infoRec) rfl ⟨by rw [recA_no Z.out, Z.out]; rfl, BS'.out⟩
  | true =>
  have K1 := Seg.hid k1
  cases k2 : okT tp pt with
  | false =>
    have Z : Hid (okC g tp pt off tm = false) := by show _ = _; simp [okC, k2]
    have K2 := Seg.hid k2
    clear k1 k2
    go_upto_region 2 with (first | (go_at_call 17; refine (Nm.spec_q _ _ K1.out _ hg).mono ?_; rintro e w5 ⟨rfl, rfl⟩) | (go_at_call 18; refine (slotS_any tp pt false K2.out _ hp).mono ?_; rintro e w3 ⟨rfl, b3⟩; have B3 := Seg.hid b3; clear b3))
    clear c0 c1
    obtain ⟨RS, BS, TH⟩ := END0.out w3 B3.out
    have RS' := Seg.hid RS
    have BS' := Seg.hid BS
    have TH' := Seg.hid TH
    clear RS BS TH
    go_wp2_with (refine wpList_store_mid rfl 27 _ _ rfl (w.heap.size + 1) 0 zrow rfl rfl TH'.out infoRec (ON.out _ _ _ _) ?_)
    exact bodyPost_ret (R2.results_row_tmp rfl _ _ (w.heap.size + 1) _ _ _ _ _ rfl rfl RS'.out Tryd.underlying27 rfl infoRec) rfl ⟨by rw [recA_no Z.out, Z.out]; rfl, BS'.out⟩
  | true =>
  have K2 := Seg.hid k2
  cases k3 : inR 0 off 1000000000 with
  | false =>
    have Z : Hid (okC g tp pt off tm = false) := by show _ = _; simp [okC, k3]
    have K3 := Seg.hid k3
    clear k1 k2 k3
    go_upto_region 2 with (first | (go_at_call 17; refine (Nm.spec_q _ _ K1.out _ hg).mono ?_; rintro e w5 ⟨rfl, rfl⟩) | (go_at_call 18; refine (slotS_any tp pt true K2.out _ hp).mono ?_; rintro e w3 ⟨rfl, b3⟩; have B3 := Seg.hid b3; clear b3) | (go_at_call_of 19 (Value.int IntKind.i64 off); refine (InB.l1In_b _ _ _ false K3.out _).mono ?_; rintro e w5 ⟨rfl, rfl⟩))
    clear c0 c1
    obtain ⟨RS, BS, TH⟩ := END0.out w3 B3.out
    have RS' := Seg.hid RS
    have BS' := Seg.hid BS
    have TH' := Seg.hid TH
    clear RS BS TH
    go_wp2_with (refine wpList_store_mid rfl 27 _ _ rfl (w.heap.size + 1) 0 zrow rfl rfl TH'.out infoRec (ON.out _ _ _ _) ?_)
    exact bodyPost_ret (R2.results_row_tmp rfl _ _ (w.heap.size + 1) _ _ _ _ _ rfl rfl RS'.out Tryd.underlying27 rfl infoRec) rfl ⟨by rw [recA_no Z.out, Z.out]; rfl, BS'.out⟩
  | true =>
  have K3 := Seg.hid k3
  cases k4 : inR 0 tm 1000000000000 with
  | false =>
    have Z : Hid (okC g tp pt off tm = false) := by show _ = _; simp [okC, k4]
    have K4 := Seg.hid k4
    clear k1 k2 k3 k4
    go_upto_region 2 with (first | (go_at_call 17; refine (Nm.spec_q _ _ K1.out _ hg).mono ?_; rintro e w5 ⟨rfl, rfl⟩) | (go_at_call 18; refine (slotS_any tp pt true K2.out _ hp).mono ?_; rintro e w3 ⟨rfl, b3⟩; have B3 := Seg.hid b3; clear b3) | (go_at_call_of 19 (Value.int IntKind.i64 off); refine (InB.l1In_b _ _ _ true K3.out _).mono ?_; rintro e w5 ⟨rfl, rfl⟩) | (go_at_call_of 19 (Value.int IntKind.i64 tm); refine (InB.l1In_b _ _ _ false K4.out _).mono ?_; rintro e w5 ⟨rfl, rfl⟩))
    clear c0 c1
    obtain ⟨RS, BS, TH⟩ := END0.out w3 B3.out
    have RS' := Seg.hid RS
    have BS' := Seg.hid BS
    have TH' := Seg.hid TH
    clear RS BS TH
    go_wp2_with (refine wpList_store_mid rfl 27 _ _ rfl (w.heap.size + 1) 0 zrow rfl rfl TH'.out infoRec (ON.out _ _ _ _) ?_)
    exact bodyPost_ret (R2.results_row_tmp rfl _ _ (w.heap.size + 1) _ _ _ _ _ rfl rfl RS'.out Tryd.underlying27 rfl infoRec) rfl ⟨by rw [recA_no Z.out, Z.out]; rfl, BS'.out⟩
  | true =>
  have K4 := Seg.hid k4
  have Z : Hid (okC g tp pt off tm = true) := by show _ = _; simp [okC, k1, k2, k3, k4]
  have s1 := name_small k1
  have kk2 := k2
  simp only [okT, Bool.and_eq_true] at kk2
  have s2 := name_small kk2.1
  have s3 := inR_true kk2.2
  have s4 := inR_true k3
  clear k1 k2 k3 k4 kk2
  go_upto_region 3 with (first | (go_at_call 17; refine (Nm.spec_q _ _ K1.out _ hg).mono ?_; rintro e w5 ⟨rfl, rfl⟩) | (go_at_call 18; refine (slotS_any tp pt true K2.out _ hp).mono ?_; rintro e w3 ⟨rfl, b3⟩; have B3 := Seg.hid b3; clear b3) | (go_at_call_of 19 (Value.int IntKind.i64 off); refine (InB.l1In_b _ _ _ true K3.out _).mono ?_; rintro e w5 ⟨rfl, rfl⟩) | (go_at_call_of 19 (Value.int IntKind.i64 tm); refine (InB.l1In_b _ _ _ true K4.out _).mono ?_; rintro e w5 ⟨rfl, rfl⟩))
  have R3 : Hid (w3.heap[w.heap.size + 1]? = some (.cells zrow 27 (0, 0))) := by show _ = _; rw [B3.out.block _ hl2]; exact RB.out
  have B9 : Hid (Below w.heap.size w w3) := chain B2.out B3.out
  have d0 : w3.cell? ⟨w.heap.size, 0, none⟩ = some (.string tp) := (B3.out.cell (p := ⟨w.heap.size, 0, none⟩) (by show w.heap.size < _; omega)).trans c0
  have d1 : w3.cell? ⟨w.heap.size, 1, none⟩ = some (.int .i64 pt) := (B3.out.cell (p := ⟨w.heap.size, 1, none⟩) (by show w.heap.size < _; omega)).trans c1
  have hl3 : w.heap.size + 1 < w3.heap.size := Nat.lt_of_lt_of_le hl2 B3.out.size
  have KX : Hid (∀ wx, Below w3.heap.size w3 wx → wx.heap[w.heap.size + 1]? = some (.cells zrow 27 (0, 0)) ∧ wx.cell? ⟨w.heap.size, 0, none⟩ = some (.string tp) ∧ wx.cell? ⟨w.heap.size, 1, none⟩ = some (.int .i64 pt)) := fun wx b => ⟨by rw [b.block _ hl3]; exact R3.out, (b.cell (p := ⟨w.heap.size, 0, none⟩) (by show w.heap.size < _; omega)).trans d0, (b.cell (p := ⟨w.heap.size, 1, none⟩) (by show w.heap.size < _; omega)).trans d1⟩
  have FIN : Hid (∀ wx, Below w3.heap.size w3 wx → (wx.setCells (w.heap.size + 1) 0 (row tm true (key g tp pt) (dec off.toNat)).toList).heap[w.heap.size + 1]? = some (.cells (row tm true (key g tp pt) (dec off.toNat)) 27 (0, 0)) ∧ Below w.heap.size w (wx.setCells (w.heap.size + 1) 0 (row tm true (key g tp pt) (dec off.toNat)).toList)) := fun wx b => ⟨row_whole (cs := zrow) (by rw [b.block _ hl3]; exact R3.out) rfl, Cells.below_setCells (g := w.heap.size + 1) (by omega) _ 0 _ _ (chain B9.out b)⟩
  clear c0 c1 END0
  have m1 : (dec pt.toNat).size ≤ 50 := by have := dec_size pt.toNat; omega
  have g1 : ¬ 9223372036854775807 < g.size + 1 := by omega
  have g2 : ¬ 9223372036854775807 < g.size + 1 + tp.size := by omega
  have g3 : ¬ 9223372036854775807 < g.size + 1 + tp.size + 1 := by omega
  have g4 : ¬ 9223372036854775807 < g.size + 1 + tp.size + 1 + (dec pt.toNat).size := by omega
  have CP : Hid (∀ wx, Calls Tryd.prog 20 #[.int .i64 pt] wx fun e w' => e = .returned (.string (dec pt.toNat)) ∧ Below wx.heap.size wx w') := fun wx => itoa_int pt s3.1 (by omega) wx
  have CO : Hid (∀ wx, Calls Tryd.prog 20 #[.int .i64 off] wx fun e w' => e = .returned (.string (dec off.toNat)) ∧ Below wx.heap.size wx w') := fun wx => itoa_int off s4.1 s4.2 wx
  clear s3 s4
  go_region_law (first | (go_simp; go_at_call_of 20 (Value.int IntKind.i64 pt); refine (CP.out _).mono ?_; rintro e w8 ⟨rfl, b8⟩; (first | (have BP : Hid (Below w3.heap.size w3 w8) := chain BO.out ⟨b8.os, b8.tape, b8.output, b8.size, b8.block⟩) | (have BP : Hid (Below w3.heap.size w3 w8) := ⟨b8.os, b8.tape, b8.output, b8.size, b8.block⟩)); clear b8; obtain ⟨e1, e2, e3⟩ := KX.out _ BP.out; obtain ⟨⟨x0, x1, x2, x3, x4, x5⟩, y0, y1, y2, y3, y4, y5⟩ := twelve e1; clear e1) | (go_simp; go_at_call_of 20 (Value.int IntKind.i64 off); refine (CO.out _).mono ?_; rintro e w9 ⟨rfl, b9⟩; (first | (have BO : Hid (Below w3.heap.size w3 w9) := chain BP.out ⟨b9.os, b9.tape, b9.output, b9.size, b9.block⟩) | (have BO : Hid (Below w3.heap.size w3 w9) := ⟨b9.os, b9.tape, b9.output, b9.size, b9.block⟩)); clear b9; obtain ⟨e1, e2, e3⟩ := KX.out _ BO.out; obtain ⟨⟨x0, x1, x2, x3, x4, x5⟩, y0, y1, y2, y3, y4, y5⟩ := twelve e1; clear e1))
  all_goals
    have FI := Seg.hid (FIN.out _ BO.out)
    clear x0 x1 x2 x3 x4 x5 y0 y1 y2 y3 y4 y5 d0 d1 g1 g2 g3 g4
    go_wp2_with fail
    exact bodyPost_ret (v := .tuple #[.agg (row tm true (key g tp pt) (dec off.toNat)), .bool true]) (R2.results_row_tmp rfl _ _ (w.heap.size + 1) _ (row tm true (key g tp pt) (dec off.toNat)) _ _ _ rfl rfl FI.out.1 Tryd.underlying27 rfl infoRec) rfl ⟨by rw [recA_yes Z.out, Z.out], FI.out.2⟩
end Go.Proofs.YtkdhelmnnbnphaaDoor.CoS
