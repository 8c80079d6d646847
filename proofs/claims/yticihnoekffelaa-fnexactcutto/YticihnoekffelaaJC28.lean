/- The program's copy of a list of Segments; A log cut at the front, on plain data; parts of lists in memory. -/
import Derived.Test.YticihnoekffelaaJC27
import Derived.Test.YticihnoekffelaaJC23
import Derived.Test.YticihnoekffelaaJC24
namespace Go.Proofs.Yticihnoekffelaa.Ft
set_option maxRecDepth 8000
open Go.RowKit
open Recs
open Bats (BatsAt batsCells)
open SegW
open Segs (SegsAt segsCells)
set_option linter.unusedVariables false
theorem seg_el {w : World} {t : Sg} {bv : Value} {Q : Nat → Prop} (h : OwnB w Q bv t.bats) : ES w Q (fun q => (segArr t bv).toList.getD q default) t := ⟨rfl, h⟩
theorem infoSg : (Try.prog.info? 55).map (fun i => (i.zero, i.size, i.bytes)) = some (some (.agg #[.int .i64 0, .slice none 0 0]), 2, 32) := by kernel_rfl
/-- One Segment more: w8: behind its copy; w9: behind append. -/
theorem segs_push {base : Nat} {wr w8 w9 : World} {v : Value} {us : List Sg} {F : Nat → Value} {P : Nat → Nat → Prop} {t : Sg} {bv : Value} {o : Obj} {g cap : Nat} (hbase : base ≤ wr.heap.size) (hG : LGr 55 2 ES wr base v us F P) (b8 : Below wr.heap.size wr w8) (ho : OwnB w8 (seg wr.heap.size w8.heap.size) bv t.bats)
    (hown : w9.ownsRow base 55 2 (.slice (some ⟨g, 0, none⟩) (us.length + 1) cap) (us.length + 1) ((List.range (us.length * 2)).map F ++ (segArr t bv).toList)) (gr : (w8.alloc o).grownBy w9 v.ownBlock) (hg : v.ownBlock = some g ∨ g = w8.heap.size + 1) :
    LGrow 55 2 ES w9 base (.slice (some ⟨g, 0, none⟩) (us.length + 1) cap) (us ++ [t]) ∧ Below base wr w9 := by
  have s8 := b8.size
  have gs := gr.size
  rw [hsz] at gs
  have hvb : ∀ x, v.ownBlock = some x → base ≤ x ∧ x < wr.heap.size := fun x hx => World.ownsRow.lt hG.own x hx
  refine ⟨LGr.push keepsS (w2 := w8.alloc o) (w3 := w9) (g := g) (cap := cap) (Q := seg wr.heap.size w8.heap.size) (t := t) (news := (segArr t bv).toList) hG hbase (by rw [hsz]; omega) (fun x _ hx => by rw [heap_alloc_old _ _ (by omega), b8.block x hx]) (seg_el (LOwn.keep keepsB ho (by rw [hsz]; omega) (fun x hx => heap_alloc_old _ _ hx.2))) (fun x hx => by rw [hsz]; obtain ⟨x1, x2⟩ := hx; exact ⟨x1, by omega⟩) rfl hown gr (by rw [hsz]; exact hg), gr.os.trans b8.os, gr.tape.trans b8.tape, gr.output.trans b8.output, by omega, fun x hx => ?_⟩
  rw [gr.block x (by rw [hsz]; omega) (fun e => by have := hvb x e.symm; omega), heap_alloc_old _ _ (by omega), b8.block x (by omega)]
set_option maxHeartbeats 1600000 in
theorem copySegments_core (ss : List Sg) (A : Option Addr) (c : Nat) (w : World) (lo b : Nat) (hb : b ≤ w.heap.size) (hl : ss.length ≤ 1048576) (hf : ∀ i, i < ss.length → FewS (ss.getD i default)) (hv : SegsAt w lo b (.slice A ss.length c) ss) :
    Calls Try.prog 29 #[.slice A ss.length c] w fun e w' => ∃ sv, e = .returned sv ∧ LGrow 55 2 ES w' w.heap.size sv ss ∧ Below w.heap.size w w' := by
  obtain ⟨i0, hi, hz0, hz1, hz2⟩ := info_parts infoSg
  have HF := Seg.hid hf
  obtain ⟨H, ⟨_, A', c', hsl, hrow⟩, hh⟩ := hv
  simp only [Value.slice.injEq] at hsl
  obtain ⟨rfl, _, rfl⟩ := hsl
  have HROW := Seg.hid hrow; have HH := Seg.hid hh
  clear hrow hh hf
  go_enter Try.func29, Try.ntmps29
  go_wp2_with fail
  go_loopw [3, 8] (fun v i wr => ∃ (j : Nat) (us : List Sg) (A1 : Option Addr) (c1 : Nat), j ≤ ss.length ∧ i = .int .i64 j ∧ v = .slice A1 us.length c1 ∧ Hid (us = ss.take j ∧ LGrow 55 2 ES wr w.heap.size (.slice A1 us.length c1) us ∧ Below w.heap.size w wr)) (fun _ i _ => ss.length - (intOf i).toNat)
  case atStart => exact ⟨0, [], none, 0, Nat.zero_le _, rfl, rfl, by simp, LGrow.nil _ _, Below.refl _ _⟩
  case round =>
    obtain ⟨j, us, A1, c1, hj, rfl, rfl, HW⟩ := hrel
    by_cases hlt : j < ss.length
    · have h0 : (0 : Int) ≤ (j : Int) := by omega
      have h1 : (j : Int) < (ss.length : Int) := by omega
      obtain ⟨g, o, rfl, hg, hc, hcell, _⟩ := HROW.out.resolve_left (by omega)
      have hgw : g < w.heap.size := by omega
      obtain ⟨e0, e1⟩ := Segs.six (fun i hi q hq => by rw [HW.out.2.2.cell (p := ⟨g, o + i * 2 + q, none⟩) hgw]; exact hcell i hi q hq) j hlt
      have UL : Hid (us.length = j) := by show _ = _; rw [HW.out.1, List.length_take]; omega
      have UN : Hid (us ++ [ss.getD j default] = ss.take (j + 1)) := by show _ = _; rw [HW.out.1]; exact (take_one hlt).symm
      have BL := Seg.hid HW.out.2.2
      obtain ⟨F, P, hG⟩ := HW.out.2.1
      have HG := Seg.hid hG
      have hz := BL.out.size
      have hul : us.length ≤ 1048576 := by rw [UL.out]; omega
      have BT : Hid (∀ wx, Below wr.heap.size wr wx → SegAt wx lo b (.agg (segArr (ss.getD j default) (H j))) (ss.getD j default)) := fun wx bx => ⟨_, rfl, (HH.out j hlt).below ((chain HW.out.2.2 bx).mono hb)⟩
      have FB := Seg.hid (HF.out j hlt)
      obtain ⟨_, ⟨_, Ah, ch, hHj, _⟩, _⟩ := HH.out j hlt
      clear hcell HW hG
      generalize ss.getD j default = tj at *
      rw [hHj] at e1 BT
      clear hHj
      go_wp2_with fail
      refine (copySegment_any _ tj (wr.alloc _) lo b (BT.out _ (below1 wr _)) (by rw [hsz]; omega) FB.out).mono ?_
      rintro e w8 ⟨rv8, rfl, ow8, b8'⟩
      have b8 := Seg.hid (chain (below1 wr _) b8')
      have O8 := Seg.hid (LOwn.mono ow8 (S' := seg wr.heap.size w8.heap.size) (fun x hx => ⟨Nat.le_trans (by rw [hsz]; omega) hx.1, hx.2⟩))
      have s8 := b8.out.size
      obtain ⟨A8, c8, hA8⟩ := LOwn.form ow8
      subst hA8
      clear ow8 b8' e0 e1
      unfold segVal
      go_wp2_with (at_builtin; (refine wpList_append_lies _ rfl _ _ 26 rfl w.heap.size 55 i0 _ 2 32 Try.underlying26 hi hz0 hz1 hz2 rfl (by decide) (.slice A1 us.length c1) us.length ((List.range (us.length * 2)).map F) rfl (World.ownsRow.alloc (own_keep HG.out.own (fun x _ hx => b8.out.block x hx)) _) ⟨w8.heap.size, 0, none⟩ 1 1 (segArr tj (.slice A8 tj.bats.length c8)).toList rfl rfl (World.news_of_block (cs := segArr tj (.slice A8 tj.bats.length c8)) (heap_alloc_new w8 _)) (by simp [segArr, Value.oneCell']) (by decide) (by unfold maxLen; omega) (by omega) (by rw [hsz]; omega) (w8.heap.size + 1) (hsz w8 _) ?_; intro g9 cap9 w9 hown9 gr9 hat9 hlt9; have D9 := Seg.hid (segs_push hz HG.out b8.out O8.out hown9 gr9 hat9); clear hown9 gr9 hat9 hlt9))
      go_roundw
      case rel => exact ⟨j + 1, us ++ [tj], some ⟨g9, 0, none⟩, cap9, by omega, by go_num, by rw [List.length_append]; rfl, UN.out, by rw [List.length_append]; exact D9.out.1, BL.out.trans D9.out.2⟩
      case measure => simp [intOf]; omega
    · have G1 : Hid (LGrow 55 2 ES wr w.heap.size (.slice A1 us.length c1) ss ∧ Below w.heap.size w wr) := by
        have := HW.out
        rw [show j = ss.length by omega, List.take_length] at this
        obtain ⟨rfl, h2⟩ := this
        exact h2
      have : j = ss.length := by omega
      clear HW
      subst this
      go_wp2_with fail
      go_ret
      exact ⟨_, rfl, G1.out⟩
theorem copySegments_any (v : Value) (ss : List Sg) (w : World) (lo b : Nat) (hb : b ≤ w.heap.size) (hl : ss.length ≤ 1048576) (hf : ∀ i, i < ss.length → FewS (ss.getD i default)) (hv : SegsAt w lo b v ss) :
    Calls Try.prog 29 #[v] w fun e w' => ∃ sv, e = .returned sv ∧ LGrow 55 2 ES w' w.heap.size sv ss ∧ Below w.heap.size w w' := by
  obtain ⟨_, ⟨_, A, c, rfl, _⟩, _⟩ := id hv
  exact copySegments_core ss A c w lo b hb hl hf hv
end Go.Proofs.Yticihnoekffelaa.Ft
namespace Go.Proofs.Yticihnoekffelaa.Ft
set_option maxRecDepth 8000
open Go.RowKit
open Recs
open Bats SegW Segs LogW SrP
open LgP (logOk inR)
set_option linter.unusedVariables false
def cutF (l : Lg) (x : Int) : Lg × Bool := if (logOk l && inR x l.start l.next) = true then (⟨x, l.next, l.roll, l.segs.drop (kf (pS x) l.segs)⟩, true) else (⟨0, 0, 0, []⟩, false)
end Go.Proofs.Yticihnoekffelaa.Ft
