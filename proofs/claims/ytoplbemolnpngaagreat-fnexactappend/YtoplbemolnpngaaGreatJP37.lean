/- The model's copy of a Log: its lists may still grow. -/
import Derived.Test.YtoplbemolnpngaaGreatJP36
import Derived.Test.YtoplbemolnpngaaGreatJP30
import Derived.Test.YtoplbemolnpngaaGreatJP26
namespace Go.Proofs.YtoplbemolnpngaaGreat.Ft
set_option maxRecDepth 8000
open Go.RowKit
open Recs
open Bats (BatsAt batsCells)
open SegW LogW
open Segs (SegsAt segsCells)
set_option linter.unusedVariables false
/-- What the other variables of the copy hold. -/
def frL (w : World) (l : Lg) (v0 : Value) (x : Nat) : Option Obj := if x = w.heap.size then some (.cells (logArr l v0) 32 (0, 0)) else some (.cells (logArr ⟨0, 0, 0, []⟩ (.slice none 0 0)) 32 (0, 0))

/-- Behind the copy of one Segment's Batches. -/
structure AfterS (w wr w8 : World) (l : Lg) (fr : Nat → Option Obj) (t : Sg) (v bv : Value) (us : List Sg) (F : Nat → Value) (P : Nat → Nat → Prop) (g o j : Nat) (v0 hj : Value) : Prop where
  out3 : w8.cell? ⟨w.heap.size + 1 + 1, 3, none⟩ = some v
  c0 : w8.cell? ⟨g, o + j * 2, none⟩ = some (.int .i64 t.base)
  c1 : w8.cell? ⟨g, o + j * 2 + 1, none⟩ = some hj
  par : w8.cell? ⟨w.heap.size, 3, none⟩ = some v0
  lt : w.heap.size + 1 + 1 < w8.heap.size
  lt0 : w.heap.size < w8.heap.size
  ltg : g < w8.heap.size
  own : ∀ o9, (w8.alloc o9).ownsRow (w.heap.size + 3) 55 2 v us.length ((List.range (us.length * 2)).map F)
  base : w.heap.size + 3 ≤ (w8.alloc (.cells (segArr t bv) 55 (0, 0))).heap.size
  one : ∀ u ∈ (segArr t bv).toList, u.oneCell' = true
  news : ∀ j u, (segArr t bv).toList[j]? = some u → (w8.alloc (.cells (segArr t bv) 55 (0, 0))).cell? ((⟨w8.heap.size, 0, none⟩ : Addr).add j) = some u
  push : ∀ g9 cap9 w9, w9.ownsRow (w.heap.size + 3) 55 2 (.slice (some ⟨g9, 0, none⟩) (us.length + 1) cap9) (us.length + 1) ((List.range (us.length * 2)).map F ++ (segArr t bv).toList) → (w8.alloc (.cells (segArr t bv) 55 (0, 0))).grownBy w9 v.ownBlock → (v.ownBlock = some g9 ∨ g9 = w8.heap.size + 1) → GV 55 2 EG w (w9.setCell ⟨w.heap.size + 1 + 1, 3, none⟩ (.slice (some ⟨g9, 0, none⟩) (us.length + 1) cap9)) 3 (w.heap.size + 1 + 1) 32 (logArr l) fr (.slice (some ⟨g9, 0, none⟩) (us.length + 1) cap9) (us ++ [t]) ∧ w9.cell? ⟨w.heap.size + 1 + 1, 3, none⟩ = some v ∧ w9.frozen? ⟨w.heap.size + 1 + 1, 3, none⟩ = false
theorem afterS {w wr w8 : World} {l : Lg} {fr : Nat → Option Obj} {t : Sg} {v : Value} {A8 : Option Addr} {c8 : Nat} {us : List Sg} {F : Nat → Value} {P : Nat → Nat → Prop} {g o j : Nat} {v0 hj : Value} (h : GV 55 2 EG w wr 3 (w.heap.size + 1 + 1) 32 (logArr l) fr v us) (hG : LGr 55 2 EG wr (w.heap.size + 3) v us F P) (b8 : Below wr.heap.size wr w8) (O8 : LGrS 38 7 EB w8 (seg wr.heap.size w8.heap.size) (.slice A8 t.bats.length c8) t.bats)
    (h1 : w8.cell? ⟨w.heap.size + 1 + 1, 3, none⟩ = some v) (h2 : w8.cell? ⟨g, o + j * 2, none⟩ = some (.int .i64 t.base) ∧ w8.cell? ⟨g, o + j * 2 + 1, none⟩ = some hj) (h3 : w8.cell? ⟨w.heap.size, 3, none⟩ = some v0) (hg : g < w.heap.size) : AfterS w wr w8 l fr t v (.slice A8 t.bats.length c8) us F P g o j v0 hj := by
  have hz := h.size
  have s8 := b8.size
  exact ⟨h1, h2.1, h2.2, h3, by omega, by omega, by omega, fun o9 => World.ownsRow.alloc (own_keep hG.own (fun x _ hx => b8.block x hx)) _, by rw [hsz]; omega, by simp [segArr, Value.oneCell'], World.news_of_block (heap_alloc_new w8 _), fun g9 cap9 w9 a1 a2 a3 => GV.push keepsG (Q := seg wr.heap.size w8.heap.size) (p := 3) h (by omega) (by omega) rfl (fun _ => rfl) hG b8 (seg_elG (LGrS.keep keepsB O8 (by rw [hsz]; omega) (fun x hx => heap_alloc_old _ _ hx.2))) (fun x hx => hx) rfl a1 a2 a3⟩
set_option maxHeartbeats 64000000 in
theorem l3Copy_coreG (l : Lg) (A : Option Addr) (c : Nat) (w : World) (lo b : Nat) (hb : b ≤ w.heap.size) (hf : FewL l) (hv : SegsAt w lo b (.slice A l.segs.length c) l.segs) :
    Calls Tryz.prog 21 #[logVal l (.slice A l.segs.length c)] w fun e w' => ∃ sv, e = .returned (logVal l sv) ∧ LGrow 55 2 EG w' (w.heap.size + 3) sv l.segs ∧ Below w.heap.size w w' ∧ w.heap.size + 3 ≤ w'.heap.size := by
  obtain ⟨i0, hi, hz0, hz1, hz2⟩ := info_parts infoSgG
  have HF := Seg.hid hf.1.2
  have hl := hf.1.1
  obtain ⟨H, ⟨_, A', c', hsl, hrow⟩, hh⟩ := hv
  simp only [Value.slice.injEq] at hsl
  obtain ⟨rfl, _, rfl⟩ := hsl
  have HROW := Seg.hid hrow; have HH := Seg.hid hh
  clear hrow hh hf
  unfold logVal
  go_enter Tryz.func21, Tryz.ntmps21
  go_wp2_with fail
  have C0 : Hid (GV 55 2 EG w ((((w.alloc (.cells (logArr l (.slice A l.segs.length c)) 32 (0, 0))).alloc (.cells (logArr ⟨0, 0, 0, []⟩ (.slice none 0 0)) 32 (0, 0))).alloc (.cells (logArr l (.slice (some ⟨w.heap.size + 1 + 1 + 1, 0, none⟩) 0 0)) 32 (0, 0))).alloc (.cells #[] 55 (0, 0))) 3 (w.heap.size + 1 + 1) 32 (logArr l) (frL w l (.slice A l.segs.length c)) (.slice (some ⟨w.heap.size + 1 + 1 + 1, 0, none⟩) 0 0) []) := by
    have h3 : (((w.alloc (.cells (logArr l (.slice A l.segs.length c)) 32 (0, 0))).alloc (.cells (logArr ⟨0, 0, 0, []⟩ (.slice none 0 0)) 32 (0, 0))).alloc (.cells (logArr l (.slice (some ⟨w.heap.size + 1 + 1 + 1, 0, none⟩) 0 0)) 32 (0, 0))).heap.size = w.heap.size + 1 + 1 + 1 := by rw [hsz, hsz, hsz]
    refine ⟨LGrow.empty ?_, (heap_alloc_old _ _ (by rw [h3]; omega)).trans (Cells.at3' w _ _ _), fun x h1 h2 h4 => ?_, (below3 w _ _ _).alloc (by rw [h3]; omega) _, by rw [hsz, h3]; omega⟩
    · have := World.ownsRow_lit (base := w.heap.size + 3) (e := 55) (size := 2) (((w.alloc (.cells (logArr l (.slice A l.segs.length c)) 32 (0, 0))).alloc (.cells (logArr ⟨0, 0, 0, []⟩ (.slice none 0 0)) 32 (0, 0))).alloc (.cells (logArr l (.slice (some ⟨w.heap.size + 1 + 1 + 1, 0, none⟩) 0 0)) 32 (0, 0))) #[] 0 (by rw [h3]; exact Nat.le_refl _) (Nat.zero_le _) rfl
      rw [h3] at this
      exact this
    · rw [heap_alloc_old _ _ (by rw [h3]; omega)]
      unfold frL
      by_cases e : x = w.heap.size
      · rw [if_pos e, e]
        exact (heap_alloc_old _ _ (by rw [hsz, hsz]; omega)).trans ((heap_alloc_old _ _ (by rw [hsz]; omega)).trans (heap_alloc_new _ _))
      · have : x = w.heap.size + 1 := by omega
        rw [if_neg e, this]
        exact at3 w _ _ _
  go_loopw [4] (fun i wr => ∃ (j : Nat) (us : List Sg) (A1 : Option Addr) (c1 : Nat), j ≤ l.segs.length ∧ i = .int .i64 j ∧ Hid (us = l.segs.take j ∧ GV 55 2 EG w wr 3 (w.heap.size + 1 + 1) 32 (logArr l) (frL w l (.slice A l.segs.length c)) (.slice A1 us.length c1) us)) (fun i _ => l.segs.length - (intOf i).toNat)
  case atStart => exact ⟨0, [], some ⟨w.heap.size + 1 + 1 + 1, 0, none⟩, 0, Nat.zero_le _, rfl, by simp, C0.out⟩
  case round =>
    clear C0
    obtain ⟨j, us, A1, c1, hj, rfl, HW⟩ := hrel
    have WC := Seg.hid HW.out.2
    have hz := HW.out.2.size
    have PAR : Hid (∀ wx, Below wr.heap.size wr wx → wx.cell? ⟨w.heap.size, 3, none⟩ = some (.slice A l.segs.length c)) := fun wx bx => cell_of_row wx w.heap.size 3 _ _ (0, 0) ((bx.block w.heap.size (by omega)).trans ((HW.out.2.front w.heap.size (Nat.le_refl _) (by omega) (by omega)).trans (if_pos rfl)))
    have p3 := PAR.out wr (Below.refl _ _)
    by_cases hlt : j < l.segs.length
    · have h0 : (0 : Int) ≤ (j : Int) := by omega
      have h1 : (j : Int) < (l.segs.length : Int) := by omega
      obtain ⟨g, o, rfl, hg, hc, hcell, _⟩ := HROW.out.resolve_left (by omega)
      have hgw : g < w.heap.size := by omega
      have SIX : Hid (∀ wx, Below wr.heap.size wr wx → wx.cell? ⟨g, o + j * 2, none⟩ = some (.int .i64 (l.segs.getD j default).base) ∧ wx.cell? ⟨g, o + j * 2 + 1, none⟩ = some (H j)) := fun wx bx => Segs.six (fun i hi q hq => by rw [(chain HW.out.2.bel bx).cell (p := ⟨g, o + i * 2 + q, none⟩) hgw]; exact hcell i hi q hq) j hlt
      have UL : Hid (us.length = j) := by show _ = _; rw [HW.out.1, List.length_take]; omega
      have UN : Hid (us ++ [l.segs.getD j default] = l.segs.take (j + 1)) := by show _ = _; rw [HW.out.1]; exact (take_one hlt).symm
      obtain ⟨F, P, hG⟩ := HW.out.2.grow
      have HG := Seg.hid hG
      have hul : us.length ≤ 1048576 := by rw [UL.out]; omega
      have BT : Hid (∀ wx, Below wr.heap.size wr wx → BatsAt wx lo b (H j) (l.segs.getD j default).bats) := fun wx bx => (HH.out j hlt).below ((chain HW.out.2.bel bx).mono hb)
      have FB := Seg.hid (HF.out j hlt)
      have OUT : Hid (∀ wx, Below wr.heap.size wr wx → wx.cell? ⟨w.heap.size + 1 + 1, 3, none⟩ = some (.slice A1 us.length c1)) := fun wx bx => cell_of_row wx (w.heap.size + 1 + 1) 3 _ _ (0, 0) ((bx.block _ (by omega)).trans HW.out.2.out)
      obtain ⟨_, ⟨_, Ah, ch, hHj, _⟩, _⟩ := HH.out j hlt
      clear hcell HW hG
      generalize l.segs.getD j default = tj at *
      rw [hHj] at BT SIX
      clear hHj
      obtain ⟨e0, e1⟩ := SIX.out wr (Below.refl _ _)
      have d3 := OUT.out wr (Below.refl _ _)
      go_wp2_with fail
      have hl63 : Hid (us.length + 1 ≤ maxLen) := by show _ ≤ _; unfold maxLen; omega
      have hby : Hid ((us.length + 1) * 32 ≤ 140737488355328) := by show _ ≤ _; omega
      have NX : Hid (∀ w8 A8 c8, Below wr.heap.size wr w8 → LGrS 38 7 EB w8 (seg wr.heap.size w8.heap.size) (.slice A8 tj.bats.length c8) tj.bats → AfterS w wr w8 l (frL w l (.slice (some ⟨g, o, none⟩) l.segs.length c)) tj (.slice A1 us.length c1) (.slice A8 tj.bats.length c8) us F P g o j (.slice (some ⟨g, o, none⟩) l.segs.length c) (.slice Ah tj.bats.length ch)) := fun w8 A8 c8 b8 O8 => afterS WC.out HG.out b8 O8 (OUT.out w8 b8) (SIX.out w8 b8) (PAR.out w8 b8) (by omega)
      have L3 : Hid (Calls Tryz.prog 39 #[.slice Ah tj.bats.length ch] wr.drew fun e w' => ∃ sv, e = .returned sv ∧ LGrow 38 7 EB w' wr.heap.size sv tj.bats ∧ Below wr.heap.size wr w') := (l3Batches_any _ tj.bats wr.drew lo b (by show b ≤ wr.heap.size; omega) FB.out.1 FB.out.2 (BT.out _ (Below.refl _ _).drew)).mono fun e w' ⟨sv, a1, a2, a3⟩ => ⟨sv, a1, a2, ⟨a3.os, a3.tape, a3.output, a3.size, a3.block⟩⟩
      have FB1 := Seg.hid FB.out.1
      clear SIX OUT PAR BT FB WC HG HROW HH HF
      go_region_law
        ((first | (go_simp; go_at_call 39; refine L3.out.mono ?_; rintro e w8 ⟨rv8, rfl, ow8, b8⟩; obtain ⟨A8, c8, hA8⟩ := LGrow.form ow8; subst hA8; have AF := Seg.hid (NX.out w8 A8 c8 b8 (LGrow.grS ow8 FB1.out)); clear ow8 b8; have K8 := AF.out.out3; have f0 := AF.out.c0; have f1 := AF.out.c1; have q3 := AF.out.par; have hl8 := AF.out.lt; have hl7 := AF.out.lt0; have hl6 := AF.out.ltg) | (refine step_append_lies _ (by rfl) _ _ _ (by rfl) (w.heap.size + 3) 55 i0 _ 2 32 Tryz.underlying30 hi hz0 hz1 hz2 rfl (by decide) (.slice A1 us.length c1) us.length ((List.range (us.length * 2)).map F) (by rfl) (AF.out.own _) ⟨w8.heap.size, 0, none⟩ 1 1 (segArr tj (.slice A8 tj.bats.length c8)).toList (by rfl) (by rfl) AF.out.news (AF.out.one) (by decide) hl63.out hby.out AF.out.base (w8.heap.size + 1) (hsz w8 _) ?_; intro g9 cap9 w9 hown9 gr9 hat9 hlt9; have D9 := Seg.hid (AF.out.push g9 cap9 w9 hown9 gr9 hat9); have q6 := D9.out.2.1; have p6 := D9.out.2.2; clear hown9 gr9 hat9 hlt9)))
      all_goals
        go_wp2
        go_roundw
        case rel => exact ⟨j + 1, us ++ [tj], some ⟨g9, 0, none⟩, cap9, by omega, by go_num, UN.out, by rw [List.length_append]; exact D9.out.1⟩
        case measure => simp [intOf]; omega
    · have G1 : Hid (LGrow 55 2 EG wr (w.heap.size + 3) (.slice A1 l.segs.length c1) l.segs) := by
        have := HW.out
        rw [show j = l.segs.length by omega, List.take_length] at this
        obtain ⟨rfl, h2⟩ := this
        exact h2.grow
      have hul : us.length = l.segs.length := by rw [HW.out.1, show j = l.segs.length by omega, List.take_length]
      have O1 : Hid (wr.heap[w.heap.size + 1 + 1]? = some (.cells (logArr l (.slice A1 l.segs.length c1)) 32 (0, 0))) := by rw [← hul]; exact HW.out.2.out
      have R1 : Hid (wr.heap[w.heap.size + 1]? = some (.cells (logArr ⟨0, 0, 0, []⟩ (.slice none 0 0)) 32 (0, 0))) := (HW.out.2.front (w.heap.size + 1) (by omega) (by omega) (by omega)).trans (if_neg (by omega))
      have BL := Seg.hid HW.out.2.bel
      have : j = l.segs.length := by omega
      clear HW hul WC
      subst this
      have H5 := Seg.hid (Cells.there_of R1.out)
      have H4 := Seg.hid (Cells.whole (vs := logArr l (.slice A1 l.segs.length c1)) R1.out rfl)
      have B2 := Seg.hid (Cells.below_setCells (g := w.heap.size + 1) (by omega) (logArr l (.slice A1 l.segs.length c1)).toList 0 _ _ BL.out)
      have HF' : Hid (LGrow 55 2 EG (wr.setCells (w.heap.size + 1) 0 (logArr l (.slice A1 l.segs.length c1)).toList) (w.heap.size + 3) (.slice A1 l.segs.length c1) l.segs) := G1.out.keep keepsG (by rw [Cells.size_setCells]; exact Nat.le_refl _) (fun g h1 _ => Cells.heap_setCells_other _ _ (by omega))
      go_wp2_with (first | (refine wpList_load_row rfl 32 _ rfl (w.heap.size + 1 + 1) rfl _ _ _ _ O1.out Tryz.underlying32 rfl infoN ?_) | (refine wpList_store_mid rfl 32 _ _ rfl (w.heap.size + 1) 0 (logArr l (.slice A1 l.segs.length c1)) rfl rfl H5.out infoN (logArr_one _ _ rfl) ?_))
      exact bodyPost_ret (v := logVal l (.slice A1 l.segs.length c1)) (results_cell_row rfl _ _ (w.heap.size + 1) _ _ _ _ rfl H4.out Tryz.underlying32 rfl infoN) rfl ⟨_, rfl, HF'.out, B2.out, by rw [Cells.size_setCells]; exact hz⟩
theorem l3Copy_grow (v : Value) (l : Lg) (w : World) (lo b : Nat) (hv : LogAt w lo b v l) (hb : b ≤ w.heap.size) (hf : FewL l) :
    Calls Tryz.prog 21 #[v] w fun e w' => ∃ sv, e = .returned (logVal l sv) ∧ LGrow 55 2 EG w' (w.heap.size + 3) sv l.segs ∧ Below w.heap.size w w' ∧ w.heap.size + 3 ≤ w'.heap.size := by
  obtain ⟨sv, rfl, hs⟩ := hv
  obtain ⟨_, ⟨_, A, c, rfl, _⟩, _⟩ := id hs
  exact l3Copy_coreG l A c w lo b hb hf hs
end Go.Proofs.YtoplbemolnpngaaGreat.Ft
