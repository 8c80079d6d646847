/- The model's copy of a Log; The law's marks on Heads. -/
import Derived.Laws.BytesArg
import Derived.WalkLawsBesides
import Derived.Test.YtdcbgkcnidbakaaRows
import Derived.Test.YtdcbgkcnidbakaaJR45
import Derived.Test.YtdcbgkcnidbakaaJR41
import Derived.Test.YtdcbgkcnidbakaaJR35
import Derived.Test.YtdcbgkcnidbakaaJR32
namespace Go.Proofs.Ytdcbgkcnidbakaa.Ft
set_option maxRecDepth 8000
open Go.RowKit
open Recs
open Bats (BatsAt batsCells)
open SegW LogW
open Segs (SegsAt segsCells)
set_option linter.unusedVariables false
/-- What the other variables of the copy hold. -/
def frL (w : World) (l : Lg) (v0 : Value) (x : Nat) : Option Obj := if x = w.heap.size then some (.cells (logArr l v0) 28 (0, 0)) else some (.cells (logArr ⟨0, 0, 0, []⟩ (.slice none 0 0)) 28 (0, 0))

/-- Behind the copy of one Segment's Batches. -/
structure AfterS (w wr w8 : World) (l : Lg) (fr : Nat → Option Obj) (t : Sg) (v bv : Value) (us : List Sg) (F : Nat → Value) (P : Nat → Nat → Prop) (g o j : Nat) (v0 hj : Value) : Prop where
  out3 : w8.cell? ⟨w.heap.size + 1 + 1, 3, none⟩ = some v
  c0 : w8.cell? ⟨g, o + j * 2, none⟩ = some (.int .i64 t.base)
  c1 : w8.cell? ⟨g, o + j * 2 + 1, none⟩ = some hj
  par : w8.cell? ⟨w.heap.size, 3, none⟩ = some v0
  lt : w.heap.size + 1 + 1 < w8.heap.size
  lt0 : w.heap.size < w8.heap.size
  ltg : g < w8.heap.size
  own : ∀ o9, (w8.alloc o9).ownsRow (w.heap.size + 3) 41 2 v us.length ((List.range (us.length * 2)).map F)
  base : w.heap.size + 3 ≤ (w8.alloc (.cells (segArr t bv) 41 (0, 0))).heap.size
  one : ∀ u ∈ (segArr t bv).toList, u.oneCell' = true
  news : ∀ j u, (segArr t bv).toList[j]? = some u → (w8.alloc (.cells (segArr t bv) 41 (0, 0))).cell? ((⟨w8.heap.size, 0, none⟩ : Addr).add j) = some u
  push : ∀ g9 cap9 w9, w9.ownsRow (w.heap.size + 3) 41 2 (.slice (some ⟨g9, 0, none⟩) (us.length + 1) cap9) (us.length + 1) ((List.range (us.length * 2)).map F ++ (segArr t bv).toList) → (w8.alloc (.cells (segArr t bv) 41 (0, 0))).grownBy w9 v.ownBlock → (v.ownBlock = some g9 ∨ g9 = w8.heap.size + 1) → GV 41 2 ES w (w9.setCell ⟨w.heap.size + 1 + 1, 3, none⟩ (.slice (some ⟨g9, 0, none⟩) (us.length + 1) cap9)) 3 (w.heap.size + 1 + 1) 28 (logArr l) fr (.slice (some ⟨g9, 0, none⟩) (us.length + 1) cap9) (us ++ [t]) ∧ w9.cell? ⟨w.heap.size + 1 + 1, 3, none⟩ = some v ∧ w9.frozen? ⟨w.heap.size + 1 + 1, 3, none⟩ = false
theorem afterS {w wr w8 : World} {l : Lg} {fr : Nat → Option Obj} {t : Sg} {v : Value} {A8 : Option Addr} {c8 : Nat} {us : List Sg} {F : Nat → Value} {P : Nat → Nat → Prop} {g o j : Nat} {v0 hj : Value} (h : GV 41 2 ES w wr 3 (w.heap.size + 1 + 1) 28 (logArr l) fr v us) (hG : LGr 41 2 ES wr (w.heap.size + 3) v us F P) (b8 : Below wr.heap.size wr w8) (O8 : OwnB w8 (seg wr.heap.size w8.heap.size) (.slice A8 t.bats.length c8) t.bats)
    (h1 : w8.cell? ⟨w.heap.size + 1 + 1, 3, none⟩ = some v) (h2 : w8.cell? ⟨g, o + j * 2, none⟩ = some (.int .i64 t.base) ∧ w8.cell? ⟨g, o + j * 2 + 1, none⟩ = some hj) (h3 : w8.cell? ⟨w.heap.size, 3, none⟩ = some v0) (hg : g < w.heap.size) : AfterS w wr w8 l fr t v (.slice A8 t.bats.length c8) us F P g o j v0 hj := by
  have hz := h.size
  have s8 := b8.size
  exact ⟨h1, h2.1, h2.2, h3, by omega, by omega, by omega, fun o9 => World.ownsRow.alloc (own_keep hG.own (fun x _ hx => b8.block x hx)) _, by rw [hsz]; omega, by simp [segArr, Value.oneCell'], World.news_of_block (heap_alloc_new w8 _), fun g9 cap9 w9 a1 a2 a3 => GV.push keepsS (Q := seg wr.heap.size w8.heap.size) (p := 3) h (by omega) (by omega) rfl (fun _ => rfl) hG b8 (seg_el (LOwn.keep keepsB O8 (by rw [hsz]; omega) (fun x hx => heap_alloc_old _ _ hx.2))) (fun x hx => hx) rfl a1 a2 a3⟩
set_option maxHeartbeats 64000000 in
theorem l3Copy_core (l : Lg) (A : Option Addr) (c : Nat) (w : World) (lo b : Nat) (hb : b ≤ w.heap.size) (hf : FewL l) (hv : SegsAt w lo b (.slice A l.segs.length c) l.segs) :
    Calls Try.prog 13 #[logVal l (.slice A l.segs.length c)] w fun e w' => ∃ sv, e = .returned (logVal l sv) ∧ OwnS w' (seg w.heap.size w'.heap.size) sv l.segs ∧ Below w.heap.size w w' := by
  obtain ⟨i0, hi, hz0, hz1, hz2⟩ := info_parts infoSg
  have HF := Seg.hid hf.1.2
  have hl := hf.1.1
  obtain ⟨H, ⟨_, A', c', hsl, hrow⟩, hh⟩ := hv
  simp only [Value.slice.injEq] at hsl
  obtain ⟨rfl, _, rfl⟩ := hsl
  have HROW := Seg.hid hrow; have HH := Seg.hid hh
  clear hrow hh hf
  unfold logVal
  go_enter Try.func13, Try.ntmps13
  go_wp2_with fail
  have C0 : Hid (GV 41 2 ES w ((((w.alloc (.cells (logArr l (.slice A l.segs.length c)) 28 (0, 0))).alloc (.cells (logArr ⟨0, 0, 0, []⟩ (.slice none 0 0)) 28 (0, 0))).alloc (.cells (logArr l (.slice (some ⟨w.heap.size + 1 + 1 + 1, 0, none⟩) 0 0)) 28 (0, 0))).alloc (.cells #[] 41 (0, 0))) 3 (w.heap.size + 1 + 1) 28 (logArr l) (frL w l (.slice A l.segs.length c)) (.slice (some ⟨w.heap.size + 1 + 1 + 1, 0, none⟩) 0 0) []) := by
    have h3 : (((w.alloc (.cells (logArr l (.slice A l.segs.length c)) 28 (0, 0))).alloc (.cells (logArr ⟨0, 0, 0, []⟩ (.slice none 0 0)) 28 (0, 0))).alloc (.cells (logArr l (.slice (some ⟨w.heap.size + 1 + 1 + 1, 0, none⟩) 0 0)) 28 (0, 0))).heap.size = w.heap.size + 1 + 1 + 1 := by rw [hsz, hsz, hsz]
    refine ⟨LGrow.empty ?_, (heap_alloc_old _ _ (by rw [h3]; omega)).trans (Cells.at3' w _ _ _), fun x h1 h2 h4 => ?_, (below3 w _ _ _).alloc (by rw [h3]; omega) _, by rw [hsz, h3]; omega⟩
    · have := World.ownsRow_lit (base := w.heap.size + 3) (e := 41) (size := 2) (((w.alloc (.cells (logArr l (.slice A l.segs.length c)) 28 (0, 0))).alloc (.cells (logArr ⟨0, 0, 0, []⟩ (.slice none 0 0)) 28 (0, 0))).alloc (.cells (logArr l (.slice (some ⟨w.heap.size + 1 + 1 + 1, 0, none⟩) 0 0)) 28 (0, 0))) #[] 0 (by rw [h3]; exact Nat.le_refl _) (Nat.zero_le _) rfl
      rw [h3] at this
      exact this
    · rw [heap_alloc_old _ _ (by rw [h3]; omega)]
      unfold frL
      by_cases e : x = w.heap.size
      · rw [if_pos e, e]
        exact (heap_alloc_old _ _ (by rw [hsz, hsz]; omega)).trans ((heap_alloc_old _ _ (by rw [hsz]; omega)).trans (heap_alloc_new _ _))
      · have : x = w.heap.size + 1 := by omega
        rw [if_neg e, this]
        exact at3 w _ _ _
  go_loopw [4] (fun i wr => ∃ (j : Nat) (us : List Sg) (A1 : Option Addr) (c1 : Nat), j ≤ l.segs.length ∧ i = .int .i64 j ∧ Hid (us = l.segs.take j ∧ GV 41 2 ES w wr 3 (w.heap.size + 1 + 1) 28 (logArr l) (frL w l (.slice A l.segs.length c)) (.slice A1 us.length c1) us)) (fun i _ => l.segs.length - (intOf i).toNat)
  case atStart => exact ⟨0, [], some ⟨w.heap.size + 1 + 1 + 1, 0, none⟩, 0, Nat.zero_le _, rfl, by simp, C0.out⟩
  case round =>
    clear C0
    obtain ⟨j, us, A1, c1, hj, rfl, HW⟩ := hrel
    have WC := Seg.hid HW.out.2
    have hz := HW.out.2.size
    have PAR : Hid (∀ wx, Below wr.heap.size wr wx → wx.cell? ⟨w.heap.size, 3, none⟩ = some (.slice A l.segs.length c)) := fun wx bx => cell_of_row wx w.heap.size 3 _ _ (0, 0) ((bx.block w.heap.size (by omega)).trans ((HW.out.2.front w.heap.size (Nat.le_refl _) (by omega) (by omega)).trans (if_pos rfl)))
    have p3 := PAR.out wr (Below.refl _ _)
    by_cases hlt : j < l.segs.length
    · have h0 : (0 : Int) ≤ (j : Int) := by omega
      have h1 : (j : Int) < (l.segs.length : Int) := by omega
      obtain ⟨g, o, rfl, hg, hc, hcell, _⟩ := HROW.out.resolve_left (by omega)
      have hgw : g < w.heap.size := by omega
      have SIX : Hid (∀ wx, Below wr.heap.size wr wx → wx.cell? ⟨g, o + j * 2, none⟩ = some (.int .i64 (l.segs.getD j default).base) ∧ wx.cell? ⟨g, o + j * 2 + 1, none⟩ = some (H j)) := fun wx bx => Segs.six (fun i hi q hq => by rw [(chain HW.out.2.bel bx).cell (p := ⟨g, o + i * 2 + q, none⟩) hgw]; exact hcell i hi q hq) j hlt
      have UL : Hid (us.length = j) := by show _ = _; rw [HW.out.1, List.length_take]; omega
      have UN : Hid (us ++ [l.segs.getD j default] = l.segs.take (j + 1)) := by show _ = _; rw [HW.out.1]; exact (take_one hlt).symm
      obtain ⟨F, P, hG⟩ := HW.out.2.grow
      have HG := Seg.hid hG
      have hul : us.length ≤ 1048576 := by rw [UL.out]; omega
      have BT : Hid (∀ wx, Below wr.heap.size wr wx → BatsAt wx lo b (H j) (l.segs.getD j default).bats) := fun wx bx => (HH.out j hlt).below ((chain HW.out.2.bel bx).mono hb)
      have FB := Seg.hid (HF.out j hlt)
      have OUT : Hid (∀ wx, Below wr.heap.size wr wx → wx.cell? ⟨w.heap.size + 1 + 1, 3, none⟩ = some (.slice A1 us.length c1)) := fun wx bx => cell_of_row wx (w.heap.size + 1 + 1) 3 _ _ (0, 0) ((bx.block _ (by omega)).trans HW.out.2.out)
      obtain ⟨_, ⟨_, Ah, ch, hHj, _⟩, _⟩ := HH.out j hlt
      clear hcell HW hG
      generalize l.segs.getD j default = tj at *
      rw [hHj] at BT SIX
      clear hHj
      obtain ⟨e0, e1⟩ := SIX.out wr (Below.refl _ _)
      have d3 := OUT.out wr (Below.refl _ _)
      go_wp2_with fail
      have hl63 : Hid (us.length + 1 ≤ maxLen) := by show _ ≤ _; unfold maxLen; omega
      have hby : Hid ((us.length + 1) * 32 ≤ 140737488355328) := by show _ ≤ _; omega
      have NX : Hid (∀ w8 A8 c8, Below wr.heap.size wr w8 → OwnB w8 (seg wr.heap.size w8.heap.size) (.slice A8 tj.bats.length c8) tj.bats → AfterS w wr w8 l (frL w l (.slice (some ⟨g, o, none⟩) l.segs.length c)) tj (.slice A1 us.length c1) (.slice A8 tj.bats.length c8) us F P g o j (.slice (some ⟨g, o, none⟩) l.segs.length c) (.slice Ah tj.bats.length ch)) := fun w8 A8 c8 b8 O8 => afterS WC.out HG.out b8 O8 (OUT.out w8 b8) (SIX.out w8 b8) (PAR.out w8 b8) (by omega)
      have L3 : Hid (Calls Try.prog 26 #[.slice Ah tj.bats.length ch] wr.drew fun e w' => ∃ sv, e = .returned sv ∧ LGrow 44 7 EB w' wr.heap.size sv tj.bats ∧ Below wr.heap.size wr w') := (l3Batches_any _ tj.bats wr.drew lo b (by show b ≤ wr.heap.size; omega) FB.out.1 FB.out.2 (BT.out _ (Below.refl _ _).drew)).mono fun e w' ⟨sv, a1, a2, a3⟩ => ⟨sv, a1, a2, ⟨a3.os, a3.tape, a3.output, a3.size, a3.block⟩⟩
      have FB1 := Seg.hid FB.out.1
      clear SIX OUT PAR BT FB WC HG HROW HH HF
      go_region_law
        ((first | (go_simp; go_at_call 26; refine L3.out.mono ?_; rintro e w8 ⟨rv8, rfl, ow8, b8⟩; obtain ⟨A8, c8, hA8⟩ := LGrow.form ow8; subst hA8; have AF := Seg.hid (NX.out w8 A8 c8 b8 (LGrow.own ow8 FB1.out)); clear ow8 b8; have K8 := AF.out.out3; have f0 := AF.out.c0; have f1 := AF.out.c1; have q3 := AF.out.par; have hl8 := AF.out.lt; have hl7 := AF.out.lt0; have hl6 := AF.out.ltg) | (refine step_append_lies _ (by rfl) _ _ _ (by rfl) (w.heap.size + 3) 41 i0 _ 2 32 Try.underlying26 hi hz0 hz1 hz2 rfl (by decide) (.slice A1 us.length c1) us.length ((List.range (us.length * 2)).map F) (by rfl) (AF.out.own _) ⟨w8.heap.size, 0, none⟩ 1 1 (segArr tj (.slice A8 tj.bats.length c8)).toList (by rfl) (by rfl) AF.out.news (AF.out.one) (by decide) hl63.out hby.out AF.out.base (w8.heap.size + 1) (hsz w8 _) ?_; intro g9 cap9 w9 hown9 gr9 hat9 hlt9; have D9 := Seg.hid (AF.out.push g9 cap9 w9 hown9 gr9 hat9); have q6 := D9.out.2.1; have p6 := D9.out.2.2; clear hown9 gr9 hat9 hlt9)))
      all_goals
        go_wp2
        go_roundw
        case rel => exact ⟨j + 1, us ++ [tj], some ⟨g9, 0, none⟩, cap9, by omega, by go_num, UN.out, by rw [List.length_append]; exact D9.out.1⟩
        case measure => simp [intOf]; omega
    · have G1 : Hid (OwnS wr (seg (w.heap.size + 3) wr.heap.size) (.slice A1 l.segs.length c1) l.segs) := by
        have := HW.out
        rw [show j = l.segs.length by omega, List.take_length] at this
        obtain ⟨rfl, h2⟩ := this
        exact LGrow.own h2.grow hl
      have hul : us.length = l.segs.length := by rw [HW.out.1, show j = l.segs.length by omega, List.take_length]
      have O1 : Hid (wr.heap[w.heap.size + 1 + 1]? = some (.cells (logArr l (.slice A1 l.segs.length c1)) 28 (0, 0))) := by rw [← hul]; exact HW.out.2.out
      have R1 : Hid (wr.heap[w.heap.size + 1]? = some (.cells (logArr ⟨0, 0, 0, []⟩ (.slice none 0 0)) 28 (0, 0))) := (HW.out.2.front (w.heap.size + 1) (by omega) (by omega) (by omega)).trans (if_neg (by omega))
      have BL := Seg.hid HW.out.2.bel
      have : j = l.segs.length := by omega
      clear HW hul WC
      subst this
      have H5 := Seg.hid (Cells.there_of R1.out)
      have H4 := Seg.hid (Cells.whole (vs := logArr l (.slice A1 l.segs.length c1)) R1.out rfl)
      have B2 := Seg.hid (Cells.below_setCells (g := w.heap.size + 1) (by omega) (logArr l (.slice A1 l.segs.length c1)).toList 0 _ _ BL.out)
      have HF' : Hid (OwnS (wr.setCells (w.heap.size + 1) 0 (logArr l (.slice A1 l.segs.length c1)).toList) (seg w.heap.size (wr.setCells (w.heap.size + 1) 0 (logArr l (.slice A1 l.segs.length c1)).toList).heap.size) (.slice A1 l.segs.length c1) l.segs) := by
        refine (LOwn.keep keepsS G1.out (by rw [Cells.size_setCells]; exact Nat.le_refl _) (fun g h1 => ?_)).mono (fun x hx => ?_)
        · have := h1.1
          exact Cells.heap_setCells_other _ _ (by omega)
        · obtain ⟨x1, x2⟩ := hx
          refine ⟨by omega, ?_⟩
          rw [Cells.size_setCells]
          exact x2
      go_wp2_with (first | (refine wpList_load_row rfl 28 _ rfl (w.heap.size + 1 + 1) rfl _ _ _ _ O1.out Try.underlying28 rfl infoN ?_) | (refine wpList_store_mid rfl 28 _ _ rfl (w.heap.size + 1) 0 (logArr l (.slice A1 l.segs.length c1)) rfl rfl H5.out infoN (logArr_one _ _ rfl) ?_))
      exact bodyPost_ret (v := logVal l (.slice A1 l.segs.length c1)) (results_cell_row rfl _ _ (w.heap.size + 1) _ _ _ _ rfl H4.out Try.underlying28 rfl infoN) rfl ⟨_, rfl, HF'.out, B2.out⟩
theorem l3Copy_any (v : Value) (l : Lg) (w : World) (lo b : Nat) (hv : LogAt w lo b v l) (hb : b ≤ w.heap.size) (hf : FewL l) :
    Calls Try.prog 13 #[v] w fun e w' => ∃ sv, e = .returned (logVal l sv) ∧ OwnS w' (seg w.heap.size w'.heap.size) sv l.segs ∧ Below w.heap.size w w' := by
  obtain ⟨sv, rfl, hs⟩ := hv
  obtain ⟨_, ⟨_, A, c, rfl, _⟩, _⟩ := id hs
  exact l3Copy_core l A c w lo b hb hf hs
end Go.Proofs.Ytdcbgkcnidbakaa.Ft
namespace Go.Proofs.Ytdcbgkcnidbakaa.Mk
set_option maxRecDepth 8000
open Go.RowKit
open Recs
open ToO
set_option linter.unusedVariables false

/-- The mark of a number, as a text: its digits, f of them at most. -/
def mtF : Nat → Nat → ByteArray → ByteArray
  | 0, _, s => s
  | f + 1, n, s => if n = 0 then s else mtF f (n / 10) (strOfNums [48 + (n : Int) % 10] ++ s)
theorem mtF_same : ∀ (f g n : Nat) (s : ByteArray), n ≤ f → n ≤ g → mtF f n s = mtF g n s
  | 0, 0, n, s, _, _ => rfl
  | 0, g + 1, n, s, h, _ => by rw [mtF, mtF, if_pos (by omega)]
  | f + 1, 0, n, s, _, h => by rw [mtF, mtF, if_pos (by omega)]
  | f + 1, g + 1, n, s, h1, h2 => by
    rw [mtF, mtF]
    by_cases h : n = 0
    · rw [if_pos h, if_pos h]
    · rw [if_neg h, if_neg h, mtF_same f g (n / 10) _ (by omega) (by omega)]
def mt (k : Nat) : ByteArray := ByteArray.mk #[109] ++ mtF k k ByteArray.empty

set_option maxHeartbeats 800000 in
theorem markText_any (k : Nat) (w : World) (h0 : 0 < k) (h1 : k ≤ 4611686018427387904) :
    Calls Try.prog 67 #[.int .i64 k] w fun e w' => e = .returned (.string (mt k)) ∧ Below w.heap.size w w' := by
  have f0 : ¬ (k : Int) ≤ 0 := by omega
  go_enter Try.func67, Try.ntmps67
  go_wp2
  go_loopw [0, 3] (fun i v wr => ∃ (n : Nat) (s : ByteArray), i = .int .i64 n ∧ v = .string s ∧ n + s.size ≤ k ∧ Hid (Below w.heap.size w wr ∧ mtF n n s = mtF k k ByteArray.empty)) (fun i _ _ => (intOf i).toNat)
  case atStart => exact ⟨k, ByteArray.empty, rfl, rfl, by simp, Below.refl _ _, rfl⟩
  case round =>
    obtain ⟨n, s, rfl, rfl, hn, HQ⟩ := hrel
    by_cases hz : n = 0
    · have HE : Hid (s = mtF k k ByteArray.empty) := by have := HQ.out.2; rw [hz] at this; exact this
      have HB := Seg.hid HQ.out.1
      have f1 : ¬ (0 : Int) < (n : Int) := by omega
      have f2 : ¬ 9223372036854775807 < 1 + s.size := by omega
      clear hz
      go_wp2
      go_ret
      exact ⟨by rw [mt, ← HE.out]; rfl, HB.out⟩
    · have hp : (0 : Int) < (n : Int) := by omega
      have NX : Hid (mtF (n / 10) (n / 10) (strOfNums [48 + (n : Int) % 10] ++ s) = mtF k k ByteArray.empty) := by
        have := HQ.out.2
        obtain ⟨f, hf⟩ : ∃ f, n = f + 1 := ⟨n - 1, by omega⟩
        rw [← this]
        show _ = _
        rw [show mtF n n s = mtF (f + 1) n s by rw [hf], mtF, if_neg hz, mtF_same f (n / 10) (n / 10) _ (by omega) (by omega)]
      have BB := Seg.hid (fun x => HQ.out.1.alloc HQ.out.1.size x)
      have hcv : (convert 71 9 (.slice (some ⟨wr.heap.size, 0, none⟩) 1 1)).run Try.prog (wr.alloc (.cells #[.int .u8 (48 + (n : Int) % 10)] 5 (0, 0))) = .ok (.string (strOfNums [48 + (n : Int) % 10])) (wr.alloc (.cells #[.int .u8 (48 + (n : Int) % 10)] 5 (0, 0))) :=
        run_convert_bytes_arg (P := Try.prog) _ 71 5 Try.underlying71 Try.underlying5 wr.heap.size 0 1 1 [48 + (n : Int) % 10] rfl (fun i hi => by
          have : i = 0 := by omega
          subst this
          exact cell_of_row _ _ 0 _ _ (0, 0) (heap_alloc_new _ _)) 9 Try.underlying9
      have f3 : (strOfNums [48 + (n : Int) % 10]).size = 1 := rfl
      have f2 : ¬ 9223372036854775807 < (strOfNums [48 + (n : Int) % 10]).size + s.size := by omega
      have f4 : n / 10 + (strOfNums [48 + (n : Int) % 10] ++ s).size ≤ k := by rw [ByteArray.size_append]; omega
      clear hz f3
      go_wp2
      go_roundw
      case rel => exact ⟨n / 10, _, by go_num, rfl, f4, BB.out _, NX.out⟩
      case measure => simp [intOf]; omega

theorem markText_at (x : Int) (k : Nat) (hx : x = (k : Int)) (w : World) (h0 : 0 < k) (h1 : k ≤ 4611686018427387904) :
    Calls Try.prog 67 #[.int .i64 x] w fun e w' => e = .returned (.string (mt k)) ∧ Below w.heap.size w w' := by
  subst hx
  exact markText_any k w h0 h1

theorem markHeadS_none (A : Option Addr) (c : Nat) (k : Int) (w : World) : Calls Try.prog 68 #[.slice A 0 c, .int .i64 k] w fun e w' => e = .returned (.int .i64 k) ∧ w = w' := by
  go_enter Try.func68, Try.ntmps68
  go_wp2
  go_loop [1, 5] (fun x i => i = .int .i64 0 ∧ x = .int .i64 k) (fun _ _ => 0)
  case atStart => exact ⟨rfl, rfl⟩
  case round =>
    obtain ⟨rfl, rfl⟩ := hrel
    go_wp2
    go_ret
    exact ⟨rfl, rfl⟩

/-- How far a list of Heads is marked: j of them. -/
structure Hds (w wr : World) (g n c k j : Nat) (F : Nat → Value) : Prop where
  mine : MineC wr 83 2 g n c F
  gr : w.grownBy wr (some g)
  marks : ∀ i, i < j → F (i * 2) = .string (mt (k + 2 * i)) ∧ F (i * 2 + 1) = .string (mt (k + 2 * i + 1))
theorem grown_below {w wr w' : World} {g : Nat} (h : w.grownBy wr (some g)) (b : Below wr.heap.size wr w') : w.grownBy w' (some g) :=
  h.trans ⟨b.os, b.tape, b.output, b.size, fun k hk _ => b.block k hk⟩
theorem grown_set {w wr : World} {g q : Nat} (h : w.grownBy wr (some g)) (v : Value) : w.grownBy (wr.setCell ⟨g, q, none⟩ v) (some g) :=
  h.trans ⟨rfl, rfl, rfl, by simp, fun k _ hk => heap_setCell_other wr ⟨g, q, none⟩ k v (fun e => hk (by simp [e]))⟩

set_option maxHeartbeats 800000 in
theorem markHeadS_core (g n c k : Nat) (F0 : Nat → Value) (w : World) (hn : n ≤ 1048576) (hk : 0 < k) (hk1 : k ≤ 4000000000000000000) (hm : MineC w 83 2 g n c F0) :
    Calls Try.prog 68 #[.slice (some ⟨g, 0, none⟩) n c, .int .i64 k] w fun e w' => ∃ F, e = .returned (.int .i64 ((k + 2 * n : Nat) : Int)) ∧ Hds w w' g n c k n F := by
  have hc := hm.le
  have HM := Seg.hid hm
  clear hm
  go_enter Try.func68, Try.ntmps68
  go_wp2
  go_loopw [1, 5] (fun x i wr => ∃ (j : Nat) (F : Nat → Value), j ≤ n ∧ i = .int .i64 j ∧ x = .int .i64 ((k + 2 * j : Nat) : Int) ∧ Hds w wr g n c k j F) (fun _ i _ => n - (intOf i).toNat)
  case atStart => exact ⟨0, F0, Nat.zero_le _, rfl, rfl, HM.out, World.grownBy.refl _ _, fun i hi => absurd hi (by omega)⟩
  case round =>
    clear HM
    obtain ⟨j, F, hj, rfl, rfl, HR⟩ := hrel
    by_cases hlt : j < n
    · have h0 : (0 : Int) ≤ (j : Int) := by omega
      have h1 : (j : Int) < (n : Int) := by omega
      have HH := Seg.hid HR
      clear HR
      go_wp2_with fail
      refine (markText_any (k + 2 * j) wr (by omega) (by omega)).mono ?_
      rintro e w1 ⟨rfl, b1⟩
      have M1 := Seg.hid (HH.out.mine.keep (b1.block g HH.out.mine.lt))
      have G1 := Seg.hid (grown_below HH.out.gr b1)
      clear b1
      have d1 := M1.out.cell (j * 2) (by omega)
      have f1 := M1.out.frozen (j * 2)
      have M2 := Seg.hid (M1.out.set (j * 2) (.string (mt (k + 2 * j))))
      have G2 := Seg.hid (grown_set (q := j * 2) G1.out (.string (mt (k + 2 * j))))
      go_wp2_with fail
      refine (markText_at _ (k + 2 * j + 1) (by omega) _ (by omega) (by omega)).mono ?_
      rintro e w2 ⟨rfl, b2⟩
      have M3 := Seg.hid (M2.out.keep (b2.block g M2.out.lt))
      have G3 := Seg.hid (grown_below G2.out b2)
      clear b2 d1 f1
      have d2 := M3.out.cell (j * 2 + 1) (by omega)
      have f2 := M3.out.frozen (j * 2 + 1)
      have M4 := Seg.hid (M3.out.set (j * 2 + 1) (.string (mt (k + 2 * j + 1))))
      have G4 := Seg.hid (grown_set (q := j * 2 + 1) G3.out (.string (mt (k + 2 * j + 1))))
      go_wp2
      go_roundw
      case rel =>
        refine ⟨j + 1, _, by omega, by go_num, by go_num, M4.out, G4.out, fun i hi => ?_⟩
        have hr := HH.out.marks
        by_cases he : i = j
        · subst he; simp
        · have := hr i (by omega)
          simp [show ¬ i * 2 = j * 2 + 1 by omega, show ¬ i * 2 = j * 2 by omega, show ¬ i * 2 + 1 = j * 2 by omega, this]
      case measure => simp [intOf]; omega
    · have : j = n := by omega
      subst this
      go_wp2
      go_ret
      exact ⟨F, by go_num, HR⟩

/-- A list of Heads that bears its marks from k on. -/
def HMk (w : World) (lo b : Nat) (v : Value) (n k : Nat) : Prop := n ≤ 1048576 ∧ ∃ A c, v = .slice A n c ∧ (n = 0 ∨ ∃ g F, A = some ⟨g, 0, none⟩ ∧ lo ≤ g ∧ g < b ∧ MineC w 83 2 g n c F ∧ ∀ i, i < n → F (i * 2) = .string (mt (k + 2 * i)) ∧ F (i * 2 + 1) = .string (mt (k + 2 * i + 1)))
theorem HMk.keep {w w' : World} {lo b n k : Nat} {v : Value} (h : HMk w lo b v n k) (hk : ∀ g, lo ≤ g → g < b → w'.heap[g]? = w.heap[g]?) : HMk w' lo b v n k := by
  obtain ⟨h0, A, c, h1, h2⟩ := h
  refine ⟨h0, A, c, h1, h2.imp id ?_⟩
  rintro ⟨g, F, h3, h4, h5, h6, h7⟩
  exact ⟨g, F, h3, h4, h5, h6.keep (hk g h4 h5), h7⟩
/-- Blocks outside a window are as they were. -/
structure Win (w w' : World) (lo b : Nat) : Prop where
  os : w'.os = w.os
  tape : w'.tape = w.tape
  output : w'.output = w.output
  size : w.heap.size ≤ w'.heap.size
  block : ∀ k, k < w.heap.size → (k < lo ∨ b ≤ k) → w'.heap[k]? = w.heap[k]?
theorem Win.refl (w : World) (lo b : Nat) : Win w w lo b := ⟨rfl, rfl, rfl, Nat.le_refl _, fun _ _ _ => rfl⟩
theorem Win.set {w wr : World} {lo b g q : Nat} (h : Win w wr lo b) (h1 : lo ≤ g) (h2 : g < b) (v : Value) : Win w (wr.setCell ⟨g, q, none⟩ v) lo b :=
  ⟨h.os, h.tape, h.output, by simpa using h.size, fun k hk hw => (heap_setCell_other wr ⟨g, q, none⟩ k v (by show k ≠ g; omega)).trans (h.block k hk hw)⟩
theorem Win.below {w wr w' : World} {lo b : Nat} (h : Win w wr lo b) (hb : Below wr.heap.size wr w') : Win w w' lo b :=
  ⟨hb.os.trans h.os, hb.tape.trans h.tape, hb.output.trans h.output, Nat.le_trans h.size hb.size, fun k hk hw => (hb.block k (Nat.lt_of_lt_of_le hk h.size)).trans (h.block k hk hw)⟩
theorem Win.trans {w wr w' : World} {lo b lo' b' : Nat} (h : Win w wr lo b) (h' : Win wr w' lo' b') (h1 : lo ≤ lo') (h2 : b' ≤ b) : Win w w' lo b :=
  ⟨h'.os.trans h.os, h'.tape.trans h.tape, h'.output.trans h.output, Nat.le_trans h.size h'.size, fun k hk hw => (h'.block k (Nat.lt_of_lt_of_le hk h.size) (by omega)).trans (h.block k hk hw)⟩
theorem Win.toBelow {w w' : World} {lo b : Nat} (h : Win w w' lo b) (hl : lo ≤ w.heap.size) : Below lo w w' := ⟨h.os, h.tape, h.output, h.size, fun k hk => h.block k (by omega) (.inl hk)⟩
theorem markHeadS_any (v : Value) (lo b n k : Nat) (w : World) (hk : 0 < k) (hk1 : k ≤ 4000000000000000000) (hv : HOwn w lo b v n) :
    Calls Try.prog 68 #[v, .int .i64 k] w fun e w' => e = .returned (.int .i64 ((k + 2 * n : Nat) : Int)) ∧ HMk w' lo b v n k ∧ Win w w' lo b := by
  obtain ⟨h0, A, c, rfl, h⟩ := hv
  by_cases hz : n = 0
  · subst hz
    exact (markHeadS_none A c k w).mono fun e w' ⟨h1, h2⟩ => by
      subst h2
      exact ⟨by rw [h1]; simp, ⟨h0, A, c, rfl, .inl rfl⟩, ⟨rfl, rfl, rfl, Nat.le_refl _, fun _ _ _ => rfl⟩⟩
  obtain ⟨g, F, rfl, h3, h4, h5⟩ := h.resolve_left hz
  exact (markHeadS_core g n c k F w h0 hk hk1 h5).mono fun e w' ⟨F', h6, h7⟩ => ⟨h6, ⟨h0, _, c, rfl, .inr ⟨g, F', rfl, h3, h4, h7.mine, h7.marks⟩⟩, ⟨h7.gr.os, h7.gr.tape, h7.gr.output, h7.gr.size, fun q hq hw => h7.gr.block q hq (by simp; omega)⟩⟩

end Go.Proofs.Ytdcbgkcnidbakaa.Mk
