/- Sizes of batches: of the program, one and a list; One Segment: how it lies in memory, and what the law's helpers answer. -/
import Derived.Test.YtdcbgkcnidbakaaJR24
import Derived.Test.YtdcbgkcnidbakaaJR17
namespace Go.Proofs.Ytdcbgkcnidbakaa.Zs
set_option maxRecDepth 8000
open Go.RowKit
open Recs (hsz Row below1 below2 BatAt RecsAt batVal Bat Rec chain chainD)
open Bats
set_option linter.unusedVariables false
def size (t : Bat) : Nat := (WrP.wr t 2).length
def sizes : List Bat → Nat
  | [] => 0
  | t :: r => size t + sizes r
theorem sizes_app : ∀ a b : List Bat, sizes (a ++ b) = sizes a + sizes b
  | [], b => by simp [sizes]
  | t :: r, b => by simp only [List.cons_append, sizes, sizes_app r b]; omega
theorem take_one {T : Type} [Inhabited T] {ts : List T} {j : Nat} (h : j < ts.length) : ts.take (j + 1) = ts.take j ++ [ts.getD j default] := by
  rw [List.take_add_one, List.getElem?_eq_getElem h]; simp [h]
theorem sizes_take {ts : List Bat} {j : Nat} (h : j < ts.length) : sizes (ts.take (j + 1)) = sizes (ts.take j) + size (ts.getD j default) := by
  rw [take_one h, sizes_app]; simp [sizes]
theorem size_le {t : Bat} (h : BOk.batOk t = true) : 1 ≤ size t ∧ size t ≤ 100000 := by
  obtain ⟨p1, p2, p3, p4, p5, p6, p7, p8⟩ := WrI.ok_parts h
  have hk := WrI.bodyS_facts t 2 p8 p7
  have hb : (WrP.numsB (WrP.headN 2 t (WrP.bodyS t 2).length)).length ≤ 10 * 7 := PuI.numsB_le _ fun x hx => by
    simp [WrP.headN] at hx
    omega
  have e : size t = (WrP.pre t 2).length + 4 := by
    unfold size
    rw [WrI.wr_yes h rfl, List.length_append]
    rfl
  have e2 : (WrP.pre t 2).length = 2 + (WrP.numsB (WrP.headN 2 t (WrP.bodyS t 2).length)).length + (WrP.bodyS t 2).length := by
    simp only [WrP.pre, List.length_append, List.length_cons, List.length_nil]
  omega
theorem batchSize_any (v : Value) (t : Bat) (w : World) (lo b : Nat) (hv : BatAt w lo b v t) (hb : b ≤ w.heap.size) :
    Calls Try.prog 50 #[v] w fun e w' => e = .returned (.int .i64 (size t)) ∧ Below w.heap.size w w' := by
  have HV := Seg.hid hv
  obtain ⟨rv, rfl, H, ⟨hn, A, c, rfl, hx1⟩, hx2⟩ := hv
  clear hx1 hx2
  unfold batVal at HV ⊢
  go_enter Try.func50, Try.ntmps50
  go_wp2_with fail
  refine (WrI.impl_any _ t 2 (w.alloc _) lo b (HV.out.below ((below1 w _).mono hb)) (by rw [hsz]; omega)).mono ?_
  rintro e w1 ⟨g, cap, rfl, o1, b1⟩
  have B1 := Seg.hid (chain (below1 w _) b1)
  clear b1 o1
  go_wp2
  go_ret
  exact ⟨rfl, B1.out⟩
theorem sizes_le {ts : List Bat} (h : ∀ i, i < ts.length → BOk.batOk (ts.getD i default) = true) : ∀ k, k ≤ ts.length → sizes (ts.take k) ≤ k * 100000
  | 0, _ => by simp [sizes]
  | k + 1, hk => by
    have ih := sizes_le h k (by omega)
    have := size_le (h k (by omega))
    rw [sizes_take (by omega), Nat.succ_mul]
    omega
set_option maxHeartbeats 800000 in
theorem batchSizes_core (ss : List Bat) (A : Option Addr) (c : Nat) (w : World) (lo b : Nat) (hb : b ≤ w.heap.size) (hl : ss.length ≤ 1048576) (hok : ∀ i, i < ss.length → BOk.batOk (ss.getD i default) = true) (hv : BatsAt w lo b (.slice A ss.length c) ss) :
    Calls Try.prog 33 #[.slice A ss.length c] w fun e w' => e = .returned (.int .i64 (sizes ss)) ∧ Below w.heap.size w w' := by
  have LE := Seg.hid (sizes_le hok)
  have OK := Seg.hid hok
  obtain ⟨H, ⟨_, A', c', hsl, hrow⟩, hh⟩ := hv
  simp only [Value.slice.injEq] at hsl
  obtain ⟨rfl, _, rfl⟩ := hsl
  have HROW := Seg.hid hrow; have HH := Seg.hid hh
  clear hrow hh hok
  go_enter Try.func33, Try.ntmps33
  go_wp2_with fail
  go_loopw [3, 8] (fun tv i wr => ∃ (j a : Nat), j ≤ ss.length ∧ i = .int .i64 j ∧ tv = .int .i64 a ∧ a ≤ 104857600000 ∧ Hid (a = sizes (ss.take j) ∧ Below w.heap.size w wr)) (fun _ i _ => ss.length - (intOf i).toNat)
  case atStart => exact ⟨0, 0, Nat.zero_le _, rfl, rfl, by omega, rfl, Below.refl _ _⟩
  case round =>
    obtain ⟨j, a, hj, rfl, rfl, ha, HW⟩ := hrel
    by_cases hlt : j < ss.length
    · have h0 : (0 : Int) ≤ (j : Int) := by omega
      have h1 : (j : Int) < (ss.length : Int) := by omega
      obtain ⟨g, o, rfl, hg, hc, hcell, _⟩ := HROW.out.resolve_left (by omega)
      have hgw : g < w.heap.size := by omega
      obtain ⟨e0, e1, e2, e3, e4, e5, e6⟩ := Bats.six (fun i hi q hq => by rw [HW.out.2.cell (p := ⟨g, o + i * 7 + q, none⟩) hgw]; exact hcell i hi q hq) j hlt
      have BT : Hid (∀ wx, Below wr.heap.size wr wx → BatAt wx lo b (.agg (BatW.batArr (ss.getD j default) (H j))) (ss.getD j default)) := fun wx bx => ⟨_, rfl, (HH.out j hlt).below ((chain HW.out.2 bx).mono hb)⟩
      have hz := HW.out.2.size
      have SN : Hid (sizes (ss.take (j + 1)) = a + size (ss.getD j default)) := by show _ = _; rw [sizes_take hlt, ← HW.out.1]
      have BL := Seg.hid HW.out.2
      have hs := size_le (OK.out j hlt)
      have hn := LE.out (j + 1) hlt
      rw [SN.out] at hn
      obtain ⟨_, ⟨_, Ah, ch, hHj, _⟩, _⟩ := HH.out j hlt
      clear hcell HW
      generalize ss.getD j default = tj at *
      rw [hHj] at e6 BT
      clear hHj
      generalize hZ : size tj = z at *
      go_wp2_with fail
      refine (batchSize_any _ tj (wr.alloc _) lo b (BT.out _ (below1 wr _)) (by rw [hsz]; omega)).mono ?_
      rintro e w8 ⟨rfl, b8⟩
      rw [hZ]
      have BL8 := Seg.hid (chain BL.out (chain (below1 wr _) b8))
      clear b8 e0 e1 e2 e3 e4 e5 e6 hZ
      have z1 : (a : Int) + (z : Int) ≤ 104857700000 := by omega
      have z2 : a + z ≤ 104857600000 := by omega
      go_wp2_with fail
      go_roundw
      case rel => exact ⟨j + 1, a + z, by omega, by go_num, by rw [Int.natCast_add], z2, SN.out.symm, BL8.out⟩
      case measure => simp [intOf]; omega
    · have AE : Hid (a = sizes ss ∧ Below w.heap.size w wr) := by
        have := HW.out
        rw [show j = ss.length by omega, List.take_length] at this
        exact this
      have : j = ss.length := by omega
      clear HW
      subst this
      go_wp2_with fail
      go_ret
      exact ⟨by rw [← AE.out.1]; rfl, AE.out.2⟩
theorem batchSizes_any (v : Value) (ss : List Bat) (w : World) (lo b : Nat) (hb : b ≤ w.heap.size) (hl : ss.length ≤ 1048576) (hok : ∀ i, i < ss.length → BOk.batOk (ss.getD i default) = true) (hv : BatsAt w lo b v ss) :
    Calls Try.prog 33 #[v] w fun e w' => e = .returned (.int .i64 (sizes ss)) ∧ Below w.heap.size w w' := by
  obtain ⟨_, ⟨_, A, c, rfl, _⟩, _⟩ := id hv
  exact batchSizes_core ss A c w lo b hb hl hok hv
end Go.Proofs.Ytdcbgkcnidbakaa.Zs
namespace Go.Proofs.Ytdcbgkcnidbakaa.SegW
set_option maxRecDepth 8000
open Go.RowKit
open Recs
open Bats
set_option linter.unusedVariables false
structure Sg where
  base : Int
  bats : List Bat
  deriving Inhabited
def FineS (t : Sg) : Prop := (t.bats.length ≤ maxLen ∧ ∀ i, i < t.bats.length → FineB (t.bats.getD i default)) ∧ (-9223372036854775808 ≤ t.base ∧ t.base ≤ 9223372036854775807)
def FewS (t : Sg) : Prop := t.bats.length ≤ 1048576 ∧ ∀ i, i < t.bats.length → FewB (t.bats.getD i default)
def segArr (t : Sg) (hv : Value) : Array Value := #[.int .i64 t.base, hv]
def segVal (t : Sg) (hv : Value) : Value := .agg #[.int .i64 t.base, hv]
def SegAt (w : World) (lo b : Nat) (v : Value) (t : Sg) : Prop := ∃ hv, v = segVal t hv ∧ BatsAt w lo b hv t.bats
section
variable {w w' : World} {lo lo' b b' : Nat} {v : Value} {t : Sg}
theorem SegAt.keep (h : SegAt w lo b v t) (hk : ∀ g, lo ≤ g → g < b → w'.heap[g]? = w.heap[g]?) : SegAt w' lo b v t := by
  obtain ⟨hv, h1, h2⟩ := h
  exact ⟨hv, h1, h2.keep hk⟩
theorem SegAt.below (h : SegAt w lo b v t) (hb : Below b w w') : SegAt w' lo b v t := h.keep fun g _ hg => hb.block g hg
theorem SegAt.mono (h : SegAt w lo b v t) (hl : lo' ≤ lo) (hb : b ≤ b') : SegAt w lo' b' v t := by
  obtain ⟨hv, h1, h2⟩ := h
  exact ⟨hv, h1, h2.mono hl hb⟩
end
theorem segArr_one (t : Sg) (hv : Value) (h : hv.oneCell' = true) : (segArr t hv).all (·.oneCell') = true := by
  simp [segArr, Value.oneCell'] at h ⊢
  exact h
theorem infoN : (Try.prog.info? 41).map (·.size) = some 2 := by kernel_rfl

set_option maxHeartbeats 400000 in
theorem szSegment_any (v : Value) (t : Sg) (l : Int) (w : World) (lo b : Nat) (h3 : -1 ≤ l) (h4 : l ≤ 1048576) (hv : SegAt w lo b v t) (hb : b ≤ w.heap.size) (hf : FineS t) :
    Calls Try.prog 22 #[v, .int .i64 l] w fun e w' => ∃ q, e = .returned (.int .i64 q) ∧ -1 ≤ q ∧ q ≤ l ∧ (0 ≤ q → FewS t ∧ (t.bats.length : Int) + q ≤ l) ∧ Below w.heap.size w w' := by
  obtain ⟨hv, rfl, hh⟩ := hv
  obtain ⟨⟨f1, f2⟩, _⟩ := hf
  have F2 := Seg.hid f2
  have HH := Seg.hid hh
  unfold maxLen at f1
  obtain ⟨H, ⟨hn, A, c, hve, _⟩, _⟩ := id hh
  clear hh f2
  unfold segVal
  subst hve
  go_enter Try.func22, Try.ntmps22
  go_wp2_with fail
  refine (Bats.szBatchS_any _ t.bats _ (w.alloc _) lo b (by omega) (by omega) (HH.out.below ((below1 w _).mono hb)) (by rw [hsz]; omega) F2.out).mono ?_
  rintro e w1 ⟨q, rfl, q1, q2, q3, b1⟩
  have B1 := Seg.hid (chain (below1 w _) b1)
  have Q3 := Seg.hid q3
  clear b1 q3
  by_cases hq : q < 0
  · go_wp2
    go_ret
    exact ⟨_, rfl, by omega, by omega, fun h => absurd h (by omega), B1.out⟩
  · go_wp2
    go_ret
    exact ⟨q, rfl, by omega, by omega, fun h => ⟨⟨by have := (Q3.out h).1; omega, (Q3.out h).2⟩, (Q3.out h).1⟩, B1.out⟩

set_option maxHeartbeats 400000 in
theorem toSegment_any (v : Value) (t : Sg) (w : World) (lo b : Nat) (hv : SegAt w lo b v t) (hb : b ≤ w.heap.size) (hf : FewS t) :
    Calls Try.prog 28 #[v] w fun e w' => ∃ v', e = .returned v' ∧ SegAt w' w.heap.size w'.heap.size v' t ∧ Below w.heap.size w w' := by
  obtain ⟨hv, rfl, hh⟩ := hv
  have HH := Seg.hid hh
  obtain ⟨H, ⟨hn, A, c, hve, _⟩, _⟩ := id hh
  clear hh
  unfold segVal
  subst hve
  go_enter Try.func28, Try.ntmps28
  go_wp2_with fail
  refine (Bats.toBatchS_any _ t.bats (((w.alloc _).alloc _).alloc _) lo b (HH.out.below ((below3 w _ _ _).mono hb)) (by rw [hsz, hsz, hsz]; omega) hf.1 hf.2).mono ?_
  rintro e w1 ⟨v', rfl, hh1, b1⟩
  have B1 := Seg.hid (chain (below3 w _ _ _) b1)
  have T1 := (b1.block (w.heap.size + 1) (by rw [hsz, hsz, hsz]; omega)).trans (at3 w _ _ _)
  have T2 := (b1.block (w.heap.size + 1 + 1) (by rw [hsz, hsz, hsz]; omega)).trans (Cells.at3' w _ _ _)
  have HH1 := Seg.hid hh1
  obtain ⟨H', ⟨_, A', c', hve, _⟩, _⟩ := id hh1
  clear hh1 b1
  subst hve
  have cN := cell_of_row w1 (w.heap.size + 1 + 1) 1 _ _ _ T2
  have zN := frozen_of_row w1 (w.heap.size + 1 + 1) 1 _ _ T2
  have H3 : Hid ((w1.setCell ⟨w.heap.size + 1 + 1, 1, none⟩ (.slice A' t.bats.length c')).heap[w.heap.size + 1 + 1]? = some (.cells (segArr t (.slice A' t.bats.length c')) 41 (0, 0))) := heap_setCell_same w1 (w.heap.size + 1 + 1) 1 _ _ (.slice A' t.bats.length c') T2
  have T4 := (heap_setCell_other w1 ⟨w.heap.size + 1 + 1, 1, none⟩ (w.heap.size + 1) (.slice A' t.bats.length c') (by simp)).trans T1
  have H5 := Seg.hid (Cells.there_of T4)
  have H4 := Seg.hid (Cells.whole (vs := segArr t (.slice A' t.bats.length c')) T4 rfl)
  have B2 := Seg.hid (Cells.below_setCells (g := w.heap.size + 1) (by omega) (segArr t (.slice A' t.bats.length c')).toList 0 _ _ (B1.out.setCell (p := ⟨w.heap.size + 1 + 1, 1, none⟩) (by simp; omega) (.slice A' t.bats.length c')))
  have HF : Hid (BatsAt ((w1.setCell ⟨w.heap.size + 1 + 1, 1, none⟩ (.slice A' t.bats.length c')).setCells (w.heap.size + 1) 0 (segArr t (.slice A' t.bats.length c')).toList) w.heap.size ((w1.setCell ⟨w.heap.size + 1 + 1, 1, none⟩ (.slice A' t.bats.length c')).setCells (w.heap.size + 1) 0 (segArr t (.slice A' t.bats.length c')).toList).heap.size (.slice A' t.bats.length c') t.bats) := by
    refine (BatsAt.keep HH1.out (fun g h1 h2 => ?_)).mono ?_ ?_
    · rw [hsz, hsz, hsz] at h1
      rw [Cells.heap_setCells_other _ _ (by omega), heap_setCell_other _ _ _ _ (by show _ ≠ w.heap.size + 1 + 1; omega)]
    · rw [hsz, hsz, hsz]; omega
    · rw [Cells.size_setCells]; simp
  clear T1 T2 T4
  simp at cN
  go_wp2_with (first | (refine wpList_load_row rfl 41 _ rfl (w.heap.size + 1 + 1) rfl _ _ _ _ H3.out Try.underlying41 rfl infoN ?_) | (refine wpList_store_mid rfl 41 _ _ rfl (w.heap.size + 1) 0 (segArr t (.slice A' t.bats.length c')) rfl rfl H5.out infoN (segArr_one _ _ rfl) ?_))
  exact bodyPost_ret (v := segVal t (.slice A' t.bats.length c')) (results_cell_row rfl _ _ (w.heap.size + 1) _ _ _ _ rfl H4.out Try.underlying41 rfl infoN) rfl ⟨_, rfl, ⟨_, rfl, HF.out⟩, B2.out⟩

set_option maxHeartbeats 400000 in
theorem eqSegment_any (v v' : Value) (t : Sg) (w : World) (lo lo' b : Nat) (hv : SegAt w lo b v t) (hv' : SegAt w lo' b v' t) (hb : b ≤ w.heap.size) :
    Calls Try.prog 36 #[v, v'] w fun e w' => e = .returned (.bool true) ∧ Below w.heap.size w w' := by
  obtain ⟨hv, rfl, hh⟩ := hv
  obtain ⟨hv', rfl, hh'⟩ := hv'
  have HH := Seg.hid hh; have HH' := Seg.hid hh'
  obtain ⟨_, ⟨hn, A, c, hve, _⟩, _⟩ := id hh
  obtain ⟨_, ⟨_, A', c', hve', _⟩, _⟩ := id hh'
  clear hh hh'
  unfold segVal
  subst hve hve'
  go_enter Try.func36, Try.ntmps36
  go_wp2_with fail
  refine (Bats.eqBatchS_any _ _ t.bats ((w.alloc _).alloc _) lo lo' b (HH.out.below ((below2 w _ _).mono hb)) (HH'.out.below ((below2 w _ _).mono hb)) (by rw [hsz, hsz]; omega)).mono ?_
  rintro e w1 ⟨rfl, b1⟩
  have B1 := Seg.hid (chain (below2 w _ _) b1)
  clear b1
  go_wp2
  go_ret
  exact ⟨rfl, B1.out⟩
end Go.Proofs.Ytdcbgkcnidbakaa.SegW
