/- A block's cells written one behind the other: what the block then is; What the law's helpers over one Record answer; What the law's helpers over a list of Records answer. -/
import Derived.Laws.Rows
import Derived.Deep.MidRow
import Derived.Test.YticihnoekffelaaJS01
namespace Go.Proofs.Yticihnoekffelaa.Cells
set_option maxRecDepth 8000
open Go.RowKit
set_option linter.unusedVariables false
def setA (cs : Array Value) : Nat → List Value → Array Value
  | _, [] => cs
  | o, v :: r => setA (cs.setIfInBounds o v) (o + 1) r
theorem heap_setCells (g : Nat) (t : TypeId) : ∀ (vs : List Value) (o : Nat) (cs : Array Value) (w : World), w.heap[g]? = some (.cells cs t (0, 0)) → (w.setCells g o vs).heap[g]? = some (.cells (setA cs o vs) t (0, 0))
  | [], _, _, _, h => h
  | v :: r, o, cs, w, h => heap_setCells g t r (o + 1) _ _ (heap_setCell_same w g o cs t v h)
theorem setA_size : ∀ (vs : List Value) (o : Nat) (cs : Array Value), (setA cs o vs).size = cs.size
  | [], _, _ => rfl
  | v :: r, o, cs => by rw [setA, setA_size r]; simp
theorem setA_low : ∀ (vs : List Value) (o : Nat) (cs : Array Value) (j : Nat), j < o → (setA cs o vs)[j]? = cs[j]?
  | [], _, _, _, _ => rfl
  | v :: r, o, cs, j, h => by rw [setA, setA_low r _ _ _ (by omega), Array.getElem?_setIfInBounds_ne (by omega)]
theorem setA_in : ∀ (vs : List Value) (o : Nat) (cs : Array Value) (j : Nat), j < vs.length → o + vs.length ≤ cs.size → (setA cs o vs)[o + j]? = vs[j]?
  | v :: r, o, cs, 0, _, hs => by
    rw [setA, setA_low r _ _ _ (by omega)]
    simp at hs
    simp [show o < cs.size by omega]
  | v :: r, o, cs, j + 1, h, hs => by
    simp at h hs
    rw [setA, show o + (j + 1) = (o + 1) + j by omega, setA_in r (o + 1) _ j h (by simp; omega)]
    simp
theorem setA_all (vs z : Array Value) (hz : z.size = vs.size) : setA z 0 vs.toList = vs := by
  apply Array.ext_getElem?
  intro j
  by_cases hj : j < vs.size
  · have := setA_in vs.toList 0 z j (by simpa using hj) (by simp; omega)
    rw [Nat.zero_add] at this
    rw [this]; simp
  · rw [Array.getElem?_eq_none (by rw [setA_size]; omega), Array.getElem?_eq_none (by omega)]
theorem below_setCells {B g : Nat} (hg : B ≤ g) : ∀ (vs : List Value) (o : Nat) (a w : World), Below B a w → Below B a (w.setCells g o vs)
  | [], _, _, _, h => h
  | v :: r, o, a, w, h => below_setCells hg r (o + 1) a _ (h.setCell hg v)
theorem heap_setCells_other {g k : Nat} : ∀ (vs : List Value) {o : Nat} (w : World), k ≠ g → (w.setCells g o vs).heap[k]? = w.heap[k]?
  | [], _, _, _ => rfl
  | v :: r, o, w, h => (heap_setCells_other r (w.setCell ⟨g, o, none⟩ v) h).trans (heap_setCell_other w _ k v h)
theorem size_setCells {g : Nat} : ∀ (vs : List Value) {o : Nat} (w : World), (w.setCells g o vs).heap.size = w.heap.size
  | [], _, _ => rfl
  | v :: r, o, w => (size_setCells r (w.setCell ⟨g, o, none⟩ v)).trans (by simp)
theorem there_of {w : World} {g t : Nat} {cs : Array Value} (h : w.heap[g]? = some (.cells cs t (0, 0))) : w.there g 0 cs.size := fun j hj => by
  rw [Nat.zero_add, cell_of_row w g j cs t (0, 0) h, frozen_of_row w g j cs t h]
  exact ⟨by simp [hj], rfl⟩
theorem at3' (w : World) (a b c : Obj) : (((w.alloc a).alloc b).alloc c).heap[w.heap.size + 1 + 1]? = some c := by
  show (((w.heap.push a).push b).push c)[w.heap.size + 1 + 1]? = some c
  rw [Array.getElem?_push, if_pos (by simp)]
theorem frozen_of {w : World} {g j : Nat} {cs : Array Value} {t : TypeId} (h : w.heap[g]? = some (.cells cs t (0, 0))) : w.frozen? ⟨g, j, none⟩ = false := frozen_of_row w g j cs t h
/-- A block that is a struct's own, wholly written: the block then is just what was written. -/
theorem whole {w : World} {g t : Nat} {cs vs : Array Value} (h : w.heap[g]? = some (.cells cs t (0, 0))) (hs : cs.size = vs.size) : (w.setCells g 0 vs.toList).heap[g]? = some (.cells vs t (0, 0)) := by
  have := heap_setCells g t vs.toList 0 cs w h
  rw [setA_all vs cs hs] at this
  exact this
end Go.Proofs.Yticihnoekffelaa.Cells
namespace Go.Proofs.Yticihnoekffelaa.RecW
set_option maxRecDepth 8000
open Go.RowKit
open Recs
set_option linter.unusedVariables false

set_option maxHeartbeats 400000 in
theorem szRecord_any (v : Value) (r : Rec) (l : Int) (w : World) (lo b : Nat) (h3 : -1 ≤ l) (h4 : l ≤ 1048576) (hv : RecAt w lo b v r) (hb : b ≤ w.heap.size) (hf : FineR r) :
    Calls Try.prog 102 #[v, .int .i64 l] w fun e w' => ∃ q, e = .returned (.int .i64 q) ∧ -1 ≤ q ∧ q ≤ l ∧ (0 ≤ q → FewR r) ∧ Below w.heap.size w w' := by
  obtain ⟨hv, rfl, hh⟩ := hv
  obtain ⟨f1, f2, f3, f4⟩ := hf
  have F4 := Seg.hid f4
  have HH := Seg.hid hh
  unfold maxLen at f1 f2 f3
  obtain ⟨hn, A, c, hve, _⟩ := id hh
  clear hh f4
  unfold recVal
  subst hve
  go_enter Try.func102, Try.ntmps102
  by_cases k1 : l - (r.key.size : Int) < 0
  · go_wp2
    go_ret
    exact ⟨_, rfl, by omega, by omega, fun h => absurd h (by omega), below1 _ _⟩
  by_cases k2 : l - (r.key.size : Int) - (r.val.size : Int) < 0
  · go_wp2
    go_ret
    exact ⟨_, rfl, by omega, by omega, fun h => absurd h (by omega), below1 _ _⟩
  go_wp2_with fail
  refine (Sz.szHeadS_any _ r.heads _ (w.alloc _) lo b (by omega) (by omega) (HH.out.below ((below1 w _).mono hb)) (by rw [hsz]; omega) F4.out).mono ?_
  rintro e w1 ⟨q, rfl, q1, q2, q3, b1⟩
  have B1 := Seg.hid (chain (below1 w _) b1)
  have Q3 := Seg.hid q3
  clear b1 q3
  by_cases hq : q < 0
  · go_wp2
    go_ret
    exact ⟨_, rfl, by omega, by omega, fun h => absurd h (by omega), B1.out⟩
  · go_wp2
    go_ret
    exact ⟨q, rfl, by omega, by omega, fun h => by have := Q3.out h; unfold FewR; omega, B1.out⟩

def recArr (r : Rec) (hv : Value) : Array Value := #[.int .i64 r.time, .bool r.keyed, .string r.key, .bool r.gone, .string r.val, hv]
theorem recArr_one (r : Rec) (hv : Value) (h : hv.oneCell' = true) : (recArr r hv).all (·.oneCell') = true := by
  simp [recArr, Value.oneCell'] at h ⊢
  exact h
theorem info29 : (Try.prog.info? 88).map (·.size) = some 6 := by kernel_rfl
set_option maxHeartbeats 400000 in
theorem toRecord_any (v : Value) (r : Rec) (w : World) (lo b : Nat) (hv : RecAt w lo b v r) (hb : b ≤ w.heap.size) (hf : FewR r) :
    Calls Try.prog 103 #[v] w fun e w' => ∃ v', e = .returned v' ∧ RecAt w' w.heap.size w'.heap.size v' r ∧ Below w.heap.size w w' := by
  obtain ⟨hv, rfl, hh⟩ := hv
  have HH := Seg.hid hh
  obtain ⟨hn, A, c, hve, _⟩ := id hh
  clear hh
  unfold recVal
  subst hve
  go_enter Try.func103, Try.ntmps103
  go_wp2_with fail
  refine (Sz.toHeadS_any _ r.heads (((w.alloc _).alloc _).alloc _) lo b (HH.out.below ((below3 w _ _ _).mono hb)) (by rw [hsz, hsz, hsz]; omega) hf).mono ?_
  rintro e w1 ⟨v', rfl, hh1, b1⟩
  have B1 := Seg.hid (chain (below3 w _ _ _) b1)
  have T1 := (b1.block (w.heap.size + 1) (by rw [hsz, hsz, hsz]; omega)).trans (at3 w _ _ _)
  have T2 := (b1.block (w.heap.size + 1 + 1) (by rw [hsz, hsz, hsz]; omega)).trans (Cells.at3' w _ _ _)
  have HH1 := Seg.hid hh1
  obtain ⟨_, A', c', hve, _⟩ := id hh1
  clear hh1 b1
  subst hve
  have c5 := cell_of_row w1 (w.heap.size + 1 + 1) 5 _ _ _ T2
  have z5 := frozen_of_row w1 (w.heap.size + 1 + 1) 5 _ _ T2
  have H3 : Hid ((w1.setCell ⟨w.heap.size + 1 + 1, 5, none⟩ (.slice A' r.heads.length c')).heap[w.heap.size + 1 + 1]? = some (.cells (recArr r (.slice A' r.heads.length c')) 88 (0, 0))) := heap_setCell_same w1 (w.heap.size + 1 + 1) 5 _ _ (.slice A' r.heads.length c') T2
  have T4 := (heap_setCell_other w1 ⟨w.heap.size + 1 + 1, 5, none⟩ (w.heap.size + 1) (.slice A' r.heads.length c') (by simp)).trans T1
  have H5 := Seg.hid (Cells.there_of T4)
  have H4 := Seg.hid (Cells.whole (vs := recArr r (.slice A' r.heads.length c')) T4 rfl)
  have B2 := Seg.hid (Cells.below_setCells (g := w.heap.size + 1) (by omega) (recArr r (.slice A' r.heads.length c')).toList 0 _ _ (B1.out.setCell (p := ⟨w.heap.size + 1 + 1, 5, none⟩) (by simp; omega) (.slice A' r.heads.length c')))
  have HF : Hid (Heads ((w1.setCell ⟨w.heap.size + 1 + 1, 5, none⟩ (.slice A' r.heads.length c')).setCells (w.heap.size + 1) 0 (recArr r (.slice A' r.heads.length c')).toList) w.heap.size ((w1.setCell ⟨w.heap.size + 1 + 1, 5, none⟩ (.slice A' r.heads.length c')).setCells (w.heap.size + 1) 0 (recArr r (.slice A' r.heads.length c')).toList).heap.size (.slice A' r.heads.length c') r.heads) := by
    refine (Heads.keep HH1.out (fun g h1 h2 => ?_)).mono ?_ ?_
    · rw [hsz, hsz, hsz] at h1
      rw [Cells.heap_setCells_other _ _ (by omega), heap_setCell_other _ _ _ _ (by show _ ≠ w.heap.size + 1 + 1; omega)]
    · rw [hsz, hsz, hsz]; omega
    · rw [Cells.size_setCells]; simp
  clear T1 T2 T4
  simp at c5
  go_wp2_with (first | (refine wpList_load_row rfl 88 _ rfl (w.heap.size + 1 + 1) rfl _ _ _ _ H3.out Try.underlying88 rfl info29 ?_) | (refine wpList_store_mid rfl 88 _ _ rfl (w.heap.size + 1) 0 (recArr r (.slice A' r.heads.length c')) rfl rfl H5.out info29 (recArr_one _ _ rfl) ?_))
  exact bodyPost_ret (v := recVal r (.slice A' r.heads.length c')) (results_cell_row rfl _ _ (w.heap.size + 1) _ _ _ _ rfl H4.out Try.underlying88 rfl info29) rfl ⟨_, rfl, ⟨_, rfl, HF.out⟩, B2.out⟩

set_option maxHeartbeats 400000 in
theorem eqRecord_any (v v' : Value) (r : Rec) (w : World) (lo lo' b : Nat) (hv : RecAt w lo b v r) (hv' : RecAt w lo' b v' r) (hb : b ≤ w.heap.size) :
    Calls Try.prog 91 #[v, v'] w fun e w' => e = .returned (.bool true) ∧ Below w.heap.size w w' := by
  obtain ⟨hv, rfl, hh⟩ := hv
  obtain ⟨hv', rfl, hh'⟩ := hv'
  have HH := Seg.hid hh; have HH' := Seg.hid hh'
  obtain ⟨hn, A, c, hve, _⟩ := id hh
  obtain ⟨_, A', c', hve', _⟩ := id hh'
  clear hh hh'
  unfold recVal
  subst hve hve'
  go_enter Try.func91, Try.ntmps91
  go_wp2_with fail
  refine (Sz.eqHeadS_any _ _ r.heads ((w.alloc _).alloc _) lo lo' b (HH.out.below ((below2 w _ _).mono hb)) (HH'.out.below ((below2 w _ _).mono hb)) (by rw [hsz, hsz]; omega)).mono ?_
  rintro e w1 ⟨rfl, b1⟩
  have B1 := Seg.hid (chain (below2 w _ _) b1)
  clear b1
  go_wp2
  go_ret
  exact ⟨rfl, B1.out⟩
end Go.Proofs.Yticihnoekffelaa.RecW
namespace Go.Proofs.Yticihnoekffelaa.RecsW
set_option maxRecDepth 8000
open Go.RowKit
open Recs
set_option linter.unusedVariables false

/-- The six cells of element i. -/
theorem six {w : World} {g o n : Nat} {rs : List Rec} {H : Nat → Value} (h : ∀ i, i < n → ∀ j, j < 6 → w.cell? ⟨g, o + i * 6 + j, none⟩ = some (recCells rs H i j)) (i : Nat) (hi : i < n) :
    w.cell? ⟨g, o + i * 6, none⟩ = some (.int .i64 (rs.getD i default).time) ∧ w.cell? ⟨g, o + i * 6 + 1, none⟩ = some (.bool (rs.getD i default).keyed) ∧ w.cell? ⟨g, o + i * 6 + 2, none⟩ = some (.string (rs.getD i default).key) ∧
    w.cell? ⟨g, o + i * 6 + 3, none⟩ = some (.bool (rs.getD i default).gone) ∧ w.cell? ⟨g, o + i * 6 + 4, none⟩ = some (.string (rs.getD i default).val) ∧ w.cell? ⟨g, o + i * 6 + 5, none⟩ = some (H i) :=
  ⟨h i hi 0 (by omega), h i hi 1 (by omega), h i hi 2 (by omega), h i hi 3 (by omega), h i hi 4 (by omega), h i hi 5 (by omega)⟩
/-- .. in a later world. -/
theorem six' {w w' : World} {g o n : Nat} {rs : List Rec} {H : Nat → Value} (h : ∀ i, i < n → ∀ j, j < 6 → w.cell? ⟨g, o + i * 6 + j, none⟩ = some (recCells rs H i j)) (hb : Below w.heap.size w w') (hg : g < w.heap.size) :
    ∀ i, i < n → ∀ j, j < 6 → w'.cell? ⟨g, o + i * 6 + j, none⟩ = some (recCells rs H i j) := fun i hi j hj => by rw [hb.cell (p := ⟨g, o + i * 6 + j, none⟩) hg]; exact h i hi j hj

theorem szRecordS_none (A : Option Addr) (c : Nat) (l : Int) (w : World) (h3 : -1 ≤ l) (h4 : l ≤ 1048576) :
    Calls Try.prog 98 #[.slice A 0 c, .int .i64 l] w fun e w' => ∃ r, e = .returned (.int .i64 r) ∧ -1 ≤ r ∧ r ≤ l ∧ Below w.heap.size w w' := by
  go_enter Try.func98, Try.ntmps98
  by_cases hlt : l < 0
  · go_wp2
    go_ret
    exact ⟨_, rfl, by omega, by omega, Below.refl _ _⟩
  go_wp2
  go_loop [1, 5] (fun x i => i = .int .i64 0 ∧ ∃ r, x = .int .i64 r ∧ 0 ≤ r ∧ r ≤ l) (fun _ _ => 0)
  case atStart => exact ⟨rfl, _, rfl, by omega, by omega⟩
  case round =>
    obtain ⟨rfl, r, rfl, hr0, hr1⟩ := hrel
    go_wp2
    go_ret
    exact ⟨r, rfl, by omega, by omega, Below.refl _ _⟩

set_option maxHeartbeats 400000 in
theorem szRecordS_core (g o n c b : Nat) (rs : List Rec) (H : Nat → Value) (l : Int) (w : World) (h3 : -1 ≤ l) (h4 : l ≤ 1048576) (hn : n ≤ 9223372036854775807) (hc : n ≤ c) (hg : g < w.heap.size) (lo : Nat) (hb : b ≤ w.heap.size)
    (hf : ∀ i, i < n → FineR (rs.getD i default)) (hh : ∀ i, i < n → Heads w lo b (H i) (rs.getD i default).heads)
    (ha : ∀ i, i < n → ∀ j, j < 6 → w.cell? ⟨g, o + i * 6 + j, none⟩ = some (recCells rs H i j)) :
    Calls Try.prog 98 #[.slice (some ⟨g, o, none⟩) n c, .int .i64 l] w fun e w' => ∃ r, e = .returned (.int .i64 r) ∧ -1 ≤ r ∧ r ≤ l ∧ (0 ≤ r → (n : Int) ≤ l ∧ ∀ i, i < n → FewR (rs.getD i default)) ∧ Below w.heap.size w w' := by
  have HA := Seg.hid ha
  have HK := Seg.hid hf
  have HH := Seg.hid hh
  clear ha hf hh
  go_enter Try.func98, Try.ntmps98
  by_cases hlt : l - (n : Int) < 0
  · go_wp2
    go_ret
    exact ⟨_, rfl, by omega, by omega, fun h => absurd h (by omega), Below.refl _ _⟩
  go_wp2
  go_loopw [1, 5] (fun x i wr => ∃ (k : Nat) (r : Int), k ≤ n ∧ x = .int .i64 r ∧ i = .int .i64 k ∧ 0 ≤ r ∧ r ≤ l ∧ Hid (Below w.heap.size w wr ∧ ∀ i, i < k → FewR (rs.getD i default))) (fun _ i _ => n - (intOf i).toNat)
  case atStart => exact ⟨0, l - n, Nat.zero_le _, rfl, rfl, by omega, by omega, Below.refl _ _, fun i hi => absurd hi (by omega)⟩
  case round =>
    obtain ⟨k, r, hk, rfl, rfl, hr0, hr1, HB⟩ := hrel
    by_cases hlt2 : k < n
    · obtain ⟨c0, c1, c2, c3, c4, c5⟩ := six (six' HA.out HB.out.1 hg) k hlt2
      have RA : Hid (RecAt wr lo b (.agg #[.int .i64 (rs.getD k default).time, .bool (rs.getD k default).keyed, .string (rs.getD k default).key, .bool (rs.getD k default).gone, .string (rs.getD k default).val, H k]) (rs.getD k default)) := ⟨_, rfl, (HH.out k hlt2).below (HB.out.1.mono hb)⟩
      have h0 : (0 : Int) ≤ (k : Int) := by omega
      have h1 : (k : Int) < (n : Int) := by omega
      have hbr : b ≤ wr.heap.size := Nat.le_trans hb HB.out.1.size
      generalize hrk : rs.getD k default = rk at *
      go_wp2_with fail
      refine (RecW.szRecord_any _ rk r wr lo b (by omega) (by omega) RA.out hbr (hrk ▸ HK.out k hlt2)).mono ?_
      rintro e w1 ⟨r1, rfl, hr2, hr3, hfw, b1⟩
      have B1 := Seg.hid (chain HB.out.1 b1)
      have FW := Seg.hid hfw
      clear b1 hfw
      by_cases hneg : r1 < 0
      · go_wp2
        go_ret
        exact ⟨-1, rfl, by omega, by omega, fun h => absurd h (by omega), B1.out⟩
      · go_wp2
        go_roundw
        case rel =>
          refine ⟨k + 1, r1, by omega, rfl, by go_num, by omega, by omega, B1.out, fun i hi => ?_⟩
          by_cases he : i = k
          · subst he; rw [hrk]; exact FW.out (by omega)
          · exact HB.out.2 i (by omega)
        case measure => simp [intOf]; omega
    · have : k = n := by omega
      subst this
      go_wp2
      go_ret
      exact ⟨r, rfl, by omega, by omega, fun _ => ⟨by omega, HB.out.2⟩, HB.out.1⟩

theorem szRecordS_any (v : Value) (rs : List Rec) (l : Int) (w : World) (lo b : Nat) (h3 : -1 ≤ l) (h4 : l ≤ 1048576) (hv : RecsAt w lo b v rs) (hb : b ≤ w.heap.size) (hf : ∀ i, i < rs.length → FineR (rs.getD i default)) :
    Calls Try.prog 98 #[v, .int .i64 l] w fun e w' => ∃ r, e = .returned (.int .i64 r) ∧ -1 ≤ r ∧ r ≤ l ∧ (0 ≤ r → (rs.length : Int) ≤ l ∧ ∀ i, i < rs.length → FewR (rs.getD i default)) ∧ Below w.heap.size w w' := by
  obtain ⟨H, ⟨hn, A, c, rfl, h⟩, hh⟩ := hv
  by_cases hz : rs.length = 0
  · rw [hz]
    exact (szRecordS_none A c l w h3 h4).mono fun e w' ⟨r, a1, a2, a3, a4⟩ => ⟨r, a1, a2, a3, fun h => ⟨by omega, fun i hi => absurd hi (by omega)⟩, a4⟩
  obtain ⟨g, o, rfl, hg, hc, hcell, _⟩ := h.resolve_left hz
  exact szRecordS_core g o rs.length c b rs H l w h3 h4 hn hc (by omega) lo hb hf hh hcell
end Go.Proofs.Yticihnoekffelaa.RecsW
