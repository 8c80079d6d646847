/- What the law's helpers over Heads answer: how much of the measure is left; a copy in memory of its own; whether two are alike; A block's cells written one behind the other: what the block then is. -/
import Derived.RegionTactic
import Derived.Maps.AppendAt
import Derived.Laws.Rows
import Derived.Deep.RegionWith
import Derived.Outline
import Derived.Deep.MidRow
import Derived.Test.YtdhicmbfknagjaaRows
import Derived.Test.YtdhicmbfknagjaaJWT04
namespace Go.Proofs.Ytdhicmbfknagjaa.Sz
set_option maxRecDepth 8000
open Go.RowKit
open Recs
set_option linter.unusedVariables false

theorem row2 {F : Nat → Value} {K V : Nat → ByteArray} {i : Nat} (h : F (i * 2) = .string (K i) ∧ F (i * 2 + 1) = .string (V i)) (q : Nat) (hq : q < 2) : F (i * 2 + q) = if q = 0 then .string (K i) else .string (V i) := by
  match q, hq with
  | 0, _ => exact h.1
  | 1, _ => exact h.2
theorem info48 : (Try.prog.info? 188).map (·.size) = some 2 := by kernel_rfl
theorem toHead_any (k v : ByteArray) (w : World) : Calls Try.prog 156 #[.agg #[.string k, .string v]] w fun e w' => e = .returned (.agg #[.string k, .string v]) ∧ Below w.heap.size w w' := by
  go_enter Try.func156, Try.ntmps156
  go_wp2
  exact bodyPost_ret (v := .agg #[.string k, .string v]) (results_cell_row rfl _ _ (w.heap.size + 1) _ _ _ _ rfl (at3 _ _ _ _) Try.underlying188 rfl info48) rfl ⟨rfl, below3 _ _ _ _⟩

theorem szHead_any (k v : ByteArray) (l : Int) (w : World) (h1 : k.size ≤ maxLen) (h2 : v.size ≤ maxLen) (h3 : -1 ≤ l) (h4 : l ≤ 1048576) : Calls Try.prog 155 #[.agg #[.string k, .string v], .int .i64 l] w fun e w' => ∃ r, e = .returned (.int .i64 r) ∧ -1 ≤ r ∧ r ≤ l ∧ Below w.heap.size w w' := by
  unfold maxLen at h1 h2
  go_enter Try.func155, Try.ntmps155
  go_wp2
  all_goals
    go_ret
    exact ⟨_, rfl, by omega, by omega, below1 _ _⟩
theorem eqHead_any (k v : ByteArray) (w : World) : Calls Try.prog 157 #[.agg #[.string k, .string v], .agg #[.string k, .string v]] w fun e w' => e = .returned (.bool true) ∧ Below w.heap.size w w' := by
  go_enter Try.func157, Try.ntmps157
  go_wp2
  go_ret
  exact ⟨rfl, below2 _ _ _⟩

theorem szHeadS_core (g o n c : Nat) (K V : Nat → ByteArray) (l : Int) (w : World) (h3 : -1 ≤ l) (h4 : l ≤ 1048576) (hn : n ≤ 9223372036854775807) (hc : n ≤ c) (hg : g < w.heap.size)
    (hk : ∀ i, i < n → (K i).size ≤ maxLen ∧ (V i).size ≤ maxLen)
    (ha : ∀ i, i < n → w.cell? ⟨g, o + i * 2, none⟩ = some (.string (K i)) ∧ w.cell? ⟨g, o + i * 2 + 1, none⟩ = some (.string (V i))) :
    Calls Try.prog 152 #[.slice (some ⟨g, o, none⟩) n c, .int .i64 l] w fun e w' => ∃ r, e = .returned (.int .i64 r) ∧ -1 ≤ r ∧ r ≤ l ∧ (0 ≤ r → (n : Int) ≤ l) ∧ Below w.heap.size w w' := by
  have HA := Seg.hid ha
  have HK := Seg.hid hk
  clear ha hk
  go_enter Try.func152, Try.ntmps152
  by_cases hlt : l - (n : Int) < 0
  · go_wp2
    go_ret
    exact ⟨_, rfl, by omega, by omega, fun h => absurd h (by omega), Below.refl _ _⟩
  go_wp2
  go_loopw [1, 5] (fun x i wr => ∃ (k : Nat) (r : Int), k ≤ n ∧ x = .int .i64 r ∧ i = .int .i64 k ∧ 0 ≤ r ∧ r ≤ l ∧ Below w.heap.size w wr) (fun _ i _ => n - (intOf i).toNat)
  case atStart => exact ⟨0, l - n, Nat.zero_le _, rfl, rfl, by omega, by omega, Below.refl _ _⟩
  case round =>
    obtain ⟨k, r, hk, rfl, rfl, hr0, hr1, hb⟩ := hrel
    have HB := Seg.hid hb
    clear hb
    by_cases hlt2 : k < n
    · have c1 : wr.cell? ⟨g, o + k * 2, none⟩ = some (.string (K k)) := by rw [HB.out.cell (p := ⟨g, o + k * 2, none⟩) hg]; exact (HA.out k hlt2).1
      have c2 : wr.cell? ⟨g, o + k * 2 + 1, none⟩ = some (.string (V k)) := by rw [HB.out.cell (p := ⟨g, o + k * 2 + 1, none⟩) hg]; exact (HA.out k hlt2).2
      have h0 : (0 : Int) ≤ (k : Int) := by omega
      have h1 : (k : Int) < (n : Int) := by omega
      go_wp2_with fail
      refine (szHead_any (K k) (V k) r wr (HK.out k hlt2).1 (HK.out k hlt2).2 (by omega) (by omega)).mono ?_
      rintro e w1 ⟨r1, rfl, hr2, hr3, b1⟩
      have B1 := Seg.hid (HB.out.trans (b1.mono HB.out.size))
      clear b1
      by_cases hneg : r1 < 0
      · go_wp2
        go_ret
        exact ⟨-1, rfl, by omega, by omega, fun h => absurd h (by omega), B1.out⟩
      · go_wp2
        go_roundw
        case rel => exact ⟨k + 1, r1, by omega, rfl, by go_num, by omega, by omega, B1.out⟩
        case measure => simp [intOf]; omega
    · have : k = n := by omega
      subst this
      go_wp2
      go_ret
      exact ⟨r, rfl, by omega, by omega, fun _ => by omega, HB.out⟩

theorem szHeadS_none (A : Option Addr) (c : Nat) (l : Int) (w : World) (h3 : -1 ≤ l) (h4 : l ≤ 1048576) :
    Calls Try.prog 152 #[.slice A 0 c, .int .i64 l] w fun e w' => ∃ r, e = .returned (.int .i64 r) ∧ -1 ≤ r ∧ r ≤ l ∧ Below w.heap.size w w' := by
  go_enter Try.func152, Try.ntmps152
  by_cases hlt : l < 0
  · go_wp2
    go_ret
    exact ⟨_, rfl, by omega, by omega, Below.refl _ _⟩
  go_wp2
  go_loop [1, 5] (fun x i => i = .int .i64 0 ∧ ∃ r, x = .int .i64 r ∧ 0 ≤ r ∧ r ≤ l) (fun _ _ => 0)
  case atStart => exact ⟨rfl, _, rfl, by omega, by omega⟩
  case round =>
    obtain ⟨rfl, r, rfl, hr0, hr1⟩ := hrel
    go_wp2
    go_ret
    exact ⟨r, rfl, by omega, by omega, Below.refl _ _⟩

theorem szHeadS_any (v : Value) (hs : List Hd) (l : Int) (w : World) (lo b : Nat) (h3 : -1 ≤ l) (h4 : l ≤ 1048576) (hv : Heads w lo b v hs) (hb : b ≤ w.heap.size) (hf : ∀ i, i < hs.length → FineH (hs.getD i default)) :
    Calls Try.prog 152 #[v, .int .i64 l] w fun e w' => ∃ r, e = .returned (.int .i64 r) ∧ -1 ≤ r ∧ r ≤ l ∧ (0 ≤ r → (hs.length : Int) ≤ l) ∧ Below w.heap.size w w' := by
  obtain ⟨hn, A, c, rfl, h⟩ := hv
  by_cases hz : hs.length = 0
  · rw [hz]
    exact (szHeadS_none A c l w h3 h4).mono fun e w' ⟨r, a1, a2, a3, a4⟩ => ⟨r, a1, a2, a3, fun h => by omega, a4⟩
  obtain ⟨g, o, rfl, hg, hc, hcell, _⟩ := h.resolve_left hz
  exact szHeadS_core g o hs.length c (fun i => (hs.getD i default).key) (fun i => (hs.getD i default).val) l w h3 h4 hn hc (by omega) (fun i hi => hf i hi) (fun i hi => Heads.cell0 hcell i hi)

theorem info2 : (Try.prog.info? 188).map (fun i => (i.zero, i.size, i.bytes)) = some (some (.agg #[.string ByteArray.empty, .string ByteArray.empty]), 2, 32) := by kernel_rfl

set_option maxHeartbeats 400000 in
theorem toHeadS_core (g o n c : Nat) (K V : Nat → ByteArray) (w : World) (hn : n ≤ 1048576) (hc : n ≤ c) (hg : g < w.heap.size)
    (ha : ∀ i, i < n → w.cell? ⟨g, o + i * 2, none⟩ = some (.string (K i)) ∧ w.cell? ⟨g, o + i * 2 + 1, none⟩ = some (.string (V i))) :
    Calls Try.prog 153 #[.slice (some ⟨g, o, none⟩) n c] w fun e w' => ∃ v, e = .returned v ∧ Row w' w.heap.size w'.heap.size 2 v n (fun i j => if j = 0 then .string (K i) else .string (V i)) ∧ Below w.heap.size w w' := by
  obtain ⟨i0, hi, hz0, hz1, hz2⟩ := info_parts info2
  have HA := Seg.hid ha
  clear ha
  go_enter Try.func153, Try.ntmps153
  go_wp2_with (at_make; refine wpList_make_full _ rfl _ _ 158 rfl w.heap.size 188 i0 _ 2 Try.underlying158 hi hz0 hz1 .i64 .i64 _ _ n rfl rfl rfl rfl (by rw [hz2]; omega) (by unfold maxLen; omega) (Nat.le_refl _) ?_; intro w1 hown hgr)
  have hb1 := (Below.refl w.heap.size w).grown hgr (Nat.le_refl _) (fun k hk => by cases hk)
  have HM := Seg.hid (Mine.of_made hown hown.1)
  have HB := Seg.hid hb1
  clear hown hgr hb1 hi hz0 hz1 hz2
  go_loopw [4] (fun i wr => ∃ (j : Nat) (F : Nat → Value), j ≤ n ∧ i = .int .i64 j ∧ Hid (Mine wr 188 2 w.heap.size n F ∧ Below w.heap.size w wr ∧ ∀ i, i < j → F (i * 2) = .string (K i) ∧ F (i * 2 + 1) = .string (V i))) (fun i _ => n - (intOf i).toNat)
  case atStart => exact ⟨0, _, Nat.zero_le _, rfl, HM.out, HB.out, fun i hi => absurd hi (by omega)⟩
  case round =>
    clear HM HB
    obtain ⟨j, F, hj, rfl, HR⟩ := hrel
    by_cases hlt : j < n
    · have c1 : wr.cell? ⟨g, o + j * 2, none⟩ = some (.string (K j)) := by rw [HR.out.2.1.cell (p := ⟨g, o + j * 2, none⟩) hg]; exact (HA.out j hlt).1
      have c2 : wr.cell? ⟨g, o + j * 2 + 1, none⟩ = some (.string (V j)) := by rw [HR.out.2.1.cell (p := ⟨g, o + j * 2 + 1, none⟩) hg]; exact (HA.out j hlt).2
      have h0 : (0 : Int) ≤ (j : Int) := by omega
      have h1 : (j : Int) < (n : Int) := by omega
      go_wp2_with fail
      refine (toHead_any (K j) (V j) wr).mono ?_
      rintro e w1 ⟨rfl, b1⟩
      have M1 : Hid (Mine w1 188 2 w.heap.size n F) := HR.out.1.below b1 HR.out.1.lt
      have B1 := Seg.hid (HR.out.2.1.trans (b1.mono HR.out.2.1.size))
      clear b1
      have d1 := M1.out.cell (j * 2) (by omega)
      have d2 := M1.out.cell (j * 2 + 1) (by omega)
      have f1 := M1.out.frozen (j * 2)
      have f2 := M1.out.frozen (j * 2 + 1)
      have M2 := Seg.hid ((M1.out.set (j * 2) (.string (K j))).set (j * 2 + 1) (.string (V j)))
      have B2 := Seg.hid ((B1.out.setCell (p := ⟨w.heap.size, j * 2, none⟩) (Nat.le_refl _) (.string (K j))).setCell (p := ⟨w.heap.size, j * 2 + 1, none⟩) (Nat.le_refl _) (.string (V j)))
      go_wp2
      go_roundw
      case rel =>
        refine ⟨j + 1, _, by omega, by go_num, M2.out, B2.out, fun i hi => ?_⟩
        have hr := HR.out.2.2
        by_cases he : i = j
        · subst he; simp
        · have := hr i (by omega)
          simp [show ¬ i * 2 = j * 2 + 1 by omega, show ¬ i * 2 = j * 2 by omega, show ¬ i * 2 + 1 = j * 2 by omega, this]
      case measure => simp [intOf]; omega
    · have : j = n := by omega
      subst this
      go_wp2
      go_ret
      exact ⟨_, rfl, HR.out.1.row (by omega) HR.out.1.lt (Nat.le_refl _) (fun i hi q hq => row2 (HR.out.2.2 i hi) q hq), HR.out.2.1⟩

set_option maxHeartbeats 400000 in
theorem toHeadS_none (A : Option Addr) (c : Nat) (w : World) :
    Calls Try.prog 153 #[.slice A 0 c] w fun e w' => ∃ v, e = .returned v ∧ (∃ A c, v = .slice A 0 c) ∧ Below w.heap.size w w' := by
  obtain ⟨i0, hi, hz0, hz1, hz2⟩ := info_parts info2
  go_enter Try.func153, Try.ntmps153
  go_wp2_with (at_make; refine wpList_make_full _ rfl _ _ 158 rfl w.heap.size 188 i0 _ 2 Try.underlying158 hi hz0 hz1 .i64 .i64 _ _ 0 rfl rfl rfl rfl (by omega) (by unfold maxLen; omega) (Nat.le_refl _) ?_; intro w1 hown hgr)
  have hb1 := (Below.refl w.heap.size w).grown hgr (Nat.le_refl _) (fun k hk => by cases hk)
  have HB := Seg.hid hb1
  clear hown hgr hb1 hi hz0 hz1 hz2
  go_loop [4] (fun i => i = .int .i64 0) (fun i => 0)
  case atStart => rfl
  case round =>
    subst hrel
    go_wp2
    go_ret
    exact ⟨_, rfl, ⟨_, _, rfl⟩, HB.out⟩

theorem toHeadS_any (v : Value) (hs : List Hd) (w : World) (lo b : Nat) (hv : Heads w lo b v hs) (hb : b ≤ w.heap.size) (hl : hs.length ≤ 1048576) :
    Calls Try.prog 153 #[v] w fun e w' => ∃ v', e = .returned v' ∧ Heads w' w.heap.size w'.heap.size v' hs ∧ Below w.heap.size w w' := by
  obtain ⟨hn, A, c, rfl, h⟩ := hv
  by_cases hz : hs.length = 0
  · rw [hz]
    refine (toHeadS_none A c w).mono fun e w' ⟨v', a1, ⟨A', c', a2⟩, a3⟩ => ⟨v', a1, ⟨hn, A', c', ?_, .inl hz⟩, a3⟩
    rw [a2, hz]
  obtain ⟨g, o, rfl, hg, hc, hcell, _⟩ := h.resolve_left hz
  exact toHeadS_core g o hs.length c (fun i => (hs.getD i default).key) (fun i => (hs.getD i default).val) w hl hc (by omega) (fun i hi => Heads.cell0 hcell i hi)

theorem eqHeadS_none (A A' : Option Addr) (c c' : Nat) (w : World) :
    Calls Try.prog 154 #[.slice A 0 c, .slice A' 0 c'] w fun e w' => e = .returned (.bool true) ∧ Below w.heap.size w w' := by
  go_enter Try.func154, Try.ntmps154
  go_wp2
  go_loop [5] (fun i => i = .int .i64 0) (fun _ => 0)
  case atStart => rfl
  case round =>
    subst hrel
    go_wp2
    go_ret
    exact ⟨rfl, Below.refl _ _⟩

set_option maxHeartbeats 400000 in
theorem eqHeadS_core (g o g' o' n c c' : Nat) (K V : Nat → ByteArray) (w : World) (hn : n ≤ 9223372036854775807) (hc : n ≤ c) (hc' : n ≤ c') (hg : g < w.heap.size) (hg' : g' < w.heap.size)
    (ha : ∀ i, i < n → w.cell? ⟨g, o + i * 2, none⟩ = some (.string (K i)) ∧ w.cell? ⟨g, o + i * 2 + 1, none⟩ = some (.string (V i)))
    (ha' : ∀ i, i < n → w.cell? ⟨g', o' + i * 2, none⟩ = some (.string (K i)) ∧ w.cell? ⟨g', o' + i * 2 + 1, none⟩ = some (.string (V i))) :
    Calls Try.prog 154 #[.slice (some ⟨g, o, none⟩) n c, .slice (some ⟨g', o', none⟩) n c'] w fun e w' => e = .returned (.bool true) ∧ Below w.heap.size w w' := by
  have HA := Seg.hid ha; have HA' := Seg.hid ha'
  clear ha ha'
  go_enter Try.func154, Try.ntmps154
  go_wp2
  go_loopw [5] (fun i wr => ∃ (k : Nat), k ≤ n ∧ i = .int .i64 k ∧ Hid (Below w.heap.size w wr)) (fun i _ => n - (intOf i).toNat)
  case atStart => exact ⟨0, Nat.zero_le _, rfl, Below.refl _ _⟩
  case round =>
    obtain ⟨k, hk, rfl, HB⟩ := hrel
    by_cases hlt2 : k < n
    · have c1 : wr.cell? ⟨g, o + k * 2, none⟩ = some (.string (K k)) := by rw [HB.out.cell (p := ⟨g, o + k * 2, none⟩) hg]; exact (HA.out k hlt2).1
      have c2 : wr.cell? ⟨g, o + k * 2 + 1, none⟩ = some (.string (V k)) := by rw [HB.out.cell (p := ⟨g, o + k * 2 + 1, none⟩) hg]; exact (HA.out k hlt2).2
      have c3 : wr.cell? ⟨g', o' + k * 2, none⟩ = some (.string (K k)) := by rw [HB.out.cell (p := ⟨g', o' + k * 2, none⟩) hg']; exact (HA'.out k hlt2).1
      have c4 : wr.cell? ⟨g', o' + k * 2 + 1, none⟩ = some (.string (V k)) := by rw [HB.out.cell (p := ⟨g', o' + k * 2 + 1, none⟩) hg']; exact (HA'.out k hlt2).2
      have h0 : (0 : Int) ≤ (k : Int) := by omega
      have h1 : (k : Int) < (n : Int) := by omega
      go_wp2_with fail
      go_region_with (go_at_call 157; refine (eqHead_any _ _ _).mono ?_; rintro e w1 ⟨rfl, b1⟩; have B1 : Hid (Below w.heap.size w w1) := chainD HB.out b1; clear b1)
      all_goals
        go_wp2
        go_roundw
        case rel => exact ⟨k + 1, by omega, by go_num, B1.out⟩
        case measure => simp [intOf]; omega
    · have : k = n := by omega
      subst this
      go_wp2
      go_ret
      exact ⟨rfl, HB.out⟩

theorem eqHeadS_any (v v' : Value) (hs : List Hd) (w : World) (lo lo' b : Nat) (hv : Heads w lo b v hs) (hv' : Heads w lo' b v' hs) (hb : b ≤ w.heap.size) :
    Calls Try.prog 154 #[v, v'] w fun e w' => e = .returned (.bool true) ∧ Below w.heap.size w w' := by
  obtain ⟨hn, A, c, rfl, h⟩ := hv
  obtain ⟨_, A', c', rfl, h'⟩ := hv'
  by_cases hz : hs.length = 0
  · rw [hz]
    exact eqHeadS_none A A' c c' w
  obtain ⟨g, o, rfl, hg, hc, hcell, _⟩ := h.resolve_left hz
  obtain ⟨g', o', rfl, hg', hc', hcell', _⟩ := h'.resolve_left hz
  exact eqHeadS_core g o g' o' hs.length c c' (fun i => (hs.getD i default).key) (fun i => (hs.getD i default).val) w hn hc hc' (by omega) (by omega) (fun i hi => Heads.cell0 hcell i hi) (fun i hi => Heads.cell0 hcell' i hi)
end Go.Proofs.Ytdhicmbfknagjaa.Sz
namespace Go.Proofs.Ytdhicmbfknagjaa.Cells
set_option maxRecDepth 8000
open Go.RowKit
set_option linter.unusedVariables false
def setA (cs : Array Value) : Nat → List Value → Array Value
  | _, [] => cs
  | o, v :: r => setA (cs.setIfInBounds o v) (o + 1) r
theorem heap_setCells (g : Nat) (t : TypeId) : ∀ (vs : List Value) (o : Nat) (cs : Array Value) (w : World), w.heap[g]? = some (.cells cs t (0, 0)) → (w.setCells g o vs).heap[g]? = some (.cells (setA cs o vs) t (0, 0))
  | [], _, _, _, h => h
  | v :: r, o, cs, w, h => heap_setCells g t r (o + 1) _ _ (heap_setCell_same w g o cs t v h)
theorem setA_size : ∀ (vs : List Value) (o : Nat) (cs : Array Value), (setA cs o vs).size = cs.size
  | [], _, _ => rfl
  | v :: r, o, cs => by rw [setA, setA_size r]; simp
theorem setA_low : ∀ (vs : List Value) (o : Nat) (cs : Array Value) (j : Nat), j < o → (setA cs o vs)[j]? = cs[j]?
  | [], _, _, _, _ => rfl
  | v :: r, o, cs, j, h => by rw [setA, setA_low r _ _ _ (by omega), Array.getElem?_setIfInBounds_ne (by omega)]
theorem setA_in : ∀ (vs : List Value) (o : Nat) (cs : Array Value) (j : Nat), j < vs.length → o + vs.length ≤ cs.size → (setA cs o vs)[o + j]? = vs[j]?
  | v :: r, o, cs, 0, _, hs => by
    rw [setA, setA_low r _ _ _ (by omega)]
    simp at hs
    simp [show o < cs.size by omega]
  | v :: r, o, cs, j + 1, h, hs => by
    simp at h hs
    rw [setA, show o + (j + 1) = (o + 1) + j by omega, setA_in r (o + 1) _ j h (by simp; omega)]
    simp
theorem setA_all (vs z : Array Value) (hz : z.size = vs.size) : setA z 0 vs.toList = vs := by
  apply Array.ext_getElem?
  intro j
  by_cases hj : j < vs.size
  · have := setA_in vs.toList 0 z j (by simpa using hj) (by simp; omega)
    rw [Nat.zero_add] at this
    rw [this]; simp
  · rw [Array.getElem?_eq_none (by rw [setA_size]; omega), Array.getElem?_eq_none (by omega)]
theorem below_setCells {B g : Nat} (hg : B ≤ g) : ∀ (vs : List Value) (o : Nat) (a w : World), Below B a w → Below B a (w.setCells g o vs)
  | [], _, _, _, h => h
  | v :: r, o, a, w, h => below_setCells hg r (o + 1) a _ (h.setCell hg v)
theorem heap_setCells_other {g k : Nat} : ∀ (vs : List Value) {o : Nat} (w : World), k ≠ g → (w.setCells g o vs).heap[k]? = w.heap[k]?
  | [], _, _, _ => rfl
  | v :: r, o, w, h => (heap_setCells_other r (w.setCell ⟨g, o, none⟩ v) h).trans (heap_setCell_other w _ k v h)
theorem size_setCells {g : Nat} : ∀ (vs : List Value) {o : Nat} (w : World), (w.setCells g o vs).heap.size = w.heap.size
  | [], _, _ => rfl
  | v :: r, o, w => (size_setCells r (w.setCell ⟨g, o, none⟩ v)).trans (by simp)
theorem there_of {w : World} {g t : Nat} {cs : Array Value} (h : w.heap[g]? = some (.cells cs t (0, 0))) : w.there g 0 cs.size := fun j hj => by
  rw [Nat.zero_add, cell_of_row w g j cs t (0, 0) h, frozen_of_row w g j cs t h]
  exact ⟨by simp [hj], rfl⟩
theorem at3' (w : World) (a b c : Obj) : (((w.alloc a).alloc b).alloc c).heap[w.heap.size + 1 + 1]? = some c := by
  show (((w.heap.push a).push b).push c)[w.heap.size + 1 + 1]? = some c
  rw [Array.getElem?_push, if_pos (by simp)]
theorem frozen_of {w : World} {g j : Nat} {cs : Array Value} {t : TypeId} (h : w.heap[g]? = some (.cells cs t (0, 0))) : w.frozen? ⟨g, j, none⟩ = false := frozen_of_row w g j cs t h
/-- A block that is a struct's own, wholly written: the block then is just what was written. -/
theorem whole {w : World} {g t : Nat} {cs vs : Array Value} (h : w.heap[g]? = some (.cells cs t (0, 0))) (hs : cs.size = vs.size) : (w.setCells g 0 vs.toList).heap[g]? = some (.cells vs t (0, 0)) := by
  have := heap_setCells g t vs.toList 0 cs w h
  rw [setA_all vs cs hs] at this
  exact this
end Go.Proofs.Ytdhicmbfknagjaa.Cells
