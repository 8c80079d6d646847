/- The table that the program's Check makes: for each half byte its four steps; What the program's Check answers: the plain check of the bytes. -/
import Derived.Deep.MidRow
import Derived.Test.YtdcbgkcnidbakaaJR11
namespace Go.Proofs.Ytdcbgkcnidbakaa.Tab
set_option maxRecDepth 8000
open Go.RowKit
open Chk (After)
set_option linter.unusedVariables false
/-- The table when i places are filled. -/
def arr (i : Nat) : Array Value := ((List.range 16).map fun (j : Nat) => Value.int .u32 (if j < i then ((Crc.steps 4 j : Nat) : Int) else 0)).toArray
theorem arr_size (i : Nat) : (arr i).size = 16 := by simp [arr]
theorem arr_get (i j : Nat) (h : j < 16) : (arr i)[j]? = some (Value.int .u32 (if j < i then ((Crc.steps 4 j : Nat) : Int) else 0)) := by simp [arr, h]
theorem arr_set (i : Nat) (h : i < 16) : (arr i).setIfInBounds i (.int .u32 ((Crc.steps 4 i : Nat) : Int)) = arr (i + 1) := by
  apply Array.ext_getElem?
  intro j
  by_cases hj : j < 16
  · rw [arr_get (i + 1) j hj, Array.getElem?_setIfInBounds]
    by_cases e : i = j
    · subst e
      simp [arr_size, h]
    · rw [if_neg e, arr_get i j hj]
      by_cases h1 : j < i
      · simp [h1, show j < i + 1 by omega]
      · simp [h1, show ¬ j < i + 1 by omega]
  · rw [Array.getElem?_eq_none (by simp [arr_size]; omega), Array.getElem?_eq_none (by simp [arr_size]; omega)]
theorem arr_zero : arr 0 = #[.int .u32 0, .int .u32 0, .int .u32 0, .int .u32 0, .int .u32 0, .int .u32 0, .int .u32 0, .int .u32 0, .int .u32 0, .int .u32 0, .int .u32 0, .int .u32 0, .int .u32 0, .int .u32 0, .int .u32 0, .int .u32 0] := rfl
theorem arr_one (i : Nat) : (arr i).all (·.oneCell') = true := by
  simp [arr, Value.oneCell']
def setA (cs : Array Value) : Nat → List Value → Array Value
  | _, [] => cs
  | o, v :: r => setA (cs.setIfInBounds o v) (o + 1) r
theorem heap_setCells (g : Nat) (t : TypeId) : ∀ (vs : List Value) (o : Nat) (cs : Array Value) (w : World), w.heap[g]? = some (.cells cs t (0, 0)) → (w.setCells g o vs).heap[g]? = some (.cells (setA cs o vs) t (0, 0))
  | [], _, _, _, h => h
  | v :: r, o, cs, w, h => heap_setCells g t r (o + 1) _ _ (heap_setCell_same w g o cs t v h)
theorem setA_size : ∀ (vs : List Value) (o : Nat) (cs : Array Value), (setA cs o vs).size = cs.size
  | [], _, _ => rfl
  | v :: r, o, cs => by rw [setA, setA_size r]; simp
theorem setA_low : ∀ (vs : List Value) (o : Nat) (cs : Array Value) (j : Nat), j < o → (setA cs o vs)[j]? = cs[j]?
  | [], _, _, _, _ => rfl
  | v :: r, o, cs, j, h => by rw [setA, setA_low r _ _ _ (by omega), Array.getElem?_setIfInBounds_ne (by omega)]
theorem setA_in : ∀ (vs : List Value) (o : Nat) (cs : Array Value) (j : Nat), j < vs.length → o + vs.length ≤ cs.size → (setA cs o vs)[o + j]? = vs[j]?
  | v :: r, o, cs, 0, _, hs => by
    rw [setA, setA_low r _ _ _ (by omega)]
    simp at hs
    simp [show o < cs.size by omega]
  | v :: r, o, cs, j + 1, h, hs => by
    simp at h hs
    rw [setA, show o + (j + 1) = (o + 1) + j by omega, setA_in r (o + 1) _ j h (by simp; omega)]
    simp
theorem setA_all (z : Array Value) (hz : z.size = 16) (i : Nat) : setA z 0 (arr i).toList = arr i := by
  apply Array.ext_getElem?
  intro j
  by_cases hj : j < 16
  · have := setA_in (arr i).toList 0 z j (by simp [arr_size]; omega) (by simp [arr_size]; omega)
    rw [Nat.zero_add] at this
    rw [this]; simp
  · rw [Array.getElem?_eq_none (by rw [setA_size]; omega), Array.getElem?_eq_none (by rw [arr_size]; omega)]
theorem below_setCells {B g : Nat} (hg : B ≤ g) : ∀ (vs : List Value) (o : Nat) (a w : World), Below B a w → Below B a (w.setCells g o vs)
  | [], _, _, _, h => h
  | v :: r, o, a, w, h => below_setCells hg r (o + 1) a _ (h.setCell hg v)
theorem there_of {w : World} {g t : Nat} {cs : Array Value} (h : w.heap[g]? = some (.cells cs t (0, 0))) : w.there g 0 cs.size := fun j hj => by
  rw [Nat.zero_add, cell_of_row w g j cs t (0, 0) h, frozen_of_row w g j cs t h]
  exact ⟨by simp [hj], rfl⟩
theorem info37 : (Try.prog.info? 125).map (·.size) = some 16 := by kernel_rfl

set_option maxRecDepth 4000 in
set_option maxHeartbeats 800000 in
theorem table_any (w : World) : Calls Try.prog 97 #[] w fun e w' => e = .returned (.agg (arr 16)) ∧ Below w.heap.size w w' := by
  go_enter Try.func97, Try.ntmps97
  go_wp2
  rw [← arr_zero]
  go_loopw [2, 3, 4, 5, 10] (fun _ _ _ i _ wr => ∃ j : Nat, j ≤ 16 ∧ i = .int .i64 j ∧ wr.heap[w.heap.size]? = some (.cells (arr 0) 125 (0, 0)) ∧ wr.heap[w.heap.size + 1]? = some (.cells (arr j) 125 (0, 0)) ∧ Below w.heap.size w wr) (fun _ _ _ i _ _ => 16 - (intOf i).toNat)
  case atStart => exact ⟨0, by omega, rfl, heap_alloc2_old _ _ _, heap_alloc2_new _ _ _, ((Below.refl _ _).alloc (Nat.le_refl _) _).alloc (by simp) _⟩
  case round =>
    obtain ⟨j, hj, rfl, h0, h1, hb⟩ := hrel
    by_cases hlt : j < 16
    · have hc := cell_of_row wr (w.heap.size + 1) j _ _ _ h1
      rw [arr_get j j hlt] at hc
      have hf := frozen_of_row wr (w.heap.size + 1) j _ _ h1
      have H0 := Seg.hid h0; have H1 := Seg.hid h1; have HB := Seg.hid hb
      clear h0 h1 hb
      go_wp2
      go_loop [3, 4, 10] (fun c _ i => ∃ k z : Nat, k ≤ 4 ∧ i = .int .i64 k ∧ c = .int .u32 z ∧ After j k z) (fun _ _ i => 4 - (intOf i).toNat)
      case atStart => exact ⟨0, j, by omega, rfl, rfl, After.start (by omega)⟩
      case round =>
        obtain ⟨k, z, hk, rfl, rfl, HA⟩ := hrel
        by_cases hk4 : k < 4
        · have hz := HA.lt
          have HA2 := Seg.hid HA.next
          cases hodd : ((z : Int) % 2 == 1) with
          | true =>
            have hst := Chk.odd_step hz hodd
            clear HA
            go_wp2
            go_round
            case rel => exact ⟨k + 1, Crc.step z, by omega, by go_num, rfl, HA2.out⟩
            case measure => simp [intOf]; omega
          | false =>
            have hst := Chk.even_step hodd
            clear HA
            go_wp2
            go_round
            case rel => exact ⟨k + 1, Crc.step z, by omega, by go_num, rfl, HA2.out⟩
            case measure => simp [intOf]; omega
        · obtain rfl : k = 4 := by omega
          have hz : z = Crc.steps 4 j := HA.eq
          have N0 : Hid ((wr.setCell ⟨w.heap.size + 1, j, none⟩ (.int .u32 (z : Int))).heap[w.heap.size]? = some (.cells (arr 0) 125 (0, 0))) := (by
            show _ = _
            rw [heap_setCell_other _ _ _ _ (by simp)]; exact H0.out)
          have N1 : Hid ((wr.setCell ⟨w.heap.size + 1, j, none⟩ (.int .u32 (z : Int))).heap[w.heap.size + 1]? = some (.cells (arr (j + 1)) 125 (0, 0))) := (by
            show _ = _
            rw [heap_setCell_same wr _ j _ _ _ H1.out, hz, arr_set j hlt])
          have NB : Hid (Below w.heap.size w (wr.setCell ⟨w.heap.size + 1, j, none⟩ (.int .u32 (z : Int)))) := HB.out.setCell (by simp) _
          clear HA hz
          go_wp2
          go_roundw
          case rel => exact ⟨j + 1, by omega, by go_num, N0.out, N1.out, NB.out⟩
          case measure => simp [intOf]; omega
    · obtain rfl : j = 16 := by omega
      have HT := Seg.hid (there_of h0)
      have HS := Seg.hid (heap_setCells w.heap.size 125 (arr 16).toList 0 _ _ h0)
      rw [setA_all _ (arr_size 0)] at HS
      have NB := Seg.hid (below_setCells (g := w.heap.size) (Nat.le_refl _) (arr 16).toList 0 _ _ hb)
      have H1 := Seg.hid h1
      clear h0 h1 hb
      go_wp2_with (first | (refine wpList_load_row rfl 125 _ rfl (w.heap.size + 1) rfl _ _ _ _ H1.out Try.underlying125 rfl (by rw [arr_size]; exact info37) ?_) | (refine wpList_store_mid rfl 125 _ _ rfl w.heap.size 0 (arr 16) rfl rfl (by rw [arr_size]; rw [arr_size] at HT; exact HT.out) (by rw [arr_size]; exact info37) (arr_one _) ?_))
      exact bodyPost_ret (v := .agg (arr 16)) (results_cell_row rfl _ _ w.heap.size _ _ _ _ rfl HS.out Try.underlying125 rfl (by rw [arr_size]; exact info37)) rfl ⟨rfl, NB.out⟩
end Go.Proofs.Ytdcbgkcnidbakaa.Tab
namespace Go.Proofs.Ytdcbgkcnidbakaa.ChkI
set_option maxRecDepth 8000
open Go.RowKit
open Chk (Upto)
open Tab (arr)
set_option linter.unusedVariables false
/-- What the table is good for. -/
structure Tbl (A : Array Value) : Prop where
  size : A.size = 16
  get : ∀ j, j < 16 → A[j]? = some (.int .u32 ((Crc.steps 4 j : Nat) : Int))
  one : A.all (·.oneCell') = true
theorem table_ex (w : World) : Calls Try.prog 97 #[] w fun e w' => ∃ A, e = .returned (.agg A) ∧ Tbl A ∧ Below w.heap.size w w' :=
  (Tab.table_any w).mono fun e w' h => ⟨arr 16, h.1, ⟨Tab.arr_size 16, fun j hj => by rw [Tab.arr_get 16 j hj, if_pos hj], Tab.arr_one 16⟩, h.2⟩
theorem setA_full {z A : Array Value} (hz : z.size = 16) (hA : A.size = 16) : Tab.setA z 0 A.toList = A := by
  apply Array.ext_getElem?
  intro j
  by_cases hj : j < 16
  · have := Tab.setA_in A.toList 0 z j (by simp [hA]; omega) (by simp [hA]; omega)
    rw [Nat.zero_add] at this
    rw [this]; simp
  · rw [Array.getElem?_eq_none (by rw [Tab.setA_size]; omega), Array.getElem?_eq_none (by omega)]
/-- The table stored into a new block. -/
theorem stored {A : Array Value} (hA : Tbl A) (w : World) (z : Array Value) (hz : z.size = 16) (t : TypeId) :
    (w.alloc (.cells z t)).there w.heap.size 0 A.size ∧ ((w.alloc (.cells z t)).setCells w.heap.size 0 A.toList).heap[w.heap.size]? = some (.cells A t (0, 0)) ∧ Below w.heap.size w ((w.alloc (.cells z t)).setCells w.heap.size 0 A.toList) := by
  have h := heap_alloc_new w (.cells z t)
  refine ⟨?_, ?_, Tab.below_setCells (Nat.le_refl _) _ _ _ _ ((Below.refl _ _).alloc (Nat.le_refl _) _)⟩
  · have := Tab.there_of h
    rw [hz] at this; rw [hA.size]; exact this
  · have := Tab.heap_setCells w.heap.size t A.toList 0 z _ h
    rw [setA_full hz hA.size] at this; exact this
theorem tab_cell {w : World} {g t : Nat} {A : Array Value} (hA : Tbl A) (h : w.heap[g]? = some (.cells A t (0, 0))) (j : Nat) (hj : j < 16) : w.cell? ⟨g, j, none⟩ = some (.int .u32 ((Crc.steps 4 j : Nat) : Int)) := by
  rw [cell_of_row w g j _ _ _ h, hA.get j hj]
theorem half (z : Nat) (hz : z < 4294967296) : bits .xor .u32 ((z : Int) / 16) ((Crc.steps 4 (z % 16) : Nat) : Int) = ((z / 16 ^^^ Crc.steps 4 (z % 16) : Nat) : Int) := by
  rw [← Crc.u32_xor _ _ (by omega) (Crc.steps_lt (by omega) 4), Int.natCast_ediv]
  rfl
theorem half_lt (z : Nat) (hz : z < 4294967296) : z / 16 ^^^ Crc.steps 4 (z % 16) < 4294967296 := Crc.xor_lt (by omega) (Crc.steps_lt (by omega) 4)
theorem u32_not (m : Nat) (h : m < 4294967296) : bits .xor .u32 IntKind.u32.max (m : Int) = ((m ^^^ 4294967295 : Nat) : Int) := by
  have hm : IntKind.u32.max = ((4294967295 : Nat) : Int) := by decide
  rw [hm, Crc.u32_xor _ _ (by decide) h, Nat.xor_comm]

set_option maxRecDepth 4000 in
set_option maxHeartbeats 800000 in
theorem impl_core (g o n c : Nat) (l : List Int) (w : World) (hn : n ≤ 140737488355328) (hc1 : n ≤ c) (hl : l.length = n) (hg : n = 0 ∨ g < w.heap.size)
    (hcell : ∀ i, i < n → w.cell? ⟨g, o + i, none⟩ = some (.int .u8 (l.getD i 0))) (hby : Seg.Byt l) :
    Calls Try.prog 90 #[.slice (some ⟨g, o, none⟩) n c] w fun e w' => e = .returned (.int .i64 (Crc.check l)) ∧ Below w.heap.size w w' := by
  have HC := Seg.hid hcell
  have HL := Seg.hid hl
  have HY := Seg.hid hby
  have HG := Seg.hid hg
  clear hcell hl hby hg
  go_enter Try.func90, Try.ntmps90
  go_wp2_with fail
  refine (table_ex _).mono ?_
  rintro e w1 ⟨A, rfl, hA, hb1⟩
  have HB1 := Seg.hid hb1
  have HA := Seg.hid hA
  clear hb1 hA
  obtain ⟨P1, P2, P3⟩ := stored HA.out w1 #[.int .u32 0, .int .u32 0, .int .u32 0, .int .u32 0, .int .u32 0, .int .u32 0, .int .u32 0, .int .u32 0, .int .u32 0, .int .u32 0, .int .u32 0, .int .u32 0, .int .u32 0, .int .u32 0, .int .u32 0, .int .u32 0] rfl 125
  have Q1 := Seg.hid P1; have Q2 := Seg.hid P2; have Q3 := Seg.hid P3
  clear P1 P2 P3
  go_wp2_with (refine wpList_store_mid rfl 125 _ _ rfl w1.heap.size 0 A rfl rfl Q1.out (by rw [HA.out.size]; exact Tab.info37) HA.out.one ?_)
  have Q4 := Seg.hid (HB1.out.trans (Q3.out.mono HB1.out.size))
  clear Q1 Q3
  revert Q2 Q4
  generalize ((w1.alloc _).setCells w1.heap.size 0 A.toList) = W
  intro Q2 Q4
  go_loop [4, 6, 10] (fun c _ i => ∃ j m : Nat, j ≤ n ∧ i = .int .i64 j ∧ c = .int .u32 m ∧ Upto l j m) (fun _ _ i => n - (intOf i).toNat)
  case atStart => exact ⟨0, 4294967295, Nat.zero_le _, rfl, rfl, Upto.start l⟩
  case round =>
    obtain ⟨j, m, hj, rfl, rfl, HU⟩ := hrel
    by_cases hlt : j < n
    · obtain ⟨x, HX, hx⟩ : ∃ x : Nat, Hid (l.getD j 0 = (x : Int)) ∧ x < 256 := ⟨(l.getD j 0).toNat, by show _ = _; have := HY.out j; omega, by have := HY.out j; omega⟩
      have hc : W.cell? ⟨g, o + j, none⟩ = some (.int .u8 (x : Int)) := by
        rw [Q4.out.cell (p := ⟨g, o + j, none⟩) (HG.out.resolve_left (by omega)), HC.out j hlt, HX.out]
      have hxx := Crc.u32_xor m x HU.lt (by omega)
      have HN := Seg.hid (HU.next (by rw [HL.out]; exact hlt) x HX.out hx)
      have hz : m ^^^ x < 4294967296 := Crc.xor_lt HU.lt (by omega)
      obtain ⟨z0, hz0⟩ : ∃ z0, z0 = m ^^^ x := ⟨_, rfl⟩
      rw [← hz0] at hxx HN hz
      clear HU hz0
      have t0 := tab_cell HA.out Q2.out (z0 % 16) (by omega)
      have x0 := half z0 hz
      have hz1 := half_lt z0 hz
      have HN1 : Hid (Crc.steps 8 z0 = Crc.steps 4 (z0 / 16 ^^^ Crc.steps 4 (z0 % 16))) := (by show Crc.steps (4 + 4) z0 = _; rw [Crc.steps_add, Crc.nib z0])
      obtain ⟨s0, hs0⟩ : ∃ s0, s0 = Crc.steps 4 (z0 % 16) := ⟨_, rfl⟩
      rw [← hs0] at t0 x0 hz1 HN1
      obtain ⟨z1, hz1e⟩ : ∃ z1, z1 = z0 / 16 ^^^ s0 := ⟨_, rfl⟩
      rw [← hz1e] at x0 hz1 HN1
      have t1 := tab_cell HA.out Q2.out (z1 % 16) (by omega)
      have x1 := half z1 hz1
      have HN2 : Hid (Crc.steps 4 z1 = z1 / 16 ^^^ Crc.steps 4 (z1 % 16)) := Crc.nib z1
      obtain ⟨s1, hs1⟩ : ∃ s1, s1 = Crc.steps 4 (z1 % 16) := ⟨_, rfl⟩
      rw [← hs1] at t1 x1 HN2
      obtain ⟨z2, hz2e⟩ : ∃ z2, z2 = z1 / 16 ^^^ s1 := ⟨_, rfl⟩
      rw [← hz2e] at x1 HN2
      have HF : Hid (Upto l (j + 1) z2) := (by rw [← HN2.out, ← HN1.out]; exact HN.out)
      clear hs0 hz1e hs1 hz2e HN HN1 HN2
      go_wp2
      go_round
      case rel => exact ⟨j + 1, z2, by omega, by go_num, rfl, HF.out⟩
      case measure => simp [intOf]; omega
    · have hlen : Hid (l.length ≤ j) := (by show _ ≤ _; rw [HL.out]; omega)
      have hx := u32_not m HU.lt
      have hlt2 := Crc.xor_lt HU.lt (show 4294967295 < 4294967296 by decide)
      have HE : Hid (((m ^^^ 4294967295 : Nat) : Int) = Crc.check l) := (by show _ = _; rw [HU.done hlen.out]; rfl)
      obtain ⟨r, hr⟩ : ∃ r, r = m ^^^ 4294967295 := ⟨_, rfl⟩
      rw [← hr] at hx hlt2 HE
      clear HU hr
      go_wp2
      go_ret
      exact ⟨Seg.ret_int ((IntWalk.wrap64_in _ ⟨by omega, by omega⟩).trans HE.out), Q4.out⟩

theorem impl_any (base g n c : Nat) (l : List Int) (w : World) (hn : n ≤ 140737488355328) (hl : l.length = n) (hby : Seg.Byt l)
    (ho : w.ownsRow base 5 1 (.slice (some ⟨g, 0, none⟩) n c) n (Seg.B l)) :
    Calls Try.prog 90 #[.slice (some ⟨g, 0, none⟩) n c] w fun e w' => e = .returned (.int .i64 (Crc.check l)) ∧ Below w.heap.size w w' := by
  have hc := Seg.owns_cap ho
  exact impl_core g 0 n c l w hn hc.1 hl (.inr hc.2.2.2) (fun i hi => by rw [Nat.zero_add]; exact Seg.owns_cell ho i hi) hby
end Go.Proofs.Ytdcbgkcnidbakaa.ChkI
