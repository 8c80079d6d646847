/- What the two Checks answer: the plain check of the bytes; The table that the program's Check makes: for each half byte its four steps. -/
import Derived.Outline
import Derived.Deep.MidRow
import Derived.Test.YtojalklkpnaofaaRows
import Derived.Test.YtojalklkpnaofaaJF01
import Derived.Test.YtojalklkpnaofaaJF23
namespace Go.Proofs.Ytojalklkpnaofaa.Chk
set_option maxRecDepth 8000
open Go.RowKit
set_option linter.unusedVariables false

/-- How far the check is: j bytes are taken. -/
structure Upto (l : List Int) (j c : Nat) : Prop where
  lt : c < 4294967296
  eq : c = (l.take j).foldl Crc.upd 4294967295
theorem Upto.start (l : List Int) : Upto l 0 4294967295 := ⟨by decide, by simp⟩
theorem Upto.next {l : List Int} {j c : Nat} (h : Upto l j c) (hj : j < l.length) (x : Nat) (hx : l.getD j 0 = (x : Int)) (hx2 : x < 256) : Upto l (j + 1) (Crc.steps 8 (c ^^^ x)) := by
  have hg : l[j] = (x : Int) := by simpa [hj] using hx
  refine ⟨Crc.steps_lt (Crc.xor_lt h.lt (by omega)) 8, ?_⟩
  rw [List.take_succ_eq_append_getElem hj, List.foldl_append, ← h.eq, hg]
  simp [Crc.upd]
theorem Upto.done {l : List Int} {j c : Nat} (h : Upto l j c) (hj : l.length ≤ j) : c = Crc.crc l := by
  rw [h.eq, List.take_of_length_le hj]; rfl

theorem odd_step {z : Nat} (hz : z < 4294967296) (h : (((z : Int) % 2 == 1) = true)) : bits .xor .u32 ((z : Int) / 2) 3988292384 = ((Crc.step z : Nat) : Int) := by
  have := eq_of_beq h
  rw [Crc.step_odd (by omega), ← Crc.u32_xor _ _ (by omega) Crc.poly_lt, Int.natCast_ediv]
  rfl
theorem even_step {z : Nat} (h : (((z : Int) % 2 == 1) = false)) : (z : Int) / 2 = ((Crc.step z : Nat) : Int) := by
  have := ne_of_beq_false h
  rw [Crc.step_even (by omega)]; omega
/-- k steps of a number. -/
structure After (z0 k z : Nat) : Prop where
  lt : z < 4294967296
  eq : z = Crc.steps k z0
theorem After.start {z : Nat} (h : z < 4294967296) : After z 0 z := ⟨h, rfl⟩
theorem After.next {z0 k z : Nat} (h : After z0 k z) : After z0 (k + 1) (Crc.step z) := ⟨Crc.step_lt h.lt, by rw [h.eq]; rfl⟩

set_option maxRecDepth 4000 in
set_option maxHeartbeats 800000 in
theorem spec_core (g o n c : Nat) (l : List Int) (w : World) (hn : n ≤ 140737488355328) (hc1 : n ≤ c) (hl : l.length = n)
    (hcell : ∀ i, i < n → w.cell? ⟨g, o + i, none⟩ = some (.int .u8 (l.getD i 0))) (hby : Seg.Byt l) :
    Calls Try.prog 67 #[.slice (some ⟨g, o, none⟩) n c] w fun e w' => e = .returned (.int .i64 (Crc.check l)) ∧ w = w' := by
  have HC := Seg.hid hcell
  have HL := Seg.hid hl
  have HY := Seg.hid hby
  clear hcell hl hby
  go_enter Try.func67, Try.ntmps67
  go_wp2
  go_loop [3, 4, 5, 6] (fun c i _ _ => ∃ j m : Nat, j ≤ n ∧ i = .int .i64 j ∧ c = .int .u32 m ∧ Upto l j m) (fun _ i _ _ => n - (intOf i).toNat)
  case atStart => exact ⟨0, 4294967295, Nat.zero_le _, rfl, rfl, Upto.start l⟩
  case round =>
    obtain ⟨j, m, hj, rfl, rfl, HU⟩ := hrel
    by_cases hlt : j < n
    · obtain ⟨x, HX, hx⟩ : ∃ x : Nat, Hid (l.getD j 0 = (x : Int)) ∧ x < 256 := ⟨(l.getD j 0).toNat, by show _ = _; have := HY.out j; omega, by have := HY.out j; omega⟩
      have hc : w.cell? ⟨g, o + j, none⟩ = some (.int .u8 (x : Int)) := by rw [HC.out j hlt, HX.out]
      have hxx := Crc.u32_xor m x HU.lt (by omega)
      have HN := Seg.hid (HU.next (by rw [HL.out]; exact hlt) x HX.out hx)
      have HZ : Hid (m ^^^ x < 4294967296) := Crc.xor_lt HU.lt (by omega)
      obtain ⟨z0, hz0⟩ : ∃ z0, z0 = m ^^^ x := ⟨_, rfl⟩
      rw [← hz0] at hxx HN HZ
      clear HU hz0
      go_wp2
      go_loop [3, 5, 6] (fun c i _ => ∃ k z : Nat, k ≤ 8 ∧ i = .int .i64 k ∧ c = .int .u32 z ∧ After z0 k z) (fun _ i _ => 8 - (intOf i).toNat)
      case atStart => exact ⟨0, z0, Nat.zero_le _, rfl, rfl, After.start HZ.out⟩
      case round =>
        clear hxx
        obtain ⟨k, z, hk, rfl, rfl, HA⟩ := hrel
        by_cases hk8 : k < 8
        · have hz := HA.lt
          have HA2 := Seg.hid HA.next
          cases hodd : ((z : Int) % 2 == 1) with
          | true =>
            have hst := odd_step hz hodd
            clear HA
            go_wp2
            go_round
            case rel => exact ⟨k + 1, Crc.step z, by omega, by go_num, rfl, HA2.out⟩
            case measure => simp [intOf]; omega
          | false =>
            have hst := even_step hodd
            clear HA
            go_wp2
            go_round
            case rel => exact ⟨k + 1, Crc.step z, by omega, by go_num, rfl, HA2.out⟩
            case measure => simp [intOf]; omega
        · have hk' : k = 8 := by omega
          have HF : Hid (Upto l (j + 1) z) := by
            show Upto l (j + 1) z
            rw [HA.eq, hk']; exact HN.out
          clear HA hk' HN
          go_wp2
          go_round
          case rel => exact ⟨j + 1, z, by omega, by go_num, rfl, HF.out⟩
          case measure => simp [intOf]; omega
    · have hlen : Hid (l.length ≤ j) := (by show _ ≤ _; rw [HL.out]; omega)
      have hx : bits .xor .u32 (m : Int) 4294967295 = ((m ^^^ 4294967295 : Nat) : Int) := Crc.u32_xor m 4294967295 HU.lt (by decide)
      have hlt2 := Crc.xor_lt HU.lt (show 4294967295 < 4294967296 by decide)
      have HE : Hid (((m ^^^ 4294967295 : Nat) : Int) = Crc.check l) := (by show _ = _; rw [HU.done hlen.out]; rfl)
      obtain ⟨r, hr⟩ : ∃ r, r = m ^^^ 4294967295 := ⟨_, rfl⟩
      rw [← hr] at hx hlt2 HE
      clear HU hr
      go_wp2
      go_ret
      exact ⟨Seg.ret_int HE.out, rfl⟩
end Go.Proofs.Ytojalklkpnaofaa.Chk
namespace Go.Proofs.Ytojalklkpnaofaa.Tab
set_option maxRecDepth 8000
open Go.RowKit
open Chk (After)
set_option linter.unusedVariables false
/-- The table when i places are filled. -/
def arr (i : Nat) : Array Value := ((List.range 16).map fun (j : Nat) => Value.int .u32 (if j < i then ((Crc.steps 4 j : Nat) : Int) else 0)).toArray
theorem arr_size (i : Nat) : (arr i).size = 16 := by simp [arr]
theorem arr_get (i j : Nat) (h : j < 16) : (arr i)[j]? = some (Value.int .u32 (if j < i then ((Crc.steps 4 j : Nat) : Int) else 0)) := by simp [arr, h]
theorem arr_set (i : Nat) (h : i < 16) : (arr i).setIfInBounds i (.int .u32 ((Crc.steps 4 i : Nat) : Int)) = arr (i + 1) := by
  apply Array.ext_getElem?
  intro j
  by_cases hj : j < 16
  · rw [arr_get (i + 1) j hj, Array.getElem?_setIfInBounds]
    by_cases e : i = j
    · subst e
      simp [arr_size, h]
    · rw [if_neg e, arr_get i j hj]
      by_cases h1 : j < i
      · simp [h1, show j < i + 1 by omega]
      · simp [h1, show ¬ j < i + 1 by omega]
  · rw [Array.getElem?_eq_none (by simp [arr_size]; omega), Array.getElem?_eq_none (by simp [arr_size]; omega)]
theorem arr_zero : arr 0 = #[.int .u32 0, .int .u32 0, .int .u32 0, .int .u32 0, .int .u32 0, .int .u32 0, .int .u32 0, .int .u32 0, .int .u32 0, .int .u32 0, .int .u32 0, .int .u32 0, .int .u32 0, .int .u32 0, .int .u32 0, .int .u32 0] := rfl
theorem arr_one (i : Nat) : (arr i).all (·.oneCell') = true := by
  simp [arr, Value.oneCell']
def setA (cs : Array Value) : Nat → List Value → Array Value
  | _, [] => cs
  | o, v :: r => setA (cs.setIfInBounds o v) (o + 1) r
theorem heap_setCells (g : Nat) (t : TypeId) : ∀ (vs : List Value) (o : Nat) (cs : Array Value) (w : World), w.heap[g]? = some (.cells cs t (0, 0)) → (w.setCells g o vs).heap[g]? = some (.cells (setA cs o vs) t (0, 0))
  | [], _, _, _, h => h
  | v :: r, o, cs, w, h => heap_setCells g t r (o + 1) _ _ (heap_setCell_same w g o cs t v h)
theorem setA_size : ∀ (vs : List Value) (o : Nat) (cs : Array Value), (setA cs o vs).size = cs.size
  | [], _, _ => rfl
  | v :: r, o, cs => by rw [setA, setA_size r]; simp
theorem setA_low : ∀ (vs : List Value) (o : Nat) (cs : Array Value) (j : Nat), j < o → (setA cs o vs)[j]? = cs[j]?
  | [], _, _, _, _ => rfl
  | v :: r, o, cs, j, h => by rw [setA, setA_low r _ _ _ (by omega), Array.getElem?_setIfInBounds_ne (by omega)]
theorem setA_in : ∀ (vs : List Value) (o : Nat) (cs : Array Value) (j : Nat), j < vs.length → o + vs.length ≤ cs.size → (setA cs o vs)[o + j]? = vs[j]?
  | v :: r, o, cs, 0, _, hs => by
    rw [setA, setA_low r _ _ _ (by omega)]
    simp at hs
    simp [show o < cs.size by omega]
  | v :: r, o, cs, j + 1, h, hs => by
    simp at h hs
    rw [setA, show o + (j + 1) = (o + 1) + j by omega, setA_in r (o + 1) _ j h (by simp; omega)]
    simp
theorem setA_all (z : Array Value) (hz : z.size = 16) (i : Nat) : setA z 0 (arr i).toList = arr i := by
  apply Array.ext_getElem?
  intro j
  by_cases hj : j < 16
  · have := setA_in (arr i).toList 0 z j (by simp [arr_size]; omega) (by simp [arr_size]; omega)
    rw [Nat.zero_add] at this
    rw [this]; simp
  · rw [Array.getElem?_eq_none (by rw [setA_size]; omega), Array.getElem?_eq_none (by rw [arr_size]; omega)]
theorem below_setCells {B g : Nat} (hg : B ≤ g) : ∀ (vs : List Value) (o : Nat) (a w : World), Below B a w → Below B a (w.setCells g o vs)
  | [], _, _, _, h => h
  | v :: r, o, a, w, h => below_setCells hg r (o + 1) a _ (h.setCell hg v)
theorem there_of {w : World} {g t : Nat} {cs : Array Value} (h : w.heap[g]? = some (.cells cs t (0, 0))) : w.there g 0 cs.size := fun j hj => by
  rw [Nat.zero_add, cell_of_row w g j cs t (0, 0) h, frozen_of_row w g j cs t h]
  exact ⟨by simp [hj], rfl⟩
theorem info37 : (Try.prog.info? 118).map (·.size) = some 16 := by kernel_rfl

set_option maxRecDepth 4000 in
set_option maxHeartbeats 800000 in
theorem table_any (w : World) : Calls Try.prog 95 #[] w fun e w' => e = .returned (.agg (arr 16)) ∧ Below w.heap.size w w' := by
  go_enter Try.func95, Try.ntmps95
  go_wp2
  rw [← arr_zero]
  go_loopw [2, 3, 4, 5, 10] (fun _ _ _ i _ wr => ∃ j : Nat, j ≤ 16 ∧ i = .int .i64 j ∧ wr.heap[w.heap.size]? = some (.cells (arr 0) 118 (0, 0)) ∧ wr.heap[w.heap.size + 1]? = some (.cells (arr j) 118 (0, 0)) ∧ Below w.heap.size w wr) (fun _ _ _ i _ _ => 16 - (intOf i).toNat)
  case atStart => exact ⟨0, by omega, rfl, heap_alloc2_old _ _ _, heap_alloc2_new _ _ _, ((Below.refl _ _).alloc (Nat.le_refl _) _).alloc (by simp) _⟩
  case round =>
    obtain ⟨j, hj, rfl, h0, h1, hb⟩ := hrel
    by_cases hlt : j < 16
    · have hc := cell_of_row wr (w.heap.size + 1) j _ _ _ h1
      rw [arr_get j j hlt] at hc
      have hf := frozen_of_row wr (w.heap.size + 1) j _ _ h1
      have H0 := Seg.hid h0; have H1 := Seg.hid h1; have HB := Seg.hid hb
      clear h0 h1 hb
      go_wp2
      go_loop [3, 4, 10] (fun c _ i => ∃ k z : Nat, k ≤ 4 ∧ i = .int .i64 k ∧ c = .int .u32 z ∧ After j k z) (fun _ _ i => 4 - (intOf i).toNat)
      case atStart => exact ⟨0, j, by omega, rfl, rfl, After.start (by omega)⟩
      case round =>
        obtain ⟨k, z, hk, rfl, rfl, HA⟩ := hrel
        by_cases hk4 : k < 4
        · have hz := HA.lt
          have HA2 := Seg.hid HA.next
          cases hodd : ((z : Int) % 2 == 1) with
          | true =>
            have hst := Chk.odd_step hz hodd
            clear HA
            go_wp2
            go_round
            case rel => exact ⟨k + 1, Crc.step z, by omega, by go_num, rfl, HA2.out⟩
            case measure => simp [intOf]; omega
          | false =>
            have hst := Chk.even_step hodd
            clear HA
            go_wp2
            go_round
            case rel => exact ⟨k + 1, Crc.step z, by omega, by go_num, rfl, HA2.out⟩
            case measure => simp [intOf]; omega
        · obtain rfl : k = 4 := by omega
          have hz : z = Crc.steps 4 j := HA.eq
          have N0 : Hid ((wr.setCell ⟨w.heap.size + 1, j, none⟩ (.int .u32 (z : Int))).heap[w.heap.size]? = some (.cells (arr 0) 118 (0, 0))) := (by
            show _ = _
            rw [heap_setCell_other _ _ _ _ (by simp)]; exact H0.out)
          have N1 : Hid ((wr.setCell ⟨w.heap.size + 1, j, none⟩ (.int .u32 (z : Int))).heap[w.heap.size + 1]? = some (.cells (arr (j + 1)) 118 (0, 0))) := (by
            show _ = _
            rw [heap_setCell_same wr _ j _ _ _ H1.out, hz, arr_set j hlt])
          have NB : Hid (Below w.heap.size w (wr.setCell ⟨w.heap.size + 1, j, none⟩ (.int .u32 (z : Int)))) := HB.out.setCell (by simp) _
          clear HA hz
          go_wp2
          go_roundw
          case rel => exact ⟨j + 1, by omega, by go_num, N0.out, N1.out, NB.out⟩
          case measure => simp [intOf]; omega
    · obtain rfl : j = 16 := by omega
      have HT := Seg.hid (there_of h0)
      have HS := Seg.hid (heap_setCells w.heap.size 118 (arr 16).toList 0 _ _ h0)
      rw [setA_all _ (arr_size 0)] at HS
      have NB := Seg.hid (below_setCells (g := w.heap.size) (Nat.le_refl _) (arr 16).toList 0 _ _ hb)
      have H1 := Seg.hid h1
      clear h0 h1 hb
      go_wp2_with (first | (refine wpList_load_row rfl 118 _ rfl (w.heap.size + 1) rfl _ _ _ _ H1.out Try.underlying118 rfl (by rw [arr_size]; exact info37) ?_) | (refine wpList_store_mid rfl 118 _ _ rfl w.heap.size 0 (arr 16) rfl rfl (by rw [arr_size]; rw [arr_size] at HT; exact HT.out) (by rw [arr_size]; exact info37) (arr_one _) ?_))
      exact bodyPost_ret (v := .agg (arr 16)) (results_cell_row rfl _ _ w.heap.size _ _ _ _ rfl HS.out Try.underlying118 rfl (by rw [arr_size]; exact info37)) rfl ⟨rfl, NB.out⟩
end Go.Proofs.Ytojalklkpnaofaa.Tab
