/- What the program's Check answers: the plain check of the bytes; A row that the call made itself, written at several cells. -/
import Derived.Test.YtdnbcfochlfopaaJH14
import Derived.Test.YtdnbcfochlfopaaJH05
namespace Go.Proofs.Ytdnbcfochlfopaa.ChkI
set_option maxRecDepth 8000
open Go.RowKit
open Chk (Upto)
open Tab (arr)
set_option linter.unusedVariables false
/-- What the table is good for. -/
structure Tbl (A : Array Value) : Prop where
  size : A.size = 16
  get : ∀ j, j < 16 → A[j]? = some (.int .u32 ((Crc.steps 4 j : Nat) : Int))
  one : A.all (·.oneCell') = true
theorem table_ex (w : World) : Calls Try.prog 102 #[] w fun e w' => ∃ A, e = .returned (.agg A) ∧ Tbl A ∧ Below w.heap.size w w' :=
  (Tab.table_any w).mono fun e w' h => ⟨arr 16, h.1, ⟨Tab.arr_size 16, fun j hj => by rw [Tab.arr_get 16 j hj, if_pos hj], Tab.arr_one 16⟩, h.2⟩
theorem setA_full {z A : Array Value} (hz : z.size = 16) (hA : A.size = 16) : Tab.setA z 0 A.toList = A := by
  apply Array.ext_getElem?
  intro j
  by_cases hj : j < 16
  · have := Tab.setA_in A.toList 0 z j (by simp [hA]; omega) (by simp [hA]; omega)
    rw [Nat.zero_add] at this
    rw [this]; simp
  · rw [Array.getElem?_eq_none (by rw [Tab.setA_size]; omega), Array.getElem?_eq_none (by omega)]
/-- The table stored into a new block. -/
theorem stored {A : Array Value} (hA : Tbl A) (w : World) (z : Array Value) (hz : z.size = 16) (t : TypeId) :
    (w.alloc (.cells z t)).there w.heap.size 0 A.size ∧ ((w.alloc (.cells z t)).setCells w.heap.size 0 A.toList).heap[w.heap.size]? = some (.cells A t (0, 0)) ∧ Below w.heap.size w ((w.alloc (.cells z t)).setCells w.heap.size 0 A.toList) := by
  have h := heap_alloc_new w (.cells z t)
  refine ⟨?_, ?_, Tab.below_setCells (Nat.le_refl _) _ _ _ _ ((Below.refl _ _).alloc (Nat.le_refl _) _)⟩
  · have := Tab.there_of h
    rw [hz] at this; rw [hA.size]; exact this
  · have := Tab.heap_setCells w.heap.size t A.toList 0 z _ h
    rw [setA_full hz hA.size] at this; exact this
theorem tab_cell {w : World} {g t : Nat} {A : Array Value} (hA : Tbl A) (h : w.heap[g]? = some (.cells A t (0, 0))) (j : Nat) (hj : j < 16) : w.cell? ⟨g, j, none⟩ = some (.int .u32 ((Crc.steps 4 j : Nat) : Int)) := by
  rw [cell_of_row w g j _ _ _ h, hA.get j hj]
theorem half (z : Nat) (hz : z < 4294967296) : bits .xor .u32 ((z : Int) / 16) ((Crc.steps 4 (z % 16) : Nat) : Int) = ((z / 16 ^^^ Crc.steps 4 (z % 16) : Nat) : Int) := by
  rw [← Crc.u32_xor _ _ (by omega) (Crc.steps_lt (by omega) 4), Int.natCast_ediv]
  rfl
theorem half_lt (z : Nat) (hz : z < 4294967296) : z / 16 ^^^ Crc.steps 4 (z % 16) < 4294967296 := Crc.xor_lt (by omega) (Crc.steps_lt (by omega) 4)
theorem u32_not (m : Nat) (h : m < 4294967296) : bits .xor .u32 IntKind.u32.max (m : Int) = ((m ^^^ 4294967295 : Nat) : Int) := by
  have hm : IntKind.u32.max = ((4294967295 : Nat) : Int) := by decide
  rw [hm, Crc.u32_xor _ _ (by decide) h, Nat.xor_comm]

set_option maxRecDepth 4000 in
set_option maxHeartbeats 800000 in
theorem impl_core (g o n c : Nat) (l : List Int) (w : World) (hn : n ≤ 140737488355328) (hc1 : n ≤ c) (hl : l.length = n) (hg : n = 0 ∨ g < w.heap.size)
    (hcell : ∀ i, i < n → w.cell? ⟨g, o + i, none⟩ = some (.int .u8 (l.getD i 0))) (hby : Seg.Byt l) :
    Calls Try.prog 75 #[.slice (some ⟨g, o, none⟩) n c] w fun e w' => e = .returned (.int .i64 (Crc.check l)) ∧ Below w.heap.size w w' := by
  have HC := Seg.hid hcell
  have HL := Seg.hid hl
  have HY := Seg.hid hby
  have HG := Seg.hid hg
  clear hcell hl hby hg
  go_enter Try.func75, Try.ntmps75
  go_wp2_with fail
  refine (table_ex _).mono ?_
  rintro e w1 ⟨A, rfl, hA, hb1⟩
  have HB1 := Seg.hid hb1
  have HA := Seg.hid hA
  clear hb1 hA
  obtain ⟨P1, P2, P3⟩ := stored HA.out w1 #[.int .u32 0, .int .u32 0, .int .u32 0, .int .u32 0, .int .u32 0, .int .u32 0, .int .u32 0, .int .u32 0, .int .u32 0, .int .u32 0, .int .u32 0, .int .u32 0, .int .u32 0, .int .u32 0, .int .u32 0, .int .u32 0] rfl 127
  have Q1 := Seg.hid P1; have Q2 := Seg.hid P2; have Q3 := Seg.hid P3
  clear P1 P2 P3
  go_wp2_with (refine wpList_store_mid rfl 127 _ _ rfl w1.heap.size 0 A rfl rfl Q1.out (by rw [HA.out.size]; exact Tab.info37) HA.out.one ?_)
  have Q4 := Seg.hid (HB1.out.trans (Q3.out.mono HB1.out.size))
  clear Q1 Q3
  revert Q2 Q4
  generalize ((w1.alloc _).setCells w1.heap.size 0 A.toList) = W
  intro Q2 Q4
  go_loop [4, 6, 10] (fun c _ i => ∃ j m : Nat, j ≤ n ∧ i = .int .i64 j ∧ c = .int .u32 m ∧ Upto l j m) (fun _ _ i => n - (intOf i).toNat)
  case atStart => exact ⟨0, 4294967295, Nat.zero_le _, rfl, rfl, Upto.start l⟩
  case round =>
    obtain ⟨j, m, hj, rfl, rfl, HU⟩ := hrel
    by_cases hlt : j < n
    · obtain ⟨x, HX, hx⟩ : ∃ x : Nat, Hid (l.getD j 0 = (x : Int)) ∧ x < 256 := ⟨(l.getD j 0).toNat, by show _ = _; have := HY.out j; omega, by have := HY.out j; omega⟩
      have hc : W.cell? ⟨g, o + j, none⟩ = some (.int .u8 (x : Int)) := by
        rw [Q4.out.cell (p := ⟨g, o + j, none⟩) (HG.out.resolve_left (by omega)), HC.out j hlt, HX.out]
      have hxx := Crc.u32_xor m x HU.lt (by omega)
      have HN := Seg.hid (HU.next (by rw [HL.out]; exact hlt) x HX.out hx)
      have hz : m ^^^ x < 4294967296 := Crc.xor_lt HU.lt (by omega)
      obtain ⟨z0, hz0⟩ : ∃ z0, z0 = m ^^^ x := ⟨_, rfl⟩
      rw [← hz0] at hxx HN hz
      clear HU hz0
      have t0 := tab_cell HA.out Q2.out (z0 % 16) (by omega)
      have x0 := half z0 hz
      have hz1 := half_lt z0 hz
      have HN1 : Hid (Crc.steps 8 z0 = Crc.steps 4 (z0 / 16 ^^^ Crc.steps 4 (z0 % 16))) := (by show Crc.steps (4 + 4) z0 = _; rw [Crc.steps_add, Crc.nib z0])
      obtain ⟨s0, hs0⟩ : ∃ s0, s0 = Crc.steps 4 (z0 % 16) := ⟨_, rfl⟩
      rw [← hs0] at t0 x0 hz1 HN1
      obtain ⟨z1, hz1e⟩ : ∃ z1, z1 = z0 / 16 ^^^ s0 := ⟨_, rfl⟩
      rw [← hz1e] at x0 hz1 HN1
      have t1 := tab_cell HA.out Q2.out (z1 % 16) (by omega)
      have x1 := half z1 hz1
      have HN2 : Hid (Crc.steps 4 z1 = z1 / 16 ^^^ Crc.steps 4 (z1 % 16)) := Crc.nib z1
      obtain ⟨s1, hs1⟩ : ∃ s1, s1 = Crc.steps 4 (z1 % 16) := ⟨_, rfl⟩
      rw [← hs1] at t1 x1 HN2
      obtain ⟨z2, hz2e⟩ : ∃ z2, z2 = z1 / 16 ^^^ s1 := ⟨_, rfl⟩
      rw [← hz2e] at x1 HN2
      have HF : Hid (Upto l (j + 1) z2) := (by rw [← HN2.out, ← HN1.out]; exact HN.out)
      clear hs0 hz1e hs1 hz2e HN HN1 HN2
      go_wp2
      go_round
      case rel => exact ⟨j + 1, z2, by omega, by go_num, rfl, HF.out⟩
      case measure => simp [intOf]; omega
    · have hlen : Hid (l.length ≤ j) := (by show _ ≤ _; rw [HL.out]; omega)
      have hx := u32_not m HU.lt
      have hlt2 := Crc.xor_lt HU.lt (show 4294967295 < 4294967296 by decide)
      have HE : Hid (((m ^^^ 4294967295 : Nat) : Int) = Crc.check l) := (by show _ = _; rw [HU.done hlen.out]; rfl)
      obtain ⟨r, hr⟩ : ∃ r, r = m ^^^ 4294967295 := ⟨_, rfl⟩
      rw [← hr] at hx hlt2 HE
      clear HU hr
      go_wp2
      go_ret
      exact ⟨Seg.ret_int ((IntWalk.wrap64_in _ ⟨by omega, by omega⟩).trans HE.out), Q4.out⟩

theorem impl_any (base g n c : Nat) (l : List Int) (w : World) (hn : n ≤ 140737488355328) (hl : l.length = n) (hby : Seg.Byt l)
    (ho : w.ownsRow base 5 1 (.slice (some ⟨g, 0, none⟩) n c) n (Seg.B l)) :
    Calls Try.prog 75 #[.slice (some ⟨g, 0, none⟩) n c] w fun e w' => e = .returned (.int .i64 (Crc.check l)) ∧ Below w.heap.size w w' := by
  have hc := Seg.owns_cap ho
  exact impl_core g 0 n c l w hn hc.1 hl (.inr hc.2.2.2) (fun i hi => by rw [Nat.zero_add]; exact Seg.owns_cell ho i hi) hby
end Go.Proofs.Ytdnbcfochlfopaa.ChkI
namespace Go.Proofs.Ytdnbcfochlfopaa.Own
set_option maxRecDepth 8000
open Go.RowKit
open Recs
set_option linter.unusedVariables false
def upd (F : Nat → Value) (o : Nat) (vs : List Value) (q : Nat) : Value := if o ≤ q ∧ q < o + vs.length then vs.getD (q - o) default else F q
theorem upd_in {F : Nat → Value} {o q : Nat} {vs : List Value} (h : q < vs.length) : upd F o vs (o + q) = vs.getD q default := by
  unfold upd
  rw [if_pos (by omega), Nat.add_sub_cancel_left]
theorem upd_out {F : Nat → Value} {o q : Nat} {vs : List Value} (h : q < o ∨ o + vs.length ≤ q) : upd F o vs q = F q := by
  unfold upd
  rw [if_neg (by omega)]
/-- Cells written one behind the other into a row of one's own. -/
theorem mine_setCells {e s g n : Nat} : ∀ (vs : List Value) (o : Nat) (w : World) (F : Nat → Value), Mine w e s g n F → Mine (w.setCells g o vs) e s g n (upd F o vs)
  | [], o, w, F, h => by
    have : upd F o [] = F := by
      funext q
      unfold upd
      rw [if_neg (by simp)]
    rw [this]
    exact h
  | v :: r, o, w, F, h => by
    have := mine_setCells r (o + 1) _ _ (h.set o v)
    have he : upd (fun i => if i = o then v else F i) (o + 1) r = upd F o (v :: r) := by
      funext q
      unfold upd
      show (if _ then _ else (if q = o then v else F q)) = _
      by_cases h1 : q = o
      · subst h1
        rw [if_neg (by omega), if_pos rfl, if_pos (by simp)]
        simp
      · by_cases h2 : o + 1 ≤ q ∧ q < o + 1 + r.length
        · rw [if_pos h2, if_pos (by simp; omega), show q - o = (q - (o + 1)) + 1 by omega, List.getD_cons_succ]
        · rw [if_neg h2, if_neg h1, if_neg (by simp; omega)]
    rw [he] at this
    exact this
theorem mine_there {e s g n o m : Nat} {w : World} {F : Nat → Value} (h : Mine w e s g n F) (hm : o + m ≤ n * s) : w.there g o m := fun j hj => ⟨by rw [h.cell (o + j) (by omega)]; rfl, h.frozen _⟩
end Go.Proofs.Ytdnbcfochlfopaa.Own
