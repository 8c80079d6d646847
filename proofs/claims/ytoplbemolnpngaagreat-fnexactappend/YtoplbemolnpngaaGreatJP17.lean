/- What the program's Check answers: the plain check of the bytes; BatchOk of the program; checkBytes and versionHolds of the program. -/
import Derived.Test.YtoplbemolnpngaaGreatJP16
import Derived.Test.YtoplbemolnpngaaGreatJP10
namespace Go.Proofs.YtoplbemolnpngaaGreat.ChkI
set_option maxRecDepth 8000
open Go.RowKit
open Chk (Upto)
open Tab (arr)
set_option linter.unusedVariables false
/-- What the table is good for. -/
structure Tbl (A : Array Value) : Prop where
  size : A.size = 16
  get : ∀ j, j < 16 → A[j]? = some (.int .u32 ((Crc.steps 4 j : Nat) : Int))
  one : A.all (·.oneCell') = true
theorem table_ex (w : World) : Calls Tryz.prog 112 #[] w fun e w' => ∃ A, e = .returned (.agg A) ∧ Tbl A ∧ Below w.heap.size w w' :=
  (Tab.table_any w).mono fun e w' h => ⟨arr 16, h.1, ⟨Tab.arr_size 16, fun j hj => by rw [Tab.arr_get 16 j hj, if_pos hj], Tab.arr_one 16⟩, h.2⟩
theorem setA_full {z A : Array Value} (hz : z.size = 16) (hA : A.size = 16) : Tab.setA z 0 A.toList = A := by
  apply Array.ext_getElem?
  intro j
  by_cases hj : j < 16
  · have := Tab.setA_in A.toList 0 z j (by simp [hA]; omega) (by simp [hA]; omega)
    rw [Nat.zero_add] at this
    rw [this]; simp
  · rw [Array.getElem?_eq_none (by rw [Tab.setA_size]; omega), Array.getElem?_eq_none (by omega)]
/-- The table stored into a new block. -/
theorem stored {A : Array Value} (hA : Tbl A) (w : World) (z : Array Value) (hz : z.size = 16) (t : TypeId) :
    (w.alloc (.cells z t)).there w.heap.size 0 A.size ∧ ((w.alloc (.cells z t)).setCells w.heap.size 0 A.toList).heap[w.heap.size]? = some (.cells A t (0, 0)) ∧ Below w.heap.size w ((w.alloc (.cells z t)).setCells w.heap.size 0 A.toList) := by
  have h := heap_alloc_new w (.cells z t)
  refine ⟨?_, ?_, Tab.below_setCells (Nat.le_refl _) _ _ _ _ ((Below.refl _ _).alloc (Nat.le_refl _) _)⟩
  · have := Tab.there_of h
    rw [hz] at this; rw [hA.size]; exact this
  · have := Tab.heap_setCells w.heap.size t A.toList 0 z _ h
    rw [setA_full hz hA.size] at this; exact this
theorem tab_cell {w : World} {g t : Nat} {A : Array Value} (hA : Tbl A) (h : w.heap[g]? = some (.cells A t (0, 0))) (j : Nat) (hj : j < 16) : w.cell? ⟨g, j, none⟩ = some (.int .u32 ((Crc.steps 4 j : Nat) : Int)) := by
  rw [cell_of_row w g j _ _ _ h, hA.get j hj]
theorem half (z : Nat) (hz : z < 4294967296) : bits .xor .u32 ((z : Int) / 16) ((Crc.steps 4 (z % 16) : Nat) : Int) = ((z / 16 ^^^ Crc.steps 4 (z % 16) : Nat) : Int) := by
  rw [← Crc.u32_xor _ _ (by omega) (Crc.steps_lt (by omega) 4), Int.natCast_ediv]
  rfl
theorem half_lt (z : Nat) (hz : z < 4294967296) : z / 16 ^^^ Crc.steps 4 (z % 16) < 4294967296 := Crc.xor_lt (by omega) (Crc.steps_lt (by omega) 4)
theorem u32_not (m : Nat) (h : m < 4294967296) : bits .xor .u32 IntKind.u32.max (m : Int) = ((m ^^^ 4294967295 : Nat) : Int) := by
  have hm : IntKind.u32.max = ((4294967295 : Nat) : Int) := by decide
  rw [hm, Crc.u32_xor _ _ (by decide) h, Nat.xor_comm]

set_option maxRecDepth 4000 in
set_option maxHeartbeats 800000 in
theorem impl_core (g o n c : Nat) (l : List Int) (w : World) (hn : n ≤ 140737488355328) (hc1 : n ≤ c) (hl : l.length = n) (hg : n = 0 ∨ g < w.heap.size)
    (hcell : ∀ i, i < n → w.cell? ⟨g, o + i, none⟩ = some (.int .u8 (l.getD i 0))) (hby : Seg.Byt l) :
    Calls Tryz.prog 108 #[.slice (some ⟨g, o, none⟩) n c] w fun e w' => e = .returned (.int .i64 (Crc.check l)) ∧ Below w.heap.size w w' := by
  have HC := Seg.hid hcell
  have HL := Seg.hid hl
  have HY := Seg.hid hby
  have HG := Seg.hid hg
  clear hcell hl hby hg
  go_enter Tryz.func108, Tryz.ntmps108
  go_wp2_with fail
  refine (table_ex _).mono ?_
  rintro e w1 ⟨A, rfl, hA, hb1⟩
  have HB1 := Seg.hid hb1
  have HA := Seg.hid hA
  clear hb1 hA
  obtain ⟨P1, P2, P3⟩ := stored HA.out w1 #[.int .u32 0, .int .u32 0, .int .u32 0, .int .u32 0, .int .u32 0, .int .u32 0, .int .u32 0, .int .u32 0, .int .u32 0, .int .u32 0, .int .u32 0, .int .u32 0, .int .u32 0, .int .u32 0, .int .u32 0, .int .u32 0] rfl 137
  have Q1 := Seg.hid P1; have Q2 := Seg.hid P2; have Q3 := Seg.hid P3
  clear P1 P2 P3
  go_wp2_with (refine wpList_store_mid rfl 137 _ _ rfl w1.heap.size 0 A rfl rfl Q1.out (by rw [HA.out.size]; exact Tab.info37) HA.out.one ?_)
  have Q4 := Seg.hid (HB1.out.trans (Q3.out.mono HB1.out.size))
  clear Q1 Q3
  revert Q2 Q4
  generalize ((w1.alloc _).setCells w1.heap.size 0 A.toList) = W
  intro Q2 Q4
  go_loop [4, 6, 10] (fun c _ i => ∃ j m : Nat, j ≤ n ∧ i = .int .i64 j ∧ c = .int .u32 m ∧ Upto l j m) (fun _ _ i => n - (intOf i).toNat)
  case atStart => exact ⟨0, 4294967295, Nat.zero_le _, rfl, rfl, Upto.start l⟩
  case round =>
    obtain ⟨j, m, hj, rfl, rfl, HU⟩ := hrel
    by_cases hlt : j < n
    · obtain ⟨x, HX, hx⟩ : ∃ x : Nat, Hid (l.getD j 0 = (x : Int)) ∧ x < 256 := ⟨(l.getD j 0).toNat, by show _ = _; have := HY.out j; omega, by have := HY.out j; omega⟩
      have hc : W.cell? ⟨g, o + j, none⟩ = some (.int .u8 (x : Int)) := by
        rw [Q4.out.cell (p := ⟨g, o + j, none⟩) (HG.out.resolve_left (by omega)), HC.out j hlt, HX.out]
      have hxx := Crc.u32_xor m x HU.lt (by omega)
      have HN := Seg.hid (HU.next (by rw [HL.out]; exact hlt) x HX.out hx)
      have hz : m ^^^ x < 4294967296 := Crc.xor_lt HU.lt (by omega)
      obtain ⟨z0, hz0⟩ : ∃ z0, z0 = m ^^^ x := ⟨_, rfl⟩
      rw [← hz0] at hxx HN hz
      clear HU hz0
      have t0 := tab_cell HA.out Q2.out (z0 % 16) (by omega)
      have x0 := half z0 hz
      have hz1 := half_lt z0 hz
      have HN1 : Hid (Crc.steps 8 z0 = Crc.steps 4 (z0 / 16 ^^^ Crc.steps 4 (z0 % 16))) := (by show Crc.steps (4 + 4) z0 = _; rw [Crc.steps_add, Crc.nib z0])
      obtain ⟨s0, hs0⟩ : ∃ s0, s0 = Crc.steps 4 (z0 % 16) := ⟨_, rfl⟩
      rw [← hs0] at t0 x0 hz1 HN1
      obtain ⟨z1, hz1e⟩ : ∃ z1, z1 = z0 / 16 ^^^ s0 := ⟨_, rfl⟩
      rw [← hz1e] at x0 hz1 HN1
      have t1 := tab_cell HA.out Q2.out (z1 % 16) (by omega)
      have x1 := half z1 hz1
      have HN2 : Hid (Crc.steps 4 z1 = z1 / 16 ^^^ Crc.steps 4 (z1 % 16)) := Crc.nib z1
      obtain ⟨s1, hs1⟩ : ∃ s1, s1 = Crc.steps 4 (z1 % 16) := ⟨_, rfl⟩
      rw [← hs1] at t1 x1 HN2
      obtain ⟨z2, hz2e⟩ : ∃ z2, z2 = z1 / 16 ^^^ s1 := ⟨_, rfl⟩
      rw [← hz2e] at x1 HN2
      have HF : Hid (Upto l (j + 1) z2) := (by rw [← HN2.out, ← HN1.out]; exact HN.out)
      clear hs0 hz1e hs1 hz2e HN HN1 HN2
      go_wp2
      go_round
      case rel => exact ⟨j + 1, z2, by omega, by go_num, rfl, HF.out⟩
      case measure => simp [intOf]; omega
    · have hlen : Hid (l.length ≤ j) := (by show _ ≤ _; rw [HL.out]; omega)
      have hx := u32_not m HU.lt
      have hlt2 := Crc.xor_lt HU.lt (show 4294967295 < 4294967296 by decide)
      have HE : Hid (((m ^^^ 4294967295 : Nat) : Int) = Crc.check l) := (by show _ = _; rw [HU.done hlen.out]; rfl)
      obtain ⟨r, hr⟩ : ∃ r, r = m ^^^ 4294967295 := ⟨_, rfl⟩
      rw [← hr] at hx hlt2 HE
      clear HU hr
      go_wp2
      go_ret
      exact ⟨Seg.ret_int ((IntWalk.wrap64_in _ ⟨by omega, by omega⟩).trans HE.out), Q4.out⟩

theorem impl_any (base g n c : Nat) (l : List Int) (w : World) (hn : n ≤ 140737488355328) (hl : l.length = n) (hby : Seg.Byt l)
    (ho : w.ownsRow base 5 1 (.slice (some ⟨g, 0, none⟩) n c) n (Seg.B l)) :
    Calls Tryz.prog 108 #[.slice (some ⟨g, 0, none⟩) n c] w fun e w' => e = .returned (.int .i64 (Crc.check l)) ∧ Below w.heap.size w w' := by
  have hc := Seg.owns_cap ho
  exact impl_core g 0 n c l w hn hc.1 hl (.inr hc.2.2.2) (fun i hi => by rw [Nat.zero_add]; exact Seg.owns_cell ho i hi) hby
end Go.Proofs.YtoplbemolnpngaaGreat.ChkI
namespace Go.Proofs.YtoplbemolnpngaaGreat.BOk
set_option maxRecDepth 8000
open Go.RowKit
open Recs
set_option linter.unusedVariables false

theorem seven {w : World} {g tp : Nat} {t : Bat} {hv : Value} (h : w.heap[g]? = some (.cells (BatW.batArr t hv) tp (0, 0))) : w.cell? ⟨g, 0, none⟩ = some (.int .i64 t.base) ∧ w.cell? ⟨g, 1, none⟩ = some (.int .i64 t.epoch) ∧ w.cell? ⟨g, 2, none⟩ = some (.int .i64 t.producer) ∧
    w.cell? ⟨g, 3, none⟩ = some (.int .i64 t.turn) ∧ w.cell? ⟨g, 4, none⟩ = some (.int .i64 t.seq) ∧ w.cell? ⟨g, 5, none⟩ = some (.int .i64 t.flags) ∧ w.cell? ⟨g, 6, none⟩ = some hv :=
  ⟨cell_of_row w g 0 _ tp (0, 0) h, cell_of_row w g 1 _ tp (0, 0) h, cell_of_row w g 2 _ tp (0, 0) h, cell_of_row w g 3 _ tp (0, 0) h, cell_of_row w g 4 _ tp (0, 0) h, cell_of_row w g 5 _ tp (0, 0) h, cell_of_row w g 6 _ tp (0, 0) h⟩
set_option maxHeartbeats 1600000 in
theorem impl_any (v : Value) (t : Bat) (w : World) (lo b : Nat) (hv : BatAt w lo b v t) (hb : b ≤ w.heap.size) :
    Calls Tryz.prog 45 #[v] w fun e w' => e = .returned (.bool (batOk t)) ∧ Below w.heap.size w w' := by
  rw [← same]
  obtain ⟨rv, rfl, hr⟩ := hv
  have HR := Seg.hid hr
  obtain ⟨H, ⟨hn, A, c, rfl, hcell⟩, hheads⟩ := hr
  have HC := Seg.hid hcell; have HH := Seg.hid hheads
  clear hcell hheads
  unfold batVal
  unfold batI
  go_enter Tryz.func45, Tryz.ntmps45
  go_wp2_with fail
  refine (records_any _ t.recs (w.alloc _) lo b (HR.out.below ((below1 w _).mono hb)) (by rw [hsz]; omega)).mono ?_
  rintro e w1 ⟨rfl, b1⟩
  have B1 := Seg.hid (chain (below1 w _) b1)
  have T1 : Hid (w1.heap[w.heap.size]? = some (.cells (BatW.batArr t (.slice A t.recs.length c)) 38 (0, 0))) := (b1.block w.heap.size (by rw [hsz]; omega)).trans (heap_alloc_new _ _)
  have z1 : w.heap.size < w1.heap.size := (Array.getElem?_eq_some_iff.1 T1.out).1
  clear b1
  generalize h1 : (inR (t.recs.length : Int) 1 40 && t.recs.all ROk.okR) = V1
  have RN : V1 = true → 1 ≤ (t.recs.length : Int) ∧ (t.recs.length : Int) ≤ 40 := fun h => by
    rw [h, Bool.and_eq_true] at h1
    simpa [inR] using h1.1
  cases V1 with
  | false =>
    have HV1 := Seg.hid h1
    clear h1
    clear RN
    go_wp2
    go_ret
    exact ⟨Seg.ret_bool (by rw [HV1.out]; simp), B1.out⟩
  | true =>
  have HV1 := Seg.hid h1
  clear h1
  have rn := RN rfl
  clear RN
  obtain ⟨c0, c1, c2, c3, c4, c5, c6⟩ := seven T1.out
  go_wp2_with fail
  clear c0 c1 c2 c3 c4 c5 c6
  refine (place_any t.base t.epoch t.producer t.turn t.seq t.flags A t.recs.length c w1 rn.2).mono ?_
  rintro e w2 ⟨rfl, b2⟩
  have B2 := Seg.hid (chain B1.out b2)
  have T2 := Seg.hid ((b2.block w.heap.size z1).trans T1.out)
  have z2 : w.heap.size < w2.heap.size := (Array.getElem?_eq_some_iff.1 T2.out).1
  clear b2
  generalize h2 : (inR t.base 0 (1000000001 - t.recs.length) && inR t.epoch 0 1000000) = V2
  cases V2 with
  | false =>
    have HV2 := Seg.hid h2
    clear h2
    go_wp2
    go_ret
    exact ⟨Seg.ret_bool (by rw [HV2.out]; simp), B2.out⟩
  | true =>
  have HV2 := Seg.hid h2
  clear h2
  obtain ⟨c0, c1, c2, c3, c4, c5, c6⟩ := seven T2.out
  go_wp2_with fail
  clear c0 c1 c2 c3 c4 c5 c6
  refine (producer_any t.base t.epoch t.producer t.turn t.seq t.flags A t.recs.length c w2 rn.2).mono ?_
  rintro e w3 ⟨rfl, b3⟩
  have B3 := Seg.hid (chain B2.out b3)
  have T3 := Seg.hid ((b3.block w.heap.size z2).trans T2.out)
  clear b3
  generalize h3 : prB t.producer t.turn t.seq t.recs.length = V3
  cases V3 with
  | false =>
    have HV3 := Seg.hid h3
    clear h3
    go_wp2
    go_ret
    exact ⟨Seg.ret_bool (by rw [HV3.out]; simp), B3.out⟩
  | true =>
  have HV3 := Seg.hid h3
  clear h3
  have HL : Hid (Lies w3 A t.recs.length c t.recs H lo b) := by
    obtain ⟨g, o, l1, l2, l3, l4, l5⟩ := HC.out.resolve_left (by omega)
    exact ⟨g, o, l1, Nat.lt_of_lt_of_le l2 (Nat.le_trans hb B3.out.size), l3, RecsW.six' l4 B3.out (by omega), fun i hi => (HH.out i hi).below (B3.out.mono hb), Nat.le_trans hb B3.out.size⟩
  obtain ⟨c0, c1, c2, c3, c4, c5, c6⟩ := seven T3.out
  go_wp2_with fail
  clear c0 c1 c2 c3 c4 c5 c6
  refine (flags_any t.base t.epoch t.producer t.turn t.seq t.flags A t.recs.length c t.recs H lo b w3 rn HL.out).mono ?_
  rintro e w4 ⟨rfl, b4⟩
  have B4 := Seg.hid (chain B3.out b4)
  clear b4
  go_wp2
  go_ret
  exact ⟨Seg.ret_bool (by rw [HV1.out, HV2.out, HV3.out]; simp), B4.out⟩
end Go.Proofs.YtoplbemolnpngaaGreat.BOk
namespace Go.Proofs.YtoplbemolnpngaaGreat.WrC
set_option maxRecDepth 8000
open Go.RowKit
open Seg (B)
open SqP (Out grow)
open WrP
open Recs
set_option linter.unusedVariables false
theorem check_lt {l : List Int} (h : Seg.Byt l) : 0 ≤ Crc.check l ∧ Crc.check l < 4294967296 := by
  have h1 : Crc.crc l < 4294967296 := Crc.foldl_lt l _ (by decide) (fun x hx => by
    obtain ⟨i, hi, rfl⟩ := List.getElem_of_mem hx
    have := (h i).2
    simpa [hi] using this)
  have := Crc.xor_lt h1 (show 4294967295 < 4294967296 by decide)
  unfold Crc.check
  omega

set_option maxHeartbeats 800000 in
theorem checkBytes_any (g o n c : Nat) (l : List Int) (w : World) (hn : n ≤ 140737488355328) (hc1 : n ≤ c) (hl : l.length = n) (hg : n = 0 ∨ g < w.heap.size)
    (hcell : ∀ i, i < n → w.cell? ⟨g, o + i, none⟩ = some (.int .u8 (l.getD i 0))) (hby : Seg.Byt l) :
    Calls Tryz.prog 101 #[.slice (some ⟨g, o, none⟩) n c] w fun e w' => ∃ g', e = .returned (.slice (some ⟨g', 0, none⟩) 4 4) ∧ Out w' w.heap.size g' 4 (four (Crc.check l)) ∧ Below w.heap.size w w' := by
  have HC := Seg.hid hcell
  have hx := check_lt hby
  have HY := Seg.hid hby
  clear hcell hby
  go_enter Tryz.func101, Tryz.ntmps101
  go_wp2_with fail
  refine (ChkI.impl_core g o n c l w hn hc1 hl hg HC.out HY.out).mono ?_
  rintro e w1 ⟨rfl, b1⟩
  obtain ⟨x, hxe⟩ : ∃ x, Crc.check l = x := ⟨_, rfl⟩
  rw [hxe] at hx ⊢
  have HX := Seg.hid hxe
  clear hxe
  have B1 := Seg.hid b1
  have z1 := b1.size
  clear b1
  go_wp2
  go_ret
  rw [HX.out]
  refine ⟨w1.heap.size, rfl, ?_, B1.out.alloc z1 _⟩
  have e1 : x / 16777216 % 256 = x / 16777216 := by omega
  have := World.ownsRow_lit (e := 5) (size := 1) (base := w.heap.size) w1 #[.int .u8 (x / 16777216), .int .u8 (x / 65536 % 256), .int .u8 (x / 256 % 256), .int .u8 (x % 256)] 4 z1 (by unfold maxLen; omega) rfl
  unfold Out four
  rw [e1]
  exact this

set_option maxHeartbeats 800000 in
theorem holds_far (ver : Int) (v : Value) (t : Bat) (w : World) (lo b : Nat) (hv : BatAt w lo b v t) (hb : b ≤ w.heap.size) (h1 : ¬ ver = 1) :
    Calls Tryz.prog 97 #[.int .i64 ver, v] w fun e w' => e = .returned (.bool (holds t ver)) ∧ Below w.heap.size w w' := by
  obtain ⟨rv, rfl, H, ⟨hn, A, c, rfl, hx1⟩, hx2⟩ := hv
  clear hx1 hx2
  unfold batVal
  have ht : (ver != 1) = true := by simp [h1]
  have HE : Hid (holds t ver = (ver == 2)) := by show _ = _; rw [Bool.eq_iff_iff]; simp [holds, h1]
  clear h1
  go_enter Tryz.func97, Tryz.ntmps97
  go_wp2
  go_ret
  exact ⟨Seg.ret_bool HE.out.symm, below1 _ _⟩

set_option maxHeartbeats 1600000 in
theorem holds_one (v : Value) (t : Bat) (w : World) (lo b : Nat) (hv : BatAt w lo b v t) (hb : b ≤ w.heap.size) :
    Calls Tryz.prog 97 #[.int .i64 1, v] w fun e w' => e = .returned (.bool (holds t 1)) ∧ Below w.heap.size w w' := by
  obtain ⟨rv, rfl, H, ⟨hn, A, c, rfl, hrow⟩, hh⟩ := hv
  have HR := Seg.hid hrow; have HH := Seg.hid hh
  clear hrow hh
  unfold batVal
  go_enter Tryz.func97, Tryz.ntmps97
  go_wp2
  go_loopw [14] (fun i wr => ∃ (k : Nat), i = .int .i64 k ∧ k ≤ t.recs.length ∧ Hid (Below w.heap.size w wr ∧ wr.heap[w.heap.size]? = some (.cells (BatW.batArr t (.slice A t.recs.length c)) 38 (0, 0)) ∧ ∀ i, i < k → (t.recs.getD i default).heads.length = 0)) (fun i _ => t.recs.length - (intOf i).toNat)
  case atStart => exact ⟨0, rfl, Nat.zero_le _, below1 _ _, heap_alloc_new _ _, fun i hi => absurd hi (by omega)⟩
  case round =>
    obtain ⟨k, rfl, hle, HP⟩ := hrel
    obtain ⟨bl, var, hall⟩ := HP.out
    have hbl := bl.size
    have hvl := (Array.getElem?_eq_some_iff.1 var).1
    by_cases hlt : k < t.recs.length
    · obtain ⟨gr, o, rfl, hgr, hc, hcell, _⟩ := HR.out.resolve_left (by omega)
      obtain ⟨c0, c1, c2, c3, c4, c5⟩ := RecsW.six (RecsW.six' hcell bl (by omega)) k hlt
      obtain ⟨hnh, Ah, ch, hHe, _⟩ := HH.out k hlt
      rw [hHe] at c5
      have NX : Hid ((t.recs.getD k default).heads.length = 0 → ∀ x : Obj, Below w.heap.size w (wr.alloc x) ∧ (wr.alloc x).heap[w.heap.size]? = some (.cells (BatW.batArr t (.slice (some ⟨gr, o, none⟩) t.recs.length c)) 38 (0, 0)) ∧ ∀ i, i < k + 1 → (t.recs.getD i default).heads.length = 0) := fun h0 x => ⟨bl.alloc (by omega) _, (heap_alloc_old wr _ hvl).trans var, fun i hi => by
        by_cases he : i = k
        · subst he; exact h0
        · exact hall i (by omega)⟩
      have BB : Hid (∀ x : Obj, Below w.heap.size w (wr.alloc x)) := fun x => bl.alloc (by omega) _
      have NO : Hid (¬ (t.recs.getD k default).heads.length = 0 → holds t 1 = false) := fun h0 => by
        simp only [holds, Bool.or_eq_false_iff, Bool.and_eq_false_iff]
        refine ⟨by decide, .inr ?_⟩
        rw [List.all_eq_false]
        refine ⟨t.recs[k], List.getElem_mem hlt, ?_⟩
        have : t.recs.getD k default = t.recs[k] := by simp [hlt]
        rw [← this]
        simpa using h0
      have h0 : (0 : Int) ≤ (k : Int) := by omega
      have h1 : (k : Int) < (t.recs.length : Int) := by omega
      clear hcell hHe bl var hall
      generalize t.recs.getD k default = r at *
      by_cases hz : r.heads.length = 0
      · have hz0 : ¬ (0 : Int) < (r.heads.length : Int) := by omega
        have N1 := Seg.hid (NX.out hz)
        clear hz
        go_wp2
        go_roundw
        case rel => exact ⟨k + 1, by go_num, by omega, N1.out _⟩
        case measure => simp [intOf]; omega
      · have hz0 : (0 : Int) < (r.heads.length : Int) := by omega
        have N1 := Seg.hid (NO.out hz)
        clear hz
        go_wp2
        go_ret
        exact ⟨Seg.ret_bool N1.out.symm, BB.out _⟩
    · obtain rfl : k = t.recs.length := by omega
      obtain ⟨d0, d1, d2, d3, d4, d5, d6⟩ := BOk.seven var
      have B1 := Seg.hid bl
      have HE : Hid ((t.producer == -1) = holds t 1) := by
        show _ = _
        have : (t.recs.all fun r => decide (r.heads.length = 0)) = true := by
          rw [List.all_eq_true]
          intro x hx
          obtain ⟨i, hi, rfl⟩ := List.getElem_of_mem hx
          have := hall i hi
          simpa [hi] using this
        unfold holds
        rw [this, Bool.eq_iff_iff]
        simp
      clear bl var hall
      go_wp2
      go_ret
      exact ⟨Seg.ret_bool HE.out, B1.out⟩

theorem holds_any (ver : Int) (v : Value) (t : Bat) (w : World) (lo b : Nat) (hv : BatAt w lo b v t) (hb : b ≤ w.heap.size) :
    Calls Tryz.prog 97 #[.int .i64 ver, v] w fun e w' => e = .returned (.bool (holds t ver)) ∧ Below w.heap.size w w' := by
  by_cases h : ver = 1
  · subst h; exact holds_one v t w lo b hv hb
  · exact holds_far ver v t w lo b hv hb h
end Go.Proofs.YtoplbemolnpngaaGreat.WrC
