/- The model's l1Sorted: a new row of numbers, ascending; sorting. -/
import Derived.Deep.QuietTactic
import Derived.BigQuiet
import Derived.Deep.Cut
import Derived.Shelf.Sort.Plain
import Derived.Ground.Names2Prog
import Derived.Shelf.Slices.CompactI
import Derived.Shelf.Slices.Cells
import Derived.Shelf.Slices.In.SortNone
import Derived.Test.YtkohhcjpjloaaaaProg
import Derived.Test.YtkohhcjpjloaaaaJW27
import Derived.Test.YtkohhcjpjloaaaaJW33
namespace Go.Proofs.Ytkohhcjpjloaaaa.SrS
set_option maxRecDepth 8000
open Go.RowKit
open Ls Lp RkP IrA SrP
open Recs (hsz below1 below2 chain chainD)
set_option linter.unusedVariables false
theorem put2 {w : World} {B g cap n j : Nat} {ns : List Int} {a : Int} (hn : ns.length = n) (h : NRow w B (.slice (some ⟨g, 0, none⟩) n cap) ns) (hj : j < n) : NRow (w.setCell ⟨g, j, none⟩ (.int .i64 a)) B (.slice (some ⟨g, 0, none⟩) n cap) (ns.set j a) := by
  subst hn
  exact NRow.set h hj
theorem open2 {w : World} {B g cap n : Nat} {ns : List Int} (hn : ns.length = n) (h0 : 0 < n) (h : NRow w B (.slice (some ⟨g, 0, none⟩) n cap) ns) : B ≤ g ∧ g < w.heap.size ∧ (∀ i, i < n → w.cell? ⟨g, i, none⟩ = some (.int .i64 (ns.getD i 0))) ∧ (∀ i, w.frozen? ⟨g, i, none⟩ = false) ∧ n ≤ cap := by
  subst hn
  obtain ⟨g', cap', e, h1, h2, h3, h4, h5⟩ := NRow.open h h0
  simp only [Value.slice.injEq, true_and, Option.some.injEq, Addr.mk.injEq, and_true] at e
  obtain ⟨rfl, rfl⟩ := e
  exact ⟨h1, h2, h3, h4, h5⟩
theorem below_set {w wx : World} {g j : Nat} {v : Value} (h : Below w.heap.size w wx) (hg : w.heap.size ≤ g) : Below w.heap.size w (wx.setCell ⟨g, j, none⟩ v) :=
  ⟨h.os, h.tape, h.output, by rw [World.size_setCell]; exact h.size, fun k hk => (heap_setCell_other wx ⟨g, j, none⟩ k v (by show k ≠ g; omega)).trans (h.block k hk)⟩
set_option maxHeartbeats 6400000 in
theorem sorted_any (x : Value) (l : List Int) (w : World) (S : Nat → Prop) (hv : IntsAt w S x l) (hS : ∀ g, S g → g < w.heap.size) (hl : l.length ≤ 1048576) :
    Calls Try.prog 21 #[x] w fun e w' => ∃ v, e = .returned v ∧ NRow w' w.heap.size v (srt l) ∧ Below w.heap.size w w' := by
  obtain ⟨A, c, rfl⟩ := hv.form
  obtain ⟨i0, hi, hz0, hz1, hz2⟩ := info_parts infoI
  have OW := Seg.hid (empty_row w)
  have NW : Hid (l.length ≠ 0 → ∃ ad', A = some ad' ∧ ∀ j u, (l.map (Value.int .i64))[j]? = some u → (w.alloc (.cells #[] 3 (0, 0))).cell? (ad'.add j) = some u) := news_of hv (fun g hg => (below1 w _).block g (hS g hg))
  clear hv
  go_enter Try.func21, Try.ntmps21
  go_upto_region 2 with (first | (at_builtin; refine AppW.wpList_append_all _ rfl _ _ 29 rfl w.heap.size 3 i0 _ 1 8 Try.underlying29 hi hz0 hz1 hz2 rfl (by decide) (.slice (some ⟨w.heap.size, 0, none⟩) 0 0) 0 [] rfl OW.out A l.length c (l.map (Value.int .i64)) rfl (by simp) NW.out (by simp [Value.oneCell']) (by unfold maxLen; omega) (by omega) (by rw [hsz]; omega) ?_; intro v1 w1 hown hgr hvb; have R1 : Hid (NRow w1 w.heap.size v1 l) := row_all hown; have B1 : Hid (Below w.heap.size w w1) := (below1 w _).grown hgr (by rw [hsz]; omega) (fun k hk => by simp only [Value.ownBlock, Option.some.injEq] at hk; omega); clear hown hgr hvb))
  clear OW NW
  by_cases h0 : l.length = 0
  · obtain rfl := List.length_eq_zero_iff.1 h0
    obtain ⟨A1, c1, e1⟩ : ∃ A c, v1 = .slice A 0 c := by
      rcases R1.out.2 with ⟨h1, h2⟩ | ⟨g, cap, cur, h1, _⟩
      · exact ⟨none, 0, h1⟩
      · exact ⟨_, cap, h1⟩
    subst e1
    go_wp2
    go_loop [4] (fun i => i = .int .i64 1) (fun _ => 0)
    case atStart => rfl
    case round =>
      subst hrel
      go_wp2
      go_ret
      exact ⟨.slice A1 0 c1, rfl, by rw [show srt [] = [] by simp [srt]]; exact R1.out, B1.out⟩
  obtain ⟨n, hn⟩ : ∃ n, l.length = n := ⟨_, rfl⟩
  have HN := Seg.hid hn
  obtain ⟨g, cap, e1, hge, hgl, -, -, hcap⟩ := NRow.open R1.out (by omega)
  rw [hn] at e1 hl h0 hcap
  subst e1
  have h1n : 0 < n := by omega
  clear hn hgl
  have H0 := Seg.hid h0
  clear h0
  go_wp2
  go_loopw [4] (fun i wr => ∃ (k : Nat) (m : List Int), 1 ≤ k ∧ k ≤ n ∧ i = .int .i64 k ∧ Hid (m.length = n ∧ m.Perm l ∧ Asc m k ∧ NRow wr w.heap.size (.slice (some ⟨g, 0, none⟩) n cap) m ∧ Below w.heap.size w wr)) (fun i _ => n - (intOf i).toNat)
  case atStart => exact ⟨1, l, Nat.le_refl _, by omega, rfl, HN.out, List.Perm.refl _, fun a b h1 h2 => absurd h1 (by omega), R1.out, B1.out⟩
  case round =>
    clear B1 R1
    obtain ⟨wo, rfl⟩ : ∃ wo, wo = wr := ⟨_, rfl⟩
    obtain ⟨k, m, hk1, hkn, rfl, HG⟩ := hrel
    by_cases hlt : k < n
    · have i0' : (k : Int) < (n : Int) := by omega
      go_wp2
      go_loopw [5] (fun j wr => ∃ (q : Nat) (m : List Int), q ≤ k ∧ j = .int .i64 q ∧ Hid (m.length = n ∧ m.Perm l ∧ But m q k ∧ NRow wr w.heap.size (.slice (some ⟨g, 0, none⟩) n cap) m ∧ Below w.heap.size w wr)) (fun j _ => (intOf j).toNat)
      case atStart => exact ⟨k, m, Nat.le_refl _, rfl, HG.out.1, HG.out.2.1, but_of HG.out.2.2.1, HG.out.2.2.2.1, HG.out.2.2.2.2⟩
      case round =>
        clear HG
        obtain ⟨q, m, hqk, rfl, HQ⟩ := hrel
        by_cases hq0 : q = 0
        · subst hq0
          have AS := Seg.hid (asc_of (Nat.zero_le _) HQ.out.2.2.1 (.inl rfl))
          go_upto_region 6 with fail
          go_quiet (fail)
          go_wp2
          go_roundw
          case rel => exact ⟨k + 1, m, by omega, by omega, by go_num, HQ.out.1, HQ.out.2.1, AS.out, HQ.out.2.2.2.1, ⟨HQ.out.2.2.2.2.os, HQ.out.2.2.2.2.tape, HQ.out.2.2.2.2.output, HQ.out.2.2.2.2.size, HQ.out.2.2.2.2.block⟩⟩
          case measure => simp [intOf]; omega
        · obtain ⟨p, rfl⟩ : ∃ p, q = p + 1 := ⟨q - 1, by omega⟩
          obtain ⟨-, hgr, hcells, hfz, hcap2⟩ := open2 HQ.out.1 h1n HQ.out.2.2.2.1
          have c0 := hcells p (by omega)
          have c1 := hcells (p + 1) (by omega)
          have f0 := hfz p
          have f1 := hfz (p + 1)
          have SB := Seg.hid (swp_but (l := m) (k := p + 1) (i := k) (by omega) (by rw [HQ.out.1]; omega) hqk HQ.out.2.2.1)
          have AS := Seg.hid (asc_of hqk HQ.out.2.2.1)
          have SP := Seg.hid ((swp_perm (l := m) (k := p + 1) (by omega) (by rw [HQ.out.1]; omega)).trans HQ.out.2.1)
          have SL := Seg.hid ((swp_len m (p + 1)).trans HQ.out.1)
          have SW : Hid (swp m (p + 1) = (m.set (p + 1) (m.getD p 0)).set p (m.getD (p + 1) 0)) := rfl
          have NR := Seg.hid HQ.out.2.2.2.1
          have BQ := Seg.hid HQ.out.2.2.2.2
          have ML := Seg.hid HQ.out.1
          have MP := Seg.hid HQ.out.2.1
          clear HQ hcells hfz
          simp only [Nat.add_sub_cancel] at SB AS
          obtain ⟨a, ha⟩ : ∃ a, m.getD p 0 = a := ⟨_, rfl⟩
          obtain ⟨b, hb⟩ : ∃ b, m.getD (p + 1) 0 = b := ⟨_, rfl⟩
          rw [ha] at c0 SB AS SW
          rw [hb] at c1 SB AS SW
          clear ha hb
          have w1' : IntKind.i64.wrap (((p + 1 : Nat) : Int) - 1) = (p : Int) := by rw [IntKind.wrap_i64] <;> omega
          have p0 : (0 : Int) < ((p + 1 : Nat) : Int) := by omega
          have p1 : ((p + 1 : Nat) : Int) < (n : Int) := by omega
          have p2 : (p : Int) < (n : Int) := by omega
          have p3 : (0 : Int) ≤ (p : Int) := by omega
          obtain ⟨q, hq⟩ : ∃ q, p + 1 = q := ⟨_, rfl⟩
          rw [hq] at c1 f1 SB AS SP SL SW w1' p0 p1 hqk
          rw [hq]
          have HPQ := Seg.hid hq
          have hqn : q < n := by omega
          have hpn : p < n := by omega
          have hpq : p ≠ q := by omega
          have hqp : q ≠ p := by omega
          have p4 : (0 : Int) ≤ (q : Int) := by omega
          have n0 : 0 < q := by have := HPQ.out; omega
          have z0 : decide (0 < q) = true := decide_eq_true n0
          clear hq hq0
          by_cases hab : b < a
          · have ba : decide (b < a) = true := decide_eq_true hab
            have NB := Seg.hid (SB.out hab)
            clear AS SB
            go_upto_region 6 with fail
            go_quiet (fail)
            go_wp2
            go_roundw
            case rel =>
              refine ⟨p, swp m q, by have := HPQ.out; omega, by go_num, SL.out, SP.out, ?_, ?_, ?_⟩
              · exact NB.out
              · rw [SW.out]
                exact put2 (by rw [List.length_set]; exact ML.out) (put2 ML.out NR.out hqn) hpn
              · exact below_set (below_set ⟨BQ.out.os, BQ.out.tape, BQ.out.output, BQ.out.size, BQ.out.block⟩ hge) hge
            case measure => simp [intOf]; have := HPQ.out; omega
          · have ba : decide (b < a) = false := decide_eq_false hab
            have NB := Seg.hid (AS.out (.inr (by
              have e := HPQ.out
              omega)))
            clear AS SB
            go_upto_region 6 with fail
            go_quiet (fail)
            go_wp2
            go_roundw
            case rel => exact ⟨k + 1, m, by omega, by omega, by go_num, ML.out, MP.out, NB.out, NR.out, ⟨BQ.out.os, BQ.out.tape, BQ.out.output, BQ.out.size, BQ.out.block⟩⟩
            case measure => simp [intOf]; omega
    · have hkl : k = n := by omega
      have RS : Hid (m = srt l) := srt_uniq HG.out.2.1 (pair_of (by have := HG.out.2.2.1; rw [hkl] at this; rw [HG.out.1]; exact this))
      have hx1 : ¬ (k : Int) < (n : Int) := by omega
      clear hkl
      go_wp2
      go_ret
      exact ⟨_, rfl, by rw [← RS.out]; exact HG.out.2.2.2.1, HG.out.2.2.2.2⟩
end Go.Proofs.Ytkohhcjpjloaaaa.SrS
namespace Go.Proofs
open Go.Shelf
def Try.lays189_ren : Go.Shelf.Ren := ⟨fun | 189 => 35 | 125 => 49 | 257 => 48 | 128 => 62 | 129 => 63 | 294 => 53 | 295 => 54 | 296 => 55 | 297 => 56 | 298 => 57 | 299 => 58 | 216 => 59 | 300 => 60 | 301 => 61 | 328 => 64 | 329 => 65 | 330 => 66 | 331 => 67 | 332 => 68 | 215 => 69 | 343 => 70 | n => n, fun | 28 => 29 | 3 => 3 | 46 => 66 | 0 => 0 | 51 => 90 | 53 => 92 | 4 => 4 | 183 => 82 | 182 => 81 | 131 => 87 | 5 => 5 | 9 => 9 | 218 => 93 | 222 => 97 | 228 => 99 | 229 => 100 | n => n, fun | n => n⟩
theorem Try.lays189 : Go.Proofs.Lays.n189 Try.prog Try.lays189_ren := {
  mixed := by kernel_rfl
  f125 := Try.func49.trans (congrArg some (by kernel_rfl))
  f128 := Try.func62.trans (congrArg some (by kernel_rfl))
  f129 := Try.func63.trans (congrArg some (by kernel_rfl))
  f189 := Try.func35.trans (congrArg some (by kernel_rfl))
  f215 := Try.func69.trans (congrArg some (by kernel_rfl))
  f216 := Try.func59.trans (congrArg some (by kernel_rfl))
  f257 := Try.func48.trans (congrArg some (by kernel_rfl))
  f294 := Try.func53.trans (congrArg some (by kernel_rfl))
  f295 := Try.func54.trans (congrArg some (by kernel_rfl))
  f296 := Try.func55.trans (congrArg some (by kernel_rfl))
  f297 := Try.func56.trans (congrArg some (by kernel_rfl))
  f298 := Try.func57.trans (congrArg some (by kernel_rfl))
  f299 := Try.func58.trans (congrArg some (by kernel_rfl))
  f300 := Try.func60.trans (congrArg some (by kernel_rfl))
  f301 := Try.func61.trans (congrArg some (by kernel_rfl))
  f328 := Try.func64.trans (congrArg some (by kernel_rfl))
  f329 := Try.func65.trans (congrArg some (by kernel_rfl))
  f330 := Try.func66.trans (congrArg some (by kernel_rfl))
  f331 := Try.func67.trans (congrArg some (by kernel_rfl))
  f332 := Try.func68.trans (congrArg some (by kernel_rfl))
  f343 := Try.func70.trans (congrArg some (by kernel_rfl))
  t0 := Try.underlying0
  a0 := Try.isAgg0
  z0 := Try.sizeOf0
  v0 := Try.zeroValue0
  t3 := Try.underlying3
  a3 := Try.isAgg3
  z3 := Try.sizeOf3
  v3 := Try.zeroValue3
  t4 := Try.underlying4
  a4 := Try.isAgg4
  z4 := Try.sizeOf4
  v4 := Try.zeroValue4
  t5 := Try.underlying5
  a5 := Try.isAgg5
  z5 := Try.sizeOf5
  v5 := Try.zeroValue5
  t9 := Try.underlying9
  a9 := Try.isAgg9
  z9 := Try.sizeOf9
  v9 := Try.zeroValue9
  t28 := Try.underlying29
  a28 := Try.isAgg29
  z28 := Try.sizeOf29
  v28 := Try.zeroValue29
  t46 := Try.underlying66
  a46 := Try.isAgg66
  z46 := Try.sizeOf66
  v46 := Try.zeroValue66
  t51 := Try.underlying90
  a51 := Try.isAgg90
  z51 := Try.sizeOf90
  v51 := Try.zeroValue90
  t53 := Try.underlying92
  a53 := Try.isAgg92
  z53 := Try.sizeOf92
  v53 := Try.zeroValue92
  t131 := Try.underlying87
  a131 := Try.isAgg87
  z131 := Try.sizeOf87
  v131 := Try.zeroValue87
  t182 := Try.underlying81
  a182 := Try.isAgg81
  z182 := Try.sizeOf81
  v182 := Try.zeroValue81
  t183 := Try.underlying82
  a183 := Try.isAgg82
  z183 := Try.sizeOf82
  v183 := Try.zeroValue82
  t218 := Try.underlying93
  a218 := Try.isAgg93
  z218 := Try.sizeOf93
  v218 := Try.zeroValue93
  t222 := Try.underlying97
  a222 := Try.isAgg97
  z222 := Try.sizeOf97
  v222 := Try.zeroValue97
  t228 := Try.underlying99
  a228 := Try.isAgg99
  z228 := Try.sizeOf99
  v228 := Try.zeroValue99
  t229 := Try.underlying100
  a229 := Try.isAgg100
  z229 := Try.sizeOf100
  v229 := Try.zeroValue100 }
open Go.Sort Go.RowKit in
theorem Try.slices_Sort_int (blk off cap : Nat) (zs : List Int) (w : World) (hH : Holds (Value.int .i64) w blk off zs.toArray) (hblk : blk < w.heap.size) (hsz : zs.length < 4611686018427387904) :
    Calls Try.prog 35 #[.slice (some ⟨blk, off, none⟩) zs.length cap] w fun e w' =>
      e = .returned (.tuple #[]) ∧ ∃ n os, w' = grow (putRow (Value.int .i64) (Sort.ahead w n) blk off (zs.mergeSort fun x y => decide (x ≤ y)).toArray) os := Any.slices_Sort_int Try.lays189 blk off cap zs w hH hblk hsz
def Try.laysNm220_ren : Go.Shelf.Ren := ⟨fun | 20 => 32 | n => n, fun | 22 => 29 | 3 => 3 | 4 => 4 | 0 => 0 | n => n, fun | n => n⟩
theorem Try.laysNm220 : Go.Proofs.Lays2.n20 Try.prog Try.laysNm220_ren := {
  mixed := by kernel_rfl
  f20 := Try.func32.trans (congrArg some (by kernel_rfl))
  t0 := Try.underlying0
  a0 := Try.isAgg0
  z0 := Try.sizeOf0
  v0 := Try.zeroValue0
  t3 := Try.underlying3
  a3 := Try.isAgg3
  z3 := Try.sizeOf3
  v3 := Try.zeroValue3
  t4 := Try.underlying4
  a4 := Try.isAgg4
  z4 := Try.sizeOf4
  v4 := Try.zeroValue4
  t22 := Try.underlying29
  a22 := Try.isAgg29
  z22 := Try.sizeOf29
  v22 := Try.zeroValue29
  i3 := by kernel_rfl }
open Go.RowKit Go.Lib Go.Sort in
theorem Try.slices_Compact_int_arr (blk off cap : Nat) (d : Array Int) (w : World) (hH : Holds encI w blk off d) (hsz : d.size ≤ 9223372036854775807) (hcap : d.size ≤ cap) :
    Calls Try.prog 32 #[.slice (some ⟨blk, off, none⟩) d.size cap] w fun e w' => e = .returned (.slice (some ⟨blk, off, none⟩) (compactUpTo d d.size).length cap) ∧ ∃ q, w' = putRow encI (Sort.ahead w q) blk off (compactUpTo d d.size ++ List.replicate (d.size - (compactUpTo d d.size).length) 0).toArray := Any.slices_Compact_int_arr Try.laysNm220 blk off cap d w hH hsz hcap
open Go.RowKit Go.Lib Go.Sort in
theorem Try.slices_Compact_int (blk off cap : Nat) (zs : List Int) (w : World) (hH : Holds (Value.int .i64) w blk off zs.toArray) (hsz : zs.length ≤ 9223372036854775807) (hcap : zs.length ≤ cap) :
    Calls Try.prog 32 #[.slice (some ⟨blk, off, none⟩) zs.length cap] w fun e w' => e = .returned (.slice (some ⟨blk, off, none⟩) (Lib.compact zs).length cap) ∧ ∃ q, w' = putRow (Value.int .i64) (Sort.ahead w q) blk off (Lib.compact zs ++ List.replicate (zs.length - (Lib.compact zs).length) 0).toArray := Any.slices_Compact_int Try.laysNm220 blk off cap zs w hH hsz hcap
open Go.RowKit Go.Lib Go.Sort in
theorem Try.slices_Compact_int_empty (a : Option Addr) (cap : Nat) (w : World) :
    Calls Try.prog 32 #[.slice a 0 cap] w fun e w' => e = .returned (.slice a 0 cap) ∧ w' = w := Any.slices_Compact_int_empty Try.laysNm220 a cap w
open Go.RowKit Go.Lib Go.Sort in
theorem Try.slices_Compact_int_cells (b off n c : Nat) (zs : List Int) (w : World) (hz : n ≤ zs.length) (hbig : n ≤ 9223372036854775807) (hcap : n ≤ c) (hc : ∀ j, j < zs.length → w.cell? ⟨b, off + j, none⟩ = some (.int .i64 (zs.getD j 0))) (hf : ∀ j, j < n → w.frozen? ⟨b, off + j, none⟩ = false) :
    Calls Try.prog 32 #[.slice (some ⟨b, off, none⟩) n c] w fun e w' => e = .returned (.slice (some ⟨b, off, none⟩) (Lib.compact (zs.take n)).length c) ∧ ∃ q, w' = (w.drewN q).setCells b off ((Lib.compact (zs.take n) ++ List.replicate (n - (Lib.compact (zs.take n)).length) 0).map (Value.int .i64)) := Any.slices_Compact_int_cells Try.laysNm220 b off n c zs w hz hbig hcap hc hf
open Go.RowKit Go.Sort in
theorem Try.slices_Sort_int_none (p : Option Addr) (cap : Nat) (w : World) :
    Calls Try.prog 35 #[.slice p 0 cap] w fun e w' => e = .returned (.tuple #[]) ∧ w' = w := Any.slices_Sort_int_none Try.lays189 p cap w
end Go.Proofs
