/- The walk of the law: drawn bytes and the same with one byte turned have unlike Checks. -/
import Derived.Test.YtlagllomdinklaaLawH
import Derived.Test.YtlagllomdinklaaDrawC
import Derived.Test.YtlagllomdinklaaChkIA
import Derived.Test.YtlagllomdinklaaCrcNe
import Derived.Test.YtlagllomdinklaaAppArg
import Derived.Lib.SlBytesConst
import Derived.Deep.RegionWith
import Derived.Deep.Cut
namespace Go.Proofs.Ytlagllomdinklaa.ChkdLaw
open Go.RowKit
open Draw (Bytes)
open DrawC (Row)
set_option linter.unusedVariables false

set_option maxHeartbeats 400000 in
theorem walk_big0 (A A' : Option Addr) (n c n' c' : Nat) (w : World) (hb : 1048576 < n) :
    Calls Try.prog 5 #[.slice A n c, .slice A' n' c'] w fun e w' => e = .returned (.bool true) ∧ Below w.heap.size w w' := by
  have hd : decide (1048576 < (n : Int)) = true := decide_eq_true (by omega)
  go_enter Try.func5, Try.ntmps5
  go_wp2
  go_ret
  exact ⟨rfl, Below.refl _ _⟩
set_option maxHeartbeats 400000 in
theorem walk_big1 (A A' : Option Addr) (n c n' c' : Nat) (w : World) (h0 : n ≤ 1048576) (hb : 1048576 < n') :
    Calls Try.prog 5 #[.slice A n c, .slice A' n' c'] w fun e w' => e = .returned (.bool true) ∧ Below w.heap.size w w' := by
  have hd : decide (1048576 < (n : Int)) = false := decide_eq_false (by omega)
  have hd' : decide (1048576 < (n' : Int)) = true := decide_eq_true (by omega)
  go_enter Try.func5, Try.ntmps5
  go_wp2
  go_ret
  exact ⟨rfl, Below.refl _ _⟩

theorem bytes_below {w w' : World} {B b : Nat} {A : Option Addr} {n c : Nat} (h : Bytes w B A n c) (hB : B = w.heap.size) (hb : Below w.heap.size w w') (hbb : w.heap.size ≤ b) : Bytes w' b A n c := by
  rcases h with h | ⟨g, o, h1, h2, h3, h4, h5⟩
  · exact .inl h
  · refine .inr ⟨g, o, h1, by omega, Nat.lt_of_lt_of_le h3 hb.size, h4, fun j hj => ?_⟩
    obtain ⟨x, hx, hc⟩ := h5 j hj
    exact ⟨x, hx, by rw [hb.cell (p := ⟨g, o + j, none⟩) h3]; exact hc⟩

theorem turned {y x : Nat} (hy : y < 256) : bits .xor .u8 (y : Int) (IntKind.u8.wrap (IntKind.i64.wrap (1 + (x : Int).tmod 255))) = ((y ^^^ (1 + x % 255) : Nat) : Int) := by
  have e : IntKind.u8.wrap (IntKind.i64.wrap (1 + (x : Int).tmod 255)) = ((1 + x % 255 : Nat) : Int) := by
    rw [Int.tmod_eq_emod_of_nonneg (by omega), IntKind.wrap_i64, IntKind.wrap_u8]
    omega
  rw [e]
  exact CrcNe.u8_xor y (1 + x % 255) hy (by omega)
def nine : List Int := [49, 50, 51, 52, 53, 54, 55, 56, 57]
theorem nine_byt : Seg.Byt nine := Seg.byt_of (by decide)
theorem nine_cell (w : World) (t : TypeId) (fr : Nat × Nat) (i : Nat) (hi : i < 9) : (w.alloc (.cells #[.int .u8 49, .int .u8 50, .int .u8 51, .int .u8 52, .int .u8 53, .int .u8 54, .int .u8 55, .int .u8 56, .int .u8 57] t fr)).cell? ⟨w.heap.size, 0 + i, none⟩ = some (.int .u8 (nine.getD i 0)) := by
  rw [Nat.zero_add, cell_of_row _ w.heap.size i _ _ _ (heap_alloc_new w _)]
  match i, hi with
  | 0, _ => rfl
  | 1, _ => rfl
  | 2, _ => rfl
  | 3, _ => rfl
  | 4, _ => rfl
  | 5, _ => rfl
  | 6, _ => rfl
  | 7, _ => rfl
  | 8, _ => rfl
theorem add0 (g j : Nat) : (⟨g, 0, none⟩ : Addr).add j = ⟨g, j, none⟩ := by unfold Addr.add; split <;> simp_all
theorem B_get {L : List Int} {i : Nat} (h : i < L.length) : (Seg.B L)[i]? = some (.int .u8 (L.getD i 0)) := by simp [Seg.B, h]
theorem B_inv {L : List Int} {i : Nat} {u : Value} (h : (Seg.B L)[i]? = some u) : ∃ _ : i < L.length, u = .int .u8 (L.getD i 0) := by
  have hl : i < L.length := by
    have := (List.getElem?_eq_some_iff.1 h).1
    simpa [Seg.B] using this
  rw [B_get hl] at h
  exact ⟨hl, (Option.some.inj h).symm⟩

set_option maxRecDepth 4000 in
set_option maxHeartbeats 1600000 in
theorem walk (A A' : Option Addr) (n c n' c' : Nat) (w : World) (hn : n ≤ 1048576) (hn' : n' ≤ 1048576) (hb : Bytes w w.heap.size A n c) (hb' : Bytes w w.heap.size A' n' c') :
    Calls Try.prog 5 #[.slice A n c, .slice A' n' c'] w fun e w' => e = .returned (.bool true) ∧ Below w.heap.size w w' := by
  obtain ⟨i0, hi, hz0, hz1, hz2⟩ := info_parts DrawB.infoB
  have HB := Seg.hid hb; have HB' := Seg.hid hb'
  clear hb hb'
  have hd : decide (1048576 < (n : Int)) = false := decide_eq_false (by omega)
  have hd' : decide (1048576 < (n' : Int)) = false := decide_eq_false (by omega)
  go_enter Try.func5, Try.ntmps5
  go_wp2_with fail
  refine (LawH.big_any A n c _ (by omega)).mono ?_
  rintro e w0 ⟨rfl, rfl⟩
  rw [hd]
  go_wp2_with fail
  refine (LawH.big_any A' n' c' _ (by omega)).mono ?_
  rintro e w0 ⟨rfl, rfl⟩
  rw [hd']
  go_wp2_with fail
  refine (DrawC.drawCheck_any A n c _ hn HB.out).mono ?_
  rintro e w1 ⟨⟨g, cap, l, hl, rfl, r1⟩, b1⟩
  have R1 := Seg.hid r1; have B1 := Seg.hid b1
  clear r1 b1
  have hs1 := B1.out.size
  have holds : Hid (∀ j u, (Seg.B l)[j]? = some u → (w1.alloc (.cells #[.int .u8 3] 5)).cell? ⟨g, j, none⟩ = some u) := by
    intro j u hj
    obtain ⟨hjl, rfl⟩ := B_inv hj
    rw [World.cell?_of_block (a := ⟨g, j, none⟩) (heap_alloc_old w1 _ R1.out.glt), R1.out.cell j hjl]
  have hspare : Hid (l.length + 1 ≤ cap → ((w1.alloc (.cells #[.int .u8 3] 5)).cell? ⟨g, l.length, none⟩).isSome = true ∧ (w1.alloc (.cells #[.int .u8 3] 5)).frozen? ⟨g, l.length, none⟩ = false) := by
    intro hcap
    rw [World.cell?_of_block (a := ⟨g, l.length, none⟩) (heap_alloc_old w1 _ R1.out.glt), World.frozen?_of_block (a := ⟨g, l.length, none⟩) (heap_alloc_old w1 _ R1.out.glt)]
    exact R1.out.spare _ (by omega)
  go_upto_region 4 with (at_builtin; refine AppArg.wpList_append_any _ rfl (.tmp 15) (.tmp 16) 22 rfl 5 i0 (.int .u8 0) Try.underlying22 hi hz0 hz1 hz2 rfl g l.length cap (Seg.B l) rfl (by simp [Seg.B]) holds.out ⟨w1.heap.size, 0, none⟩ 1 (.int .u8 3) rfl (cell_one_new _ _ _) rfl hspare.out (by omega) ?_; intro g1 c1 w2 hcap1 A2)
  obtain ⟨L, hL⟩ : ∃ L, L = l ++ [3] := ⟨_, rfl⟩
  have hLl : L.length = l.length + 1 := by rw [hL]; simp
  have LY : Hid (∀ x ∈ L, 0 ≤ x ∧ x < 256) := by
    intro x hx
    rw [hL] at hx
    rcases List.mem_append.1 hx with h | h
    · exact R1.out.byt x h
    · simp at h; omega
  have LC : Hid (∀ i, i < L.length → w2.cell? ⟨g1, i, none⟩ = some (.int .u8 (L.getD i 0))) := by
    intro i hi
    refine A2.cell i _ ?_
    rw [hL] at hi ⊢
    have e : Seg.B l ++ [.int .u8 3] = Seg.B (l ++ [3]) := by simp [Seg.B]
    rw [e]
    exact B_get hi
  have B2 : Hid (Below w.heap.size w w2) := (B1.out.alloc (by omega) _).grown A2.grown (by simp; omega) (fun k hk => by cases hk; exact R1.out.gb)
  have hg1 : w.heap.size ≤ g1 := by
    rcases A2.at_ with e | e
    · rw [e]; exact R1.out.gb
    · simp at e; omega
  have hg1' := A2.lt
  have hs2 := B2.out.size
  have HLL := Seg.hid hLl
  rw [show l.length + 1 = L.length from hLl.symm]
  have hLb : L.length ≤ 161 := by omega
  have hLc : L.length ≤ c1 := by omega
  have hLp : 0 < L.length := by omega
  clear holds hspare A2 R1 B1 hL hLl HLL hs1 hcap1
  have HO := Seg.hid (World.ownsRow_lit (base := w2.heap.size) (e := 5) (size := 1) w2 #[] 0 (Nat.le_refl _) (Nat.zero_le _) rfl)
  have HS : Hid (∀ j u, (Seg.B L)[j]? = some u → (w2.alloc (.cells #[] 5)).cell? ((⟨g1, 0, none⟩ : Addr).add j) = some u) := by
    intro j u hj
    obtain ⟨hjl, rfl⟩ := B_inv hj
    rw [add0 g1 j, World.cell?_of_block (a := ⟨g1, j, none⟩) (heap_alloc_old w2 _ hg1'), LC.out j hjl]
  go_upto_region 5 with (at_builtin; refine wpList_append_lies _ rfl (.tmp 18) (.tmp 19) 22 rfl w2.heap.size 5 i0 (.int .u8 0) 1 1 Try.underlying22 hi hz0 hz1 hz2 rfl (by decide) _ _ _ rfl HO.out ⟨g1, 0, none⟩ L.length c1 (Seg.B L) rfl (by simp [Seg.B]) HS.out (by simp [Seg.B, Value.oneCell']) hLp (by unfold maxLen; omega) (by omega) (by simp) (w2.heap.size + 1) (by simp) ?_; intro g3 c3 w3 o3 gr3 at3 lt3)
  have B3 : Hid (Below w.heap.size w w3) := (B2.out.alloc (by omega) _).grown gr3 (by simp; omega) (fun k hk => by have := (HO.out.lt k hk).1; omega)
  have O3 : Hid (w3.ownsRow w2.heap.size 5 1 (.slice (some ⟨g3, 0, none⟩) L.length c3) L.length (Seg.B L)) := by
    show World.ownsRow _ _ _ _ _ _ _
    simpa using o3
  have hg3 : w2.heap.size ≤ g3 := (Seg.owns_cap O3.out).2.2.1
  have K3 : Hid (Below w2.heap.size w2 w3) := ((Below.refl _ _).alloc (Nat.le_refl _) _).grown gr3 (by simp) (fun k hk => (HO.out.lt k hk).1)
  have hs3 := K3.out.size
  clear o3 gr3 at3 lt3 HO HS
  have Y3 := Seg.hid (bytes_below (b := w3.heap.size) HB'.out rfl B3.out (by omega))
  go_wp2_with fail
  refine (DrawC.at_any A' n' c' _ 0 _ hn' Y3.out (by decide)).mono ?_
  rintro e w4 ⟨⟨x0, hx0, rfl⟩, rfl⟩
  go_wp2_with fail
  refine (DrawC.at_any A' n' c' _ 1 _ hn' Y3.out (by decide)).mono ?_
  rintro e w4 ⟨⟨x1, hx1, rfl⟩, rfl⟩
  obtain ⟨k, hk⟩ : ∃ k : Nat, ((x0 : Int) * 256 + x1) % (L.length : Int) = (k : Int) := ⟨((x0 * 256 + x1) % L.length), by simp⟩
  have hkl : k < L.length := by
    have := Int.emod_lt_of_pos ((x0 : Int) * 256 + x1) (show (0 : Int) < (L.length : Int) by omega)
    omega
  obtain ⟨y, HY, hy⟩ : ∃ y : Nat, Hid (L.getD k 0 = (y : Int)) ∧ y < 256 := by
    have hm : L.getD k 0 ∈ L := by simp [hkl]
    have := LY.out _ hm
    exact ⟨(L.getD k 0).toNat, by show _ = _; omega, by omega⟩
  have hcy : w3.cell? ⟨g3, k, none⟩ = some (.int .u8 (y : Int)) := by rw [Seg.owns_cell O3.out k hkl, HY.out]
  have hfy := O3.out.frozenAt k
  have hk0 : (0 : Int) ≤ (k : Int) := by omega
  have hk1 : (k : Int) < (L.length : Int) := by omega
  have hc3 := (Seg.owns_cap O3.out).1
  have HK := Seg.hid hk
  clear hk
  go_upto_region 6 with fail
  rw [HK.out]
  have Y4 : Hid (Bytes w3.drew w3.heap.size A' n' c') := Y3.out
  go_region_with (go_at_call 15; refine (DrawC.at_any A' n' c' w3.heap.size 2 w3.drew hn' Y4.out (by decide)).mono ?_; rintro e w4 ⟨⟨x2, hx2, rfl⟩, rfl⟩)
  all_goals
    have hv : bits .xor .u8 (y : Int) (IntKind.u8.wrap (IntKind.i64.wrap (1 + (x2 : Int).tmod 255))) = ((y ^^^ (1 + x2 % 255) : Nat) : Int) := turned hy
    have hvl : y ^^^ (1 + x2 % 255) < 256 := Nat.xor_lt_two_pow (n := 8) hy (by omega)
    have hvn : y ≠ y ^^^ (1 + x2 % 255) := CrcNe.xor_ne (by omega)
    rw [hv]
    obtain ⟨z, hz⟩ : ∃ z, z = y ^^^ (1 + x2 % 255) := ⟨_, rfl⟩
    rw [← hz] at hvl hvn ⊢
    clear hv hz
    have S4 := O3.out.stored k (.int .u8 (z : Int))
    have O4 : Hid ((w3.setCell ⟨g3, k, none⟩ (.int .u8 (z : Int))).ownsRow w2.heap.size 5 1 (.slice (some ⟨g3, 0, none⟩) L.length c3) L.length (Seg.B (L.set k (z : Int)))) := by
      have := S4.1
      rw [Seg.B, ← List.map_set] at this
      exact this
    have B4 : Hid (Below w.heap.size w (w3.setCell ⟨g3, k, none⟩ (.int .u8 (z : Int)))) := B3.out.setCell (by show w.heap.size ≤ g3; omega) _
    have K4 : Hid (Below w2.heap.size w2 (w3.setCell ⟨g3, k, none⟩ (.int .u8 (z : Int)))) := K3.out.setCell hg3 _
    have NE : Hid (Crc.check L ≠ Crc.check (L.set k (z : Int))) := CrcNe.check_ne L k z LY.out hkl (by omega) (by rw [HY.out]; omega)
    have LY2 : Hid (∀ x ∈ L.set k (z : Int), 0 ≤ x ∧ x < 256) := by
      intro x hx
      rcases List.mem_or_eq_of_mem_set hx with h | h
      · exact LY.out x h
      · subst h; omega
    have LC4 : Hid (∀ i, i < L.length → (w3.setCell ⟨g3, k, none⟩ (.int .u8 (z : Int))).cell? ⟨g1, 0 + i, none⟩ = some (.int .u8 (L.getD i 0))) := by
      intro i hi
      rw [Nat.zero_add, K4.out.cell (p := ⟨g1, i, none⟩) hg1', LC.out i hi]
    have hl4 : Hid (g1 < (w3.setCell ⟨g3, k, none⟩ (.int .u8 (z : Int))).heap.size) := (by show _ < _; have := K4.out.size; omega)
    clear S4 hcy hfy O3 B3 K3 LC hvl hvn HK
    revert O4 B4 K4 LC4 hl4
    generalize w3.setCell ⟨g3, k, none⟩ (.int .u8 (z : Int)) = W
    intro O4 B4 K4 LC4 hl4
    have hne : (Crc.check L != Crc.check (L.set k (z : Int))) = true := bne_iff_ne.2 NE.out
    have HNE := Seg.hid hne
    clear hne
    have kc := fun (w : World) (C : Array Value) (n c : Nat) => Lib.run_convert_bytes_const (P := Try.prog) w 22 5 C n c Try.underlying22 Try.underlying5
    go_wp2_with fail
    refine (ChkI.impl_core g1 0 L.length c1 L W.drew (by omega) hLc rfl (.inr (by exact hl4.out)) (by exact LC4.out) (Seg.byt_of LY.out)).mono ?_
    rintro e w5 ⟨rfl, b5⟩
    have B5 := Seg.hid b5
    have O5 := Seg.hid (Seg.owns_below (w := W.drew) O4.out b5)
    have D5 := Seg.hid ((B4.out.drew).trans (b5.mono (by exact B4.out.size)))
    clear b5
    go_wp2_with fail
    refine (ChkI.impl_any _ g3 L.length c3 (L.set k (z : Int)) _ (by omega) (by simp) (Seg.byt_of LY2.out) O5.out).mono ?_
    rintro e w6 ⟨rfl, b6⟩
    have D6 := Seg.hid (D5.out.trans (b6.mono D5.out.size))
    have hs6 := D6.out.size
    clear b6
    generalize Crc.check L = cl at HNE ⊢
    generalize Crc.check (L.set k (z : Int)) = cs at HNE ⊢
    have hne := HNE.out
    go_wp2_with fail
    refine (ChkI.impl_core w6.heap.size 0 9 9 nine _ (by decide) (by decide) rfl (.inr (by simp)) (fun i hi => nine_cell w6 5 _ i hi) nine_byt).mono ?_
    rintro e w7 ⟨rfl, b7⟩
    have D7 := Seg.hid ((D6.out.alloc hs6 _).trans (b7.mono (by simp; omega)))
    clear b7
    have hkn : Crc.check nine = 3421780262 := CrcNe.known
    rw [hkn]
    clear hkn
    go_wp2_with fail
    go_ret
    exact ⟨rfl, D7.out⟩

theorem walk_any (A : Option Addr) (len cap : Nat) (zs : List Int) (A' : Option Addr) (len' cap' : Nat) (zs' : List Int) (w : World)
    (h : (A = none ∧ len = 0 ∧ cap = 0 ∧ zs = []) ∨ ∃ x, A = some x ∧ len ≤ cap ∧ cap ≤ maxLen ∧ zs.length = cap ∧ (∀ i, i < zs.length → w.cell? (x.add i) = some (.int .u8 (zs.getD i 0))) ∧ ∀ n ∈ zs, (Lit.int .u8 n).wf = true)
    (h' : (A' = none ∧ len' = 0 ∧ cap' = 0 ∧ zs' = []) ∨ ∃ x, A' = some x ∧ len' ≤ cap' ∧ cap' ≤ maxLen ∧ zs'.length = cap' ∧ (∀ i, i < zs'.length → w.cell? (x.add i) = some (.int .u8 (zs'.getD i 0))) ∧ ∀ n ∈ zs', (Lit.int .u8 n).wf = true) :
    Calls Try.prog 5 #[.slice A len cap, .slice A' len' cap'] w fun e w' => e = .returned (.bool true) ∧ Below w.heap.size w w' := by
  by_cases hb : 1048576 < len
  · exact walk_big0 A A' len cap len' cap' w hb
  · by_cases hb' : 1048576 < len'
    · exact walk_big1 A A' len cap len' cap' w (by omega) hb'
    · exact walk A A' len cap len' cap' w (by omega) (by omega) (LawH.row_bytes w A len cap zs h (by omega)) (LawH.row_bytes w A' len' cap' zs' h' (by omega))
end Go.Proofs.Ytlagllomdinklaa.ChkdLaw
