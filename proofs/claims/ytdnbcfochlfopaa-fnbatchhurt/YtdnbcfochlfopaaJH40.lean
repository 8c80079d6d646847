/- The helpers that all the laws over drawn bytes share; The walk of the law on a hurt batch out of the contracts. -/
import Derived.Test.YtdnbcfochlfopaaJH34
import Derived.Test.YtdnbcfochlfopaaJH39
namespace Go.Proofs.Ytdnbcfochlfopaa.LawH
set_option maxRecDepth 8000
open Go.RowKit
open Draw (Bytes)
set_option linter.unusedVariables false

theorem big_any (A : Option Addr) (n c : Nat) (w : World) (hn : n ≤ 140737488355328) : Calls Try.prog 8 #[.slice A n c] w fun e w' => e = .returned (.bool (decide (1048576 < (n : Int)))) ∧ w = w' := by
  go_enter Try.func8, Try.ntmps8
  go_wp2
  go_ret
  exact ⟨by simp, rfl⟩

/-- What the frame tells of a slice that came in, as the draw wants it. -/
theorem row_bytes (w : World) (a : Option Addr) (len cap : Nat) (zs : List Int)
    (h : (a = none ∧ len = 0 ∧ cap = 0 ∧ zs = []) ∨ ∃ x, a = some x ∧ len ≤ cap ∧ cap ≤ maxLen ∧ zs.length = cap ∧ (∀ i, i < zs.length → w.cell? (x.add i) = some (.int .u8 (zs.getD i 0))) ∧ ∀ n ∈ zs, (Lit.int .u8 n).wf = true)
    (hl : len ≤ 140737488355328) : Bytes w w.heap.size a len cap := by
  obtain ⟨l, h1, h2, h3, h4⟩ := Seg.row_seg w a len cap zs h hl
  by_cases hz : len = 0
  · exact .inl hz
  · obtain ⟨_, h2⟩ := h2
    rcases h2 with ⟨A, c, e, rfl⟩ | ⟨g, o, cap', e, h5, h6, h7⟩
    · exact .inl h1.symm
    · cases e
      refine .inr ⟨g, o, rfl, ?_, ?_, by omega, fun j hj => ?_⟩
      · have := (h4.resolve_left hz) g rfl
        omega
      · exact (h4.resolve_left hz) g rfl
      · have hb := h3 j
        exact ⟨(l.getD j 0).toNat, by omega, by rw [h7 j (by omega), Int.toNat_of_nonneg hb.1]⟩

end Go.Proofs.Ytdnbcfochlfopaa.LawH
namespace Go.Proofs.Ytdnbcfochlfopaa.HurtLaw
set_option maxRecDepth 8000
open Go.RowKit
open Draw (Bytes)
open Recs (hsz Hd Rec Bat Heads RecAt RecsAt BatAt batVal)
open BatW (batArr batArr_one info40)
open Hurt (at_)
open WrP (bodyS)
set_option linter.unusedVariables false
set_option maxHeartbeats 400000 in
theorem walk_big0 (A A' : Option Addr) (n c n' c' : Nat) (w : World) (hb : 1048576 < n) :
    Calls Try.prog 4 #[.slice A n c, .slice A' n' c'] w fun e w' => e = .returned (.bool true) ∧ Below w.heap.size w w' := by
  have hd : decide (1048576 < (n : Int)) = true := decide_eq_true (by omega)
  go_enter Try.func4, Try.ntmps4
  go_wp2
  go_ret
  exact ⟨rfl, Below.refl _ _⟩
set_option maxHeartbeats 400000 in
theorem walk_big1 (A A' : Option Addr) (n c n' c' : Nat) (w : World) (h0 : n ≤ 1048576) (hb : 1048576 < n') :
    Calls Try.prog 4 #[.slice A n c, .slice A' n' c'] w fun e w' => e = .returned (.bool true) ∧ Below w.heap.size w w' := by
  have hd : decide (1048576 < (n : Int)) = false := decide_eq_false (by omega)
  have hd' : decide (1048576 < (n' : Int)) = true := decide_eq_true (by omega)
  go_enter Try.func4, Try.ntmps4
  go_wp2
  go_ret
  exact ⟨rfl, Below.refl _ _⟩

theorem bytes_below {w w' : World} {B b : Nat} {A : Option Addr} {n c : Nat} (h : Bytes w B A n c) (hB : B = w.heap.size) (hb : Below w.heap.size w w') (hbb : w.heap.size ≤ b) : Bytes w' b A n c := by
  rcases h with h | ⟨g, o, h1, h2, h3, h4, h5⟩
  · exact .inl h
  · refine .inr ⟨g, o, h1, by omega, Nat.lt_of_lt_of_le h3 hb.size, h4, fun j hj => ?_⟩
    obtain ⟨x, hx, hc⟩ := h5 j hj
    exact ⟨x, hx, by rw [hb.cell (p := ⟨g, o + j, none⟩) h3]; exact hc⟩
theorem turned {y x : Nat} (hy : y < 256) : bits .xor .u8 (y : Int) (IntKind.u8.wrap (IntKind.i64.wrap (1 + (x : Int).tmod 255))) = ((y ^^^ (1 + x % 255) : Nat) : Int) := by
  have e : IntKind.u8.wrap (IntKind.i64.wrap (1 + (x : Int).tmod 255)) = ((1 + x % 255 : Nat) : Int) := by
    rw [Int.tmod_eq_emod_of_nonneg (by omega), IntKind.wrap_i64, IntKind.wrap_u8]
    omega
  rw [e]
  exact CrcNe.u8_xor y (1 + x % 255) hy (by omega)
theorem set_byt {l : List Int} (h : Seg.Byt l) {p : Nat} {z : Int} (hz : 0 ≤ z ∧ z < 256) : Seg.Byt (l.set p z) := fun j => by
  by_cases e : p = j
  · subst e
    by_cases hl : p < l.length
    · simp [hl]; omega
    · have := h p
      simp [hl] at this ⊢
  · have := h j
    simp only [List.getD_eq_getElem?_getD] at this ⊢
    rw [List.getElem?_set_ne e]
    exact this
theorem by_four (c : Int) (h : 0 ≤ c ∧ c < 4294967296) : WrP.By (WrP.four c) := fun x hx => by
  simp only [WrP.four, List.mem_cons, List.not_mem_nil, or_false] at hx
  omega
/-- The batch lies in block q, and is right. -/
structure BQ (w wr : World) (q : Nat) (t : Bat) (rv : Value) : Prop where
  blk : wr.heap[q]? = some (.cells (batArr t rv) 26 (0, 0))
  rs : RecsAt wr 0 wr.heap.size rv t.recs
  ok : BOk.batOk t = true
  bl : Below w.heap.size w wr
theorem BQ.bat {w wr : World} {q : Nat} {t : Bat} {rv : Value} (h : BQ w wr q t rv) : BatAt wr 0 wr.heap.size (.agg (batArr t rv)) t := ⟨rv, rfl, h.rs⟩
def lit : Bat := ⟨0, 0, -1, 0, 0, 0, [⟨5, false, ⟨#[]⟩, false, ⟨#[119, 104, 111, 108, 101]⟩, []⟩]⟩
theorem lit_ok : BOk.batOk lit = true := by decide +kernel
theorem lit_bq {w w2 : World} {q : Nat} {cs : Array Value} (h : w2.heap[q]? = some (.cells cs 26 (0, 0))) (hc : cs.size = 7) (hq : w.heap.size ≤ q) (hl : q < w2.heap.size) (hb : Below w.heap.size w w2) :
    BQ w ((w2.alloc (.cells #[.int .i64 5, .bool false, .string ⟨#[]⟩, .bool false, .string ⟨#[119, 104, 111, 108, 101]⟩, .slice none 0 0] 36)).setCells q 0 (batArr lit (.slice (some ⟨w2.heap.size, 0, none⟩) 1 1)).toList) q lit (.slice (some ⟨w2.heap.size, 0, none⟩) 1 1) := by
  refine ⟨Cells.whole ((heap_alloc_old w2 _ hl).trans h) hc, ⟨fun _ => .slice none 0 0, ⟨by decide, _, _, rfl, .inr ⟨w2.heap.size, 0, rfl, ?_, Nat.le_refl _, fun i hi j hj => ?_, Nat.zero_le _⟩⟩, fun i hi => ?_⟩, lit_ok, Cells.below_setCells hq _ _ _ _ (hb.alloc hb.size _)⟩
  · rw [Cells.size_setCells, hsz]; omega
  · have hi0 : i = 0 := by simp [lit] at hi; exact hi
    subst hi0
    have e := (Cells.heap_setCells_other (g := q) (batArr lit (.slice (some ⟨w2.heap.size, 0, none⟩) 1 1)).toList (o := 0) (w2.alloc (.cells #[.int .i64 5, .bool false, .string ⟨#[]⟩, .bool false, .string ⟨#[119, 104, 111, 108, 101]⟩, .slice none 0 0] 36)) (k := w2.heap.size) (by omega)).trans (heap_alloc_new _ _)
    rw [cell_of_row _ _ _ _ _ _ e]
    match j, hj with
    | 0, _ => rfl
    | 1, _ => rfl
    | 2, _ => rfl
    | 3, _ => rfl
    | 4, _ => rfl
    | 5, _ => rfl
  · have hi0 : i = 0 := by simp [lit] at hi; exact hi
    subst hi0
    exact ⟨by decide, none, 0, rfl, .inl rfl⟩
set_option maxRecDepth 4000 in
set_option maxHeartbeats 1600000 in
theorem walk (A A' : Option Addr) (n c n' c' : Nat) (w : World) (hn : n ≤ 1048576) (hn' : n' ≤ 1048576) (hb : Bytes w w.heap.size A n c) (hb' : Bytes w w.heap.size A' n' c') :
    Calls Try.prog 4 #[.slice A n c, .slice A' n' c'] w fun e w' => e = .returned (.bool true) ∧ Below w.heap.size w w' := by
  have HB := Seg.hid hb; have HB' := Seg.hid hb'
  clear hb hb'
  have hd : decide (1048576 < (n : Int)) = false := decide_eq_false (by omega)
  have hd' : decide (1048576 < (n' : Int)) = false := decide_eq_false (by omega)
  go_enter Try.func4, Try.ntmps4
  go_wp2_with fail
  refine (LawH.big_any A n c _ (by omega)).mono ?_
  rintro e w0 ⟨rfl, rfl⟩
  rw [hd]
  go_wp2_with fail
  refine (LawH.big_any A' n' c' _ (by omega)).mono ?_
  rintro e w0 ⟨rfl, rfl⟩
  rw [hd']
  go_wp2_with fail
  refine (DrawG.draw_any A n c _ hn HB.out).mono ?_
  rintro e w1 ⟨t1, v1, x1, rfl, ⟨rv1, rfl, HR⟩, b1⟩
  have HR' := HR
  obtain ⟨_, ⟨_, A1, c1, rfl, _⟩, _⟩ := HR'
  have R1 := Seg.hid HR
  have B1 := Seg.hid b1
  clear HR b1
  have hs1 := B1.out.size
  unfold batVal
  have K1 := Seg.hid (R1.out.mono (lo' := 0) (Nat.zero_le _) (Nat.le_refl _))
  go_wp2_with fail
  refine (BOk.spec_any (batVal t1 (.slice A1 t1.recs.length c1)) t1 _ 0 w1.heap.size ⟨_, rfl, K1.out.below (Recs.below1 w1 _)⟩ (by rw [hsz]; omega)).mono ?_
  rintro e w2 ⟨rfl, b2⟩
  have hs2 := b2.size
  rw [hsz] at hs2
  have E2 : Hid (w2.heap[w1.heap.size]? = some (.cells (batArr t1 (.slice A1 t1.recs.length c1)) 26 (0, 0))) := (b2.block _ (by rw [hsz]; omega)).trans (heap_alloc_new _ _)
  have B2 := Seg.hid ((B1.out.alloc hs1 _).trans (b2.mono (by rw [hsz]; omega)))
  have K2 := Seg.hid (((K1.out.below (Recs.below1 w1 _)).below (b2.mono (by rw [hsz]; omega))).mono (Nat.le_refl _) (show w1.heap.size ≤ w2.heap.size by omega))
  clear b2 K1 R1 B1
  rename_i Q' Kb ab Ka aa Kx ax
  have J : ∀ (x23 x24 x25 x26 x27 x28 x29 x30 x31 x32 x33 : Value) (t : Bat) (rv : Value) (wr : World), Hid (BQ w wr w1.heap.size t rv) → Kb ⟨List.toArray (.slice A n c :: .slice A' n' c' :: undef :: undef :: .bool false :: .pointer (some ⟨w1.heap.size, 0, none⟩) :: .int .i64 x1 :: undef :: undef :: undef :: undef :: undef :: undef :: undef :: undef :: undef :: undef :: .slice A n c :: .bool false :: .bool false :: .slice A' n' c' :: .bool false :: .bool false :: x23 :: x24 :: x25 :: x26 :: x27 :: x28 :: x29 :: x30 :: x31 :: x32 :: x33 :: undef :: undef :: undef :: undef :: undef :: undef :: undef :: undef :: undef :: undef :: undef :: undef :: undef :: undef :: undef :: undef :: undef :: undef :: undef :: undef :: undef :: undef :: undef :: undef :: undef :: undef :: undef :: undef :: undef :: undef :: undef :: undef :: undef :: undef :: undef :: undef :: undef :: undef :: undef :: undef :: undef :: undef :: undef :: undef :: undef :: undef :: undef :: undef :: undef :: undef :: undef :: undef :: undef :: undef :: undef :: undef :: undef :: []), []⟩ wr := by
    clear aa ax Ka Kx E2 B2 K2 hs2
    intro x23 x24 x25 x26 x27 x28 x29 x30 x31 x32 x33 t rv wr DQ
    refine ab _ _ ?_
    clear ab Kb
    have E3 := Seg.hid DQ.out.blk
    go_wp2_with (first | (refine wpList_load_row rfl 26 _ rfl w1.heap.size rfl _ _ _ _ E3.out Try.underlying26 rfl info40 ?_))
    refine (WrI.impl_any (.agg (batArr t rv)) t 2 wr 0 wr.heap.size DQ.out.bat (Nat.le_refl _)).mono ?_
    rintro e w3 ⟨g, cap, rfl, o3, b3⟩
    have O3 := Seg.hid o3
    have B3 := Seg.hid (DQ.out.bl.trans (b3.mono DQ.out.bl.size))
    have hok := DQ.out.ok
    have hs3 := b3.size
    have hs3' := DQ.out.bl.size
    clear o3 b3 DQ E3
    obtain ⟨hL1, hL2, hL3, hL4⟩ := Hurt.wr_len hok
    have HG : Hid (∀ i, i < 7 → ∃ u, Nums.scan (WrP.wr t 2) (at_ (Hurt.hn t) i) 0 0 = some (u, at_ (Hurt.hn t) (i + 1)) ∧ at_ (Hurt.hn t) i ≤ (WrP.wr t 2).length) := by
      intro i hi
      obtain ⟨u, hu⟩ := Hurt.scan_at (Hurt.hn t) (bodyS t 2 ++ WrP.four (Hurt.chk t)) (Hurt.hn_bd hok) i (by rw [Hurt.hn_len]; exact hi)
      have hle := Hurt.at_le (Hurt.hn t) (bodyS t 2 ++ WrP.four (Hurt.chk t)) i
      rw [← Hurt.wr_wire hok] at hu hle
      exact ⟨u, hu, hle⟩
    have BY : Hid (Seg.Byt (WrP.wr t 2)) := by
      show Seg.Byt _
      rw [Hurt.wr_wire hok]
      exact Seg.byt_of (Hurt.by_wire t _ ((WrI.by_bodyS t 2).app (by_four _ (Hurt.check_bd _ (Hurt.by_wire t _ (WrI.by_bodyS t 2))))))
    have T5 : Hid (∀ (j : Nat) (y : Int), j < (bodyS t 2).length + 4 → 0 ≤ y ∧ y < 256 → (WrP.wr t 2).getD (at_ (Hurt.hn t) 7 + j) 0 ≠ y → Rd.preE ((WrP.wr t 2).set (at_ (Hurt.hn t) 7 + j) y) 0 = .error 5) := fun j y a b c => Hurt.turned hok j y a b c
    generalize WrP.wr t 2 = L at O3 hL1 HG BY T5 ⊢
    generalize (bodyS t 2).length = bl at hL1 hL4 T5
    clear hok
    go_wp2_with fail
    go_loop [8, 9] (fun h i => ∃ k : Nat, k ≤ 7 ∧ i = .int .i64 k ∧ h = .int .i64 (at_ (Hurt.hn t) k : Nat)) (fun _ i => 7 - (intOf i).toNat)
    case atStart => exact ⟨0, by omega, rfl, rfl⟩
    case round =>
      obtain ⟨k, hk, rfl, rfl⟩ := hrel
      by_cases hlt : k < 7
      · obtain ⟨u, hu, hle⟩ := HG.out k hlt
        have GE : Hid (Nums.got (Get.getR L (at_ (Hurt.hn t) k : Nat)) = #[.int .i64 (Nums.unf u), .int .i64 (at_ (Hurt.hn t) (k + 1) : Nat), .bool true]) := by
          show Nums.got (Get.getR _ _) = _
          unfold Get.getR
          rw [if_pos (by omega), Int.toNat_natCast, hu]
          rfl
        clear hu
        go_wp2_with fail
        refine (Get.impl_any g L.length cap _ L _ _ (by omega) rfl BY.out O3.out).mono ?_
        rintro e w4 ⟨rfl, rfl⟩
        rw [GE.out]
        go_wp2_with fail
        go_round
        case rel => exact ⟨k + 1, by omega, by go_num, rfl⟩
        case measure => simp [intOf]; omega
      · have : k = 7 := by omega
        subst this
        clear HG hlt hk
        have Y3 := Seg.hid (bytes_below (b := w3.heap.size) HB'.out rfl B3.out B3.out.size)
        go_wp2_with fail
        refine (DrawC.at_any A' n' c' _ 0 _ hn' Y3.out (by decide)).mono ?_
        rintro e w4 ⟨⟨x0, hx0, rfl⟩, rfl⟩
        go_wp2_with fail
        refine (DrawC.at_any A' n' c' _ 1 _ hn' Y3.out (by decide)).mono ?_
        rintro e w4 ⟨⟨x1', hx1, rfl⟩, rfl⟩
        generalize at_ (Hurt.hn t) 7 = H at hL1 hL2 hL3 T5 ⊢
        obtain ⟨k, hk⟩ : ∃ k : Nat, ((x0 : Int) * 256 + x1') % ((L.length : Int) - (H : Int)) = (k : Int) := ⟨((x0 * 256 + x1') % (L.length - H)), by
          have e : (L.length : Int) - (H : Int) = ((L.length - H : Nat) : Int) := by omega
          rw [e]
          simp⟩
        have hkl : k < bl + 4 := by
          have := Int.emod_lt_of_pos ((x0 : Int) * 256 + x1') (show (0 : Int) < (L.length : Int) - (H : Int) by omega)
          omega
        have hpos : (0 : Int) < (L.length : Int) - (H : Int) := by omega
        have hne0 : ¬ ((L.length : Int) - (H : Int) = 0) := by omega
        have HK := Seg.hid hk
        clear hk
        go_upto_region 18 with fail
        have hw : wrap64 ((H : Int) + ((x0 : Int) * 256 + x1') % ((L.length : Int) - (H : Int))) = ((H + k : Nat) : Int) := by
          rw [HK.out]
          unfold wrap64
          omega
        rw [hw]
        clear hw HK
        obtain ⟨p, hp⟩ : ∃ p, p = H + k := ⟨_, rfl⟩
        have hpl : p < L.length := by omega
        obtain ⟨y, HY, hy⟩ : ∃ y : Nat, Hid (L.getD p 0 = (y : Int)) ∧ y < 256 := by
          have := BY.out p
          exact ⟨(L.getD p 0).toNat, by show _ = _; omega, by omega⟩
        have T6 : Hid (∀ z : Int, 0 ≤ z ∧ z < 256 → (y : Int) ≠ z → Rd.preE (L.set p z) 0 = .error 5) := fun z hz hne => by
          rw [hp]
          exact T5.out k z hkl hz (by rw [← hp, HY.out]; exact hne)
        rw [← hp]
        clear hp T5 hkl hpos hne0
        have hcy : w3.cell? ⟨g, p, none⟩ = some (.int .u8 (y : Int)) := by rw [Seg.owns_cell O3.out p hpl, HY.out]
        have hfy := World.ownsRow.frozenAt O3.out p
        have hk0 : (0 : Int) ≤ (p : Int) := by omega
        have hk1 : (p : Int) < (L.length : Int) := by omega
        have hc3 := (Seg.owns_cap O3.out).1
        have hgl := (Seg.owns_cap O3.out).2.2.1
        have Y4 : Hid (Bytes w3.drew w3.heap.size A' n' c') := Y3.out
        go_region_with (go_at_call 17; refine (DrawC.at_any A' n' c' w3.heap.size 2 w3.drew hn' Y4.out (by decide)).mono ?_; rintro e w4 ⟨⟨x2, hx2, rfl⟩, rfl⟩)
        all_goals
          have hv : bits .xor .u8 (y : Int) (IntKind.u8.wrap (IntKind.i64.wrap (1 + (x2 : Int).tmod 255))) = ((y ^^^ (1 + x2 % 255) : Nat) : Int) := turned hy
          have hvl : y ^^^ (1 + x2 % 255) < 256 := Nat.xor_lt_two_pow (n := 8) hy (by omega)
          have hvn : y ≠ y ^^^ (1 + x2 % 255) := CrcNe.xor_ne (by omega)
          rw [hv]
          obtain ⟨z, hz⟩ : ∃ z, z = y ^^^ (1 + x2 % 255) := ⟨_, rfl⟩
          rw [← hz] at hvl hvn ⊢
          clear hv hz
          have S4 := World.ownsRow.stored O3.out p (.int .u8 (z : Int))
          have O4 : Hid ((w3.setCell ⟨g, p, none⟩ (.int .u8 (z : Int))).ownsRow wr.heap.size 5 1 (.slice (some ⟨g, 0, none⟩) L.length cap) L.length (Seg.B (L.set p (z : Int)))) := by
            have := S4.1
            rw [Seg.B, ← List.map_set] at this
            exact this
          have B4 : Hid (Below w.heap.size w (w3.setCell ⟨g, p, none⟩ (.int .u8 (z : Int)))) := B3.out.setCell (by show w.heap.size ≤ g; omega) _
          have hf := T6.out z (by omega) (by omega)
          have BY2 : Hid (Seg.Byt (L.set p (z : Int))) := set_byt BY.out (by omega)
          have hl4 : Hid (g < (w3.setCell ⟨g, p, none⟩ (.int .u8 (z : Int))).heap.size) := (Seg.owns_cap O4.out).2.2.2
          clear S4 hcy hfy O3 B3 hvl hvn T6
          revert O4 B4 hl4
          generalize w3.setCell ⟨g, p, none⟩ (.int .u8 (z : Int)) = W
          intro O4 B4 hl4
          go_wp2_with fail
          have SG : Hid (Seg.Seg W (.slice (some ⟨g, 0, none⟩) L.length cap) (L.set p (z : Int))) := by
            have hl : (L.set p (z : Int)).length = L.length := List.length_set
            have h4 := O4.out
            show Seg.Seg _ _ _
            rw [← hl] at h4 ⊢
            exact Seg.Own.seg ⟨by omega, g, cap, rfl, h4⟩
          refine (Rd.read_err (.slice (some ⟨g, 0, none⟩) L.length cap) (L.set p (z : Int)) 0 5 W.drew SG.out BY2.out (.inr fun g' e => by cases e; exact hl4.out) hf).mono ?_
          rintro e w5 ⟨rfl, b5⟩
          have D5 := Seg.hid ((B4.out.drew).trans (b5.mono (by exact B4.out.size)))
          clear b5 hf
          go_wp2_with fail
          go_ret
          exact ⟨rfl, D5.out.alloc D5.out.size _⟩
  clear ab
  cases hok : BOk.batOk t1 with
  | true =>
    have DQ : Hid (BQ w w2 w1.heap.size t1 (.slice A1 t1.recs.length c1)) := ⟨E2.out, K2.out, hok, B2.out⟩
    go_wp2_with fail
    exact J _ _ _ _ _ _ _ _ _ _ _ _ _ _ DQ
  | false =>
    have th : Hid ((w2.alloc (.cells #[.int .i64 5, .bool false, .string ⟨#[]⟩, .bool false, .string ⟨#[119, 104, 111, 108, 101]⟩, .slice none 0 0] 36)).there w1.heap.size 0 7) := Cells.there_of ((heap_alloc_old w2 _ (by omega)).trans E2.out)
    have LQ := Seg.hid (lit_bq E2.out rfl hs1 (by omega) B2.out)
    clear E2 K2 B2
    go_wp2_with (first | (refine wpList_store_mid rfl 26 _ _ rfl w1.heap.size 0 (batArr lit (.slice (some ⟨w2.heap.size, 0, none⟩) 1 1)) rfl rfl th.out info40 (batArr_one _ _ rfl) ?_))
    exact J _ _ _ _ _ _ _ _ _ _ _ _ _ _ LQ
theorem walk_any (A : Option Addr) (len cap : Nat) (zs : List Int) (A' : Option Addr) (len' cap' : Nat) (zs' : List Int) (w : World)
    (h : (A = none ∧ len = 0 ∧ cap = 0 ∧ zs = []) ∨ ∃ x, A = some x ∧ len ≤ cap ∧ cap ≤ maxLen ∧ zs.length = cap ∧ (∀ i, i < zs.length → w.cell? (x.add i) = some (.int .u8 (zs.getD i 0))) ∧ ∀ n ∈ zs, (Lit.int .u8 n).wf = true)
    (h' : (A' = none ∧ len' = 0 ∧ cap' = 0 ∧ zs' = []) ∨ ∃ x, A' = some x ∧ len' ≤ cap' ∧ cap' ≤ maxLen ∧ zs'.length = cap' ∧ (∀ i, i < zs'.length → w.cell? (x.add i) = some (.int .u8 (zs'.getD i 0))) ∧ ∀ n ∈ zs', (Lit.int .u8 n).wf = true) :
    Calls Try.prog 4 #[.slice A len cap, .slice A' len' cap'] w fun e w' => e = .returned (.bool true) ∧ Below w.heap.size w w' := by
  by_cases hb : 1048576 < len
  · exact walk_big0 A A' len cap len' cap' w hb
  · by_cases hb' : 1048576 < len'
    · exact walk_big1 A A' len cap len' cap' w (by omega) hb'
    · exact walk A A' len cap len' cap' w (by omega) (by omega) (LawH.row_bytes w A len cap zs h (by omega)) (LawH.row_bytes w A' len' cap' zs' h' (by omega))
end Go.Proofs.Ytdnbcfochlfopaa.HurtLaw
