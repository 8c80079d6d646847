/- One of some texts, drawn; Bytes that are drawn: some bytes, in memory that is new. -/
import Derived.Deep.AppendLies
import Derived.Laws.OwnMore
import Derived.Laws.BytesArg
import Derived.Lib.ConvBytes
import Derived.Test.YtdnbcfochlfopaaJH34
namespace Go.Proofs.Ytdnbcfochlfopaa.Draw
set_option maxRecDepth 8000
open Go.RowKit
set_option linter.unusedVariables false
set_option maxHeartbeats 800000 in
theorem pick_any (b : Nat) (A : Option Addr) (n c : Nat) (g m : Nat) (f : Nat → ByteArray) (w : World) (hc : Cur w b A n c) (hm : 0 < m) (hm2 : m ≤ 1000) (hg : g < w.heap.size) (hgb : g ≠ b)
    (hcell : ∀ i, i < m → w.cell? ⟨g, i, none⟩ = some (.string (f i))) :
    Calls Try.prog 97 #[.pointer (some ⟨b, 0, none⟩), .slice (some ⟨g, 0, none⟩) m m] w fun e w' => (∃ i : Nat, i < m ∧ e = .returned (.string (f i))) ∧ Lft w w' b A n c := by
  have HC := Seg.hid hc
  have HL := Seg.hid hcell
  clear hc hcell
  go_enter Try.func97, Try.ntmps97
  go_wp2_with fail
  refine (below_any b A n c m _ HC.out (by omega) (by omega)).mono ?_
  rintro e w1 ⟨⟨x, hx1, hx2, rfl⟩, L1⟩
  obtain ⟨k, rfl⟩ := Int.eq_ofNat_of_zero_le hx1
  have hk : k < m := by omega
  have hck : w1.cell? ⟨g, k, none⟩ = some (.string (f k)) := L1.grown.cell (HL.out k hk) (by simpa using hgb)
  go_wp2_with fail
  go_ret
  exact ⟨⟨k, hk, rfl⟩, L1⟩
end Go.Proofs.Ytdnbcfochlfopaa.Draw
namespace Go.Proofs.Ytdnbcfochlfopaa.DrawB
set_option maxRecDepth 8000
open Go.RowKit
open Draw (Cur Lft Bytes)
set_option linter.unusedVariables false
theorem infoB : (Try.prog.info? 5).map (fun i => (i.zero, i.size, i.bytes)) = some (some (.int .u8 0), 1, 1) := by kernel_rfl

theorem size_any (A : Option Addr) (n c : Nat) (m : Int) (w : World) (hn : n ≤ 1048576) (hm : 2 ≤ m) (hm2 : m ≤ 1000) :
    Calls Try.prog 65 #[.slice A n c, .int .i64 m] w fun e w' => (∃ x : Int, 2 ≤ x ∧ x ≤ m ∧ e = .returned (.int .i64 x)) ∧ w = w' := by
  by_cases h : m < 2 + (n : Int) / 20
  · go_enter Try.func65, Try.ntmps65
    go_wp2
    go_ret
    exact ⟨⟨m, hm, Int.le_refl _, rfl⟩, rfl⟩
  · go_enter Try.func65, Try.ntmps65
    go_wp2
    go_ret
    exact ⟨⟨2 + (n : Int) / 20, by omega, by omega, rfl⟩, rfl⟩

/-- The cursor stays where writes and new blocks lie above the world w. -/
theorem Cur.above {w a d : World} {b : Nat} {A : Option Addr} {n c : Nat} {row : Option Nat} (h0 : Cur w b A n c) (ha : Cur a b A n c) (hg : a.grownBy d row) (hrow : ∀ k, row = some k → w.heap.size ≤ k) : Cur d b A n c := by
  have hb : d.heap[b]? = a.heap[b]? := hg.block b ha.lt (fun e => by have := hrow b e.symm; have := h0.lt; omega)
  have k := fun (j : Nat) => World.cell?_of_block (a := ⟨b, j, none⟩) hb
  have kf := fun (j : Nat) => World.frozen?_of_block (a := ⟨b, j, none⟩) hb
  obtain ⟨i, hi, hci⟩ := ha.i
  obtain ⟨x, hx⟩ := ha.h
  refine ⟨Nat.lt_of_lt_of_le ha.lt hg.size, ha.le, by rw [k]; exact ha.s, ⟨i, hi, by rw [k]; exact hci⟩, ⟨x, by rw [k]; exact hx⟩, by rw [kf]; exact ha.f1, by rw [kf]; exact ha.f2, ?_⟩
  rcases h0.by_ with h | ⟨g, o, h1, h2, h3, h4, h5⟩
  · exact .inl h
  · rcases ha.by_ with h | ⟨g', o', h1', h2', h3', h4', h5'⟩
    · exact .inl h
    · rw [h1] at h1'
      cases h1'
      refine .inr ⟨g, o, h1, h2, Nat.lt_of_lt_of_le h3' hg.size, h4, fun j hj => ?_⟩
      obtain ⟨x, hx, hc⟩ := h5' j hj
      exact ⟨x, hx, hg.cell hc (fun e => by have := hrow g e.symm; omega)⟩
theorem grown_above {w a d : World} {b : Nat} {row : Option Nat} (h : w.grownBy a (some b)) (hg : a.grownBy d row) (hrow : ∀ k, row = some k → w.heap.size ≤ k) : w.grownBy d (some b) :=
  ⟨hg.os.trans h.os, hg.tape.trans h.tape, hg.output.trans h.output, Nat.le_trans h.size hg.size, fun k hk hkb => (hg.block k (Nat.lt_of_lt_of_le hk h.size) (fun e => by have := hrow k e.symm; omega)).trans (h.block k hk hkb)⟩
/-- What a reader of the cursor that also makes memory leaves. -/
theorem Lft.above {w a d : World} {b : Nat} {A : Option Addr} {n c : Nat} {row : Option Nat} (h0 : Cur w b A n c) (h : Lft w a b A n c) (hg : a.grownBy d row) (hrow : ∀ k, row = some k → w.heap.size ≤ k) : Lft w d b A n c :=
  ⟨Cur.above h0 h.cur hg hrow, grown_above h.grown hg hrow⟩
/-- An owned row stays where the cursor's block alone is written. -/
theorem owns_lft {w a : World} {base e : Nat} {v : Value} {k : Nat} {xs : List Value} {b : Nat} (h : w.ownsRow base e 1 v k xs) (hb : b < base) (hg : w.grownBy a (some b)) : a.ownsRow base e 1 v k xs :=
  h.kept hg (by
    by_cases hv : v.ownBlock = none
    · exact .inl hv
    · obtain ⟨j, hj⟩ := Option.ne_none_iff_exists'.1 hv
      right
      intro e
      have := (h.lt j hj).1
      rw [hj] at e
      simp at e
      omega)

/-- The bytes that are gathered so far. -/
structure Gath (w wr : World) (b : Nat) (A : Option Addr) (n c : Nat) (v : Value) (k : Nat) (xs : List Int) : Prop where
  len : xs.length = k
  byt : ∀ x ∈ xs, 0 ≤ x ∧ x < 256
  own : wr.ownsRow w.heap.size 5 1 v k (Seg.B xs)
  lft : Lft w wr b A n c
theorem Gath.lft2 {w wr w2 : World} {b : Nat} {A : Option Addr} {n c : Nat} {v : Value} {k : Nat} {xs : List Int} (h0 : Cur w b A n c) (h : Gath w wr b A n c v k xs) (L : Lft wr w2 b A n c) : Gath w w2 b A n c v k xs :=
  ⟨h.len, h.byt, owns_lft h.own h0.lt L.grown, h.lft.trans L⟩
theorem Gath.push {w wr w1 : World} {b : Nat} {A : Option Addr} {n c : Nat} {v v' : Value} {k : Nat} {xs : List Int} {o : Obj} {y : Int} (h0 : Cur w b A n c) (h : Gath w wr b A n c v k xs) (hy : 0 ≤ y ∧ y < 256)
    (ho : w1.ownsRow w.heap.size 5 1 v' (k + 1) (Seg.B xs ++ [.int .u8 y])) (hg : (wr.alloc o).grownBy w1 v.ownBlock) : Gath w w1 b A n c v' (k + 1) (xs ++ [y]) :=
  ⟨by simp [h.len], fun x hx => by
      rcases List.mem_append.1 hx with hx | hx
      · exact h.byt x hx
      · simp at hx; subst hx; exact hy, by simpa [Seg.B] using ho, Lft.above h0 (Lft.above h0 h.lft (World.grownBy_alloc wr o none) (fun k hk => by cases hk)) hg (fun k hk => (h.own.lt k hk).1)⟩

theorem u8_bd (u : UInt8) : 0 ≤ (u.toNat : Int) ∧ (u.toNat : Int) < 256 := by
  have := u.toNat_lt
  omega

set_option maxRecDepth 4000 in
set_option maxHeartbeats 1600000 in
theorem bytes_any (b : Nat) (A : Option Addr) (n c : Nat) (m : Nat) (w : World) (hc : Cur w b A n c) (hm : m ≤ 100000) :
    Calls Try.prog 98 #[.pointer (some ⟨b, 0, none⟩), .int .i64 m] w fun e w' => (∃ s : ByteArray, s.size = m ∧ e = .returned (.string s)) ∧ Lft w w' b A n c := by
  obtain ⟨i0, hi, hz0, hz1, hz2⟩ := info_parts infoB
  have HC := Seg.hid hc
  clear hc
  go_enter Try.func98, Try.ntmps98
  go_wp2_with fail
  go_loopw [5, 6] (fun v i wr => ∃ (k : Nat) (xs : List Int), k ≤ m ∧ i = .int .i64 k ∧ Gath w wr b A n c v k xs) (fun _ i _ => m - (intOf i).toNat)
  case atStart => exact ⟨0, [], by omega, rfl, rfl, by simp, World.ownsRow_lit w #[] 0 (Nat.le_refl _) (Nat.zero_le _) rfl, Lft.above HC.out (Lft.refl HC.out) (World.grownBy_alloc w _ none) (fun k hk => by cases hk)⟩
  case round =>
    obtain ⟨k, xs, hk, rfl, G⟩ := hrel
    by_cases hlt : k < m
    · go_wp2_with fail
      refine (Draw.below_any b A n c 3 _ G.lft.cur (by decide) (by decide)).mono ?_
      rintro e w2 ⟨⟨x, hx1, hx2, rfl⟩, L2⟩
      have G2 := G.lft2 HC.out L2
      clear G L2
      by_cases e0 : x = 0
      · subst e0
        clear hx1 hx2
        go_wp2_with fail
        refine (Draw.byte_left b A n c _ G2.lft.cur).mono ?_
        rintro e w3 ⟨⟨y, hy, rfl⟩, L3⟩
        have G3 := G2.lft2 HC.out L3
        have hsz := G3.lft.grown.size
        clear G2 L3
        go_wp2_with (at_builtin; refine wpList_append_lies _ rfl _ _ 22 rfl w.heap.size 5 i0 (.int .u8 0) 1 1 Try.underlying22 hi hz0 hz1 hz2 rfl (by decide) _ _ _ rfl (G3.own.alloc _) ⟨w3.heap.size, 0, none⟩ 1 1 [.int .u8 (y : Int)] rfl rfl (cell_one_new _ _ _) (by simp [Value.oneCell']) (by decide) (by unfold maxLen; omega) (by omega) (by simp; omega) (w3.heap.size + 1) (by simp) ?_; intro g cap w4 o4 gr4 at4 lt4)
        have G4 := Seg.hid (G3.push HC.out (y := (y : Int)) (by omega) o4 gr4)
        clear G3 o4 gr4 at4 lt4
        go_wp2
        go_roundw
        case rel => exact ⟨k + 1, _, by omega, by go_num, G4.out⟩
        case measure => simp [intOf]; omega
      by_cases e1 : x = 1
      · subst e1
        clear hx1 hx2 e0
        go_wp2_with fail
        refine (Draw.below_any b A n c 9 _ G2.lft.cur (by decide) (by decide)).mono ?_
        rintro e w3 ⟨⟨y0, hy1, hy2, rfl⟩, L3⟩
        obtain ⟨y, rfl⟩ := Int.eq_ofNat_of_zero_le hy1
        have G3 := G2.lft2 HC.out L3
        have hsz := G3.lft.grown.size
        clear G2 L3
        go_wp2_with (at_builtin; refine wpList_append_lies _ rfl _ _ 22 rfl w.heap.size 5 i0 (.int .u8 0) 1 1 Try.underlying22 hi hz0 hz1 hz2 rfl (by decide) _ _ _ rfl (G3.own.alloc _) ⟨w3.heap.size, 0, none⟩ 1 1 [.int .u8 _] rfl rfl (cell_one_new _ _ _) (by simp [Value.oneCell']) (by decide) (by unfold maxLen; omega) (by omega) (by simp; omega) (w3.heap.size + 1) (by simp) ?_; intro g cap w4 o4 gr4 at4 lt4)
        have G4 := Seg.hid (G3.push HC.out (u8_bd _) o4 gr4)
        clear G3 o4 gr4 at4 lt4
        go_wp2
        go_roundw
        case rel => exact ⟨k + 1, _, by omega, by go_num, G4.out⟩
        case measure => simp [intOf]; omega
      · have b0 : (x == 0) = false := beq_eq_false_iff_ne.2 e0
        have b1 : (x == 1) = false := beq_eq_false_iff_ne.2 e1
        clear e0 e1
        go_wp2_with fail
        refine (Draw.below_any b A n c 4 _ G2.lft.cur (by decide) (by decide)).mono ?_
        rintro e w3 ⟨⟨y, hy1, hy2, rfl⟩, L3⟩
        have G3 := G2.lft2 HC.out L3
        have hsz := G3.lft.grown.size
        clear G2 L3
        go_wp2_with (at_builtin; refine wpList_append_lies _ rfl _ _ 22 rfl w.heap.size 5 i0 (.int .u8 0) 1 1 Try.underlying22 hi hz0 hz1 hz2 rfl (by decide) _ _ _ rfl (G3.own.alloc _) ⟨w3.heap.size, 0, none⟩ 1 1 [.int .u8 (97 + y)] rfl rfl (cell_one_new _ _ _) (by simp [Value.oneCell']) (by decide) (by unfold maxLen; omega) (by omega) (by simp; omega) (w3.heap.size + 1) (by simp) ?_; intro g cap w4 o4 gr4 at4 lt4)
        have G4 := Seg.hid (G3.push HC.out (y := 97 + y) (by omega) o4 gr4)
        clear G3 o4 gr4 at4 lt4
        go_wp2
        go_roundw
        case rel => exact ⟨k + 1, _, by omega, by go_num, G4.out⟩
        case measure => simp [intOf]; omega
    · have HG := Seg.hid G
      have hlen := G.len
      rcases G.own.2 with ⟨hv, hk0⟩ | ⟨g, cap, cur, hv, hb, hg, hnc, hcm, hcs, htake⟩
      · have kc := run_convert_bytes_nil (P := Try.prog) wr 22 5 Try.underlying22 Try.underlying5 0 0 9 Try.underlying9
        clear G
        subst hv
        go_wp2
        go_ret
        exact ⟨⟨ByteArray.empty, by simp; omega, rfl⟩, HG.out.lft⟩
      · have hcell : ∀ i, i < k → wr.cell? ⟨g, 0 + i, none⟩ = some (.int .u8 (xs.getD i 0)) := fun i hi => by
          have ho := G.own
          rw [hv] at ho
          rw [Nat.zero_add]; exact Seg.owns_cell ho i hi
        have kc := run_convert_bytes_arg (P := Try.prog) wr 22 5 Try.underlying22 Try.underlying5 g 0 k cap xs hlen hcell 9 Try.underlying9
        clear G hcell hb hg hnc hcm hcs htake cur
        subst hv
        have hs : Hid ((strOfNums xs).size = m) := (by show _ = _; rw [strOfNums_size]; omega)
        clear hlen
        go_wp2
        go_ret
        exact ⟨⟨strOfNums xs, hs.out, rfl⟩, HG.out.lft⟩
end Go.Proofs.Ytdnbcfochlfopaa.DrawB
