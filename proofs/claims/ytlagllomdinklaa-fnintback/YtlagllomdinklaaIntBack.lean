/- The walk of the law: a drawn number comes back from its groups. -/
import Derived.Test.YtlagllomdinklaaDrawI
import Derived.Test.YtlagllomdinklaaPutI
import Derived.Test.YtlagllomdinklaaGetI
import Derived.Test.YtlagllomdinklaaBack
import Derived.WalkSmall
namespace Go.Proofs.Ytlagllomdinklaa.IntBack
open Go.RowKit
open Draw (Bytes)
set_option linter.unusedVariables false

theorem big_any (A : Option Addr) (n c : Nat) (w : World) (hn : n ≤ 140737488355328) : Calls Try.prog 6 #[.slice A n c] w fun e w' => e = .returned (.bool (decide (1048576 < (n : Int)))) ∧ w = w' := by
  go_enter Try.func6, Try.ntmps6
  go_wp2
  go_ret
  exact ⟨by simp, rfl⟩

/-- What the frame tells of a slice that came in, as the draw wants it. -/
theorem row_bytes (w : World) (a : Option Addr) (len cap : Nat) (zs : List Int)
    (h : (a = none ∧ len = 0 ∧ cap = 0 ∧ zs = []) ∨ ∃ x, a = some x ∧ len ≤ cap ∧ cap ≤ maxLen ∧ zs.length = cap ∧ (∀ i, i < zs.length → w.cell? (x.add i) = some (.int .u8 (zs.getD i 0))) ∧ ∀ n ∈ zs, (Lit.int .u8 n).wf = true)
    (hl : len ≤ 140737488355328) : Bytes w w.heap.size a len cap := by
  obtain ⟨l, h1, h2, h3, h4⟩ := Seg.row_seg w a len cap zs h hl
  by_cases hz : len = 0
  · exact .inl hz
  · obtain ⟨_, h2⟩ := h2
    rcases h2 with ⟨A, c, e, rfl⟩ | ⟨g, o, cap', e, h5, h6, h7⟩
    · exact .inl h1.symm
    · cases e
      refine .inr ⟨g, o, rfl, ?_, ?_, by omega, fun j hj => ?_⟩
      · have := (h4.resolve_left hz) g rfl
        omega
      · exact (h4.resolve_left hz) g rfl
      · have hb := h3 j
        exact ⟨(l.getD j 0).toNat, by omega, by rw [h7 j (by omega), Int.toNat_of_nonneg hb.1]⟩

set_option maxHeartbeats 400000 in
theorem walk_big (A : Option Addr) (n c : Nat) (w : World) (hb : 1048576 < n) :
    Calls Try.prog 3 #[.slice A n c] w fun e w' => e = .returned (.bool true) ∧ Below w.heap.size w w' := by
  go_enter Try.func3, Try.ntmps3
  go_wp2
  go_ret
  exact ⟨rfl, Below.refl _ _⟩

set_option maxRecDepth 4000 in
set_option maxHeartbeats 800000 in
theorem walk (A : Option Addr) (n c : Nat) (w : World) (hn : n ≤ 1048576) (hb : Bytes w w.heap.size A n c) :
    Calls Try.prog 3 #[.slice A n c] w fun e w' => e = .returned (.bool true) ∧ Below w.heap.size w w' := by
  obtain ⟨i0, hi, hz0, hz1, hz2⟩ := info_parts Put.infoB
  have HB := Seg.hid hb
  clear hb
  have hd : decide (1048576 < (n : Int)) = false := decide_eq_false (by omega)
  go_enter Try.func3, Try.ntmps3
  go_wp2_with fail
  refine (big_any A n c _ (by omega)).mono ?_
  rintro e w0 ⟨rfl, rfl⟩
  rw [hd]
  go_wp2_with fail
  refine (DrawI.drawPut_any A n c _ hn HB.out).mono ?_
  rintro e w1 ⟨⟨x, hx, rfl⟩, b1⟩
  have B1 := Seg.hid b1
  clear b1
  go_wp2_with fail
  refine (Put.impl_any x _ hx.lo hx.hi).mono ?_
  rintro e w2 ⟨g, cap, rfl, o2, b2⟩
  have O2 := Seg.hid o2; have B2 := Seg.hid b2
  clear o2 b2
  have hlen := Nums.put_len hx.lo hx.hi
  have hpos := Nums.put_pos x
  have hs1 := B1.out.size
  have hs2 := B2.out.size
  have HL := Seg.hid (World.ownsRow_lit (base := w.heap.size) (e := 5) (size := 1) w2 #[.int .u8 77, .int .u8 200] 2 (by omega) (by unfold maxLen; omega) rfl)
  have HS := Seg.hid ((O2.out.alloc (.cells #[.int .u8 77, .int .u8 200] 5)).cells (g := g) rfl)
  have HR : Hid (Nums.got (Get.getR ([77, 200] ++ Nums.put x ++ [9]) 2) = #[.int .i64 x, .int .i64 (((Nums.put x).length : Int) + 2), .bool true]) := by
    show _ = _
    rw [Get.getR, if_pos (by simp; omega), show (2 : Int).toNat = 2 by rfl, Back.scan_put x hx.lo hx.hi, Nums.got, Back.unf_fold]
    simp; omega
  have HY : Hid (Seg.Byt ([77, 200] ++ Nums.put x ++ [9])) := Seg.byt_of fun y hy => by
    simp only [List.mem_append, List.mem_cons, List.not_mem_nil, or_false] at hy
    rcases hy with ((rfl | rfl) | hy) | rfl
    · decide
    · decide
    · exact Back.digs_byte _ y hy
    · decide
  go_wp2_with (first | (at_builtin; refine wpList_append_lies _ rfl (.tmp 15) (.tmp 16) 22 rfl w.heap.size 5 i0 (.int .u8 0) 1 1 Try.underlying22 hi hz0 hz1 hz2 rfl (by decide) _ _ _ rfl HL.out ⟨g, 0, none⟩ (Nums.put x).length cap (Put.B (Nums.put x)) rfl (by simp [Put.B]) HS.out (by simp [Put.B, Value.oneCell']) hpos (by unfold maxLen; omega) (by omega) (by simp; omega) (w2.heap.size + 1) (by simp) ?_; intro g1 c1 w3 o3 gr3 at3 lt3) | (at_builtin; refine wpList_append_lies _ rfl (.tmp 17) (.tmp 18) 22 rfl w.heap.size 5 i0 (.int .u8 0) 1 1 Try.underlying22 hi hz0 hz1 hz2 rfl (by decide) _ _ _ rfl (o3.alloc _) ⟨w3.heap.size, 0, none⟩ 1 1 [.int .u8 9] rfl rfl (cell_one_new _ _ _) (by simp [Value.oneCell']) (by decide) (by unfold maxLen; omega) (by omega) (by have := gr3.size; simp at this; simp; omega) (w3.heap.size + 1) (by simp) ?_; intro g2 c2 w4 o4 gr4 at4 lt4))
  have HB3 : Hid (Below w.heap.size w w3) := (((B1.out.trans (B2.out.mono hs1)).alloc (by omega) _).grown gr3 (by simp; omega) (fun k hk => (HL.out.lt k hk).1))
  have hs3 := HB3.out.size
  have HB4 : Hid (Below w.heap.size w w4) := ((HB3.out.alloc (by omega) _).grown gr4 (by simp; omega) (fun k hk => (o3.lt k hk).1))
  have O4 : Hid (w4.ownsRow w.heap.size 5 1 (.slice (some ⟨g2, 0, none⟩) (2 + (Nums.put x).length + 1) c2) (2 + (Nums.put x).length + 1) (Seg.B ([77, 200] ++ Nums.put x ++ [9]))) := by
    show World.ownsRow _ _ _ _ _ _ _
    simpa [Seg.B, Put.B] using o4
  clear o3 gr3 at3 lt3 o4 gr4 at4 lt4 HL HS
  refine (Get.impl_any g2 (2 + (Nums.put x).length + 1) c2 _ ([77, 200] ++ Nums.put x ++ [9]) 2 _ (by omega) (by simp; omega) HY.out O4.out).mono ?_
  rintro e w5 ⟨rfl, rfl⟩
  rw [HR.out]
  have hl0 : (0 : Int) < ((Nums.put x).length : Int) := by omega
  go_wp2_with fail
  go_ret
  exact ⟨Seg.ret_bool (decide_eq_true (by omega)), HB4.out⟩

theorem walk_any (A : Option Addr) (len cap : Nat) (zs : List Int) (w : World)
    (h : (A = none ∧ len = 0 ∧ cap = 0 ∧ zs = []) ∨ ∃ x, A = some x ∧ len ≤ cap ∧ cap ≤ maxLen ∧ zs.length = cap ∧ (∀ i, i < zs.length → w.cell? (x.add i) = some (.int .u8 (zs.getD i 0))) ∧ ∀ n ∈ zs, (Lit.int .u8 n).wf = true) :
    Calls Try.prog 3 #[.slice A len cap] w fun e w' => e = .returned (.bool true) ∧ Below w.heap.size w w' := by
  by_cases hb : 1048576 < len
  · exact walk_big A len cap w hb
  · exact walk A len cap w (by omega) (row_bytes w A len cap zs h (by omega))
end Go.Proofs.Ytlagllomdinklaa.IntBack
