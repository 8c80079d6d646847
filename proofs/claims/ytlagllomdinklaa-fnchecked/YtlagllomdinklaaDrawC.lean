/- The bytes that are drawn for a check, and the law's helper. -/
import Derived.Test.YtlagllomdinklaaDrawB
import Derived.WalkSmall
namespace Go.Proofs.Ytlagllomdinklaa.DrawC
open Go.RowKit
open Draw (Cur Lft Bytes)
set_option linter.unusedVariables false

/-- A row of bytes whose spare room may be written. -/
structure Row (w : World) (base g cap : Nat) (l : List Int) : Prop where
  le : l.length ≤ cap
  capm : cap ≤ maxLen
  gb : base ≤ g
  glt : g < w.heap.size
  cell : ∀ i, i < l.length → w.cell? ⟨g, i, none⟩ = some (.int .u8 (l.getD i 0))
  spare : ∀ j, j < cap → (w.cell? ⟨g, j, none⟩).isSome = true ∧ w.frozen? ⟨g, j, none⟩ = false
  byt : ∀ x ∈ l, 0 ≤ x ∧ x < 256

def nums (s : ByteArray) : List Int := s.data.toList.map fun b => (b.toNat : Int)
theorem nums_len (s : ByteArray) : (nums s).length = s.size := by rw [nums, List.length_map, Array.length_toList]; rfl
theorem conv_row (w : World) (e base : Nat) (s : ByteArray) (hb : base ≤ w.heap.size) (hs : s.size ≤ 1000000) : Row (Lib.bytesWorld w e s) base w.heap.size (grownCap w s.size 0 e) (nums s) := by
  have hsz : (Lib.bytesCells w e s).size = grownCap w s.size 0 e := by
    have := grownCap_ge w s.size 0 e
    simp [Lib.bytesCells]
    have h2 : s.data.size = s.size := rfl
    omega
  have hnew := Lib.bytesWorld_at_new w e s
  refine ⟨by rw [nums_len]; exact grownCap_ge w _ _ _, grownCap_le_maxLen w _ _ _ (by unfold maxLen; omega), hb, by rw [Lib.bytesWorld_size]; omega, fun i hi => ?_, fun j hj => ?_, fun x hx => ?_⟩
  · rw [nums_len] at hi
    rw [Lib.bytesWorld_cell w e s i hi]
    have : i < s.data.toList.length := by simpa using hi
    simp [nums, List.getD_eq_getElem?_getD, List.getElem?_eq_getElem this]
  · rw [cell_of_row _ _ j _ _ _ hnew]
    refine ⟨by simp [hsz, hj], ?_⟩
    simp [World.frozen?, hnew, hsz]
    omega
  · simp only [nums, List.mem_map] at hx
    obtain ⟨b, _, rfl⟩ := hx
    exact DrawB.u8_bd b
theorem conv_below (w : World) (e : Nat) (s : ByteArray) : Below w.heap.size w (Lib.bytesWorld w e s) :=
  ⟨rfl, rfl, rfl, by rw [Lib.bytesWorld_size]; omega, fun k hk => Lib.bytesWorld_at_old w e s k hk⟩

set_option maxHeartbeats 800000 in
theorem drawCheck_any (A : Option Addr) (n c : Nat) (w : World) (hn : n ≤ 1048576) (hb : Bytes w w.heap.size A n c) :
    Calls Try.prog 14 #[.slice A n c] w fun e w' => (∃ (g cap : Nat) (l : List Int), l.length ≤ 160 ∧ e = .returned (.slice (some ⟨g, 0, none⟩) l.length cap) ∧ Row w' w.heap.size g cap l) ∧ Below w.heap.size w w' := by
  have HB := Seg.hid hb
  clear hb
  go_enter Try.func14, Try.ntmps14
  go_wp2_with fail
  refine (Draw.new_any A n c _ hn HB.out).mono ?_
  rintro e w1 ⟨h, rfl, rfl⟩
  have C0 := Seg.hid (Draw.cur_new hn HB.out h 60)
  go_wp2_with fail
  refine (DrawB.size_any A n c 40 _ hn (by decide) (by decide)).mono ?_
  rintro e w2 ⟨⟨x, hx1, hx2, rfl⟩, rfl⟩
  go_wp2_with fail
  refine (Draw.below_any w.heap.size A n c (4 * x) _ C0.out (by omega) (by omega)).mono ?_
  rintro e w3 ⟨⟨y0, hy1, hy2, rfl⟩, L3⟩
  obtain ⟨y, rfl⟩ := Int.eq_ofNat_of_zero_le hy1
  go_wp2_with fail
  refine (DrawB.bytes_any w.heap.size A n c y _ L3.cur (by omega)).mono ?_
  rintro e w4 ⟨⟨s, hs, rfl⟩, L4⟩
  have hsz : w.heap.size ≤ w4.heap.size := by have := L3.grown.size; have := L4.grown.size; simp at *; omega
  have HBB : Hid (Below w.heap.size w w4) := ((Below.refl _ _).alloc (Nat.le_refl _) _).grown (L3.grown.trans L4.grown) (by simp) (fun k hk => by cases hk; exact Nat.le_refl _)
  have kc := Lib.run_convert_string_bytes (P := Try.prog) w4 9 22 5 s Try.underlying9 Try.underlying22 Try.underlying5
  have HR := Seg.hid (conv_row w4 5 w.heap.size s hsz (by omega))
  have HW := Seg.hid (HBB.out.trans ((conv_below w4 5 s).mono hsz))
  have HN := Seg.hid (nums_len s)
  have HS := Seg.hid hs
  clear L3 L4 C0 hs
  revert kc HR HW
  generalize Lib.bytesWorld w4 5 s = W
  generalize grownCap w4 s.size 0 5 = cap
  intro kc HR HW
  go_wp2
  go_ret
  exact ⟨⟨w4.heap.size, cap, nums s, by rw [HN.out, HS.out]; omega, by rw [HN.out]; rfl, HR.out⟩, HW.out⟩

set_option maxHeartbeats 400000 in
theorem at_any (A : Option Addr) (n c b : Nat) (i : Nat) (w : World) (hn : n ≤ 1048576) (hb : Bytes w b A n c) (hi : i ≤ 1000) :
    Calls Try.prog 15 #[.slice A n c, .int .i64 i] w fun e w' => (∃ x : Nat, x < 256 ∧ e = .returned (.int .i64 x)) ∧ w = w' := by
  by_cases hlt : i < n
  · obtain ⟨g, o, rfl, hgb, hgl, hnc, hby⟩ := hb.resolve_left (by omega)
    obtain ⟨x, hx, hcx⟩ := hby i hlt
    clear hby hb
    go_enter Try.func15, Try.ntmps15
    go_wp2
    go_ret
    exact ⟨⟨x, hx, rfl⟩, rfl⟩
  · clear hb
    go_enter Try.func15, Try.ntmps15
    go_wp2
    go_ret
    exact ⟨⟨(i * 7 + n) % 256, Nat.mod_lt _ (by decide), Seg.ret_int (by omega)⟩, rfl⟩
end Go.Proofs.Ytlagllomdinklaa.DrawC
