/- What foldSign answers: the sign folded into the lowest bit; What PutInt of the program answers: the groups of the number, in memory of its own. -/
import Derived.WalkKit
import Derived.Outline
import Derived.Deep.AppendLies
import Derived.Maps.AppendAt
import Derived.Laws.OwnMore
import Derived.Test.YtbihajcikleccaaRows
import Derived.Test.YtbihajcikleccaaJI08
namespace Go.Proofs.Ytbihajcikleccaa.Fold
set_option maxRecDepth 8000
open Go.RowKit
theorem hid {p : Prop} (h : p) : Hid p := h
theorem ret_int {k : IntKind} {a b : Int} (h : a = b) : Ending.returned (.int k a) = .returned (.int k b) := by rw [h]
theorem foldSign_any (n : Int) (w : World) (h0 : -9223372036854775808 ≤ n) (h1 : n ≤ 9223372036854775807) :
    Calls Try.prog 96 #[.int .i64 n] w fun e w' => e = .returned (.int .u64 (Nums.fold n)) ∧ w = w' := by
  by_cases hn : n < 0
  · have HF : Hid (bits .xor .u64 IntKind.u64.max (IntKind.u64.wrap (IntKind.u64.wrap n * 2)) = ((Nums.fold n : Nat) : Int)) := Nums.neg_fold n h0 hn
    go_enter Try.func96, Try.ntmps96
    go_wp2
    go_ret
    exact ⟨ret_int HF.out, rfl⟩
  · have HF : Hid (n * 2 = ((Nums.fold n : Nat) : Int)) := Nums.pos_fold n (by omega)
    go_enter Try.func96, Try.ntmps96
    go_wp2
    go_ret
    exact ⟨ret_int HF.out, rfl⟩
end Go.Proofs.Ytbihajcikleccaa.Fold
namespace Go.Proofs.Ytbihajcikleccaa.Put
set_option maxRecDepth 8000
open Go.RowKit
theorem infoB : (Try.prog.info? 5).map (fun i => (i.zero, i.size, i.bytes)) = some (some (.int .u8 0), 1, 1) := by kernel_rfl
def B (l : List Int) : List Value := l.map (Value.int .u8)

set_option maxHeartbeats 400000 in
theorem impl_any (n : Int) (w : World) (h0 : -9223372036854775808 ≤ n) (h1 : n ≤ 9223372036854775807) :
    Calls Try.prog 89 #[.int .i64 n] w fun e w' => ∃ g cap, e = .returned (.slice (some ⟨g, 0, none⟩) (Nums.put n).length cap) ∧
      w'.ownsRow w.heap.size 5 1 (.slice (some ⟨g, 0, none⟩) (Nums.put n).length cap) (Nums.put n).length (B (Nums.put n)) ∧ Below w.heap.size w w' := by
  obtain ⟨i0, hi, hz0, hz1, hz2⟩ := info_parts infoB
  go_enter Try.func89, Try.ntmps89
  go_wp2_with (go_at_call 96; refine (Fold.foldSign_any n _ h0 h1).mono ?_; rintro e w' ⟨rfl, rfl⟩)
  go_loopw [3, 4] (fun u v wr => ∃ (m : Nat) (xs : List Int), m < 18446744073709551616 ∧ u = .int .u64 m ∧ wr.ownsRow w.heap.size 5 1 v xs.length (B xs) ∧ Below w.heap.size w wr ∧ Hid (xs ++ Nums.digs m = Nums.put n)) (fun u _ _ => (intOf u).toNat)
  case atStart => exact ⟨Nums.fold n, [], Nums.fold_lt h0 h1, rfl, World.ownsRow_lit w #[] 0 (Nat.le_refl _) (Nat.zero_le _) rfl, (Below.refl _ _).alloc (Nat.le_refl _) _, rfl⟩
  case round =>
    obtain ⟨m, xs, hm, rfl, hown, hbel, HX⟩ := hrel
    have hsz := hbel.size
    have hlen : xs.length + (Nums.digs m).length ≤ 10 := by
      have := Nums.put_len h0 h1
      rw [← HX.out] at this
      simpa using this
    by_cases hlt : m < 128
    · rw [Nums.digs_lt hlt] at HX
      go_wp2_with (at_builtin; refine wpList_append_lies _ rfl _ _ 82 rfl w.heap.size 5 i0 (.int .u8 0) 1 1 Try.underlying82 hi hz0 hz1 hz2 rfl (by decide) _ _ _ rfl (hown.alloc _) ⟨wr.heap.size, 0, none⟩ 1 1 [.int .u8 (m : Int)] rfl rfl (cell_one_new _ _ _) (by simp [Value.oneCell']) (by decide) (by unfold maxLen; omega) (by omega) (by simp; omega) (wr.heap.size + 1) (by simp) ?_; intro g cap w1 hown1 hgrow hat hlt1)
      have HB : Hid (Below w.heap.size w w1) := (hbel.alloc (by omega) _).grown hgrow (by simp; omega) (fun k hk => (hown.lt k hk).1)
      have hp : Hid ((Nums.put n).length = xs.length + 1) := (by show _ = _; rw [← HX.out]; simp)
      have ho : Hid (w1.ownsRow w.heap.size 5 1 (.slice (some ⟨g, 0, none⟩) (xs.length + 1) cap) (xs.length + 1) (B (Nums.put n))) := Fold.hid (by rw [← HX.out]; simpa [B] using hown1)
      clear hown hown1 hgrow hat hbel
      go_wp2
      go_ret
      exact ⟨g, cap, by rw [hp.out]; rfl, by rw [hp.out]; exact ho.out, HB.out⟩
    · rw [Nums.digs_ge hlt] at HX hlen
      simp only [List.length_cons] at hlen
      have e1 := Nums.u64_and127 (m : Int) (by omega) (by omega)
      have e2 := Nums.u8_orr128 ((m : Int) % 128) (by omega) (by omega)
      go_wp2_with (at_builtin; refine wpList_append_lies _ rfl _ _ 82 rfl w.heap.size 5 i0 (.int .u8 0) 1 1 Try.underlying82 hi hz0 hz1 hz2 rfl (by decide) _ _ _ rfl (hown.alloc _) ⟨wr.heap.size, 0, none⟩ 1 1 [.int .u8 ((m : Int) % 128 + 128)] rfl rfl (cell_one_new _ _ _) (by simp [Value.oneCell']) (by decide) (by unfold maxLen; omega) (by omega) (by simp; omega) (wr.heap.size + 1) (by simp) ?_; intro g cap w1 hown1 hgrow hat hlt1)
      have HB : Hid (Below w.heap.size w w1) := (hbel.alloc (by omega) _).grown hgrow (by simp; omega) (fun k hk => (hown.lt k hk).1)
      have ho : Hid (w1.ownsRow w.heap.size 5 1 (.slice (some ⟨g, 0, none⟩) (xs.length + 1) cap) (xs ++ [((m % 128 + 128 : Nat) : Int)]).length (B (xs ++ [((m % 128 + 128 : Nat) : Int)]))) := Fold.hid (by simpa [B] using hown1)
      clear hown hown1 hgrow hat hbel
      go_wp2
      go_roundw
      case rel => exact ⟨m / 128, xs ++ [((m % 128 + 128 : Nat) : Int)], by omega, by go_num, ho.out, HB.out, (by show _ = _; rw [← HX.out]; simp)⟩
      case measure => simp [intOf]; omega

set_option maxHeartbeats 400000 in
theorem spec_any (n : Int) (w : World) (h0 : -9223372036854775808 ≤ n) (h1 : n ≤ 9223372036854775807) :
    Calls Try.prog 66 #[.int .i64 n] w fun e w' => ∃ g cap, e = .returned (.slice (some ⟨g, 0, none⟩) (Nums.put n).length cap) ∧
      w'.ownsRow w.heap.size 5 1 (.slice (some ⟨g, 0, none⟩) (Nums.put n).length cap) (Nums.put n).length (B (Nums.put n)) ∧ Below w.heap.size w w' := by
  obtain ⟨i0, hi, hz0, hz1, hz2⟩ := info_parts infoB
  by_cases hn : n < 0
  · have HF : Hid (-(n + 1) * 2 + 1 = ((Nums.fold n : Nat) : Int)) := (by show _ = _; rw [Nums.fold_neg hn]; omega)
    go_enter Try.func66, Try.ntmps66
    go_wp2
    go_loopw [3, 4] (fun u v wr => ∃ (m : Nat) (xs : List Int), m < 18446744073709551616 ∧ u = .int .u64 m ∧ wr.ownsRow w.heap.size 5 1 v xs.length (B xs) ∧ Below w.heap.size w wr ∧ Hid (xs ++ Nums.digs m = Nums.put n)) (fun u _ _ => (intOf u).toNat)
    case atStart => exact ⟨Nums.fold n, [], Nums.fold_lt h0 h1, congrArg (Value.int .u64) HF.out, World.ownsRow_lit w #[] 0 (Nat.le_refl _) (Nat.zero_le _) rfl, (Below.refl _ _).alloc (Nat.le_refl _) _, rfl⟩
    case round =>
      obtain ⟨m, xs, hm, rfl, hown, hbel, HX⟩ := hrel
      have hsz := hbel.size
      have hlen : xs.length + (Nums.digs m).length ≤ 10 := by
        have := Nums.put_len h0 h1
        rw [← HX.out] at this
        simpa using this
      by_cases hlt : m < 128
      · rw [Nums.digs_lt hlt] at HX
        go_wp2_with (at_builtin; refine wpList_append_lies _ rfl _ _ 82 rfl w.heap.size 5 i0 (.int .u8 0) 1 1 Try.underlying82 hi hz0 hz1 hz2 rfl (by decide) _ _ _ rfl (hown.alloc _) ⟨wr.heap.size, 0, none⟩ 1 1 [.int .u8 (m : Int)] rfl rfl (cell_one_new _ _ _) (by simp [Value.oneCell']) (by decide) (by unfold maxLen; omega) (by omega) (by simp; omega) (wr.heap.size + 1) (by simp) ?_; intro g cap w1 hown1 hgrow hat hlt1)
        have HB : Hid (Below w.heap.size w w1) := (hbel.alloc (by omega) _).grown hgrow (by simp; omega) (fun k hk => (hown.lt k hk).1)
        have hp : Hid ((Nums.put n).length = xs.length + 1) := (by show _ = _; rw [← HX.out]; simp)
        have ho : Hid (w1.ownsRow w.heap.size 5 1 (.slice (some ⟨g, 0, none⟩) (xs.length + 1) cap) (xs.length + 1) (B (Nums.put n))) := Fold.hid (by rw [← HX.out]; simpa [B] using hown1)
        clear hown hown1 hgrow hat hbel
        go_wp2
        go_ret
        exact ⟨g, cap, by rw [hp.out]; rfl, by rw [hp.out]; exact ho.out, HB.out⟩
      · rw [Nums.digs_ge hlt] at HX hlen
        simp only [List.length_cons] at hlen
        go_wp2_with (at_builtin; refine wpList_append_lies _ rfl _ _ 82 rfl w.heap.size 5 i0 (.int .u8 0) 1 1 Try.underlying82 hi hz0 hz1 hz2 rfl (by decide) _ _ _ rfl (hown.alloc _) ⟨wr.heap.size, 0, none⟩ 1 1 [.int .u8 ((m : Int) % 128 + 128)] rfl rfl (cell_one_new _ _ _) (by simp [Value.oneCell']) (by decide) (by unfold maxLen; omega) (by omega) (by simp; omega) (wr.heap.size + 1) (by simp) ?_; intro g cap w1 hown1 hgrow hat hlt1)
        have HB : Hid (Below w.heap.size w w1) := (hbel.alloc (by omega) _).grown hgrow (by simp; omega) (fun k hk => (hown.lt k hk).1)
        have ho : Hid (w1.ownsRow w.heap.size 5 1 (.slice (some ⟨g, 0, none⟩) (xs.length + 1) cap) (xs ++ [((m % 128 + 128 : Nat) : Int)]).length (B (xs ++ [((m % 128 + 128 : Nat) : Int)]))) := Fold.hid (by simpa [B] using hown1)
        clear hown hown1 hgrow hat hbel
        go_wp2
        go_roundw
        case rel => exact ⟨m / 128, xs ++ [((m % 128 + 128 : Nat) : Int)], by omega, by go_num, ho.out, HB.out, (by show _ = _; rw [← HX.out]; simp)⟩
        case measure => simp [intOf]; omega
  · have HF : Hid (n * 2 = ((Nums.fold n : Nat) : Int)) := Nums.pos_fold n (by omega)
    go_enter Try.func66, Try.ntmps66
    go_wp2
    go_loopw [3, 4] (fun u v wr => ∃ (m : Nat) (xs : List Int), m < 18446744073709551616 ∧ u = .int .u64 m ∧ wr.ownsRow w.heap.size 5 1 v xs.length (B xs) ∧ Below w.heap.size w wr ∧ Hid (xs ++ Nums.digs m = Nums.put n)) (fun u _ _ => (intOf u).toNat)
    case atStart => exact ⟨Nums.fold n, [], Nums.fold_lt h0 h1, congrArg (Value.int .u64) HF.out, World.ownsRow_lit w #[] 0 (Nat.le_refl _) (Nat.zero_le _) rfl, (Below.refl _ _).alloc (Nat.le_refl _) _, rfl⟩
    case round =>
      obtain ⟨m, xs, hm, rfl, hown, hbel, HX⟩ := hrel
      have hsz := hbel.size
      have hlen : xs.length + (Nums.digs m).length ≤ 10 := by
        have := Nums.put_len h0 h1
        rw [← HX.out] at this
        simpa using this
      by_cases hlt : m < 128
      · rw [Nums.digs_lt hlt] at HX
        go_wp2_with (at_builtin; refine wpList_append_lies _ rfl _ _ 82 rfl w.heap.size 5 i0 (.int .u8 0) 1 1 Try.underlying82 hi hz0 hz1 hz2 rfl (by decide) _ _ _ rfl (hown.alloc _) ⟨wr.heap.size, 0, none⟩ 1 1 [.int .u8 (m : Int)] rfl rfl (cell_one_new _ _ _) (by simp [Value.oneCell']) (by decide) (by unfold maxLen; omega) (by omega) (by simp; omega) (wr.heap.size + 1) (by simp) ?_; intro g cap w1 hown1 hgrow hat hlt1)
        have HB : Hid (Below w.heap.size w w1) := (hbel.alloc (by omega) _).grown hgrow (by simp; omega) (fun k hk => (hown.lt k hk).1)
        have hp : Hid ((Nums.put n).length = xs.length + 1) := (by show _ = _; rw [← HX.out]; simp)
        have ho : Hid (w1.ownsRow w.heap.size 5 1 (.slice (some ⟨g, 0, none⟩) (xs.length + 1) cap) (xs.length + 1) (B (Nums.put n))) := Fold.hid (by rw [← HX.out]; simpa [B] using hown1)
        clear hown hown1 hgrow hat hbel
        go_wp2
        go_ret
        exact ⟨g, cap, by rw [hp.out]; rfl, by rw [hp.out]; exact ho.out, HB.out⟩
      · rw [Nums.digs_ge hlt] at HX hlen
        simp only [List.length_cons] at hlen
        go_wp2_with (at_builtin; refine wpList_append_lies _ rfl _ _ 82 rfl w.heap.size 5 i0 (.int .u8 0) 1 1 Try.underlying82 hi hz0 hz1 hz2 rfl (by decide) _ _ _ rfl (hown.alloc _) ⟨wr.heap.size, 0, none⟩ 1 1 [.int .u8 ((m : Int) % 128 + 128)] rfl rfl (cell_one_new _ _ _) (by simp [Value.oneCell']) (by decide) (by unfold maxLen; omega) (by omega) (by simp; omega) (wr.heap.size + 1) (by simp) ?_; intro g cap w1 hown1 hgrow hat hlt1)
        have HB : Hid (Below w.heap.size w w1) := (hbel.alloc (by omega) _).grown hgrow (by simp; omega) (fun k hk => (hown.lt k hk).1)
        have ho : Hid (w1.ownsRow w.heap.size 5 1 (.slice (some ⟨g, 0, none⟩) (xs.length + 1) cap) (xs ++ [((m % 128 + 128 : Nat) : Int)]).length (B (xs ++ [((m % 128 + 128 : Nat) : Int)]))) := Fold.hid (by simpa [B] using hown1)
        clear hown hown1 hgrow hat hbel
        go_wp2
        go_roundw
        case rel => exact ⟨m / 128, xs ++ [((m % 128 + 128 : Nat) : Int)], by omega, by go_num, ho.out, HB.out, (by show _ = _; rw [← HX.out]; simp)⟩
        case measure => simp [intOf]; omega
end Go.Proofs.Ytbihajcikleccaa.Put
