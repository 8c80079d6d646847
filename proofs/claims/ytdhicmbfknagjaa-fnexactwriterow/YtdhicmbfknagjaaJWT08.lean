/- What PutInt of the program answers: the groups of the number, in memory of its own; putPlain of the program. -/
import Derived.Deep.AppendLies
import Derived.Maps.AppendAt
import Derived.Laws.OwnMore
import Derived.Test.YtdhicmbfknagjaaJWT07
import Derived.Test.YtdhicmbfknagjaaJWT03
namespace Go.Proofs.Ytdhicmbfknagjaa.Put
set_option maxRecDepth 8000
open Go.RowKit
theorem infoB : (Try.prog.info? 5).map (fun i => (i.zero, i.size, i.bytes)) = some (some (.int .u8 0), 1, 1) := by kernel_rfl
def B (l : List Int) : List Value := l.map (Value.int .u8)

set_option maxHeartbeats 400000 in
theorem impl_any (n : Int) (w : World) (h0 : -9223372036854775808 ≤ n) (h1 : n ≤ 9223372036854775807) :
    Calls Try.prog 59 #[.int .i64 n] w fun e w' => ∃ g cap, e = .returned (.slice (some ⟨g, 0, none⟩) (Nums.put n).length cap) ∧
      w'.ownsRow w.heap.size 5 1 (.slice (some ⟨g, 0, none⟩) (Nums.put n).length cap) (Nums.put n).length (B (Nums.put n)) ∧ Below w.heap.size w w' := by
  obtain ⟨i0, hi, hz0, hz1, hz2⟩ := info_parts infoB
  go_enter Try.func59, Try.ntmps59
  go_wp2_with (go_at_call 97; refine (Fold.foldSign_any n _ h0 h1).mono ?_; rintro e w' ⟨rfl, rfl⟩)
  go_loopw [3, 4] (fun u v wr => ∃ (m : Nat) (xs : List Int), m < 18446744073709551616 ∧ u = .int .u64 m ∧ wr.ownsRow w.heap.size 5 1 v xs.length (B xs) ∧ Below w.heap.size w wr ∧ Hid (xs ++ Nums.digs m = Nums.put n)) (fun u _ _ => (intOf u).toNat)
  case atStart => exact ⟨Nums.fold n, [], Nums.fold_lt h0 h1, rfl, World.ownsRow_lit w #[] 0 (Nat.le_refl _) (Nat.zero_le _) rfl, (Below.refl _ _).alloc (Nat.le_refl _) _, rfl⟩
  case round =>
    obtain ⟨m, xs, hm, rfl, hown, hbel, HX⟩ := hrel
    have hsz := hbel.size
    have hlen : xs.length + (Nums.digs m).length ≤ 10 := by
      have := Nums.put_len h0 h1
      rw [← HX.out] at this
      simpa using this
    by_cases hlt : m < 128
    · rw [Nums.digs_lt hlt] at HX
      go_wp2_with (at_builtin; refine wpList_append_lies _ rfl _ _ 52 rfl w.heap.size 5 i0 (.int .u8 0) 1 1 Try.underlying52 hi hz0 hz1 hz2 rfl (by decide) _ _ _ rfl (hown.alloc _) ⟨wr.heap.size, 0, none⟩ 1 1 [.int .u8 (m : Int)] rfl rfl (cell_one_new _ _ _) (by simp [Value.oneCell']) (by decide) (by unfold maxLen; omega) (by omega) (by simp; omega) (wr.heap.size + 1) (by simp) ?_; intro g cap w1 hown1 hgrow hat hlt1)
      have HB : Hid (Below w.heap.size w w1) := (hbel.alloc (by omega) _).grown hgrow (by simp; omega) (fun k hk => (hown.lt k hk).1)
      have hp : Hid ((Nums.put n).length = xs.length + 1) := (by show _ = _; rw [← HX.out]; simp)
      have ho : Hid (w1.ownsRow w.heap.size 5 1 (.slice (some ⟨g, 0, none⟩) (xs.length + 1) cap) (xs.length + 1) (B (Nums.put n))) := Fold.hid (by rw [← HX.out]; simpa [B] using hown1)
      clear hown hown1 hgrow hat hbel
      go_wp2
      go_ret
      exact ⟨g, cap, by rw [hp.out]; rfl, by rw [hp.out]; exact ho.out, HB.out⟩
    · rw [Nums.digs_ge hlt] at HX hlen
      simp only [List.length_cons] at hlen
      have e1 := Nums.u64_and127 (m : Int) (by omega) (by omega)
      have e2 := Nums.u8_orr128 ((m : Int) % 128) (by omega) (by omega)
      go_wp2_with (at_builtin; refine wpList_append_lies _ rfl _ _ 52 rfl w.heap.size 5 i0 (.int .u8 0) 1 1 Try.underlying52 hi hz0 hz1 hz2 rfl (by decide) _ _ _ rfl (hown.alloc _) ⟨wr.heap.size, 0, none⟩ 1 1 [.int .u8 ((m : Int) % 128 + 128)] rfl rfl (cell_one_new _ _ _) (by simp [Value.oneCell']) (by decide) (by unfold maxLen; omega) (by omega) (by simp; omega) (wr.heap.size + 1) (by simp) ?_; intro g cap w1 hown1 hgrow hat hlt1)
      have HB : Hid (Below w.heap.size w w1) := (hbel.alloc (by omega) _).grown hgrow (by simp; omega) (fun k hk => (hown.lt k hk).1)
      have ho : Hid (w1.ownsRow w.heap.size 5 1 (.slice (some ⟨g, 0, none⟩) (xs.length + 1) cap) (xs ++ [((m % 128 + 128 : Nat) : Int)]).length (B (xs ++ [((m % 128 + 128 : Nat) : Int)]))) := Fold.hid (by simpa [B] using hown1)
      clear hown hown1 hgrow hat hbel
      go_wp2
      go_roundw
      case rel => exact ⟨m / 128, xs ++ [((m % 128 + 128 : Nat) : Int)], by omega, by go_num, ho.out, HB.out, (by show _ = _; rw [← HX.out]; simp)⟩
      case measure => simp [intOf]; omega

set_option maxHeartbeats 400000 in
theorem spec_any (n : Int) (w : World) (h0 : -9223372036854775808 ≤ n) (h1 : n ≤ 9223372036854775807) :
    Calls Try.prog 55 #[.int .i64 n] w fun e w' => ∃ g cap, e = .returned (.slice (some ⟨g, 0, none⟩) (Nums.put n).length cap) ∧
      w'.ownsRow w.heap.size 5 1 (.slice (some ⟨g, 0, none⟩) (Nums.put n).length cap) (Nums.put n).length (B (Nums.put n)) ∧ Below w.heap.size w w' := by
  obtain ⟨i0, hi, hz0, hz1, hz2⟩ := info_parts infoB
  by_cases hn : n < 0
  · have HF : Hid (-(n + 1) * 2 + 1 = ((Nums.fold n : Nat) : Int)) := (by show _ = _; rw [Nums.fold_neg hn]; omega)
    go_enter Try.func55, Try.ntmps55
    go_wp2
    go_loopw [3, 4] (fun u v wr => ∃ (m : Nat) (xs : List Int), m < 18446744073709551616 ∧ u = .int .u64 m ∧ wr.ownsRow w.heap.size 5 1 v xs.length (B xs) ∧ Below w.heap.size w wr ∧ Hid (xs ++ Nums.digs m = Nums.put n)) (fun u _ _ => (intOf u).toNat)
    case atStart => exact ⟨Nums.fold n, [], Nums.fold_lt h0 h1, congrArg (Value.int .u64) HF.out, World.ownsRow_lit w #[] 0 (Nat.le_refl _) (Nat.zero_le _) rfl, (Below.refl _ _).alloc (Nat.le_refl _) _, rfl⟩
    case round =>
      obtain ⟨m, xs, hm, rfl, hown, hbel, HX⟩ := hrel
      have hsz := hbel.size
      have hlen : xs.length + (Nums.digs m).length ≤ 10 := by
        have := Nums.put_len h0 h1
        rw [← HX.out] at this
        simpa using this
      by_cases hlt : m < 128
      · rw [Nums.digs_lt hlt] at HX
        go_wp2_with (at_builtin; refine wpList_append_lies _ rfl _ _ 52 rfl w.heap.size 5 i0 (.int .u8 0) 1 1 Try.underlying52 hi hz0 hz1 hz2 rfl (by decide) _ _ _ rfl (hown.alloc _) ⟨wr.heap.size, 0, none⟩ 1 1 [.int .u8 (m : Int)] rfl rfl (cell_one_new _ _ _) (by simp [Value.oneCell']) (by decide) (by unfold maxLen; omega) (by omega) (by simp; omega) (wr.heap.size + 1) (by simp) ?_; intro g cap w1 hown1 hgrow hat hlt1)
        have HB : Hid (Below w.heap.size w w1) := (hbel.alloc (by omega) _).grown hgrow (by simp; omega) (fun k hk => (hown.lt k hk).1)
        have hp : Hid ((Nums.put n).length = xs.length + 1) := (by show _ = _; rw [← HX.out]; simp)
        have ho : Hid (w1.ownsRow w.heap.size 5 1 (.slice (some ⟨g, 0, none⟩) (xs.length + 1) cap) (xs.length + 1) (B (Nums.put n))) := Fold.hid (by rw [← HX.out]; simpa [B] using hown1)
        clear hown hown1 hgrow hat hbel
        go_wp2
        go_ret
        exact ⟨g, cap, by rw [hp.out]; rfl, by rw [hp.out]; exact ho.out, HB.out⟩
      · rw [Nums.digs_ge hlt] at HX hlen
        simp only [List.length_cons] at hlen
        go_wp2_with (at_builtin; refine wpList_append_lies _ rfl _ _ 52 rfl w.heap.size 5 i0 (.int .u8 0) 1 1 Try.underlying52 hi hz0 hz1 hz2 rfl (by decide) _ _ _ rfl (hown.alloc _) ⟨wr.heap.size, 0, none⟩ 1 1 [.int .u8 ((m : Int) % 128 + 128)] rfl rfl (cell_one_new _ _ _) (by simp [Value.oneCell']) (by decide) (by unfold maxLen; omega) (by omega) (by simp; omega) (wr.heap.size + 1) (by simp) ?_; intro g cap w1 hown1 hgrow hat hlt1)
        have HB : Hid (Below w.heap.size w w1) := (hbel.alloc (by omega) _).grown hgrow (by simp; omega) (fun k hk => (hown.lt k hk).1)
        have ho : Hid (w1.ownsRow w.heap.size 5 1 (.slice (some ⟨g, 0, none⟩) (xs.length + 1) cap) (xs ++ [((m % 128 + 128 : Nat) : Int)]).length (B (xs ++ [((m % 128 + 128 : Nat) : Int)]))) := Fold.hid (by simpa [B] using hown1)
        clear hown hown1 hgrow hat hbel
        go_wp2
        go_roundw
        case rel => exact ⟨m / 128, xs ++ [((m % 128 + 128 : Nat) : Int)], by omega, by go_num, ho.out, HB.out, (by show _ = _; rw [← HX.out]; simp)⟩
        case measure => simp [intOf]; omega
  · have HF : Hid (n * 2 = ((Nums.fold n : Nat) : Int)) := Nums.pos_fold n (by omega)
    go_enter Try.func55, Try.ntmps55
    go_wp2
    go_loopw [3, 4] (fun u v wr => ∃ (m : Nat) (xs : List Int), m < 18446744073709551616 ∧ u = .int .u64 m ∧ wr.ownsRow w.heap.size 5 1 v xs.length (B xs) ∧ Below w.heap.size w wr ∧ Hid (xs ++ Nums.digs m = Nums.put n)) (fun u _ _ => (intOf u).toNat)
    case atStart => exact ⟨Nums.fold n, [], Nums.fold_lt h0 h1, congrArg (Value.int .u64) HF.out, World.ownsRow_lit w #[] 0 (Nat.le_refl _) (Nat.zero_le _) rfl, (Below.refl _ _).alloc (Nat.le_refl _) _, rfl⟩
    case round =>
      obtain ⟨m, xs, hm, rfl, hown, hbel, HX⟩ := hrel
      have hsz := hbel.size
      have hlen : xs.length + (Nums.digs m).length ≤ 10 := by
        have := Nums.put_len h0 h1
        rw [← HX.out] at this
        simpa using this
      by_cases hlt : m < 128
      · rw [Nums.digs_lt hlt] at HX
        go_wp2_with (at_builtin; refine wpList_append_lies _ rfl _ _ 52 rfl w.heap.size 5 i0 (.int .u8 0) 1 1 Try.underlying52 hi hz0 hz1 hz2 rfl (by decide) _ _ _ rfl (hown.alloc _) ⟨wr.heap.size, 0, none⟩ 1 1 [.int .u8 (m : Int)] rfl rfl (cell_one_new _ _ _) (by simp [Value.oneCell']) (by decide) (by unfold maxLen; omega) (by omega) (by simp; omega) (wr.heap.size + 1) (by simp) ?_; intro g cap w1 hown1 hgrow hat hlt1)
        have HB : Hid (Below w.heap.size w w1) := (hbel.alloc (by omega) _).grown hgrow (by simp; omega) (fun k hk => (hown.lt k hk).1)
        have hp : Hid ((Nums.put n).length = xs.length + 1) := (by show _ = _; rw [← HX.out]; simp)
        have ho : Hid (w1.ownsRow w.heap.size 5 1 (.slice (some ⟨g, 0, none⟩) (xs.length + 1) cap) (xs.length + 1) (B (Nums.put n))) := Fold.hid (by rw [← HX.out]; simpa [B] using hown1)
        clear hown hown1 hgrow hat hbel
        go_wp2
        go_ret
        exact ⟨g, cap, by rw [hp.out]; rfl, by rw [hp.out]; exact ho.out, HB.out⟩
      · rw [Nums.digs_ge hlt] at HX hlen
        simp only [List.length_cons] at hlen
        go_wp2_with (at_builtin; refine wpList_append_lies _ rfl _ _ 52 rfl w.heap.size 5 i0 (.int .u8 0) 1 1 Try.underlying52 hi hz0 hz1 hz2 rfl (by decide) _ _ _ rfl (hown.alloc _) ⟨wr.heap.size, 0, none⟩ 1 1 [.int .u8 ((m : Int) % 128 + 128)] rfl rfl (cell_one_new _ _ _) (by simp [Value.oneCell']) (by decide) (by unfold maxLen; omega) (by omega) (by simp; omega) (wr.heap.size + 1) (by simp) ?_; intro g cap w1 hown1 hgrow hat hlt1)
        have HB : Hid (Below w.heap.size w w1) := (hbel.alloc (by omega) _).grown hgrow (by simp; omega) (fun k hk => (hown.lt k hk).1)
        have ho : Hid (w1.ownsRow w.heap.size 5 1 (.slice (some ⟨g, 0, none⟩) (xs.length + 1) cap) (xs ++ [((m % 128 + 128 : Nat) : Int)]).length (B (xs ++ [((m % 128 + 128 : Nat) : Int)]))) := Fold.hid (by simpa [B] using hown1)
        clear hown hown1 hgrow hat hbel
        go_wp2
        go_roundw
        case rel => exact ⟨m / 128, xs ++ [((m % 128 + 128 : Nat) : Int)], by omega, by go_num, ho.out, HB.out, (by show _ = _; rw [← HX.out]; simp)⟩
        case measure => simp [intOf]; omega
end Go.Proofs.Ytdhicmbfknagjaa.Put
namespace Go.Proofs.Ytdhicmbfknagjaa.SqP
set_option maxRecDepth 8000
open Go.RowKit
open Seg (B)
set_option linter.unusedVariables false

/-- The plain bytes from the i-th on are still to be put. -/
structure Put (w wr : World) (g base gb o m : Nat) (l out : List Int) (i : Nat) (v p : Value) (cur : List Int) : Prop where
  le : i ≤ m
  pl : ∃ A c, p = .slice A (m - i) c ∧ (i < m → A = some ⟨gb, o + i, none⟩ ∧ m - i ≤ c)
  ou : ∃ g' cap, v = .slice (some ⟨g', 0, none⟩) cur.length cap ∧ Out wr base g' cap cur ∧ (g' = g ∨ w.heap.size ≤ g')
  eq : cur ++ plain (l.drop i) = out ++ plain l
  gr : w.grownBy wr (some g)

theorem one_new (w : World) (v : Int) (t : TypeId) : ∀ j, j < [v].length → (w.alloc (.cells #[.int .u8 v] t)).cell? ((⟨w.heap.size, 0, none⟩ : Addr).add j) = some (.int .u8 ([v].getD j 0)) := fun j hj => by
  have : j = 0 := by simpa using hj
  subst this
  exact cell_one_new w (.int .u8 v) t 0 (.int .u8 v) rfl
theorem add_at (b o j : Nat) : (⟨b, o, none⟩ : Addr).add j = ⟨b, o + j, none⟩ := by
  unfold Addr.add
  split
  · rename_i h; subst h; rfl
  · rfl
theorem stay {w wr : World} {g g1 gb o m i k : Nat} {l : List Int} (hk : k ≤ m - i) (gr : w.grownBy wr (some g)) (hc : ∀ j, j < m → w.cell? ⟨gb, o + j, none⟩ = some (.int .u8 (l.getD j 0))) (hl : l.length = m) (hgl : gb < w.heap.size) (hgb : gb ≠ g) (hg1 : g1 = g ∨ w.heap.size ≤ g1) :
    ∀ w1, wr.grownBy w1 (some g1) → ∀ j, j < k → w1.cell? ((⟨gb, o + i, none⟩ : Addr).add j) = some (.int .u8 (((l.drop i).take k).getD j 0)) := fun w1 h1 j hj => by
  rw [add_at]
  have c1 : wr.cell? ⟨gb, o + (i + j), none⟩ = some (.int .u8 (l.getD (i + j) 0)) := gr.cell (hc (i + j) (by omega)) (by simpa using hgb)
  have c2 := h1.cell c1 (by simp; omega)
  rw [show o + i + j = o + (i + j) by omega, c2]
  have : i + j < l.length := by omega
  simp [hj]
theorem grow {w w1 w2 : World} {g g1 : Nat} (h : w.grownBy w1 (some g)) (h1 : w1.grownBy w2 (some g1)) (a : g1 = g ∨ w.heap.size ≤ g1) : w.grownBy w2 (some g) :=
  ⟨h1.os.trans h.os, h1.tape.trans h.tape, h1.output.trans h.output, Nat.le_trans h.size h1.size, fun k hk hne => (h1.block k (Nat.lt_of_lt_of_le hk h.size) (fun e => by
    have : k = g1 := by simpa using e
    have hne' : k ≠ g := fun e => hne (by rw [e])
    omega)).trans (h.block k hk hne)⟩
theorem chain3 {w wr w2 w3 : World} {g g1 g2 : Nat} (h : w.grownBy wr (some g)) (h2 : wr.grownBy w2 (some g1)) (h3 : w2.grownBy w3 (some g2)) (a1 : g1 = g ∨ w.heap.size ≤ g1) (a2 : g2 = g1 ∨ wr.heap.size ≤ g2) : w.grownBy w3 (some g) := by
  have s1 := h.size
  exact grow (grow h h2 a1) h3 (by omega)
theorem Put.next {w wr w3 : World} {g base gb o m i k g3 cap3 : Nat} {l out cur : List Int} {v p : Value} {A' : Option Addr} {c' : Nat} {x : Int} (h : Put w wr g base gb o m l out i v p cur) (hlt : i < m) (hl : l.length = m) (hk : k = min (m - i) 128) (hx : x = (k : Int) - 1)
    (a1 : Out w3 base g3 cap3 (cur ++ [x] ++ (l.drop i).take k)) (a2 : w.grownBy w3 (some g)) (a3 : g3 = g ∨ w.heap.size ≤ g3) (a4 : i + k < m → A' = some ⟨gb, o + (i + k), none⟩ ∧ m - (i + k) ≤ c') :
    Put w w3 g base gb o m l out (i + k) (.slice (some ⟨g3, 0, none⟩) (cur ++ [x] ++ (l.drop i).take k).length cap3) (.slice A' (m - (i + k)) c') (cur ++ [x] ++ (l.drop i).take k) := by
  refine ⟨by omega, ⟨A', c', rfl, a4⟩, ⟨g3, cap3, rfl, a1, a3⟩, ?_, a2⟩
  rw [← h.eq, plain_cons (l := l.drop i) k (by simp; omega) (by simp; omega), List.drop_drop]
  have : (((k - 1 : Nat) : Int)) = x := by omega
  rw [this]
  simp [List.append_assoc]

end Go.Proofs.Ytdhicmbfknagjaa.SqP
