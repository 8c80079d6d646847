/- Lists of texts: how they lie; Lists of texts: what the law's helpers answer. -/
import Derived.Test.YtkibaimemomjpaaJE03
namespace Go.Proofs.Ytkibaimemomjpaa.Ls
set_option maxRecDepth 8000
open Go.RowKit
open Recs
set_option linter.unusedVariables false
def EStr : Elt ByteArray := fun _ _ f n => f 0 = .string n
theorem keepsStr : Keeps 1 EStr := fun w w' S f f' t h hk hf => by show f' 0 = _; rw [hf 0 (by omega)]; exact h
theorem growsStr : Grows EStr := fun w S S' f t h hs => h
abbrev StrsAt := LAt 1 EStr
theorem str_cell {w : World} {S : Nat → Prop} {g o n : Nat} {ns : List ByteArray} {F : Nat → Nat → Value} (h : ∀ i, i < n → ∀ j, j < 1 → w.cell? ⟨g, o + i * 1 + j, none⟩ = some (F i j)) (he : ∀ i, i < n → EStr w S (F i) (ns.getD i default)) : ∀ i, i < n → w.cell? ⟨g, o + i, none⟩ = some (.string (ns.getD i default)) := fun i hi => by
  have := h i hi 0 (by omega)
  rw [show o + i * 1 + 0 = o + i by omega] at this
  rw [this, show F i 0 = .string (ns.getD i default) from he i hi]
def FineStr (s : ByteArray) : Prop := s.size ≤ maxLen
end Go.Proofs.Ytkibaimemomjpaa.Ls
namespace Go.Proofs.Ytkibaimemomjpaa.Ls
set_option maxRecDepth 8000
open Go.RowKit
open Recs
set_option linter.unusedVariables false
set_option maxHeartbeats 800000 in
theorem szStringS_core (g o n c : Nat) (us : List ByteArray) (l : Int) (w : World) (h3 : -1 ≤ l) (h4 : l ≤ 1048576) (hn : n ≤ 9223372036854775807) (hc : n ≤ c) (hg : g < w.heap.size) (hnl : us.length = n)
    (hf : ∀ i, i < n → FineStr (us.getD i default)) (ha : ∀ i, i < n → w.cell? ⟨g, o + i, none⟩ = some (.string (us.getD i default))) :
    Calls Try.prog 31 #[.slice (some ⟨g, o, none⟩) n c, .int .i64 l] w fun e w' => ∃ q, e = .returned (.int .i64 q) ∧ -1 ≤ q ∧ q ≤ l ∧ Lf l (szL ByteArray.size us) q ∧ Below w.heap.size w w' := by
  have HA := Seg.hid ha
  have HK := Seg.hid hf
  have HN := Seg.hid hnl
  clear ha hf hnl
  go_enter Try.func31, Try.ntmps31
  by_cases hlt : l - (n : Int) < 0
  · go_wp2
    go_ret
    exact ⟨_, rfl, by omega, by omega, ⟨fun h => absurd h (by omega), fun _ => by unfold szL; rw [HN.out]; omega⟩, Below.refl _ _⟩
  go_wp2
  go_loopw [1, 5] (fun x i wr => ∃ (k : Nat) (r : Int), k ≤ n ∧ x = .int .i64 r ∧ i = .int .i64 k ∧ 0 ≤ r ∧ r ≤ l ∧ Hid (Below w.heap.size w wr ∧ r = l - n - tot ByteArray.size (us.take k))) (fun _ i _ => n - (intOf i).toNat)
  case atStart => exact ⟨0, l - n, Nat.zero_le _, rfl, rfl, by omega, by omega, Below.refl _ _, by simp [tot]⟩
  case round =>
    obtain ⟨k, r, hk, rfl, rfl, hr0, hr1, HB⟩ := hrel
    by_cases hlt2 : k < n
    · have c0 : wr.cell? ⟨g, o + k, none⟩ = some (.string (us.getD k default)) := by rw [HB.out.1.cell (p := ⟨g, o + k, none⟩) hg]; exact HA.out k hlt2
      have h0 : (0 : Int) ≤ (k : Int) := by omega
      have h1 : (k : Int) < (n : Int) := by omega
      have TK := Seg.hid (tot_take ByteArray.size (ts := us) (j := k) (by rw [HN.out]; exact hlt2))
      have TL := Seg.hid (tot_le ByteArray.size us (k + 1))
      have FK : (us.getD k default).size ≤ 9223372036854775807 := HK.out k hlt2
      generalize us.getD k default = uk at *
      by_cases hneg : r - (uk.size : Int) < 0
      · go_wp2
        go_ret
        refine ⟨-1, rfl, by omega, by omega, ⟨fun h => absurd h (by omega), fun _ => ?_⟩, HB.out.1⟩
        have m2 := HB.out.2; have m3 := TK.out; have m4 := TL.out
        unfold szL; rw [HN.out]; omega
      · go_wp2
        go_roundw
        case rel =>
          refine ⟨k + 1, r - uk.size, by omega, rfl, by go_num, by omega, by omega, HB.out.1, ?_⟩
          have m2 := HB.out.2; have m3 := TK.out
          omega
        case measure => simp [intOf]; omega
    · have hk' : k = n := by omega
      have E : Hid (r = l - szL ByteArray.size us) := by
        show _ = _
        have := HB.out.2
        rw [hk', ← HN.out, List.take_length] at this
        rw [this]
        unfold szL
        omega
      subst hk'
      go_wp2
      go_ret
      exact ⟨_, rfl, by omega, by omega, ⟨fun _ => E.out, fun h => absurd h (by omega)⟩, HB.out.1⟩
theorem szStringS_none (A : Option Addr) (c : Nat) (l : Int) (w : World) (h3 : -1 ≤ l) (h4 : l ≤ 1048576) :
    Calls Try.prog 31 #[.slice A 0 c, .int .i64 l] w fun e w' => ∃ q, e = .returned (.int .i64 q) ∧ -1 ≤ q ∧ q ≤ l ∧ Lf l 0 q ∧ Below w.heap.size w w' := by
  go_enter Try.func31, Try.ntmps31
  by_cases hlt : l < 0
  · go_wp2
    go_ret
    exact ⟨_, rfl, by omega, by omega, ⟨fun h => absurd h (by omega), fun _ => by omega⟩, Below.refl _ _⟩
  go_wp2
  go_loop [1, 5] (fun x i => x = .int .i64 l ∧ i = .int .i64 0) (fun _ _ => 0)
  case atStart => exact ⟨rfl, rfl⟩
  case round =>
    obtain ⟨rfl, rfl⟩ := hrel
    go_wp2
    go_ret
    exact ⟨_, rfl, by omega, by omega, ⟨fun _ => by omega, fun h => absurd h (by omega)⟩, Below.refl _ _⟩
theorem szStringS_any (v : Value) (us : List ByteArray) (l : Int) (w : World) (S : Nat → Prop) (h3 : -1 ≤ l) (h4 : l ≤ 1048576) (hv : StrsAt w S v us) (hS : ∀ g, S g → g < w.heap.size) (hf : FineL FineStr us) :
    Calls Try.prog 31 #[v, .int .i64 l] w fun e w' => ∃ q, e = .returned (.int .i64 q) ∧ -1 ≤ q ∧ q ≤ l ∧ Lf l (szL ByteArray.size us) q ∧ Below w.heap.size w w' := by
  obtain ⟨hn, A, c, rfl, h⟩ := hv
  by_cases hz : us.length = 0
  · obtain rfl := List.length_eq_zero_iff.1 hz
    exact szStringS_none A c l w h3 h4
  obtain ⟨g, o, F, rfl, hg, hc, hcell, hel⟩ := h.resolve_left hz
  exact szStringS_core g o us.length c us l w h3 h4 hn hc (hS g hg) rfl hf.2 (str_cell hcell hel)
theorem infoStr : (Try.prog.info? 9).map (fun i => (i.zero, i.size, i.bytes)) = some (some (.string ByteArray.empty), 1, 16) := by kernel_rfl
set_option maxHeartbeats 400000 in
theorem toStringS_core (g o n c : Nat) (ns : List ByteArray) (w : World) (hn : n ≤ 1048576) (hc : n ≤ c) (hg : g < w.heap.size) (hnl : ns.length = n)
    (ha : ∀ i, i < n → w.cell? ⟨g, o + i, none⟩ = some (.string (ns.getD i default))) :
    Calls Try.prog 36 #[.slice (some ⟨g, o, none⟩) n c] w fun e w' => ∃ v, e = .returned v ∧ StrsAt w' (seg w.heap.size w'.heap.size) v ns ∧ Below w.heap.size w w' := by
  obtain ⟨i0, hi, hz0, hz1, hz2⟩ := info_parts infoStr
  have HA := Seg.hid ha
  have HN := Seg.hid hnl
  clear ha hnl
  go_enter Try.func36, Try.ntmps36
  go_wp2_with (at_make; refine wpList_make_full _ rfl _ _ 23 rfl w.heap.size 9 i0 _ 1 Try.underlying23 hi hz0 hz1 .i64 .i64 _ _ n rfl rfl rfl rfl (by rw [hz2]; omega) (by unfold maxLen; omega) (Nat.le_refl _) ?_; intro w1 hown hgr)
  have hb1 := (Below.refl w.heap.size w).grown hgr (Nat.le_refl _) (fun k hk => by cases hk)
  have HM := Seg.hid (Mine.of_made hown hown.1)
  have HB := Seg.hid hb1
  clear hown hgr hb1 hi hz0 hz1 hz2
  go_loopw [4] (fun i wr => ∃ (j : Nat) (F : Nat → Value), j ≤ n ∧ i = .int .i64 j ∧ Hid (Mine wr 9 1 w.heap.size n F ∧ Below w.heap.size w wr ∧ ∀ i, i < j → F i = .string (ns.getD i default))) (fun i _ => n - (intOf i).toNat)
  case atStart => exact ⟨0, _, Nat.zero_le _, rfl, HM.out, HB.out, fun i hi => absurd hi (by omega)⟩
  case round =>
    clear HM HB
    obtain ⟨j, F, hj, rfl, HR⟩ := hrel
    by_cases hlt : j < n
    · have c1 : wr.cell? ⟨g, o + j, none⟩ = some (.string (ns.getD j default)) := by rw [HR.out.2.1.cell (p := ⟨g, o + j, none⟩) hg]; exact HA.out j hlt
      have h0 : (0 : Int) ≤ (j : Int) := by omega
      have h1 : (j : Int) < (n : Int) := by omega
      have d1 := HR.out.1.cell j (by omega)
      have f1 := HR.out.1.frozen j
      have M2 := Seg.hid (HR.out.1.set j (.string (ns.getD j default)))
      have B2 := Seg.hid (HR.out.2.1.setCell (p := ⟨w.heap.size, j, none⟩) (Nat.le_refl _) (.string (ns.getD j default)))
      have R2 : Hid (∀ i, i < j + 1 → (fun i => if i = j then (.string (ns.getD j default)) else F i) i = Value.string (ns.getD i default)) := fun i hi => by
        by_cases he : i = j
        · subst he; simp
        · simp [he]; simpa using HR.out.2.2 i (by omega)
      generalize ns.getD j default = nj at *
      go_wp2
      go_roundw
      case rel => exact ⟨j + 1, _, by omega, by go_num, M2.out, B2.out, R2.out⟩
      case measure => simp [intOf]; omega
    · have : j = n := by omega
      subst this
      go_wp2
      go_ret
      refine ⟨.slice (some ⟨w.heap.size, 0, none⟩) j j, rfl, ⟨by rw [HN.out]; omega, _, _, by rw [HN.out], .inr ⟨w.heap.size, 0, fun i q => F (i * 1 + q), rfl, ⟨Nat.le_refl _, HR.out.1.lt⟩, by rw [HN.out]; exact Nat.le_refl _, fun i hi q hq => ?_, fun i hi => ?_⟩⟩, HR.out.2.1⟩
      · rw [HN.out] at hi
        rw [Nat.zero_add]
        exact HR.out.1.cell _ (by omega)
      · rw [HN.out] at hi
        show F (i * 1 + 0) = _
        rw [Nat.mul_one, Nat.add_zero]
        exact HR.out.2.2 i hi
set_option maxHeartbeats 400000 in
theorem toStringS_none (A : Option Addr) (c : Nat) (w : World) :
    Calls Try.prog 36 #[.slice A 0 c] w fun e w' => ∃ v, e = .returned v ∧ (∃ A c, v = .slice A 0 c) ∧ Below w.heap.size w w' := by
  obtain ⟨i0, hi, hz0, hz1, hz2⟩ := info_parts infoStr
  go_enter Try.func36, Try.ntmps36
  go_wp2_with (at_make; refine wpList_make_full _ rfl _ _ 23 rfl w.heap.size 9 i0 _ 1 Try.underlying23 hi hz0 hz1 .i64 .i64 _ _ 0 rfl rfl rfl rfl (by omega) (by unfold maxLen; omega) (Nat.le_refl _) ?_; intro w1 hown hgr)
  have hb1 := (Below.refl w.heap.size w).grown hgr (Nat.le_refl _) (fun k hk => by cases hk)
  have HB := Seg.hid hb1
  clear hown hgr hb1 hi hz0 hz1 hz2
  go_loop [4] (fun i => i = .int .i64 0) (fun i => 0)
  case atStart => rfl
  case round =>
    subst hrel
    go_wp2
    go_ret
    exact ⟨_, rfl, ⟨_, _, rfl⟩, HB.out⟩
theorem toStringS_any (v : Value) (ns : List ByteArray) (w : World) (S : Nat → Prop) (hv : StrsAt w S v ns) (hS : ∀ g, S g → g < w.heap.size) (hl : szL ByteArray.size ns ≤ 1048576) :
    Calls Try.prog 36 #[v] w fun e w' => ∃ v', e = .returned v' ∧ StrsAt w' (seg w.heap.size w'.heap.size) v' ns ∧ Below w.heap.size w w' := by
  obtain ⟨hn, A, c, rfl, h⟩ := hv
  by_cases hz : ns.length = 0
  · obtain rfl := List.length_eq_zero_iff.1 hz
    refine (toStringS_none A c w).mono fun e w' ⟨v', a1, ⟨A', c', a2⟩, a3⟩ => ⟨v', a1, ?_, a3⟩
    rw [a2]
    exact LAt.nil _ _ _ _
  obtain ⟨g, o, F, rfl, hg, hc, hcell, hel⟩ := h.resolve_left hz
  exact toStringS_core g o ns.length c ns w (szL_len _ hl) hc (hS g hg) rfl (str_cell hcell hel)
theorem eqStringS_none (A A' : Option Addr) (c c' : Nat) (w : World) :
    Calls Try.prog 45 #[.slice A 0 c, .slice A' 0 c'] w fun e w' => e = .returned (.bool true) ∧ Below w.heap.size w w' := by
  go_enter Try.func45, Try.ntmps45
  go_wp2
  go_loop [5] (fun i => i = .int .i64 0) (fun _ => 0)
  case atStart => rfl
  case round =>
    subst hrel
    go_wp2
    go_ret
    exact ⟨rfl, Below.refl _ _⟩
set_option maxHeartbeats 400000 in
theorem eqStringS_core (g o g' o' n c c' : Nat) (ns : List ByteArray) (w : World) (hn : n ≤ 9223372036854775807) (hc : n ≤ c) (hc' : n ≤ c') (hg : g < w.heap.size) (hg' : g' < w.heap.size)
    (ha : ∀ i, i < n → w.cell? ⟨g, o + i, none⟩ = some (.string (ns.getD i default))) (ha' : ∀ i, i < n → w.cell? ⟨g', o' + i, none⟩ = some (.string (ns.getD i default))) :
    Calls Try.prog 45 #[.slice (some ⟨g, o, none⟩) n c, .slice (some ⟨g', o', none⟩) n c'] w fun e w' => e = .returned (.bool true) ∧ Below w.heap.size w w' := by
  have HA := Seg.hid ha; have HA' := Seg.hid ha'
  clear ha ha'
  go_enter Try.func45, Try.ntmps45
  go_wp2
  go_loopw [5] (fun i wr => ∃ k d : Nat, k ≤ n ∧ i = .int .i64 k ∧ wr = w.drewN d) (fun i _ => n - (intOf i).toNat)
  case atStart => exact ⟨0, 0, Nat.zero_le _, rfl, rfl⟩
  case round =>
    obtain ⟨k, d, hk, rfl, rfl⟩ := hrel
    by_cases hlt2 : k < n
    · have c1 := HA.out k hlt2
      have c2 := HA'.out k hlt2
      have h0 : (0 : Int) ≤ (k : Int) := by omega
      have h1 : (k : Int) < (n : Int) := by omega
      generalize ns.getD k default = nk at *
      have hne : (nk.toList != nk.toList) = false := by simp
      go_wp2
      go_region
      go_wp2
      go_roundw
      case rel => exact ⟨k + 1, d + 1, by omega, by go_num, rfl⟩
      case measure => simp [intOf]; omega
    · have : k = n := by omega
      subst this
      go_wp2
      go_ret
      exact ⟨rfl, ⟨rfl, rfl, rfl, Nat.le_refl _, fun _ _ => rfl⟩⟩
theorem eqStringS_any (v v' : Value) (ns : List ByteArray) (w : World) (S S' : Nat → Prop) (hv : StrsAt w S v ns) (hv' : StrsAt w S' v' ns) (hS : ∀ g, S g → g < w.heap.size) (hS' : ∀ g, S' g → g < w.heap.size) :
    Calls Try.prog 45 #[v, v'] w fun e w' => e = .returned (.bool true) ∧ Below w.heap.size w w' := by
  obtain ⟨hn, A, c, rfl, h⟩ := hv
  obtain ⟨_, A', c', rfl, h'⟩ := hv'
  by_cases hz : ns.length = 0
  · rw [hz]
    exact eqStringS_none A A' c c' w
  obtain ⟨g, o, F, rfl, hg, hc, hcell, hel⟩ := h.resolve_left hz
  obtain ⟨g', o', F', rfl, hg', hc', hcell', hel'⟩ := h'.resolve_left hz
  exact eqStringS_core g o g' o' ns.length c c' ns w hn hc hc' (hS g hg) (hS' g' hg') (str_cell hcell hel) (str_cell hcell' hel')
end Go.Proofs.Ytkibaimemomjpaa.Ls
