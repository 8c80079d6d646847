/- Lists of texts: what the law's helpers answer; Field: how it lies in memory; what the law's measure and copier answer. -/
import Derived.Test.YtdhicmbfknagjaaJRO11
import Derived.Test.YtdhicmbfknagjaaJRO07
namespace Go.Proofs.Ytdhicmbfknagjaa.Ls
set_option maxRecDepth 8000
open Go.RowKit
open Recs
set_option linter.unusedVariables false
set_option maxHeartbeats 800000 in
theorem szStringS_core (g o n c : Nat) (us : List ByteArray) (l : Int) (w : World) (h3 : -1 ≤ l) (h4 : l ≤ 1048576) (hn : n ≤ 9223372036854775807) (hc : n ≤ c) (hg : g < w.heap.size) (hnl : us.length = n)
    (hf : ∀ i, i < n → FineStr (us.getD i default)) (ha : ∀ i, i < n → w.cell? ⟨g, o + i, none⟩ = some (.string (us.getD i default))) :
    Calls Try.prog 115 #[.slice (some ⟨g, o, none⟩) n c, .int .i64 l] w fun e w' => ∃ q, e = .returned (.int .i64 q) ∧ -1 ≤ q ∧ q ≤ l ∧ Lf l (szL ByteArray.size us) q ∧ Below w.heap.size w w' := by
  have HA := Seg.hid ha
  have HK := Seg.hid hf
  have HN := Seg.hid hnl
  clear ha hf hnl
  go_enter Try.func115, Try.ntmps115
  by_cases hlt : l - (n : Int) < 0
  · go_wp2
    go_ret
    exact ⟨_, rfl, by omega, by omega, ⟨fun h => absurd h (by omega), fun _ => by unfold szL; rw [HN.out]; omega⟩, Below.refl _ _⟩
  go_wp2
  go_loopw [1, 5] (fun x i wr => ∃ (k : Nat) (r : Int), k ≤ n ∧ x = .int .i64 r ∧ i = .int .i64 k ∧ 0 ≤ r ∧ r ≤ l ∧ Hid (Below w.heap.size w wr ∧ r = l - n - tot ByteArray.size (us.take k))) (fun _ i _ => n - (intOf i).toNat)
  case atStart => exact ⟨0, l - n, Nat.zero_le _, rfl, rfl, by omega, by omega, Below.refl _ _, by simp [tot]⟩
  case round =>
    obtain ⟨k, r, hk, rfl, rfl, hr0, hr1, HB⟩ := hrel
    by_cases hlt2 : k < n
    · have c0 : wr.cell? ⟨g, o + k, none⟩ = some (.string (us.getD k default)) := by rw [HB.out.1.cell (p := ⟨g, o + k, none⟩) hg]; exact HA.out k hlt2
      have h0 : (0 : Int) ≤ (k : Int) := by omega
      have h1 : (k : Int) < (n : Int) := by omega
      have TK := Seg.hid (tot_take ByteArray.size (ts := us) (j := k) (by rw [HN.out]; exact hlt2))
      have TL := Seg.hid (tot_le ByteArray.size us (k + 1))
      have FK : (us.getD k default).size ≤ 9223372036854775807 := HK.out k hlt2
      generalize us.getD k default = uk at *
      by_cases hneg : r - (uk.size : Int) < 0
      · go_wp2
        go_ret
        refine ⟨-1, rfl, by omega, by omega, ⟨fun h => absurd h (by omega), fun _ => ?_⟩, HB.out.1⟩
        have m2 := HB.out.2; have m3 := TK.out; have m4 := TL.out
        unfold szL; rw [HN.out]; omega
      · go_wp2
        go_roundw
        case rel =>
          refine ⟨k + 1, r - uk.size, by omega, rfl, by go_num, by omega, by omega, HB.out.1, ?_⟩
          have m2 := HB.out.2; have m3 := TK.out
          omega
        case measure => simp [intOf]; omega
    · have hk' : k = n := by omega
      have E : Hid (r = l - szL ByteArray.size us) := by
        show _ = _
        have := HB.out.2
        rw [hk', ← HN.out, List.take_length] at this
        rw [this]
        unfold szL
        omega
      subst hk'
      go_wp2
      go_ret
      exact ⟨_, rfl, by omega, by omega, ⟨fun _ => E.out, fun h => absurd h (by omega)⟩, HB.out.1⟩
theorem szStringS_none (A : Option Addr) (c : Nat) (l : Int) (w : World) (h3 : -1 ≤ l) (h4 : l ≤ 1048576) :
    Calls Try.prog 115 #[.slice A 0 c, .int .i64 l] w fun e w' => ∃ q, e = .returned (.int .i64 q) ∧ -1 ≤ q ∧ q ≤ l ∧ Lf l 0 q ∧ Below w.heap.size w w' := by
  go_enter Try.func115, Try.ntmps115
  by_cases hlt : l < 0
  · go_wp2
    go_ret
    exact ⟨_, rfl, by omega, by omega, ⟨fun h => absurd h (by omega), fun _ => by omega⟩, Below.refl _ _⟩
  go_wp2
  go_loop [1, 5] (fun x i => x = .int .i64 l ∧ i = .int .i64 0) (fun _ _ => 0)
  case atStart => exact ⟨rfl, rfl⟩
  case round =>
    obtain ⟨rfl, rfl⟩ := hrel
    go_wp2
    go_ret
    exact ⟨_, rfl, by omega, by omega, ⟨fun _ => by omega, fun h => absurd h (by omega)⟩, Below.refl _ _⟩
theorem szStringS_any (v : Value) (us : List ByteArray) (l : Int) (w : World) (S : Nat → Prop) (h3 : -1 ≤ l) (h4 : l ≤ 1048576) (hv : StrsAt w S v us) (hS : ∀ g, S g → g < w.heap.size) (hf : FineL FineStr us) :
    Calls Try.prog 115 #[v, .int .i64 l] w fun e w' => ∃ q, e = .returned (.int .i64 q) ∧ -1 ≤ q ∧ q ≤ l ∧ Lf l (szL ByteArray.size us) q ∧ Below w.heap.size w w' := by
  obtain ⟨hn, A, c, rfl, h⟩ := hv
  by_cases hz : us.length = 0
  · obtain rfl := List.length_eq_zero_iff.1 hz
    exact szStringS_none A c l w h3 h4
  obtain ⟨g, o, F, rfl, hg, hc, hcell, hel⟩ := h.resolve_left hz
  exact szStringS_core g o us.length c us l w h3 h4 hn hc (hS g hg) rfl hf.2 (str_cell hcell hel)
theorem infoStr : (Try.prog.info? 9).map (fun i => (i.zero, i.size, i.bytes)) = some (some (.string ByteArray.empty), 1, 16) := by kernel_rfl
set_option maxHeartbeats 400000 in
theorem toStringS_core (g o n c : Nat) (ns : List ByteArray) (w : World) (hn : n ≤ 1048576) (hc : n ≤ c) (hg : g < w.heap.size) (hnl : ns.length = n)
    (ha : ∀ i, i < n → w.cell? ⟨g, o + i, none⟩ = some (.string (ns.getD i default))) :
    Calls Try.prog 117 #[.slice (some ⟨g, o, none⟩) n c] w fun e w' => ∃ v, e = .returned v ∧ StrsAt w' (seg w.heap.size w'.heap.size) v ns ∧ Below w.heap.size w w' := by
  obtain ⟨i0, hi, hz0, hz1, hz2⟩ := info_parts infoStr
  have HA := Seg.hid ha
  have HN := Seg.hid hnl
  clear ha hnl
  go_enter Try.func117, Try.ntmps117
  go_wp2_with (at_make; refine wpList_make_full _ rfl _ _ 81 rfl w.heap.size 9 i0 _ 1 Try.underlying81 hi hz0 hz1 .i64 .i64 _ _ n rfl rfl rfl rfl (by rw [hz2]; omega) (by unfold maxLen; omega) (Nat.le_refl _) ?_; intro w1 hown hgr)
  have hb1 := (Below.refl w.heap.size w).grown hgr (Nat.le_refl _) (fun k hk => by cases hk)
  have HM := Seg.hid (Mine.of_made hown hown.1)
  have HB := Seg.hid hb1
  clear hown hgr hb1 hi hz0 hz1 hz2
  go_loopw [4] (fun i wr => ∃ (j : Nat) (F : Nat → Value), j ≤ n ∧ i = .int .i64 j ∧ Hid (Mine wr 9 1 w.heap.size n F ∧ Below w.heap.size w wr ∧ ∀ i, i < j → F i = .string (ns.getD i default))) (fun i _ => n - (intOf i).toNat)
  case atStart => exact ⟨0, _, Nat.zero_le _, rfl, HM.out, HB.out, fun i hi => absurd hi (by omega)⟩
  case round =>
    clear HM HB
    obtain ⟨j, F, hj, rfl, HR⟩ := hrel
    by_cases hlt : j < n
    · have c1 : wr.cell? ⟨g, o + j, none⟩ = some (.string (ns.getD j default)) := by rw [HR.out.2.1.cell (p := ⟨g, o + j, none⟩) hg]; exact HA.out j hlt
      have h0 : (0 : Int) ≤ (j : Int) := by omega
      have h1 : (j : Int) < (n : Int) := by omega
      have d1 := HR.out.1.cell j (by omega)
      have f1 := HR.out.1.frozen j
      have M2 := Seg.hid (HR.out.1.set j (.string (ns.getD j default)))
      have B2 := Seg.hid (HR.out.2.1.setCell (p := ⟨w.heap.size, j, none⟩) (Nat.le_refl _) (.string (ns.getD j default)))
      have R2 : Hid (∀ i, i < j + 1 → (fun i => if i = j then (.string (ns.getD j default)) else F i) i = Value.string (ns.getD i default)) := fun i hi => by
        by_cases he : i = j
        · subst he; simp
        · simp [he]; simpa using HR.out.2.2 i (by omega)
      generalize ns.getD j default = nj at *
      go_wp2
      go_roundw
      case rel => exact ⟨j + 1, _, by omega, by go_num, M2.out, B2.out, R2.out⟩
      case measure => simp [intOf]; omega
    · have : j = n := by omega
      subst this
      go_wp2
      go_ret
      refine ⟨.slice (some ⟨w.heap.size, 0, none⟩) j j, rfl, ⟨by rw [HN.out]; omega, _, _, by rw [HN.out], .inr ⟨w.heap.size, 0, fun i q => F (i * 1 + q), rfl, ⟨Nat.le_refl _, HR.out.1.lt⟩, by rw [HN.out]; exact Nat.le_refl _, fun i hi q hq => ?_, fun i hi => ?_⟩⟩, HR.out.2.1⟩
      · rw [HN.out] at hi
        rw [Nat.zero_add]
        exact HR.out.1.cell _ (by omega)
      · rw [HN.out] at hi
        show F (i * 1 + 0) = _
        rw [Nat.mul_one, Nat.add_zero]
        exact HR.out.2.2 i hi
set_option maxHeartbeats 400000 in
theorem toStringS_none (A : Option Addr) (c : Nat) (w : World) :
    Calls Try.prog 117 #[.slice A 0 c] w fun e w' => ∃ v, e = .returned v ∧ (∃ A c, v = .slice A 0 c) ∧ Below w.heap.size w w' := by
  obtain ⟨i0, hi, hz0, hz1, hz2⟩ := info_parts infoStr
  go_enter Try.func117, Try.ntmps117
  go_wp2_with (at_make; refine wpList_make_full _ rfl _ _ 81 rfl w.heap.size 9 i0 _ 1 Try.underlying81 hi hz0 hz1 .i64 .i64 _ _ 0 rfl rfl rfl rfl (by omega) (by unfold maxLen; omega) (Nat.le_refl _) ?_; intro w1 hown hgr)
  have hb1 := (Below.refl w.heap.size w).grown hgr (Nat.le_refl _) (fun k hk => by cases hk)
  have HB := Seg.hid hb1
  clear hown hgr hb1 hi hz0 hz1 hz2
  go_loop [4] (fun i => i = .int .i64 0) (fun i => 0)
  case atStart => rfl
  case round =>
    subst hrel
    go_wp2
    go_ret
    exact ⟨_, rfl, ⟨_, _, rfl⟩, HB.out⟩
theorem toStringS_any (v : Value) (ns : List ByteArray) (w : World) (S : Nat → Prop) (hv : StrsAt w S v ns) (hS : ∀ g, S g → g < w.heap.size) (hl : szL ByteArray.size ns ≤ 1048576) :
    Calls Try.prog 117 #[v] w fun e w' => ∃ v', e = .returned v' ∧ StrsAt w' (seg w.heap.size w'.heap.size) v' ns ∧ Below w.heap.size w w' := by
  obtain ⟨hn, A, c, rfl, h⟩ := hv
  by_cases hz : ns.length = 0
  · obtain rfl := List.length_eq_zero_iff.1 hz
    refine (toStringS_none A c w).mono fun e w' ⟨v', a1, ⟨A', c', a2⟩, a3⟩ => ⟨v', a1, ?_, a3⟩
    rw [a2]
    exact LAt.nil _ _ _ _
  obtain ⟨g, o, F, rfl, hg, hc, hcell, hel⟩ := h.resolve_left hz
  exact toStringS_core g o ns.length c ns w (szL_len _ hl) hc (hS g hg) rfl (str_cell hcell hel)
theorem eqStringS_none (A A' : Option Addr) (c c' : Nat) (w : World) :
    Calls Try.prog 121 #[.slice A 0 c, .slice A' 0 c'] w fun e w' => e = .returned (.bool true) ∧ Below w.heap.size w w' := by
  go_enter Try.func121, Try.ntmps121
  go_wp2
  go_loop [5] (fun i => i = .int .i64 0) (fun _ => 0)
  case atStart => rfl
  case round =>
    subst hrel
    go_wp2
    go_ret
    exact ⟨rfl, Below.refl _ _⟩
set_option maxHeartbeats 400000 in
theorem eqStringS_core (g o g' o' n c c' : Nat) (ns : List ByteArray) (w : World) (hn : n ≤ 9223372036854775807) (hc : n ≤ c) (hc' : n ≤ c') (hg : g < w.heap.size) (hg' : g' < w.heap.size)
    (ha : ∀ i, i < n → w.cell? ⟨g, o + i, none⟩ = some (.string (ns.getD i default))) (ha' : ∀ i, i < n → w.cell? ⟨g', o' + i, none⟩ = some (.string (ns.getD i default))) :
    Calls Try.prog 121 #[.slice (some ⟨g, o, none⟩) n c, .slice (some ⟨g', o', none⟩) n c'] w fun e w' => e = .returned (.bool true) ∧ Below w.heap.size w w' := by
  have HA := Seg.hid ha; have HA' := Seg.hid ha'
  clear ha ha'
  go_enter Try.func121, Try.ntmps121
  go_wp2
  go_loopw [5] (fun i wr => ∃ k d : Nat, k ≤ n ∧ i = .int .i64 k ∧ wr = w.drewN d) (fun i _ => n - (intOf i).toNat)
  case atStart => exact ⟨0, 0, Nat.zero_le _, rfl, rfl⟩
  case round =>
    obtain ⟨k, d, hk, rfl, rfl⟩ := hrel
    by_cases hlt2 : k < n
    · have c1 := HA.out k hlt2
      have c2 := HA'.out k hlt2
      have h0 : (0 : Int) ≤ (k : Int) := by omega
      have h1 : (k : Int) < (n : Int) := by omega
      generalize ns.getD k default = nk at *
      have hne : (nk.toList != nk.toList) = false := by simp
      go_wp2
      go_region
      go_wp2
      go_roundw
      case rel => exact ⟨k + 1, d + 1, by omega, by go_num, rfl⟩
      case measure => simp [intOf]; omega
    · have : k = n := by omega
      subst this
      go_wp2
      go_ret
      exact ⟨rfl, ⟨rfl, rfl, rfl, Nat.le_refl _, fun _ _ => rfl⟩⟩
theorem eqStringS_any (v v' : Value) (ns : List ByteArray) (w : World) (S S' : Nat → Prop) (hv : StrsAt w S v ns) (hv' : StrsAt w S' v' ns) (hS : ∀ g, S g → g < w.heap.size) (hS' : ∀ g, S' g → g < w.heap.size) :
    Calls Try.prog 121 #[v, v'] w fun e w' => e = .returned (.bool true) ∧ Below w.heap.size w w' := by
  obtain ⟨hn, A, c, rfl, h⟩ := hv
  obtain ⟨_, A', c', rfl, h'⟩ := hv'
  by_cases hz : ns.length = 0
  · rw [hz]
    exact eqStringS_none A A' c c' w
  obtain ⟨g, o, F, rfl, hg, hc, hcell, hel⟩ := h.resolve_left hz
  obtain ⟨g', o', F', rfl, hg', hc', hcell', hel'⟩ := h'.resolve_left hz
  exact eqStringS_core g o g' o' ns.length c c' ns w hn hc hc' (hS g hg) (hS' g' hg') (str_cell hcell hel) (str_cell hcell' hel')
end Go.Proofs.Ytdhicmbfknagjaa.Ls
namespace Go.Proofs.Ytdhicmbfknagjaa.Ls
set_option maxRecDepth 8000
open Go.RowKit
open Recs
set_option linter.unusedVariables false
structure Fld where
  name : ByteArray
  kind : Int
  lst : Bool
  may : Bool
  was : List ByteArray
  fixd : Bool
  vk : Int
  vn : Int
  vt : ByteArray
  vl : Bool
  vi : List Itm
  deriving Inhabited
def EFld : Elt Fld := fun w S f u => f 0 = .string u.name ∧ f 1 = .int .i64 u.kind ∧ f 2 = .bool u.lst ∧ f 3 = .bool u.may ∧ StrsAt w S (f 4) u.was ∧ f 5 = .bool u.fixd ∧ f 6 = .int .i64 u.vk ∧ f 7 = .int .i64 u.vn ∧ f 8 = .string u.vt ∧ f 9 = .bool u.vl ∧ LAt 2 EItm w S (f 10) u.vi
theorem keepsFld : Keeps 11 EFld := fun w w' S f f' t h hk hf => by
  obtain ⟨h0, h1, h2, h3, h4, h5, h6, h7, h8, h9, h10⟩ := h
  exact ⟨by rw [hf 0 (by omega)]; exact h0, by rw [hf 1 (by omega)]; exact h1, by rw [hf 2 (by omega)]; exact h2, by rw [hf 3 (by omega)]; exact h3, by rw [hf 4 (by omega)]; exact h4.keep keepsStr hk, by rw [hf 5 (by omega)]; exact h5, by rw [hf 6 (by omega)]; exact h6, by rw [hf 7 (by omega)]; exact h7, by rw [hf 8 (by omega)]; exact h8, by rw [hf 9 (by omega)]; exact h9, by rw [hf 10 (by omega)]; exact h10.keep keepsItm hk⟩
theorem growsFld : Grows EFld := fun w S S' f t h hs => by
  obtain ⟨h0, h1, h2, h3, h4, h5, h6, h7, h8, h9, h10⟩ := h
  exact ⟨h0, h1, h2, h3, h4.mono growsStr hs, h5, h6, h7, h8, h9, h10.mono growsItm hs⟩
def arrFld (f : Nat → Value) : Array Value := #[f 0, f 1, f 2, f 3, f 4, f 5, f 6, f 7, f 8, f 9, f 10]
theorem oneFld {w : World} {S : Nat → Prop} {f : Nat → Value} {u : Fld} (h : EFld w S f u) : (arrFld f).all (·.oneCell') = true := by
  obtain ⟨h0, h1, h2, h3, h4, h5, h6, h7, h8, h9, h10⟩ := h
  have o0 : (f 0).oneCell' = true := by rw [h0]; rfl
  have o1 : (f 1).oneCell' = true := by rw [h1]; rfl
  have o2 : (f 2).oneCell' = true := by rw [h2]; rfl
  have o3 : (f 3).oneCell' = true := by rw [h3]; rfl
  have o4 : (f 4).oneCell' = true := h4.one
  have o5 : (f 5).oneCell' = true := by rw [h5]; rfl
  have o6 : (f 6).oneCell' = true := by rw [h6]; rfl
  have o7 : (f 7).oneCell' = true := by rw [h7]; rfl
  have o8 : (f 8).oneCell' = true := by rw [h8]; rfl
  have o9 : (f 9).oneCell' = true := by rw [h9]; rfl
  have o10 : (f 10).oneCell' = true := h10.one
  simp [arrFld, o0, o1, o2, o3, o4, o5, o6, o7, o8, o9, o10]
def FldAt (w : World) (S : Nat → Prop) (v : Value) (u : Fld) : Prop := ∃ f, v = .agg (arrFld f) ∧ EFld w S f u
abbrev FldsAt := LAt 11 EFld
theorem FldAt.keep {w w' : World} {S : Nat → Prop} {v : Value} {u : Fld} (h : FldAt w S v u) (hk : ∀ g, S g → w'.heap[g]? = w.heap[g]?) : FldAt w' S v u := by
  obtain ⟨f, h1, h2⟩ := h
  exact ⟨f, h1, keepsFld _ _ _ _ _ _ h2 hk (fun _ _ => rfl)⟩
theorem FldAt.mono {w : World} {S S' : Nat → Prop} {v : Value} {u : Fld} (h : FldAt w S v u) (hs : ∀ g, S g → S' g) : FldAt w S' v u := by
  obtain ⟨f, h1, h2⟩ := h
  exact ⟨f, h1, growsFld _ _ _ _ _ h2 hs⟩
theorem FldAt.below {w w' : World} {B : Nat} {S : Nat → Prop} {v : Value} {u : Fld} (h : FldAt w S v u) (hb : Below B w w') (hs : ∀ g, S g → g < B) : FldAt w' S v u := h.keep fun g hg => hb.block g (hs g hg)
def szFld (u : Fld) : Nat := u.name.size + szL ByteArray.size (u.was) + szVlu (⟨u.vk, u.vn, u.vt, u.vl, u.vi⟩ : Vlu)
def FineFld (u : Fld) : Prop := u.name.size ≤ maxLen ∧ I64 u.kind ∧ True ∧ True ∧ FineL FineStr u.was ∧ True ∧ I64 u.vk ∧ I64 u.vn ∧ u.vt.size ≤ maxLen ∧ True ∧ FineL FineItm u.vi
theorem infoFld : (Try.prog.info? 86).map (·.size) = some 11 := by kernel_rfl
theorem infoLFld : (Try.prog.info? 130).map (·.size) = some 11 := by kernel_rfl
theorem infoZFld : (Try.prog.info? 86).map (fun i => (i.zero, i.size, i.bytes)) = some (some (.agg #[.string ByteArray.empty, .int .i64 0, .bool false, .bool false, .slice none 0 0, .bool false, .int .i64 0, .int .i64 0, .string ByteArray.empty, .bool false, .slice none 0 0]), 11, 128) := by kernel_rfl
set_option maxHeartbeats 800000 in
theorem szField_any (v : Value) (u : Fld) (l : Int) (w : World) (S : Nat → Prop) (h3 : -1 ≤ l) (h4 : l ≤ 1048576) (hv : FldAt w S v u) (hS : ∀ g, S g → g < w.heap.size) (hf : FineFld u) :
    Calls Try.prog 82 #[v, .int .i64 l] w fun e w' => ∃ q, e = .returned (.int .i64 q) ∧ -1 ≤ q ∧ q ≤ l ∧ Lf l (szFld u) q ∧ Below w.heap.size w w' := by
  obtain ⟨f, rfl, y0, y1, y2, y3, y4, y5, y6, y7, y8, y9, y10⟩ := hv
  try simp only [arrFld]
  rw [show f 0 = _ from y0]
  clear y0
  rw [show f 1 = _ from y1]
  clear y1
  rw [show f 2 = _ from y2]
  clear y2
  rw [show f 3 = _ from y3]
  clear y3
  obtain ⟨A4, c4, g4⟩ := y4.form
  rw [g4] at y4 ⊢
  have H4 := Seg.hid y4
  clear y4 g4
  rw [show f 5 = _ from y5]
  clear y5
  rw [show f 6 = _ from y6]
  clear y6
  rw [show f 7 = _ from y7]
  clear y7
  rw [show f 8 = _ from y8]
  clear y8
  rw [show f 9 = _ from y9]
  clear y9
  obtain ⟨A10, c10, g10⟩ := y10.form
  rw [g10] at y10 ⊢
  have H10 := Seg.hid y10
  clear y10 g10
  obtain ⟨z0, z1, z2, z3, z4, z5, z6, z7, z8, z9, z10⟩ := hf
  unfold maxLen at z0
  have Z4 := Seg.hid z4
  unfold maxLen at z8
  have Z10 := Seg.hid z10
  have FG6 : Hid (FineVlu (⟨u.vk, u.vn, u.vt, u.vl, u.vi⟩ : Vlu)) := ⟨z6, z7, z8, z9, z10⟩
  clear z1 z2 z3 z4 z5 z6 z7 z9 z10
  have G6 : Hid (VluAt w S (.agg #[.int .i64 u.vk, .int .i64 u.vn, .string u.vt, .bool u.vl, .slice A10 u.vi.length c10]) (⟨u.vk, u.vn, u.vt, u.vl, u.vi⟩ : Vlu)) := ⟨fun q => if q = 0 then .int .i64 u.vk else if q = 1 then .int .i64 u.vn else if q = 2 then .string u.vt else if q = 3 then .bool u.vl else .slice A10 u.vi.length c10, rfl, rfl, rfl, rfl, rfl, H10.out⟩
  go_enter Try.func82, Try.ntmps82
  by_cases k0 : l - (u.name.size : Int) < 0
  · go_wp2
    go_ret
    exact ⟨_, rfl, by omega, by omega, by simp only [szFld]; exact ⟨fun _ => by omega, fun _ => by omega⟩, below1 _ _⟩
  go_wp2_with fail
  refine (szStringS_any _ u.was _ (w.alloc _) S (by omega) (by omega) (H4.out.below keepsStr (below1 w _) hS) (fun g hg => by rw [hsz]; have := hS g hg; omega) Z4.out).mono ?_
  rintro e w1 ⟨q1, rfl, a1, b1, L1', d1⟩
  have B1 := Seg.hid (chain (below1 w _) d1)
  have L1 := Seg.hid L1'
  have T1 : Hid (w1.heap[w.heap.size]? = some (.cells #[.string u.name, .int .i64 u.kind, .bool u.lst, .bool u.may, .slice A4 u.was.length c4, .bool u.fixd, .int .i64 u.vk, .int .i64 u.vn, .string u.vt, .bool u.vl, .slice A10 u.vi.length c10] 130 (0, 0))) := (d1.block w.heap.size (by rw [hsz]; omega)).trans (heap_alloc_new _ _)
  have s1 : w.heap.size < w1.heap.size := (Array.getElem?_eq_some_iff.1 T1.out).1
  have p16 : w1.cell? ⟨w.heap.size, 6, none⟩ = some (.int .i64 u.vk) := cell_of_row w1 _ 6 _ _ (0, 0) T1.out
  have p17 : w1.cell? ⟨w.heap.size, 7, none⟩ = some (.int .i64 u.vn) := cell_of_row w1 _ 7 _ _ (0, 0) T1.out
  have p18 : w1.cell? ⟨w.heap.size, 8, none⟩ = some (.string u.vt) := cell_of_row w1 _ 8 _ _ (0, 0) T1.out
  have p19 : w1.cell? ⟨w.heap.size, 9, none⟩ = some (.bool u.vl) := cell_of_row w1 _ 9 _ _ (0, 0) T1.out
  have p110 : w1.cell? ⟨w.heap.size, 10, none⟩ = some (.slice A10 u.vi.length c10) := cell_of_row w1 _ 10 _ _ (0, 0) T1.out
  clear d1 L1'
  by_cases k4 : q1 < 0
  · go_wp2
    go_ret
    exact ⟨_, rfl, by omega, by omega, by have m0 := L1.out.2 (by omega); simp only [szFld]; exact ⟨fun _ => by omega, fun _ => by omega⟩, B1.out⟩
  go_wp2_with fail
  refine (szValue_any _ (⟨u.vk, u.vn, u.vt, u.vl, u.vi⟩ : Vlu) _ w1 S (by omega) (by omega) (G6.out.below B1.out hS) (fun g hg => Nat.lt_of_lt_of_le (hS g hg) B1.out.size) FG6.out).mono ?_
  rintro e w2 ⟨q2, rfl, a2, b2, L2', d2⟩
  have B2 := Seg.hid (chain B1.out d2)
  have L2 := Seg.hid L2'
  clear d2 L2'
  by_cases k6 : q2 < 0
  · go_wp2
    go_ret
    exact ⟨_, rfl, by omega, by omega, by have m0 := L1.out.1 (by omega); have m1 := L2.out.2 (by omega); simp only [szFld]; exact ⟨fun _ => by omega, fun _ => by omega⟩, B2.out⟩
  go_wp2
  go_ret
  exact ⟨_, rfl, by omega, by omega, by have m0 := L1.out.1 (by omega); have m1 := L2.out.1 (by omega); simp only [szFld]; exact ⟨fun _ => by omega, fun _ => by omega⟩, B2.out⟩
set_option maxHeartbeats 1600000 in
theorem toField_any (v : Value) (u : Fld) (w : World) (S : Nat → Prop) (hv : FldAt w S v u) (hS : ∀ g, S g → g < w.heap.size) (hf : szFld u ≤ 1048576) :
    Calls Try.prog 85 #[v] w fun e w' => ∃ v', e = .returned v' ∧ FldAt w' (seg w.heap.size w'.heap.size) v' u ∧ Below w.heap.size w w' := by
  obtain ⟨f, rfl, y0, y1, y2, y3, y4, y5, y6, y7, y8, y9, y10⟩ := hv
  try simp only [arrFld]
  rw [show f 0 = _ from y0]
  clear y0
  rw [show f 1 = _ from y1]
  clear y1
  rw [show f 2 = _ from y2]
  clear y2
  rw [show f 3 = _ from y3]
  clear y3
  obtain ⟨A4, c4, g4⟩ := y4.form
  rw [g4] at y4 ⊢
  have H4 := Seg.hid y4
  clear y4 g4
  rw [show f 5 = _ from y5]
  clear y5
  rw [show f 6 = _ from y6]
  clear y6
  rw [show f 7 = _ from y7]
  clear y7
  rw [show f 8 = _ from y8]
  clear y8
  rw [show f 9 = _ from y9]
  clear y9
  obtain ⟨A10, c10, g10⟩ := y10.form
  rw [g10] at y10 ⊢
  have H10 := Seg.hid y10
  clear y10 g10
  unfold szFld at hf
  have G6 : Hid (VluAt w S (.agg #[.int .i64 u.vk, .int .i64 u.vn, .string u.vt, .bool u.vl, .slice A10 u.vi.length c10]) (⟨u.vk, u.vn, u.vt, u.vl, u.vi⟩ : Vlu)) := ⟨fun q => if q = 0 then .int .i64 u.vk else if q = 1 then .int .i64 u.vn else if q = 2 then .string u.vt else if q = 3 then .bool u.vl else .slice A10 u.vi.length c10, rfl, rfl, rfl, rfl, rfl, H10.out⟩
  go_enter Try.func85, Try.ntmps85
  go_wp2_with fail
  refine (toStringS_any _ u.was (((w.alloc _).alloc _).alloc _) S (H4.out.below keepsStr (below3 w _ _ _) hS) (fun g hg => by rw [hsz, hsz, hsz]; have := hS g hg; omega) (by omega)).mono ?_
  rintro e w1 ⟨v1, rfl, l1, b1⟩
  have B1 := Seg.hid (chain (below3 w _ _ _) b1)
  have Ta1 : Hid (w1.heap[w.heap.size]? = some (.cells #[.string u.name, .int .i64 u.kind, .bool u.lst, .bool u.may, .slice A4 u.was.length c4, .bool u.fixd, .int .i64 u.vk, .int .i64 u.vn, .string u.vt, .bool u.vl, .slice A10 u.vi.length c10] 130 (0, 0))) := (b1.block w.heap.size (by rw [hsz, hsz, hsz]; omega)).trans (at3z w _ _ _)
  have Tr1 : Hid (w1.heap[w.heap.size + 1]? = some (.cells #[.string ByteArray.empty, .int .i64 0, .bool false, .bool false, .slice none 0 0, .bool false, .int .i64 0, .int .i64 0, .string ByteArray.empty, .bool false, .slice none 0 0] 86 (0, 0))) := (b1.block (w.heap.size + 1) (by rw [hsz, hsz, hsz]; omega)).trans (at3 w _ _ _)
  have To1 : Hid (w1.heap[w.heap.size + 1 + 1]? = some (.cells #[.string u.name, .int .i64 u.kind, .bool u.lst, .bool u.may, .slice none 0 0, .bool false, .int .i64 0, .int .i64 0, .string ByteArray.empty, .bool false, .slice none 0 0] 86 (0, 0))) := (b1.block (w.heap.size + 1 + 1) (by rw [hsz, hsz, hsz]; omega)).trans (Cells.at3' w _ _ _)
  have s1 : w.heap.size + 3 ≤ w1.heap.size := by have := b1.size; rw [hsz, hsz, hsz] at this; omega
  have M1 : Hid (StrsAt w1 (seg (w.heap.size + 3) w1.heap.size) v1 u.was) := by
    rw [hsz, hsz, hsz] at l1
    exact l1
  obtain ⟨Y1, x1, r1⟩ := M1.out.form
  subst r1
  clear b1 l1
  have N11 := M1
  have pa15 : w1.cell? ⟨w.heap.size, 5, none⟩ = some (.bool u.fixd) := cell_of_row w1 _ 5 _ _ (0, 0) Ta1.out
  have pa16 : w1.cell? ⟨w.heap.size, 6, none⟩ = some (.int .i64 u.vk) := cell_of_row w1 _ 6 _ _ (0, 0) Ta1.out
  have pa17 : w1.cell? ⟨w.heap.size, 7, none⟩ = some (.int .i64 u.vn) := cell_of_row w1 _ 7 _ _ (0, 0) Ta1.out
  have pa18 : w1.cell? ⟨w.heap.size, 8, none⟩ = some (.string u.vt) := cell_of_row w1 _ 8 _ _ (0, 0) Ta1.out
  have pa19 : w1.cell? ⟨w.heap.size, 9, none⟩ = some (.bool u.vl) := cell_of_row w1 _ 9 _ _ (0, 0) Ta1.out
  have pa110 : w1.cell? ⟨w.heap.size, 10, none⟩ = some (.slice A10 u.vi.length c10) := cell_of_row w1 _ 10 _ _ (0, 0) Ta1.out
  have po14 : (w1).cell? ⟨w.heap.size + 1 + 1, 4, none⟩ = some (.slice none 0 0) := cell_of_row (w1) _ 4 _ _ (0, 0) (To1.out)
  have pf14 : (w1).frozen? ⟨w.heap.size + 1 + 1, 4, none⟩ = false := frozen_of_row (w1) _ 4 _ _ (To1.out)
  have qo14 : Hid (((w1.setCell ⟨w.heap.size + 1 + 1, 4, none⟩ (.slice Y1 u.was.length x1))).heap[w.heap.size + 1 + 1]? = some (.cells #[.string u.name, .int .i64 u.kind, .bool u.lst, .bool u.may, .slice Y1 u.was.length x1, .bool false, .int .i64 0, .int .i64 0, .string ByteArray.empty, .bool false, .slice none 0 0] 86 (0, 0))) := heap_setCell_same (w1) (w.heap.size + 1 + 1) 4 _ _ (.slice Y1 u.was.length x1) (To1.out)
  have po15 : ((w1.setCell ⟨w.heap.size + 1 + 1, 4, none⟩ (.slice Y1 u.was.length x1))).cell? ⟨w.heap.size + 1 + 1, 5, none⟩ = some (.bool false) := cell_of_row ((w1.setCell ⟨w.heap.size + 1 + 1, 4, none⟩ (.slice Y1 u.was.length x1))) _ 5 _ _ (0, 0) (qo14.out)
  have pf15 : ((w1.setCell ⟨w.heap.size + 1 + 1, 4, none⟩ (.slice Y1 u.was.length x1))).frozen? ⟨w.heap.size + 1 + 1, 5, none⟩ = false := frozen_of_row ((w1.setCell ⟨w.heap.size + 1 + 1, 4, none⟩ (.slice Y1 u.was.length x1))) _ 5 _ _ (qo14.out)
  have qo15 : Hid ((((w1.setCell ⟨w.heap.size + 1 + 1, 4, none⟩ (.slice Y1 u.was.length x1)).setCell ⟨w.heap.size + 1 + 1, 5, none⟩ (.bool u.fixd))).heap[w.heap.size + 1 + 1]? = some (.cells #[.string u.name, .int .i64 u.kind, .bool u.lst, .bool u.may, .slice Y1 u.was.length x1, .bool u.fixd, .int .i64 0, .int .i64 0, .string ByteArray.empty, .bool false, .slice none 0 0] 86 (0, 0))) := heap_setCell_same ((w1.setCell ⟨w.heap.size + 1 + 1, 4, none⟩ (.slice Y1 u.was.length x1))) (w.heap.size + 1 + 1) 5 _ _ (.bool u.fixd) (qo14.out)
  have Uo1 := Seg.hid (qo15.out)
  have Ur1 := Seg.hid ((heap_setCell_other ((w1.setCell ⟨w.heap.size + 1 + 1, 4, none⟩ (.slice Y1 u.was.length x1))) ⟨w.heap.size + 1 + 1, 5, none⟩ (w.heap.size + 1) (.bool u.fixd) (by simp)).trans ((heap_setCell_other (w1) ⟨w.heap.size + 1 + 1, 4, none⟩ (w.heap.size + 1) (.slice Y1 u.was.length x1) (by simp)).trans (Tr1.out)))
  have Ua1 := Seg.hid ((heap_setCell_other ((w1.setCell ⟨w.heap.size + 1 + 1, 4, none⟩ (.slice Y1 u.was.length x1))) ⟨w.heap.size + 1 + 1, 5, none⟩ w.heap.size (.bool u.fixd) (by simp; omega)).trans ((heap_setCell_other (w1) ⟨w.heap.size + 1 + 1, 4, none⟩ w.heap.size (.slice Y1 u.was.length x1) (by simp; omega)).trans (Ta1.out)))
  have D1 : Hid (Below w.heap.size w ((w1.setCell ⟨w.heap.size + 1 + 1, 4, none⟩ (.slice Y1 u.was.length x1)).setCell ⟨w.heap.size + 1 + 1, 5, none⟩ (.bool u.fixd))) := ((B1.out).setCell (p := ⟨w.heap.size + 1 + 1, 4, none⟩) (by simp; omega) (.slice Y1 u.was.length x1)).setCell (p := ⟨w.heap.size + 1 + 1, 5, none⟩) (by simp; omega) (.bool u.fixd)
  have N11' : Hid (StrsAt ((w1.setCell ⟨w.heap.size + 1 + 1, 4, none⟩ (.slice Y1 u.was.length x1)).setCell ⟨w.heap.size + 1 + 1, 5, none⟩ (.bool u.fixd)) (seg (w.heap.size + 3) w1.heap.size) (.slice Y1 u.was.length x1) u.was) := N11.out.keep keepsStr (fun g hg => by have := hg.1; rw [heap_setCell_other _ _ _ _ (by show _ ≠ w.heap.size + 1 + 1; omega), heap_setCell_other _ _ _ _ (by show _ ≠ w.heap.size + 1 + 1; omega)])
  go_wp2_with fail
  refine (toValue_any _ (⟨u.vk, u.vn, u.vt, u.vl, u.vi⟩ : Vlu) ((w1.setCell ⟨w.heap.size + 1 + 1, 4, none⟩ (.slice Y1 u.was.length x1)).setCell ⟨w.heap.size + 1 + 1, 5, none⟩ (.bool u.fixd)) S (G6.out.below D1.out hS) (fun g hg => Nat.lt_of_lt_of_le (hS g hg) D1.out.size) (by omega)).mono ?_
  rintro e w2 ⟨vg2, rfl, ⟨fg2, rfl, a2_0, a2_1, a2_2, a2_3, a2_4⟩, b2⟩
  obtain ⟨v2, hvv2⟩ : ∃ v, fg2 4 = v := ⟨_, rfl⟩
  rw [hvv2] at a2_4
  have l2 : LAt 2 EItm w2 (seg ((w1.setCell ⟨w.heap.size + 1 + 1, 4, none⟩ (.slice Y1 u.was.length x1)).setCell ⟨w.heap.size + 1 + 1, 5, none⟩ (.bool u.fixd)).heap.size w2.heap.size) v2 u.vi := a2_4
  have hag2 : arrVlu fg2 = #[.int .i64 u.vk, .int .i64 u.vn, .string u.vt, .bool u.vl, v2] := by unfold arrVlu; rw [show fg2 0 = .int .i64 u.vk from a2_0, show fg2 1 = .int .i64 u.vn from a2_1, show fg2 2 = .string u.vt from a2_2, show fg2 3 = .bool u.vl from a2_3, hvv2]
  rw [hag2]
  clear hag2 hvv2 a2_0 a2_1 a2_2 a2_3 a2_4
  have B2 := Seg.hid (chain D1.out b2)
  have z2 : ((w1.setCell ⟨w.heap.size + 1 + 1, 4, none⟩ (.slice Y1 u.was.length x1)).setCell ⟨w.heap.size + 1 + 1, 5, none⟩ (.bool u.fixd)).heap.size = w1.heap.size := by simp
  have Ta2 := Seg.hid ((b2.block w.heap.size (by omega)).trans Ua1.out)
  have Tr2 := Seg.hid ((b2.block (w.heap.size + 1) (by omega)).trans Ur1.out)
  have To2 := Seg.hid ((b2.block (w.heap.size + 1 + 1) (by omega)).trans Uo1.out)
  have s2 : w.heap.size + 3 ≤ w2.heap.size := by have := b2.size; omega
  have M2 : Hid (LAt 2 EItm w2 (seg (w.heap.size + 3) w2.heap.size) v2 u.vi) := l2.mono growsItm (fun g hg => ⟨by have := hg.1; omega, hg.2⟩)
  have N21 : Hid (StrsAt w2 (seg (w.heap.size + 3) w2.heap.size) (.slice Y1 u.was.length x1) u.was) := ((N11'.out.keep keepsStr (fun g hg => b2.block g (by have := hg.2; omega))).mono growsStr (fun g hg => ⟨hg.1, by have := b2.size; have := hg.2; omega⟩))
  clear z2
  obtain ⟨Y2, x2, r2⟩ := M2.out.form
  subst r2
  clear b2 l2
  have N22 := M2
  have po26 : (w2).cell? ⟨w.heap.size + 1 + 1, 6, none⟩ = some (.int .i64 0) := cell_of_row (w2) _ 6 _ _ (0, 0) (To2.out)
  have pf26 : (w2).frozen? ⟨w.heap.size + 1 + 1, 6, none⟩ = false := frozen_of_row (w2) _ 6 _ _ (To2.out)
  have qo26 : Hid (((w2.setCell ⟨w.heap.size + 1 + 1, 6, none⟩ (.int .i64 u.vk))).heap[w.heap.size + 1 + 1]? = some (.cells #[.string u.name, .int .i64 u.kind, .bool u.lst, .bool u.may, .slice Y1 u.was.length x1, .bool u.fixd, .int .i64 u.vk, .int .i64 0, .string ByteArray.empty, .bool false, .slice none 0 0] 86 (0, 0))) := heap_setCell_same (w2) (w.heap.size + 1 + 1) 6 _ _ (.int .i64 u.vk) (To2.out)
  have po27 : ((w2.setCell ⟨w.heap.size + 1 + 1, 6, none⟩ (.int .i64 u.vk))).cell? ⟨w.heap.size + 1 + 1, 7, none⟩ = some (.int .i64 0) := cell_of_row ((w2.setCell ⟨w.heap.size + 1 + 1, 6, none⟩ (.int .i64 u.vk))) _ 7 _ _ (0, 0) (qo26.out)
  have pf27 : ((w2.setCell ⟨w.heap.size + 1 + 1, 6, none⟩ (.int .i64 u.vk))).frozen? ⟨w.heap.size + 1 + 1, 7, none⟩ = false := frozen_of_row ((w2.setCell ⟨w.heap.size + 1 + 1, 6, none⟩ (.int .i64 u.vk))) _ 7 _ _ (qo26.out)
  have qo27 : Hid ((((w2.setCell ⟨w.heap.size + 1 + 1, 6, none⟩ (.int .i64 u.vk)).setCell ⟨w.heap.size + 1 + 1, 7, none⟩ (.int .i64 u.vn))).heap[w.heap.size + 1 + 1]? = some (.cells #[.string u.name, .int .i64 u.kind, .bool u.lst, .bool u.may, .slice Y1 u.was.length x1, .bool u.fixd, .int .i64 u.vk, .int .i64 u.vn, .string ByteArray.empty, .bool false, .slice none 0 0] 86 (0, 0))) := heap_setCell_same ((w2.setCell ⟨w.heap.size + 1 + 1, 6, none⟩ (.int .i64 u.vk))) (w.heap.size + 1 + 1) 7 _ _ (.int .i64 u.vn) (qo26.out)
  have po28 : (((w2.setCell ⟨w.heap.size + 1 + 1, 6, none⟩ (.int .i64 u.vk)).setCell ⟨w.heap.size + 1 + 1, 7, none⟩ (.int .i64 u.vn))).cell? ⟨w.heap.size + 1 + 1, 8, none⟩ = some (.string ByteArray.empty) := cell_of_row (((w2.setCell ⟨w.heap.size + 1 + 1, 6, none⟩ (.int .i64 u.vk)).setCell ⟨w.heap.size + 1 + 1, 7, none⟩ (.int .i64 u.vn))) _ 8 _ _ (0, 0) (qo27.out)
  have pf28 : (((w2.setCell ⟨w.heap.size + 1 + 1, 6, none⟩ (.int .i64 u.vk)).setCell ⟨w.heap.size + 1 + 1, 7, none⟩ (.int .i64 u.vn))).frozen? ⟨w.heap.size + 1 + 1, 8, none⟩ = false := frozen_of_row (((w2.setCell ⟨w.heap.size + 1 + 1, 6, none⟩ (.int .i64 u.vk)).setCell ⟨w.heap.size + 1 + 1, 7, none⟩ (.int .i64 u.vn))) _ 8 _ _ (qo27.out)
  have qo28 : Hid (((((w2.setCell ⟨w.heap.size + 1 + 1, 6, none⟩ (.int .i64 u.vk)).setCell ⟨w.heap.size + 1 + 1, 7, none⟩ (.int .i64 u.vn)).setCell ⟨w.heap.size + 1 + 1, 8, none⟩ (.string u.vt))).heap[w.heap.size + 1 + 1]? = some (.cells #[.string u.name, .int .i64 u.kind, .bool u.lst, .bool u.may, .slice Y1 u.was.length x1, .bool u.fixd, .int .i64 u.vk, .int .i64 u.vn, .string u.vt, .bool false, .slice none 0 0] 86 (0, 0))) := heap_setCell_same (((w2.setCell ⟨w.heap.size + 1 + 1, 6, none⟩ (.int .i64 u.vk)).setCell ⟨w.heap.size + 1 + 1, 7, none⟩ (.int .i64 u.vn))) (w.heap.size + 1 + 1) 8 _ _ (.string u.vt) (qo27.out)
  have po29 : ((((w2.setCell ⟨w.heap.size + 1 + 1, 6, none⟩ (.int .i64 u.vk)).setCell ⟨w.heap.size + 1 + 1, 7, none⟩ (.int .i64 u.vn)).setCell ⟨w.heap.size + 1 + 1, 8, none⟩ (.string u.vt))).cell? ⟨w.heap.size + 1 + 1, 9, none⟩ = some (.bool false) := cell_of_row ((((w2.setCell ⟨w.heap.size + 1 + 1, 6, none⟩ (.int .i64 u.vk)).setCell ⟨w.heap.size + 1 + 1, 7, none⟩ (.int .i64 u.vn)).setCell ⟨w.heap.size + 1 + 1, 8, none⟩ (.string u.vt))) _ 9 _ _ (0, 0) (qo28.out)
  have pf29 : ((((w2.setCell ⟨w.heap.size + 1 + 1, 6, none⟩ (.int .i64 u.vk)).setCell ⟨w.heap.size + 1 + 1, 7, none⟩ (.int .i64 u.vn)).setCell ⟨w.heap.size + 1 + 1, 8, none⟩ (.string u.vt))).frozen? ⟨w.heap.size + 1 + 1, 9, none⟩ = false := frozen_of_row ((((w2.setCell ⟨w.heap.size + 1 + 1, 6, none⟩ (.int .i64 u.vk)).setCell ⟨w.heap.size + 1 + 1, 7, none⟩ (.int .i64 u.vn)).setCell ⟨w.heap.size + 1 + 1, 8, none⟩ (.string u.vt))) _ 9 _ _ (qo28.out)
  have qo29 : Hid ((((((w2.setCell ⟨w.heap.size + 1 + 1, 6, none⟩ (.int .i64 u.vk)).setCell ⟨w.heap.size + 1 + 1, 7, none⟩ (.int .i64 u.vn)).setCell ⟨w.heap.size + 1 + 1, 8, none⟩ (.string u.vt)).setCell ⟨w.heap.size + 1 + 1, 9, none⟩ (.bool u.vl))).heap[w.heap.size + 1 + 1]? = some (.cells #[.string u.name, .int .i64 u.kind, .bool u.lst, .bool u.may, .slice Y1 u.was.length x1, .bool u.fixd, .int .i64 u.vk, .int .i64 u.vn, .string u.vt, .bool u.vl, .slice none 0 0] 86 (0, 0))) := heap_setCell_same ((((w2.setCell ⟨w.heap.size + 1 + 1, 6, none⟩ (.int .i64 u.vk)).setCell ⟨w.heap.size + 1 + 1, 7, none⟩ (.int .i64 u.vn)).setCell ⟨w.heap.size + 1 + 1, 8, none⟩ (.string u.vt))) (w.heap.size + 1 + 1) 9 _ _ (.bool u.vl) (qo28.out)
  have po210 : (((((w2.setCell ⟨w.heap.size + 1 + 1, 6, none⟩ (.int .i64 u.vk)).setCell ⟨w.heap.size + 1 + 1, 7, none⟩ (.int .i64 u.vn)).setCell ⟨w.heap.size + 1 + 1, 8, none⟩ (.string u.vt)).setCell ⟨w.heap.size + 1 + 1, 9, none⟩ (.bool u.vl))).cell? ⟨w.heap.size + 1 + 1, 10, none⟩ = some (.slice none 0 0) := cell_of_row (((((w2.setCell ⟨w.heap.size + 1 + 1, 6, none⟩ (.int .i64 u.vk)).setCell ⟨w.heap.size + 1 + 1, 7, none⟩ (.int .i64 u.vn)).setCell ⟨w.heap.size + 1 + 1, 8, none⟩ (.string u.vt)).setCell ⟨w.heap.size + 1 + 1, 9, none⟩ (.bool u.vl))) _ 10 _ _ (0, 0) (qo29.out)
  have pf210 : (((((w2.setCell ⟨w.heap.size + 1 + 1, 6, none⟩ (.int .i64 u.vk)).setCell ⟨w.heap.size + 1 + 1, 7, none⟩ (.int .i64 u.vn)).setCell ⟨w.heap.size + 1 + 1, 8, none⟩ (.string u.vt)).setCell ⟨w.heap.size + 1 + 1, 9, none⟩ (.bool u.vl))).frozen? ⟨w.heap.size + 1 + 1, 10, none⟩ = false := frozen_of_row (((((w2.setCell ⟨w.heap.size + 1 + 1, 6, none⟩ (.int .i64 u.vk)).setCell ⟨w.heap.size + 1 + 1, 7, none⟩ (.int .i64 u.vn)).setCell ⟨w.heap.size + 1 + 1, 8, none⟩ (.string u.vt)).setCell ⟨w.heap.size + 1 + 1, 9, none⟩ (.bool u.vl))) _ 10 _ _ (qo29.out)
  have qo210 : Hid (((((((w2.setCell ⟨w.heap.size + 1 + 1, 6, none⟩ (.int .i64 u.vk)).setCell ⟨w.heap.size + 1 + 1, 7, none⟩ (.int .i64 u.vn)).setCell ⟨w.heap.size + 1 + 1, 8, none⟩ (.string u.vt)).setCell ⟨w.heap.size + 1 + 1, 9, none⟩ (.bool u.vl)).setCell ⟨w.heap.size + 1 + 1, 10, none⟩ (.slice Y2 u.vi.length x2))).heap[w.heap.size + 1 + 1]? = some (.cells #[.string u.name, .int .i64 u.kind, .bool u.lst, .bool u.may, .slice Y1 u.was.length x1, .bool u.fixd, .int .i64 u.vk, .int .i64 u.vn, .string u.vt, .bool u.vl, .slice Y2 u.vi.length x2] 86 (0, 0))) := heap_setCell_same (((((w2.setCell ⟨w.heap.size + 1 + 1, 6, none⟩ (.int .i64 u.vk)).setCell ⟨w.heap.size + 1 + 1, 7, none⟩ (.int .i64 u.vn)).setCell ⟨w.heap.size + 1 + 1, 8, none⟩ (.string u.vt)).setCell ⟨w.heap.size + 1 + 1, 9, none⟩ (.bool u.vl))) (w.heap.size + 1 + 1) 10 _ _ (.slice Y2 u.vi.length x2) (qo29.out)
  have Uo2 := Seg.hid (qo210.out)
  have Ur2 := Seg.hid ((heap_setCell_other (((((w2.setCell ⟨w.heap.size + 1 + 1, 6, none⟩ (.int .i64 u.vk)).setCell ⟨w.heap.size + 1 + 1, 7, none⟩ (.int .i64 u.vn)).setCell ⟨w.heap.size + 1 + 1, 8, none⟩ (.string u.vt)).setCell ⟨w.heap.size + 1 + 1, 9, none⟩ (.bool u.vl))) ⟨w.heap.size + 1 + 1, 10, none⟩ (w.heap.size + 1) (.slice Y2 u.vi.length x2) (by simp)).trans ((heap_setCell_other ((((w2.setCell ⟨w.heap.size + 1 + 1, 6, none⟩ (.int .i64 u.vk)).setCell ⟨w.heap.size + 1 + 1, 7, none⟩ (.int .i64 u.vn)).setCell ⟨w.heap.size + 1 + 1, 8, none⟩ (.string u.vt))) ⟨w.heap.size + 1 + 1, 9, none⟩ (w.heap.size + 1) (.bool u.vl) (by simp)).trans ((heap_setCell_other (((w2.setCell ⟨w.heap.size + 1 + 1, 6, none⟩ (.int .i64 u.vk)).setCell ⟨w.heap.size + 1 + 1, 7, none⟩ (.int .i64 u.vn))) ⟨w.heap.size + 1 + 1, 8, none⟩ (w.heap.size + 1) (.string u.vt) (by simp)).trans ((heap_setCell_other ((w2.setCell ⟨w.heap.size + 1 + 1, 6, none⟩ (.int .i64 u.vk))) ⟨w.heap.size + 1 + 1, 7, none⟩ (w.heap.size + 1) (.int .i64 u.vn) (by simp)).trans ((heap_setCell_other (w2) ⟨w.heap.size + 1 + 1, 6, none⟩ (w.heap.size + 1) (.int .i64 u.vk) (by simp)).trans (Tr2.out))))))
  have Ua2 := Seg.hid ((heap_setCell_other (((((w2.setCell ⟨w.heap.size + 1 + 1, 6, none⟩ (.int .i64 u.vk)).setCell ⟨w.heap.size + 1 + 1, 7, none⟩ (.int .i64 u.vn)).setCell ⟨w.heap.size + 1 + 1, 8, none⟩ (.string u.vt)).setCell ⟨w.heap.size + 1 + 1, 9, none⟩ (.bool u.vl))) ⟨w.heap.size + 1 + 1, 10, none⟩ w.heap.size (.slice Y2 u.vi.length x2) (by simp; omega)).trans ((heap_setCell_other ((((w2.setCell ⟨w.heap.size + 1 + 1, 6, none⟩ (.int .i64 u.vk)).setCell ⟨w.heap.size + 1 + 1, 7, none⟩ (.int .i64 u.vn)).setCell ⟨w.heap.size + 1 + 1, 8, none⟩ (.string u.vt))) ⟨w.heap.size + 1 + 1, 9, none⟩ w.heap.size (.bool u.vl) (by simp; omega)).trans ((heap_setCell_other (((w2.setCell ⟨w.heap.size + 1 + 1, 6, none⟩ (.int .i64 u.vk)).setCell ⟨w.heap.size + 1 + 1, 7, none⟩ (.int .i64 u.vn))) ⟨w.heap.size + 1 + 1, 8, none⟩ w.heap.size (.string u.vt) (by simp; omega)).trans ((heap_setCell_other ((w2.setCell ⟨w.heap.size + 1 + 1, 6, none⟩ (.int .i64 u.vk))) ⟨w.heap.size + 1 + 1, 7, none⟩ w.heap.size (.int .i64 u.vn) (by simp; omega)).trans ((heap_setCell_other (w2) ⟨w.heap.size + 1 + 1, 6, none⟩ w.heap.size (.int .i64 u.vk) (by simp; omega)).trans (Ta2.out))))))
  have D2 : Hid (Below w.heap.size w (((((w2.setCell ⟨w.heap.size + 1 + 1, 6, none⟩ (.int .i64 u.vk)).setCell ⟨w.heap.size + 1 + 1, 7, none⟩ (.int .i64 u.vn)).setCell ⟨w.heap.size + 1 + 1, 8, none⟩ (.string u.vt)).setCell ⟨w.heap.size + 1 + 1, 9, none⟩ (.bool u.vl)).setCell ⟨w.heap.size + 1 + 1, 10, none⟩ (.slice Y2 u.vi.length x2))) := (((((B2.out).setCell (p := ⟨w.heap.size + 1 + 1, 6, none⟩) (by simp; omega) (.int .i64 u.vk)).setCell (p := ⟨w.heap.size + 1 + 1, 7, none⟩) (by simp; omega) (.int .i64 u.vn)).setCell (p := ⟨w.heap.size + 1 + 1, 8, none⟩) (by simp; omega) (.string u.vt)).setCell (p := ⟨w.heap.size + 1 + 1, 9, none⟩) (by simp; omega) (.bool u.vl)).setCell (p := ⟨w.heap.size + 1 + 1, 10, none⟩) (by simp; omega) (.slice Y2 u.vi.length x2)
  have N21' : Hid (StrsAt (((((w2.setCell ⟨w.heap.size + 1 + 1, 6, none⟩ (.int .i64 u.vk)).setCell ⟨w.heap.size + 1 + 1, 7, none⟩ (.int .i64 u.vn)).setCell ⟨w.heap.size + 1 + 1, 8, none⟩ (.string u.vt)).setCell ⟨w.heap.size + 1 + 1, 9, none⟩ (.bool u.vl)).setCell ⟨w.heap.size + 1 + 1, 10, none⟩ (.slice Y2 u.vi.length x2)) (seg (w.heap.size + 3) w2.heap.size) (.slice Y1 u.was.length x1) u.was) := N21.out.keep keepsStr (fun g hg => by have := hg.1; rw [heap_setCell_other _ _ _ _ (by show _ ≠ w.heap.size + 1 + 1; omega), heap_setCell_other _ _ _ _ (by show _ ≠ w.heap.size + 1 + 1; omega), heap_setCell_other _ _ _ _ (by show _ ≠ w.heap.size + 1 + 1; omega), heap_setCell_other _ _ _ _ (by show _ ≠ w.heap.size + 1 + 1; omega), heap_setCell_other _ _ _ _ (by show _ ≠ w.heap.size + 1 + 1; omega)])
  have N22' : Hid (LAt 2 EItm (((((w2.setCell ⟨w.heap.size + 1 + 1, 6, none⟩ (.int .i64 u.vk)).setCell ⟨w.heap.size + 1 + 1, 7, none⟩ (.int .i64 u.vn)).setCell ⟨w.heap.size + 1 + 1, 8, none⟩ (.string u.vt)).setCell ⟨w.heap.size + 1 + 1, 9, none⟩ (.bool u.vl)).setCell ⟨w.heap.size + 1 + 1, 10, none⟩ (.slice Y2 u.vi.length x2)) (seg (w.heap.size + 3) w2.heap.size) (.slice Y2 u.vi.length x2) u.vi) := N22.out.keep keepsItm (fun g hg => by have := hg.1; rw [heap_setCell_other _ _ _ _ (by show _ ≠ w.heap.size + 1 + 1; omega), heap_setCell_other _ _ _ _ (by show _ ≠ w.heap.size + 1 + 1; omega), heap_setCell_other _ _ _ _ (by show _ ≠ w.heap.size + 1 + 1; omega), heap_setCell_other _ _ _ _ (by show _ ≠ w.heap.size + 1 + 1; omega), heap_setCell_other _ _ _ _ (by show _ ≠ w.heap.size + 1 + 1; omega)])
  obtain ⟨fx, hfx⟩ : ∃ fx : Nat → Value, fx = (fun q => if q = 0 then .string u.name else if q = 1 then .int .i64 u.kind else if q = 2 then .bool u.lst else if q = 3 then .bool u.may else if q = 4 then .slice Y1 u.was.length x1 else if q = 5 then .bool u.fixd else if q = 6 then .int .i64 u.vk else if q = 7 then .int .i64 u.vn else if q = 8 then .string u.vt else if q = 9 then .bool u.vl else .slice Y2 u.vi.length x2) := ⟨_, rfl⟩
  have HX := Seg.hid hfx
  have Uz : Hid ((((((w2.setCell ⟨w.heap.size + 1 + 1, 6, none⟩ (.int .i64 u.vk)).setCell ⟨w.heap.size + 1 + 1, 7, none⟩ (.int .i64 u.vn)).setCell ⟨w.heap.size + 1 + 1, 8, none⟩ (.string u.vt)).setCell ⟨w.heap.size + 1 + 1, 9, none⟩ (.bool u.vl)).setCell ⟨w.heap.size + 1 + 1, 10, none⟩ (.slice Y2 u.vi.length x2)).heap[w.heap.size + 1 + 1]? = some (.cells (arrFld fx) 86 (0, 0))) := by
    show _ = _
    rw [hfx]
    exact Uo2.out
  clear hfx
  have H5a := Cells.there_of Ur2.out
  have H5 : Hid ((((((w2.setCell ⟨w.heap.size + 1 + 1, 6, none⟩ (.int .i64 u.vk)).setCell ⟨w.heap.size + 1 + 1, 7, none⟩ (.int .i64 u.vn)).setCell ⟨w.heap.size + 1 + 1, 8, none⟩ (.string u.vt)).setCell ⟨w.heap.size + 1 + 1, 9, none⟩ (.bool u.vl)).setCell ⟨w.heap.size + 1 + 1, 10, none⟩ (.slice Y2 u.vi.length x2)).there (w.heap.size + 1) 0 (arrFld fx).size) := H5a
  clear H5a
  have H4 := Seg.hid (Cells.whole (vs := arrFld fx) Ur2.out rfl)
  have B9 := Seg.hid (Cells.below_setCells (g := w.heap.size + 1) (by omega) (arrFld fx).toList 0 _ _ D2.out)
  have F1 : Hid (StrsAt ((((((w2.setCell ⟨w.heap.size + 1 + 1, 6, none⟩ (.int .i64 u.vk)).setCell ⟨w.heap.size + 1 + 1, 7, none⟩ (.int .i64 u.vn)).setCell ⟨w.heap.size + 1 + 1, 8, none⟩ (.string u.vt)).setCell ⟨w.heap.size + 1 + 1, 9, none⟩ (.bool u.vl)).setCell ⟨w.heap.size + 1 + 1, 10, none⟩ (.slice Y2 u.vi.length x2)).setCells (w.heap.size + 1) 0 (arrFld fx).toList) (seg w.heap.size ((((((w2.setCell ⟨w.heap.size + 1 + 1, 6, none⟩ (.int .i64 u.vk)).setCell ⟨w.heap.size + 1 + 1, 7, none⟩ (.int .i64 u.vn)).setCell ⟨w.heap.size + 1 + 1, 8, none⟩ (.string u.vt)).setCell ⟨w.heap.size + 1 + 1, 9, none⟩ (.bool u.vl)).setCell ⟨w.heap.size + 1 + 1, 10, none⟩ (.slice Y2 u.vi.length x2)).setCells (w.heap.size + 1) 0 (arrFld fx).toList).heap.size) (fx 4) u.was) := by
    show StrsAt _ _ _ _
    rw [show fx 4 = .slice Y1 u.was.length x1 by rw [HX.out]; rfl]
    refine (N21'.out.keep keepsStr (fun g hg => ?_)).mono growsStr (fun g hg => ⟨by have := hg.1; omega, ?_⟩)
    · have := hg.1
      rw [Cells.heap_setCells_other _ _ (by omega)]
    · rw [Cells.size_setCells]
      have := hg.2
      simpa using this
  have F2 : Hid (LAt 2 EItm ((((((w2.setCell ⟨w.heap.size + 1 + 1, 6, none⟩ (.int .i64 u.vk)).setCell ⟨w.heap.size + 1 + 1, 7, none⟩ (.int .i64 u.vn)).setCell ⟨w.heap.size + 1 + 1, 8, none⟩ (.string u.vt)).setCell ⟨w.heap.size + 1 + 1, 9, none⟩ (.bool u.vl)).setCell ⟨w.heap.size + 1 + 1, 10, none⟩ (.slice Y2 u.vi.length x2)).setCells (w.heap.size + 1) 0 (arrFld fx).toList) (seg w.heap.size ((((((w2.setCell ⟨w.heap.size + 1 + 1, 6, none⟩ (.int .i64 u.vk)).setCell ⟨w.heap.size + 1 + 1, 7, none⟩ (.int .i64 u.vn)).setCell ⟨w.heap.size + 1 + 1, 8, none⟩ (.string u.vt)).setCell ⟨w.heap.size + 1 + 1, 9, none⟩ (.bool u.vl)).setCell ⟨w.heap.size + 1 + 1, 10, none⟩ (.slice Y2 u.vi.length x2)).setCells (w.heap.size + 1) 0 (arrFld fx).toList).heap.size) (fx 10) u.vi) := by
    show LAt 2 EItm _ _ _ _
    rw [show fx 10 = .slice Y2 u.vi.length x2 by rw [HX.out]; rfl]
    refine (N22'.out.keep keepsItm (fun g hg => ?_)).mono growsItm (fun g hg => ⟨by have := hg.1; omega, ?_⟩)
    · have := hg.1
      rw [Cells.heap_setCells_other _ _ (by omega)]
    · rw [Cells.size_setCells]
      have := hg.2
      simpa using this
  have EX : Hid (EFld ((((((w2.setCell ⟨w.heap.size + 1 + 1, 6, none⟩ (.int .i64 u.vk)).setCell ⟨w.heap.size + 1 + 1, 7, none⟩ (.int .i64 u.vn)).setCell ⟨w.heap.size + 1 + 1, 8, none⟩ (.string u.vt)).setCell ⟨w.heap.size + 1 + 1, 9, none⟩ (.bool u.vl)).setCell ⟨w.heap.size + 1 + 1, 10, none⟩ (.slice Y2 u.vi.length x2)).setCells (w.heap.size + 1) 0 (arrFld fx).toList) (seg w.heap.size ((((((w2.setCell ⟨w.heap.size + 1 + 1, 6, none⟩ (.int .i64 u.vk)).setCell ⟨w.heap.size + 1 + 1, 7, none⟩ (.int .i64 u.vn)).setCell ⟨w.heap.size + 1 + 1, 8, none⟩ (.string u.vt)).setCell ⟨w.heap.size + 1 + 1, 9, none⟩ (.bool u.vl)).setCell ⟨w.heap.size + 1 + 1, 10, none⟩ (.slice Y2 u.vi.length x2)).setCells (w.heap.size + 1) 0 (arrFld fx).toList).heap.size) fx u) := ⟨by rw [HX.out]; rfl, by rw [HX.out]; rfl, by rw [HX.out]; rfl, by rw [HX.out]; rfl, F1.out, by rw [HX.out]; rfl, by rw [HX.out]; rfl, by rw [HX.out]; rfl, by rw [HX.out]; rfl, by rw [HX.out]; rfl, F2.out⟩
  have ON := Seg.hid (oneFld EX.out)
  clear Ta1 Tr1 To1 Ua1 M1 Ta2 Tr2 To2 Ua2 M2
  go_upto_region 9 with fail
  clear po26 pf26 po27 pf27 po28 pf28 po29 pf29 po210 pf210
  generalize (((((w2.setCell ⟨w.heap.size + 1 + 1, 6, none⟩ (.int .i64 u.vk)).setCell ⟨w.heap.size + 1 + 1, 7, none⟩ (.int .i64 u.vn)).setCell ⟨w.heap.size + 1 + 1, 8, none⟩ (.string u.vt)).setCell ⟨w.heap.size + 1 + 1, 9, none⟩ (.bool u.vl)).setCell ⟨w.heap.size + 1 + 1, 10, none⟩ (.slice Y2 u.vi.length x2)) = wz at *
  go_wp2_with (first | (refine wpList_load_row rfl 86 _ rfl (w.heap.size + 1 + 1) rfl _ _ _ _ Uz.out Try.underlying86 rfl infoFld ?_) | (refine wpList_store_mid rfl 86 _ _ rfl (w.heap.size + 1) 0 (arrFld fx) rfl rfl H5.out infoFld ON.out ?_))
  exact bodyPost_ret (v := .agg (arrFld fx)) (results_cell_row rfl _ _ (w.heap.size + 1) _ _ _ _ rfl H4.out Try.underlying86 rfl infoFld) rfl ⟨_, rfl, ⟨fx, rfl, EX.out⟩, B9.out⟩
set_option maxHeartbeats 1600000 in
theorem eqField_any (v v' : Value) (u : Fld) (w : World) (S S' : Nat → Prop) (hv : FldAt w S v u) (hv' : FldAt w S' v' u) (hS : ∀ g, S g → g < w.heap.size) (hS' : ∀ g, S' g → g < w.heap.size) :
    Calls Try.prog 91 #[v, v'] w fun e w' => e = .returned (.bool true) ∧ Below w.heap.size w w' := by
  obtain ⟨f, rfl, y0, y1, y2, y3, y4, y5, y6, y7, y8, y9, y10⟩ := hv
  obtain ⟨f', rfl, y0', y1', y2', y3', y4', y5', y6', y7', y8', y9', y10'⟩ := hv'
  try simp only [arrFld]
  rw [show f 0 = _ from y0]
  clear y0
  rw [show f 1 = _ from y1]
  clear y1
  rw [show f 2 = _ from y2]
  clear y2
  rw [show f 3 = _ from y3]
  clear y3
  obtain ⟨A4, c4, g4⟩ := y4.form
  rw [g4] at y4 ⊢
  have H4 := Seg.hid y4
  clear y4 g4
  rw [show f 5 = _ from y5]
  clear y5
  rw [show f 6 = _ from y6]
  clear y6
  rw [show f 7 = _ from y7]
  clear y7
  rw [show f 8 = _ from y8]
  clear y8
  rw [show f 9 = _ from y9]
  clear y9
  obtain ⟨A10, c10, g10⟩ := y10.form
  rw [g10] at y10 ⊢
  have H10 := Seg.hid y10
  clear y10 g10
  try simp only [arrFld]
  rw [show f' 0 = _ from y0']
  clear y0'
  rw [show f' 1 = _ from y1']
  clear y1'
  rw [show f' 2 = _ from y2']
  clear y2'
  rw [show f' 3 = _ from y3']
  clear y3'
  obtain ⟨A4', c4', g4'⟩ := y4'.form
  rw [g4'] at y4' ⊢
  have H4' := Seg.hid y4'
  clear y4' g4'
  rw [show f' 5 = _ from y5']
  clear y5'
  rw [show f' 6 = _ from y6']
  clear y6'
  rw [show f' 7 = _ from y7']
  clear y7'
  rw [show f' 8 = _ from y8']
  clear y8'
  rw [show f' 9 = _ from y9']
  clear y9'
  obtain ⟨A10', c10', g10'⟩ := y10'.form
  rw [g10'] at y10' ⊢
  have H10' := Seg.hid y10'
  clear y10' g10'
  have G6 : Hid (VluAt w S (.agg #[.int .i64 u.vk, .int .i64 u.vn, .string u.vt, .bool u.vl, .slice A10 u.vi.length c10]) (⟨u.vk, u.vn, u.vt, u.vl, u.vi⟩ : Vlu)) := ⟨fun q => if q = 0 then .int .i64 u.vk else if q = 1 then .int .i64 u.vn else if q = 2 then .string u.vt else if q = 3 then .bool u.vl else .slice A10 u.vi.length c10, rfl, rfl, rfl, rfl, rfl, H10.out⟩
  have G6' : Hid (VluAt w S' (.agg #[.int .i64 u.vk, .int .i64 u.vn, .string u.vt, .bool u.vl, .slice A10' u.vi.length c10']) (⟨u.vk, u.vn, u.vt, u.vl, u.vi⟩ : Vlu)) := ⟨fun q => if q = 0 then .int .i64 u.vk else if q = 1 then .int .i64 u.vn else if q = 2 then .string u.vt else if q = 3 then .bool u.vl else .slice A10' u.vi.length c10', rfl, rfl, rfl, rfl, rfl, H10'.out⟩
  go_enter Try.func91, Try.ntmps91
  go_wp2_with fail
  refine (eqStringS_any _ _ u.was ((w.alloc _).alloc _) S S' (H4.out.below keepsStr (below2 w _ _) hS) (H4'.out.below keepsStr (below2 w _ _) hS') (fun g hg => by rw [hsz, hsz]; have := hS g hg; omega) (fun g hg => by rw [hsz, hsz]; have := hS' g hg; omega)).mono ?_
  rintro e w1 ⟨rfl, b1⟩
  have B1 := Seg.hid (chain (below2 w _ _) b1)
  have Ta1 : Hid (w1.heap[w.heap.size]? = some (.cells #[.string u.name, .int .i64 u.kind, .bool u.lst, .bool u.may, .slice A4 u.was.length c4, .bool u.fixd, .int .i64 u.vk, .int .i64 u.vn, .string u.vt, .bool u.vl, .slice A10 u.vi.length c10] 86 (0, 0))) := (b1.block w.heap.size (by rw [hsz, hsz]; omega)).trans (at2z w _ _)
  have Tb1 : Hid (w1.heap[w.heap.size + 1]? = some (.cells #[.string u.name, .int .i64 u.kind, .bool u.lst, .bool u.may, .slice A4' u.was.length c4', .bool u.fixd, .int .i64 u.vk, .int .i64 u.vn, .string u.vt, .bool u.vl, .slice A10' u.vi.length c10'] 86 (0, 0))) := (b1.block (w.heap.size + 1) (by rw [hsz, hsz]; omega)).trans (at2y w _ _)
  have s1 : w.heap.size + 1 < w1.heap.size := (Array.getElem?_eq_some_iff.1 Tb1.out).1
  have pa15 : w1.cell? ⟨w.heap.size, 5, none⟩ = some (.bool u.fixd) := cell_of_row w1 _ 5 _ _ (0, 0) Ta1.out
  have pb15 : w1.cell? ⟨w.heap.size + 1, 5, none⟩ = some (.bool u.fixd) := cell_of_row w1 _ 5 _ _ (0, 0) Tb1.out
  have pa16 : w1.cell? ⟨w.heap.size, 6, none⟩ = some (.int .i64 u.vk) := cell_of_row w1 _ 6 _ _ (0, 0) Ta1.out
  have pb16 : w1.cell? ⟨w.heap.size + 1, 6, none⟩ = some (.int .i64 u.vk) := cell_of_row w1 _ 6 _ _ (0, 0) Tb1.out
  have pa17 : w1.cell? ⟨w.heap.size, 7, none⟩ = some (.int .i64 u.vn) := cell_of_row w1 _ 7 _ _ (0, 0) Ta1.out
  have pb17 : w1.cell? ⟨w.heap.size + 1, 7, none⟩ = some (.int .i64 u.vn) := cell_of_row w1 _ 7 _ _ (0, 0) Tb1.out
  have pa18 : w1.cell? ⟨w.heap.size, 8, none⟩ = some (.string u.vt) := cell_of_row w1 _ 8 _ _ (0, 0) Ta1.out
  have pb18 : w1.cell? ⟨w.heap.size + 1, 8, none⟩ = some (.string u.vt) := cell_of_row w1 _ 8 _ _ (0, 0) Tb1.out
  have pa19 : w1.cell? ⟨w.heap.size, 9, none⟩ = some (.bool u.vl) := cell_of_row w1 _ 9 _ _ (0, 0) Ta1.out
  have pb19 : w1.cell? ⟨w.heap.size + 1, 9, none⟩ = some (.bool u.vl) := cell_of_row w1 _ 9 _ _ (0, 0) Tb1.out
  have pa110 : w1.cell? ⟨w.heap.size, 10, none⟩ = some (.slice A10 u.vi.length c10) := cell_of_row w1 _ 10 _ _ (0, 0) Ta1.out
  have pb110 : w1.cell? ⟨w.heap.size + 1, 10, none⟩ = some (.slice A10' u.vi.length c10') := cell_of_row w1 _ 10 _ _ (0, 0) Tb1.out
  clear b1
  go_wp2_with fail
  refine (eqValue_any _ _ (⟨u.vk, u.vn, u.vt, u.vl, u.vi⟩ : Vlu) w1 S S' (G6.out.below B1.out hS) (G6'.out.below B1.out hS') (fun g hg => Nat.lt_of_lt_of_le (hS g hg) B1.out.size) (fun g hg => Nat.lt_of_lt_of_le (hS' g hg) B1.out.size)).mono ?_
  rintro e w2 ⟨rfl, b2⟩
  have B2 := Seg.hid (chain B1.out b2)
  clear b2
  go_wp2
  go_ret
  exact ⟨rfl, B2.out⟩
end Go.Proofs.Ytdhicmbfknagjaa.Ls
