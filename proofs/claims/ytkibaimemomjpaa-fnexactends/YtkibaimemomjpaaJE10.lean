/- Right sources, plain; Lists of lists of Arrival: what the law's helpers answer. -/
import Derived.Test.YtkibaimemomjpaaJE07
import Derived.Test.YtkibaimemomjpaaJE08
import Derived.Test.YtkibaimemomjpaaJE09
import Derived.Test.YtkibaimemomjpaaJE04
namespace Go.Proofs.Ytkibaimemomjpaa.QsP
set_option maxRecDepth 8000
open Go.RowKit
open Ls Lp QyP
set_option linter.unusedVariables false
def srcOk (s : Src) : Bool := Nm.nameOk s.name && (inR 1 s.cols.length 12 && (diff s.cols && s.cols.all Nm.nameOk))
def nmsS (l : List Src) : List ByteArray := l.map Src.name
def srcsOk (l : List Src) : Bool := decide (l.length ≤ 10) && (l.all srcOk && diff (nmsS l))
theorem nmsS_next {l : List Src} {k : Nat} (h : k < l.length) : nmsS (l.take (k + 1)) = nmsS (l.take k) ++ [(l.getD k default).name] := by
  unfold nmsS
  rw [List.take_succ_eq_append_getElem h, List.map_append]
  simp [h]
theorem nmsS_len (l : List Src) : (nmsS l).length = l.length := by simp [nmsS]
theorem all_next {T : Type} [Inhabited T] (p : T → Bool) (us : List T) (k : Nat) (hk : k < us.length) (h : (us.take k).all p = true) (hp : p (us.getD k default) = true) : (us.take (k + 1)).all p = true := by
  rw [List.take_succ_eq_append_getElem hk, List.all_append, h]
  simp [hk] at hp
  simp [hp]
theorem all_bad {T : Type} [Inhabited T] (p : T → Bool) (us : List T) (k : Nat) (hk : k < us.length) (hp : p (us.getD k default) = false) : us.all p = false := by
  simp [hk] at hp
  exact List.all_eq_false.2 ⟨us[k], List.getElem_mem hk, by simp [hp]⟩
theorem sz_col {s : Src} (h : szSrc s ≤ 1048576) {j : Nat} (hj : j < s.cols.length) : (s.cols.getD j default).size ≤ 1048576 := by
  unfold szSrc at h
  exact szL_one ByteArray.size (by omega) hj
/-- The cells of one source of a list. -/
theorem src_at {w w' : World} {S : Nat → Prop} {A : Option Addr} {c : Nat} {us : List Src} {g o : Nat} {F : Nat → Nat → Value} (h : Opn 3 ESrc w S A c us g o F) (hS : ∀ g, S g → g < w.heap.size) (hb : Below w.heap.size w w') {k : Nat} (hk : k < us.length) : ∃ A' c', StrsAt w' S (.slice A' (us.getD k default).cols.length c') (us.getD k default).cols ∧ w'.cell? ⟨g, o + k * 3, none⟩ = some (.string (us.getD k default).name) ∧ w'.cell? ⟨g, o + k * 3 + 1, none⟩ = some (.bool (us.getD k default).tab) ∧ w'.cell? ⟨g, o + k * 3 + 2, none⟩ = some (.slice A' (us.getD k default).cols.length c') := by
  have OL := h.later keepsSrc hS hb
  obtain ⟨e0, e1, e2⟩ := OL.el k hk
  have cc := OL.cells k hk
  obtain ⟨A', c', e3⟩ := e2.form
  refine ⟨A', c', by rw [← e3]; exact e2, ?_, ?_, ?_⟩
  · rw [← e0]; exact cc 0 (by omega)
  · rw [← e1]; exact cc 1 (by omega)
  · rw [← e3]; exact cc 2 (by omega)
abbrev Row (w : World) (B : Nat) (v : Value) (ns : List ByteArray) : Prop := w.ownsRow B 9 1 v ns.length (ns.map Value.string)
theorem Row.keep {w w' : World} {B : Nat} {v : Value} {ns : List ByteArray} (h : Row w B v ns) (hb : Below w.heap.size w w') : Row w' B v ns := by
  refine ⟨h.1, ?_⟩
  rcases h.2 with ⟨h1, h2⟩ | ⟨g, cap, cur, h1, hb', hg, r⟩
  · exact .inl ⟨h1, h2⟩
  · exact .inr ⟨g, cap, cur, h1, hb', (hb.block g (Array.getElem?_eq_some_iff.1 hg).1).trans hg, r⟩
theorem Row.lat {w : World} {B : Nat} {v : Value} {ns : List ByteArray} (h : Row w B v ns) (hl : ns.length ≤ 1048576) : LAt 1 EStr w (seg B w.heap.size) v ns := by
  refine ⟨by omega, ?_⟩
  rcases h.2 with ⟨rfl, h0⟩ | ⟨g, cap, cur, rfl, hb, hg, hnc, hcm, hcs, htake⟩
  · exact ⟨none, 0, by rw [h0], .inl h0⟩
  · refine ⟨_, cap, rfl, .inr ⟨g, 0, fun i _ => .string (ns.getD i default), rfl, ⟨hb, (Array.getElem?_eq_some_iff.1 hg).1⟩, hnc, fun i hi j hj => ?_, fun i hi => rfl⟩⟩
    obtain rfl : j = 0 := by omega
    have := World.ownsRow.cellAt h i (by simpa using hi)
    simp only [Nat.zero_add, Nat.mul_one, Nat.add_zero]
    rw [this]
    simp [hi]
theorem row_put {w : World} {B g cap : Nat} {ns : List ByteArray} {n : ByteArray} (h : w.ownsRow B 9 1 (.slice (some ⟨g, 0, none⟩) (ns.length + 1) cap) (ns.length + 1) (ns.map Value.string ++ [Value.string n])) : Row w B (.slice (some ⟨g, 0, none⟩) (ns.length + 1) cap) (ns ++ [n]) := by
  unfold Row
  rw [List.length_append, List.length_singleton, List.map_append]
  exact h
end Go.Proofs.Ytkibaimemomjpaa.QsP
namespace Go.Proofs.Ytkibaimemomjpaa.Ls
set_option maxRecDepth 8000
open Go.RowKit
open Recs
set_option linter.unusedVariables false
def EArr2 : Elt (List Arr) := fun w S f u => LAt 3 EArr w S (f 0) u
theorem keepsArr2 : Keeps 1 EArr2 := fun w w' S f f' t h hk hf => by show LAt _ _ _ _ (f' 0) _; rw [hf 0 (by omega)]; exact LAt.keep keepsArr h hk
theorem growsArr2 : Grows EArr2 := fun w S S' f t h hs => LAt.mono growsArr h hs
theorem infoZArr2 : (Try.prog.info? 85).map (fun i => (i.zero, i.size, i.bytes)) = some (some (.slice none 0 0), 1, 24) := by kernel_rfl
theorem cells1 {w : World} {g o n : Nat} {F : Nat → Nat → Value} (h : ∀ i, i < n → ∀ j, j < 1 → w.cell? ⟨g, o + i * 1 + j, none⟩ = some (F i j)) : ∀ i, i < n → w.cell? ⟨g, o + i, none⟩ = some (F i 0) := fun i hi => by
  have := h i hi 0 (by omega)
  rw [show o + i * 1 + 0 = o + i by omega] at this
  exact this
theorem szArrivalSS_none (A : Option Addr) (c : Nat) (l : Int) (w : World) (h3 : -1 ≤ l) (h4 : l ≤ 1048576) :
    Calls Try.prog 18 #[.slice A 0 c, .int .i64 l] w fun e w' => ∃ q, e = .returned (.int .i64 q) ∧ -1 ≤ q ∧ q ≤ l ∧ Lf l 0 q ∧ Below w.heap.size w w' := by
  go_enter Try.func18, Try.ntmps18
  by_cases hlt : l < 0
  · go_wp2
    go_ret
    exact ⟨_, rfl, by omega, by omega, ⟨fun h => absurd h (by omega), fun _ => by omega⟩, Below.refl _ _⟩
  go_wp2
  go_loop [1, 5] (fun x i => x = .int .i64 l ∧ i = .int .i64 0) (fun _ _ => 0)
  case atStart => exact ⟨rfl, rfl⟩
  case round =>
    obtain ⟨rfl, rfl⟩ := hrel
    go_wp2
    go_ret
    exact ⟨_, rfl, by omega, by omega, ⟨fun _ => by omega, fun h => absurd h (by omega)⟩, Below.refl _ _⟩
set_option maxHeartbeats 800000 in
theorem szArrivalSS_core (g o n c : Nat) (us : List (List Arr)) (F : Nat → Nat → Value) (l : Int) (w : World) (S : Nat → Prop) (h3 : -1 ≤ l) (h4 : l ≤ 1048576) (hn : n ≤ 9223372036854775807) (hc : n ≤ c) (hg : g < w.heap.size) (hS : ∀ g, S g → g < w.heap.size) (hnl : us.length = n)
    (hf : ∀ i, i < n → FineL FineArr (us.getD i default)) (he : ∀ i, i < n → EArr2 w S (F i) (us.getD i default))
    (ha : ∀ i, i < n → w.cell? ⟨g, o + i, none⟩ = some (F i 0)) :
    Calls Try.prog 18 #[.slice (some ⟨g, o, none⟩) n c, .int .i64 l] w fun e w' => ∃ q, e = .returned (.int .i64 q) ∧ -1 ≤ q ∧ q ≤ l ∧ Lf l (szL (szL szArr) us) q ∧ Below w.heap.size w w' := by
  have HA := Seg.hid ha
  have HK := Seg.hid hf
  have HH := Seg.hid he
  have HN := Seg.hid hnl
  clear ha hf he hnl
  go_enter Try.func18, Try.ntmps18
  by_cases hlt : l - (n : Int) < 0
  · go_wp2
    go_ret
    exact ⟨_, rfl, by omega, by omega, ⟨fun h => absurd h (by omega), fun _ => by unfold szL; rw [HN.out]; omega⟩, Below.refl _ _⟩
  go_wp2
  go_loopw [1, 5] (fun x i wr => ∃ (k : Nat) (r : Int), k ≤ n ∧ x = .int .i64 r ∧ i = .int .i64 k ∧ 0 ≤ r ∧ r ≤ l ∧ Hid (Below w.heap.size w wr ∧ r = l - n - tot (szL szArr) (us.take k))) (fun _ i _ => n - (intOf i).toNat)
  case atStart => exact ⟨0, l - n, Nat.zero_le _, rfl, rfl, by omega, by omega, Below.refl _ _, by simp [tot]⟩
  case round =>
    obtain ⟨k, r, hk, rfl, rfl, hr0, hr1, HB⟩ := hrel
    by_cases hlt2 : k < n
    · have c0 : wr.cell? ⟨g, o + k, none⟩ = some (F k 0) := (HB.out.1.cell (p := ⟨g, o + k, none⟩) hg).trans (HA.out k hlt2)
      have RA : Hid (LAt 3 EArr wr S (F k 0) (us.getD k default)) := LAt.keep keepsArr (HH.out k hlt2) (fun g hg => HB.out.1.block g (hS g hg))
      have h0 : (0 : Int) ≤ (k : Int) := by omega
      have h1 : (k : Int) < (n : Int) := by omega
      have hbr : Hid (∀ g, S g → g < wr.heap.size) := fun g hg => Nat.lt_of_lt_of_le (hS g hg) HB.out.1.size
      have TK := Seg.hid (tot_take (szL szArr) (ts := us) (j := k) (by rw [HN.out]; exact hlt2))
      have TL := Seg.hid (tot_le (szL szArr) us (k + 1))
      have FK := Seg.hid (HK.out k hlt2)
      generalize us.getD k default = uk at *
      go_wp2_with fail
      refine (szArrivalS_any _ uk r wr S (by omega) (by omega) RA.out hbr.out FK.out).mono ?_
      rintro e w1 ⟨r1, rfl, hr2, hr3, hlf, b1⟩
      have B1 := Seg.hid (chain HB.out.1 b1)
      have FW := Seg.hid hlf
      clear b1 hlf
      by_cases hneg : r1 < 0
      · go_wp2
        go_ret
        refine ⟨-1, rfl, by omega, by omega, ⟨fun h => absurd h (by omega), fun _ => ?_⟩, B1.out⟩
        have m1 := FW.out.2 hneg; have m2 := HB.out.2; have m3 := TK.out; have m4 := TL.out
        rw [show szL (szL szArr) us = us.length + tot (szL szArr) us from rfl, HN.out]; omega
      · go_wp2
        go_roundw
        case rel =>
          refine ⟨k + 1, r1, by omega, rfl, by go_num, by omega, by omega, B1.out, ?_⟩
          have m1 := FW.out.1 (by omega); have m2 := HB.out.2; have m3 := TK.out
          omega
        case measure => simp [intOf]; omega
    · have : k = n := by omega
      subst this
      go_wp2
      go_ret
      refine ⟨r, rfl, by omega, by omega, ⟨fun _ => ?_, fun h => absurd h (by omega)⟩, HB.out.1⟩
      have m2 := HB.out.2
      rw [← HN.out, List.take_length, HN.out] at m2
      rw [show szL (szL szArr) us = us.length + tot (szL szArr) us from rfl, HN.out]; omega
theorem szArrivalSS_any (v : Value) (us : List (List Arr)) (l : Int) (w : World) (S : Nat → Prop) (h3 : -1 ≤ l) (h4 : l ≤ 1048576) (hv : LAt 1 EArr2 w S v us) (hS : ∀ g, S g → g < w.heap.size) (hf : FineL (FineL FineArr) us) :
    Calls Try.prog 18 #[v, .int .i64 l] w fun e w' => ∃ q, e = .returned (.int .i64 q) ∧ -1 ≤ q ∧ q ≤ l ∧ Lf l (szL (szL szArr) us) q ∧ Below w.heap.size w w' := by
  obtain ⟨hn, A, c, rfl, h⟩ := hv
  by_cases hz : us.length = 0
  · obtain rfl := List.length_eq_zero_iff.1 hz
    exact szArrivalSS_none A c l w h3 h4
  obtain ⟨g, o, F, rfl, hg, hc, hcell, hel⟩ := h.resolve_left hz
  exact szArrivalSS_core g o us.length c us F l w S h3 h4 hn hc (hS g hg) hS rfl hf.2 hel (cells1 hcell)
set_option maxHeartbeats 400000 in
theorem toArrivalSS_none (A : Option Addr) (c : Nat) (w : World) :
    Calls Try.prog 21 #[.slice A 0 c] w fun e w' => ∃ v, e = .returned v ∧ (∃ A c, v = .slice A 0 c) ∧ Below w.heap.size w w' := by
  obtain ⟨i0, hi, hz0, hz1, hz2⟩ := info_parts infoZArr2
  go_enter Try.func21, Try.ntmps21
  go_wp2_with (at_make; refine wpList_make_full _ rfl _ _ 52 rfl w.heap.size 85 i0 _ 1 Try.underlying52 hi hz0 hz1 .i64 .i64 _ _ 0 rfl rfl rfl rfl (by omega) (by unfold maxLen; omega) (Nat.le_refl _) ?_; intro w1 hown hgr)
  have hb1 := (Below.refl w.heap.size w).grown hgr (Nat.le_refl _) (fun k hk => by cases hk)
  have HB := Seg.hid hb1
  clear hown hgr hb1 hi hz0 hz1 hz2
  go_loop [4] (fun i => i = .int .i64 0) (fun i => 0)
  case atStart => rfl
  case round =>
    subst hrel
    go_wp2
    go_ret
    exact ⟨_, rfl, ⟨_, _, rfl⟩, HB.out⟩
set_option maxHeartbeats 800000 in
theorem toArrivalSS_core (g o n c : Nat) (us : List (List Arr)) (F0 : Nat → Nat → Value) (w : World) (S : Nat → Prop) (hn : n ≤ 1048576) (hc : n ≤ c) (hg : g < w.heap.size) (hS : ∀ g, S g → g < w.heap.size)
    (hf : ∀ i, i < n → (szL szArr) (us.getD i default) ≤ 1048576) (he : ∀ i, i < n → EArr2 w S (F0 i) (us.getD i default))
    (ha : ∀ i, i < n → w.cell? ⟨g, o + i, none⟩ = some (F0 i 0)) :
    Calls Try.prog 21 #[.slice (some ⟨g, o, none⟩) n c] w fun e w' => ∃ F, e = .returned (.slice (some ⟨w.heap.size, 0, none⟩) n n) ∧ Done 85 1 EArr2 w w' us n n F := by
  obtain ⟨i0, hi, hz0, hz1, hz2⟩ := info_parts infoZArr2
  have HA := Seg.hid ha; have HK := Seg.hid hf; have HH := Seg.hid he
  clear ha hf he
  go_enter Try.func21, Try.ntmps21
  go_wp2_with (at_make; refine wpList_make_full _ rfl _ _ 52 rfl w.heap.size 85 i0 _ 1 Try.underlying52 hi hz0 hz1 .i64 .i64 _ _ n rfl rfl rfl rfl (by rw [hz2]; omega) (by unfold maxLen; omega) (Nat.le_refl _) ?_; intro w1 hown hgr)
  have hb1 := (Below.refl w.heap.size w).grown hgr (Nat.le_refl _) (fun k hk => by cases hk)
  have HM := Seg.hid (Mine.of_made hown hown.1)
  have HB := Seg.hid hb1
  clear hown hgr hb1 hi hz0 hz1 hz2
  go_loopw [4] (fun i wr => ∃ (j : Nat) (F : Nat → Value), j ≤ n ∧ i = .int .i64 j ∧ Done 85 1 EArr2 w wr us n j F) (fun i _ => n - (intOf i).toNat)
  case atStart => exact ⟨0, _, Nat.zero_le _, rfl, HM.out, HB.out, fun i hi => absurd hi (by omega)⟩
  case round =>
    clear HM HB
    obtain ⟨j, F, hj, rfl, HR⟩ := hrel
    by_cases hlt : j < n
    · have c0 : wr.cell? ⟨g, o + j, none⟩ = some (F0 j 0) := (HR.bel.cell (p := ⟨g, o + j, none⟩) hg).trans (HA.out j hlt)
      have RA : Hid (LAt 3 EArr wr S (F0 j 0) (us.getD j default)) := LAt.keep keepsArr (HH.out j hlt) (fun g hg => HR.bel.block g (hS g hg))
      have FW := Seg.hid (HK.out j hlt)
      have hbr : Hid (∀ g, S g → g < wr.heap.size) := fun g hg => Nat.lt_of_lt_of_le (hS g hg) HR.bel.size
      have ST := Seg.hid (fun w1 vs hv b1 he => Done.step keepsArr2 growsArr2 (w1 := w1) HR vs hv b1 he)
      have HM := Seg.hid HR.mine
      have h0 : (0 : Int) ≤ (j : Int) := by omega
      have h1 : (j : Int) < (n : Int) := by omega
      clear HR
      generalize us.getD j default = uj at *
      go_wp2_with fail
      refine (toArrivalS_any _ uj wr S RA.out hbr.out FW.out).mono ?_
      rintro e w1 ⟨v1, rfl, he1, b1⟩
      obtain ⟨A1, c1, hv1⟩ := he1.form
      subst hv1
      have S1 := Seg.hid (ST.out w1 [.slice A1 uj.length c1] rfl b1 he1)
      have hm1 := HM.out.below b1 HM.out.lt
      have d1 : w1.cell? ⟨w.heap.size, j, none⟩ = some (F j) := hm1.cell j (by omega)
      have f1 := hm1.frozen j
      have SC : Hid (w1.setCells w.heap.size (j * 1) [.slice A1 uj.length c1] = w1.setCell ⟨w.heap.size, j, none⟩ (.slice A1 uj.length c1)) := by show _ = _; rw [Nat.mul_one]; rfl
      clear b1 he1 hm1
      go_wp2
      go_roundw
      case rel => exact ⟨j + 1, _, by omega, by go_num, by rw [← SC.out]; exact S1.out⟩
      case measure => simp [intOf]; omega
    · have : j = n := by omega
      subst this
      go_wp2
      go_ret
      exact ⟨F, rfl, HR⟩
theorem toArrivalSS_any (v : Value) (us : List (List Arr)) (w : World) (S : Nat → Prop) (hv : LAt 1 EArr2 w S v us) (hS : ∀ g, S g → g < w.heap.size) (hf : szL (szL szArr) us ≤ 1048576) :
    Calls Try.prog 21 #[v] w fun e w' => ∃ v', e = .returned v' ∧ LAt 1 EArr2 w' (seg w.heap.size w'.heap.size) v' us ∧ Below w.heap.size w w' := by
  obtain ⟨hn, A, c, rfl, h⟩ := hv
  by_cases hz : us.length = 0
  · obtain rfl := List.length_eq_zero_iff.1 hz
    refine (toArrivalSS_none A c w).mono fun e w' ⟨v', a1, ⟨A', c', a2⟩, a3⟩ => ⟨v', a1, ?_, a3⟩
    rw [a2]
    exact LAt.nil _ _ _ _
  obtain ⟨g, o, F, rfl, hg, hc, hcell, hel⟩ := h.resolve_left hz
  exact (toArrivalSS_core g o us.length c us F w S (szL_len _ hf) hc (hS g hg) hS (fun i hi => szL_one _ hf hi) hel (cells1 hcell)).mono fun e w' ⟨F, a1, a2⟩ => ⟨_, a1, a2.all growsArr2 hn, a2.bel⟩
theorem eqArrivalSS_none (A A' : Option Addr) (c c' : Nat) (w : World) :
    Calls Try.prog 25 #[.slice A 0 c, .slice A' 0 c'] w fun e w' => e = .returned (.bool true) ∧ Below w.heap.size w w' := by
  go_enter Try.func25, Try.ntmps25
  go_wp2
  go_loop [5] (fun i => i = .int .i64 0) (fun _ => 0)
  case atStart => rfl
  case round =>
    subst hrel
    go_wp2
    go_ret
    exact ⟨rfl, Below.refl _ _⟩
set_option maxHeartbeats 1600000 in
theorem eqArrivalSS_core (g o g' o' n c c' : Nat) (us : List (List Arr)) (F F' : Nat → Nat → Value) (w : World) (S S' : Nat → Prop) (hn : n ≤ 9223372036854775807) (hc : n ≤ c) (hc' : n ≤ c') (hg : g < w.heap.size) (hg' : g' < w.heap.size) (hS : ∀ g, S g → g < w.heap.size) (hS' : ∀ g, S' g → g < w.heap.size)
    (he : ∀ i, i < n → EArr2 w S (F i) (us.getD i default)) (he' : ∀ i, i < n → EArr2 w S' (F' i) (us.getD i default))
    (ha : ∀ i, i < n → w.cell? ⟨g, o + i, none⟩ = some (F i 0)) (ha' : ∀ i, i < n → w.cell? ⟨g', o' + i, none⟩ = some (F' i 0)) :
    Calls Try.prog 25 #[.slice (some ⟨g, o, none⟩) n c, .slice (some ⟨g', o', none⟩) n c'] w fun e w' => e = .returned (.bool true) ∧ Below w.heap.size w w' := by
  have HA := Seg.hid ha; have HA' := Seg.hid ha'; have HH := Seg.hid he; have HH' := Seg.hid he'
  clear ha ha' he he'
  go_enter Try.func25, Try.ntmps25
  go_wp2
  go_loopw [5] (fun i wr => ∃ (k : Nat), k ≤ n ∧ i = .int .i64 k ∧ Hid (Below w.heap.size w wr)) (fun i _ => n - (intOf i).toNat)
  case atStart => exact ⟨0, Nat.zero_le _, rfl, Below.refl _ _⟩
  case round =>
    obtain ⟨k, hk, rfl, HB⟩ := hrel
    by_cases hlt2 : k < n
    · have c0 : wr.cell? ⟨g, o + k, none⟩ = some (F k 0) := (HB.out.cell (p := ⟨g, o + k, none⟩) hg).trans (HA.out k hlt2)
      have d0 : wr.cell? ⟨g', o' + k, none⟩ = some (F' k 0) := (HB.out.cell (p := ⟨g', o' + k, none⟩) hg').trans (HA'.out k hlt2)
      have RA : Hid (LAt 3 EArr wr.drew S (F k 0) (us.getD k default)) := LAt.keep keepsArr (HH.out k hlt2) (fun g hg => HB.out.drew.block g (hS g hg))
      have RB : Hid (LAt 3 EArr wr.drew S' (F' k 0) (us.getD k default)) := LAt.keep keepsArr (HH'.out k hlt2) (fun g hg => HB.out.drew.block g (hS' g hg))
      have hbr : Hid (∀ g, S g → g < wr.drew.heap.size) := fun g hg => Nat.lt_of_lt_of_le (hS g hg) HB.out.size
      have hbr' : Hid (∀ g, S' g → g < wr.drew.heap.size) := fun g hg => Nat.lt_of_lt_of_le (hS' g hg) HB.out.size
      have h0 : (0 : Int) ≤ (k : Int) := by omega
      have h1 : (k : Int) < (n : Int) := by omega
      generalize us.getD k default = uk at *
      go_wp2_with fail
      go_region_with (go_at_call 66; refine (eqArrivalS_any _ _ uk wr.drew S S' RA.out RB.out hbr.out hbr'.out).mono ?_; rintro e w1 ⟨rfl, b1⟩; have B1 : Hid (Below w.heap.size w w1) := chainD HB.out b1; clear b1)
      all_goals
        go_wp2
        go_roundw
        case rel => exact ⟨k + 1, by omega, by go_num, B1.out⟩
        case measure => simp [intOf]; omega
    · have : k = n := by omega
      subst this
      go_wp2
      go_ret
      exact ⟨rfl, HB.out⟩
theorem eqArrivalSS_any (v v' : Value) (us : List (List Arr)) (w : World) (S S' : Nat → Prop) (hv : LAt 1 EArr2 w S v us) (hv' : LAt 1 EArr2 w S' v' us) (hS : ∀ g, S g → g < w.heap.size) (hS' : ∀ g, S' g → g < w.heap.size) :
    Calls Try.prog 25 #[v, v'] w fun e w' => e = .returned (.bool true) ∧ Below w.heap.size w w' := by
  obtain ⟨hn, A, c, rfl, h⟩ := hv
  obtain ⟨_, A', c', rfl, h'⟩ := hv'
  by_cases hz : us.length = 0
  · rw [hz]
    exact eqArrivalSS_none A A' c c' w
  obtain ⟨g, o, F, rfl, hg, hc, hcell, hel⟩ := h.resolve_left hz
  obtain ⟨g', o', F', rfl, hg', hc', hcell', hel'⟩ := h'.resolve_left hz
  exact eqArrivalSS_core g o g' o' us.length c c' us F F' w S S' hn hc hc' (hS g hg) (hS' g' hg') hS hS' hel hel' (cells1 hcell) (cells1 hcell')
end Go.Proofs.Ytkibaimemomjpaa.Ls
