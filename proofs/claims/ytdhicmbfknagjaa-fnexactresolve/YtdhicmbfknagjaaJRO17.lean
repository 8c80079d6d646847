/- A set of names of the call's own: what it says; The program's ValueOk and ValueOf: kinds behind an interface. -/
import Derived.Maps.OwnSet
import Derived.Maps.Views
import Derived.StringKeys
import Derived.DeepKeys4
import Derived.Deep.Cut
import Derived.Deep.RegionHeld3
import Derived.Deep.RegionLaw
import Derived.BigQuiet
import Derived.WalkLawsBesides
import Derived.Laws.StructEq
import Derived.Test.YtdhicmbfknagjaaJRO16
import Derived.Test.YtdhicmbfknagjaaJRO02
import Derived.Test.YtdhicmbfknagjaaJRO13
namespace Go.Proofs.Ytdhicmbfknagjaa.ScM
set_option maxRecDepth 8000
open Go.RowKit Go.Maps Go.ChangeShapes Go.WideShapes Go.ChangeMaps Go.MapKept Go.WideMaps
open Ls Lp VkP VkR ScP
open Recs (hsz below1 below2 below3 chain chainD)
set_option linter.unusedVariables false
theorem law : Keyed Try.prog 9 := string_keyed Try.underlying9
theorem zeroE (w : World) : (zeroValue 170).run Try.prog w = .ok (.agg #[]) w := by kernel_rfl
def key (s : ByteArray) : Lit := .string s.data.toList
theorem key_iff {a b : ByteArray} : key a = key b ↔ a.toList = b.toList := by
  unfold key
  rw [ByteArray.toList_eq, ByteArray.toList_eq]
  exact ⟨fun h => by injection h, fun h => by rw [h]⟩
theorem key_of {s : ByteArray} (h : s.size ≤ maxLen) : keyOf Try.prog 9 (.string s) = some (key s) := keyOf_string_mk Try.underlying9 h
def Says (D : DataW Unit) (seen : List ByteArray) : Prop := ∀ s : ByteArray, s.size ≤ maxLen → Maps.has D (key s) = hs seen s
def Set (w : World) (bm n : Nat) (seen : List ByteArray) : Prop := ∃ D : DataW Unit, w.ownsMap Try.prog 9 unitElem bm n D ∧ Says D seen
theorem Set.made (w : World) : Set (w.alloc (.map #[] 0)) w.heap.size 0 [] := ⟨_, World.ownsMap_made _ _ _ _, fun s _ => rfl⟩
theorem Set.lt {w : World} {bm n : Nat} {seen : List ByteArray} (h : Set w bm n seen) : bm < w.heap.size := by
  obtain ⟨D, h, _⟩ := h
  exact h.lt
theorem Set.keep {w w' : World} {bm n : Nat} {seen : List ByteArray} (h : Set w bm n seen) (hk : w'.heap[bm]? = w.heap[bm]?) : Set w' bm n seen := by
  obtain ⟨D, ⟨es, clock, hb, r⟩, h2⟩ := h
  exact ⟨D, ⟨es, clock, hk.trans hb, r⟩, h2⟩
theorem says_put {D : DataW Unit} {seen : List ByteArray} (h : Says D seen) (hD : IsMap D) (n : ByteArray) (d : DataW Unit) : Says (D.put (key n) d) (seen ++ [n]) := fun s hs' => by
  rw [hs_push]
  by_cases e : s.toList = n.toList
  · rw [key_iff.2 e, has_put_same hD (show WideAt.IsKeyLit (key n) from trivial)]
    simp [e]
  · rw [has_put_other (fun e' => e (key_iff.1 e')), h s hs']
    have : (n.toList == s.toList) = false := by simpa using fun e' => e e'.symm
    rw [this]; simp
theorem strs_cell {w w' : World} {S : Nat → Prop} {A : Option Addr} {c : Nat} {us : List ByteArray} {g o : Nat} {F : Nat → Nat → Value} (h : Opn 1 EStr w S A c us g o F) (hb : w'.heap[g]? = w.heap[g]?) {k : Nat} (hk : k < us.length) : w'.cell? ⟨g, o + k, none⟩ = some (.string (us.getD k default)) := by
  have e : F k 0 = .string (us.getD k default) := h.el k hk
  have c := h.cells k hk 0 (by omega)
  rw [e] at c
  rw [World.cell?_of_block (w := w) (a := ⟨g, o + k, none⟩) hb]
  simpa using c
set_option maxHeartbeats 1600000 in
theorem add_any (bm n B : Nat) (v : Value) (ns seen : List ByteArray) (w : World) (S : Nat → Prop) (hM : Set w bm n seen) (hB : B ≤ bm) (hv : StrsAt w S v ns) (hS : ∀ g, S g → g < w.heap.size) (hne : ∀ g, S g → g ≠ bm) (hz : ∀ k, k < ns.length → (ns.getD k default).size ≤ 1048576) (hn : n + ns.length < 9223372036854775807) :
    Calls Try.prog 88 #[.map (some bm), v] w fun e w' => e = .returned (.bool (dst seen ns)) ∧ Below B w w' ∧ (dst seen ns = true → Set w' bm (n + ns.length) (seen ++ ns)) := by
  obtain ⟨hn0, A, c, rfl, h⟩ := hv
  have HO : Hid (∃ g o F, Opn 1 EStr w S A c ns g o F ∧ (ns.length = 0 ∨ g ≠ bm)) := by
    by_cases hz : ns.length = 0
    · exact ⟨0, 0, fun _ _ => default, ⟨.inl hz, fun i hi => absurd hi (by omega), fun i hi => absurd hi (by omega)⟩, .inl hz⟩
    obtain ⟨g, o, F, rfl, hg, hc, hcell, hel⟩ := h.resolve_left hz
    exact ⟨g, o, F, ⟨.inr ⟨rfl, hc, hS g hg⟩, hcell, hel⟩, .inr (hne g hg)⟩
  clear h
  obtain ⟨g, o, F, OP, hgb⟩ := HO.out
  have HP := Seg.hid OP
  have HZ := Seg.hid hz
  have HM := Seg.hid hM
  clear HO OP hz hM
  go_enter Try.func88, Try.ntmps88
  go_wp2
  go_loopw [11] (fun i wr => ∃ k : Nat, k ≤ ns.length ∧ i = .int .i64 k ∧ Hid (Below B w wr ∧ Set wr bm (n + k) (seen ++ ns.take k) ∧ dst (seen ++ ns.take k) (ns.drop k) = dst seen ns ∧ w.heap.size ≤ wr.heap.size ∧ ∀ x, x < w.heap.size → x ≠ bm → wr.heap[x]? = w.heap[x]?)) (fun i _ => ns.length - (intOf i).toNat)
  case atStart => exact ⟨0, Nat.zero_le _, rfl, Below.refl _ _, by simpa using HM.out, by simp, Nat.le_refl _, fun _ _ _ => rfl⟩
  case round =>
    obtain ⟨k, hk, rfl, HG⟩ := hrel
    by_cases hlt : k < ns.length
    · obtain ⟨ea, hc, hgw⟩ := HP.out.addr.resolve_left (by omega)
      subst ea
      have d0 := strs_cell HP.out (HG.out.2.2.2.2 g hgw (hgb.resolve_left (by omega))) hlt
      have h0 : (0 : Int) ≤ (k : Int) := by omega
      have h1 : (k : Int) < (ns.length : Int) := by omega
      obtain ⟨D, hown, hsay⟩ := HG.out.2.1
      have TZ : Hid ((ns.getD k default).size ≤ maxLen) := by show _ ≤ _; have := HZ.out k hlt; unfold maxLen; omega
      have ST := Seg.hid (dst_step hlt seen)
      have TK : Hid (seen ++ ns.take (k + 1) = (seen ++ ns.take k) ++ [ns.getD k default]) := by show _ = _; rw [List.take_succ_eq_append_getElem hlt]; simp [hlt]
      have DE := Seg.hid HG.out.2.2.1
      have BE := Seg.hid HG.out.1
      have SZ := Seg.hid HG.out.2.2.2.1
      have KP := Seg.hid HG.out.2.2.2.2
      clear HG
      generalize hsn : ns.getD k default = nk at *
      have hbw : bm < wr.heap.size := hown.lt
      obtain ⟨wz, hwz⟩ : ∃ wz, wr.alloc (.cells #[] 170 (0, 0)) = wz := ⟨_, rfl⟩
      have OZ : Hid (wz.ownsMap Try.prog 9 unitElem bm (n + k) D) := by show World.ownsMap _ _ _ _ _ _ _; rw [← hwz]; exact hown.alloc _
      have OW := Seg.hid hown
      have BZ : Hid (Below B w wz) := by show Below _ _ _; rw [← hwz]; exact BE.out.alloc (by have := BE.out.size; omega) _
      have KZ : Hid (∀ x, x < wr.heap.size → wz.heap[x]? = wr.heap[x]?) := fun x hx => by rw [← hwz]; exact (below1 wr _).block x hx
      have SY : Hid (wr.heap.size ≤ wz.heap.size) := by show _ ≤ _; rw [← hwz, hsz]; omega
      have HH : Maps.has D (key nk) = hs (seen ++ ns.take k) nk := hsay nk TZ.out
      have SA := Seg.hid hsay
      clear hown hsay hsn
      go_upto_region 4 with fail
      cases hh : hs (seen ++ ns.take k) nk with
      | true =>
        rw [hh] at HH
        have R : Hid (dst seen ns = false) := by show _ = _; rw [← DE.out, ST.out, hh]; rfl
        clear hh
        go_wp2_with (at_lookup; refine wpList_lookup_own_unit _ rfl _ _ 134 rfl 9 170 law Try.underlying134 (zeroE _) bm (n + k) _ rfl OW.out _ _ rfl (key_of TZ.out) ?_; rw [HH])
        go_ret
        exact ⟨by rw [R.out]; rfl, by first | exact BZ.out | (rw [hwz]; exact BZ.out), fun h => absurd h (by rw [R.out]; simp)⟩
      | false =>
        rw [hh] at HH
        have R : Hid (dst (seen ++ ns.take (k + 1)) (ns.drop (k + 1)) = dst seen ns) := by show _ = _; rw [← DE.out, ST.out, hh]; rfl
        clear hh
        go_upto_region 5 with (at_lookup; refine wpList_lookup_own_unit _ rfl _ _ 134 rfl 9 170 law Try.underlying134 (zeroE _) bm (n + k) _ rfl OW.out _ _ rfl (key_of TZ.out) ?_; rw [HH])
        try rw [hwz]
        clear hwz
        go_wp2_with (at_mapUpdate; refine wpList_mapUpdate_own _ rfl _ _ _ 134 rfl 9 170 law Try.underlying134 _ bm (n + k) _ rfl OZ.out (by unfold maxLen; omega) _ _ _ rfl rfl (key_of TZ.out) _ [] unitElem_mk ?_; intro w3 hown3 hg3)
        go_roundw
        case rel =>
          refine ⟨k + 1, by omega, by go_num, BZ.out.grown hg3 (by have := SY.out; omega) (fun x hx => by cases hx; omega), ⟨_, hown3, ?_⟩, R.out, ?_, fun x hx hxb => ?_⟩
          · rw [TK.out]
            exact says_put SA.out OZ.out.isMap nk _
          · have := hg3.size
            have := SY.out
            have := SZ.out
            omega
          · rw [hg3.block x (by have := SY.out; have := SZ.out; omega) (by simp; omega), KZ.out x (by have := SZ.out; omega), KP.out x hx hxb]
        case measure => simp [intOf]; omega
    · obtain rfl : k = ns.length := by omega
      have R : Hid (dst seen ns = true) := by show _ = _; rw [← HG.out.2.2.1]; simp [dst]
      go_wp2
      go_ret
      exact ⟨by rw [R.out]; rfl, HG.out.1, fun _ => by have := HG.out.2.1; rwa [List.take_length] at this⟩
end Go.Proofs.Ytdhicmbfknagjaa.ScM
namespace Go.Proofs.Ytdhicmbfknagjaa.VkI
set_option maxRecDepth 8000
open Go.RowKit
open Ls Lp VkP VkR
open Recs (hsz below1 below2 below3 chain chainD)
set_option linter.unusedVariables false
set_option maxHeartbeats 800000 in
theorem flag_any (n : Int) (t : ByteArray) (w : World) : Calls Try.prog 179 #[.agg #[], .agg #[.int .i64 n, .string t]] w fun e w' => e = .returned (.bool (hasN 0 1 n t)) ∧ Below w.heap.size w w' := by
  go_enter Try.func179, Try.ntmps179
  obtain ⟨b, hb⟩ : ∃ b, inR 0 n 1 = b := ⟨_, rfl⟩
  obtain ⟨e, he⟩ : ∃ e, (t.toList == []) = e := ⟨_, rfl⟩
  have R : Hid (hasN 0 1 n t = (b && e)) := by show _ = _; unfold hasN em; rw [hb, he]
  have HB := Seg.hid hb
  clear hb
  cases b <;> cases e
  all_goals
    go_wp2_with (go_at_call 41; refine (InB.within_b _ _ _ _ HB.out _).mono ?_; rintro e w5 ⟨rfl, rfl⟩)
    go_ret
    exact ⟨by rw [R.out]; rfl, below2 _ _ _⟩
set_option maxHeartbeats 800000 in
theorem num_any (lo hi n : Int) (t : ByteArray) (w : World) : Calls Try.prog 174 #[.agg #[.int .i64 lo, .int .i64 hi], .agg #[.int .i64 n, .string t]] w fun e w' => e = .returned (.bool (hasN lo hi n t)) ∧ Below w.heap.size w w' := by
  go_enter Try.func174, Try.ntmps174
  obtain ⟨b, hb⟩ : ∃ b, inR lo n hi = b := ⟨_, rfl⟩
  obtain ⟨e, he⟩ : ∃ e, (t.toList == []) = e := ⟨_, rfl⟩
  have R : Hid (hasN lo hi n t = (b && e)) := by show _ = _; unfold hasN em; rw [hb, he]
  have HB := Seg.hid hb
  clear hb
  cases b <;> cases e
  all_goals
    go_wp2_with (go_at_call 41; refine (InB.within_b _ _ _ _ HB.out _).mono ?_; rintro e w5 ⟨rfl, rfl⟩)
    go_ret
    exact ⟨by rw [R.out]; rfl, below2 _ _ _⟩
theorem wrap_b (b : UInt8) : wrap64 (b.toNat : Int) = b.toNat := by
  have := b.toNat_lt
  unfold wrap64
  omega
theorem textOk_any (t : ByteArray) (w : World) (b : Bool) (hb : decide (t.size ≤ 100) = b) : Calls Try.prog 144 #[.string t] w fun e w' => e = .returned (.bool b) ∧ w = w' := by
  subst hb
  go_enter Try.func144, Try.ntmps144
  go_wp2
  go_ret
  exact ⟨Seg.ret_bool (by rw [Bool.eq_iff_iff]; simp; try omega), rfl⟩
set_option maxHeartbeats 800000 in
theorem text_any (n : Int) (t : ByteArray) (w : World) (ht : t.size ≤ maxLen) : Calls Try.prog 184 #[.agg #[], .agg #[.int .i64 n, .string t]] w fun e w' => e = .returned (.bool (hasT n t)) ∧ Below w.heap.size w w' := by
  unfold maxLen at ht
  go_enter Try.func184, Try.ntmps184
  by_cases h0 : n = 0
  · subst h0
    cases hz : decide (t.size ≤ 100) with
    | false =>
      have R : Hid (hasT 0 t = false) := by show _ = _; unfold hasT; rw [hz]; rfl
      have HZ := Seg.hid hz
      clear hz
      go_wp2_with (go_at_call 144; refine (textOk_any _ _ _ HZ.out).mono ?_; rintro e w5 ⟨rfl, rfl⟩)
      go_ret
      exact ⟨by rw [R.out]; rfl, below2 _ _ _⟩
    | true =>
      have HZ := Seg.hid hz
      have R : Hid (hasT 0 t = ltrs t t.size) := by show _ = _; unfold hasT; rw [hz]; rfl
      clear hz
      go_wp2_with (go_at_call 144; refine (textOk_any _ _ _ HZ.out).mono ?_; rintro e w5 ⟨rfl, rfl⟩)
      go_loop [18, 5] (fun i j => ∃ k : Nat, k ≤ t.size ∧ i = .int .i64 k ∧ Hid (ltrs t k = true)) (fun i j => t.size - (intOf i).toNat)
      case atStart => exact ⟨0, Nat.zero_le _, rfl, ltrs_zero t⟩
      case round =>
        obtain ⟨k, hk, rfl, HG⟩ := hrel
        by_cases hlt : k < t.size
        · have h0 : (0 : Int) ≤ (k : Int) := by omega
          have h1 : (k : Int) < (t.size : Int) := by omega
          cases hy : ltr t k with
          | true =>
            have HY : Hid (inR 32 (t[k].toNat : Int) 126 = true) := by show _ = _; rw [← ltr_at t k hlt]; exact hy
            have HL := Seg.hid hy
            clear hy
            go_wp2_with (go_at_call 41; refine (InB.within_b _ _ _ true (by rw [wrap_b]; exact HY.out) _).mono ?_; rintro e w5 ⟨rfl, rfl⟩)
            go_round
            case rel => exact ⟨k + 1, by omega, by go_num, (by show ltrs t (k + 1) = true; rw [ltrs_succ, HG.out, HL.out]; rfl)⟩
            case measure => simp [intOf]; omega
          | false =>
            have HY : Hid (inR 32 (t[k].toNat : Int) 126 = false) := by show _ = _; rw [← ltr_at t k hlt]; exact hy
            have HL : Hid (ltrs t t.size = false) := ltrs_bad t k _ hlt hy
            clear hy
            go_wp2_with (go_at_call 41; refine (InB.within_b _ _ _ false (by rw [wrap_b]; exact HY.out) _).mono ?_; rintro e w5 ⟨rfl, rfl⟩)
            go_ret
            exact ⟨by rw [R.out, HL.out]; rfl, below2 _ _ _⟩
        · obtain rfl : k = t.size := by omega
          go_wp2
          go_ret
          exact ⟨by rw [R.out, HG.out]; rfl, below2 _ _ _⟩
  · have R : Hid (hasT n t = false) := by show _ = _; simp [hasT, h0]
    have h1 : (n != 0) = true := by simp [h0]
    go_wp2
    go_ret
    exact ⟨by rw [R.out]; rfl, below2 _ _ _⟩
/-- What kindOf makes of a kind. -/
def ifc (k : Int) : Value := if k = 1 then .iface 179 (.agg #[]) else if k = 4 then .iface 180 (.agg #[]) else .iface 178 (.agg #[.int .i64 (loK k), .int .i64 (hiK k)])
set_option maxHeartbeats 1600000 in
theorem kind_yes (k : Int) (w : World) (h : kOk k = true) : Calls Try.prog 98 #[.int .i64 k] w fun e w' => e = .returned (.tuple #[ifc k, .bool true]) ∧ Below w.heap.size w w' := by
  rcases kOk_cases h with rfl | rfl | rfl | rfl
  all_goals
    clear h
    go_enter Try.func98, Try.ntmps98
    go_wp2
    go_ret2
    exact ⟨rfl, below1 _ _⟩
set_option maxHeartbeats 1600000 in
theorem kind_no (k : Int) (w : World) (h : kOk k = false) : Calls Try.prog 98 #[.int .i64 k] w fun e w' => e = .returned (.tuple #[.nilIface, .bool false]) ∧ Below w.heap.size w w' := by
  obtain ⟨a, b, c, d⟩ := kOk_not h
  clear h
  go_enter Try.func98, Try.ntmps98
  go_wp2
  go_ret2
  exact ⟨rfl, below1 _ _⟩
set_option maxHeartbeats 800000 in
theorem only_any (k n : Int) (t : ByteArray) (l v : Value) (w : World) : Calls Try.prog 99 #[.agg #[.int .i64 k, .int .i64 n, .string t, l, v]] w fun e w' => e = .returned (.agg #[.int .i64 n, .string t]) ∧ Below w.heap.size w w' := by
  go_enter Try.func99, Try.ntmps99
  go_wp2
  exact bodyPost_ret (v := .agg #[.int .i64 n, .string t]) (results_cell_row rfl _ _ (w.heap.size + 1) _ _ _ _ rfl (at2y _ _ _) Try.underlying99 rfl infoItm) rfl ⟨rfl, below2 _ _ _⟩
set_option maxHeartbeats 1600000 in
theorem zero_any (u : Vlu) (A : Option Addr) (c : Nat) (w : World) : Calls Try.prog 120 #[.agg (vrow u A c)] w fun e w' => e = .returned (.bool (zero u)) ∧ Below w.heap.size w w' := by
  go_enter Try.func120, Try.ntmps120
  by_cases h0 : u.kind = 0
  · cases hl : u.lst with
    | true =>
      have R : Hid (zero u = false) := by show _ = _; simp [zero, hl]
      go_wp2
      go_ret
      exact ⟨by rw [R.out]; rfl, below1 _ _⟩
    | false =>
      obtain ⟨e, he⟩ : ∃ e, (u.text.toList == []) = e := ⟨_, rfl⟩
      obtain ⟨m, hm⟩ : ∃ m, decide (u.items.length = 0) = m := ⟨_, rfl⟩
      by_cases h1 : u.num = 0
      · have R : Hid (zero u = (e && m)) := by show _ = _; simp [zero, nil0, em, he, h0, hl, h1, ← hm]
        cases m with
        | true =>
          have hm0 : u.items.length = 0 := by simpa using hm
          clear hm
          cases e
          all_goals
            go_wp2_with fail
            refine (only_any _ _ _ _ _ _).mono ?_
            rintro e w1 ⟨rfl, b1⟩
            have B1 := Seg.hid (chain (below1 w _) b1)
            have c4 : w1.cell? ⟨w.heap.size, 4, none⟩ = some (.slice A u.items.length c) := cell_of_row w1 _ 4 _ _ (0, 0) ((b1.block w.heap.size (by rw [hsz]; omega)).trans (heap_alloc_new w _))
            clear b1
            go_wp2
            go_ret
            exact ⟨by rw [R.out]; rfl, B1.out⟩
        | false =>
          have hm0 : ¬ u.items.length = 0 := by simpa using hm
          clear hm
          have hm1 : ((u.items.length : Int) == 0) = false := by
            have : ¬ (u.items.length : Int) = 0 := by omega
            simpa using this
          cases e
          all_goals
            go_wp2_with fail
            refine (only_any _ _ _ _ _ _).mono ?_
            rintro e w1 ⟨rfl, b1⟩
            have B1 := Seg.hid (chain (below1 w _) b1)
            have c4 : w1.cell? ⟨w.heap.size, 4, none⟩ = some (.slice A u.items.length c) := cell_of_row w1 _ 4 _ _ (0, 0) ((b1.block w.heap.size (by rw [hsz]; omega)).trans (heap_alloc_new w _))
            clear b1
            go_wp2
            go_ret
            exact ⟨by rw [R.out]; rfl, B1.out⟩
      · have R : Hid (zero u = false) := by show _ = _; simp [zero, nil0, h1]
        go_wp2_with fail
        refine (only_any _ _ _ _ _ _).mono ?_
        rintro e w1 ⟨rfl, b1⟩
        have B1 := Seg.hid (chain (below1 w _) b1)
        clear b1
        go_wp2
        go_ret
        exact ⟨by rw [R.out]; rfl, B1.out⟩
  · have R : Hid (zero u = false) := by show _ = _; simp [zero, h0]
    go_wp2
    go_ret
    exact ⟨by rw [R.out]; rfl, below1 _ _⟩
/-- What the walk knows of a kind behind the interface. -/
structure Kn (k : Int) (ty K : Nat) (x : Value) : Prop where
  num : K = 179 ∨ K = 174 ∨ K = 184
  ifc : ifc k = .iface ty x
  nil : ∀ w : World, (nilAhead 343 ty x "loop.example/g00035/impl.has").run Try.prog w = .ok (some false) w
  meth : ∀ w : World, (method 343 ty x "loop.example/g00035/impl.has").run Try.prog w = .ok (K, x) w
  calls : ∀ (n : Int) (t : ByteArray) (wx : World), t.size ≤ maxLen → Calls Try.prog K #[x, .agg #[.int .i64 n, .string t]] wx fun e w' => e = .returned (.bool (has k n t)) ∧ Below wx.heap.size wx w'
theorem kn_any (k : Int) (h : kOk k = true) : ∃ ty K x, Kn k ty K x := by
  rcases kOk_cases h with rfl | rfl | rfl | rfl
  · exact ⟨179, 179, .agg #[], by decide, rfl, fun _ => by kernel_rfl, fun _ => by kernel_rfl, fun n t wx _ => flag_any n t wx⟩
  · exact ⟨178, 174, _, by decide, rfl, fun _ => by kernel_rfl, fun _ => by kernel_rfl, fun n t wx _ => num_any _ _ n t wx⟩
  · exact ⟨178, 174, _, by decide, rfl, fun _ => by kernel_rfl, fun _ => by kernel_rfl, fun n t wx _ => num_any _ _ n t wx⟩
  · exact ⟨180, 184, .agg #[], by decide, rfl, fun _ => by kernel_rfl, fun _ => by kernel_rfl, fun n t wx ht => text_any n t wx ht⟩
end Go.Proofs.Ytdhicmbfknagjaa.VkI
