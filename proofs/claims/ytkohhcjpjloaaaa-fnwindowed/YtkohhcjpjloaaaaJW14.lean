/- Names that are none of those seen and unlike each other: plain; A set of names of the call's own: what it says (as ScM, without the schemas). -/
import Derived.Maps.OwnSet
import Derived.Maps.Views
import Derived.StringKeys
import Derived.DeepKeys4
import Derived.Deep.Cut
import Derived.Test.YtkohhcjpjloaaaaJW12
import Derived.Test.YtkohhcjpjloaaaaJW03
namespace Go.Proofs.Ytkohhcjpjloaaaa.HsP
set_option maxRecDepth 8000
open Go.RowKit
open Ls Lp QyP
set_option linter.unusedVariables false
def hs (seen : List ByteArray) (n : ByteArray) : Bool := seen.any (fun m => m.toList == n.toList)
def dst (seen : List ByteArray) : List ByteArray → Bool
  | [] => true
  | n :: ns => !hs seen n && dst (seen ++ [n]) ns
theorem hs_push (seen : List ByteArray) (n s : ByteArray) : hs (seen ++ [n]) s = (hs seen s || (n.toList == s.toList)) := by simp [hs]
theorem dst_append : ∀ (a seen b : List ByteArray), dst seen (a ++ b) = (dst seen a && dst (seen ++ a) b)
  | [], seen, b => by simp [dst]
  | n :: a, seen, b => by
    simp only [List.cons_append, dst, dst_append a (seen ++ [n]) b, Bool.and_assoc, List.append_assoc, List.nil_append]
theorem dst_step {ns : List ByteArray} {k : Nat} (h : k < ns.length) (seen : List ByteArray) : dst (seen ++ ns.take k) (ns.drop k) = (!hs (seen ++ ns.take k) (ns.getD k default) && dst (seen ++ ns.take (k + 1)) (ns.drop (k + 1))) := by
  rw [drop_cons h, dst, List.take_succ_eq_append_getElem h]
  simp [h]
theorem diffN_succ (l : List ByteArray) (n : Nat) : diffN l (n + 1) = (diffN l n && unl l n) := by
  unfold diffN
  rw [List.range_succ, List.all_append, List.all_cons, List.all_nil, Bool.and_true]
theorem dst_run (l : List ByteArray) : ∀ n, n ≤ l.length → (diffN l n && dst (l.take n) (l.drop n)) = dst [] l
  | 0, _ => by simp [diffN]
  | n + 1, h => by
    have e := dst_step (ns := l) (k := n) (by omega) []
    simp only [List.nil_append] at e
    rw [← dst_run l n (by omega), e, diffN_succ, unl, hasT, hs, Bool.and_assoc]
theorem dst_diff (l : List ByteArray) : dst [] l = diff l := by
  rw [← dst_run l l.length (Nat.le_refl _)]
  simp [diff, dst]
theorem dst_one (seen : List ByteArray) (n : ByteArray) : dst seen [n] = !hs seen n := by simp [dst]
end Go.Proofs.Ytkohhcjpjloaaaa.HsP
namespace Go.Proofs.Ytkohhcjpjloaaaa.HsM
set_option maxRecDepth 8000
open Go.RowKit Go.Maps Go.ChangeShapes Go.WideShapes Go.ChangeMaps Go.MapKept Go.WideMaps
open Ls Lp QyP HsP
open Recs (hsz below1 below2 below3 chain)
set_option linter.unusedVariables false
theorem law : Keyed Try.prog 9 := string_keyed Try.underlying9
theorem zeroE (w : World) : (zeroValue 77).run Try.prog w = .ok (.agg #[]) w := by kernel_rfl
def key (s : ByteArray) : Lit := .string s.data.toList
theorem key_iff {a b : ByteArray} : key a = key b ↔ a.toList = b.toList := by
  unfold key
  rw [ByteArray.toList_eq, ByteArray.toList_eq]
  exact ⟨fun h => by injection h, fun h => by rw [h]⟩
theorem key_of {s : ByteArray} (h : s.size ≤ maxLen) : keyOf Try.prog 9 (.string s) = some (key s) := keyOf_string_mk Try.underlying9 h
def Says (D : DataW Unit) (seen : List ByteArray) : Prop := ∀ s : ByteArray, s.size ≤ maxLen → Maps.has D (key s) = hs seen s
def Set (w : World) (bm n : Nat) (seen : List ByteArray) : Prop := ∃ D : DataW Unit, w.ownsMap Try.prog 9 unitElem bm n D ∧ Says D seen
theorem Set.made (w : World) : Set (w.alloc (.map #[] 0)) w.heap.size 0 [] := ⟨_, World.ownsMap_made _ _ _ _, fun s _ => rfl⟩
theorem Set.lt {w : World} {bm n : Nat} {seen : List ByteArray} (h : Set w bm n seen) : bm < w.heap.size := by
  obtain ⟨D, h, _⟩ := h
  exact h.lt
theorem Set.keep {w w' : World} {bm n : Nat} {seen : List ByteArray} (h : Set w bm n seen) (hk : w'.heap[bm]? = w.heap[bm]?) : Set w' bm n seen := by
  obtain ⟨D, ⟨es, clock, hb, r⟩, h2⟩ := h
  exact ⟨D, ⟨es, clock, hk.trans hb, r⟩, h2⟩
theorem says_put {D : DataW Unit} {seen : List ByteArray} (h : Says D seen) (hD : IsMap D) (n : ByteArray) (d : DataW Unit) : Says (D.put (key n) d) (seen ++ [n]) := fun s hs' => by
  rw [hs_push]
  by_cases e : s.toList = n.toList
  · rw [key_iff.2 e, has_put_same hD (show WideAt.IsKeyLit (key n) from trivial)]
    simp [e]
  · rw [has_put_other (fun e' => e (key_iff.1 e')), h s hs']
    have : (n.toList == s.toList) = false := by simpa using fun e' => e e'.symm
    rw [this]; simp
set_option maxHeartbeats 1600000 in
theorem add_any (bm n B : Nat) (v : Value) (ns seen : List ByteArray) (w : World) (S : Nat → Prop) (hM : Set w bm n seen) (hB : B ≤ bm) (hv : StrsAt w S v ns) (hS : ∀ g, S g → g < w.heap.size) (hne : ∀ g, S g → g ≠ bm) (hz : ∀ k, k < ns.length → (ns.getD k default).size ≤ 1048576) (hn : n + ns.length < 9223372036854775807) :
    Calls Try.prog 42 #[.map (some bm), v] w fun e w' => e = .returned (.bool (dst seen ns)) ∧ Below B w w' ∧ (dst seen ns = true → Set w' bm (n + ns.length) (seen ++ ns)) := by
  obtain ⟨hn0, A, c, rfl, h⟩ := hv
  have HO : Hid (∃ g o F, Opn 1 EStr w S A c ns g o F ∧ (ns.length = 0 ∨ g ≠ bm)) := by
    by_cases hz : ns.length = 0
    · exact ⟨0, 0, fun _ _ => default, ⟨.inl hz, fun i hi => absurd hi (by omega), fun i hi => absurd hi (by omega)⟩, .inl hz⟩
    obtain ⟨g, o, F, rfl, hg, hc, hcell, hel⟩ := h.resolve_left hz
    exact ⟨g, o, F, ⟨.inr ⟨rfl, hc, hS g hg⟩, hcell, hel⟩, .inr (hne g hg)⟩
  clear h
  obtain ⟨g, o, F, OP, hgb⟩ := HO.out
  have HP := Seg.hid OP
  have HZ := Seg.hid hz
  have HM := Seg.hid hM
  clear HO OP hz hM
  go_enter Try.func42, Try.ntmps42
  go_wp2
  go_loopw [11] (fun i wr => ∃ k : Nat, k ≤ ns.length ∧ i = .int .i64 k ∧ Hid (Below B w wr ∧ Set wr bm (n + k) (seen ++ ns.take k) ∧ dst (seen ++ ns.take k) (ns.drop k) = dst seen ns ∧ w.heap.size ≤ wr.heap.size ∧ ∀ x, x < w.heap.size → x ≠ bm → wr.heap[x]? = w.heap[x]?)) (fun i _ => ns.length - (intOf i).toNat)
  case atStart => exact ⟨0, Nat.zero_le _, rfl, Below.refl _ _, by simpa using HM.out, by simp, Nat.le_refl _, fun _ _ _ => rfl⟩
  case round =>
    obtain ⟨k, hk, rfl, HG⟩ := hrel
    by_cases hlt : k < ns.length
    · obtain ⟨ea, hc, hgw⟩ := HP.out.addr.resolve_left (by omega)
      subst ea
      have d0 := strs_cell HP.out (HG.out.2.2.2.2 g hgw (hgb.resolve_left (by omega))) hlt
      have h0 : (0 : Int) ≤ (k : Int) := by omega
      have h1 : (k : Int) < (ns.length : Int) := by omega
      obtain ⟨D, hown, hsay⟩ := HG.out.2.1
      have TZ : Hid ((ns.getD k default).size ≤ maxLen) := by show _ ≤ _; have := HZ.out k hlt; unfold maxLen; omega
      have ST := Seg.hid (dst_step hlt seen)
      have TK : Hid (seen ++ ns.take (k + 1) = (seen ++ ns.take k) ++ [ns.getD k default]) := by show _ = _; rw [List.take_succ_eq_append_getElem hlt]; simp [hlt]
      have DE := Seg.hid HG.out.2.2.1
      have BE := Seg.hid HG.out.1
      have SZ := Seg.hid HG.out.2.2.2.1
      have KP := Seg.hid HG.out.2.2.2.2
      clear HG
      generalize hsn : ns.getD k default = nk at *
      have hbw : bm < wr.heap.size := hown.lt
      obtain ⟨wz, hwz⟩ : ∃ wz, wr.alloc (.cells #[] 77 (0, 0)) = wz := ⟨_, rfl⟩
      have OZ : Hid (wz.ownsMap Try.prog 9 unitElem bm (n + k) D) := by show World.ownsMap _ _ _ _ _ _ _; rw [← hwz]; exact hown.alloc _
      have OW := Seg.hid hown
      have BZ : Hid (Below B w wz) := by show Below _ _ _; rw [← hwz]; exact BE.out.alloc (by have := BE.out.size; omega) _
      have KZ : Hid (∀ x, x < wr.heap.size → wz.heap[x]? = wr.heap[x]?) := fun x hx => by rw [← hwz]; exact (below1 wr _).block x hx
      have SY : Hid (wr.heap.size ≤ wz.heap.size) := by show _ ≤ _; rw [← hwz, hsz]; omega
      have HH : Maps.has D (key nk) = hs (seen ++ ns.take k) nk := hsay nk TZ.out
      have SA := Seg.hid hsay
      clear hown hsay hsn
      go_upto_region 4 with fail
      cases hh : hs (seen ++ ns.take k) nk with
      | true =>
        rw [hh] at HH
        have R : Hid (dst seen ns = false) := by show _ = _; rw [← DE.out, ST.out, hh]; rfl
        clear hh
        go_wp2_with (at_lookup; refine wpList_lookup_own_unit _ rfl _ _ 69 rfl 9 77 law Try.underlying69 (zeroE _) bm (n + k) _ rfl OW.out _ _ rfl (key_of TZ.out) ?_; rw [HH])
        go_ret
        exact ⟨by rw [R.out]; rfl, by first | exact BZ.out | (rw [hwz]; exact BZ.out), fun h => absurd h (by rw [R.out]; simp)⟩
      | false =>
        rw [hh] at HH
        have R : Hid (dst (seen ++ ns.take (k + 1)) (ns.drop (k + 1)) = dst seen ns) := by show _ = _; rw [← DE.out, ST.out, hh]; rfl
        clear hh
        go_upto_region 5 with (at_lookup; refine wpList_lookup_own_unit _ rfl _ _ 69 rfl 9 77 law Try.underlying69 (zeroE _) bm (n + k) _ rfl OW.out _ _ rfl (key_of TZ.out) ?_; rw [HH])
        try rw [hwz]
        clear hwz
        go_wp2_with (at_mapUpdate; refine wpList_mapUpdate_own _ rfl _ _ _ 69 rfl 9 77 law Try.underlying69 _ bm (n + k) _ rfl OZ.out (by unfold maxLen; omega) _ _ _ rfl rfl (key_of TZ.out) _ [] unitElem_mk ?_; intro w3 hown3 hg3)
        go_roundw
        case rel =>
          refine ⟨k + 1, by omega, by go_num, BZ.out.grown hg3 (by have := SY.out; omega) (fun x hx => by cases hx; omega), ⟨_, hown3, ?_⟩, R.out, ?_, fun x hx hxb => ?_⟩
          · rw [TK.out]
            exact says_put SA.out OZ.out.isMap nk _
          · have := hg3.size
            have := SY.out
            have := SZ.out
            omega
          · rw [hg3.block x (by have := SY.out; have := SZ.out; omega) (by simp; omega), KZ.out x (by have := SZ.out; omega), KP.out x hx hxb]
        case measure => simp [intOf]; omega
    · obtain rfl : k = ns.length := by omega
      have R : Hid (dst seen ns = true) := by show _ = _; rw [← HG.out.2.2.1]; simp [dst]
      go_wp2
      go_ret
      exact ⟨by rw [R.out]; rfl, HG.out.1, fun _ => by have := HG.out.2.1; rwa [List.take_length] at this⟩
end Go.Proofs.Ytkohhcjpjloaaaa.HsM
