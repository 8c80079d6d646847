/- A right Schema, on plain data; A set of names of the call's own: what it says. -/
import Derived.Maps.OwnSet
import Derived.Maps.Views
import Derived.StringKeys
import Derived.DeepKeys4
import Derived.Deep.Cut
import Derived.Test.YtdhicmbfknagjaaJMC08
import Derived.Test.YtdhicmbfknagjaaJMC09
import Derived.Test.YtdhicmbfknagjaaJMC10
import Derived.Test.YtdhicmbfknagjaaJMC02
namespace Go.Proofs.Ytdhicmbfknagjaa.ScP
set_option maxRecDepth 8000
open Go.RowKit
open Ls Lp VkP VkR
set_option linter.unusedVariables false
/-- All names that a field has or had. -/
def nms (f : Fld) : List ByteArray := f.name :: f.was
def hs (seen : List ByteArray) (n : ByteArray) : Bool := seen.any (fun m => m.toList == n.toList)
def dst (seen : List ByteArray) : List ByteArray → Bool
  | [] => true
  | n :: ns => !hs seen n && dst (seen ++ [n]) ns
def val (f : Fld) : Bool := if f.fixd = true then vof f.kind f.lst f.may (vluOf f) else zero (vluOf f)
def fOk (f : Fld) : Bool := decide (f.was.length ≤ 4) && kOk f.kind && (nms f).all Nm.nameOk && val f
def fA (f : Fld) : Bool := kOk f.kind && decide (f.was.length ≤ 4) && val f
def run (seen : List ByteArray) : List Fld → Bool
  | [] => true
  | f :: fs => fOk f && (dst seen (nms f) && run (seen ++ nms f) fs)
def sok (s : Sch) : Bool := Nm.nameOk s.name && inR 1 s.fields.length 20 && run [] s.fields
theorem dst_append : ∀ (a seen b : List ByteArray), dst seen (a ++ b) = (dst seen a && dst (seen ++ a) b)
  | [], seen, b => by simp [dst]
  | n :: a, seen, b => by
    simp only [List.cons_append, dst, dst_append a (seen ++ [n]) b, Bool.and_assoc, List.append_assoc, List.nil_append]
theorem run_eq : ∀ (fs : List Fld) (seen : List ByteArray), run seen fs = (fs.all fA && (fs.flatMap nms).all Nm.nameOk && dst seen (fs.flatMap nms))
  | [], seen => by simp [run, dst]
  | f :: fs, seen => by
    simp only [run, run_eq fs, List.flatMap_cons, List.all_cons, List.all_append, dst_append, fOk, fA]
    cases decide (f.was.length ≤ 4) <;> cases kOk f.kind <;> cases val f <;> cases (nms f).all Nm.nameOk <;> cases dst seen (nms f) <;> cases fs.all fA <;> cases (fs.flatMap nms).all Nm.nameOk <;> simp
theorem hs_push (seen : List ByteArray) (n s : ByteArray) : hs (seen ++ [n]) s = (hs seen s || (n.toList == s.toList)) := by simp [hs]
theorem dst_step {ns : List ByteArray} {k : Nat} (h : k < ns.length) (seen : List ByteArray) : dst (seen ++ ns.take k) (ns.drop k) = (!hs (seen ++ ns.take k) (ns.getD k default) && dst (seen ++ ns.take (k + 1)) (ns.drop (k + 1))) := by
  rw [drop_cons h, dst, List.take_succ_eq_append_getElem h]
  simp [h]
theorem run_step {fs : List Fld} {k : Nat} (h : k < fs.length) (seen : List ByteArray) : run seen (fs.drop k) = (fOk (fs.getD k default) && (dst seen (nms (fs.getD k default)) && run (seen ++ nms (fs.getD k default)) (fs.drop (k + 1)))) := by
  rw [drop_cons h, run]
theorem sz_name {f : Fld} (h : szFld f ≤ 1048576) : f.name.size ≤ 1048576 := by unfold szFld at h; omega
theorem sz_was {f : Fld} (h : szFld f ≤ 1048576) : szL ByteArray.size f.was ≤ 1048576 := by unfold szFld at h; omega
theorem len_was {f : Fld} (h : szFld f ≤ 1048576) : f.was.length ≤ 1048576 := szL_len _ (sz_was h)
theorem sz_nms {f : Fld} (h : szFld f ≤ 1048576) {k : Nat} (hk : k < (nms f).length) : ((nms f).getD k default).size ≤ 1048576 := by
  cases k with
  | zero => exact sz_name h
  | succ k =>
    have hk' : k < f.was.length := by simpa [nms] using hk
    have := szL_one ByteArray.size (sz_was h) hk'
    simpa [nms] using this
end Go.Proofs.Ytdhicmbfknagjaa.ScP
namespace Go.Proofs.Ytdhicmbfknagjaa.ScM
set_option maxRecDepth 8000
open Go.RowKit Go.Maps Go.ChangeShapes Go.WideShapes Go.ChangeMaps Go.MapKept Go.WideMaps
open Ls Lp VkP VkR ScP
open Recs (hsz below1 below2 below3 chain chainD)
set_option linter.unusedVariables false
theorem law : Keyed Try.prog 9 := string_keyed Try.underlying9
theorem zeroE (w : World) : (zeroValue 170).run Try.prog w = .ok (.agg #[]) w := by kernel_rfl
def key (s : ByteArray) : Lit := .string s.data.toList
theorem key_iff {a b : ByteArray} : key a = key b ↔ a.toList = b.toList := by
  unfold key
  rw [ByteArray.toList_eq, ByteArray.toList_eq]
  exact ⟨fun h => by injection h, fun h => by rw [h]⟩
theorem key_of {s : ByteArray} (h : s.size ≤ maxLen) : keyOf Try.prog 9 (.string s) = some (key s) := keyOf_string_mk Try.underlying9 h
def Says (D : DataW Unit) (seen : List ByteArray) : Prop := ∀ s : ByteArray, s.size ≤ maxLen → Maps.has D (key s) = hs seen s
def Set (w : World) (bm n : Nat) (seen : List ByteArray) : Prop := ∃ D : DataW Unit, w.ownsMap Try.prog 9 unitElem bm n D ∧ Says D seen
theorem Set.made (w : World) : Set (w.alloc (.map #[] 0)) w.heap.size 0 [] := ⟨_, World.ownsMap_made _ _ _ _, fun s _ => rfl⟩
theorem Set.lt {w : World} {bm n : Nat} {seen : List ByteArray} (h : Set w bm n seen) : bm < w.heap.size := by
  obtain ⟨D, h, _⟩ := h
  exact h.lt
theorem Set.keep {w w' : World} {bm n : Nat} {seen : List ByteArray} (h : Set w bm n seen) (hk : w'.heap[bm]? = w.heap[bm]?) : Set w' bm n seen := by
  obtain ⟨D, ⟨es, clock, hb, r⟩, h2⟩ := h
  exact ⟨D, ⟨es, clock, hk.trans hb, r⟩, h2⟩
theorem says_put {D : DataW Unit} {seen : List ByteArray} (h : Says D seen) (hD : IsMap D) (n : ByteArray) (d : DataW Unit) : Says (D.put (key n) d) (seen ++ [n]) := fun s hs' => by
  rw [hs_push]
  by_cases e : s.toList = n.toList
  · rw [key_iff.2 e, has_put_same hD (show WideAt.IsKeyLit (key n) from trivial)]
    simp [e]
  · rw [has_put_other (fun e' => e (key_iff.1 e')), h s hs']
    have : (n.toList == s.toList) = false := by simpa using fun e' => e e'.symm
    rw [this]; simp
theorem strs_cell {w w' : World} {S : Nat → Prop} {A : Option Addr} {c : Nat} {us : List ByteArray} {g o : Nat} {F : Nat → Nat → Value} (h : Opn 1 EStr w S A c us g o F) (hb : w'.heap[g]? = w.heap[g]?) {k : Nat} (hk : k < us.length) : w'.cell? ⟨g, o + k, none⟩ = some (.string (us.getD k default)) := by
  have e : F k 0 = .string (us.getD k default) := h.el k hk
  have c := h.cells k hk 0 (by omega)
  rw [e] at c
  rw [World.cell?_of_block (w := w) (a := ⟨g, o + k, none⟩) hb]
  simpa using c
set_option maxHeartbeats 1600000 in
theorem add_any (bm n B : Nat) (v : Value) (ns seen : List ByteArray) (w : World) (S : Nat → Prop) (hM : Set w bm n seen) (hB : B ≤ bm) (hv : StrsAt w S v ns) (hS : ∀ g, S g → g < w.heap.size) (hne : ∀ g, S g → g ≠ bm) (hz : ∀ k, k < ns.length → (ns.getD k default).size ≤ 1048576) (hn : n + ns.length < 9223372036854775807) :
    Calls Try.prog 88 #[.map (some bm), v] w fun e w' => e = .returned (.bool (dst seen ns)) ∧ Below B w w' ∧ (dst seen ns = true → Set w' bm (n + ns.length) (seen ++ ns)) := by
  obtain ⟨hn0, A, c, rfl, h⟩ := hv
  have HO : Hid (∃ g o F, Opn 1 EStr w S A c ns g o F ∧ (ns.length = 0 ∨ g ≠ bm)) := by
    by_cases hz : ns.length = 0
    · exact ⟨0, 0, fun _ _ => default, ⟨.inl hz, fun i hi => absurd hi (by omega), fun i hi => absurd hi (by omega)⟩, .inl hz⟩
    obtain ⟨g, o, F, rfl, hg, hc, hcell, hel⟩ := h.resolve_left hz
    exact ⟨g, o, F, ⟨.inr ⟨rfl, hc, hS g hg⟩, hcell, hel⟩, .inr (hne g hg)⟩
  clear h
  obtain ⟨g, o, F, OP, hgb⟩ := HO.out
  have HP := Seg.hid OP
  have HZ := Seg.hid hz
  have HM := Seg.hid hM
  clear HO OP hz hM
  go_enter Try.func88, Try.ntmps88
  go_wp2
  go_loopw [11] (fun i wr => ∃ k : Nat, k ≤ ns.length ∧ i = .int .i64 k ∧ Hid (Below B w wr ∧ Set wr bm (n + k) (seen ++ ns.take k) ∧ dst (seen ++ ns.take k) (ns.drop k) = dst seen ns ∧ w.heap.size ≤ wr.heap.size ∧ ∀ x, x < w.heap.size → x ≠ bm → wr.heap[x]? = w.heap[x]?)) (fun i _ => ns.length - (intOf i).toNat)
  case atStart => exact ⟨0, Nat.zero_le _, rfl, Below.refl _ _, by simpa using HM.out, by simp, Nat.le_refl _, fun _ _ _ => rfl⟩
  case round =>
    obtain ⟨k, hk, rfl, HG⟩ := hrel
    by_cases hlt : k < ns.length
    · obtain ⟨ea, hc, hgw⟩ := HP.out.addr.resolve_left (by omega)
      subst ea
      have d0 := strs_cell HP.out (HG.out.2.2.2.2 g hgw (hgb.resolve_left (by omega))) hlt
      have h0 : (0 : Int) ≤ (k : Int) := by omega
      have h1 : (k : Int) < (ns.length : Int) := by omega
      obtain ⟨D, hown, hsay⟩ := HG.out.2.1
      have TZ : Hid ((ns.getD k default).size ≤ maxLen) := by show _ ≤ _; have := HZ.out k hlt; unfold maxLen; omega
      have ST := Seg.hid (dst_step hlt seen)
      have TK : Hid (seen ++ ns.take (k + 1) = (seen ++ ns.take k) ++ [ns.getD k default]) := by show _ = _; rw [List.take_succ_eq_append_getElem hlt]; simp [hlt]
      have DE := Seg.hid HG.out.2.2.1
      have BE := Seg.hid HG.out.1
      have SZ := Seg.hid HG.out.2.2.2.1
      have KP := Seg.hid HG.out.2.2.2.2
      clear HG
      generalize hsn : ns.getD k default = nk at *
      have hbw : bm < wr.heap.size := hown.lt
      obtain ⟨wz, hwz⟩ : ∃ wz, wr.alloc (.cells #[] 170 (0, 0)) = wz := ⟨_, rfl⟩
      have OZ : Hid (wz.ownsMap Try.prog 9 unitElem bm (n + k) D) := by show World.ownsMap _ _ _ _ _ _ _; rw [← hwz]; exact hown.alloc _
      have OW := Seg.hid hown
      have BZ : Hid (Below B w wz) := by show Below _ _ _; rw [← hwz]; exact BE.out.alloc (by have := BE.out.size; omega) _
      have KZ : Hid (∀ x, x < wr.heap.size → wz.heap[x]? = wr.heap[x]?) := fun x hx => by rw [← hwz]; exact (below1 wr _).block x hx
      have SY : Hid (wr.heap.size ≤ wz.heap.size) := by show _ ≤ _; rw [← hwz, hsz]; omega
      have HH : Maps.has D (key nk) = hs (seen ++ ns.take k) nk := hsay nk TZ.out
      have SA := Seg.hid hsay
      clear hown hsay hsn
      go_upto_region 4 with fail
      cases hh : hs (seen ++ ns.take k) nk with
      | true =>
        rw [hh] at HH
        have R : Hid (dst seen ns = false) := by show _ = _; rw [← DE.out, ST.out, hh]; rfl
        clear hh
        go_wp2_with (at_lookup; refine wpList_lookup_own_unit _ rfl _ _ 134 rfl 9 170 law Try.underlying134 (zeroE _) bm (n + k) _ rfl OW.out _ _ rfl (key_of TZ.out) ?_; rw [HH])
        go_ret
        exact ⟨by rw [R.out]; rfl, by first | exact BZ.out | (rw [hwz]; exact BZ.out), fun h => absurd h (by rw [R.out]; simp)⟩
      | false =>
        rw [hh] at HH
        have R : Hid (dst (seen ++ ns.take (k + 1)) (ns.drop (k + 1)) = dst seen ns) := by show _ = _; rw [← DE.out, ST.out, hh]; rfl
        clear hh
        go_upto_region 5 with (at_lookup; refine wpList_lookup_own_unit _ rfl _ _ 134 rfl 9 170 law Try.underlying134 (zeroE _) bm (n + k) _ rfl OW.out _ _ rfl (key_of TZ.out) ?_; rw [HH])
        try rw [hwz]
        clear hwz
        go_wp2_with (at_mapUpdate; refine wpList_mapUpdate_own _ rfl _ _ _ 134 rfl 9 170 law Try.underlying134 _ bm (n + k) _ rfl OZ.out (by unfold maxLen; omega) _ _ _ rfl rfl (key_of TZ.out) _ [] unitElem_mk ?_; intro w3 hown3 hg3)
        go_roundw
        case rel =>
          refine ⟨k + 1, by omega, by go_num, BZ.out.grown hg3 (by have := SY.out; omega) (fun x hx => by cases hx; omega), ⟨_, hown3, ?_⟩, R.out, ?_, fun x hx hxb => ?_⟩
          · rw [TK.out]
            exact says_put SA.out OZ.out.isMap nk _
          · have := hg3.size
            have := SY.out
            have := SZ.out
            omega
          · rw [hg3.block x (by have := SY.out; have := SZ.out; omega) (by simp; omega), KZ.out x (by have := SZ.out; omega), KP.out x hx hxb]
        case measure => simp [intOf]; omega
    · obtain rfl : k = ns.length := by omega
      have R : Hid (dst seen ns = true) := by show _ = _; rw [← HG.out.2.2.1]; simp [dst]
      go_wp2
      go_ret
      exact ⟨by rw [R.out]; rfl, HG.out.1, fun _ => by have := HG.out.2.1; rwa [List.take_length] at this⟩
end Go.Proofs.Ytdhicmbfknagjaa.ScM
