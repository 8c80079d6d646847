/- The bytes of a row, plain; What the model writes of an item. -/
import Derived.Deep.RegionHeld3
import Derived.Deep.RegionLaw
import Derived.Test.YtdhicmbfknagjaaJWT07
import Derived.Test.YtdhicmbfknagjaaJWT20
import Derived.Test.YtdhicmbfknagjaaJWT10
namespace Go.Proofs.Ytdhicmbfknagjaa.WwP
set_option maxRecDepth 8000
open Go.RowKit
open Ls Lp VkP VkR ScP RoP
open Nums (put)
open WrP (txt txt_len)
set_option linter.unusedVariables false
def itB (k n : Int) (t : ByteArray) : List Int := if k = 1 then [n] else if k = 4 then put (t.size : Int) ++ txt t else put n
def itsB (k : Int) (us : List Itm) : List Int := us.flatMap fun i => itB k i.num i.text
def vaB (u : Vlu) : List Int := if u.lst = true then put (u.items.length : Int) ++ itsB u.kind u.items else itB u.kind u.num u.text
def valB (m : Bool) (u : Vlu) : List Int := if kOk u.kind = true then (if m = true then [1] else []) ++ vaB u else [0]
def fldB (fs : List Fld) (us : List Vlu) (k : Nat) : List Int := valB (fs.getD k default).may (us.getD k default)
def rowB (fs : List Fld) (us : List Vlu) (n : Nat) : List Int := (List.range n).flatMap (fldB fs us)
def wrow (id : Int) (s : Sch) (us : List Vlu) : List Int := if (inR 0 id 1000000000 && rowOk s us) = true then put id ++ rowB s.fields us s.fields.length else []
theorem put10 {n : Int} (h : -1000000000000000000 ≤ n ∧ n ≤ 1000000000000000000) : (put n).length ≤ 10 := Nums.put_len (by omega) (by omega)
theorem has_num {k n : Int} {t : ByteArray} (h : has k n t = true) (h1 : k ≠ 1) (h4 : k ≠ 4) : -1000000000000000 ≤ n ∧ n ≤ 1000000000000000 := by
  unfold has at h
  rw [if_neg h1, if_neg h4] at h
  split at h
  · next hk =>
    simp only [hasN, Bool.and_eq_true] at h
    have := inR_true h.1
    rcases hk with rfl | rfl
    · simp [loK, hiK] at this; omega
    · simp [loK, hiK] at this; omega
  · cases h
theorem has_flag {n : Int} {t : ByteArray} (h : has 1 n t = true) : 0 ≤ n ∧ n ≤ 1 := by
  simp only [has, if_true, hasN, Bool.and_eq_true] at h
  exact inR_true h.1
theorem has_text {n : Int} {t : ByteArray} (h : has 4 n t = true) : n = 0 ∧ t.size ≤ 100 := by
  unfold has at h
  rw [if_neg (by omega), if_pos rfl] at h
  simp only [hasT, Bool.and_eq_true, decide_eq_true_eq] at h
  exact ⟨h.1.1, h.1.2⟩
theorem itB_len {k n : Int} {t : ByteArray} (h : has k n t = true) : (itB k n t).length ≤ 110 := by
  unfold itB
  split
  · simp
  · next h1 =>
    split
    · next h4 =>
      subst h4
      have := (has_text h).2
      have := put10 (n := (t.size : Int)) (by omega)
      rw [List.length_append, txt_len]
      omega
    · next h4 =>
      have := has_num h h1 h4
      have := put10 (n := n) (by omega)
      omega
theorem itsB_zero (k : Int) (us : List Itm) : itsB k (us.take 0) = [] := by simp [itsB]
theorem itsB_next {k : Int} {us : List Itm} {j : Nat} (hj : j < us.length) : itsB k (us.take (j + 1)) = itsB k (us.take j) ++ itB k (us.getD j default).num (us.getD j default).text := by
  unfold itsB
  rw [List.take_succ_eq_append_getElem hj, List.flatMap_append, List.flatMap_cons, List.flatMap_nil, List.append_nil, show us.getD j default = us[j] by simp [hj]]
theorem itsB_len {k : Int} {us : List Itm} (h : us.all (hasI k) = true) : ∀ j, j ≤ us.length → (itsB k (us.take j)).length ≤ 110 * j
  | 0, _ => by simp [itsB]
  | j + 1, hj => by
    have h1 := itsB_len h j (by omega)
    rw [itsB_next (by omega), List.length_append]
    have h2 : hasI k (us.getD j default) = true := by
      have := List.all_eq_true.1 h us[j] (List.getElem_mem (by omega))
      simpa [show j < us.length by omega] using this
    have h3 := itB_len (k := k) (n := (us.getD j default).num) (t := (us.getD j default).text) h2
    omega
theorem vok_one {u : Vlu} (hk : kOk u.kind = true) (hl : u.lst = false) (h : vok u = true) : has u.kind u.num u.text = true := by
  unfold vok at h
  rw [hk, hl] at h
  simp at h
  exact h.2
theorem vok_list {u : Vlu} (hk : kOk u.kind = true) (hl : u.lst = true) (h : vok u = true) : u.items.length ≤ 30 ∧ u.items.all (hasI u.kind) = true := by
  unfold vok at h
  rw [hk, hl] at h
  simp only [Bool.true_eq_false, if_false, Bool.and_eq_true, decide_eq_true_eq] at h
  exact ⟨h.1.2, h.2⟩
theorem vaB_len {u : Vlu} (hk : kOk u.kind = true) (h : vok u = true) : (vaB u).length ≤ 3310 := by
  unfold vaB
  split
  · next hl =>
    obtain ⟨h1, h2⟩ := vok_list hk hl h
    have h3 := itsB_len h2 u.items.length (Nat.le_refl _)
    rw [List.take_length] at h3
    have := put10 (n := (u.items.length : Int)) (by omega)
    rw [List.length_append]
    omega
  · next hl =>
    have := itB_len (vok_one hk (by simpa using hl) h)
    omega
theorem valB_len {m : Bool} {u : Vlu} (h : kOk u.kind = true → vok u = true) : (valB m u).length ≤ 3311 := by
  unfold valB
  split
  · next hk =>
    have := vaB_len hk (h hk)
    rw [List.length_append]
    cases m <;> simp <;> omega
  · simp
/-- What a value of its field is. -/
theorem one_vok {fs : List Fld} {us : List Vlu} {k : Nat} (h : oneAt fs us k = true) : vok (us.getD k default) = true ∧ ((us.getD k default).kind = 0 → (fs.getD k default).may = true) ∧ ((us.getD k default).kind ≠ 0 → kOk (us.getD k default).kind = true) := by
  unfold oneAt vof at h
  simp only [Bool.and_eq_true] at h
  refine ⟨h.1.2, fun h0 => ?_, fun h0 => ?_⟩
  · have := h.2
    rwa [if_pos h0] at this
  · have := h.2
    rw [if_neg h0] at this
    simp only [Bool.and_eq_true, decide_eq_true_eq] at this
    rw [this.1]
    exact h.1.1
theorem rowB_zero (fs : List Fld) (us : List Vlu) : rowB fs us 0 = [] := rfl
theorem rowB_next (fs : List Fld) (us : List Vlu) (k : Nat) : rowB fs us (k + 1) = rowB fs us k ++ fldB fs us k := by simp [rowB, List.range_succ]
theorem rowB_len {fs : List Fld} {us : List Vlu} {n : Nat} (h : rowL fs us n = true) : ∀ k, k ≤ n → (rowB fs us k).length ≤ 3311 * k
  | 0, _ => by simp [rowB]
  | k + 1, hk => by
    have h1 := rowB_len h k (by omega)
    have h2 : (fldB fs us k).length ≤ 3311 := valB_len (fun _ => (one_vok (rowL_at (by omega) h)).1)
    rw [rowB_next, List.length_append]
    omega
theorem wrow_len (id : Int) (s : Sch) (us : List Vlu) : (wrow id s us).length ≤ 100000 := by
  unfold wrow
  split
  · next h =>
    simp only [Bool.and_eq_true, rowOk] at h
    have h1 := inR_true h.1
    have h2 := rowB_len h.2.2.2 s.fields.length (Nat.le_refl _)
    have h3 : s.fields.length ≤ 20 := by
      have := h.2.1
      simp only [sok, Bool.and_eq_true] at this
      have := inR_true this.1.2
      omega
    have := put10 (n := id) (by omega)
    rw [List.length_append]
    omega
  · simp
end Go.Proofs.Ytdhicmbfknagjaa.WwP
namespace Go.Proofs.Ytdhicmbfknagjaa.WwS
set_option maxRecDepth 8000
open Go.RowKit
open Ls Lp VkP VkR WwP
open SqP (Out app)
open Nums (put)
open PuI (Ext below_grown out_below out_lt out_cell)
open WrP (txt txt_len)
open Recs (hsz below1 below2 below3 chain chainD)
set_option linter.unusedVariables false
set_option maxHeartbeats 1600000 in
theorem write_any (k n : Int) (t : ByteArray) (g cap base : Nat) (out : List Int) (w : World) (hh : has k n t = true) (ho1 : out.length ≤ 800000) (ho : Out w base g cap out) (hbase : base ≤ w.heap.size) :
    Calls Try.prog 56 #[.slice (some ⟨g, 0, none⟩) out.length cap, .int .i64 k, .agg #[.int .i64 n, .string t]] w fun e w' => Ext w w' base g (out ++ itB k n t) e := by
  have HO := Seg.hid ho
  clear ho
  by_cases h1 : k = 1
  · subst h1
    have hn := has_flag hh
    rw [show itB 1 n t = [n] from rfl]
    clear hh
    go_enter Try.func56, Try.ntmps56
    go_upto_region 3 with fail
    obtain ⟨w2, hw2⟩ : ∃ w2, w.alloc (.cells #[.int .i64 n, .string t] 99 (0, 0)) = w2 := ⟨_, rfl⟩
    have B2 : Hid (Below w.heap.size w w2) := by show Below _ _ _; rw [← hw2]; exact below1 _ _
    have O2 : Hid (Out w2 base g cap out) := by show Out _ _ _ _ _; rw [← hw2]; exact World.ownsRow.alloc HO.out _
    have c1 : w2.cell? ⟨w.heap.size, 0, none⟩ = some (.int .i64 n) := by rw [← hw2]; exact cell_of_row _ _ 0 _ _ (0, 0) (heap_alloc_new w _)
    have hb2 : base ≤ w2.heap.size := by have := B2.out.size; omega
    try rw [hw2]
    clear hw2
    rcases (show n = 0 ∨ n = 1 by omega) with rfl | rfl
    · go_wp2_with (at_builtin; refine app rfl (.tmp 10) (.tmp 14) rfl base g cap out [0] ?zzs ?zzo ⟨w2.heap.size, 0, none⟩ 1 ?zzx ?zzn ?zzm ?zzb ?zzba ?_; (case zzs => rfl); (case zzo => exact World.ownsRow.alloc O2.out _); (case zzx => rfl); (case zzn => exact SqP.one_new w2 _ _); (case zzm => decide); (case zzb => simp; omega); (case zzba => simp; omega); intro g3 cap3 w3 o3 gr3 at3; have EX : Hid (Ext w w3 base g (out ++ [0]) (.returned (.slice (some ⟨g3, 0, none⟩) (out.length + 1) cap3))) := PuT.Ext.from B2.out (PuT.Ext.more (below_grown (below1 w2 _) (some g)) (.inl rfl) o3 gr3 at3 (by simp)); clear o3 gr3 at3)
      go_ret
      exact EX.out
    · go_wp2_with (at_builtin; refine app rfl (.tmp 10) (.tmp 14) rfl base g cap out [1] ?zzs ?zzo ⟨w2.heap.size, 0, none⟩ 1 ?zzx ?zzn ?zzm ?zzb ?zzba ?_; (case zzs => rfl); (case zzo => exact World.ownsRow.alloc O2.out _); (case zzx => rfl); (case zzn => exact SqP.one_new w2 _ _); (case zzm => decide); (case zzb => simp; omega); (case zzba => simp; omega); intro g3 cap3 w3 o3 gr3 at3; have EX : Hid (Ext w w3 base g (out ++ [1]) (.returned (.slice (some ⟨g3, 0, none⟩) (out.length + 1) cap3))) := PuT.Ext.from B2.out (PuT.Ext.more (below_grown (below1 w2 _) (some g)) (.inl rfl) o3 gr3 at3 (by simp)); clear o3 gr3 at3)
      go_ret
      exact EX.out
  by_cases h4 : k = 4
  · subst h4
    have hs := (has_text hh).2
    rw [show itB 4 n t = WrP.txtIf true t from rfl]
    obtain ⟨L, hL⟩ : ∃ L, out ++ WrP.txtIf true t = L := ⟨_, rfl⟩
    rw [hL]
    have HL := Seg.hid hL
    clear hh hL
    go_enter Try.func56, Try.ntmps56
    go_wp2_with fail
    refine (WxS.l2Text_any g cap base out t (w.alloc _) (by omega) (by omega) (World.ownsRow.alloc HO.out _) (by rw [hsz]; omega)).mono ?_
    rintro e w1 hE
    rw [HL.out] at hE
    have HE := Seg.hid (PuT.Ext.from (below1 w _) hE)
    obtain ⟨⟨g1, cap1, rfl, o1, a1⟩, gr⟩ := hE
    clear o1 a1 gr
    go_wp2
    go_ret
    exact HE.out
  have hn := has_num hh h1 h4
  have q1 : (k == 1) = false := by simpa using h1
  have q4 : (k == 4) = false := by simpa using h4
  rw [show itB k n t = put n by unfold itB; rw [if_neg h1, if_neg h4]]
  have hpl := put10 (n := n) (by omega)
  have hpp := Nums.put_pos n
  clear hh h1 h4
  go_enter Try.func56, Try.ntmps56
  go_wp2_with fail
  refine (Put.spec_any n (w.alloc _) (by omega) (by omega)).mono ?_
  rintro e w2 ⟨g2, cap2, rfl, o2, b2⟩
  have O2 := Seg.hid o2
  have B2 := Seg.hid (chain (below1 w _) b2)
  have z2 := B2.out.size
  clear o2 b2
  go_wp2_with (at_builtin; refine app rfl (.tmp 22) (.tmp 25) rfl base g cap out (put n) ?zzs ?zzo ⟨g2, 0, none⟩ cap2 ?zzx ?zzn ?zzm ?zzb ?zzba ?_; (case zzs => rfl); (case zzo => exact out_below HO.out B2.out); (case zzx => rfl); (case zzn => exact fun j hj => out_cell (l := put n) O2.out j hj); (case zzm => exact hpp); (case zzb => omega); (case zzba => omega); intro g3 cap3 w3 o3 gr3 at3; have E3 := Seg.hid (WxS.num_ext B2.out o3 gr3 at3); clear o3 gr3 at3)
  go_ret
  exact E3.out
end Go.Proofs.Ytdhicmbfknagjaa.WwS
