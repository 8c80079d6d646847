/- The law that a rule more that denies allows nothing more, out of the contracts. -/
import Derived.Test.YtoaobifhiddpkaaDnQ
import Derived.Test.YtoaobifhiddpkaaAlS
import Derived.Test.YtoaobifhiddpkaaLawH
import Derived.Test.YtoaobifhiddpkaaHdK
import Derived.Deep.RegionLaw
namespace Go.Proofs.Ytoaobifhiddpkaa.DndLaw
set_option maxRecDepth 8000
open Go.RowKit
open Ls Lp RuP PrP AlP DrRu DrRs DnQ
open Draw (Cur Lft Bytes)
open Recs (hsz below1 below2 chain)
set_option linter.unusedVariables false
theorem nil_lat (w : World) (S : Nat → Prop) : LAt 6 ERul w S (.slice none 0 0) ([] : List Rul) := ⟨by simp, none, 0, rfl, .inl rfl⟩
theorem text_shows {l : List Rul} (h : ((text l).toList == []) = false) : shows l = true := by
  cases hs : shows l with
  | true => rfl
  | false =>
    rw [text_no hs] at h
    have : ((⟨#[]⟩ : ByteArray).toList == []) = true := by rw [beq_iff_eq]; exact List.length_eq_zero_iff.1 (list_size ⟨#[]⟩)
    rw [this] at h
    cases h
theorem beq_of {l : List UInt8} {b : Bool} (h : l.isEmpty = b) : (l == []) = b := by
  subst h
  cases l <;> rfl
theorem toy_ok {on : Int} (h1 : 1 ≤ on) (h2 : on ≤ 2) : okR ⟨false, ⟨#[42]⟩, 4, on, ⟨#[]⟩, true⟩ = true := by
  have e1 : ((⟨#[42]⟩ : ByteArray).toList == [42]) = true := by rw [ByteArray.toList_eq]; rfl
  have e2 : ((⟨#[]⟩ : ByteArray).toList == []) = true := by rw [ByteArray.toList_eq]; rfl
  simp only [okR, whoOk, nmOk, inR, e1, e2, decide_eq_true h1, decide_eq_true h2]
  simp
theorem toy_true : allowed [⟨false, ⟨#[42]⟩, 4, 1, ⟨#[]⟩, true⟩] ⟨#[97, 110, 110]⟩ 1 1 ⟨#[120]⟩ = true := by
  have hs : shows [⟨false, ⟨#[42]⟩, 4, 1, ⟨#[]⟩, true⟩] = true := DnP.shows_of (by decide) (by simp only [List.all_cons, List.all_nil, toy_ok (show (1 : Int) ≤ 1 by decide) (show (1 : Int) ≤ 2 by decide)]; rfl)
  unfold allowed askOk
  rw [AlI.shows_ask, hs]
  have n1 : Nm.nameOk ⟨#[97, 110, 110]⟩ = true := by decide
  have n2 : Nm.nameOk ⟨#[120]⟩ = true := by decide
  have f1 : fits ⟨false, ⟨#[42]⟩, 4, 1, ⟨#[]⟩, true⟩ ⟨#[97, 110, 110]⟩ 1 1 ⟨#[120]⟩ = true := by
    have e1 : ((⟨#[42]⟩ : ByteArray).toList == [42]) = true := by rw [ByteArray.toList_eq]; rfl
    have e2 : pre ⟨#[]⟩ ⟨#[120]⟩ = true := by unfold pre; rw [ByteArray.toList_eq, ByteArray.toList_eq]; decide
    simp only [fits, forWho, forMay, forName, e1, e2]
    simp
  rw [n1, n2, run, if_pos f1]
  rfl
theorem own_ge {w : World} {base size n : Nat} {e : TypeId} {v : Value} {xs : List Value} (h : w.ownsRow base e size v n xs) : ∀ x, v.ownBlock = some x → base ≤ x := fun x hx => by
  rcases h.2 with ⟨rfl, rfl⟩ | ⟨g, cap, cur, rfl, hb, _⟩
  · cases hx
  · cases hx; exact hb
theorem own_next {w w' : World} {base size n : Nat} {e : TypeId} {v : Value} {xs : List Value} (h : w.ownsRow base e size v n xs) (b : Below w.heap.size w w') : w'.ownsRow base e size v n xs := by
  refine ⟨h.1, ?_⟩
  rcases h.2 with h0 | ⟨g, cap, cur, h1, h2, h3, h4⟩
  · exact .inl h0
  · exact .inr ⟨g, cap, cur, h1, h2, (b.block _ (Array.getElem?_eq_some_iff.1 h3).1).trans h3, h4⟩
theorem row_grown {w w' : World} {ob : Option Nat} {g : Nat} {o : Obj} (gb : w.grownBy w' ob) (h : w.heap[g]? = some o) (hn : ob ≠ some g) : w'.heap[g]? = some o := by
  have hl := (Array.getElem?_eq_some_iff.1 h).1
  obtain ⟨_, _, _, _, hb⟩ := gb
  exact (hb g hl (Ne.symm hn)).trans h
theorem both_lat {w : World} {base : Nat} {v : Value} {l : List Rul} {r : Rul} {n : Nat} (hn : l.length ≤ 100) (h : w.ownsRow base 30 6 v n ([] ++ rcells l ++ rcells [r])) (hnn : n = (l ++ [r]).length) : LAt 6 ERul w (fun g => g < w.heap.size) v (l ++ [r]) := by
  refine ro_lat (base := base) (by simp only [List.length_append, List.length_cons, List.length_nil]; omega) ?_
  subst hnn
  have e : ([] ++ rcells l ++ rcells [r]) = rcells (l ++ [r]) := by simp [rcells]
  rw [e] at h
  exact h
set_option maxHeartbeats 800000 in
theorem walk_big0 (A A' : Option Addr) (n c n' c' : Nat) (w : World) (hb : 1048576 < n) :
    Calls Try.prog 3 #[.slice A n c, .slice A' n' c'] w fun e w' => e = .returned (.bool true) ∧ Below w.heap.size w w' := by
  have hd : decide (1048576 < (n : Int)) = true := decide_eq_true (by omega)
  go_enter Try.func3, Try.ntmps3
  go_wp2
  go_ret
  exact ⟨rfl, Below.refl _ _⟩
set_option maxHeartbeats 800000 in
theorem walk_big1 (A A' : Option Addr) (n c n' c' : Nat) (w : World) (h0 : n ≤ 1048576) (hb : 1048576 < n') :
    Calls Try.prog 3 #[.slice A n c, .slice A' n' c'] w fun e w' => e = .returned (.bool true) ∧ Below w.heap.size w w' := by
  have hd : decide (1048576 < (n : Int)) = false := decide_eq_false (by omega)
  have hd' : decide (1048576 < (n' : Int)) = true := decide_eq_true (by omega)
  go_enter Try.func3, Try.ntmps3
  go_wp2
  go_ret
  exact ⟨rfl, Below.refl _ _⟩
set_option maxHeartbeats 204800000 in
theorem walk (A A' : Option Addr) (n c n' c' : Nat) (w : World) (hn : n ≤ 1048576) (hn' : n' ≤ 1048576) (hb : Bytes w w.heap.size A n c) (hb' : Bytes w w.heap.size A' n' c') :
    Calls Try.prog 3 #[.slice A n c, .slice A' n' c'] w fun e w' => e = .returned (.bool true) ∧ Below w.heap.size w w' := by
  obtain ⟨i0, hi, hz0, hz1, hz2⟩ := info_parts infoZRul
  have HB := Seg.hid hb
  have HB' : Hid (∀ wx, Below w.heap.size w wx → Bytes wx wx.heap.size A' n' c') := fun wx b => by
    rcases hb' with h0 | ⟨g, o, h1, h2, h3, h4, h5⟩
    · exact .inl h0
    · refine .inr ⟨g, o, h1, by have := b.size; omega, by have := b.size; omega, h4, fun j hj => ?_⟩
      obtain ⟨x, hx, hcx⟩ := h5 j hj
      exact ⟨x, hx, (b.cell (p := ⟨g, o + j, none⟩) h3).trans hcx⟩
  have hd : decide (1048576 < (n : Int)) = false := decide_eq_false (by omega)
  have hd' : decide (1048576 < (n' : Int)) = false := decide_eq_false (by omega)
  have CG : Hid (∀ wx, Calls Try.prog 4 #[.slice A n c] wx fun e w' => e = .returned (.bool false) ∧ wx = w') := fun wx => by have := LawH.big_any A n c wx (by omega); rw [hd] at this; exact this
  have CG' : Hid (∀ wx, Calls Try.prog 4 #[.slice A' n' c'] wx fun e w' => e = .returned (.bool false) ∧ wx = w') := fun wx => by have := LawH.big_any A' n' c' wx (by omega); rw [hd'] at this; exact this
  clear hd hd' hb hb'
  go_enter Try.func3, Try.ntmps3
  go_upto_region 3 with (first | (go_at_call 4; (with_reducible refine (CG.out _).mono ?_); rintro e w' ⟨rfl, rfl⟩) | (go_at_call 4; (with_reducible refine (CG'.out _).mono ?_); rintro e w' ⟨rfl, rfl⟩))
  clear CG CG'
  go_wp2_with fail
  refine (DrAw.draw_any A n c w hn HB.out).mono ?_
  rintro e w1 ⟨⟨v, ps, who, may, on, name, rfl, lp, sp, zw, zn, o1, o2, h1⟩, b1⟩
  have HL1 := Seg.hid h1
  have B1 := Seg.hid b1
  clear h1 b1
  go_wp2_with fail
  refine (DrRs.show_any A' n' c' w1 hn' (HB'.out w1 B1.out)).mono ?_
  rintro e w2 ⟨⟨u, rs, rfl, lr, sr, h2⟩, b2⟩
  have HU := Seg.hid h2
  have HL := Seg.hid (lat_next HL1.out b2)
  have B2 := Seg.hid (chain B1.out b2)
  clear h2 b2 HL1 B1 HB HB'
  have CA : Hid (∀ (wx : World) (lv : Value) (l : List Rul), LAt 6 ERul wx (fun g => g < wx.heap.size) lv l → l.length ≤ 6 → (∀ r ∈ l, Sm r) → Calls Try.prog 8 #[lv, .string who, .int .i64 may, .int .i64 on, .string name] wx fun e w' => e = .returned (.bool (allowed l who may on name)) ∧ Below wx.heap.size wx w') := fun wx lv l h h6 hs => AlI.impl_any lv l who may on name wx _ h (fun g hg => hg) (by have := sz_sm hs; omega) (by unfold maxLen; omega) (by unfold maxLen; omega)
  have CS : Hid (∀ (wx : World) (lv : Value) (l : List Rul), LAt 6 ERul wx (fun g => g < wx.heap.size) lv l → l.length ≤ 6 → (∀ r ∈ l, Sm r) → Calls Try.prog 9 #[lv, .string who, .int .i64 may, .int .i64 on, .string name] wx fun e w' => e = .returned (.bool (allowed l who may on name)) ∧ Below wx.heap.size wx w') := fun wx lv l h h6 hs => AlS.spec_any lv l who may on name wx _ h (fun g hg => hg) (by have := sz_sm hs; omega) (by unfold maxLen; omega) (by unfold maxLen; omega)
  have CW : Hid (∀ (wx : World) (lv : Value) (l : List Rul), LAt 6 ERul wx (fun g => g < wx.heap.size) lv l → l.length ≤ 101 → (∀ r ∈ l, Sm r) → Calls Try.prog 7 #[lv] wx fun e w' => e = .returned (.string (text l)) ∧ Below wx.heap.size wx w') := fun wx lv l h h6 hs => RuS.show_any lv l wx _ h (fun g hg => hg) (by have := sz_sm hs; omega)
  have CT : Hid (∀ wx : World, Calls Try.prog 8 #[.slice (some ⟨wx.heap.size, 0, none⟩) 1 1, .string ⟨#[97, 110, 110]⟩, .int .i64 1, .int .i64 1, .string ⟨#[120]⟩] (wx.alloc (.cells (rrow ⟨false, ⟨#[42]⟩, 4, 1, ⟨#[]⟩, true⟩) 30 (0, 0))) fun e w' => e = .returned (.bool true) ∧ Below wx.heap.size wx w') := fun wx => (AlI.impl_any _ [⟨false, ⟨#[42]⟩, 4, 1, ⟨#[]⟩, true⟩] ⟨#[97, 110, 110]⟩ 1 1 ⟨#[120]⟩ (wx.alloc _) _ (one_lat _ _ _ (heap_alloc_new _ _)) (fun g hg => hg) (by decide) (by decide) (by decide)).mono fun e w' h => ⟨h.1.trans (by rw [toy_true]), chain (below1 wx _) h.2⟩
  obtain ⟨Av, cv, gv, ov, Fv, rfl, OV, nv⟩ := opn HL.out (fun g hg => hg)
  obtain ⟨Au, cu, gu, ou, Fu, rfl, OU, nu⟩ := opn HU.out (fun g hg => hg)
  have PU := Seg.hid OU
  clear OV OU
  by_cases hr0 : rs.length = 0
  · obtain rfl := List.length_eq_zero_iff.1 hr0
    go_upto_region 8 with fail
    have BW := B2
    clear B2
    obtain ⟨gz, hgz⟩ : ∃ gz, w2.heap.size = gz := ⟨_, rfl⟩
    obtain ⟨wz, hwz⟩ : ∃ wz, w2.alloc (.cells (rrow ⟨false, ⟨#[42]⟩, 4, on, ⟨#[]⟩, true⟩) 30 (0, 0)) = wz := ⟨_, rfl⟩
    rw [hwz, hgz]
    have R5 : Hid (wz.heap[gz]? = some (.cells (rrow ⟨false, ⟨#[42]⟩, 4, on, ⟨#[]⟩, true⟩) 30 (0, 0))) := by show _ = _; rw [← hwz, ← hgz]; exact heap_alloc_new _ _
    have BZ : Hid (Below w.heap.size w wz) := by show Below _ _ _; rw [← hwz]; exact chain BW.out (below1 _ _)
    clear hwz hgz
    obtain ⟨⟨e0, e1, e2, e3, e4, e5⟩, _⟩ := sixR R5.out
    have lz := (Array.getElem?_eq_some_iff.1 R5.out).1
    have HZ : Hid (LAt 6 ERul wz (fun g => g < wz.heap.size) (.slice none 0 0) ([] : List Rul)) := nil_lat _ _
    have SZ : Hid (shows ([] : List Rul) = true) := by show _ = _; decide
    have KR : Hid (okR ⟨false, ⟨#[42]⟩, 4, on, ⟨#[]⟩, true⟩ = true) := toy_ok o1 o2
    have SM : Hid (∀ r ∈ ([] : List Rul), Sm r) := fun r hr => by cases hr
    have SR : Hid (Sm ⟨false, ⟨#[42]⟩, 4, on, ⟨#[]⟩, true⟩) := ⟨show (1 : Nat) ≤ 10 by decide, show (0 : Nat) ≤ 10 by decide⟩
    have hl5 : ([] : List Rul).length ≤ 5 := by simp
    clear HL HU PU BW R5
    go_upto_region 9 with fail
    obtain ⟨q, hq⟩ : ∃ q, wz.heap.size = q := ⟨_, rfl⟩
    obtain ⟨wy, hwy⟩ : ∃ wy, wz.alloc (.cells (rrow ⟨false, ⟨#[42]⟩, 4, on, ⟨#[]⟩, true⟩) 30 (0, 0)) = wy := ⟨_, rfl⟩
    rw [hwy, hq]
    have RY : Hid (wy.heap[q]? = some (.cells (rrow ⟨false, ⟨#[42]⟩, 4, on, ⟨#[]⟩, true⟩) 30 (0, 0))) := by show _ = _; rw [← hwy, ← hq]; exact heap_alloc_new _ _
    have HY : Hid (LAt 6 ERul wy (fun g => g < wy.heap.size) (.slice none 0 0) ([] : List Rul)) := by show LAt _ _ _ _ _ _; rw [← hwy]; exact lat_next HZ.out (below1 _ _)
    have BY : Hid (Below w.heap.size w wy) := by show Below _ _ _; rw [← hwy]; exact chain BZ.out (below1 _ _)
    clear hwy hq HZ BZ e0 e1 e2 e3 e4 e5 lz
    have ly := (Array.getElem?_eq_some_iff.1 RY.out).1
    obtain ⟨wasV, hwas⟩ : ∃ x, allowed ([] : List Rul) who may on name = x := ⟨_, rfl⟩
    have W0 := Seg.hid hwas
    clear hwas
    go_upto_region 10 with (first | (go_at_call 8; refine (CA.out wy _ ([] : List Rul) HY.out (by omega) SM.out).mono ?_; rintro e wa ⟨rfl, ba⟩; have RA := Seg.hid ((ba.block _ ly).trans RY.out); have HA := Seg.hid (lat_next HY.out ba); have BA := Seg.hid (chain BY.out ba); clear ba))
    rw [W0.out]
    clear RY HY BY ly
    have la := (Array.getElem?_eq_some_iff.1 RA.out).1
    obtain ⟨⟨d0, d1, d2, d3, d4, d5⟩, _⟩ := sixR RA.out
    have OWN : Hid ((wa.alloc (.cells (rrow ⟨false, ⟨#[42]⟩, 4, on, ⟨#[]⟩, true⟩) 30 (0, 0))).ownsRow wa.heap.size 30 6 (.slice (some ⟨wa.heap.size, 0, none⟩) 1 1) 1 (rrow ⟨false, ⟨#[42]⟩, 4, on, ⟨#[]⟩, true⟩).toList) := ⟨rfl, .inr ⟨wa.heap.size, 1, rrow ⟨false, ⟨#[42]⟩, 4, on, ⟨#[]⟩, true⟩, rfl, Nat.le_refl _, heap_alloc_new _ _, Nat.le_refl _, by decide, rfl, rfl⟩⟩
    have NEWS : Hid (∀ o1, 0 ≠ 0 → ∃ ad : Addr, none = some ad ∧ ∀ j u, (rcells ([] : List Rul))[j]? = some u → (wa.alloc o1).cell? (ad.add j) = some u) := fun o1 => news_lat (lat_next HA.out (below1 wa o1))
    have GB : Hid (∀ o1 w', (wa.alloc o1).grownBy w' (Value.slice (some ⟨wa.heap.size, 0, none⟩) 1 1).ownBlock → Below wa.heap.size wa w') := fun o1 w' g => (below1 wa o1).grown g (by rw [hsz]; omega) (fun x hx => by cases hx; exact Nat.le_refl _)
    have NOW : Hid (∀ w' v', w'.ownsRow wa.heap.size 30 6 v' (1 + 0) ((rrow ⟨false, ⟨#[42]⟩, 4, on, ⟨#[]⟩, true⟩).toList ++ rcells ([] : List Rul)) → LAt 6 ERul w' (fun g => g < w'.heap.size) v' (⟨false, ⟨#[42]⟩, 4, on, ⟨#[]⟩, true⟩ :: ([] : List Rul))) := fun w' v' h => ro_lat (base := wa.heap.size) (by simp only [List.length_cons, List.length_nil]; omega) (by show w'.ownsRow _ _ _ _ _ _; rw [List.length_cons, Nat.add_comm]; exact h)
    have SN : Hid (∀ r ∈ (⟨false, ⟨#[42]⟩, 4, on, ⟨#[]⟩, true⟩ :: ([] : List Rul)), Sm r) := fun r hr => by
      rcases List.mem_cons.1 hr with h | h
      · rw [h]; exact SR.out
      · exact SM.out r h
    obtain ⟨nowV, hnow⟩ : ∃ x, allowed (⟨false, ⟨#[42]⟩, 4, on, ⟨#[]⟩, true⟩ :: ([] : List Rul)) who may on name = x := ⟨_, rfl⟩
    have N0 := Seg.hid hnow
    clear hnow
    go_upto_region 11 with (first | (at_builtin; (refine AppW.wpList_append_all _ rfl (.tmp 63) (.tmp 64) 24 rfl wa.heap.size 30 i0 _ 6 64 Try.underlying24 hi hz0 hz1 hz2 rfl (by decide) (.slice (some ⟨wa.heap.size, 0, none⟩) 1 1) 1 (rrow ⟨false, ⟨#[42]⟩, 4, on, ⟨#[]⟩, true⟩).toList rfl OWN.out none 0 0 (rcells ([] : List Rul)) rfl (rcells_len _) (NEWS.out _) (one_cells _) (by unfold maxLen; omega) (by omega) (by rw [hsz]; omega) ?_; intro vb wb hob gb hab; have LB := Seg.hid (NOW.out _ _ hob); have BB := Seg.hid (GB.out _ _ gb); clear hob gb hab)) | (go_at_call 8; refine (CA.out wb vb (⟨false, ⟨#[42]⟩, 4, on, ⟨#[]⟩, true⟩ :: ([] : List Rul)) LB.out (by simp only [List.length_cons, List.length_nil]; omega) SN.out).mono ?_; rintro e wn ⟨rfl, bn⟩; have BN := Seg.hid (chain BB.out bn); clear bn))
    rw [N0.out]
    have RN : Hid (wn.drew.heap[q]? = some (.cells (rrow ⟨false, ⟨#[42]⟩, 4, on, ⟨#[]⟩, true⟩) 30 (0, 0))) := (BN.out.block _ la).trans RA.out
    have HN : Hid (LAt 6 ERul wn.drew (fun g => g < wn.drew.heap.size) (.slice none 0 0) ([] : List Rul)) := lat_next HA.out BN.out.drew
    have BD : Hid (Below w.heap.size w wn.drew) := (chain BA.out BN.out).drew
    clear OWN NEWS GB NOW d0 d1 d2 d3 d4 d5 LB BB RA HA BA BN la
    have ST0 : Hid (∀ wx, Below wn.drew.heap.size wn.drew wx → wx.cell? ⟨q, 0, none⟩ = some (.bool false) ∧ wx.cell? ⟨q, 1, none⟩ = some (.string ⟨#[42]⟩) ∧ wx.cell? ⟨q, 2, none⟩ = some (.int .i64 4) ∧ wx.cell? ⟨q, 3, none⟩ = some (.int .i64 on) ∧ wx.cell? ⟨q, 4, none⟩ = some (.string ⟨#[]⟩) ∧ wx.cell? ⟨q, 5, none⟩ = some (.bool true)) := fun wx b => (sixR ((b.block _ (Array.getElem?_eq_some_iff.1 RN.out).1).trans RN.out)).1
    refine wp_region_held_drew (S := (fun w' => w'.cell? ⟨q, 0, none⟩ = some (.bool false) ∧ w'.cell? ⟨q, 1, none⟩ = some (.string ⟨#[42]⟩) ∧ w'.cell? ⟨q, 2, none⟩ = some (.int .i64 4) ∧ w'.cell? ⟨q, 3, none⟩ = some (.int .i64 on) ∧ w'.cell? ⟨q, 4, none⟩ = some (.string ⟨#[]⟩) ∧ w'.cell? ⟨q, 5, none⟩ = some (.bool true))) (by kernel_rfl) (ST0.out _ (Below.refl _ _)) (fun hHeld => ?_)
    generalize wn.drew = wd at *
    refine HdK.tke 1 (some 72) (.slice none 0 0) rfl rfl ?_
    try simp only [Act.put, List.setIfInBounds_toArray, List.set_cons_zero, List.set_cons_succ]
    refine HdK.tke 3 (some 74) (.agg (rrow ⟨false, ⟨#[42]⟩, 4, on, ⟨#[]⟩, true⟩)) rfl rfl ?_
    try simp only [Act.put, List.setIfInBounds_toArray, List.set_cons_zero, List.set_cons_succ]
    refine HdK.tke 6 (some 77) (.string who) rfl rfl ?_
    try simp only [Act.put, List.setIfInBounds_toArray, List.set_cons_zero, List.set_cons_succ]
    refine HdK.tke 7 (some 78) (.int .i64 may) rfl rfl ?_
    try simp only [Act.put, List.setIfInBounds_toArray, List.set_cons_zero, List.set_cons_succ]
    refine HdK.tke 8 (some 79) (.int .i64 on) rfl rfl ?_
    try simp only [Act.put, List.setIfInBounds_toArray, List.set_cons_zero, List.set_cons_succ]
    refine HdK.tke 9 (some 80) (.string name) rfl rfl ?_
    try simp only [Act.put, List.setIfInBounds_toArray, List.set_cons_zero, List.set_cons_succ]
    have BR : Hid (Below wd.heap.size wd wd) := Below.refl _ _
    have SB : Hid (∀ r ∈ (([] : List Rul) ++ [⟨false, ⟨#[42]⟩, 4, on, ⟨#[]⟩, true⟩]), Sm r) := fun r hr => by
      rcases List.mem_append.1 hr with h | h
      · exact SM.out r h
      · rw [List.mem_singleton.1 h]; exact SR.out
    have A0 : Hid (allowed (([] : List Rul) ++ [⟨false, ⟨#[42]⟩, 4, on, ⟨#[]⟩, true⟩]) who may on name = nowV) := (DnP.more (by omega) SZ.out KR.out).1.trans N0.out
    refine wpAnyH_ready (rs := [0, 4]) (by kernel_rfl) (by simp) ?_
    refine AllReadyH.cons (o := { dst := some 71, op := Op.buildSlice 24 0 #[], type := 24, pos := "laws.go:1120", after := #[], guard := none }) rfl (fun K hK => ?_) (AllReadyH.cons (o := { dst := some 75, op := Op.buildSlice 24 1 #[(0, Operand.tmp 74)], type := 24, pos := "laws.go:1120", after := #[{ on := 3, ground := Ground.data }], guard := none }) rfl (fun K hK => ?_) AllReadyH.nil)
    · have B0 : Hid (Below wd.heap.size wd (wd.alloc (.cells #[] 30 (0, 0)))) := chain BR.out (below1 _ _)
      have O0 : Hid ((wd.alloc (.cells #[] 30 (0, 0))).ownsRow wd.heap.size 30 6 (.slice (some ⟨wd.heap.size, 0, none⟩) 0 0) 0 []) := ⟨rfl, .inr ⟨wd.heap.size, 0, #[], rfl, BR.out.size, heap_alloc_new _ _, Nat.le_refl _, by decide, rfl, rfl⟩⟩
      (go_simp; try (go_wp2_with fail))
      refine hK.out _ _ (ST0.out _ B0.out) (fun hHeld => ?_)
      clear hK K
      try simp only [Act.put, List.setIfInBounds_toArray, List.set_cons_zero, List.set_cons_succ]
      refine wpAnyH_ready (rs := [2, 4]) (by kernel_rfl) (by simp) ?_
      refine AllReadyH.cons (o := { dst := some 73, op := Op.call { callee := Callee.builtin Builtin.append, args := #[Operand.tmp 71, Operand.tmp 72], argTypes := #[24, 24] }, type := 24, pos := "laws.go:1120", after := #[{ on := 0, ground := Ground.data }, { on := 1, ground := Ground.data }], guard := none }) rfl (fun K hK => ?_) (AllReadyH.cons (o := { dst := some 75, op := Op.buildSlice 24 1 #[(0, Operand.tmp 74)], type := 24, pos := "laws.go:1120", after := #[{ on := 3, ground := Ground.data }], guard := none }) rfl (fun K hK => ?_) AllReadyH.nil)
      · refine AppW.step_append_all (wd.alloc (.cells #[] 30 (0, 0))) rfl (.tmp 71) (.tmp 72) 24 rfl wd.heap.size 30 i0 _ 6 64 Try.underlying24 hi hz0 hz1 hz2 rfl (by decide) (.slice (some ⟨wd.heap.size, 0, none⟩) 0 0) 0 [] rfl O0.out none 0 0 (rcells ([] : List Rul)) rfl (rcells_len _) (news_lat (lat_next HN.out B0.out)) (one_cells _) (by unfold maxLen; omega) (by omega) B0.out.size ?_
        intro v2 w3 ho3 gb3 hb3
        have O3 := Seg.hid ho3
        have B3 := Seg.hid (B0.out.grown gb3 B0.out.size (own_ge O0.out))
        clear ho3 gb3 hb3
        refine hK.out _ _ (ST0.out _ B3.out) (fun hHeld => ?_)
        clear hK K
        try simp only [Act.put, List.setIfInBounds_toArray, List.set_cons_zero, List.set_cons_succ]
        refine wpAnyH_ready (rs := [4]) (by kernel_rfl) (by simp) ?_
        refine AllReadyH.cons (o := { dst := some 75, op := Op.buildSlice 24 1 #[(0, Operand.tmp 74)], type := 24, pos := "laws.go:1120", after := #[{ on := 3, ground := Ground.data }], guard := none }) rfl (fun K hK => ?_) AllReadyH.nil
        have B1 : Hid (Below wd.heap.size wd (w3.alloc (.cells (rrow ⟨false, ⟨#[42]⟩, 4, on, ⟨#[]⟩, true⟩) 30 (0, 0)))) := chain B3.out (below1 _ _)
        have K1 : Hid ((w3.alloc (.cells (rrow ⟨false, ⟨#[42]⟩, 4, on, ⟨#[]⟩, true⟩) 30 (0, 0))).heap[w3.heap.size]? = some (.cells (rrow ⟨false, ⟨#[42]⟩, 4, on, ⟨#[]⟩, true⟩) 30 (0, 0))) := heap_alloc_new _ _
        have O1 : Hid ((w3.alloc (.cells (rrow ⟨false, ⟨#[42]⟩, 4, on, ⟨#[]⟩, true⟩) 30 (0, 0))).ownsRow wd.heap.size 30 6 (v2) (0 + 0) ([] ++ rcells ([] : List Rul))) := own_next O3.out (below1 w3 _)
        (go_simp; try (go_wp2_with fail))
        refine hK.out _ _ (ST0.out _ B1.out) (fun hHeld => ?_)
        clear hK K
        try simp only [Act.put, List.setIfInBounds_toArray, List.set_cons_zero, List.set_cons_succ]
        refine wpAnyH_ready (rs := [5]) (by kernel_rfl) (by simp) ?_
        refine AllReadyH.cons (o := { dst := some 76, op := Op.call { callee := Callee.builtin Builtin.append, args := #[Operand.tmp 73, Operand.tmp 75], argTypes := #[24, 24] }, type := 24, pos := "laws.go:1120", after := #[{ on := 2, ground := Ground.data }, { on := 4, ground := Ground.data }, { on := 2, ground := Ground.chain }], guard := none }) rfl (fun K hK => ?_) AllReadyH.nil
        refine AppW.step_append_all (w3.alloc (.cells (rrow ⟨false, ⟨#[42]⟩, 4, on, ⟨#[]⟩, true⟩) 30 (0, 0))) rfl (.tmp 73) (.tmp 75) 24 rfl wd.heap.size 30 i0 _ 6 64 Try.underlying24 hi hz0 hz1 hz2 rfl (by decide) (v2) (0 + 0) ([] ++ rcells ([] : List Rul)) rfl O1.out (some ⟨w3.heap.size, 0, none⟩) 1 1 (rcells [⟨false, ⟨#[42]⟩, 4, on, ⟨#[]⟩, true⟩]) rfl rfl (news_lat (one_lat (w3.alloc (.cells (rrow ⟨false, ⟨#[42]⟩, 4, on, ⟨#[]⟩, true⟩) 30 (0, 0))) _ _ K1.out)) (one_cells _) (by unfold maxLen; omega) (by omega) B1.out.size ?_
        intro v5 w5 ho5 gb5 hb5
        have L5 : Hid (LAt 6 ERul w5 (fun g => g < w5.heap.size) v5 (([] : List Rul) ++ [⟨false, ⟨#[42]⟩, 4, on, ⟨#[]⟩, true⟩])) := both_lat (by omega) ho5 (by simp only [List.length_append, List.length_cons, List.length_nil] <;> omega)
        have B5 := Seg.hid (B1.out.grown gb5 B1.out.size (own_ge O1.out))
        clear ho5 gb5 hb5
        refine hK.out _ _ (ST0.out _ B5.out) (fun hHeld => ?_)
        clear hK K
        try simp only [Act.put, List.setIfInBounds_toArray, List.set_cons_zero, List.set_cons_succ]
        refine wpAnyH_ready (rs := [10]) (by kernel_rfl) (by simp) ?_
        refine AllReadyH.cons (o := { dst := some 81, op := Op.call { callee := Callee.value (Operand.func 8), args := #[Operand.tmp 76, Operand.tmp 77, Operand.tmp 78, Operand.tmp 79, Operand.tmp 80], argTypes := #[24, 9, 3, 3, 9] }, type := 4, pos := "laws.go:1120", after := #[{ on := 5, ground := Ground.data }, { on := 6, ground := Ground.data }, { on := 7, ground := Ground.data }, { on := 8, ground := Ground.data }, { on := 9, ground := Ground.data }, { on := 5, ground := Ground.chain }], guard := none }) rfl (fun K hK => ?_) AllReadyH.nil
        (go_simp; go_at_call 8; refine (CA.out w5 v5 (([] : List Rul) ++ [⟨false, ⟨#[42]⟩, 4, on, ⟨#[]⟩, true⟩]) L5.out (by simp only [List.length_append, List.length_cons, List.length_nil]; omega) SB.out).mono ?_; rintro e w6 ⟨rfl, b6⟩; have B6 := Seg.hid (chain B5.out b6); clear b6; rw [A0.out]; try (go_wp2_with fail))
        refine hK.out _ _ (ST0.out _ B6.out) (fun hHeld => ?_)
        clear hK K
        try simp only [Act.put, List.setIfInBounds_toArray, List.set_cons_zero, List.set_cons_succ]
        refine HdK.tke 11 (some 14) (.bool nowV) rfl rfl ?_
        try simp only [Act.put, List.setIfInBounds_toArray, List.set_cons_zero, List.set_cons_succ]
        refine wpAnyH_done (by kernel_rfl) ?_ _
        have MO := (DnP.more (l := ([] : List Rul)) (r := ⟨false, ⟨#[42]⟩, 4, on, ⟨#[]⟩, true⟩) (who := who) (may := may) (on := on) (name := name) (by omega) SZ.out KR.out).2
        rw [W0.out, N0.out] at MO
        clear N0 A0 L5
        go_wp2_with fail
        (go_at_call 9; refine (CS.out w6 _ ([] : List Rul) (lat_next HN.out B6.out) (by omega) SM.out).mono ?_; rintro e w7 ⟨rfl, b7⟩; have B7 := Seg.hid (chain B6.out b7); have Q7 := (ST0.out _ B7.out).1; clear b7; rw [W0.out])
        clear W0 ST0 RN HN B6 B5
        cases wasV <;> cases nowV <;> first | exact absurd MO.2 (by decide) | exact absurd MO.1 (by decide) | (clear MO; go_wp2_with (first | (go_at_call 8; refine (CT.out w7).mono ?_; rintro e w8 ⟨rfl, b8⟩; have B8 := Seg.hid (chain B7.out b8); clear b8)); go_ret; exact ⟨rfl, chain BD.out B8.out⟩)
      · have B1 : Hid (Below wd.heap.size wd ((wd.alloc (.cells #[] 30 (0, 0))).alloc (.cells (rrow ⟨false, ⟨#[42]⟩, 4, on, ⟨#[]⟩, true⟩) 30 (0, 0)))) := chain B0.out (below1 _ _)
        have K1 : Hid (((wd.alloc (.cells #[] 30 (0, 0))).alloc (.cells (rrow ⟨false, ⟨#[42]⟩, 4, on, ⟨#[]⟩, true⟩) 30 (0, 0))).heap[wd.heap.size + 1]? = some (.cells (rrow ⟨false, ⟨#[42]⟩, 4, on, ⟨#[]⟩, true⟩) 30 (0, 0))) := (hsz wd _) ▸ heap_alloc_new (wd.alloc (.cells #[] 30 (0, 0))) (.cells (rrow ⟨false, ⟨#[42]⟩, 4, on, ⟨#[]⟩, true⟩) 30 (0, 0))
        have O1 : Hid (((wd.alloc (.cells #[] 30 (0, 0))).alloc (.cells (rrow ⟨false, ⟨#[42]⟩, 4, on, ⟨#[]⟩, true⟩) 30 (0, 0))).ownsRow wd.heap.size 30 6 (.slice (some ⟨wd.heap.size, 0, none⟩) 0 0) (0) ([])) := own_next O0.out (below1 (wd.alloc (.cells #[] 30 (0, 0))) _)
        (go_simp; try (go_wp2_with fail))
        refine hK.out _ _ (ST0.out _ B1.out) (fun hHeld => ?_)
        clear hK K
        try simp only [Act.put, List.setIfInBounds_toArray, List.set_cons_zero, List.set_cons_succ]
        refine wpAnyH_ready (rs := [2]) (by kernel_rfl) (by simp) ?_
        refine AllReadyH.cons (o := { dst := some 73, op := Op.call { callee := Callee.builtin Builtin.append, args := #[Operand.tmp 71, Operand.tmp 72], argTypes := #[24, 24] }, type := 24, pos := "laws.go:1120", after := #[{ on := 0, ground := Ground.data }, { on := 1, ground := Ground.data }], guard := none }) rfl (fun K hK => ?_) AllReadyH.nil
        refine AppW.step_append_all ((wd.alloc (.cells #[] 30 (0, 0))).alloc (.cells (rrow ⟨false, ⟨#[42]⟩, 4, on, ⟨#[]⟩, true⟩) 30 (0, 0))) rfl (.tmp 71) (.tmp 72) 24 rfl wd.heap.size 30 i0 _ 6 64 Try.underlying24 hi hz0 hz1 hz2 rfl (by decide) (.slice (some ⟨wd.heap.size, 0, none⟩) 0 0) 0 [] rfl O1.out none 0 0 (rcells ([] : List Rul)) rfl (rcells_len _) (news_lat (lat_next HN.out B1.out)) (one_cells _) (by unfold maxLen; omega) (by omega) B1.out.size ?_
        intro v2 w3 ho3 gb3 hb3
        have O3 := Seg.hid ho3
        have B3 := Seg.hid (B1.out.grown gb3 B1.out.size (own_ge O1.out))
        have K3 : Hid (w3.heap[wd.heap.size + 1]? = some (.cells (rrow ⟨false, ⟨#[42]⟩, 4, on, ⟨#[]⟩, true⟩) 30 (0, 0))) := row_grown gb3 K1.out (by show _ ≠ _; simp [Value.ownBlock])
        clear ho3 gb3 hb3
        refine hK.out _ _ (ST0.out _ B3.out) (fun hHeld => ?_)
        clear hK K
        try simp only [Act.put, List.setIfInBounds_toArray, List.set_cons_zero, List.set_cons_succ]
        refine wpAnyH_ready (rs := [5]) (by kernel_rfl) (by simp) ?_
        refine AllReadyH.cons (o := { dst := some 76, op := Op.call { callee := Callee.builtin Builtin.append, args := #[Operand.tmp 73, Operand.tmp 75], argTypes := #[24, 24] }, type := 24, pos := "laws.go:1120", after := #[{ on := 2, ground := Ground.data }, { on := 4, ground := Ground.data }, { on := 2, ground := Ground.chain }], guard := none }) rfl (fun K hK => ?_) AllReadyH.nil
        refine AppW.step_append_all w3 rfl (.tmp 73) (.tmp 75) 24 rfl wd.heap.size 30 i0 _ 6 64 Try.underlying24 hi hz0 hz1 hz2 rfl (by decide) (v2) (0 + 0) ([] ++ rcells ([] : List Rul)) rfl O3.out (some ⟨wd.heap.size + 1, 0, none⟩) 1 1 (rcells [⟨false, ⟨#[42]⟩, 4, on, ⟨#[]⟩, true⟩]) rfl rfl (news_lat (one_lat w3 _ _ K3.out)) (one_cells _) (by unfold maxLen; omega) (by omega) B3.out.size ?_
        intro v5 w5 ho5 gb5 hb5
        have L5 : Hid (LAt 6 ERul w5 (fun g => g < w5.heap.size) v5 (([] : List Rul) ++ [⟨false, ⟨#[42]⟩, 4, on, ⟨#[]⟩, true⟩])) := both_lat (by omega) ho5 (by simp only [List.length_append, List.length_cons, List.length_nil] <;> omega)
        have B5 := Seg.hid (B3.out.grown gb5 B3.out.size (own_ge O3.out))
        clear ho5 gb5 hb5
        refine hK.out _ _ (ST0.out _ B5.out) (fun hHeld => ?_)
        clear hK K
        try simp only [Act.put, List.setIfInBounds_toArray, List.set_cons_zero, List.set_cons_succ]
        refine wpAnyH_ready (rs := [10]) (by kernel_rfl) (by simp) ?_
        refine AllReadyH.cons (o := { dst := some 81, op := Op.call { callee := Callee.value (Operand.func 8), args := #[Operand.tmp 76, Operand.tmp 77, Operand.tmp 78, Operand.tmp 79, Operand.tmp 80], argTypes := #[24, 9, 3, 3, 9] }, type := 4, pos := "laws.go:1120", after := #[{ on := 5, ground := Ground.data }, { on := 6, ground := Ground.data }, { on := 7, ground := Ground.data }, { on := 8, ground := Ground.data }, { on := 9, ground := Ground.data }, { on := 5, ground := Ground.chain }], guard := none }) rfl (fun K hK => ?_) AllReadyH.nil
        (go_simp; go_at_call 8; refine (CA.out w5 v5 (([] : List Rul) ++ [⟨false, ⟨#[42]⟩, 4, on, ⟨#[]⟩, true⟩]) L5.out (by simp only [List.length_append, List.length_cons, List.length_nil]; omega) SB.out).mono ?_; rintro e w6 ⟨rfl, b6⟩; have B6 := Seg.hid (chain B5.out b6); clear b6; rw [A0.out]; try (go_wp2_with fail))
        refine hK.out _ _ (ST0.out _ B6.out) (fun hHeld => ?_)
        clear hK K
        try simp only [Act.put, List.setIfInBounds_toArray, List.set_cons_zero, List.set_cons_succ]
        refine HdK.tke 11 (some 14) (.bool nowV) rfl rfl ?_
        try simp only [Act.put, List.setIfInBounds_toArray, List.set_cons_zero, List.set_cons_succ]
        refine wpAnyH_done (by kernel_rfl) ?_ _
        have MO := (DnP.more (l := ([] : List Rul)) (r := ⟨false, ⟨#[42]⟩, 4, on, ⟨#[]⟩, true⟩) (who := who) (may := may) (on := on) (name := name) (by omega) SZ.out KR.out).2
        rw [W0.out, N0.out] at MO
        clear N0 A0 L5
        go_wp2_with fail
        (go_at_call 9; refine (CS.out w6 _ ([] : List Rul) (lat_next HN.out B6.out) (by omega) SM.out).mono ?_; rintro e w7 ⟨rfl, b7⟩; have B7 := Seg.hid (chain B6.out b7); have Q7 := (ST0.out _ B7.out).1; clear b7; rw [W0.out])
        clear W0 ST0 RN HN B6 B5
        cases wasV <;> cases nowV <;> first | exact absurd MO.2 (by decide) | exact absurd MO.1 (by decide) | (clear MO; go_wp2_with (first | (go_at_call 8; refine (CT.out w7).mono ?_; rintro e w8 ⟨rfl, b8⟩; have B8 := Seg.hid (chain B7.out b8); clear b8)); go_ret; exact ⟨rfl, chain BD.out B8.out⟩)
    · have B1 : Hid (Below wd.heap.size wd (wd.alloc (.cells (rrow ⟨false, ⟨#[42]⟩, 4, on, ⟨#[]⟩, true⟩) 30 (0, 0)))) := chain BR.out (below1 _ _)
      have K1 : Hid ((wd.alloc (.cells (rrow ⟨false, ⟨#[42]⟩, 4, on, ⟨#[]⟩, true⟩) 30 (0, 0))).heap[wd.heap.size]? = some (.cells (rrow ⟨false, ⟨#[42]⟩, 4, on, ⟨#[]⟩, true⟩) 30 (0, 0))) := heap_alloc_new _ _
      (go_simp; try (go_wp2_with fail))
      refine hK.out _ _ (ST0.out _ B1.out) (fun hHeld => ?_)
      clear hK K
      try simp only [Act.put, List.setIfInBounds_toArray, List.set_cons_zero, List.set_cons_succ]
      refine wpAnyH_ready (rs := [0]) (by kernel_rfl) (by simp) ?_
      refine AllReadyH.cons (o := { dst := some 71, op := Op.buildSlice 24 0 #[], type := 24, pos := "laws.go:1120", after := #[], guard := none }) rfl (fun K hK => ?_) AllReadyH.nil
      have B0 : Hid (Below wd.heap.size wd ((wd.alloc (.cells (rrow ⟨false, ⟨#[42]⟩, 4, on, ⟨#[]⟩, true⟩) 30 (0, 0))).alloc (.cells #[] 30 (0, 0)))) := chain B1.out (below1 _ _)
      have O0 : Hid (((wd.alloc (.cells (rrow ⟨false, ⟨#[42]⟩, 4, on, ⟨#[]⟩, true⟩) 30 (0, 0))).alloc (.cells #[] 30 (0, 0))).ownsRow wd.heap.size 30 6 (.slice (some ⟨wd.heap.size + 1, 0, none⟩) 0 0) 0 []) := ⟨rfl, .inr ⟨wd.heap.size + 1, 0, #[], rfl, Nat.le_succ _, (hsz wd _) ▸ heap_alloc_new (wd.alloc (.cells (rrow ⟨false, ⟨#[42]⟩, 4, on, ⟨#[]⟩, true⟩) 30 (0, 0))) (.cells #[] 30 (0, 0)), Nat.le_refl _, by decide, rfl, rfl⟩⟩
      have K0 : Hid (((wd.alloc (.cells (rrow ⟨false, ⟨#[42]⟩, 4, on, ⟨#[]⟩, true⟩) 30 (0, 0))).alloc (.cells #[] 30 (0, 0))).heap[wd.heap.size]? = some (.cells (rrow ⟨false, ⟨#[42]⟩, 4, on, ⟨#[]⟩, true⟩) 30 (0, 0))) := ((below1 (wd.alloc (.cells (rrow ⟨false, ⟨#[42]⟩, 4, on, ⟨#[]⟩, true⟩) 30 (0, 0))) _).block _ (Array.getElem?_eq_some_iff.1 K1.out).1).trans K1.out
      (go_simp; try (go_wp2_with fail))
      refine hK.out _ _ (ST0.out _ B0.out) (fun hHeld => ?_)
      clear hK K
      try simp only [Act.put, List.setIfInBounds_toArray, List.set_cons_zero, List.set_cons_succ]
      refine wpAnyH_ready (rs := [2]) (by kernel_rfl) (by simp) ?_
      refine AllReadyH.cons (o := { dst := some 73, op := Op.call { callee := Callee.builtin Builtin.append, args := #[Operand.tmp 71, Operand.tmp 72], argTypes := #[24, 24] }, type := 24, pos := "laws.go:1120", after := #[{ on := 0, ground := Ground.data }, { on := 1, ground := Ground.data }], guard := none }) rfl (fun K hK => ?_) AllReadyH.nil
      refine AppW.step_append_all ((wd.alloc (.cells (rrow ⟨false, ⟨#[42]⟩, 4, on, ⟨#[]⟩, true⟩) 30 (0, 0))).alloc (.cells #[] 30 (0, 0))) rfl (.tmp 71) (.tmp 72) 24 rfl wd.heap.size 30 i0 _ 6 64 Try.underlying24 hi hz0 hz1 hz2 rfl (by decide) (.slice (some ⟨wd.heap.size + 1, 0, none⟩) 0 0) 0 [] rfl O0.out none 0 0 (rcells ([] : List Rul)) rfl (rcells_len _) (news_lat (lat_next HN.out B0.out)) (one_cells _) (by unfold maxLen; omega) (by omega) B0.out.size ?_
      intro v2 w3 ho3 gb3 hb3
      have O3 := Seg.hid ho3
      have B3 := Seg.hid (B0.out.grown gb3 B0.out.size (own_ge O0.out))
      have K3 : Hid (w3.heap[wd.heap.size]? = some (.cells (rrow ⟨false, ⟨#[42]⟩, 4, on, ⟨#[]⟩, true⟩) 30 (0, 0))) := row_grown gb3 K0.out (by show _ ≠ _; simp [Value.ownBlock])
      clear ho3 gb3 hb3
      refine hK.out _ _ (ST0.out _ B3.out) (fun hHeld => ?_)
      clear hK K
      try simp only [Act.put, List.setIfInBounds_toArray, List.set_cons_zero, List.set_cons_succ]
      refine wpAnyH_ready (rs := [5]) (by kernel_rfl) (by simp) ?_
      refine AllReadyH.cons (o := { dst := some 76, op := Op.call { callee := Callee.builtin Builtin.append, args := #[Operand.tmp 73, Operand.tmp 75], argTypes := #[24, 24] }, type := 24, pos := "laws.go:1120", after := #[{ on := 2, ground := Ground.data }, { on := 4, ground := Ground.data }, { on := 2, ground := Ground.chain }], guard := none }) rfl (fun K hK => ?_) AllReadyH.nil
      refine AppW.step_append_all w3 rfl (.tmp 73) (.tmp 75) 24 rfl wd.heap.size 30 i0 _ 6 64 Try.underlying24 hi hz0 hz1 hz2 rfl (by decide) (v2) (0 + 0) ([] ++ rcells ([] : List Rul)) rfl O3.out (some ⟨wd.heap.size, 0, none⟩) 1 1 (rcells [⟨false, ⟨#[42]⟩, 4, on, ⟨#[]⟩, true⟩]) rfl rfl (news_lat (one_lat w3 _ _ K3.out)) (one_cells _) (by unfold maxLen; omega) (by omega) B3.out.size ?_
      intro v5 w5 ho5 gb5 hb5
      have L5 : Hid (LAt 6 ERul w5 (fun g => g < w5.heap.size) v5 (([] : List Rul) ++ [⟨false, ⟨#[42]⟩, 4, on, ⟨#[]⟩, true⟩])) := both_lat (by omega) ho5 (by simp only [List.length_append, List.length_cons, List.length_nil] <;> omega)
      have B5 := Seg.hid (B3.out.grown gb5 B3.out.size (own_ge O3.out))
      clear ho5 gb5 hb5
      refine hK.out _ _ (ST0.out _ B5.out) (fun hHeld => ?_)
      clear hK K
      try simp only [Act.put, List.setIfInBounds_toArray, List.set_cons_zero, List.set_cons_succ]
      refine wpAnyH_ready (rs := [10]) (by kernel_rfl) (by simp) ?_
      refine AllReadyH.cons (o := { dst := some 81, op := Op.call { callee := Callee.value (Operand.func 8), args := #[Operand.tmp 76, Operand.tmp 77, Operand.tmp 78, Operand.tmp 79, Operand.tmp 80], argTypes := #[24, 9, 3, 3, 9] }, type := 4, pos := "laws.go:1120", after := #[{ on := 5, ground := Ground.data }, { on := 6, ground := Ground.data }, { on := 7, ground := Ground.data }, { on := 8, ground := Ground.data }, { on := 9, ground := Ground.data }, { on := 5, ground := Ground.chain }], guard := none }) rfl (fun K hK => ?_) AllReadyH.nil
      (go_simp; go_at_call 8; refine (CA.out w5 v5 (([] : List Rul) ++ [⟨false, ⟨#[42]⟩, 4, on, ⟨#[]⟩, true⟩]) L5.out (by simp only [List.length_append, List.length_cons, List.length_nil]; omega) SB.out).mono ?_; rintro e w6 ⟨rfl, b6⟩; have B6 := Seg.hid (chain B5.out b6); clear b6; rw [A0.out]; try (go_wp2_with fail))
      refine hK.out _ _ (ST0.out _ B6.out) (fun hHeld => ?_)
      clear hK K
      try simp only [Act.put, List.setIfInBounds_toArray, List.set_cons_zero, List.set_cons_succ]
      refine HdK.tke 11 (some 14) (.bool nowV) rfl rfl ?_
      try simp only [Act.put, List.setIfInBounds_toArray, List.set_cons_zero, List.set_cons_succ]
      refine wpAnyH_done (by kernel_rfl) ?_ _
      have MO := (DnP.more (l := ([] : List Rul)) (r := ⟨false, ⟨#[42]⟩, 4, on, ⟨#[]⟩, true⟩) (who := who) (may := may) (on := on) (name := name) (by omega) SZ.out KR.out).2
      rw [W0.out, N0.out] at MO
      clear N0 A0 L5
      go_wp2_with fail
      (go_at_call 9; refine (CS.out w6 _ ([] : List Rul) (lat_next HN.out B6.out) (by omega) SM.out).mono ?_; rintro e w7 ⟨rfl, b7⟩; have B7 := Seg.hid (chain B6.out b7); have Q7 := (ST0.out _ B7.out).1; clear b7; rw [W0.out])
      clear W0 ST0 RN HN B6 B5
      cases wasV <;> cases nowV <;> first | exact absurd MO.2 (by decide) | exact absurd MO.1 (by decide) | (clear MO; go_wp2_with (first | (go_at_call 8; refine (CT.out w7).mono ?_; rintro e w8 ⟨rfl, b8⟩; have B8 := Seg.hid (chain B7.out b8); clear b8)); go_ret; exact ⟨rfl, chain BD.out B8.out⟩)
  · obtain ⟨⟨dn, wh, mb, onr, nm, bg⟩, rt, rfl⟩ : ∃ r t, rs = r :: t := by
      cases rs with
      | nil => exact absurd rfl hr0
      | cons r t => exact ⟨r, t, rfl⟩
    obtain ⟨rfl, hcu, _⟩ := PU.out.addr.resolve_left hr0
    have hc1 : 1 ≤ cu := by simp only [List.length_cons] at hcu; omega
    have hl0 : decide (((⟨dn, wh, mb, onr, nm, bg⟩ :: rt : List Rul).length : Int) = 0) = false := decide_eq_false (by simp only [List.length_cons]; omega)
    have CX : Hid (Calls Try.prog 7 #[.slice (some ⟨gu, ou, none⟩) 1 cu] w2 fun e w' => e = .returned (.string (text [⟨dn, wh, mb, onr, nm, bg⟩])) ∧ Below w2.heap.size w2 w') := CW.out w2 _ [⟨dn, wh, mb, onr, nm, bg⟩] (take_lat HU.out) (by simp) (fun r hr => sr r (by simp only [List.mem_singleton] at hr; rw [hr]; exact List.mem_cons_self))
    go_upto_region 5 with fail
    have hl1 : (((rt.length : Int) + 1) == 0) = false := by rw [beq_eq_false_iff_ne]; omega
    clear hl0
    go_wp2_with fail
    refine CX.out.mono ?_
    rintro e w3 ⟨rfl, b3⟩
    have B3 := Seg.hid (chain B2.out b3)
    have HP := Seg.hid (lat_next HL.out b3)
    have HV := Seg.hid (lat_next HU.out b3)
    clear b3 HL HU PU B2 CX
    obtain ⟨tx, htx⟩ : ∃ tx, text [⟨dn, wh, mb, onr, nm, bg⟩] = tx := ⟨_, rfl⟩
    have HTX := Seg.hid htx
    rw [htx]
    clear htx
    cases hte : tx.toList.isEmpty with
    | true =>
      have hte2 := beq_of hte
      go_upto_region 8 with fail
      have BW := B3
      obtain ⟨gz, hgz⟩ : ∃ gz, w3.heap.size = gz := ⟨_, rfl⟩
      obtain ⟨wz, hwz⟩ : ∃ wz, w3.alloc (.cells (rrow ⟨false, ⟨#[42]⟩, 4, on, ⟨#[]⟩, true⟩) 30 (0, 0)) = wz := ⟨_, rfl⟩
      rw [hwz, hgz]
      have R5 : Hid (wz.heap[gz]? = some (.cells (rrow ⟨false, ⟨#[42]⟩, 4, on, ⟨#[]⟩, true⟩) 30 (0, 0))) := by show _ = _; rw [← hwz, ← hgz]; exact heap_alloc_new _ _
      have BZ : Hid (Below w.heap.size w wz) := by show Below _ _ _; rw [← hwz]; exact chain BW.out (below1 _ _)
      clear hwz hgz
      obtain ⟨⟨e0, e1, e2, e3, e4, e5⟩, _⟩ := sixR R5.out
      have lz := (Array.getElem?_eq_some_iff.1 R5.out).1
      have HZ : Hid (LAt 6 ERul wz (fun g => g < wz.heap.size) (.slice none 0 0) ([] : List Rul)) := nil_lat _ _
      have SZ : Hid (shows ([] : List Rul) = true) := by show _ = _; decide
      have KR : Hid (okR ⟨false, ⟨#[42]⟩, 4, on, ⟨#[]⟩, true⟩ = true) := toy_ok o1 o2
      have SM : Hid (∀ r ∈ ([] : List Rul), Sm r) := fun r hr => by cases hr
      have SR : Hid (Sm ⟨false, ⟨#[42]⟩, 4, on, ⟨#[]⟩, true⟩) := ⟨show (1 : Nat) ≤ 10 by decide, show (0 : Nat) ≤ 10 by decide⟩
      have hl5 : ([] : List Rul).length ≤ 5 := by simp
      clear HP HV B3 BW R5
      go_upto_region 9 with fail
      obtain ⟨q, hq⟩ : ∃ q, wz.heap.size = q := ⟨_, rfl⟩
      obtain ⟨wy, hwy⟩ : ∃ wy, wz.alloc (.cells (rrow ⟨false, ⟨#[42]⟩, 4, on, ⟨#[]⟩, true⟩) 30 (0, 0)) = wy := ⟨_, rfl⟩
      rw [hwy, hq]
      have RY : Hid (wy.heap[q]? = some (.cells (rrow ⟨false, ⟨#[42]⟩, 4, on, ⟨#[]⟩, true⟩) 30 (0, 0))) := by show _ = _; rw [← hwy, ← hq]; exact heap_alloc_new _ _
      have HY : Hid (LAt 6 ERul wy (fun g => g < wy.heap.size) (.slice none 0 0) ([] : List Rul)) := by show LAt _ _ _ _ _ _; rw [← hwy]; exact lat_next HZ.out (below1 _ _)
      have BY : Hid (Below w.heap.size w wy) := by show Below _ _ _; rw [← hwy]; exact chain BZ.out (below1 _ _)
      clear hwy hq HZ BZ e0 e1 e2 e3 e4 e5 lz
      have ly := (Array.getElem?_eq_some_iff.1 RY.out).1
      obtain ⟨wasV, hwas⟩ : ∃ x, allowed ([] : List Rul) who may on name = x := ⟨_, rfl⟩
      have W0 := Seg.hid hwas
      clear hwas
      go_upto_region 10 with (first | (go_at_call 8; refine (CA.out wy _ ([] : List Rul) HY.out (by omega) SM.out).mono ?_; rintro e wa ⟨rfl, ba⟩; have RA := Seg.hid ((ba.block _ ly).trans RY.out); have HA := Seg.hid (lat_next HY.out ba); have BA := Seg.hid (chain BY.out ba); clear ba))
      rw [W0.out]
      clear RY HY BY ly
      have la := (Array.getElem?_eq_some_iff.1 RA.out).1
      obtain ⟨⟨d0, d1, d2, d3, d4, d5⟩, _⟩ := sixR RA.out
      have OWN : Hid ((wa.alloc (.cells (rrow ⟨false, ⟨#[42]⟩, 4, on, ⟨#[]⟩, true⟩) 30 (0, 0))).ownsRow wa.heap.size 30 6 (.slice (some ⟨wa.heap.size, 0, none⟩) 1 1) 1 (rrow ⟨false, ⟨#[42]⟩, 4, on, ⟨#[]⟩, true⟩).toList) := ⟨rfl, .inr ⟨wa.heap.size, 1, rrow ⟨false, ⟨#[42]⟩, 4, on, ⟨#[]⟩, true⟩, rfl, Nat.le_refl _, heap_alloc_new _ _, Nat.le_refl _, by decide, rfl, rfl⟩⟩
      have NEWS : Hid (∀ o1, 0 ≠ 0 → ∃ ad : Addr, none = some ad ∧ ∀ j u, (rcells ([] : List Rul))[j]? = some u → (wa.alloc o1).cell? (ad.add j) = some u) := fun o1 => news_lat (lat_next HA.out (below1 wa o1))
      have GB : Hid (∀ o1 w', (wa.alloc o1).grownBy w' (Value.slice (some ⟨wa.heap.size, 0, none⟩) 1 1).ownBlock → Below wa.heap.size wa w') := fun o1 w' g => (below1 wa o1).grown g (by rw [hsz]; omega) (fun x hx => by cases hx; exact Nat.le_refl _)
      have NOW : Hid (∀ w' v', w'.ownsRow wa.heap.size 30 6 v' (1 + 0) ((rrow ⟨false, ⟨#[42]⟩, 4, on, ⟨#[]⟩, true⟩).toList ++ rcells ([] : List Rul)) → LAt 6 ERul w' (fun g => g < w'.heap.size) v' (⟨false, ⟨#[42]⟩, 4, on, ⟨#[]⟩, true⟩ :: ([] : List Rul))) := fun w' v' h => ro_lat (base := wa.heap.size) (by simp only [List.length_cons, List.length_nil]; omega) (by show w'.ownsRow _ _ _ _ _ _; rw [List.length_cons, Nat.add_comm]; exact h)
      have SN : Hid (∀ r ∈ (⟨false, ⟨#[42]⟩, 4, on, ⟨#[]⟩, true⟩ :: ([] : List Rul)), Sm r) := fun r hr => by
        rcases List.mem_cons.1 hr with h | h
        · rw [h]; exact SR.out
        · exact SM.out r h
      obtain ⟨nowV, hnow⟩ : ∃ x, allowed (⟨false, ⟨#[42]⟩, 4, on, ⟨#[]⟩, true⟩ :: ([] : List Rul)) who may on name = x := ⟨_, rfl⟩
      have N0 := Seg.hid hnow
      clear hnow
      go_upto_region 11 with (first | (at_builtin; (refine AppW.wpList_append_all _ rfl (.tmp 63) (.tmp 64) 24 rfl wa.heap.size 30 i0 _ 6 64 Try.underlying24 hi hz0 hz1 hz2 rfl (by decide) (.slice (some ⟨wa.heap.size, 0, none⟩) 1 1) 1 (rrow ⟨false, ⟨#[42]⟩, 4, on, ⟨#[]⟩, true⟩).toList rfl OWN.out none 0 0 (rcells ([] : List Rul)) rfl (rcells_len _) (NEWS.out _) (one_cells _) (by unfold maxLen; omega) (by omega) (by rw [hsz]; omega) ?_; intro vb wb hob gb hab; have LB := Seg.hid (NOW.out _ _ hob); have BB := Seg.hid (GB.out _ _ gb); clear hob gb hab)) | (go_at_call 8; refine (CA.out wb vb (⟨false, ⟨#[42]⟩, 4, on, ⟨#[]⟩, true⟩ :: ([] : List Rul)) LB.out (by simp only [List.length_cons, List.length_nil]; omega) SN.out).mono ?_; rintro e wn ⟨rfl, bn⟩; have BN := Seg.hid (chain BB.out bn); clear bn))
      rw [N0.out]
      have RN : Hid (wn.drew.heap[q]? = some (.cells (rrow ⟨false, ⟨#[42]⟩, 4, on, ⟨#[]⟩, true⟩) 30 (0, 0))) := (BN.out.block _ la).trans RA.out
      have HN : Hid (LAt 6 ERul wn.drew (fun g => g < wn.drew.heap.size) (.slice none 0 0) ([] : List Rul)) := lat_next HA.out BN.out.drew
      have BD : Hid (Below w.heap.size w wn.drew) := (chain BA.out BN.out).drew
      clear OWN NEWS GB NOW d0 d1 d2 d3 d4 d5 LB BB RA HA BA BN la
      have ST0 : Hid (∀ wx, Below wn.drew.heap.size wn.drew wx → wx.cell? ⟨q, 0, none⟩ = some (.bool false) ∧ wx.cell? ⟨q, 1, none⟩ = some (.string ⟨#[42]⟩) ∧ wx.cell? ⟨q, 2, none⟩ = some (.int .i64 4) ∧ wx.cell? ⟨q, 3, none⟩ = some (.int .i64 on) ∧ wx.cell? ⟨q, 4, none⟩ = some (.string ⟨#[]⟩) ∧ wx.cell? ⟨q, 5, none⟩ = some (.bool true)) := fun wx b => (sixR ((b.block _ (Array.getElem?_eq_some_iff.1 RN.out).1).trans RN.out)).1
      refine wp_region_held_drew (S := (fun w' => w'.cell? ⟨q, 0, none⟩ = some (.bool false) ∧ w'.cell? ⟨q, 1, none⟩ = some (.string ⟨#[42]⟩) ∧ w'.cell? ⟨q, 2, none⟩ = some (.int .i64 4) ∧ w'.cell? ⟨q, 3, none⟩ = some (.int .i64 on) ∧ w'.cell? ⟨q, 4, none⟩ = some (.string ⟨#[]⟩) ∧ w'.cell? ⟨q, 5, none⟩ = some (.bool true))) (by kernel_rfl) (ST0.out _ (Below.refl _ _)) (fun hHeld => ?_)
      generalize wn.drew = wd at *
      refine HdK.tke 1 (some 72) (.slice none 0 0) rfl rfl ?_
      try simp only [Act.put, List.setIfInBounds_toArray, List.set_cons_zero, List.set_cons_succ]
      refine HdK.tke 3 (some 74) (.agg (rrow ⟨false, ⟨#[42]⟩, 4, on, ⟨#[]⟩, true⟩)) rfl rfl ?_
      try simp only [Act.put, List.setIfInBounds_toArray, List.set_cons_zero, List.set_cons_succ]
      refine HdK.tke 6 (some 77) (.string who) rfl rfl ?_
      try simp only [Act.put, List.setIfInBounds_toArray, List.set_cons_zero, List.set_cons_succ]
      refine HdK.tke 7 (some 78) (.int .i64 may) rfl rfl ?_
      try simp only [Act.put, List.setIfInBounds_toArray, List.set_cons_zero, List.set_cons_succ]
      refine HdK.tke 8 (some 79) (.int .i64 on) rfl rfl ?_
      try simp only [Act.put, List.setIfInBounds_toArray, List.set_cons_zero, List.set_cons_succ]
      refine HdK.tke 9 (some 80) (.string name) rfl rfl ?_
      try simp only [Act.put, List.setIfInBounds_toArray, List.set_cons_zero, List.set_cons_succ]
      have BR : Hid (Below wd.heap.size wd wd) := Below.refl _ _
      have SB : Hid (∀ r ∈ (([] : List Rul) ++ [⟨false, ⟨#[42]⟩, 4, on, ⟨#[]⟩, true⟩]), Sm r) := fun r hr => by
        rcases List.mem_append.1 hr with h | h
        · exact SM.out r h
        · rw [List.mem_singleton.1 h]; exact SR.out
      have A0 : Hid (allowed (([] : List Rul) ++ [⟨false, ⟨#[42]⟩, 4, on, ⟨#[]⟩, true⟩]) who may on name = nowV) := (DnP.more (by omega) SZ.out KR.out).1.trans N0.out
      refine wpAnyH_ready (rs := [0, 4]) (by kernel_rfl) (by simp) ?_
      refine AllReadyH.cons (o := { dst := some 71, op := Op.buildSlice 24 0 #[], type := 24, pos := "laws.go:1120", after := #[], guard := none }) rfl (fun K hK => ?_) (AllReadyH.cons (o := { dst := some 75, op := Op.buildSlice 24 1 #[(0, Operand.tmp 74)], type := 24, pos := "laws.go:1120", after := #[{ on := 3, ground := Ground.data }], guard := none }) rfl (fun K hK => ?_) AllReadyH.nil)
      · have B0 : Hid (Below wd.heap.size wd (wd.alloc (.cells #[] 30 (0, 0)))) := chain BR.out (below1 _ _)
        have O0 : Hid ((wd.alloc (.cells #[] 30 (0, 0))).ownsRow wd.heap.size 30 6 (.slice (some ⟨wd.heap.size, 0, none⟩) 0 0) 0 []) := ⟨rfl, .inr ⟨wd.heap.size, 0, #[], rfl, BR.out.size, heap_alloc_new _ _, Nat.le_refl _, by decide, rfl, rfl⟩⟩
        (go_simp; try (go_wp2_with fail))
        refine hK.out _ _ (ST0.out _ B0.out) (fun hHeld => ?_)
        clear hK K
        try simp only [Act.put, List.setIfInBounds_toArray, List.set_cons_zero, List.set_cons_succ]
        refine wpAnyH_ready (rs := [2, 4]) (by kernel_rfl) (by simp) ?_
        refine AllReadyH.cons (o := { dst := some 73, op := Op.call { callee := Callee.builtin Builtin.append, args := #[Operand.tmp 71, Operand.tmp 72], argTypes := #[24, 24] }, type := 24, pos := "laws.go:1120", after := #[{ on := 0, ground := Ground.data }, { on := 1, ground := Ground.data }], guard := none }) rfl (fun K hK => ?_) (AllReadyH.cons (o := { dst := some 75, op := Op.buildSlice 24 1 #[(0, Operand.tmp 74)], type := 24, pos := "laws.go:1120", after := #[{ on := 3, ground := Ground.data }], guard := none }) rfl (fun K hK => ?_) AllReadyH.nil)
        · refine AppW.step_append_all (wd.alloc (.cells #[] 30 (0, 0))) rfl (.tmp 71) (.tmp 72) 24 rfl wd.heap.size 30 i0 _ 6 64 Try.underlying24 hi hz0 hz1 hz2 rfl (by decide) (.slice (some ⟨wd.heap.size, 0, none⟩) 0 0) 0 [] rfl O0.out none 0 0 (rcells ([] : List Rul)) rfl (rcells_len _) (news_lat (lat_next HN.out B0.out)) (one_cells _) (by unfold maxLen; omega) (by omega) B0.out.size ?_
          intro v2 w3 ho3 gb3 hb3
          have O3 := Seg.hid ho3
          have B3 := Seg.hid (B0.out.grown gb3 B0.out.size (own_ge O0.out))
          clear ho3 gb3 hb3
          refine hK.out _ _ (ST0.out _ B3.out) (fun hHeld => ?_)
          clear hK K
          try simp only [Act.put, List.setIfInBounds_toArray, List.set_cons_zero, List.set_cons_succ]
          refine wpAnyH_ready (rs := [4]) (by kernel_rfl) (by simp) ?_
          refine AllReadyH.cons (o := { dst := some 75, op := Op.buildSlice 24 1 #[(0, Operand.tmp 74)], type := 24, pos := "laws.go:1120", after := #[{ on := 3, ground := Ground.data }], guard := none }) rfl (fun K hK => ?_) AllReadyH.nil
          have B1 : Hid (Below wd.heap.size wd (w3.alloc (.cells (rrow ⟨false, ⟨#[42]⟩, 4, on, ⟨#[]⟩, true⟩) 30 (0, 0)))) := chain B3.out (below1 _ _)
          have K1 : Hid ((w3.alloc (.cells (rrow ⟨false, ⟨#[42]⟩, 4, on, ⟨#[]⟩, true⟩) 30 (0, 0))).heap[w3.heap.size]? = some (.cells (rrow ⟨false, ⟨#[42]⟩, 4, on, ⟨#[]⟩, true⟩) 30 (0, 0))) := heap_alloc_new _ _
          have O1 : Hid ((w3.alloc (.cells (rrow ⟨false, ⟨#[42]⟩, 4, on, ⟨#[]⟩, true⟩) 30 (0, 0))).ownsRow wd.heap.size 30 6 (v2) (0 + 0) ([] ++ rcells ([] : List Rul))) := own_next O3.out (below1 w3 _)
          (go_simp; try (go_wp2_with fail))
          refine hK.out _ _ (ST0.out _ B1.out) (fun hHeld => ?_)
          clear hK K
          try simp only [Act.put, List.setIfInBounds_toArray, List.set_cons_zero, List.set_cons_succ]
          refine wpAnyH_ready (rs := [5]) (by kernel_rfl) (by simp) ?_
          refine AllReadyH.cons (o := { dst := some 76, op := Op.call { callee := Callee.builtin Builtin.append, args := #[Operand.tmp 73, Operand.tmp 75], argTypes := #[24, 24] }, type := 24, pos := "laws.go:1120", after := #[{ on := 2, ground := Ground.data }, { on := 4, ground := Ground.data }, { on := 2, ground := Ground.chain }], guard := none }) rfl (fun K hK => ?_) AllReadyH.nil
          refine AppW.step_append_all (w3.alloc (.cells (rrow ⟨false, ⟨#[42]⟩, 4, on, ⟨#[]⟩, true⟩) 30 (0, 0))) rfl (.tmp 73) (.tmp 75) 24 rfl wd.heap.size 30 i0 _ 6 64 Try.underlying24 hi hz0 hz1 hz2 rfl (by decide) (v2) (0 + 0) ([] ++ rcells ([] : List Rul)) rfl O1.out (some ⟨w3.heap.size, 0, none⟩) 1 1 (rcells [⟨false, ⟨#[42]⟩, 4, on, ⟨#[]⟩, true⟩]) rfl rfl (news_lat (one_lat (w3.alloc (.cells (rrow ⟨false, ⟨#[42]⟩, 4, on, ⟨#[]⟩, true⟩) 30 (0, 0))) _ _ K1.out)) (one_cells _) (by unfold maxLen; omega) (by omega) B1.out.size ?_
          intro v5 w5 ho5 gb5 hb5
          have L5 : Hid (LAt 6 ERul w5 (fun g => g < w5.heap.size) v5 (([] : List Rul) ++ [⟨false, ⟨#[42]⟩, 4, on, ⟨#[]⟩, true⟩])) := both_lat (by omega) ho5 (by simp only [List.length_append, List.length_cons, List.length_nil] <;> omega)
          have B5 := Seg.hid (B1.out.grown gb5 B1.out.size (own_ge O1.out))
          clear ho5 gb5 hb5
          refine hK.out _ _ (ST0.out _ B5.out) (fun hHeld => ?_)
          clear hK K
          try simp only [Act.put, List.setIfInBounds_toArray, List.set_cons_zero, List.set_cons_succ]
          refine wpAnyH_ready (rs := [10]) (by kernel_rfl) (by simp) ?_
          refine AllReadyH.cons (o := { dst := some 81, op := Op.call { callee := Callee.value (Operand.func 8), args := #[Operand.tmp 76, Operand.tmp 77, Operand.tmp 78, Operand.tmp 79, Operand.tmp 80], argTypes := #[24, 9, 3, 3, 9] }, type := 4, pos := "laws.go:1120", after := #[{ on := 5, ground := Ground.data }, { on := 6, ground := Ground.data }, { on := 7, ground := Ground.data }, { on := 8, ground := Ground.data }, { on := 9, ground := Ground.data }, { on := 5, ground := Ground.chain }], guard := none }) rfl (fun K hK => ?_) AllReadyH.nil
          (go_simp; go_at_call 8; refine (CA.out w5 v5 (([] : List Rul) ++ [⟨false, ⟨#[42]⟩, 4, on, ⟨#[]⟩, true⟩]) L5.out (by simp only [List.length_append, List.length_cons, List.length_nil]; omega) SB.out).mono ?_; rintro e w6 ⟨rfl, b6⟩; have B6 := Seg.hid (chain B5.out b6); clear b6; rw [A0.out]; try (go_wp2_with fail))
          refine hK.out _ _ (ST0.out _ B6.out) (fun hHeld => ?_)
          clear hK K
          try simp only [Act.put, List.setIfInBounds_toArray, List.set_cons_zero, List.set_cons_succ]
          refine HdK.tke 11 (some 14) (.bool nowV) rfl rfl ?_
          try simp only [Act.put, List.setIfInBounds_toArray, List.set_cons_zero, List.set_cons_succ]
          refine wpAnyH_done (by kernel_rfl) ?_ _
          have MO := (DnP.more (l := ([] : List Rul)) (r := ⟨false, ⟨#[42]⟩, 4, on, ⟨#[]⟩, true⟩) (who := who) (may := may) (on := on) (name := name) (by omega) SZ.out KR.out).2
          rw [W0.out, N0.out] at MO
          clear N0 A0 L5
          go_wp2_with fail
          (go_at_call 9; refine (CS.out w6 _ ([] : List Rul) (lat_next HN.out B6.out) (by omega) SM.out).mono ?_; rintro e w7 ⟨rfl, b7⟩; have B7 := Seg.hid (chain B6.out b7); have Q7 := (ST0.out _ B7.out).1; clear b7; rw [W0.out])
          clear W0 ST0 RN HN B6 B5
          cases wasV <;> cases nowV <;> first | exact absurd MO.2 (by decide) | exact absurd MO.1 (by decide) | (clear MO; go_wp2_with (first | (go_at_call 8; refine (CT.out w7).mono ?_; rintro e w8 ⟨rfl, b8⟩; have B8 := Seg.hid (chain B7.out b8); clear b8)); go_ret; exact ⟨rfl, chain BD.out B8.out⟩)
        · have B1 : Hid (Below wd.heap.size wd ((wd.alloc (.cells #[] 30 (0, 0))).alloc (.cells (rrow ⟨false, ⟨#[42]⟩, 4, on, ⟨#[]⟩, true⟩) 30 (0, 0)))) := chain B0.out (below1 _ _)
          have K1 : Hid (((wd.alloc (.cells #[] 30 (0, 0))).alloc (.cells (rrow ⟨false, ⟨#[42]⟩, 4, on, ⟨#[]⟩, true⟩) 30 (0, 0))).heap[wd.heap.size + 1]? = some (.cells (rrow ⟨false, ⟨#[42]⟩, 4, on, ⟨#[]⟩, true⟩) 30 (0, 0))) := (hsz wd _) ▸ heap_alloc_new (wd.alloc (.cells #[] 30 (0, 0))) (.cells (rrow ⟨false, ⟨#[42]⟩, 4, on, ⟨#[]⟩, true⟩) 30 (0, 0))
          have O1 : Hid (((wd.alloc (.cells #[] 30 (0, 0))).alloc (.cells (rrow ⟨false, ⟨#[42]⟩, 4, on, ⟨#[]⟩, true⟩) 30 (0, 0))).ownsRow wd.heap.size 30 6 (.slice (some ⟨wd.heap.size, 0, none⟩) 0 0) (0) ([])) := own_next O0.out (below1 (wd.alloc (.cells #[] 30 (0, 0))) _)
          (go_simp; try (go_wp2_with fail))
          refine hK.out _ _ (ST0.out _ B1.out) (fun hHeld => ?_)
          clear hK K
          try simp only [Act.put, List.setIfInBounds_toArray, List.set_cons_zero, List.set_cons_succ]
          refine wpAnyH_ready (rs := [2]) (by kernel_rfl) (by simp) ?_
          refine AllReadyH.cons (o := { dst := some 73, op := Op.call { callee := Callee.builtin Builtin.append, args := #[Operand.tmp 71, Operand.tmp 72], argTypes := #[24, 24] }, type := 24, pos := "laws.go:1120", after := #[{ on := 0, ground := Ground.data }, { on := 1, ground := Ground.data }], guard := none }) rfl (fun K hK => ?_) AllReadyH.nil
          refine AppW.step_append_all ((wd.alloc (.cells #[] 30 (0, 0))).alloc (.cells (rrow ⟨false, ⟨#[42]⟩, 4, on, ⟨#[]⟩, true⟩) 30 (0, 0))) rfl (.tmp 71) (.tmp 72) 24 rfl wd.heap.size 30 i0 _ 6 64 Try.underlying24 hi hz0 hz1 hz2 rfl (by decide) (.slice (some ⟨wd.heap.size, 0, none⟩) 0 0) 0 [] rfl O1.out none 0 0 (rcells ([] : List Rul)) rfl (rcells_len _) (news_lat (lat_next HN.out B1.out)) (one_cells _) (by unfold maxLen; omega) (by omega) B1.out.size ?_
          intro v2 w3 ho3 gb3 hb3
          have O3 := Seg.hid ho3
          have B3 := Seg.hid (B1.out.grown gb3 B1.out.size (own_ge O1.out))
          have K3 : Hid (w3.heap[wd.heap.size + 1]? = some (.cells (rrow ⟨false, ⟨#[42]⟩, 4, on, ⟨#[]⟩, true⟩) 30 (0, 0))) := row_grown gb3 K1.out (by show _ ≠ _; simp [Value.ownBlock])
          clear ho3 gb3 hb3
          refine hK.out _ _ (ST0.out _ B3.out) (fun hHeld => ?_)
          clear hK K
          try simp only [Act.put, List.setIfInBounds_toArray, List.set_cons_zero, List.set_cons_succ]
          refine wpAnyH_ready (rs := [5]) (by kernel_rfl) (by simp) ?_
          refine AllReadyH.cons (o := { dst := some 76, op := Op.call { callee := Callee.builtin Builtin.append, args := #[Operand.tmp 73, Operand.tmp 75], argTypes := #[24, 24] }, type := 24, pos := "laws.go:1120", after := #[{ on := 2, ground := Ground.data }, { on := 4, ground := Ground.data }, { on := 2, ground := Ground.chain }], guard := none }) rfl (fun K hK => ?_) AllReadyH.nil
          refine AppW.step_append_all w3 rfl (.tmp 73) (.tmp 75) 24 rfl wd.heap.size 30 i0 _ 6 64 Try.underlying24 hi hz0 hz1 hz2 rfl (by decide) (v2) (0 + 0) ([] ++ rcells ([] : List Rul)) rfl O3.out (some ⟨wd.heap.size + 1, 0, none⟩) 1 1 (rcells [⟨false, ⟨#[42]⟩, 4, on, ⟨#[]⟩, true⟩]) rfl rfl (news_lat (one_lat w3 _ _ K3.out)) (one_cells _) (by unfold maxLen; omega) (by omega) B3.out.size ?_
          intro v5 w5 ho5 gb5 hb5
          have L5 : Hid (LAt 6 ERul w5 (fun g => g < w5.heap.size) v5 (([] : List Rul) ++ [⟨false, ⟨#[42]⟩, 4, on, ⟨#[]⟩, true⟩])) := both_lat (by omega) ho5 (by simp only [List.length_append, List.length_cons, List.length_nil] <;> omega)
          have B5 := Seg.hid (B3.out.grown gb5 B3.out.size (own_ge O3.out))
          clear ho5 gb5 hb5
          refine hK.out _ _ (ST0.out _ B5.out) (fun hHeld => ?_)
          clear hK K
          try simp only [Act.put, List.setIfInBounds_toArray, List.set_cons_zero, List.set_cons_succ]
          refine wpAnyH_ready (rs := [10]) (by kernel_rfl) (by simp) ?_
          refine AllReadyH.cons (o := { dst := some 81, op := Op.call { callee := Callee.value (Operand.func 8), args := #[Operand.tmp 76, Operand.tmp 77, Operand.tmp 78, Operand.tmp 79, Operand.tmp 80], argTypes := #[24, 9, 3, 3, 9] }, type := 4, pos := "laws.go:1120", after := #[{ on := 5, ground := Ground.data }, { on := 6, ground := Ground.data }, { on := 7, ground := Ground.data }, { on := 8, ground := Ground.data }, { on := 9, ground := Ground.data }, { on := 5, ground := Ground.chain }], guard := none }) rfl (fun K hK => ?_) AllReadyH.nil
          (go_simp; go_at_call 8; refine (CA.out w5 v5 (([] : List Rul) ++ [⟨false, ⟨#[42]⟩, 4, on, ⟨#[]⟩, true⟩]) L5.out (by simp only [List.length_append, List.length_cons, List.length_nil]; omega) SB.out).mono ?_; rintro e w6 ⟨rfl, b6⟩; have B6 := Seg.hid (chain B5.out b6); clear b6; rw [A0.out]; try (go_wp2_with fail))
          refine hK.out _ _ (ST0.out _ B6.out) (fun hHeld => ?_)
          clear hK K
          try simp only [Act.put, List.setIfInBounds_toArray, List.set_cons_zero, List.set_cons_succ]
          refine HdK.tke 11 (some 14) (.bool nowV) rfl rfl ?_
          try simp only [Act.put, List.setIfInBounds_toArray, List.set_cons_zero, List.set_cons_succ]
          refine wpAnyH_done (by kernel_rfl) ?_ _
          have MO := (DnP.more (l := ([] : List Rul)) (r := ⟨false, ⟨#[42]⟩, 4, on, ⟨#[]⟩, true⟩) (who := who) (may := may) (on := on) (name := name) (by omega) SZ.out KR.out).2
          rw [W0.out, N0.out] at MO
          clear N0 A0 L5
          go_wp2_with fail
          (go_at_call 9; refine (CS.out w6 _ ([] : List Rul) (lat_next HN.out B6.out) (by omega) SM.out).mono ?_; rintro e w7 ⟨rfl, b7⟩; have B7 := Seg.hid (chain B6.out b7); have Q7 := (ST0.out _ B7.out).1; clear b7; rw [W0.out])
          clear W0 ST0 RN HN B6 B5
          cases wasV <;> cases nowV <;> first | exact absurd MO.2 (by decide) | exact absurd MO.1 (by decide) | (clear MO; go_wp2_with (first | (go_at_call 8; refine (CT.out w7).mono ?_; rintro e w8 ⟨rfl, b8⟩; have B8 := Seg.hid (chain B7.out b8); clear b8)); go_ret; exact ⟨rfl, chain BD.out B8.out⟩)
      · have B1 : Hid (Below wd.heap.size wd (wd.alloc (.cells (rrow ⟨false, ⟨#[42]⟩, 4, on, ⟨#[]⟩, true⟩) 30 (0, 0)))) := chain BR.out (below1 _ _)
        have K1 : Hid ((wd.alloc (.cells (rrow ⟨false, ⟨#[42]⟩, 4, on, ⟨#[]⟩, true⟩) 30 (0, 0))).heap[wd.heap.size]? = some (.cells (rrow ⟨false, ⟨#[42]⟩, 4, on, ⟨#[]⟩, true⟩) 30 (0, 0))) := heap_alloc_new _ _
        (go_simp; try (go_wp2_with fail))
        refine hK.out _ _ (ST0.out _ B1.out) (fun hHeld => ?_)
        clear hK K
        try simp only [Act.put, List.setIfInBounds_toArray, List.set_cons_zero, List.set_cons_succ]
        refine wpAnyH_ready (rs := [0]) (by kernel_rfl) (by simp) ?_
        refine AllReadyH.cons (o := { dst := some 71, op := Op.buildSlice 24 0 #[], type := 24, pos := "laws.go:1120", after := #[], guard := none }) rfl (fun K hK => ?_) AllReadyH.nil
        have B0 : Hid (Below wd.heap.size wd ((wd.alloc (.cells (rrow ⟨false, ⟨#[42]⟩, 4, on, ⟨#[]⟩, true⟩) 30 (0, 0))).alloc (.cells #[] 30 (0, 0)))) := chain B1.out (below1 _ _)
        have O0 : Hid (((wd.alloc (.cells (rrow ⟨false, ⟨#[42]⟩, 4, on, ⟨#[]⟩, true⟩) 30 (0, 0))).alloc (.cells #[] 30 (0, 0))).ownsRow wd.heap.size 30 6 (.slice (some ⟨wd.heap.size + 1, 0, none⟩) 0 0) 0 []) := ⟨rfl, .inr ⟨wd.heap.size + 1, 0, #[], rfl, Nat.le_succ _, (hsz wd _) ▸ heap_alloc_new (wd.alloc (.cells (rrow ⟨false, ⟨#[42]⟩, 4, on, ⟨#[]⟩, true⟩) 30 (0, 0))) (.cells #[] 30 (0, 0)), Nat.le_refl _, by decide, rfl, rfl⟩⟩
        have K0 : Hid (((wd.alloc (.cells (rrow ⟨false, ⟨#[42]⟩, 4, on, ⟨#[]⟩, true⟩) 30 (0, 0))).alloc (.cells #[] 30 (0, 0))).heap[wd.heap.size]? = some (.cells (rrow ⟨false, ⟨#[42]⟩, 4, on, ⟨#[]⟩, true⟩) 30 (0, 0))) := ((below1 (wd.alloc (.cells (rrow ⟨false, ⟨#[42]⟩, 4, on, ⟨#[]⟩, true⟩) 30 (0, 0))) _).block _ (Array.getElem?_eq_some_iff.1 K1.out).1).trans K1.out
        (go_simp; try (go_wp2_with fail))
        refine hK.out _ _ (ST0.out _ B0.out) (fun hHeld => ?_)
        clear hK K
        try simp only [Act.put, List.setIfInBounds_toArray, List.set_cons_zero, List.set_cons_succ]
        refine wpAnyH_ready (rs := [2]) (by kernel_rfl) (by simp) ?_
        refine AllReadyH.cons (o := { dst := some 73, op := Op.call { callee := Callee.builtin Builtin.append, args := #[Operand.tmp 71, Operand.tmp 72], argTypes := #[24, 24] }, type := 24, pos := "laws.go:1120", after := #[{ on := 0, ground := Ground.data }, { on := 1, ground := Ground.data }], guard := none }) rfl (fun K hK => ?_) AllReadyH.nil
        refine AppW.step_append_all ((wd.alloc (.cells (rrow ⟨false, ⟨#[42]⟩, 4, on, ⟨#[]⟩, true⟩) 30 (0, 0))).alloc (.cells #[] 30 (0, 0))) rfl (.tmp 71) (.tmp 72) 24 rfl wd.heap.size 30 i0 _ 6 64 Try.underlying24 hi hz0 hz1 hz2 rfl (by decide) (.slice (some ⟨wd.heap.size + 1, 0, none⟩) 0 0) 0 [] rfl O0.out none 0 0 (rcells ([] : List Rul)) rfl (rcells_len _) (news_lat (lat_next HN.out B0.out)) (one_cells _) (by unfold maxLen; omega) (by omega) B0.out.size ?_
        intro v2 w3 ho3 gb3 hb3
        have O3 := Seg.hid ho3
        have B3 := Seg.hid (B0.out.grown gb3 B0.out.size (own_ge O0.out))
        have K3 : Hid (w3.heap[wd.heap.size]? = some (.cells (rrow ⟨false, ⟨#[42]⟩, 4, on, ⟨#[]⟩, true⟩) 30 (0, 0))) := row_grown gb3 K0.out (by show _ ≠ _; simp [Value.ownBlock])
        clear ho3 gb3 hb3
        refine hK.out _ _ (ST0.out _ B3.out) (fun hHeld => ?_)
        clear hK K
        try simp only [Act.put, List.setIfInBounds_toArray, List.set_cons_zero, List.set_cons_succ]
        refine wpAnyH_ready (rs := [5]) (by kernel_rfl) (by simp) ?_
        refine AllReadyH.cons (o := { dst := some 76, op := Op.call { callee := Callee.builtin Builtin.append, args := #[Operand.tmp 73, Operand.tmp 75], argTypes := #[24, 24] }, type := 24, pos := "laws.go:1120", after := #[{ on := 2, ground := Ground.data }, { on := 4, ground := Ground.data }, { on := 2, ground := Ground.chain }], guard := none }) rfl (fun K hK => ?_) AllReadyH.nil
        refine AppW.step_append_all w3 rfl (.tmp 73) (.tmp 75) 24 rfl wd.heap.size 30 i0 _ 6 64 Try.underlying24 hi hz0 hz1 hz2 rfl (by decide) (v2) (0 + 0) ([] ++ rcells ([] : List Rul)) rfl O3.out (some ⟨wd.heap.size, 0, none⟩) 1 1 (rcells [⟨false, ⟨#[42]⟩, 4, on, ⟨#[]⟩, true⟩]) rfl rfl (news_lat (one_lat w3 _ _ K3.out)) (one_cells _) (by unfold maxLen; omega) (by omega) B3.out.size ?_
        intro v5 w5 ho5 gb5 hb5
        have L5 : Hid (LAt 6 ERul w5 (fun g => g < w5.heap.size) v5 (([] : List Rul) ++ [⟨false, ⟨#[42]⟩, 4, on, ⟨#[]⟩, true⟩])) := both_lat (by omega) ho5 (by simp only [List.length_append, List.length_cons, List.length_nil] <;> omega)
        have B5 := Seg.hid (B3.out.grown gb5 B3.out.size (own_ge O3.out))
        clear ho5 gb5 hb5
        refine hK.out _ _ (ST0.out _ B5.out) (fun hHeld => ?_)
        clear hK K
        try simp only [Act.put, List.setIfInBounds_toArray, List.set_cons_zero, List.set_cons_succ]
        refine wpAnyH_ready (rs := [10]) (by kernel_rfl) (by simp) ?_
        refine AllReadyH.cons (o := { dst := some 81, op := Op.call { callee := Callee.value (Operand.func 8), args := #[Operand.tmp 76, Operand.tmp 77, Operand.tmp 78, Operand.tmp 79, Operand.tmp 80], argTypes := #[24, 9, 3, 3, 9] }, type := 4, pos := "laws.go:1120", after := #[{ on := 5, ground := Ground.data }, { on := 6, ground := Ground.data }, { on := 7, ground := Ground.data }, { on := 8, ground := Ground.data }, { on := 9, ground := Ground.data }, { on := 5, ground := Ground.chain }], guard := none }) rfl (fun K hK => ?_) AllReadyH.nil
        (go_simp; go_at_call 8; refine (CA.out w5 v5 (([] : List Rul) ++ [⟨false, ⟨#[42]⟩, 4, on, ⟨#[]⟩, true⟩]) L5.out (by simp only [List.length_append, List.length_cons, List.length_nil]; omega) SB.out).mono ?_; rintro e w6 ⟨rfl, b6⟩; have B6 := Seg.hid (chain B5.out b6); clear b6; rw [A0.out]; try (go_wp2_with fail))
        refine hK.out _ _ (ST0.out _ B6.out) (fun hHeld => ?_)
        clear hK K
        try simp only [Act.put, List.setIfInBounds_toArray, List.set_cons_zero, List.set_cons_succ]
        refine HdK.tke 11 (some 14) (.bool nowV) rfl rfl ?_
        try simp only [Act.put, List.setIfInBounds_toArray, List.set_cons_zero, List.set_cons_succ]
        refine wpAnyH_done (by kernel_rfl) ?_ _
        have MO := (DnP.more (l := ([] : List Rul)) (r := ⟨false, ⟨#[42]⟩, 4, on, ⟨#[]⟩, true⟩) (who := who) (may := may) (on := on) (name := name) (by omega) SZ.out KR.out).2
        rw [W0.out, N0.out] at MO
        clear N0 A0 L5
        go_wp2_with fail
        (go_at_call 9; refine (CS.out w6 _ ([] : List Rul) (lat_next HN.out B6.out) (by omega) SM.out).mono ?_; rintro e w7 ⟨rfl, b7⟩; have B7 := Seg.hid (chain B6.out b7); have Q7 := (ST0.out _ B7.out).1; clear b7; rw [W0.out])
        clear W0 ST0 RN HN B6 B5
        cases wasV <;> cases nowV <;> first | exact absurd MO.2 (by decide) | exact absurd MO.1 (by decide) | (clear MO; go_wp2_with (first | (go_at_call 8; refine (CT.out w7).mono ?_; rintro e w8 ⟨rfl, b8⟩; have B8 := Seg.hid (chain B7.out b8); clear b8)); go_ret; exact ⟨rfl, chain BD.out B8.out⟩)
    | false =>
      have KR0 : Hid (okR ⟨dn, wh, mb, onr, nm, bg⟩ = true) := by
        show _ = _
        have := DnP.ok_of (text_shows (l := [⟨dn, wh, mb, onr, nm, bg⟩]) (by rw [HTX.out]; exact beq_of hte))
        simpa using this
      have SR0 : Hid (Sm ⟨dn, wh, mb, onr, nm, bg⟩) := sr _ List.mem_cons_self
      have hte2 := beq_of hte
      by_cases hp0 : ps.length = 0
      · obtain rfl := List.length_eq_zero_iff.1 hp0
        go_upto_region 8 with fail
        obtain ⟨wz, rfl⟩ : ∃ wz, wz = w3 := ⟨_, rfl⟩
        have BZ := B3
        have HZ := HP
        obtain ⟨A9, c9, g9, o9, F9, e9, OP9, -⟩ := opn HV.out (fun g hg => hg)
        simp only [Value.slice.injEq, true_and] at e9
        obtain ⟨rfl, rfl⟩ := e9
        obtain ⟨e9, -, lz⟩ := OP9.addr.resolve_left (by simp)
        simp only [Option.some.injEq, Addr.mk.injEq, and_true] at e9
        obtain ⟨rfl, rfl⟩ := e9
        obtain ⟨e0, e1, e2, e3, e4, e5⟩ := rul_cells (i := 0) (fun j hj => OP9.cells 0 (by simp) j hj) (OP9.el 0 (by simp))
        simp only [Nat.zero_mul, Nat.add_zero, List.getD_cons_zero] at e0 e1 e2 e3 e4 e5
        have SZ : Hid (shows ([] : List Rul) = true) := by show _ = _; decide
        have KR := KR0
        have SM : Hid (∀ r ∈ ([] : List Rul), Sm r) := sp
        have SR := SR0
        have hl5 : (([] : List Rul)).length ≤ 5 := lp
        clear OP9 B3 HP HV KR0 SR0
        go_upto_region 9 with fail
        obtain ⟨q, hq⟩ : ∃ q, wz.heap.size = q := ⟨_, rfl⟩
        obtain ⟨wy, hwy⟩ : ∃ wy, wz.alloc (.cells (rrow ⟨dn, wh, mb, onr, nm, bg⟩) 30 (0, 0)) = wy := ⟨_, rfl⟩
        rw [hwy, hq]
        have RY : Hid (wy.heap[q]? = some (.cells (rrow ⟨dn, wh, mb, onr, nm, bg⟩) 30 (0, 0))) := by show _ = _; rw [← hwy, ← hq]; exact heap_alloc_new _ _
        have HY : Hid (LAt 6 ERul wy (fun g => g < wy.heap.size) (.slice Av 0 cv) ([] : List Rul)) := by show LAt _ _ _ _ _ _; rw [← hwy]; exact lat_next HZ.out (below1 _ _)
        have BY : Hid (Below w.heap.size w wy) := by show Below _ _ _; rw [← hwy]; exact chain BZ.out (below1 _ _)
        clear hwy hq HZ BZ e0 e1 e2 e3 e4 e5 lz
        have ly := (Array.getElem?_eq_some_iff.1 RY.out).1
        obtain ⟨wasV, hwas⟩ : ∃ x, allowed ([] : List Rul) who may on name = x := ⟨_, rfl⟩
        have W0 := Seg.hid hwas
        clear hwas
        go_upto_region 10 with (first | (go_at_call 8; refine (CA.out wy _ ([] : List Rul) HY.out (by omega) SM.out).mono ?_; rintro e wa ⟨rfl, ba⟩; have RA := Seg.hid ((ba.block _ ly).trans RY.out); have HA := Seg.hid (lat_next HY.out ba); have BA := Seg.hid (chain BY.out ba); clear ba))
        rw [W0.out]
        clear RY HY BY ly
        have la := (Array.getElem?_eq_some_iff.1 RA.out).1
        obtain ⟨⟨d0, d1, d2, d3, d4, d5⟩, _⟩ := sixR RA.out
        have OWN : Hid ((wa.alloc (.cells (rrow ⟨dn, wh, mb, onr, nm, bg⟩) 30 (0, 0))).ownsRow wa.heap.size 30 6 (.slice (some ⟨wa.heap.size, 0, none⟩) 1 1) 1 (rrow ⟨dn, wh, mb, onr, nm, bg⟩).toList) := ⟨rfl, .inr ⟨wa.heap.size, 1, rrow ⟨dn, wh, mb, onr, nm, bg⟩, rfl, Nat.le_refl _, heap_alloc_new _ _, Nat.le_refl _, by decide, rfl, rfl⟩⟩
        have NEWS : Hid (∀ o1, 0 ≠ 0 → ∃ ad : Addr, Av = some ad ∧ ∀ j u, (rcells ([] : List Rul))[j]? = some u → (wa.alloc o1).cell? (ad.add j) = some u) := fun o1 => news_lat (lat_next HA.out (below1 wa o1))
        have GB : Hid (∀ o1 w', (wa.alloc o1).grownBy w' (Value.slice (some ⟨wa.heap.size, 0, none⟩) 1 1).ownBlock → Below wa.heap.size wa w') := fun o1 w' g => (below1 wa o1).grown g (by rw [hsz]; omega) (fun x hx => by cases hx; exact Nat.le_refl _)
        have NOW : Hid (∀ w' v', w'.ownsRow wa.heap.size 30 6 v' (1 + 0) ((rrow ⟨dn, wh, mb, onr, nm, bg⟩).toList ++ rcells ([] : List Rul)) → LAt 6 ERul w' (fun g => g < w'.heap.size) v' (⟨dn, wh, mb, onr, nm, bg⟩ :: ([] : List Rul))) := fun w' v' h => ro_lat (base := wa.heap.size) (by simp only [List.length_cons, List.length_nil]; omega) (by show w'.ownsRow _ _ _ _ _ _; rw [List.length_cons, Nat.add_comm]; exact h)
        have SN : Hid (∀ r ∈ (⟨dn, wh, mb, onr, nm, bg⟩ :: ([] : List Rul)), Sm r) := fun r hr => by
          rcases List.mem_cons.1 hr with h | h
          · rw [h]; exact SR.out
          · exact SM.out r h
        obtain ⟨nowV, hnow⟩ : ∃ x, allowed (⟨dn, wh, mb, onr, nm, bg⟩ :: ([] : List Rul)) who may on name = x := ⟨_, rfl⟩
        have N0 := Seg.hid hnow
        clear hnow
        go_upto_region 11 with (first | (at_builtin; (refine AppW.wpList_append_all _ rfl (.tmp 63) (.tmp 64) 24 rfl wa.heap.size 30 i0 _ 6 64 Try.underlying24 hi hz0 hz1 hz2 rfl (by decide) (.slice (some ⟨wa.heap.size, 0, none⟩) 1 1) 1 (rrow ⟨dn, wh, mb, onr, nm, bg⟩).toList rfl OWN.out Av 0 cv (rcells ([] : List Rul)) rfl (rcells_len _) (NEWS.out _) (one_cells _) (by unfold maxLen; omega) (by omega) (by rw [hsz]; omega) ?_; intro vb wb hob gb hab; have LB := Seg.hid (NOW.out _ _ hob); have BB := Seg.hid (GB.out _ _ gb); clear hob gb hab)) | (go_at_call 8; refine (CA.out wb vb (⟨dn, wh, mb, onr, nm, bg⟩ :: ([] : List Rul)) LB.out (by simp only [List.length_cons, List.length_nil]; omega) SN.out).mono ?_; rintro e wn ⟨rfl, bn⟩; have BN := Seg.hid (chain BB.out bn); clear bn))
        rw [N0.out]
        have RN : Hid (wn.drew.heap[q]? = some (.cells (rrow ⟨dn, wh, mb, onr, nm, bg⟩) 30 (0, 0))) := (BN.out.block _ la).trans RA.out
        have HN : Hid (LAt 6 ERul wn.drew (fun g => g < wn.drew.heap.size) (.slice Av 0 cv) ([] : List Rul)) := lat_next HA.out BN.out.drew
        have BD : Hid (Below w.heap.size w wn.drew) := (chain BA.out BN.out).drew
        clear OWN NEWS GB NOW d0 d1 d2 d3 d4 d5 LB BB RA HA BA BN la
        have ST0 : Hid (∀ wx, Below wn.drew.heap.size wn.drew wx → wx.cell? ⟨q, 0, none⟩ = some (.bool dn) ∧ wx.cell? ⟨q, 1, none⟩ = some (.string wh) ∧ wx.cell? ⟨q, 2, none⟩ = some (.int .i64 mb) ∧ wx.cell? ⟨q, 3, none⟩ = some (.int .i64 onr) ∧ wx.cell? ⟨q, 4, none⟩ = some (.string nm) ∧ wx.cell? ⟨q, 5, none⟩ = some (.bool bg)) := fun wx b => (sixR ((b.block _ (Array.getElem?_eq_some_iff.1 RN.out).1).trans RN.out)).1
        refine wp_region_held_drew (S := (fun w' => w'.cell? ⟨q, 0, none⟩ = some (.bool dn) ∧ w'.cell? ⟨q, 1, none⟩ = some (.string wh) ∧ w'.cell? ⟨q, 2, none⟩ = some (.int .i64 mb) ∧ w'.cell? ⟨q, 3, none⟩ = some (.int .i64 onr) ∧ w'.cell? ⟨q, 4, none⟩ = some (.string nm) ∧ w'.cell? ⟨q, 5, none⟩ = some (.bool bg))) (by kernel_rfl) (ST0.out _ (Below.refl _ _)) (fun hHeld => ?_)
        generalize wn.drew = wd at *
        refine HdK.tke 1 (some 72) (.slice Av 0 cv) rfl rfl ?_
        try simp only [Act.put, List.setIfInBounds_toArray, List.set_cons_zero, List.set_cons_succ]
        refine HdK.tke 3 (some 74) (.agg (rrow ⟨dn, wh, mb, onr, nm, bg⟩)) rfl rfl ?_
        try simp only [Act.put, List.setIfInBounds_toArray, List.set_cons_zero, List.set_cons_succ]
        refine HdK.tke 6 (some 77) (.string who) rfl rfl ?_
        try simp only [Act.put, List.setIfInBounds_toArray, List.set_cons_zero, List.set_cons_succ]
        refine HdK.tke 7 (some 78) (.int .i64 may) rfl rfl ?_
        try simp only [Act.put, List.setIfInBounds_toArray, List.set_cons_zero, List.set_cons_succ]
        refine HdK.tke 8 (some 79) (.int .i64 on) rfl rfl ?_
        try simp only [Act.put, List.setIfInBounds_toArray, List.set_cons_zero, List.set_cons_succ]
        refine HdK.tke 9 (some 80) (.string name) rfl rfl ?_
        try simp only [Act.put, List.setIfInBounds_toArray, List.set_cons_zero, List.set_cons_succ]
        have BR : Hid (Below wd.heap.size wd wd) := Below.refl _ _
        have SB : Hid (∀ r ∈ (([] : List Rul) ++ [⟨dn, wh, mb, onr, nm, bg⟩]), Sm r) := fun r hr => by
          rcases List.mem_append.1 hr with h | h
          · exact SM.out r h
          · rw [List.mem_singleton.1 h]; exact SR.out
        have A0 : Hid (allowed (([] : List Rul) ++ [⟨dn, wh, mb, onr, nm, bg⟩]) who may on name = nowV) := (DnP.more (by omega) SZ.out KR.out).1.trans N0.out
        refine wpAnyH_ready (rs := [0, 4]) (by kernel_rfl) (by simp) ?_
        refine AllReadyH.cons (o := { dst := some 71, op := Op.buildSlice 24 0 #[], type := 24, pos := "laws.go:1120", after := #[], guard := none }) rfl (fun K hK => ?_) (AllReadyH.cons (o := { dst := some 75, op := Op.buildSlice 24 1 #[(0, Operand.tmp 74)], type := 24, pos := "laws.go:1120", after := #[{ on := 3, ground := Ground.data }], guard := none }) rfl (fun K hK => ?_) AllReadyH.nil)
        · have B0 : Hid (Below wd.heap.size wd (wd.alloc (.cells #[] 30 (0, 0)))) := chain BR.out (below1 _ _)
          have O0 : Hid ((wd.alloc (.cells #[] 30 (0, 0))).ownsRow wd.heap.size 30 6 (.slice (some ⟨wd.heap.size, 0, none⟩) 0 0) 0 []) := ⟨rfl, .inr ⟨wd.heap.size, 0, #[], rfl, BR.out.size, heap_alloc_new _ _, Nat.le_refl _, by decide, rfl, rfl⟩⟩
          (go_simp; try (go_wp2_with fail))
          refine hK.out _ _ (ST0.out _ B0.out) (fun hHeld => ?_)
          clear hK K
          try simp only [Act.put, List.setIfInBounds_toArray, List.set_cons_zero, List.set_cons_succ]
          refine wpAnyH_ready (rs := [2, 4]) (by kernel_rfl) (by simp) ?_
          refine AllReadyH.cons (o := { dst := some 73, op := Op.call { callee := Callee.builtin Builtin.append, args := #[Operand.tmp 71, Operand.tmp 72], argTypes := #[24, 24] }, type := 24, pos := "laws.go:1120", after := #[{ on := 0, ground := Ground.data }, { on := 1, ground := Ground.data }], guard := none }) rfl (fun K hK => ?_) (AllReadyH.cons (o := { dst := some 75, op := Op.buildSlice 24 1 #[(0, Operand.tmp 74)], type := 24, pos := "laws.go:1120", after := #[{ on := 3, ground := Ground.data }], guard := none }) rfl (fun K hK => ?_) AllReadyH.nil)
          · refine AppW.step_append_all (wd.alloc (.cells #[] 30 (0, 0))) rfl (.tmp 71) (.tmp 72) 24 rfl wd.heap.size 30 i0 _ 6 64 Try.underlying24 hi hz0 hz1 hz2 rfl (by decide) (.slice (some ⟨wd.heap.size, 0, none⟩) 0 0) 0 [] rfl O0.out Av 0 cv (rcells ([] : List Rul)) rfl (rcells_len _) (news_lat (lat_next HN.out B0.out)) (one_cells _) (by unfold maxLen; omega) (by omega) B0.out.size ?_
            intro v2 w3 ho3 gb3 hb3
            have O3 := Seg.hid ho3
            have B3 := Seg.hid (B0.out.grown gb3 B0.out.size (own_ge O0.out))
            clear ho3 gb3 hb3
            refine hK.out _ _ (ST0.out _ B3.out) (fun hHeld => ?_)
            clear hK K
            try simp only [Act.put, List.setIfInBounds_toArray, List.set_cons_zero, List.set_cons_succ]
            refine wpAnyH_ready (rs := [4]) (by kernel_rfl) (by simp) ?_
            refine AllReadyH.cons (o := { dst := some 75, op := Op.buildSlice 24 1 #[(0, Operand.tmp 74)], type := 24, pos := "laws.go:1120", after := #[{ on := 3, ground := Ground.data }], guard := none }) rfl (fun K hK => ?_) AllReadyH.nil
            have B1 : Hid (Below wd.heap.size wd (w3.alloc (.cells (rrow ⟨dn, wh, mb, onr, nm, bg⟩) 30 (0, 0)))) := chain B3.out (below1 _ _)
            have K1 : Hid ((w3.alloc (.cells (rrow ⟨dn, wh, mb, onr, nm, bg⟩) 30 (0, 0))).heap[w3.heap.size]? = some (.cells (rrow ⟨dn, wh, mb, onr, nm, bg⟩) 30 (0, 0))) := heap_alloc_new _ _
            have O1 : Hid ((w3.alloc (.cells (rrow ⟨dn, wh, mb, onr, nm, bg⟩) 30 (0, 0))).ownsRow wd.heap.size 30 6 (v2) (0 + 0) ([] ++ rcells ([] : List Rul))) := own_next O3.out (below1 w3 _)
            (go_simp; try (go_wp2_with fail))
            refine hK.out _ _ (ST0.out _ B1.out) (fun hHeld => ?_)
            clear hK K
            try simp only [Act.put, List.setIfInBounds_toArray, List.set_cons_zero, List.set_cons_succ]
            refine wpAnyH_ready (rs := [5]) (by kernel_rfl) (by simp) ?_
            refine AllReadyH.cons (o := { dst := some 76, op := Op.call { callee := Callee.builtin Builtin.append, args := #[Operand.tmp 73, Operand.tmp 75], argTypes := #[24, 24] }, type := 24, pos := "laws.go:1120", after := #[{ on := 2, ground := Ground.data }, { on := 4, ground := Ground.data }, { on := 2, ground := Ground.chain }], guard := none }) rfl (fun K hK => ?_) AllReadyH.nil
            refine AppW.step_append_all (w3.alloc (.cells (rrow ⟨dn, wh, mb, onr, nm, bg⟩) 30 (0, 0))) rfl (.tmp 73) (.tmp 75) 24 rfl wd.heap.size 30 i0 _ 6 64 Try.underlying24 hi hz0 hz1 hz2 rfl (by decide) (v2) (0 + 0) ([] ++ rcells ([] : List Rul)) rfl O1.out (some ⟨w3.heap.size, 0, none⟩) 1 1 (rcells [⟨dn, wh, mb, onr, nm, bg⟩]) rfl rfl (news_lat (one_lat (w3.alloc (.cells (rrow ⟨dn, wh, mb, onr, nm, bg⟩) 30 (0, 0))) _ _ K1.out)) (one_cells _) (by unfold maxLen; omega) (by omega) B1.out.size ?_
            intro v5 w5 ho5 gb5 hb5
            have L5 : Hid (LAt 6 ERul w5 (fun g => g < w5.heap.size) v5 (([] : List Rul) ++ [⟨dn, wh, mb, onr, nm, bg⟩])) := both_lat (by omega) ho5 (by simp only [List.length_append, List.length_cons, List.length_nil] <;> omega)
            have B5 := Seg.hid (B1.out.grown gb5 B1.out.size (own_ge O1.out))
            clear ho5 gb5 hb5
            refine hK.out _ _ (ST0.out _ B5.out) (fun hHeld => ?_)
            clear hK K
            try simp only [Act.put, List.setIfInBounds_toArray, List.set_cons_zero, List.set_cons_succ]
            refine wpAnyH_ready (rs := [10]) (by kernel_rfl) (by simp) ?_
            refine AllReadyH.cons (o := { dst := some 81, op := Op.call { callee := Callee.value (Operand.func 8), args := #[Operand.tmp 76, Operand.tmp 77, Operand.tmp 78, Operand.tmp 79, Operand.tmp 80], argTypes := #[24, 9, 3, 3, 9] }, type := 4, pos := "laws.go:1120", after := #[{ on := 5, ground := Ground.data }, { on := 6, ground := Ground.data }, { on := 7, ground := Ground.data }, { on := 8, ground := Ground.data }, { on := 9, ground := Ground.data }, { on := 5, ground := Ground.chain }], guard := none }) rfl (fun K hK => ?_) AllReadyH.nil
            (go_simp; go_at_call 8; refine (CA.out w5 v5 (([] : List Rul) ++ [⟨dn, wh, mb, onr, nm, bg⟩]) L5.out (by simp only [List.length_append, List.length_cons, List.length_nil]; omega) SB.out).mono ?_; rintro e w6 ⟨rfl, b6⟩; have B6 := Seg.hid (chain B5.out b6); clear b6; rw [A0.out]; try (go_wp2_with fail))
            refine hK.out _ _ (ST0.out _ B6.out) (fun hHeld => ?_)
            clear hK K
            try simp only [Act.put, List.setIfInBounds_toArray, List.set_cons_zero, List.set_cons_succ]
            refine HdK.tke 11 (some 14) (.bool nowV) rfl rfl ?_
            try simp only [Act.put, List.setIfInBounds_toArray, List.set_cons_zero, List.set_cons_succ]
            refine wpAnyH_done (by kernel_rfl) ?_ _
            have MO := (DnP.more (l := ([] : List Rul)) (r := ⟨dn, wh, mb, onr, nm, bg⟩) (who := who) (may := may) (on := on) (name := name) (by omega) SZ.out KR.out).2
            rw [W0.out, N0.out] at MO
            clear N0 A0 L5
            go_wp2_with fail
            (go_at_call 9; refine (CS.out w6 _ ([] : List Rul) (lat_next HN.out B6.out) (by omega) SM.out).mono ?_; rintro e w7 ⟨rfl, b7⟩; have B7 := Seg.hid (chain B6.out b7); have Q7 := (ST0.out _ B7.out).1; clear b7; rw [W0.out])
            clear W0 ST0 RN HN B6 B5
            cases dn <;> cases wasV <;> cases nowV <;> first | exact absurd MO.2 (by decide) | exact absurd MO.1 (by decide) | (clear MO; go_wp2_with (first | (go_at_call 8; refine (CT.out w7).mono ?_; rintro e w8 ⟨rfl, b8⟩; have B8 := Seg.hid (chain B7.out b8); clear b8)); go_ret; exact ⟨rfl, chain BD.out B8.out⟩)
          · have B1 : Hid (Below wd.heap.size wd ((wd.alloc (.cells #[] 30 (0, 0))).alloc (.cells (rrow ⟨dn, wh, mb, onr, nm, bg⟩) 30 (0, 0)))) := chain B0.out (below1 _ _)
            have K1 : Hid (((wd.alloc (.cells #[] 30 (0, 0))).alloc (.cells (rrow ⟨dn, wh, mb, onr, nm, bg⟩) 30 (0, 0))).heap[wd.heap.size + 1]? = some (.cells (rrow ⟨dn, wh, mb, onr, nm, bg⟩) 30 (0, 0))) := (hsz wd _) ▸ heap_alloc_new (wd.alloc (.cells #[] 30 (0, 0))) (.cells (rrow ⟨dn, wh, mb, onr, nm, bg⟩) 30 (0, 0))
            have O1 : Hid (((wd.alloc (.cells #[] 30 (0, 0))).alloc (.cells (rrow ⟨dn, wh, mb, onr, nm, bg⟩) 30 (0, 0))).ownsRow wd.heap.size 30 6 (.slice (some ⟨wd.heap.size, 0, none⟩) 0 0) (0) ([])) := own_next O0.out (below1 (wd.alloc (.cells #[] 30 (0, 0))) _)
            (go_simp; try (go_wp2_with fail))
            refine hK.out _ _ (ST0.out _ B1.out) (fun hHeld => ?_)
            clear hK K
            try simp only [Act.put, List.setIfInBounds_toArray, List.set_cons_zero, List.set_cons_succ]
            refine wpAnyH_ready (rs := [2]) (by kernel_rfl) (by simp) ?_
            refine AllReadyH.cons (o := { dst := some 73, op := Op.call { callee := Callee.builtin Builtin.append, args := #[Operand.tmp 71, Operand.tmp 72], argTypes := #[24, 24] }, type := 24, pos := "laws.go:1120", after := #[{ on := 0, ground := Ground.data }, { on := 1, ground := Ground.data }], guard := none }) rfl (fun K hK => ?_) AllReadyH.nil
            refine AppW.step_append_all ((wd.alloc (.cells #[] 30 (0, 0))).alloc (.cells (rrow ⟨dn, wh, mb, onr, nm, bg⟩) 30 (0, 0))) rfl (.tmp 71) (.tmp 72) 24 rfl wd.heap.size 30 i0 _ 6 64 Try.underlying24 hi hz0 hz1 hz2 rfl (by decide) (.slice (some ⟨wd.heap.size, 0, none⟩) 0 0) 0 [] rfl O1.out Av 0 cv (rcells ([] : List Rul)) rfl (rcells_len _) (news_lat (lat_next HN.out B1.out)) (one_cells _) (by unfold maxLen; omega) (by omega) B1.out.size ?_
            intro v2 w3 ho3 gb3 hb3
            have O3 := Seg.hid ho3
            have B3 := Seg.hid (B1.out.grown gb3 B1.out.size (own_ge O1.out))
            have K3 : Hid (w3.heap[wd.heap.size + 1]? = some (.cells (rrow ⟨dn, wh, mb, onr, nm, bg⟩) 30 (0, 0))) := row_grown gb3 K1.out (by show _ ≠ _; simp [Value.ownBlock])
            clear ho3 gb3 hb3
            refine hK.out _ _ (ST0.out _ B3.out) (fun hHeld => ?_)
            clear hK K
            try simp only [Act.put, List.setIfInBounds_toArray, List.set_cons_zero, List.set_cons_succ]
            refine wpAnyH_ready (rs := [5]) (by kernel_rfl) (by simp) ?_
            refine AllReadyH.cons (o := { dst := some 76, op := Op.call { callee := Callee.builtin Builtin.append, args := #[Operand.tmp 73, Operand.tmp 75], argTypes := #[24, 24] }, type := 24, pos := "laws.go:1120", after := #[{ on := 2, ground := Ground.data }, { on := 4, ground := Ground.data }, { on := 2, ground := Ground.chain }], guard := none }) rfl (fun K hK => ?_) AllReadyH.nil
            refine AppW.step_append_all w3 rfl (.tmp 73) (.tmp 75) 24 rfl wd.heap.size 30 i0 _ 6 64 Try.underlying24 hi hz0 hz1 hz2 rfl (by decide) (v2) (0 + 0) ([] ++ rcells ([] : List Rul)) rfl O3.out (some ⟨wd.heap.size + 1, 0, none⟩) 1 1 (rcells [⟨dn, wh, mb, onr, nm, bg⟩]) rfl rfl (news_lat (one_lat w3 _ _ K3.out)) (one_cells _) (by unfold maxLen; omega) (by omega) B3.out.size ?_
            intro v5 w5 ho5 gb5 hb5
            have L5 : Hid (LAt 6 ERul w5 (fun g => g < w5.heap.size) v5 (([] : List Rul) ++ [⟨dn, wh, mb, onr, nm, bg⟩])) := both_lat (by omega) ho5 (by simp only [List.length_append, List.length_cons, List.length_nil] <;> omega)
            have B5 := Seg.hid (B3.out.grown gb5 B3.out.size (own_ge O3.out))
            clear ho5 gb5 hb5
            refine hK.out _ _ (ST0.out _ B5.out) (fun hHeld => ?_)
            clear hK K
            try simp only [Act.put, List.setIfInBounds_toArray, List.set_cons_zero, List.set_cons_succ]
            refine wpAnyH_ready (rs := [10]) (by kernel_rfl) (by simp) ?_
            refine AllReadyH.cons (o := { dst := some 81, op := Op.call { callee := Callee.value (Operand.func 8), args := #[Operand.tmp 76, Operand.tmp 77, Operand.tmp 78, Operand.tmp 79, Operand.tmp 80], argTypes := #[24, 9, 3, 3, 9] }, type := 4, pos := "laws.go:1120", after := #[{ on := 5, ground := Ground.data }, { on := 6, ground := Ground.data }, { on := 7, ground := Ground.data }, { on := 8, ground := Ground.data }, { on := 9, ground := Ground.data }, { on := 5, ground := Ground.chain }], guard := none }) rfl (fun K hK => ?_) AllReadyH.nil
            (go_simp; go_at_call 8; refine (CA.out w5 v5 (([] : List Rul) ++ [⟨dn, wh, mb, onr, nm, bg⟩]) L5.out (by simp only [List.length_append, List.length_cons, List.length_nil]; omega) SB.out).mono ?_; rintro e w6 ⟨rfl, b6⟩; have B6 := Seg.hid (chain B5.out b6); clear b6; rw [A0.out]; try (go_wp2_with fail))
            refine hK.out _ _ (ST0.out _ B6.out) (fun hHeld => ?_)
            clear hK K
            try simp only [Act.put, List.setIfInBounds_toArray, List.set_cons_zero, List.set_cons_succ]
            refine HdK.tke 11 (some 14) (.bool nowV) rfl rfl ?_
            try simp only [Act.put, List.setIfInBounds_toArray, List.set_cons_zero, List.set_cons_succ]
            refine wpAnyH_done (by kernel_rfl) ?_ _
            have MO := (DnP.more (l := ([] : List Rul)) (r := ⟨dn, wh, mb, onr, nm, bg⟩) (who := who) (may := may) (on := on) (name := name) (by omega) SZ.out KR.out).2
            rw [W0.out, N0.out] at MO
            clear N0 A0 L5
            go_wp2_with fail
            (go_at_call 9; refine (CS.out w6 _ ([] : List Rul) (lat_next HN.out B6.out) (by omega) SM.out).mono ?_; rintro e w7 ⟨rfl, b7⟩; have B7 := Seg.hid (chain B6.out b7); have Q7 := (ST0.out _ B7.out).1; clear b7; rw [W0.out])
            clear W0 ST0 RN HN B6 B5
            cases dn <;> cases wasV <;> cases nowV <;> first | exact absurd MO.2 (by decide) | exact absurd MO.1 (by decide) | (clear MO; go_wp2_with (first | (go_at_call 8; refine (CT.out w7).mono ?_; rintro e w8 ⟨rfl, b8⟩; have B8 := Seg.hid (chain B7.out b8); clear b8)); go_ret; exact ⟨rfl, chain BD.out B8.out⟩)
        · have B1 : Hid (Below wd.heap.size wd (wd.alloc (.cells (rrow ⟨dn, wh, mb, onr, nm, bg⟩) 30 (0, 0)))) := chain BR.out (below1 _ _)
          have K1 : Hid ((wd.alloc (.cells (rrow ⟨dn, wh, mb, onr, nm, bg⟩) 30 (0, 0))).heap[wd.heap.size]? = some (.cells (rrow ⟨dn, wh, mb, onr, nm, bg⟩) 30 (0, 0))) := heap_alloc_new _ _
          (go_simp; try (go_wp2_with fail))
          refine hK.out _ _ (ST0.out _ B1.out) (fun hHeld => ?_)
          clear hK K
          try simp only [Act.put, List.setIfInBounds_toArray, List.set_cons_zero, List.set_cons_succ]
          refine wpAnyH_ready (rs := [0]) (by kernel_rfl) (by simp) ?_
          refine AllReadyH.cons (o := { dst := some 71, op := Op.buildSlice 24 0 #[], type := 24, pos := "laws.go:1120", after := #[], guard := none }) rfl (fun K hK => ?_) AllReadyH.nil
          have B0 : Hid (Below wd.heap.size wd ((wd.alloc (.cells (rrow ⟨dn, wh, mb, onr, nm, bg⟩) 30 (0, 0))).alloc (.cells #[] 30 (0, 0)))) := chain B1.out (below1 _ _)
          have O0 : Hid (((wd.alloc (.cells (rrow ⟨dn, wh, mb, onr, nm, bg⟩) 30 (0, 0))).alloc (.cells #[] 30 (0, 0))).ownsRow wd.heap.size 30 6 (.slice (some ⟨wd.heap.size + 1, 0, none⟩) 0 0) 0 []) := ⟨rfl, .inr ⟨wd.heap.size + 1, 0, #[], rfl, Nat.le_succ _, (hsz wd _) ▸ heap_alloc_new (wd.alloc (.cells (rrow ⟨dn, wh, mb, onr, nm, bg⟩) 30 (0, 0))) (.cells #[] 30 (0, 0)), Nat.le_refl _, by decide, rfl, rfl⟩⟩
          have K0 : Hid (((wd.alloc (.cells (rrow ⟨dn, wh, mb, onr, nm, bg⟩) 30 (0, 0))).alloc (.cells #[] 30 (0, 0))).heap[wd.heap.size]? = some (.cells (rrow ⟨dn, wh, mb, onr, nm, bg⟩) 30 (0, 0))) := ((below1 (wd.alloc (.cells (rrow ⟨dn, wh, mb, onr, nm, bg⟩) 30 (0, 0))) _).block _ (Array.getElem?_eq_some_iff.1 K1.out).1).trans K1.out
          (go_simp; try (go_wp2_with fail))
          refine hK.out _ _ (ST0.out _ B0.out) (fun hHeld => ?_)
          clear hK K
          try simp only [Act.put, List.setIfInBounds_toArray, List.set_cons_zero, List.set_cons_succ]
          refine wpAnyH_ready (rs := [2]) (by kernel_rfl) (by simp) ?_
          refine AllReadyH.cons (o := { dst := some 73, op := Op.call { callee := Callee.builtin Builtin.append, args := #[Operand.tmp 71, Operand.tmp 72], argTypes := #[24, 24] }, type := 24, pos := "laws.go:1120", after := #[{ on := 0, ground := Ground.data }, { on := 1, ground := Ground.data }], guard := none }) rfl (fun K hK => ?_) AllReadyH.nil
          refine AppW.step_append_all ((wd.alloc (.cells (rrow ⟨dn, wh, mb, onr, nm, bg⟩) 30 (0, 0))).alloc (.cells #[] 30 (0, 0))) rfl (.tmp 71) (.tmp 72) 24 rfl wd.heap.size 30 i0 _ 6 64 Try.underlying24 hi hz0 hz1 hz2 rfl (by decide) (.slice (some ⟨wd.heap.size + 1, 0, none⟩) 0 0) 0 [] rfl O0.out Av 0 cv (rcells ([] : List Rul)) rfl (rcells_len _) (news_lat (lat_next HN.out B0.out)) (one_cells _) (by unfold maxLen; omega) (by omega) B0.out.size ?_
          intro v2 w3 ho3 gb3 hb3
          have O3 := Seg.hid ho3
          have B3 := Seg.hid (B0.out.grown gb3 B0.out.size (own_ge O0.out))
          have K3 : Hid (w3.heap[wd.heap.size]? = some (.cells (rrow ⟨dn, wh, mb, onr, nm, bg⟩) 30 (0, 0))) := row_grown gb3 K0.out (by show _ ≠ _; simp [Value.ownBlock])
          clear ho3 gb3 hb3
          refine hK.out _ _ (ST0.out _ B3.out) (fun hHeld => ?_)
          clear hK K
          try simp only [Act.put, List.setIfInBounds_toArray, List.set_cons_zero, List.set_cons_succ]
          refine wpAnyH_ready (rs := [5]) (by kernel_rfl) (by simp) ?_
          refine AllReadyH.cons (o := { dst := some 76, op := Op.call { callee := Callee.builtin Builtin.append, args := #[Operand.tmp 73, Operand.tmp 75], argTypes := #[24, 24] }, type := 24, pos := "laws.go:1120", after := #[{ on := 2, ground := Ground.data }, { on := 4, ground := Ground.data }, { on := 2, ground := Ground.chain }], guard := none }) rfl (fun K hK => ?_) AllReadyH.nil
          refine AppW.step_append_all w3 rfl (.tmp 73) (.tmp 75) 24 rfl wd.heap.size 30 i0 _ 6 64 Try.underlying24 hi hz0 hz1 hz2 rfl (by decide) (v2) (0 + 0) ([] ++ rcells ([] : List Rul)) rfl O3.out (some ⟨wd.heap.size, 0, none⟩) 1 1 (rcells [⟨dn, wh, mb, onr, nm, bg⟩]) rfl rfl (news_lat (one_lat w3 _ _ K3.out)) (one_cells _) (by unfold maxLen; omega) (by omega) B3.out.size ?_
          intro v5 w5 ho5 gb5 hb5
          have L5 : Hid (LAt 6 ERul w5 (fun g => g < w5.heap.size) v5 (([] : List Rul) ++ [⟨dn, wh, mb, onr, nm, bg⟩])) := both_lat (by omega) ho5 (by simp only [List.length_append, List.length_cons, List.length_nil] <;> omega)
          have B5 := Seg.hid (B3.out.grown gb5 B3.out.size (own_ge O3.out))
          clear ho5 gb5 hb5
          refine hK.out _ _ (ST0.out _ B5.out) (fun hHeld => ?_)
          clear hK K
          try simp only [Act.put, List.setIfInBounds_toArray, List.set_cons_zero, List.set_cons_succ]
          refine wpAnyH_ready (rs := [10]) (by kernel_rfl) (by simp) ?_
          refine AllReadyH.cons (o := { dst := some 81, op := Op.call { callee := Callee.value (Operand.func 8), args := #[Operand.tmp 76, Operand.tmp 77, Operand.tmp 78, Operand.tmp 79, Operand.tmp 80], argTypes := #[24, 9, 3, 3, 9] }, type := 4, pos := "laws.go:1120", after := #[{ on := 5, ground := Ground.data }, { on := 6, ground := Ground.data }, { on := 7, ground := Ground.data }, { on := 8, ground := Ground.data }, { on := 9, ground := Ground.data }, { on := 5, ground := Ground.chain }], guard := none }) rfl (fun K hK => ?_) AllReadyH.nil
          (go_simp; go_at_call 8; refine (CA.out w5 v5 (([] : List Rul) ++ [⟨dn, wh, mb, onr, nm, bg⟩]) L5.out (by simp only [List.length_append, List.length_cons, List.length_nil]; omega) SB.out).mono ?_; rintro e w6 ⟨rfl, b6⟩; have B6 := Seg.hid (chain B5.out b6); clear b6; rw [A0.out]; try (go_wp2_with fail))
          refine hK.out _ _ (ST0.out _ B6.out) (fun hHeld => ?_)
          clear hK K
          try simp only [Act.put, List.setIfInBounds_toArray, List.set_cons_zero, List.set_cons_succ]
          refine HdK.tke 11 (some 14) (.bool nowV) rfl rfl ?_
          try simp only [Act.put, List.setIfInBounds_toArray, List.set_cons_zero, List.set_cons_succ]
          refine wpAnyH_done (by kernel_rfl) ?_ _
          have MO := (DnP.more (l := ([] : List Rul)) (r := ⟨dn, wh, mb, onr, nm, bg⟩) (who := who) (may := may) (on := on) (name := name) (by omega) SZ.out KR.out).2
          rw [W0.out, N0.out] at MO
          clear N0 A0 L5
          go_wp2_with fail
          (go_at_call 9; refine (CS.out w6 _ ([] : List Rul) (lat_next HN.out B6.out) (by omega) SM.out).mono ?_; rintro e w7 ⟨rfl, b7⟩; have B7 := Seg.hid (chain B6.out b7); have Q7 := (ST0.out _ B7.out).1; clear b7; rw [W0.out])
          clear W0 ST0 RN HN B6 B5
          cases dn <;> cases wasV <;> cases nowV <;> first | exact absurd MO.2 (by decide) | exact absurd MO.1 (by decide) | (clear MO; go_wp2_with (first | (go_at_call 8; refine (CT.out w7).mono ?_; rintro e w8 ⟨rfl, b8⟩; have B8 := Seg.hid (chain B7.out b8); clear b8)); go_ret; exact ⟨rfl, chain BD.out B8.out⟩)
      · have hpp : (0 : Int) < (ps.length : Int) := by omega
        go_wp2_with fail
        refine (CW.out w3 _ ps HP.out (by omega) sp).mono ?_
        rintro e w4 ⟨rfl, b4⟩
        have B4 := Seg.hid (chain B3.out b4)
        have HP4 := Seg.hid (lat_next HP.out b4)
        have HV4 := Seg.hid (lat_next HV.out b4)
        clear b4 HP HV B3
        obtain ⟨ty, hty⟩ : ∃ ty, text ps = ty := ⟨_, rfl⟩
        have HTY := Seg.hid hty
        rw [hty]
        clear hty
        cases htf : ty.toList.isEmpty with
        | true =>
          have htf2 := beq_of htf
          go_upto_region 8 with fail
          have BW := B4
          obtain ⟨gz, hgz⟩ : ∃ gz, w4.heap.size = gz := ⟨_, rfl⟩
          obtain ⟨wz, hwz⟩ : ∃ wz, w4.alloc (.cells (rrow ⟨false, ⟨#[42]⟩, 4, on, ⟨#[]⟩, true⟩) 30 (0, 0)) = wz := ⟨_, rfl⟩
          rw [hwz, hgz]
          have R5 : Hid (wz.heap[gz]? = some (.cells (rrow ⟨false, ⟨#[42]⟩, 4, on, ⟨#[]⟩, true⟩) 30 (0, 0))) := by show _ = _; rw [← hwz, ← hgz]; exact heap_alloc_new _ _
          have BZ : Hid (Below w.heap.size w wz) := by show Below _ _ _; rw [← hwz]; exact chain BW.out (below1 _ _)
          clear hwz hgz
          obtain ⟨⟨e0, e1, e2, e3, e4, e5⟩, _⟩ := sixR R5.out
          have lz := (Array.getElem?_eq_some_iff.1 R5.out).1
          have HZ : Hid (LAt 6 ERul wz (fun g => g < wz.heap.size) (.slice none 0 0) ([] : List Rul)) := nil_lat _ _
          have SZ : Hid (shows ([] : List Rul) = true) := by show _ = _; decide
          have KR : Hid (okR ⟨false, ⟨#[42]⟩, 4, on, ⟨#[]⟩, true⟩ = true) := toy_ok o1 o2
          have SM : Hid (∀ r ∈ ([] : List Rul), Sm r) := fun r hr => by cases hr
          have SR : Hid (Sm ⟨false, ⟨#[42]⟩, 4, on, ⟨#[]⟩, true⟩) := ⟨show (1 : Nat) ≤ 10 by decide, show (0 : Nat) ≤ 10 by decide⟩
          have hl5 : ([] : List Rul).length ≤ 5 := by simp
          clear HP4 HV4 B4 BW R5
          go_upto_region 9 with fail
          obtain ⟨q, hq⟩ : ∃ q, wz.heap.size = q := ⟨_, rfl⟩
          obtain ⟨wy, hwy⟩ : ∃ wy, wz.alloc (.cells (rrow ⟨false, ⟨#[42]⟩, 4, on, ⟨#[]⟩, true⟩) 30 (0, 0)) = wy := ⟨_, rfl⟩
          rw [hwy, hq]
          have RY : Hid (wy.heap[q]? = some (.cells (rrow ⟨false, ⟨#[42]⟩, 4, on, ⟨#[]⟩, true⟩) 30 (0, 0))) := by show _ = _; rw [← hwy, ← hq]; exact heap_alloc_new _ _
          have HY : Hid (LAt 6 ERul wy (fun g => g < wy.heap.size) (.slice none 0 0) ([] : List Rul)) := by show LAt _ _ _ _ _ _; rw [← hwy]; exact lat_next HZ.out (below1 _ _)
          have BY : Hid (Below w.heap.size w wy) := by show Below _ _ _; rw [← hwy]; exact chain BZ.out (below1 _ _)
          clear hwy hq HZ BZ e0 e1 e2 e3 e4 e5 lz
          have ly := (Array.getElem?_eq_some_iff.1 RY.out).1
          obtain ⟨wasV, hwas⟩ : ∃ x, allowed ([] : List Rul) who may on name = x := ⟨_, rfl⟩
          have W0 := Seg.hid hwas
          clear hwas
          go_upto_region 10 with (first | (go_at_call 8; refine (CA.out wy _ ([] : List Rul) HY.out (by omega) SM.out).mono ?_; rintro e wa ⟨rfl, ba⟩; have RA := Seg.hid ((ba.block _ ly).trans RY.out); have HA := Seg.hid (lat_next HY.out ba); have BA := Seg.hid (chain BY.out ba); clear ba))
          rw [W0.out]
          clear RY HY BY ly
          have la := (Array.getElem?_eq_some_iff.1 RA.out).1
          obtain ⟨⟨d0, d1, d2, d3, d4, d5⟩, _⟩ := sixR RA.out
          have OWN : Hid ((wa.alloc (.cells (rrow ⟨false, ⟨#[42]⟩, 4, on, ⟨#[]⟩, true⟩) 30 (0, 0))).ownsRow wa.heap.size 30 6 (.slice (some ⟨wa.heap.size, 0, none⟩) 1 1) 1 (rrow ⟨false, ⟨#[42]⟩, 4, on, ⟨#[]⟩, true⟩).toList) := ⟨rfl, .inr ⟨wa.heap.size, 1, rrow ⟨false, ⟨#[42]⟩, 4, on, ⟨#[]⟩, true⟩, rfl, Nat.le_refl _, heap_alloc_new _ _, Nat.le_refl _, by decide, rfl, rfl⟩⟩
          have NEWS : Hid (∀ o1, 0 ≠ 0 → ∃ ad : Addr, none = some ad ∧ ∀ j u, (rcells ([] : List Rul))[j]? = some u → (wa.alloc o1).cell? (ad.add j) = some u) := fun o1 => news_lat (lat_next HA.out (below1 wa o1))
          have GB : Hid (∀ o1 w', (wa.alloc o1).grownBy w' (Value.slice (some ⟨wa.heap.size, 0, none⟩) 1 1).ownBlock → Below wa.heap.size wa w') := fun o1 w' g => (below1 wa o1).grown g (by rw [hsz]; omega) (fun x hx => by cases hx; exact Nat.le_refl _)
          have NOW : Hid (∀ w' v', w'.ownsRow wa.heap.size 30 6 v' (1 + 0) ((rrow ⟨false, ⟨#[42]⟩, 4, on, ⟨#[]⟩, true⟩).toList ++ rcells ([] : List Rul)) → LAt 6 ERul w' (fun g => g < w'.heap.size) v' (⟨false, ⟨#[42]⟩, 4, on, ⟨#[]⟩, true⟩ :: ([] : List Rul))) := fun w' v' h => ro_lat (base := wa.heap.size) (by simp only [List.length_cons, List.length_nil]; omega) (by show w'.ownsRow _ _ _ _ _ _; rw [List.length_cons, Nat.add_comm]; exact h)
          have SN : Hid (∀ r ∈ (⟨false, ⟨#[42]⟩, 4, on, ⟨#[]⟩, true⟩ :: ([] : List Rul)), Sm r) := fun r hr => by
            rcases List.mem_cons.1 hr with h | h
            · rw [h]; exact SR.out
            · exact SM.out r h
          obtain ⟨nowV, hnow⟩ : ∃ x, allowed (⟨false, ⟨#[42]⟩, 4, on, ⟨#[]⟩, true⟩ :: ([] : List Rul)) who may on name = x := ⟨_, rfl⟩
          have N0 := Seg.hid hnow
          clear hnow
          go_upto_region 11 with (first | (at_builtin; (refine AppW.wpList_append_all _ rfl (.tmp 63) (.tmp 64) 24 rfl wa.heap.size 30 i0 _ 6 64 Try.underlying24 hi hz0 hz1 hz2 rfl (by decide) (.slice (some ⟨wa.heap.size, 0, none⟩) 1 1) 1 (rrow ⟨false, ⟨#[42]⟩, 4, on, ⟨#[]⟩, true⟩).toList rfl OWN.out none 0 0 (rcells ([] : List Rul)) rfl (rcells_len _) (NEWS.out _) (one_cells _) (by unfold maxLen; omega) (by omega) (by rw [hsz]; omega) ?_; intro vb wb hob gb hab; have LB := Seg.hid (NOW.out _ _ hob); have BB := Seg.hid (GB.out _ _ gb); clear hob gb hab)) | (go_at_call 8; refine (CA.out wb vb (⟨false, ⟨#[42]⟩, 4, on, ⟨#[]⟩, true⟩ :: ([] : List Rul)) LB.out (by simp only [List.length_cons, List.length_nil]; omega) SN.out).mono ?_; rintro e wn ⟨rfl, bn⟩; have BN := Seg.hid (chain BB.out bn); clear bn))
          rw [N0.out]
          have RN : Hid (wn.drew.heap[q]? = some (.cells (rrow ⟨false, ⟨#[42]⟩, 4, on, ⟨#[]⟩, true⟩) 30 (0, 0))) := (BN.out.block _ la).trans RA.out
          have HN : Hid (LAt 6 ERul wn.drew (fun g => g < wn.drew.heap.size) (.slice none 0 0) ([] : List Rul)) := lat_next HA.out BN.out.drew
          have BD : Hid (Below w.heap.size w wn.drew) := (chain BA.out BN.out).drew
          clear OWN NEWS GB NOW d0 d1 d2 d3 d4 d5 LB BB RA HA BA BN la
          have ST0 : Hid (∀ wx, Below wn.drew.heap.size wn.drew wx → wx.cell? ⟨q, 0, none⟩ = some (.bool false) ∧ wx.cell? ⟨q, 1, none⟩ = some (.string ⟨#[42]⟩) ∧ wx.cell? ⟨q, 2, none⟩ = some (.int .i64 4) ∧ wx.cell? ⟨q, 3, none⟩ = some (.int .i64 on) ∧ wx.cell? ⟨q, 4, none⟩ = some (.string ⟨#[]⟩) ∧ wx.cell? ⟨q, 5, none⟩ = some (.bool true)) := fun wx b => (sixR ((b.block _ (Array.getElem?_eq_some_iff.1 RN.out).1).trans RN.out)).1
          refine wp_region_held_drew (S := (fun w' => w'.cell? ⟨q, 0, none⟩ = some (.bool false) ∧ w'.cell? ⟨q, 1, none⟩ = some (.string ⟨#[42]⟩) ∧ w'.cell? ⟨q, 2, none⟩ = some (.int .i64 4) ∧ w'.cell? ⟨q, 3, none⟩ = some (.int .i64 on) ∧ w'.cell? ⟨q, 4, none⟩ = some (.string ⟨#[]⟩) ∧ w'.cell? ⟨q, 5, none⟩ = some (.bool true))) (by kernel_rfl) (ST0.out _ (Below.refl _ _)) (fun hHeld => ?_)
          generalize wn.drew = wd at *
          refine HdK.tke 1 (some 72) (.slice none 0 0) rfl rfl ?_
          try simp only [Act.put, List.setIfInBounds_toArray, List.set_cons_zero, List.set_cons_succ]
          refine HdK.tke 3 (some 74) (.agg (rrow ⟨false, ⟨#[42]⟩, 4, on, ⟨#[]⟩, true⟩)) rfl rfl ?_
          try simp only [Act.put, List.setIfInBounds_toArray, List.set_cons_zero, List.set_cons_succ]
          refine HdK.tke 6 (some 77) (.string who) rfl rfl ?_
          try simp only [Act.put, List.setIfInBounds_toArray, List.set_cons_zero, List.set_cons_succ]
          refine HdK.tke 7 (some 78) (.int .i64 may) rfl rfl ?_
          try simp only [Act.put, List.setIfInBounds_toArray, List.set_cons_zero, List.set_cons_succ]
          refine HdK.tke 8 (some 79) (.int .i64 on) rfl rfl ?_
          try simp only [Act.put, List.setIfInBounds_toArray, List.set_cons_zero, List.set_cons_succ]
          refine HdK.tke 9 (some 80) (.string name) rfl rfl ?_
          try simp only [Act.put, List.setIfInBounds_toArray, List.set_cons_zero, List.set_cons_succ]
          have BR : Hid (Below wd.heap.size wd wd) := Below.refl _ _
          have SB : Hid (∀ r ∈ (([] : List Rul) ++ [⟨false, ⟨#[42]⟩, 4, on, ⟨#[]⟩, true⟩]), Sm r) := fun r hr => by
            rcases List.mem_append.1 hr with h | h
            · exact SM.out r h
            · rw [List.mem_singleton.1 h]; exact SR.out
          have A0 : Hid (allowed (([] : List Rul) ++ [⟨false, ⟨#[42]⟩, 4, on, ⟨#[]⟩, true⟩]) who may on name = nowV) := (DnP.more (by omega) SZ.out KR.out).1.trans N0.out
          refine wpAnyH_ready (rs := [0, 4]) (by kernel_rfl) (by simp) ?_
          refine AllReadyH.cons (o := { dst := some 71, op := Op.buildSlice 24 0 #[], type := 24, pos := "laws.go:1120", after := #[], guard := none }) rfl (fun K hK => ?_) (AllReadyH.cons (o := { dst := some 75, op := Op.buildSlice 24 1 #[(0, Operand.tmp 74)], type := 24, pos := "laws.go:1120", after := #[{ on := 3, ground := Ground.data }], guard := none }) rfl (fun K hK => ?_) AllReadyH.nil)
          · have B0 : Hid (Below wd.heap.size wd (wd.alloc (.cells #[] 30 (0, 0)))) := chain BR.out (below1 _ _)
            have O0 : Hid ((wd.alloc (.cells #[] 30 (0, 0))).ownsRow wd.heap.size 30 6 (.slice (some ⟨wd.heap.size, 0, none⟩) 0 0) 0 []) := ⟨rfl, .inr ⟨wd.heap.size, 0, #[], rfl, BR.out.size, heap_alloc_new _ _, Nat.le_refl _, by decide, rfl, rfl⟩⟩
            (go_simp; try (go_wp2_with fail))
            refine hK.out _ _ (ST0.out _ B0.out) (fun hHeld => ?_)
            clear hK K
            try simp only [Act.put, List.setIfInBounds_toArray, List.set_cons_zero, List.set_cons_succ]
            refine wpAnyH_ready (rs := [2, 4]) (by kernel_rfl) (by simp) ?_
            refine AllReadyH.cons (o := { dst := some 73, op := Op.call { callee := Callee.builtin Builtin.append, args := #[Operand.tmp 71, Operand.tmp 72], argTypes := #[24, 24] }, type := 24, pos := "laws.go:1120", after := #[{ on := 0, ground := Ground.data }, { on := 1, ground := Ground.data }], guard := none }) rfl (fun K hK => ?_) (AllReadyH.cons (o := { dst := some 75, op := Op.buildSlice 24 1 #[(0, Operand.tmp 74)], type := 24, pos := "laws.go:1120", after := #[{ on := 3, ground := Ground.data }], guard := none }) rfl (fun K hK => ?_) AllReadyH.nil)
            · refine AppW.step_append_all (wd.alloc (.cells #[] 30 (0, 0))) rfl (.tmp 71) (.tmp 72) 24 rfl wd.heap.size 30 i0 _ 6 64 Try.underlying24 hi hz0 hz1 hz2 rfl (by decide) (.slice (some ⟨wd.heap.size, 0, none⟩) 0 0) 0 [] rfl O0.out none 0 0 (rcells ([] : List Rul)) rfl (rcells_len _) (news_lat (lat_next HN.out B0.out)) (one_cells _) (by unfold maxLen; omega) (by omega) B0.out.size ?_
              intro v2 w3 ho3 gb3 hb3
              have O3 := Seg.hid ho3
              have B3 := Seg.hid (B0.out.grown gb3 B0.out.size (own_ge O0.out))
              clear ho3 gb3 hb3
              refine hK.out _ _ (ST0.out _ B3.out) (fun hHeld => ?_)
              clear hK K
              try simp only [Act.put, List.setIfInBounds_toArray, List.set_cons_zero, List.set_cons_succ]
              refine wpAnyH_ready (rs := [4]) (by kernel_rfl) (by simp) ?_
              refine AllReadyH.cons (o := { dst := some 75, op := Op.buildSlice 24 1 #[(0, Operand.tmp 74)], type := 24, pos := "laws.go:1120", after := #[{ on := 3, ground := Ground.data }], guard := none }) rfl (fun K hK => ?_) AllReadyH.nil
              have B1 : Hid (Below wd.heap.size wd (w3.alloc (.cells (rrow ⟨false, ⟨#[42]⟩, 4, on, ⟨#[]⟩, true⟩) 30 (0, 0)))) := chain B3.out (below1 _ _)
              have K1 : Hid ((w3.alloc (.cells (rrow ⟨false, ⟨#[42]⟩, 4, on, ⟨#[]⟩, true⟩) 30 (0, 0))).heap[w3.heap.size]? = some (.cells (rrow ⟨false, ⟨#[42]⟩, 4, on, ⟨#[]⟩, true⟩) 30 (0, 0))) := heap_alloc_new _ _
              have O1 : Hid ((w3.alloc (.cells (rrow ⟨false, ⟨#[42]⟩, 4, on, ⟨#[]⟩, true⟩) 30 (0, 0))).ownsRow wd.heap.size 30 6 (v2) (0 + 0) ([] ++ rcells ([] : List Rul))) := own_next O3.out (below1 w3 _)
              (go_simp; try (go_wp2_with fail))
              refine hK.out _ _ (ST0.out _ B1.out) (fun hHeld => ?_)
              clear hK K
              try simp only [Act.put, List.setIfInBounds_toArray, List.set_cons_zero, List.set_cons_succ]
              refine wpAnyH_ready (rs := [5]) (by kernel_rfl) (by simp) ?_
              refine AllReadyH.cons (o := { dst := some 76, op := Op.call { callee := Callee.builtin Builtin.append, args := #[Operand.tmp 73, Operand.tmp 75], argTypes := #[24, 24] }, type := 24, pos := "laws.go:1120", after := #[{ on := 2, ground := Ground.data }, { on := 4, ground := Ground.data }, { on := 2, ground := Ground.chain }], guard := none }) rfl (fun K hK => ?_) AllReadyH.nil
              refine AppW.step_append_all (w3.alloc (.cells (rrow ⟨false, ⟨#[42]⟩, 4, on, ⟨#[]⟩, true⟩) 30 (0, 0))) rfl (.tmp 73) (.tmp 75) 24 rfl wd.heap.size 30 i0 _ 6 64 Try.underlying24 hi hz0 hz1 hz2 rfl (by decide) (v2) (0 + 0) ([] ++ rcells ([] : List Rul)) rfl O1.out (some ⟨w3.heap.size, 0, none⟩) 1 1 (rcells [⟨false, ⟨#[42]⟩, 4, on, ⟨#[]⟩, true⟩]) rfl rfl (news_lat (one_lat (w3.alloc (.cells (rrow ⟨false, ⟨#[42]⟩, 4, on, ⟨#[]⟩, true⟩) 30 (0, 0))) _ _ K1.out)) (one_cells _) (by unfold maxLen; omega) (by omega) B1.out.size ?_
              intro v5 w5 ho5 gb5 hb5
              have L5 : Hid (LAt 6 ERul w5 (fun g => g < w5.heap.size) v5 (([] : List Rul) ++ [⟨false, ⟨#[42]⟩, 4, on, ⟨#[]⟩, true⟩])) := both_lat (by omega) ho5 (by simp only [List.length_append, List.length_cons, List.length_nil] <;> omega)
              have B5 := Seg.hid (B1.out.grown gb5 B1.out.size (own_ge O1.out))
              clear ho5 gb5 hb5
              refine hK.out _ _ (ST0.out _ B5.out) (fun hHeld => ?_)
              clear hK K
              try simp only [Act.put, List.setIfInBounds_toArray, List.set_cons_zero, List.set_cons_succ]
              refine wpAnyH_ready (rs := [10]) (by kernel_rfl) (by simp) ?_
              refine AllReadyH.cons (o := { dst := some 81, op := Op.call { callee := Callee.value (Operand.func 8), args := #[Operand.tmp 76, Operand.tmp 77, Operand.tmp 78, Operand.tmp 79, Operand.tmp 80], argTypes := #[24, 9, 3, 3, 9] }, type := 4, pos := "laws.go:1120", after := #[{ on := 5, ground := Ground.data }, { on := 6, ground := Ground.data }, { on := 7, ground := Ground.data }, { on := 8, ground := Ground.data }, { on := 9, ground := Ground.data }, { on := 5, ground := Ground.chain }], guard := none }) rfl (fun K hK => ?_) AllReadyH.nil
              (go_simp; go_at_call 8; refine (CA.out w5 v5 (([] : List Rul) ++ [⟨false, ⟨#[42]⟩, 4, on, ⟨#[]⟩, true⟩]) L5.out (by simp only [List.length_append, List.length_cons, List.length_nil]; omega) SB.out).mono ?_; rintro e w6 ⟨rfl, b6⟩; have B6 := Seg.hid (chain B5.out b6); clear b6; rw [A0.out]; try (go_wp2_with fail))
              refine hK.out _ _ (ST0.out _ B6.out) (fun hHeld => ?_)
              clear hK K
              try simp only [Act.put, List.setIfInBounds_toArray, List.set_cons_zero, List.set_cons_succ]
              refine HdK.tke 11 (some 14) (.bool nowV) rfl rfl ?_
              try simp only [Act.put, List.setIfInBounds_toArray, List.set_cons_zero, List.set_cons_succ]
              refine wpAnyH_done (by kernel_rfl) ?_ _
              have MO := (DnP.more (l := ([] : List Rul)) (r := ⟨false, ⟨#[42]⟩, 4, on, ⟨#[]⟩, true⟩) (who := who) (may := may) (on := on) (name := name) (by omega) SZ.out KR.out).2
              rw [W0.out, N0.out] at MO
              clear N0 A0 L5
              go_wp2_with fail
              (go_at_call 9; refine (CS.out w6 _ ([] : List Rul) (lat_next HN.out B6.out) (by omega) SM.out).mono ?_; rintro e w7 ⟨rfl, b7⟩; have B7 := Seg.hid (chain B6.out b7); have Q7 := (ST0.out _ B7.out).1; clear b7; rw [W0.out])
              clear W0 ST0 RN HN B6 B5
              cases wasV <;> cases nowV <;> first | exact absurd MO.2 (by decide) | exact absurd MO.1 (by decide) | (clear MO; go_wp2_with (first | (go_at_call 8; refine (CT.out w7).mono ?_; rintro e w8 ⟨rfl, b8⟩; have B8 := Seg.hid (chain B7.out b8); clear b8)); go_ret; exact ⟨rfl, chain BD.out B8.out⟩)
            · have B1 : Hid (Below wd.heap.size wd ((wd.alloc (.cells #[] 30 (0, 0))).alloc (.cells (rrow ⟨false, ⟨#[42]⟩, 4, on, ⟨#[]⟩, true⟩) 30 (0, 0)))) := chain B0.out (below1 _ _)
              have K1 : Hid (((wd.alloc (.cells #[] 30 (0, 0))).alloc (.cells (rrow ⟨false, ⟨#[42]⟩, 4, on, ⟨#[]⟩, true⟩) 30 (0, 0))).heap[wd.heap.size + 1]? = some (.cells (rrow ⟨false, ⟨#[42]⟩, 4, on, ⟨#[]⟩, true⟩) 30 (0, 0))) := (hsz wd _) ▸ heap_alloc_new (wd.alloc (.cells #[] 30 (0, 0))) (.cells (rrow ⟨false, ⟨#[42]⟩, 4, on, ⟨#[]⟩, true⟩) 30 (0, 0))
              have O1 : Hid (((wd.alloc (.cells #[] 30 (0, 0))).alloc (.cells (rrow ⟨false, ⟨#[42]⟩, 4, on, ⟨#[]⟩, true⟩) 30 (0, 0))).ownsRow wd.heap.size 30 6 (.slice (some ⟨wd.heap.size, 0, none⟩) 0 0) (0) ([])) := own_next O0.out (below1 (wd.alloc (.cells #[] 30 (0, 0))) _)
              (go_simp; try (go_wp2_with fail))
              refine hK.out _ _ (ST0.out _ B1.out) (fun hHeld => ?_)
              clear hK K
              try simp only [Act.put, List.setIfInBounds_toArray, List.set_cons_zero, List.set_cons_succ]
              refine wpAnyH_ready (rs := [2]) (by kernel_rfl) (by simp) ?_
              refine AllReadyH.cons (o := { dst := some 73, op := Op.call { callee := Callee.builtin Builtin.append, args := #[Operand.tmp 71, Operand.tmp 72], argTypes := #[24, 24] }, type := 24, pos := "laws.go:1120", after := #[{ on := 0, ground := Ground.data }, { on := 1, ground := Ground.data }], guard := none }) rfl (fun K hK => ?_) AllReadyH.nil
              refine AppW.step_append_all ((wd.alloc (.cells #[] 30 (0, 0))).alloc (.cells (rrow ⟨false, ⟨#[42]⟩, 4, on, ⟨#[]⟩, true⟩) 30 (0, 0))) rfl (.tmp 71) (.tmp 72) 24 rfl wd.heap.size 30 i0 _ 6 64 Try.underlying24 hi hz0 hz1 hz2 rfl (by decide) (.slice (some ⟨wd.heap.size, 0, none⟩) 0 0) 0 [] rfl O1.out none 0 0 (rcells ([] : List Rul)) rfl (rcells_len _) (news_lat (lat_next HN.out B1.out)) (one_cells _) (by unfold maxLen; omega) (by omega) B1.out.size ?_
              intro v2 w3 ho3 gb3 hb3
              have O3 := Seg.hid ho3
              have B3 := Seg.hid (B1.out.grown gb3 B1.out.size (own_ge O1.out))
              have K3 : Hid (w3.heap[wd.heap.size + 1]? = some (.cells (rrow ⟨false, ⟨#[42]⟩, 4, on, ⟨#[]⟩, true⟩) 30 (0, 0))) := row_grown gb3 K1.out (by show _ ≠ _; simp [Value.ownBlock])
              clear ho3 gb3 hb3
              refine hK.out _ _ (ST0.out _ B3.out) (fun hHeld => ?_)
              clear hK K
              try simp only [Act.put, List.setIfInBounds_toArray, List.set_cons_zero, List.set_cons_succ]
              refine wpAnyH_ready (rs := [5]) (by kernel_rfl) (by simp) ?_
              refine AllReadyH.cons (o := { dst := some 76, op := Op.call { callee := Callee.builtin Builtin.append, args := #[Operand.tmp 73, Operand.tmp 75], argTypes := #[24, 24] }, type := 24, pos := "laws.go:1120", after := #[{ on := 2, ground := Ground.data }, { on := 4, ground := Ground.data }, { on := 2, ground := Ground.chain }], guard := none }) rfl (fun K hK => ?_) AllReadyH.nil
              refine AppW.step_append_all w3 rfl (.tmp 73) (.tmp 75) 24 rfl wd.heap.size 30 i0 _ 6 64 Try.underlying24 hi hz0 hz1 hz2 rfl (by decide) (v2) (0 + 0) ([] ++ rcells ([] : List Rul)) rfl O3.out (some ⟨wd.heap.size + 1, 0, none⟩) 1 1 (rcells [⟨false, ⟨#[42]⟩, 4, on, ⟨#[]⟩, true⟩]) rfl rfl (news_lat (one_lat w3 _ _ K3.out)) (one_cells _) (by unfold maxLen; omega) (by omega) B3.out.size ?_
              intro v5 w5 ho5 gb5 hb5
              have L5 : Hid (LAt 6 ERul w5 (fun g => g < w5.heap.size) v5 (([] : List Rul) ++ [⟨false, ⟨#[42]⟩, 4, on, ⟨#[]⟩, true⟩])) := both_lat (by omega) ho5 (by simp only [List.length_append, List.length_cons, List.length_nil] <;> omega)
              have B5 := Seg.hid (B3.out.grown gb5 B3.out.size (own_ge O3.out))
              clear ho5 gb5 hb5
              refine hK.out _ _ (ST0.out _ B5.out) (fun hHeld => ?_)
              clear hK K
              try simp only [Act.put, List.setIfInBounds_toArray, List.set_cons_zero, List.set_cons_succ]
              refine wpAnyH_ready (rs := [10]) (by kernel_rfl) (by simp) ?_
              refine AllReadyH.cons (o := { dst := some 81, op := Op.call { callee := Callee.value (Operand.func 8), args := #[Operand.tmp 76, Operand.tmp 77, Operand.tmp 78, Operand.tmp 79, Operand.tmp 80], argTypes := #[24, 9, 3, 3, 9] }, type := 4, pos := "laws.go:1120", after := #[{ on := 5, ground := Ground.data }, { on := 6, ground := Ground.data }, { on := 7, ground := Ground.data }, { on := 8, ground := Ground.data }, { on := 9, ground := Ground.data }, { on := 5, ground := Ground.chain }], guard := none }) rfl (fun K hK => ?_) AllReadyH.nil
              (go_simp; go_at_call 8; refine (CA.out w5 v5 (([] : List Rul) ++ [⟨false, ⟨#[42]⟩, 4, on, ⟨#[]⟩, true⟩]) L5.out (by simp only [List.length_append, List.length_cons, List.length_nil]; omega) SB.out).mono ?_; rintro e w6 ⟨rfl, b6⟩; have B6 := Seg.hid (chain B5.out b6); clear b6; rw [A0.out]; try (go_wp2_with fail))
              refine hK.out _ _ (ST0.out _ B6.out) (fun hHeld => ?_)
              clear hK K
              try simp only [Act.put, List.setIfInBounds_toArray, List.set_cons_zero, List.set_cons_succ]
              refine HdK.tke 11 (some 14) (.bool nowV) rfl rfl ?_
              try simp only [Act.put, List.setIfInBounds_toArray, List.set_cons_zero, List.set_cons_succ]
              refine wpAnyH_done (by kernel_rfl) ?_ _
              have MO := (DnP.more (l := ([] : List Rul)) (r := ⟨false, ⟨#[42]⟩, 4, on, ⟨#[]⟩, true⟩) (who := who) (may := may) (on := on) (name := name) (by omega) SZ.out KR.out).2
              rw [W0.out, N0.out] at MO
              clear N0 A0 L5
              go_wp2_with fail
              (go_at_call 9; refine (CS.out w6 _ ([] : List Rul) (lat_next HN.out B6.out) (by omega) SM.out).mono ?_; rintro e w7 ⟨rfl, b7⟩; have B7 := Seg.hid (chain B6.out b7); have Q7 := (ST0.out _ B7.out).1; clear b7; rw [W0.out])
              clear W0 ST0 RN HN B6 B5
              cases wasV <;> cases nowV <;> first | exact absurd MO.2 (by decide) | exact absurd MO.1 (by decide) | (clear MO; go_wp2_with (first | (go_at_call 8; refine (CT.out w7).mono ?_; rintro e w8 ⟨rfl, b8⟩; have B8 := Seg.hid (chain B7.out b8); clear b8)); go_ret; exact ⟨rfl, chain BD.out B8.out⟩)
          · have B1 : Hid (Below wd.heap.size wd (wd.alloc (.cells (rrow ⟨false, ⟨#[42]⟩, 4, on, ⟨#[]⟩, true⟩) 30 (0, 0)))) := chain BR.out (below1 _ _)
            have K1 : Hid ((wd.alloc (.cells (rrow ⟨false, ⟨#[42]⟩, 4, on, ⟨#[]⟩, true⟩) 30 (0, 0))).heap[wd.heap.size]? = some (.cells (rrow ⟨false, ⟨#[42]⟩, 4, on, ⟨#[]⟩, true⟩) 30 (0, 0))) := heap_alloc_new _ _
            (go_simp; try (go_wp2_with fail))
            refine hK.out _ _ (ST0.out _ B1.out) (fun hHeld => ?_)
            clear hK K
            try simp only [Act.put, List.setIfInBounds_toArray, List.set_cons_zero, List.set_cons_succ]
            refine wpAnyH_ready (rs := [0]) (by kernel_rfl) (by simp) ?_
            refine AllReadyH.cons (o := { dst := some 71, op := Op.buildSlice 24 0 #[], type := 24, pos := "laws.go:1120", after := #[], guard := none }) rfl (fun K hK => ?_) AllReadyH.nil
            have B0 : Hid (Below wd.heap.size wd ((wd.alloc (.cells (rrow ⟨false, ⟨#[42]⟩, 4, on, ⟨#[]⟩, true⟩) 30 (0, 0))).alloc (.cells #[] 30 (0, 0)))) := chain B1.out (below1 _ _)
            have O0 : Hid (((wd.alloc (.cells (rrow ⟨false, ⟨#[42]⟩, 4, on, ⟨#[]⟩, true⟩) 30 (0, 0))).alloc (.cells #[] 30 (0, 0))).ownsRow wd.heap.size 30 6 (.slice (some ⟨wd.heap.size + 1, 0, none⟩) 0 0) 0 []) := ⟨rfl, .inr ⟨wd.heap.size + 1, 0, #[], rfl, Nat.le_succ _, (hsz wd _) ▸ heap_alloc_new (wd.alloc (.cells (rrow ⟨false, ⟨#[42]⟩, 4, on, ⟨#[]⟩, true⟩) 30 (0, 0))) (.cells #[] 30 (0, 0)), Nat.le_refl _, by decide, rfl, rfl⟩⟩
            have K0 : Hid (((wd.alloc (.cells (rrow ⟨false, ⟨#[42]⟩, 4, on, ⟨#[]⟩, true⟩) 30 (0, 0))).alloc (.cells #[] 30 (0, 0))).heap[wd.heap.size]? = some (.cells (rrow ⟨false, ⟨#[42]⟩, 4, on, ⟨#[]⟩, true⟩) 30 (0, 0))) := ((below1 (wd.alloc (.cells (rrow ⟨false, ⟨#[42]⟩, 4, on, ⟨#[]⟩, true⟩) 30 (0, 0))) _).block _ (Array.getElem?_eq_some_iff.1 K1.out).1).trans K1.out
            (go_simp; try (go_wp2_with fail))
            refine hK.out _ _ (ST0.out _ B0.out) (fun hHeld => ?_)
            clear hK K
            try simp only [Act.put, List.setIfInBounds_toArray, List.set_cons_zero, List.set_cons_succ]
            refine wpAnyH_ready (rs := [2]) (by kernel_rfl) (by simp) ?_
            refine AllReadyH.cons (o := { dst := some 73, op := Op.call { callee := Callee.builtin Builtin.append, args := #[Operand.tmp 71, Operand.tmp 72], argTypes := #[24, 24] }, type := 24, pos := "laws.go:1120", after := #[{ on := 0, ground := Ground.data }, { on := 1, ground := Ground.data }], guard := none }) rfl (fun K hK => ?_) AllReadyH.nil
            refine AppW.step_append_all ((wd.alloc (.cells (rrow ⟨false, ⟨#[42]⟩, 4, on, ⟨#[]⟩, true⟩) 30 (0, 0))).alloc (.cells #[] 30 (0, 0))) rfl (.tmp 71) (.tmp 72) 24 rfl wd.heap.size 30 i0 _ 6 64 Try.underlying24 hi hz0 hz1 hz2 rfl (by decide) (.slice (some ⟨wd.heap.size + 1, 0, none⟩) 0 0) 0 [] rfl O0.out none 0 0 (rcells ([] : List Rul)) rfl (rcells_len _) (news_lat (lat_next HN.out B0.out)) (one_cells _) (by unfold maxLen; omega) (by omega) B0.out.size ?_
            intro v2 w3 ho3 gb3 hb3
            have O3 := Seg.hid ho3
            have B3 := Seg.hid (B0.out.grown gb3 B0.out.size (own_ge O0.out))
            have K3 : Hid (w3.heap[wd.heap.size]? = some (.cells (rrow ⟨false, ⟨#[42]⟩, 4, on, ⟨#[]⟩, true⟩) 30 (0, 0))) := row_grown gb3 K0.out (by show _ ≠ _; simp [Value.ownBlock])
            clear ho3 gb3 hb3
            refine hK.out _ _ (ST0.out _ B3.out) (fun hHeld => ?_)
            clear hK K
            try simp only [Act.put, List.setIfInBounds_toArray, List.set_cons_zero, List.set_cons_succ]
            refine wpAnyH_ready (rs := [5]) (by kernel_rfl) (by simp) ?_
            refine AllReadyH.cons (o := { dst := some 76, op := Op.call { callee := Callee.builtin Builtin.append, args := #[Operand.tmp 73, Operand.tmp 75], argTypes := #[24, 24] }, type := 24, pos := "laws.go:1120", after := #[{ on := 2, ground := Ground.data }, { on := 4, ground := Ground.data }, { on := 2, ground := Ground.chain }], guard := none }) rfl (fun K hK => ?_) AllReadyH.nil
            refine AppW.step_append_all w3 rfl (.tmp 73) (.tmp 75) 24 rfl wd.heap.size 30 i0 _ 6 64 Try.underlying24 hi hz0 hz1 hz2 rfl (by decide) (v2) (0 + 0) ([] ++ rcells ([] : List Rul)) rfl O3.out (some ⟨wd.heap.size, 0, none⟩) 1 1 (rcells [⟨false, ⟨#[42]⟩, 4, on, ⟨#[]⟩, true⟩]) rfl rfl (news_lat (one_lat w3 _ _ K3.out)) (one_cells _) (by unfold maxLen; omega) (by omega) B3.out.size ?_
            intro v5 w5 ho5 gb5 hb5
            have L5 : Hid (LAt 6 ERul w5 (fun g => g < w5.heap.size) v5 (([] : List Rul) ++ [⟨false, ⟨#[42]⟩, 4, on, ⟨#[]⟩, true⟩])) := both_lat (by omega) ho5 (by simp only [List.length_append, List.length_cons, List.length_nil] <;> omega)
            have B5 := Seg.hid (B3.out.grown gb5 B3.out.size (own_ge O3.out))
            clear ho5 gb5 hb5
            refine hK.out _ _ (ST0.out _ B5.out) (fun hHeld => ?_)
            clear hK K
            try simp only [Act.put, List.setIfInBounds_toArray, List.set_cons_zero, List.set_cons_succ]
            refine wpAnyH_ready (rs := [10]) (by kernel_rfl) (by simp) ?_
            refine AllReadyH.cons (o := { dst := some 81, op := Op.call { callee := Callee.value (Operand.func 8), args := #[Operand.tmp 76, Operand.tmp 77, Operand.tmp 78, Operand.tmp 79, Operand.tmp 80], argTypes := #[24, 9, 3, 3, 9] }, type := 4, pos := "laws.go:1120", after := #[{ on := 5, ground := Ground.data }, { on := 6, ground := Ground.data }, { on := 7, ground := Ground.data }, { on := 8, ground := Ground.data }, { on := 9, ground := Ground.data }, { on := 5, ground := Ground.chain }], guard := none }) rfl (fun K hK => ?_) AllReadyH.nil
            (go_simp; go_at_call 8; refine (CA.out w5 v5 (([] : List Rul) ++ [⟨false, ⟨#[42]⟩, 4, on, ⟨#[]⟩, true⟩]) L5.out (by simp only [List.length_append, List.length_cons, List.length_nil]; omega) SB.out).mono ?_; rintro e w6 ⟨rfl, b6⟩; have B6 := Seg.hid (chain B5.out b6); clear b6; rw [A0.out]; try (go_wp2_with fail))
            refine hK.out _ _ (ST0.out _ B6.out) (fun hHeld => ?_)
            clear hK K
            try simp only [Act.put, List.setIfInBounds_toArray, List.set_cons_zero, List.set_cons_succ]
            refine HdK.tke 11 (some 14) (.bool nowV) rfl rfl ?_
            try simp only [Act.put, List.setIfInBounds_toArray, List.set_cons_zero, List.set_cons_succ]
            refine wpAnyH_done (by kernel_rfl) ?_ _
            have MO := (DnP.more (l := ([] : List Rul)) (r := ⟨false, ⟨#[42]⟩, 4, on, ⟨#[]⟩, true⟩) (who := who) (may := may) (on := on) (name := name) (by omega) SZ.out KR.out).2
            rw [W0.out, N0.out] at MO
            clear N0 A0 L5
            go_wp2_with fail
            (go_at_call 9; refine (CS.out w6 _ ([] : List Rul) (lat_next HN.out B6.out) (by omega) SM.out).mono ?_; rintro e w7 ⟨rfl, b7⟩; have B7 := Seg.hid (chain B6.out b7); have Q7 := (ST0.out _ B7.out).1; clear b7; rw [W0.out])
            clear W0 ST0 RN HN B6 B5
            cases wasV <;> cases nowV <;> first | exact absurd MO.2 (by decide) | exact absurd MO.1 (by decide) | (clear MO; go_wp2_with (first | (go_at_call 8; refine (CT.out w7).mono ?_; rintro e w8 ⟨rfl, b8⟩; have B8 := Seg.hid (chain B7.out b8); clear b8)); go_ret; exact ⟨rfl, chain BD.out B8.out⟩)
        | false =>
          have SZ0 : Hid (shows ps = true) := text_shows (by rw [HTY.out]; exact beq_of htf)
          have htf2 := beq_of htf
          go_upto_region 8 with fail
          obtain ⟨wz, rfl⟩ : ∃ wz, wz = w4 := ⟨_, rfl⟩
          have BZ := B4
          have HZ := HP4
          obtain ⟨A9, c9, g9, o9, F9, e9, OP9, -⟩ := opn HV4.out (fun g hg => hg)
          simp only [Value.slice.injEq, true_and] at e9
          obtain ⟨rfl, rfl⟩ := e9
          obtain ⟨e9, -, lz⟩ := OP9.addr.resolve_left (by simp)
          simp only [Option.some.injEq, Addr.mk.injEq, and_true] at e9
          obtain ⟨rfl, rfl⟩ := e9
          obtain ⟨e0, e1, e2, e3, e4, e5⟩ := rul_cells (i := 0) (fun j hj => OP9.cells 0 (by simp) j hj) (OP9.el 0 (by simp))
          simp only [Nat.zero_mul, Nat.add_zero, List.getD_cons_zero] at e0 e1 e2 e3 e4 e5
          have SZ : Hid (shows ps = true) := SZ0.out
          have KR := KR0
          have SM : Hid (∀ r ∈ ps, Sm r) := sp
          have SR := SR0
          have hl5 : (ps).length ≤ 5 := lp
          clear OP9 B4 HP4 HV4 KR0 SR0
          go_upto_region 9 with fail
          obtain ⟨q, hq⟩ : ∃ q, wz.heap.size = q := ⟨_, rfl⟩
          obtain ⟨wy, hwy⟩ : ∃ wy, wz.alloc (.cells (rrow ⟨dn, wh, mb, onr, nm, bg⟩) 30 (0, 0)) = wy := ⟨_, rfl⟩
          rw [hwy, hq]
          have RY : Hid (wy.heap[q]? = some (.cells (rrow ⟨dn, wh, mb, onr, nm, bg⟩) 30 (0, 0))) := by show _ = _; rw [← hwy, ← hq]; exact heap_alloc_new _ _
          have HY : Hid (LAt 6 ERul wy (fun g => g < wy.heap.size) (.slice Av ps.length cv) ps) := by show LAt _ _ _ _ _ _; rw [← hwy]; exact lat_next HZ.out (below1 _ _)
          have BY : Hid (Below w.heap.size w wy) := by show Below _ _ _; rw [← hwy]; exact chain BZ.out (below1 _ _)
          clear hwy hq HZ BZ e0 e1 e2 e3 e4 e5 lz
          have ly := (Array.getElem?_eq_some_iff.1 RY.out).1
          obtain ⟨wasV, hwas⟩ : ∃ x, allowed ps who may on name = x := ⟨_, rfl⟩
          have W0 := Seg.hid hwas
          clear hwas
          go_upto_region 10 with (first | (go_at_call 8; refine (CA.out wy _ ps HY.out (by omega) SM.out).mono ?_; rintro e wa ⟨rfl, ba⟩; have RA := Seg.hid ((ba.block _ ly).trans RY.out); have HA := Seg.hid (lat_next HY.out ba); have BA := Seg.hid (chain BY.out ba); clear ba))
          rw [W0.out]
          clear RY HY BY ly
          have la := (Array.getElem?_eq_some_iff.1 RA.out).1
          obtain ⟨⟨d0, d1, d2, d3, d4, d5⟩, _⟩ := sixR RA.out
          have OWN : Hid ((wa.alloc (.cells (rrow ⟨dn, wh, mb, onr, nm, bg⟩) 30 (0, 0))).ownsRow wa.heap.size 30 6 (.slice (some ⟨wa.heap.size, 0, none⟩) 1 1) 1 (rrow ⟨dn, wh, mb, onr, nm, bg⟩).toList) := ⟨rfl, .inr ⟨wa.heap.size, 1, rrow ⟨dn, wh, mb, onr, nm, bg⟩, rfl, Nat.le_refl _, heap_alloc_new _ _, Nat.le_refl _, by decide, rfl, rfl⟩⟩
          have NEWS : Hid (∀ o1, ps.length ≠ 0 → ∃ ad : Addr, Av = some ad ∧ ∀ j u, (rcells ps)[j]? = some u → (wa.alloc o1).cell? (ad.add j) = some u) := fun o1 => news_lat (lat_next HA.out (below1 wa o1))
          have GB : Hid (∀ o1 w', (wa.alloc o1).grownBy w' (Value.slice (some ⟨wa.heap.size, 0, none⟩) 1 1).ownBlock → Below wa.heap.size wa w') := fun o1 w' g => (below1 wa o1).grown g (by rw [hsz]; omega) (fun x hx => by cases hx; exact Nat.le_refl _)
          have NOW : Hid (∀ w' v', w'.ownsRow wa.heap.size 30 6 v' (1 + ps.length) ((rrow ⟨dn, wh, mb, onr, nm, bg⟩).toList ++ rcells ps) → LAt 6 ERul w' (fun g => g < w'.heap.size) v' (⟨dn, wh, mb, onr, nm, bg⟩ :: ps)) := fun w' v' h => ro_lat (base := wa.heap.size) (by simp only [List.length_cons]; omega) (by show w'.ownsRow _ _ _ _ _ _; rw [List.length_cons, Nat.add_comm]; exact h)
          have SN : Hid (∀ r ∈ (⟨dn, wh, mb, onr, nm, bg⟩ :: ps), Sm r) := fun r hr => by
            rcases List.mem_cons.1 hr with h | h
            · rw [h]; exact SR.out
            · exact SM.out r h
          obtain ⟨nowV, hnow⟩ : ∃ x, allowed (⟨dn, wh, mb, onr, nm, bg⟩ :: ps) who may on name = x := ⟨_, rfl⟩
          have N0 := Seg.hid hnow
          clear hnow
          go_upto_region 11 with (first | (at_builtin; (refine AppW.wpList_append_all _ rfl (.tmp 63) (.tmp 64) 24 rfl wa.heap.size 30 i0 _ 6 64 Try.underlying24 hi hz0 hz1 hz2 rfl (by decide) (.slice (some ⟨wa.heap.size, 0, none⟩) 1 1) 1 (rrow ⟨dn, wh, mb, onr, nm, bg⟩).toList rfl OWN.out Av ps.length cv (rcells ps) rfl (rcells_len _) (NEWS.out _) (one_cells _) (by unfold maxLen; omega) (by omega) (by rw [hsz]; omega) ?_; intro vb wb hob gb hab; have LB := Seg.hid (NOW.out _ _ hob); have BB := Seg.hid (GB.out _ _ gb); clear hob gb hab)) | (go_at_call 8; refine (CA.out wb vb (⟨dn, wh, mb, onr, nm, bg⟩ :: ps) LB.out (by simp only [List.length_cons]; omega) SN.out).mono ?_; rintro e wn ⟨rfl, bn⟩; have BN := Seg.hid (chain BB.out bn); clear bn))
          rw [N0.out]
          have RN : Hid (wn.drew.heap[q]? = some (.cells (rrow ⟨dn, wh, mb, onr, nm, bg⟩) 30 (0, 0))) := (BN.out.block _ la).trans RA.out
          have HN : Hid (LAt 6 ERul wn.drew (fun g => g < wn.drew.heap.size) (.slice Av ps.length cv) ps) := lat_next HA.out BN.out.drew
          have BD : Hid (Below w.heap.size w wn.drew) := (chain BA.out BN.out).drew
          clear OWN NEWS GB NOW d0 d1 d2 d3 d4 d5 LB BB RA HA BA BN la
          have ST0 : Hid (∀ wx, Below wn.drew.heap.size wn.drew wx → wx.cell? ⟨q, 0, none⟩ = some (.bool dn) ∧ wx.cell? ⟨q, 1, none⟩ = some (.string wh) ∧ wx.cell? ⟨q, 2, none⟩ = some (.int .i64 mb) ∧ wx.cell? ⟨q, 3, none⟩ = some (.int .i64 onr) ∧ wx.cell? ⟨q, 4, none⟩ = some (.string nm) ∧ wx.cell? ⟨q, 5, none⟩ = some (.bool bg)) := fun wx b => (sixR ((b.block _ (Array.getElem?_eq_some_iff.1 RN.out).1).trans RN.out)).1
          refine wp_region_held_drew (S := (fun w' => w'.cell? ⟨q, 0, none⟩ = some (.bool dn) ∧ w'.cell? ⟨q, 1, none⟩ = some (.string wh) ∧ w'.cell? ⟨q, 2, none⟩ = some (.int .i64 mb) ∧ w'.cell? ⟨q, 3, none⟩ = some (.int .i64 onr) ∧ w'.cell? ⟨q, 4, none⟩ = some (.string nm) ∧ w'.cell? ⟨q, 5, none⟩ = some (.bool bg))) (by kernel_rfl) (ST0.out _ (Below.refl _ _)) (fun hHeld => ?_)
          generalize wn.drew = wd at *
          refine HdK.tke 1 (some 72) (.slice Av ps.length cv) rfl rfl ?_
          try simp only [Act.put, List.setIfInBounds_toArray, List.set_cons_zero, List.set_cons_succ]
          refine HdK.tke 3 (some 74) (.agg (rrow ⟨dn, wh, mb, onr, nm, bg⟩)) rfl rfl ?_
          try simp only [Act.put, List.setIfInBounds_toArray, List.set_cons_zero, List.set_cons_succ]
          refine HdK.tke 6 (some 77) (.string who) rfl rfl ?_
          try simp only [Act.put, List.setIfInBounds_toArray, List.set_cons_zero, List.set_cons_succ]
          refine HdK.tke 7 (some 78) (.int .i64 may) rfl rfl ?_
          try simp only [Act.put, List.setIfInBounds_toArray, List.set_cons_zero, List.set_cons_succ]
          refine HdK.tke 8 (some 79) (.int .i64 on) rfl rfl ?_
          try simp only [Act.put, List.setIfInBounds_toArray, List.set_cons_zero, List.set_cons_succ]
          refine HdK.tke 9 (some 80) (.string name) rfl rfl ?_
          try simp only [Act.put, List.setIfInBounds_toArray, List.set_cons_zero, List.set_cons_succ]
          have BR : Hid (Below wd.heap.size wd wd) := Below.refl _ _
          have SB : Hid (∀ r ∈ (ps ++ [⟨dn, wh, mb, onr, nm, bg⟩]), Sm r) := fun r hr => by
            rcases List.mem_append.1 hr with h | h
            · exact SM.out r h
            · rw [List.mem_singleton.1 h]; exact SR.out
          have A0 : Hid (allowed (ps ++ [⟨dn, wh, mb, onr, nm, bg⟩]) who may on name = nowV) := (DnP.more (by omega) SZ.out KR.out).1.trans N0.out
          refine wpAnyH_ready (rs := [0, 4]) (by kernel_rfl) (by simp) ?_
          refine AllReadyH.cons (o := { dst := some 71, op := Op.buildSlice 24 0 #[], type := 24, pos := "laws.go:1120", after := #[], guard := none }) rfl (fun K hK => ?_) (AllReadyH.cons (o := { dst := some 75, op := Op.buildSlice 24 1 #[(0, Operand.tmp 74)], type := 24, pos := "laws.go:1120", after := #[{ on := 3, ground := Ground.data }], guard := none }) rfl (fun K hK => ?_) AllReadyH.nil)
          · have B0 : Hid (Below wd.heap.size wd (wd.alloc (.cells #[] 30 (0, 0)))) := chain BR.out (below1 _ _)
            have O0 : Hid ((wd.alloc (.cells #[] 30 (0, 0))).ownsRow wd.heap.size 30 6 (.slice (some ⟨wd.heap.size, 0, none⟩) 0 0) 0 []) := ⟨rfl, .inr ⟨wd.heap.size, 0, #[], rfl, BR.out.size, heap_alloc_new _ _, Nat.le_refl _, by decide, rfl, rfl⟩⟩
            (go_simp; try (go_wp2_with fail))
            refine hK.out _ _ (ST0.out _ B0.out) (fun hHeld => ?_)
            clear hK K
            try simp only [Act.put, List.setIfInBounds_toArray, List.set_cons_zero, List.set_cons_succ]
            refine wpAnyH_ready (rs := [2, 4]) (by kernel_rfl) (by simp) ?_
            refine AllReadyH.cons (o := { dst := some 73, op := Op.call { callee := Callee.builtin Builtin.append, args := #[Operand.tmp 71, Operand.tmp 72], argTypes := #[24, 24] }, type := 24, pos := "laws.go:1120", after := #[{ on := 0, ground := Ground.data }, { on := 1, ground := Ground.data }], guard := none }) rfl (fun K hK => ?_) (AllReadyH.cons (o := { dst := some 75, op := Op.buildSlice 24 1 #[(0, Operand.tmp 74)], type := 24, pos := "laws.go:1120", after := #[{ on := 3, ground := Ground.data }], guard := none }) rfl (fun K hK => ?_) AllReadyH.nil)
            · refine AppW.step_append_all (wd.alloc (.cells #[] 30 (0, 0))) rfl (.tmp 71) (.tmp 72) 24 rfl wd.heap.size 30 i0 _ 6 64 Try.underlying24 hi hz0 hz1 hz2 rfl (by decide) (.slice (some ⟨wd.heap.size, 0, none⟩) 0 0) 0 [] rfl O0.out Av ps.length cv (rcells ps) rfl (rcells_len _) (news_lat (lat_next HN.out B0.out)) (one_cells _) (by unfold maxLen; omega) (by omega) B0.out.size ?_
              intro v2 w3 ho3 gb3 hb3
              have O3 := Seg.hid ho3
              have B3 := Seg.hid (B0.out.grown gb3 B0.out.size (own_ge O0.out))
              clear ho3 gb3 hb3
              refine hK.out _ _ (ST0.out _ B3.out) (fun hHeld => ?_)
              clear hK K
              try simp only [Act.put, List.setIfInBounds_toArray, List.set_cons_zero, List.set_cons_succ]
              refine wpAnyH_ready (rs := [4]) (by kernel_rfl) (by simp) ?_
              refine AllReadyH.cons (o := { dst := some 75, op := Op.buildSlice 24 1 #[(0, Operand.tmp 74)], type := 24, pos := "laws.go:1120", after := #[{ on := 3, ground := Ground.data }], guard := none }) rfl (fun K hK => ?_) AllReadyH.nil
              have B1 : Hid (Below wd.heap.size wd (w3.alloc (.cells (rrow ⟨dn, wh, mb, onr, nm, bg⟩) 30 (0, 0)))) := chain B3.out (below1 _ _)
              have K1 : Hid ((w3.alloc (.cells (rrow ⟨dn, wh, mb, onr, nm, bg⟩) 30 (0, 0))).heap[w3.heap.size]? = some (.cells (rrow ⟨dn, wh, mb, onr, nm, bg⟩) 30 (0, 0))) := heap_alloc_new _ _
              have O1 : Hid ((w3.alloc (.cells (rrow ⟨dn, wh, mb, onr, nm, bg⟩) 30 (0, 0))).ownsRow wd.heap.size 30 6 (v2) (0 + ps.length) ([] ++ rcells ps)) := own_next O3.out (below1 w3 _)
              (go_simp; try (go_wp2_with fail))
              refine hK.out _ _ (ST0.out _ B1.out) (fun hHeld => ?_)
              clear hK K
              try simp only [Act.put, List.setIfInBounds_toArray, List.set_cons_zero, List.set_cons_succ]
              refine wpAnyH_ready (rs := [5]) (by kernel_rfl) (by simp) ?_
              refine AllReadyH.cons (o := { dst := some 76, op := Op.call { callee := Callee.builtin Builtin.append, args := #[Operand.tmp 73, Operand.tmp 75], argTypes := #[24, 24] }, type := 24, pos := "laws.go:1120", after := #[{ on := 2, ground := Ground.data }, { on := 4, ground := Ground.data }, { on := 2, ground := Ground.chain }], guard := none }) rfl (fun K hK => ?_) AllReadyH.nil
              refine AppW.step_append_all (w3.alloc (.cells (rrow ⟨dn, wh, mb, onr, nm, bg⟩) 30 (0, 0))) rfl (.tmp 73) (.tmp 75) 24 rfl wd.heap.size 30 i0 _ 6 64 Try.underlying24 hi hz0 hz1 hz2 rfl (by decide) (v2) (0 + ps.length) ([] ++ rcells ps) rfl O1.out (some ⟨w3.heap.size, 0, none⟩) 1 1 (rcells [⟨dn, wh, mb, onr, nm, bg⟩]) rfl rfl (news_lat (one_lat (w3.alloc (.cells (rrow ⟨dn, wh, mb, onr, nm, bg⟩) 30 (0, 0))) _ _ K1.out)) (one_cells _) (by unfold maxLen; omega) (by omega) B1.out.size ?_
              intro v5 w5 ho5 gb5 hb5
              have L5 : Hid (LAt 6 ERul w5 (fun g => g < w5.heap.size) v5 (ps ++ [⟨dn, wh, mb, onr, nm, bg⟩])) := both_lat (by omega) ho5 (by simp only [List.length_append, List.length_cons, List.length_nil] <;> omega)
              have B5 := Seg.hid (B1.out.grown gb5 B1.out.size (own_ge O1.out))
              clear ho5 gb5 hb5
              refine hK.out _ _ (ST0.out _ B5.out) (fun hHeld => ?_)
              clear hK K
              try simp only [Act.put, List.setIfInBounds_toArray, List.set_cons_zero, List.set_cons_succ]
              refine wpAnyH_ready (rs := [10]) (by kernel_rfl) (by simp) ?_
              refine AllReadyH.cons (o := { dst := some 81, op := Op.call { callee := Callee.value (Operand.func 8), args := #[Operand.tmp 76, Operand.tmp 77, Operand.tmp 78, Operand.tmp 79, Operand.tmp 80], argTypes := #[24, 9, 3, 3, 9] }, type := 4, pos := "laws.go:1120", after := #[{ on := 5, ground := Ground.data }, { on := 6, ground := Ground.data }, { on := 7, ground := Ground.data }, { on := 8, ground := Ground.data }, { on := 9, ground := Ground.data }, { on := 5, ground := Ground.chain }], guard := none }) rfl (fun K hK => ?_) AllReadyH.nil
              (go_simp; go_at_call 8; refine (CA.out w5 v5 (ps ++ [⟨dn, wh, mb, onr, nm, bg⟩]) L5.out (by simp only [List.length_append, List.length_cons, List.length_nil]; omega) SB.out).mono ?_; rintro e w6 ⟨rfl, b6⟩; have B6 := Seg.hid (chain B5.out b6); clear b6; rw [A0.out]; try (go_wp2_with fail))
              refine hK.out _ _ (ST0.out _ B6.out) (fun hHeld => ?_)
              clear hK K
              try simp only [Act.put, List.setIfInBounds_toArray, List.set_cons_zero, List.set_cons_succ]
              refine HdK.tke 11 (some 14) (.bool nowV) rfl rfl ?_
              try simp only [Act.put, List.setIfInBounds_toArray, List.set_cons_zero, List.set_cons_succ]
              refine wpAnyH_done (by kernel_rfl) ?_ _
              have MO := (DnP.more (l := ps) (r := ⟨dn, wh, mb, onr, nm, bg⟩) (who := who) (may := may) (on := on) (name := name) (by omega) SZ.out KR.out).2
              rw [W0.out, N0.out] at MO
              clear N0 A0 L5
              go_wp2_with fail
              (go_at_call 9; refine (CS.out w6 _ ps (lat_next HN.out B6.out) (by omega) SM.out).mono ?_; rintro e w7 ⟨rfl, b7⟩; have B7 := Seg.hid (chain B6.out b7); have Q7 := (ST0.out _ B7.out).1; clear b7; rw [W0.out])
              clear W0 ST0 RN HN B6 B5
              cases dn <;> cases wasV <;> cases nowV <;> first | exact absurd MO.2 (by decide) | exact absurd MO.1 (by decide) | (clear MO; go_wp2_with (first | (go_at_call 8; refine (CT.out w7).mono ?_; rintro e w8 ⟨rfl, b8⟩; have B8 := Seg.hid (chain B7.out b8); clear b8)); go_ret; exact ⟨rfl, chain BD.out B8.out⟩)
            · have B1 : Hid (Below wd.heap.size wd ((wd.alloc (.cells #[] 30 (0, 0))).alloc (.cells (rrow ⟨dn, wh, mb, onr, nm, bg⟩) 30 (0, 0)))) := chain B0.out (below1 _ _)
              have K1 : Hid (((wd.alloc (.cells #[] 30 (0, 0))).alloc (.cells (rrow ⟨dn, wh, mb, onr, nm, bg⟩) 30 (0, 0))).heap[wd.heap.size + 1]? = some (.cells (rrow ⟨dn, wh, mb, onr, nm, bg⟩) 30 (0, 0))) := (hsz wd _) ▸ heap_alloc_new (wd.alloc (.cells #[] 30 (0, 0))) (.cells (rrow ⟨dn, wh, mb, onr, nm, bg⟩) 30 (0, 0))
              have O1 : Hid (((wd.alloc (.cells #[] 30 (0, 0))).alloc (.cells (rrow ⟨dn, wh, mb, onr, nm, bg⟩) 30 (0, 0))).ownsRow wd.heap.size 30 6 (.slice (some ⟨wd.heap.size, 0, none⟩) 0 0) (0) ([])) := own_next O0.out (below1 (wd.alloc (.cells #[] 30 (0, 0))) _)
              (go_simp; try (go_wp2_with fail))
              refine hK.out _ _ (ST0.out _ B1.out) (fun hHeld => ?_)
              clear hK K
              try simp only [Act.put, List.setIfInBounds_toArray, List.set_cons_zero, List.set_cons_succ]
              refine wpAnyH_ready (rs := [2]) (by kernel_rfl) (by simp) ?_
              refine AllReadyH.cons (o := { dst := some 73, op := Op.call { callee := Callee.builtin Builtin.append, args := #[Operand.tmp 71, Operand.tmp 72], argTypes := #[24, 24] }, type := 24, pos := "laws.go:1120", after := #[{ on := 0, ground := Ground.data }, { on := 1, ground := Ground.data }], guard := none }) rfl (fun K hK => ?_) AllReadyH.nil
              refine AppW.step_append_all ((wd.alloc (.cells #[] 30 (0, 0))).alloc (.cells (rrow ⟨dn, wh, mb, onr, nm, bg⟩) 30 (0, 0))) rfl (.tmp 71) (.tmp 72) 24 rfl wd.heap.size 30 i0 _ 6 64 Try.underlying24 hi hz0 hz1 hz2 rfl (by decide) (.slice (some ⟨wd.heap.size, 0, none⟩) 0 0) 0 [] rfl O1.out Av ps.length cv (rcells ps) rfl (rcells_len _) (news_lat (lat_next HN.out B1.out)) (one_cells _) (by unfold maxLen; omega) (by omega) B1.out.size ?_
              intro v2 w3 ho3 gb3 hb3
              have O3 := Seg.hid ho3
              have B3 := Seg.hid (B1.out.grown gb3 B1.out.size (own_ge O1.out))
              have K3 : Hid (w3.heap[wd.heap.size + 1]? = some (.cells (rrow ⟨dn, wh, mb, onr, nm, bg⟩) 30 (0, 0))) := row_grown gb3 K1.out (by show _ ≠ _; simp [Value.ownBlock])
              clear ho3 gb3 hb3
              refine hK.out _ _ (ST0.out _ B3.out) (fun hHeld => ?_)
              clear hK K
              try simp only [Act.put, List.setIfInBounds_toArray, List.set_cons_zero, List.set_cons_succ]
              refine wpAnyH_ready (rs := [5]) (by kernel_rfl) (by simp) ?_
              refine AllReadyH.cons (o := { dst := some 76, op := Op.call { callee := Callee.builtin Builtin.append, args := #[Operand.tmp 73, Operand.tmp 75], argTypes := #[24, 24] }, type := 24, pos := "laws.go:1120", after := #[{ on := 2, ground := Ground.data }, { on := 4, ground := Ground.data }, { on := 2, ground := Ground.chain }], guard := none }) rfl (fun K hK => ?_) AllReadyH.nil
              refine AppW.step_append_all w3 rfl (.tmp 73) (.tmp 75) 24 rfl wd.heap.size 30 i0 _ 6 64 Try.underlying24 hi hz0 hz1 hz2 rfl (by decide) (v2) (0 + ps.length) ([] ++ rcells ps) rfl O3.out (some ⟨wd.heap.size + 1, 0, none⟩) 1 1 (rcells [⟨dn, wh, mb, onr, nm, bg⟩]) rfl rfl (news_lat (one_lat w3 _ _ K3.out)) (one_cells _) (by unfold maxLen; omega) (by omega) B3.out.size ?_
              intro v5 w5 ho5 gb5 hb5
              have L5 : Hid (LAt 6 ERul w5 (fun g => g < w5.heap.size) v5 (ps ++ [⟨dn, wh, mb, onr, nm, bg⟩])) := both_lat (by omega) ho5 (by simp only [List.length_append, List.length_cons, List.length_nil] <;> omega)
              have B5 := Seg.hid (B3.out.grown gb5 B3.out.size (own_ge O3.out))
              clear ho5 gb5 hb5
              refine hK.out _ _ (ST0.out _ B5.out) (fun hHeld => ?_)
              clear hK K
              try simp only [Act.put, List.setIfInBounds_toArray, List.set_cons_zero, List.set_cons_succ]
              refine wpAnyH_ready (rs := [10]) (by kernel_rfl) (by simp) ?_
              refine AllReadyH.cons (o := { dst := some 81, op := Op.call { callee := Callee.value (Operand.func 8), args := #[Operand.tmp 76, Operand.tmp 77, Operand.tmp 78, Operand.tmp 79, Operand.tmp 80], argTypes := #[24, 9, 3, 3, 9] }, type := 4, pos := "laws.go:1120", after := #[{ on := 5, ground := Ground.data }, { on := 6, ground := Ground.data }, { on := 7, ground := Ground.data }, { on := 8, ground := Ground.data }, { on := 9, ground := Ground.data }, { on := 5, ground := Ground.chain }], guard := none }) rfl (fun K hK => ?_) AllReadyH.nil
              (go_simp; go_at_call 8; refine (CA.out w5 v5 (ps ++ [⟨dn, wh, mb, onr, nm, bg⟩]) L5.out (by simp only [List.length_append, List.length_cons, List.length_nil]; omega) SB.out).mono ?_; rintro e w6 ⟨rfl, b6⟩; have B6 := Seg.hid (chain B5.out b6); clear b6; rw [A0.out]; try (go_wp2_with fail))
              refine hK.out _ _ (ST0.out _ B6.out) (fun hHeld => ?_)
              clear hK K
              try simp only [Act.put, List.setIfInBounds_toArray, List.set_cons_zero, List.set_cons_succ]
              refine HdK.tke 11 (some 14) (.bool nowV) rfl rfl ?_
              try simp only [Act.put, List.setIfInBounds_toArray, List.set_cons_zero, List.set_cons_succ]
              refine wpAnyH_done (by kernel_rfl) ?_ _
              have MO := (DnP.more (l := ps) (r := ⟨dn, wh, mb, onr, nm, bg⟩) (who := who) (may := may) (on := on) (name := name) (by omega) SZ.out KR.out).2
              rw [W0.out, N0.out] at MO
              clear N0 A0 L5
              go_wp2_with fail
              (go_at_call 9; refine (CS.out w6 _ ps (lat_next HN.out B6.out) (by omega) SM.out).mono ?_; rintro e w7 ⟨rfl, b7⟩; have B7 := Seg.hid (chain B6.out b7); have Q7 := (ST0.out _ B7.out).1; clear b7; rw [W0.out])
              clear W0 ST0 RN HN B6 B5
              cases dn <;> cases wasV <;> cases nowV <;> first | exact absurd MO.2 (by decide) | exact absurd MO.1 (by decide) | (clear MO; go_wp2_with (first | (go_at_call 8; refine (CT.out w7).mono ?_; rintro e w8 ⟨rfl, b8⟩; have B8 := Seg.hid (chain B7.out b8); clear b8)); go_ret; exact ⟨rfl, chain BD.out B8.out⟩)
          · have B1 : Hid (Below wd.heap.size wd (wd.alloc (.cells (rrow ⟨dn, wh, mb, onr, nm, bg⟩) 30 (0, 0)))) := chain BR.out (below1 _ _)
            have K1 : Hid ((wd.alloc (.cells (rrow ⟨dn, wh, mb, onr, nm, bg⟩) 30 (0, 0))).heap[wd.heap.size]? = some (.cells (rrow ⟨dn, wh, mb, onr, nm, bg⟩) 30 (0, 0))) := heap_alloc_new _ _
            (go_simp; try (go_wp2_with fail))
            refine hK.out _ _ (ST0.out _ B1.out) (fun hHeld => ?_)
            clear hK K
            try simp only [Act.put, List.setIfInBounds_toArray, List.set_cons_zero, List.set_cons_succ]
            refine wpAnyH_ready (rs := [0]) (by kernel_rfl) (by simp) ?_
            refine AllReadyH.cons (o := { dst := some 71, op := Op.buildSlice 24 0 #[], type := 24, pos := "laws.go:1120", after := #[], guard := none }) rfl (fun K hK => ?_) AllReadyH.nil
            have B0 : Hid (Below wd.heap.size wd ((wd.alloc (.cells (rrow ⟨dn, wh, mb, onr, nm, bg⟩) 30 (0, 0))).alloc (.cells #[] 30 (0, 0)))) := chain B1.out (below1 _ _)
            have O0 : Hid (((wd.alloc (.cells (rrow ⟨dn, wh, mb, onr, nm, bg⟩) 30 (0, 0))).alloc (.cells #[] 30 (0, 0))).ownsRow wd.heap.size 30 6 (.slice (some ⟨wd.heap.size + 1, 0, none⟩) 0 0) 0 []) := ⟨rfl, .inr ⟨wd.heap.size + 1, 0, #[], rfl, Nat.le_succ _, (hsz wd _) ▸ heap_alloc_new (wd.alloc (.cells (rrow ⟨dn, wh, mb, onr, nm, bg⟩) 30 (0, 0))) (.cells #[] 30 (0, 0)), Nat.le_refl _, by decide, rfl, rfl⟩⟩
            have K0 : Hid (((wd.alloc (.cells (rrow ⟨dn, wh, mb, onr, nm, bg⟩) 30 (0, 0))).alloc (.cells #[] 30 (0, 0))).heap[wd.heap.size]? = some (.cells (rrow ⟨dn, wh, mb, onr, nm, bg⟩) 30 (0, 0))) := ((below1 (wd.alloc (.cells (rrow ⟨dn, wh, mb, onr, nm, bg⟩) 30 (0, 0))) _).block _ (Array.getElem?_eq_some_iff.1 K1.out).1).trans K1.out
            (go_simp; try (go_wp2_with fail))
            refine hK.out _ _ (ST0.out _ B0.out) (fun hHeld => ?_)
            clear hK K
            try simp only [Act.put, List.setIfInBounds_toArray, List.set_cons_zero, List.set_cons_succ]
            refine wpAnyH_ready (rs := [2]) (by kernel_rfl) (by simp) ?_
            refine AllReadyH.cons (o := { dst := some 73, op := Op.call { callee := Callee.builtin Builtin.append, args := #[Operand.tmp 71, Operand.tmp 72], argTypes := #[24, 24] }, type := 24, pos := "laws.go:1120", after := #[{ on := 0, ground := Ground.data }, { on := 1, ground := Ground.data }], guard := none }) rfl (fun K hK => ?_) AllReadyH.nil
            refine AppW.step_append_all ((wd.alloc (.cells (rrow ⟨dn, wh, mb, onr, nm, bg⟩) 30 (0, 0))).alloc (.cells #[] 30 (0, 0))) rfl (.tmp 71) (.tmp 72) 24 rfl wd.heap.size 30 i0 _ 6 64 Try.underlying24 hi hz0 hz1 hz2 rfl (by decide) (.slice (some ⟨wd.heap.size + 1, 0, none⟩) 0 0) 0 [] rfl O0.out Av ps.length cv (rcells ps) rfl (rcells_len _) (news_lat (lat_next HN.out B0.out)) (one_cells _) (by unfold maxLen; omega) (by omega) B0.out.size ?_
            intro v2 w3 ho3 gb3 hb3
            have O3 := Seg.hid ho3
            have B3 := Seg.hid (B0.out.grown gb3 B0.out.size (own_ge O0.out))
            have K3 : Hid (w3.heap[wd.heap.size]? = some (.cells (rrow ⟨dn, wh, mb, onr, nm, bg⟩) 30 (0, 0))) := row_grown gb3 K0.out (by show _ ≠ _; simp [Value.ownBlock])
            clear ho3 gb3 hb3
            refine hK.out _ _ (ST0.out _ B3.out) (fun hHeld => ?_)
            clear hK K
            try simp only [Act.put, List.setIfInBounds_toArray, List.set_cons_zero, List.set_cons_succ]
            refine wpAnyH_ready (rs := [5]) (by kernel_rfl) (by simp) ?_
            refine AllReadyH.cons (o := { dst := some 76, op := Op.call { callee := Callee.builtin Builtin.append, args := #[Operand.tmp 73, Operand.tmp 75], argTypes := #[24, 24] }, type := 24, pos := "laws.go:1120", after := #[{ on := 2, ground := Ground.data }, { on := 4, ground := Ground.data }, { on := 2, ground := Ground.chain }], guard := none }) rfl (fun K hK => ?_) AllReadyH.nil
            refine AppW.step_append_all w3 rfl (.tmp 73) (.tmp 75) 24 rfl wd.heap.size 30 i0 _ 6 64 Try.underlying24 hi hz0 hz1 hz2 rfl (by decide) (v2) (0 + ps.length) ([] ++ rcells ps) rfl O3.out (some ⟨wd.heap.size, 0, none⟩) 1 1 (rcells [⟨dn, wh, mb, onr, nm, bg⟩]) rfl rfl (news_lat (one_lat w3 _ _ K3.out)) (one_cells _) (by unfold maxLen; omega) (by omega) B3.out.size ?_
            intro v5 w5 ho5 gb5 hb5
            have L5 : Hid (LAt 6 ERul w5 (fun g => g < w5.heap.size) v5 (ps ++ [⟨dn, wh, mb, onr, nm, bg⟩])) := both_lat (by omega) ho5 (by simp only [List.length_append, List.length_cons, List.length_nil] <;> omega)
            have B5 := Seg.hid (B3.out.grown gb5 B3.out.size (own_ge O3.out))
            clear ho5 gb5 hb5
            refine hK.out _ _ (ST0.out _ B5.out) (fun hHeld => ?_)
            clear hK K
            try simp only [Act.put, List.setIfInBounds_toArray, List.set_cons_zero, List.set_cons_succ]
            refine wpAnyH_ready (rs := [10]) (by kernel_rfl) (by simp) ?_
            refine AllReadyH.cons (o := { dst := some 81, op := Op.call { callee := Callee.value (Operand.func 8), args := #[Operand.tmp 76, Operand.tmp 77, Operand.tmp 78, Operand.tmp 79, Operand.tmp 80], argTypes := #[24, 9, 3, 3, 9] }, type := 4, pos := "laws.go:1120", after := #[{ on := 5, ground := Ground.data }, { on := 6, ground := Ground.data }, { on := 7, ground := Ground.data }, { on := 8, ground := Ground.data }, { on := 9, ground := Ground.data }, { on := 5, ground := Ground.chain }], guard := none }) rfl (fun K hK => ?_) AllReadyH.nil
            (go_simp; go_at_call 8; refine (CA.out w5 v5 (ps ++ [⟨dn, wh, mb, onr, nm, bg⟩]) L5.out (by simp only [List.length_append, List.length_cons, List.length_nil]; omega) SB.out).mono ?_; rintro e w6 ⟨rfl, b6⟩; have B6 := Seg.hid (chain B5.out b6); clear b6; rw [A0.out]; try (go_wp2_with fail))
            refine hK.out _ _ (ST0.out _ B6.out) (fun hHeld => ?_)
            clear hK K
            try simp only [Act.put, List.setIfInBounds_toArray, List.set_cons_zero, List.set_cons_succ]
            refine HdK.tke 11 (some 14) (.bool nowV) rfl rfl ?_
            try simp only [Act.put, List.setIfInBounds_toArray, List.set_cons_zero, List.set_cons_succ]
            refine wpAnyH_done (by kernel_rfl) ?_ _
            have MO := (DnP.more (l := ps) (r := ⟨dn, wh, mb, onr, nm, bg⟩) (who := who) (may := may) (on := on) (name := name) (by omega) SZ.out KR.out).2
            rw [W0.out, N0.out] at MO
            clear N0 A0 L5
            go_wp2_with fail
            (go_at_call 9; refine (CS.out w6 _ ps (lat_next HN.out B6.out) (by omega) SM.out).mono ?_; rintro e w7 ⟨rfl, b7⟩; have B7 := Seg.hid (chain B6.out b7); have Q7 := (ST0.out _ B7.out).1; clear b7; rw [W0.out])
            clear W0 ST0 RN HN B6 B5
            cases dn <;> cases wasV <;> cases nowV <;> first | exact absurd MO.2 (by decide) | exact absurd MO.1 (by decide) | (clear MO; go_wp2_with (first | (go_at_call 8; refine (CT.out w7).mono ?_; rintro e w8 ⟨rfl, b8⟩; have B8 := Seg.hid (chain B7.out b8); clear b8)); go_ret; exact ⟨rfl, chain BD.out B8.out⟩)
theorem walk_any (A : Option Addr) (len cap : Nat) (zs : List Int) (A' : Option Addr) (len' cap' : Nat) (zs' : List Int) (w : World)
    (h : (A = none ∧ len = 0 ∧ cap = 0 ∧ zs = []) ∨ ∃ x, A = some x ∧ len ≤ cap ∧ cap ≤ maxLen ∧ zs.length = cap ∧ (∀ i, i < zs.length → w.cell? (x.add i) = some (.int .u8 (zs.getD i 0))) ∧ ∀ n ∈ zs, (Lit.int .u8 n).wf = true)
    (h' : (A' = none ∧ len' = 0 ∧ cap' = 0 ∧ zs' = []) ∨ ∃ x, A' = some x ∧ len' ≤ cap' ∧ cap' ≤ maxLen ∧ zs'.length = cap' ∧ (∀ i, i < zs'.length → w.cell? (x.add i) = some (.int .u8 (zs'.getD i 0))) ∧ ∀ n ∈ zs', (Lit.int .u8 n).wf = true) :
    Calls Try.prog 3 #[.slice A len cap, .slice A' len' cap'] w fun e w' => e = .returned (.bool true) ∧ Below w.heap.size w w' := by
  by_cases hb : 1048576 < len
  · exact walk_big0 A A' len cap len' cap' w hb
  by_cases hb' : 1048576 < len'
  · exact walk_big1 A A' len cap len' cap' w (by omega) hb'
  · exact walk A A' len cap len' cap' w (by omega) (by omega) (LawH.row_bytes w A len cap zs h (by omega)) (LawH.row_bytes w A' len' cap' zs' h' (by omega))
end Go.Proofs.Ytoaobifhiddpkaa.DndLaw
