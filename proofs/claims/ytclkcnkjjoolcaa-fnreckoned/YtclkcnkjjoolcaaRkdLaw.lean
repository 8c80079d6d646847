/- The law that an expression comes to what its halves come to, out of the contracts. -/
import Derived.Test.YtclkcnkjjoolcaaDsD
import Derived.Test.YtclkcnkjjoolcaaRnQ
import Derived.Test.YtclkcnkjjoolcaaRnR
import Derived.Test.YtclkcnkjjoolcaaRkS
import Derived.Test.YtclkcnkjjoolcaaLawH
namespace Go.Proofs.Ytclkcnkjjoolcaa.RkdLaw
set_option maxRecDepth 8000
open Go.RowKit
open Ls Lp QyP QsP QtP QuP QdP QrP YcP RnP RnQ DsP DsE DsD
open Draw (Cur Lft Bytes)
open Recs (hsz below1 below2 chain)
set_option linter.unusedVariables false
theorem bytes_later {w w' : World} {A : Option Addr} {n c : Nat} (h : Bytes w w.heap.size A n c) (b : Below w.heap.size w w') : Bytes w' w'.heap.size A n c := by
  rcases h with h | ⟨g, o, h1, h2, h3, h4, h5⟩
  · exact .inl h
  · refine .inr ⟨g, o, h1, by have := b.size; omega, Nat.lt_of_lt_of_le h3 b.size, h4, fun j hj => ?_⟩
    obtain ⟨x, hx, hc⟩ := h5 j hj
    exact ⟨x, hx, (b.cell (p := ⟨g, o + j, none⟩) h3).trans hc⟩
theorem sz_of {l : List Stp} (h : Sm l) (hl : l.length ≤ 100) : szL szStp l ≤ 1048576 := by
  have := sz_sm h
  unfold szL
  omega
theorem toy_lat {w : World} {g : Nat} {ty : TypeId} (h : w.heap[g]? = some (.cells (scells toyL).toArray ty (0, 0))) : LAt 3 EStp w (Hp w) (.slice (some ⟨g, 0, none⟩) 3 3) toyL := by
  refine ⟨by decide, _, 3, rfl, .inr ⟨g, 0, fun i j => (sc (toyL.getD i default)).getD j default, rfl, (Array.getElem?_eq_some_iff.1 h).1, Nat.le_refl _, fun i hi j hj => ?_, fun i hi => ⟨rfl, rfl, rfl⟩⟩⟩
  rw [show 0 + i * 3 + j = i * 3 + j by omega, cell_of_row w g _ _ _ (0, 0) h]
  have := scells_get hi hj
  simpa using this
theorem sm_toy : Sm toyL := fun s hs => by
  simp only [toyL, List.mem_cons, List.mem_nil_iff, or_false] at hs
  rcases hs with rfl | rfl | rfl <;> decide
set_option maxHeartbeats 800000 in
theorem walk_big (A A' : Option Addr) (n c n' c' : Nat) (w : World) (hb : 1048576 < n) :
    Calls Try.prog 3 #[.slice A n c, .slice A' n' c'] w fun e w' => e = .returned (.bool true) ∧ Below w.heap.size w w' := by
  have hd : decide (1048576 < (n : Int)) = true := decide_eq_true (by omega)
  go_enter Try.func3, Try.ntmps3
  go_wp2
  go_ret
  exact ⟨rfl, Below.refl _ _⟩
set_option maxHeartbeats 800000 in
theorem walk_big2 (A A' : Option Addr) (n c n' c' : Nat) (w : World) (hb : n ≤ 1048576) (hb' : 1048576 < n') :
    Calls Try.prog 3 #[.slice A n c, .slice A' n' c'] w fun e w' => e = .returned (.bool true) ∧ Below w.heap.size w w' := by
  have hd : decide (1048576 < (n : Int)) = false := decide_eq_false (by omega)
  have hd2 : decide (1048576 < (n' : Int)) = true := decide_eq_true (by omega)
  go_enter Try.func3, Try.ntmps3
  go_wp2
  go_ret
  exact ⟨rfl, Below.refl _ _⟩
set_option maxHeartbeats 25600000 in
theorem walk (A A' : Option Addr) (n c n' c' : Nat) (w : World) (hn : n ≤ 1048576) (hn' : n' ≤ 1048576) (hb : Bytes w w.heap.size A n c) (hb' : Bytes w w.heap.size A' n' c') :
    Calls Try.prog 3 #[.slice A n c, .slice A' n' c'] w fun e w' => e = .returned (.bool true) ∧ Below w.heap.size w w' := by
  have HB := Seg.hid hb
  have HB' := Seg.hid hb'
  clear hb hb'
  obtain ⟨i0, hi, hz0, hz1, hz2⟩ := info_parts infoS
  have CG : Hid (∀ wx, Calls Try.prog 4 #[.slice A n c] wx fun e w' => e = .returned (.bool false) ∧ wx = w') := fun wx => by have := LawH.big_any A n c wx (by omega); rw [decide_eq_false (by omega : ¬ 1048576 < (n : Int))] at this; exact this
  have CH : Hid (∀ wx, Calls Try.prog 4 #[.slice A' n' c'] wx fun e w' => e = .returned (.bool false) ∧ wx = w') := fun wx => by have := LawH.big_any A' n' c' wx (by omega); rw [decide_eq_false (by omega : ¬ 1048576 < (n' : Int))] at this; exact this
  go_enter Try.func3, Try.ntmps3
  go_upto_region 3 with (first | (go_at_call 4; refine (CG.out _).mono ?_; rintro e w' ⟨rfl, rfl⟩) | (go_at_call 4; refine (CH.out _).mono ?_; rintro e w' ⟨rfl, rfl⟩))
  clear CG CH
  go_wp2_with fail
  refine (draw_any A n c w hn HB.out).mono ?_
  rintro e w1 ⟨v1, v2, v3, xs, cols, row, rfl, la, sa, hA, hC, hR, b1⟩
  have HA1 := Seg.hid hA
  have HC1 := Seg.hid hC
  have HR1 := Seg.hid hR
  have SA := Seg.hid sa
  have B1 := Seg.hid b1
  have HB1 := Seg.hid (bytes_later HB'.out b1)
  clear hA hC hR b1 sa HB HB'
  go_wp2_with fail
  refine (draw_any A' n' c' w1 hn' HB1.out).mono ?_
  rintro e w2 ⟨y1, y2, y3, ys, cols2, row2, rfl, lb, sb, hB, -, -, b2⟩
  have HA2 := Seg.hid (lat_stp HA1.out b2)
  have HC2 := Seg.hid (lat_str HC1.out b2)
  have HR2 := Seg.hid (lat_int HR1.out b2)
  have HB2 := Seg.hid hB
  have SB := Seg.hid sb
  have B2 := Seg.hid (chain B1.out b2)
  clear hB b2 sb HA1 HC1 HR1 B1 HB1
  obtain ⟨X, hX⟩ : ∃ X, reckon xs cols row = X := ⟨_, rfl⟩
  obtain ⟨OA, hOA⟩ : ∃ X, recOk xs cols row = X := ⟨_, rfl⟩
  obtain ⟨Y, hY⟩ : ∃ X, reckon ys cols row = X := ⟨_, rfl⟩
  obtain ⟨OB, hOB⟩ : ∃ X, recOk ys cols row = X := ⟨_, rfl⟩
  have CI : Hid (∀ (v z x : Value) (l : List Stp) (cs : List ByteArray) (r : List Int) (q : Int) (f : Bool) (wx : World), LAt 3 EStp wx (Hp wx) v l → LAt 1 EStr wx (Hp wx) z cs → LAt 1 EI wx (Hp wx) x r → Sm l → l.length ≤ 100 → reckon l cs r = q → recOk l cs r = f → Calls Try.prog 6 #[v, z, x] wx fun e w' => e = .returned (.tuple #[.int .i64 q, .bool f]) ∧ Below wx.heap.size wx w') := fun v z x l cs r q f wx h1 h2 h3 h4 h5 h6 h7 => by
    subst h6
    subst h7
    exact RnR.impl_any v z x l cs r wx (Hp wx) h1 h2 h3 (fun g hg => hg) (sz_of h4 h5)
  have CS : Hid (∀ (v z x : Value) (l : List Stp) (cs : List ByteArray) (r : List Int) (q : Int) (f : Bool) (wx : World), LAt 3 EStp wx (Hp wx) v l → LAt 1 EStr wx (Hp wx) z cs → LAt 1 EI wx (Hp wx) x r → Sm l → l.length ≤ 100 → reckon l cs r = q → recOk l cs r = f → Calls Try.prog 7 #[v, z, x] wx fun e w' => e = .returned (.tuple #[.int .i64 q, .bool f]) ∧ Below wx.heap.size wx w') := fun v z x l cs r q f wx h1 h2 h3 h4 h5 h6 h7 => by
    subst h6
    subst h7
    exact RkS.spec_any v z x l cs r wx (Hp wx) h1 h2 h3 (fun g hg => hg) (sz_of h4 h5)
  have HX := Seg.hid hX
  have HOA := Seg.hid hOA
  have HY := Seg.hid hY
  have HOB := Seg.hid hOB
  clear hX hOA hY hOB
  obtain ⟨Aa, ca, ea⟩ := HA2.out.form
  subst ea
  obtain ⟨Ab, cb, eb⟩ := HB2.out.form
  subst eb
  go_wp2_with fail
  refine (CI.out _ _ _ xs cols row X OA w2 HA2.out HC2.out HR2.out SA.out (by omega) HX.out HOA.out).mono ?_
  rintro e w3 ⟨rfl, b3⟩
  have HA3 := Seg.hid (lat_stp HA2.out b3)
  have HB3 := Seg.hid (lat_stp HB2.out b3)
  have HC3 := Seg.hid (lat_str HC2.out b3)
  have HR3 := Seg.hid (lat_int HR2.out b3)
  have B3 := Seg.hid (chain B2.out b3)
  clear b3 HA2 HB2 HC2 HR2 B2
  go_wp2_with fail
  refine (CS.out _ _ _ xs cols row X OA w3 HA3.out HC3.out HR3.out SA.out (by omega) HX.out HOA.out).mono ?_
  rintro e w4 ⟨rfl, b4⟩
  have HA4 := Seg.hid (lat_stp HA3.out b4)
  have HB4 := Seg.hid (lat_stp HB3.out b4)
  have HC4 := Seg.hid (lat_str HC3.out b4)
  have HR4 := Seg.hid (lat_int HR3.out b4)
  have B4 := Seg.hid (chain B3.out b4)
  clear b4 HA3 HB3 HC3 HR3 B3
  have hna : (OA != OA) = false := by simp
  have hnb : (OB != OB) = false := by simp
  go_wp2_with fail
  refine (CI.out _ _ _ ys cols row Y OB w4 HB4.out HC4.out HR4.out SB.out (by omega) HY.out HOB.out).mono ?_
  rintro e w5 ⟨rfl, b5⟩
  have HA5 := Seg.hid (lat_stp HA4.out b5)
  have HB5 := Seg.hid (lat_stp HB4.out b5)
  have HC5 := Seg.hid (lat_str HC4.out b5)
  have HR5 := Seg.hid (lat_int HR4.out b5)
  have B5 := Seg.hid (chain B4.out b5)
  clear b5 HA4 HB4 HC4 HR4 B4
  obtain ⟨wt, hwt⟩ : ∃ wt, w5.alloc (.cells (scells toyL).toArray 32 (0, 0)) = wt := ⟨_, rfl⟩
  have BT : Hid (Below w5.heap.size w5 wt) := by show Below _ _ _; rw [← hwt]; exact below1 _ _
  have LT : Hid (LAt 3 EStp wt (Hp wt) (.slice (some ⟨w5.heap.size, 0, none⟩) 3 3) toyL) := toy_lat (by rw [← hwt]; exact heap_alloc_new _ _)
  have NS : Hid (LAt 1 EStr wt (Hp wt) (.slice none 0 0) ([] : List ByteArray)) := ⟨by simp, none, 0, rfl, .inl rfl⟩
  have NI : Hid (LAt 1 EI wt (Hp wt) (.slice none 0 0) ([] : List Int)) := ⟨by simp, none, 0, rfl, .inl rfl⟩
  have CT : Hid (Calls Try.prog 6 #[.slice (some ⟨w5.heap.size, 0, none⟩) 3 3, .slice none 0 0, .slice none 0 0] (w5.alloc (.cells (scells toyL).toArray 32 (0, 0))) fun e w' => e = .returned (.tuple #[.int .i64 3, .bool true]) ∧ Below w5.heap.size w5 w') := by
    rw [hwt]
    exact (CI.out _ _ _ toyL [] [] 3 true wt LT.out NS.out NI.out sm_toy (by decide) toy toy_ok).mono fun e w' ⟨h1, h2⟩ => ⟨h1, chain BT.out h2⟩
  clear hwt BT LT NS NI
  go_wp2_with fail
  refine CT.out.mono ?_
  rintro e w6 ⟨rfl, b6⟩
  have HA6 := Seg.hid (lat_stp HA5.out b6)
  have HB6 := Seg.hid (lat_stp HB5.out b6)
  have HC6 := Seg.hid (lat_str HC5.out b6)
  have HR6 := Seg.hid (lat_int HR5.out b6)
  have B6 := Seg.hid (chain B5.out b6)
  clear b6 HA5 HB5 HC5 HR5 B5 CT
  go_wp2_with fail
  refine (CS.out _ _ _ ys cols row Y OB w6 HB6.out HC6.out HR6.out SB.out (by omega) HY.out HOB.out).mono ?_
  rintro e w7 ⟨rfl, b7⟩
  have HA7 := Seg.hid (lat_stp HA6.out b7)
  have HB7 := Seg.hid (lat_stp HB6.out b7)
  have HC7 := Seg.hid (lat_str HC6.out b7)
  have HR7 := Seg.hid (lat_int HR6.out b7)
  have B7 := Seg.hid (chain B6.out b7)
  clear b7 HA6 HB6 HC6 HR6 B6
  cases OA with
  | false =>
    go_wp2_with fail
    go_ret
    exact ⟨rfl, B7.out⟩
  | true =>
  cases OB with
  | false =>
    go_wp2_with fail
    go_ret
    exact ⟨rfl, B7.out⟩
  | true =>
  have wl : IntKind.i64.wrap ((xs.length : Int) + (ys.length : Int)) = (xs.length : Int) + (ys.length : Int) := by rw [IntKind.wrap_i64] <;> omega
  by_cases h60 : (60 : Int) ≤ (xs.length : Int) + (ys.length : Int)
  · have hd60 : decide ((60 : Int) ≤ (xs.length : Int) + (ys.length : Int)) = true := decide_eq_true h60
    go_wp2_with fail
    go_ret
    exact ⟨rfl, B7.out⟩
  have hd60 : decide ((60 : Int) ≤ (xs.length : Int) + (ys.length : Int)) = false := decide_eq_false h60
  have T8 := Seg.hid (two_ok (k := 8) ⟨by decide, by decide⟩ HOA.out HOB.out (by omega))
  have T9 := Seg.hid (two_ok (k := 9) ⟨by decide, by decide⟩ HOA.out HOB.out (by omega))
  have TN := Seg.hid (not_ok HOA.out (by omega))
  have NA := Seg.hid (news_of (lat_stp HA7.out (below1 w7 (.cells #[] 32 (0, 0)))))
  have ER := Seg.hid (DsP.empty_row w7)
  have SMAB := Seg.hid (SA.out.app SB.out)
  have hlab : (xs ++ ys).length = xs.length + ys.length := List.length_append
  have la5 : xs.length ≤ 31 := la
  have OWN2 : Hid (∀ v8 w8, SRow w8 w7.heap.size v8 xs → w8.ownsRow w7.heap.size 32 3 v8 xs.length (scells xs)) := fun v8 w8 h => h
  go_upto_region 19 with (first | (at_builtin; (refine AppW.wpList_append_all _ rfl _ _ 24 rfl w7.heap.size 32 i0 _ 3 32 Try.underlying24 hi hz0 hz1 hz2 rfl (by decide) (.slice (some ⟨w7.heap.size, 0, none⟩) 0 0) 0 [] rfl ER.out Aa xs.length ca (scells xs) rfl (scells_len _) NA.out (scells_one _) (by unfold maxLen; omega) (by omega) (by rw [hsz]; omega) ?_; intro v8 w8 hown8 gr8 hvb8; have S8 : Hid (SRow w8 w7.heap.size v8 xs) := (SRow.add (l := []) (m := xs) hown8); have b8 : Below w7.heap.size w7 w8 := (below1 w7 _).grown gr8 (by rw [hsz]; omega) (fun k hk => by simp only [Value.ownBlock, Option.some.injEq] at hk; omega); have B8 := Seg.hid b8; have NB := Seg.hid (news_of (lat_stp HB7.out b8)); have hw8 := b8.size; clear hown8 gr8 hvb8 b8)) | (at_builtin; (refine AppW.wpList_append_all _ rfl _ _ 24 rfl w7.heap.size 32 i0 _ 3 32 Try.underlying24 hi hz0 hz1 hz2 rfl (by decide) v8 xs.length (scells xs) rfl S8.out Ab ys.length cb (scells ys) rfl (scells_len _) NB.out (scells_one _) (by unfold maxLen; omega) (by omega) hw8 ?_; intro v9 w9 hown9 gr9 hvb9; have S9 : Hid (SRow w9 w7.heap.size v9 (xs ++ ys)) := (SRow.add hown9); have b9 : Below w7.heap.size w7 w9 := B8.out.grown gr9 hw8 (fun k hk => (World.ownsRow.lt S8.out k hk).1); have B9 := Seg.hid b9; clear hown9 gr9 hvb9 b9)))
  have HA9 := Seg.hid (lat_stp HA7.out B9.out)
  have HC9 := Seg.hid (lat_str HC7.out B9.out)
  have HR9 := Seg.hid (lat_int HR7.out B9.out)
  have BW9 := Seg.hid (chain B7.out B9.out)
  have HD9 : Hid (LAt 3 EStp w9 (Hp w9) v9 (xs ++ ys)) := LAt.mono growsStp (S9.out.lat (by omega)) (fun g hg => hg.2)
  have HLAB := Seg.hid hlab
  have TT8 : Hid (recOk (xs ++ ys ++ [op0 8]) cols row = true ∧ reckon (xs ++ ys ++ [op0 8]) cols row = b01 (decide (X < Y))) := by show _ ∧ _; refine ⟨T8.out.1, ?_⟩; rw [T8.out.2, HX.out, HY.out]; rfl
  have TT9 : Hid (recOk (xs ++ ys ++ [op0 9]) cols row = true ∧ reckon (xs ++ ys ++ [op0 9]) cols row = b01 (decide (X = Y))) := by show _ ∧ _; refine ⟨T9.out.1, ?_⟩; rw [T9.out.2, HX.out, HY.out]; rfl
  have TTN : Hid (recOk (xs ++ [op0 12]) cols row = true ∧ reckon (xs ++ [op0 12]) cols row = b01 (decide (X = 0))) := by show _ ∧ _; refine ⟨TN.out.1, ?_⟩; rw [TN.out.2, HX.out]
  clear T8 T9 TN NA ER S8 B8 NB OWN2 hw8
  obtain ⟨ab, hab⟩ : ∃ l, xs ++ ys = l := ⟨_, rfl⟩
  rw [hab] at HD9 TT8 TT9 HLAB SMAB hlab
  have hab5 : ab.length ≤ 60 := by omega
  clear hab S9 hlab B9 wl h60 hd60
  obtain ⟨Ad, cd, ed⟩ := HD9.out.form
  subst ed
  have NA10 := Seg.hid (news_of (lat_stp HD9.out (below1 w9 (.cells #[] 32 (0, 0)))))
  have ER10 := Seg.hid (DsP.empty_row w9)
  obtain ⟨L10, hL10⟩ : ∃ L, b01 (decide (X < Y)) = L := ⟨_, rfl⟩
  have HL10 := Seg.hid hL10
  rw [hL10] at TT8
  clear hL10
  have SM10 : Hid (Sm (ab ++ [op0 8])) := SMAB.out.app (Sm.one (show (0 : Nat) ≤ 10 by decide))
  have LN10 : Hid ((ab ++ [op0 8]).length ≤ 100) := by show _ ≤ _; simp; omega
  go_upto_region 20 with (first | (at_builtin; (refine AppW.wpList_append_all _ rfl _ _ 24 rfl w9.heap.size 32 i0 _ 3 32 Try.underlying24 hi hz0 hz1 hz2 rfl (by decide) (.slice (some ⟨w9.heap.size, 0, none⟩) 0 0) 0 [] rfl ER10.out Ad ab.length cd (scells ab) rfl (scells_len _) NA10.out (scells_one _) (by unfold maxLen; omega) (by omega) (by rw [hsz]; omega) ?_; intro v10 w10 hown gr hvb; have S10 : Hid (SRow w10 w9.heap.size v10 ab) := (SRow.add (l := []) (m := ab) hown); have b : Below w9.heap.size w9 w10 := (below1 w9 _).grown gr (by rw [hsz]; omega) (fun k hk => by simp only [Value.ownBlock, Option.some.injEq] at hk; omega); have B10 := Seg.hid b; have OW10 : Hid (∀ o1, (w10.alloc o1).ownsRow w9.heap.size 32 3 v10 ab.length (scells ab)) := fun o1 => S10.out.later (below1 w10 o1); have hw10 := b.size; clear hown gr hvb b)) | (at_builtin; (refine wpList_append_lies _ rfl _ _ 24 rfl w9.heap.size 32 i0 _ 3 32 Try.underlying24 hi hz0 hz1 hz2 rfl (by decide) v10 ab.length (scells ab) rfl (OW10.out _) ⟨w10.heap.size, 0, none⟩ 1 1 [.int .i64 8, .int .i64 0, .string ⟨#[]⟩] rfl rfl (World.news_of_block (cs := #[.int .i64 8, .int .i64 0, .string ⟨#[]⟩]) (heap_alloc_new _ _)) (by simp [Value.oneCell']) (by decide) (by unfold maxLen; omega) (by omega) (by rw [hsz]; omega) (w10.heap.size + 1) (by rw [hsz]) ?_; intro g9 cap9 w11 hown gr hat hlt; have S11 : Hid (SRow w11 w9.heap.size (.slice (some ⟨g9, 0, none⟩) (ab.length + 1) cap9) (ab ++ [op0 8])) := (SRow.add (m := [op0 8]) hown); have b : Below w9.heap.size w9 w11 := (chain B10.out (below1 w10 _)).grown gr (by rw [hsz]; omega) (fun k hk => (World.ownsRow.lt S10.out k hk).1); have B11 := Seg.hid b; have HG11 : Hid (LAt 3 EStp w11 (Hp w11) (.slice (some ⟨g9, 0, none⟩) (ab.length + 1) cap9) (ab ++ [op0 8])) := LAt.mono growsStp (S11.out.lat (by simp; omega)) (fun g hg => hg.2); clear hown gr hat hlt b)) | (go_at_call 6; refine (CI.out _ _ _ (ab ++ [op0 8]) cols row L10 true w11 HG11.out (lat_str HC9.out B11.out) (lat_int HR9.out B11.out) SM10.out LN10.out TT8.out.2 TT8.out.1).mono ?_; rintro e w12 ⟨rfl, b⟩; have BB12 := Seg.hid (chain B11.out b); clear b))
  clear NA10 ER10 S10 B10 OW10 hw10 S11 B11 HG11 SM10 LN10
  have HA12 := Seg.hid (lat_stp HA9.out BB12.out)
  have HC12 := Seg.hid (lat_str HC9.out BB12.out)
  have HR12 := Seg.hid (lat_int HR9.out BB12.out)
  have BW12 := Seg.hid (chain BW9.out BB12.out)
  have HD12 := Seg.hid (lat_stp HD9.out BB12.out)
  clear BB12 BW9 HA9 HC9 HR9 HD9
  have NA13 := Seg.hid (news_of (lat_stp HD12.out (below1 w12 (.cells #[] 32 (0, 0)))))
  have ER13 := Seg.hid (DsP.empty_row w12)
  obtain ⟨L13, hL13⟩ : ∃ L, b01 (decide (X = Y)) = L := ⟨_, rfl⟩
  have HL13 := Seg.hid hL13
  rw [hL13] at TT9
  clear hL13
  have SM13 : Hid (Sm (ab ++ [op0 9])) := SMAB.out.app (Sm.one (show (0 : Nat) ≤ 10 by decide))
  have LN13 : Hid ((ab ++ [op0 9]).length ≤ 100) := by show _ ≤ _; simp; omega
  go_upto_region 21 with (first | (at_builtin; (refine AppW.wpList_append_all _ rfl _ _ 24 rfl w12.heap.size 32 i0 _ 3 32 Try.underlying24 hi hz0 hz1 hz2 rfl (by decide) (.slice (some ⟨w12.heap.size, 0, none⟩) 0 0) 0 [] rfl ER13.out Ad ab.length cd (scells ab) rfl (scells_len _) NA13.out (scells_one _) (by unfold maxLen; omega) (by omega) (by rw [hsz]; omega) ?_; intro v13 w13 hown gr hvb; have S13 : Hid (SRow w13 w12.heap.size v13 ab) := (SRow.add (l := []) (m := ab) hown); have b : Below w12.heap.size w12 w13 := (below1 w12 _).grown gr (by rw [hsz]; omega) (fun k hk => by simp only [Value.ownBlock, Option.some.injEq] at hk; omega); have B13 := Seg.hid b; have OW13 : Hid (∀ o1, (w13.alloc o1).ownsRow w12.heap.size 32 3 v13 ab.length (scells ab)) := fun o1 => S13.out.later (below1 w13 o1); have hw13 := b.size; clear hown gr hvb b)) | (at_builtin; (refine wpList_append_lies _ rfl _ _ 24 rfl w12.heap.size 32 i0 _ 3 32 Try.underlying24 hi hz0 hz1 hz2 rfl (by decide) v13 ab.length (scells ab) rfl (OW13.out _) ⟨w13.heap.size, 0, none⟩ 1 1 [.int .i64 9, .int .i64 0, .string ⟨#[]⟩] rfl rfl (World.news_of_block (cs := #[.int .i64 9, .int .i64 0, .string ⟨#[]⟩]) (heap_alloc_new _ _)) (by simp [Value.oneCell']) (by decide) (by unfold maxLen; omega) (by omega) (by rw [hsz]; omega) (w13.heap.size + 1) (by rw [hsz]) ?_; intro g9 cap9 w14 hown gr hat hlt; have S14 : Hid (SRow w14 w12.heap.size (.slice (some ⟨g9, 0, none⟩) (ab.length + 1) cap9) (ab ++ [op0 9])) := (SRow.add (m := [op0 9]) hown); have b : Below w12.heap.size w12 w14 := (chain B13.out (below1 w13 _)).grown gr (by rw [hsz]; omega) (fun k hk => (World.ownsRow.lt S13.out k hk).1); have B14 := Seg.hid b; have HG14 : Hid (LAt 3 EStp w14 (Hp w14) (.slice (some ⟨g9, 0, none⟩) (ab.length + 1) cap9) (ab ++ [op0 9])) := LAt.mono growsStp (S14.out.lat (by simp; omega)) (fun g hg => hg.2); clear hown gr hat hlt b)) | (go_at_call 6; refine (CI.out _ _ _ (ab ++ [op0 9]) cols row L13 true w14 HG14.out (lat_str HC12.out B14.out) (lat_int HR12.out B14.out) SM13.out LN13.out TT9.out.2 TT9.out.1).mono ?_; rintro e w15 ⟨rfl, b⟩; have BB15 := Seg.hid (chain B14.out b); clear b))
  clear NA13 ER13 S13 B13 OW13 hw13 S14 B14 HG14 SM13 LN13
  have HA15 := Seg.hid (lat_stp HA12.out BB15.out)
  have HC15 := Seg.hid (lat_str HC12.out BB15.out)
  have HR15 := Seg.hid (lat_int HR12.out BB15.out)
  have BW15 := Seg.hid (chain BW12.out BB15.out)
  have HD15 := Seg.hid (lat_stp HD12.out BB15.out)
  clear BB15 BW12 HA12 HC12 HR12 HD12
  have NA16 := Seg.hid (news_of (lat_stp HA15.out (below1 w15 (.cells #[] 32 (0, 0)))))
  have ER16 := Seg.hid (DsP.empty_row w15)
  obtain ⟨L16, hL16⟩ : ∃ L, b01 (decide (X = 0)) = L := ⟨_, rfl⟩
  have HL16 := Seg.hid hL16
  rw [hL16] at TTN
  clear hL16
  have SM16 : Hid (Sm (xs ++ [op0 12])) := SA.out.app (Sm.one (show (0 : Nat) ≤ 10 by decide))
  have LN16 : Hid ((xs ++ [op0 12]).length ≤ 100) := by show _ ≤ _; simp; omega
  go_upto_region 22 with (first | (at_builtin; (refine AppW.wpList_append_all _ rfl _ _ 24 rfl w15.heap.size 32 i0 _ 3 32 Try.underlying24 hi hz0 hz1 hz2 rfl (by decide) (.slice (some ⟨w15.heap.size, 0, none⟩) 0 0) 0 [] rfl ER16.out Aa xs.length ca (scells xs) rfl (scells_len _) NA16.out (scells_one _) (by unfold maxLen; omega) (by omega) (by rw [hsz]; omega) ?_; intro v16 w16 hown gr hvb; have S16 : Hid (SRow w16 w15.heap.size v16 xs) := (SRow.add (l := []) (m := xs) hown); have b : Below w15.heap.size w15 w16 := (below1 w15 _).grown gr (by rw [hsz]; omega) (fun k hk => by simp only [Value.ownBlock, Option.some.injEq] at hk; omega); have B16 := Seg.hid b; have OW16 : Hid (∀ o1, (w16.alloc o1).ownsRow w15.heap.size 32 3 v16 xs.length (scells xs)) := fun o1 => S16.out.later (below1 w16 o1); have hw16 := b.size; clear hown gr hvb b)) | (at_builtin; (refine wpList_append_lies _ rfl _ _ 24 rfl w15.heap.size 32 i0 _ 3 32 Try.underlying24 hi hz0 hz1 hz2 rfl (by decide) v16 xs.length (scells xs) rfl (OW16.out _) ⟨w16.heap.size, 0, none⟩ 1 1 [.int .i64 12, .int .i64 0, .string ⟨#[]⟩] rfl rfl (World.news_of_block (cs := #[.int .i64 12, .int .i64 0, .string ⟨#[]⟩]) (heap_alloc_new _ _)) (by simp [Value.oneCell']) (by decide) (by unfold maxLen; omega) (by omega) (by rw [hsz]; omega) (w16.heap.size + 1) (by rw [hsz]) ?_; intro g9 cap9 w17 hown gr hat hlt; have S17 : Hid (SRow w17 w15.heap.size (.slice (some ⟨g9, 0, none⟩) (xs.length + 1) cap9) (xs ++ [op0 12])) := (SRow.add (m := [op0 12]) hown); have b : Below w15.heap.size w15 w17 := (chain B16.out (below1 w16 _)).grown gr (by rw [hsz]; omega) (fun k hk => (World.ownsRow.lt S16.out k hk).1); have B17 := Seg.hid b; have HG17 : Hid (LAt 3 EStp w17 (Hp w17) (.slice (some ⟨g9, 0, none⟩) (xs.length + 1) cap9) (xs ++ [op0 12])) := LAt.mono growsStp (S17.out.lat (by simp; omega)) (fun g hg => hg.2); clear hown gr hat hlt b)) | (go_at_call 6; refine (CI.out _ _ _ (xs ++ [op0 12]) cols row L16 true w17 HG17.out (lat_str HC15.out B17.out) (lat_int HR15.out B17.out) SM16.out LN16.out TTN.out.2 TTN.out.1).mono ?_; rintro e w18 ⟨rfl, b⟩; have BB18 := Seg.hid (chain B17.out b); clear b))
  clear NA16 ER16 S16 B16 OW16 hw16 S17 B17 HG17 SM16 LN16
  have BE := Seg.hid (chain BW15.out BB18.out)
  have E10 := HL10.out
  have E13 := HL13.out
  have E16 := HL16.out
  have F10 : Hid ((L10 == 1) = decide (X < Y)) := by show _ = _; rw [← E10]; cases decide (X < Y) <;> rfl
  have F13 : Hid ((L13 == 1) = (X == Y)) := by show _ = _; rw [← E13, show (X == Y) = decide (X = Y) by rw [Bool.eq_iff_iff]; simp]; cases decide (X = Y) <;> rfl
  have F16 : Hid ((L16 == 1) = (X == 0)) := by show _ = _; rw [← E16, show (X == 0) = decide (X = 0) by rw [Bool.eq_iff_iff]; simp]; cases decide (X = 0) <;> rfl
  clear E10 E13 E16
  have f10 := F10.out
  have f13 := F13.out
  have f16 := F16.out
  obtain ⟨p, hp⟩ : ∃ p, decide (X < Y) = p := ⟨_, rfl⟩
  obtain ⟨q, hq⟩ : ∃ p, (X == Y) = p := ⟨_, rfl⟩
  obtain ⟨r, hr⟩ : ∃ p, (X == 0) = p := ⟨_, rfl⟩
  rw [hp] at f10
  rw [hq] at f13
  rw [hr] at f16
  clear F10 F13 F16
  cases p <;> cases q <;> cases r
  all_goals
    go_wp2_with fail
    go_ret
    exact ⟨by first | rfl | simp_all, BE.out⟩
theorem walk_any (A : Option Addr) (len cap : Nat) (zs : List Int) (A' : Option Addr) (len' cap' : Nat) (zs' : List Int) (w : World)
    (h : (A = none ∧ len = 0 ∧ cap = 0 ∧ zs = []) ∨ ∃ x, A = some x ∧ len ≤ cap ∧ cap ≤ maxLen ∧ zs.length = cap ∧ (∀ i, i < zs.length → w.cell? (x.add i) = some (.int .u8 (zs.getD i 0))) ∧ ∀ n ∈ zs, (Lit.int .u8 n).wf = true)
    (h' : (A' = none ∧ len' = 0 ∧ cap' = 0 ∧ zs' = []) ∨ ∃ x, A' = some x ∧ len' ≤ cap' ∧ cap' ≤ maxLen ∧ zs'.length = cap' ∧ (∀ i, i < zs'.length → w.cell? (x.add i) = some (.int .u8 (zs'.getD i 0))) ∧ ∀ n ∈ zs', (Lit.int .u8 n).wf = true) :
    Calls Try.prog 3 #[.slice A len cap, .slice A' len' cap'] w fun e w' => e = .returned (.bool true) ∧ Below w.heap.size w w' := by
  by_cases hb : 1048576 < len
  · exact walk_big A A' len cap len' cap' w hb
  by_cases hb' : 1048576 < len'
  · exact walk_big2 A A' len cap len' cap' w (by omega) hb'
  · exact walk A A' len cap len' cap' w (by omega) (by omega) (LawH.row_bytes w A len cap zs h (by omega)) (LawH.row_bytes w A' len' cap' zs' h' (by omega))
end Go.Proofs.Ytclkcnkjjoolcaa.RkdLaw
