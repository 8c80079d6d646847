/- The program's matches: the places of a writer's fields by their names; What may be read, on plain data. -/
import Derived.Maps.OwnSet
import Derived.Maps.Views
import Derived.Test.YtdhicmbfknagjaaJRO21
namespace Go.Proofs.Ytdhicmbfknagjaa.MaI
set_option maxRecDepth 8000
open Go.RowKit Go.Maps Go.ChangeShapes Go.WideShapes Go.ChangeMaps Go.MapKept Go.WideMaps
open Ls Lp VkP VkR ScP ScM ScN ScI ScS MaP
open Recs (hsz below1 below2 below3 chain chainD)
set_option linter.unusedVariables false
theorem zeroI (w : World) : (zeroValue 3).run Try.prog w = .ok (.int .i64 0) w := by kernel_rfl
theorem infoI : (Try.prog.info? 3).map (fun i => (i.zero, i.size, i.bytes)) = some (some (.int .i64 0), 1, 8) := by kernel_rfl
def PSays (D : DataW Unit) (ws : List Fld) : Prop := ∀ s : ByteArray, s.size ≤ maxLen → Maps.has D (key s) = decide (0 ≤ fnd ws s) ∧ (0 ≤ fnd ws s → ∀ z, D.atKey (key s) z = .lit (.int .i64 (fnd ws s)))
/-- The map of places. -/
def PM (w : World) (bm n : Nat) (ws : List Fld) : Prop := ∃ D : DataW Unit, w.ownsMap Try.prog 9 (plainElem Try.prog 3) bm n D ∧ PSays D ws
theorem PM.made (w : World) : PM (w.alloc (.map #[] 0)) w.heap.size 0 [] := ⟨_, World.ownsMap_made _ _ _ _, fun s _ => ⟨rfl, fun h => by have e : fnd [] s = -1 := rfl; rw [e] at h; omega⟩⟩
theorem PM.lt {w : World} {bm n : Nat} {ws : List Fld} (h : PM w bm n ws) : bm < w.heap.size := by
  obtain ⟨D, h, _⟩ := h
  exact h.lt
theorem PM.keep {w w' : World} {bm n : Nat} {ws : List Fld} (h : PM w bm n ws) (hk : w'.heap[bm]? = w.heap[bm]?) : PM w' bm n ws := by
  obtain ⟨D, ⟨es, clock, hb, r⟩, h2⟩ := h
  exact ⟨D, ⟨es, clock, hk.trans hb, r⟩, h2⟩
theorem psays_put {D : DataW Unit} {ws : List Fld} (h : PSays D ws) (hD : IsMap D) (f : Fld) (hn : fnd ws f.name = -1) : PSays (D.put (key f.name) (.lit (.int .i64 (ws.length : Int)))) (ws ++ [f]) := fun s hs' => by
  rw [fnd_push]
  by_cases e : s.toList = f.name.toList
  · have e1 : fnd ws s = -1 := by
      have : fnd ws s = fnd ws f.name := by unfold fnd; have : ∀ (l : List Fld) (i : Nat), fndF s i l = fndF f.name i l := (fun l => by induction l with | nil => intro i; rfl | cons a l ih => intro i; rw [fndF, fndF, e, ih]); exact this ws 0
      rw [this, hn]
    have e2 : (f.name.toList == s.toList) = true := by simp [e]
    have e3 : (if 0 ≤ fnd ws s then fnd ws s else if (f.name.toList == s.toList) = true then (ws.length : Int) else -1) = ws.length := by rw [e1, if_neg (by omega), if_pos e2]
    rw [e3, key_iff.2 e]
    refine ⟨?_, fun _ z => ?_⟩
    · rw [has_put_same hD (show WideAt.IsKeyLit (key f.name) from trivial)]
      simp
    · exact atKey_put_same hD (show WideAt.IsKeyLit (key f.name) from trivial) _ _
  · have ne : key s ≠ key f.name := fun e' => e (key_iff.1 e')
    have e2 : (f.name.toList == s.toList) = false := by simpa using fun e' => e e'.symm
    have e3 : (if 0 ≤ fnd ws s then fnd ws s else if (f.name.toList == s.toList) = true then (ws.length : Int) else -1) = fnd ws s := by
      by_cases h0 : 0 ≤ fnd ws s
      · rw [if_pos h0]
      · rw [if_neg h0, e2, fnd_neg h0]; rfl
    rw [e3, has_put_other ne]
    exact ⟨(h s hs').1, fun h0 z => by rw [atKey_put_other ne]; exact (h s hs').2 h0 z⟩
set_option maxHeartbeats 1600000 in
theorem place_any (x : Value) (f : Fld) (bm n : Nat) (ws : List Fld) (w : World) (S : Nat → Prop) (hx : FldAt w S x f) (hS : ∀ g, S g → g < w.heap.size) (hf : szFld f ≤ 1048576) (hM : PM w bm n ws) :
    Calls Try.prog 90 #[x, .map (some bm)] w fun e w' => e = .returned (.int .i64 (plc ws (nms f))) ∧ Below w.heap.size w w' := by
  have HX := Seg.hid hx
  have HF := Seg.hid hf
  obtain ⟨A, c, B, d, rfl, hA, hI⟩ := form hx
  have HM := Seg.hid hM
  have hbm := hM.lt
  clear hx hA hI hM
  go_enter Try.func90, Try.ntmps90
  go_wp2_with fail
  refine (names_any _ f (w.alloc _) S (HX.out.below (below1 w _) hS) (fun g hg => by rw [hsz]; have := hS g hg; omega) HF.out).mono ?_
  rintro e w1 ⟨vn, rfl, hn, b1⟩
  have B1 := Seg.hid (chain (below1 w _) b1)
  have M1 : Hid (PM w1 bm n ws) := HM.out.keep (B1.out.block _ hbm)
  clear b1
  obtain ⟨An, cn, gn, on, Fn, rfl, OP, hnn⟩ := opn hn (fun g hg => hg.2)
  have HP := Seg.hid OP
  clear hn OP
  have SZN := Seg.hid (fun k hk => sz_nms HF.out (k := k) hk)
  go_wp2
  go_loop [12] (fun i => ∃ k : Nat, k ≤ (nms f).length ∧ i = .int .i64 k ∧ Hid (plc ws ((nms f).drop k) = plc ws (nms f))) (fun i => (nms f).length - (intOf i).toNat)
  case atStart => exact ⟨0, Nat.zero_le _, rfl, (show plc ws ((nms f).drop 0) = _ from rfl)⟩
  case round =>
    obtain ⟨k, hk, rfl, HG⟩ := hrel
    by_cases hlt : k < (nms f).length
    · obtain ⟨ea, hc, hgw⟩ := HP.out.addr.resolve_left (by omega)
      subst ea
      have d0 := strs_cell HP.out rfl hlt
      have h0 : (0 : Int) ≤ (k : Int) := by omega
      have h1 : (k : Int) < ((nms f).length : Int) := by omega
      have TZ : Hid (((nms f).getD k default).size ≤ maxLen) := by show _ ≤ _; have := SZN.out k hlt; unfold maxLen; omega
      have ST := Seg.hid (plc_step (ws := ws) hlt)
      generalize (nms f).getD k default = nk at *
      obtain ⟨D, hown, hsay⟩ := M1.out
      have OW := Seg.hid hown
      have SA := Seg.hid (hsay nk TZ.out)
      clear hown hsay
      go_upto_region 4 with fail
      by_cases hp : 0 ≤ fnd ws nk
      · have HH : Maps.has D (key nk) = true := by rw [SA.out.1]; simp [hp]
        have R : Hid (plc ws (nms f) = fnd ws nk) := by show _ = _; rw [← HG.out, ST.out, if_pos hp]
        have AT := Seg.hid (SA.out.2 hp)
        clear hp
        go_upto_region 5 with (at_lookup; refine wpList_lookup_own_ok_int _ rfl _ _ 138 rfl 9 3 .i64 law Try.underlying138 Try.underlying3 (zeroI _) bm n _ rfl OW.out _ _ rfl (key_of TZ.out) ?_; intro c0 hat hwc; rw [HH])
        have hcv : c0 = fnd ws nk := by
          rw [AT.out] at hat
          cases hat; rfl
        clear hat hwc HH
        go_wp2
        go_ret
        exact ⟨by rw [R.out]; first | rfl | (rw [hcv]; rfl), B1.out⟩
      · have HH : Maps.has D (key nk) = false := by rw [SA.out.1]; simp [hp]
        have R : Hid (plc ws ((nms f).drop (k + 1)) = plc ws (nms f)) := by show _ = _; rw [← HG.out, ST.out, if_neg hp]
        clear hp
        go_upto_region 5 with (at_lookup; refine wpList_lookup_own_ok_int _ rfl _ _ 138 rfl 9 3 .i64 law Try.underlying138 Try.underlying3 (zeroI _) bm n _ rfl OW.out _ _ rfl (key_of TZ.out) ?_; intro c0 hat hwc; rw [HH])
        clear hat hwc HH
        go_wp2
        go_round
        case rel => exact ⟨k + 1, by omega, by go_num, R.out⟩
        case measure => simp [intOf]; omega
    · obtain rfl : k = (nms f).length := by omega
      have R : Hid (plc ws (nms f) = -1) := by show _ = _; rw [← HG.out]; simp [plc]
      go_wp2
      go_ret
      exact ⟨by rw [R.out]; rfl, B1.out⟩
/-- A row of numbers of the call's own. -/
abbrev IRow (w : World) (B : Nat) (v : Value) (ns : List Int) : Prop := w.ownsRow B 3 1 v ns.length (ns.map (Value.int .i64))
theorem IRow.keep {w w' : World} {B : Nat} {v : Value} {ns : List Int} (h : IRow w B v ns) (hb : ∀ x, B ≤ x → x < w.heap.size → w'.heap[x]? = w.heap[x]?) : IRow w' B v ns := by
  refine ⟨h.1, ?_⟩
  rcases h.2 with ⟨h1, h2⟩ | ⟨g, cap, cur, h1, hb', hg, r⟩
  · exact .inl ⟨h1, h2⟩
  · exact .inr ⟨g, cap, cur, h1, hb', (hb g hb' (Array.getElem?_eq_some_iff.1 hg).1).trans hg, r⟩
theorem irow_put {w : World} {B : Nat} {v : Value} {ns : List Int} {a : Int} (h : w.ownsRow B 3 1 v (ns.length + 1) (ns.map (Value.int .i64) ++ [Value.int .i64 a])) : IRow w B v (ns ++ [a]) := by
  unfold IRow
  simpa using h
theorem map_take {T U : Type} [Inhabited T] (p : T → U) {l : List T} {k : Nat} (h : k < l.length) : (l.take (k + 1)).map p = (l.take k).map p ++ [p (l.getD k default)] := by
  rw [List.take_succ_eq_append_getElem h, List.map_append]
  simp [h]
set_option maxHeartbeats 6400000 in
theorem matches_any (x y : Value) (r s : Sch) (w : World) (S : Nat → Prop) (hx : SchAt w S x r) (hy : SchAt w S y s) (hS : ∀ g, S g → g < w.heap.size) (hfr : szSch r ≤ 1048576) (hfs : szSch s ≤ 1048576) (hor : sok r = true) (hos : sok s = true) :
    Calls Try.prog 50 #[x, y] w fun e w' => ∃ v, e = .returned v ∧ IRow w' w.heap.size v (mtch r s) ∧ Below w.heap.size w w' := by
  obtain ⟨A0, c0, rfl, hl⟩ := formS hx
  obtain ⟨A, c, g, o, F, e, OP, hn⟩ := opn hl hS
  cases e
  obtain ⟨A2, c2, rfl, hl2⟩ := formS hy
  obtain ⟨A3, c3, g2, o2, F2, e, OP2, hn2⟩ := opn hl2 hS
  cases e
  have HO := Seg.hid OP
  have HO2 := Seg.hid OP2
  have HZ := Seg.hid (sz_fields hfr)
  have HZ2 := Seg.hid (sz_fields hfs)
  have h20 := (sok_dst hor).2.1
  have h202 := (sok_dst hos).2.1
  have DS := Seg.hid (sok_dst hos).1
  clear hx hy hl hl2 OP OP2 hfr hfs hor hos
  obtain ⟨i0, hi, hz0, hz1, hz2⟩ := info_parts infoI
  have hmm := @run_makeMap Try.prog
  go_enter Try.func50, Try.ntmps50
  go_upto_region 2 with fail
  obtain ⟨w1, hw1⟩ : ∃ w1, ((w.alloc (.cells (srow r A0 c0) 43 (0, 0))).alloc (.cells (srow s A2 c2) 43 (0, 0))).alloc (.map #[] 0) = w1 := ⟨_, rfl⟩
  have B1 : Hid (Below w.heap.size w w1) := by show Below _ _ _; rw [← hw1]; exact below3 _ _ _ _
  have M1 : Hid (PM w1 (w.heap.size + 2) 0 []) := by
    have := PM.made ((w.alloc (.cells (srow r A0 c0) 43 (0, 0))).alloc (.cells (srow s A2 c2) 43 (0, 0)))
    rw [hsz, hsz] at this
    show PM _ _ _ _
    rw [← hw1]; exact this
  have P1 : Hid (w1.heap[w.heap.size]? = some (.cells (srow r A0 c0) 43 (0, 0))) := by show _ = _; rw [← hw1]; exact at3z w _ _ _
  have p1 : w1.cell? ⟨w.heap.size + 1, 1, none⟩ = some (.slice A2 s.fields.length c2) := by
    rw [← hw1]
    exact cell_of_row _ _ 1 _ _ (0, 0) (Recs.at3 w _ _ _)
  try rw [hw1]
  clear hw1 hmm
  go_wp2
  go_loopw [15] (fun i wr => ∃ (k : Nat), k ≤ s.fields.length ∧ i = .int .i64 k ∧ Hid (Below w.heap.size w wr ∧ PM wr (w.heap.size + 2) k (s.fields.take k) ∧ wr.heap[w.heap.size]? = some (.cells (srow r A0 c0) 43 (0, 0)))) (fun i _ => s.fields.length - (intOf i).toNat)
  case atStart => exact ⟨0, Nat.zero_le _, rfl, B1.out, M1.out, P1.out⟩
  case round =>
    clear B1 M1 P1 p1
    obtain ⟨k, hk, rfl, HG⟩ := hrel
    by_cases hlt : k < s.fields.length
    · obtain ⟨ea, hc, hgw⟩ := HO2.out.addr.resolve_left (by omega)
      subst ea
      obtain ⟨A', c', B', d', hfl, d0, d1, d2, d3, d4, d5, d6, d7, d8, d9, d10⟩ := fld_at HO2.out hS HG.out.1 hlt
      have h0 : (0 : Int) ≤ (k : Int) := by omega
      have h1 : (k : Int) < (s.fields.length : Int) := by omega
      have SF : Hid ((s.fields.getD k default).name.size ≤ maxLen) := by show _ ≤ _; have := sz_name (szL_one szFld HZ2.out hlt); unfold maxLen; omega
      have NN : Hid (fnd (s.fields.take k) (s.fields.getD k default).name = -1) := new_name DS.out hlt
      have TK : Hid (s.fields.take (k + 1) = s.fields.take k ++ [s.fields.getD k default]) := by show _ = _; rw [List.take_succ_eq_append_getElem hlt]; simp [hlt]
      have LK : Hid ((s.fields.take k).length = k) := by show _ = _; rw [List.length_take]; omega
      have BW := Seg.hid HG.out.1
      have MW := Seg.hid HG.out.2.1
      have PW := Seg.hid HG.out.2.2
      have hbm : w.heap.size + 2 < wr.heap.size := MW.out.lt
      clear HG hfl
      generalize s.fields.getD k default = f at *
      obtain ⟨w5, hw5⟩ : ∃ w5, wr.alloc (.cells #[.string f.name, .int .i64 f.kind, .bool f.lst, .bool f.may, .slice A' f.was.length c', .bool f.fixd, .int .i64 f.vk, .int .i64 f.vn, .string f.vt, .bool f.vl, .slice B' f.vi.length d'] 86 (0, 0)) = w5 := ⟨_, rfl⟩
      have T5 : Hid (w5.heap[wr.heap.size]? = some (.cells (frow f A' c' B' d') 86 (0, 0))) := by show _ = _; rw [← hw5]; exact heap_alloc_new _ _
      have N5 : Hid (Below wr.heap.size wr w5) := by show Below _ _ _; rw [← hw5]; exact below1 _ _
      have M5 : Hid (PM w5 (w.heap.size + 2) k (s.fields.take k)) := MW.out.keep (N5.out.block _ hbm)
      have s5 : wr.heap.size < w5.heap.size := (Array.getElem?_eq_some_iff.1 T5.out).1
      go_upto_region 5 with fail
      try rw [hw5]
      clear hw5 d0 d1 d2 d3 d4 d5 d6 d7 d8 d9 d10
      have q0 : w5.cell? ⟨wr.heap.size, 0, none⟩ = some (.string f.name) := cell_of_row w5 _ 0 _ _ (0, 0) T5.out
      have WK : Hid ((Lit.int .i64 (k : Int)).wf = true) := WalkArith.wf_i64 ⟨by omega, by omega⟩
      obtain ⟨D, hown, hsay⟩ := M5.out
      have OW := Seg.hid hown
      have SA := Seg.hid hsay
      clear hown hsay
      go_wp2_with (at_mapUpdate; refine wpList_mapUpdate_own _ rfl _ _ _ 138 rfl 9 3 law Try.underlying138 _ (w.heap.size + 2) k _ rfl OW.out (by unfold maxLen; omega) _ _ _ rfl rfl (key_of SF.out) _ [] (plainElem_int Try.underlying3 WK.out) ?_; intro w3 hown3 hg3)
      go_roundw
      case rel =>
        refine ⟨k + 1, by omega, by go_num, (chain BW.out N5.out).grown hg3 (by omega) (fun x hx => by cases hx; omega), ⟨_, hown3, ?_⟩, ?_⟩
        · have := psays_put SA.out OW.out.isMap f NN.out
          rw [LK.out] at this
          rw [TK.out]
          exact this
        · rw [hg3.block w.heap.size (by omega) (by simp), N5.out.block w.heap.size (by omega), PW.out]
      case measure => simp [intOf]; omega
    · obtain rfl : k = s.fields.length := by omega
      obtain ⟨wE, hE⟩ : ∃ x, x = wr := ⟨_, rfl⟩
      subst hE
      have MW : Hid (PM wE (w.heap.size + 2) s.fields.length s.fields) := by have := HG.out.2.1; rwa [List.take_length] at this
      have BW := Seg.hid HG.out.1
      have PW := Seg.hid HG.out.2.2
      have hbm : w.heap.size + 2 < wE.heap.size := MW.out.lt
      clear HG
      go_upto_region 8 with fail
      obtain ⟨w2, hw2⟩ : ∃ w2, wE.alloc (.cells #[] 3 (0, 0)) = w2 := ⟨_, rfl⟩
      have N2 : Hid (Below wE.heap.size wE w2) := by show Below _ _ _; rw [← hw2]; exact below1 _ _
      have O2 : Hid (IRow w2 (w.heap.size + 3) (.slice (some ⟨wE.heap.size, 0, none⟩) 0 0) ((r.fields.take 0).map fun f => plc s.fields (nms f))) := by
        have hg : w2.heap[wE.heap.size]? = some (.cells #[] 3 (0, 0)) := by rw [← hw2]; exact heap_alloc_new _ _
        show IRow _ _ _ _
        simp only [List.take_zero, List.map_nil]
        exact ⟨rfl, .inr ⟨wE.heap.size, 0, #[], rfl, by omega, hg, by simp, by unfold maxLen; omega, rfl, rfl⟩⟩
      have p2 : w2.cell? ⟨w.heap.size, 1, none⟩ = some (.slice A0 r.fields.length c0) := cell_of_row _ _ 1 _ _ (0, 0) ((N2.out.block _ (by omega)).trans PW.out)
      have M2 : Hid (PM w2 (w.heap.size + 2) s.fields.length s.fields) := MW.out.keep (N2.out.block _ hbm)
      have B2 := Seg.hid (chain BW.out N2.out)
      try rw [hw2]
      clear hw2 N2 MW BW PW
      go_wp2
      go_loopw [8, 29] (fun vn i wr => ∃ (k : Nat), k ≤ r.fields.length ∧ i = .int .i64 k ∧ Hid (Below w.heap.size w wr ∧ PM wr (w.heap.size + 2) s.fields.length s.fields ∧ IRow wr (w.heap.size + 3) vn ((r.fields.take k).map fun f => plc s.fields (nms f)))) (fun _ i _ => r.fields.length - (intOf i).toNat)
      case atStart => exact ⟨0, Nat.zero_le _, rfl, B2.out, M2.out, O2.out⟩
      case round =>
        clear B2 M2 O2 p2
        obtain ⟨k, hk, rfl, HG⟩ := hrel
        obtain ⟨v, hv3⟩ : ∃ v, v = u8 := ⟨_, rfl⟩
        rw [← hv3] at HG ⊢
        clear hv3
        by_cases hlt : k < r.fields.length
        · obtain ⟨ea, hc, hgw⟩ := HO.out.addr.resolve_left (by omega)
          subst ea
          obtain ⟨A', c', B', d', hfl, d0, d1, d2, d3, d4, d5, d6, d7, d8, d9, d10⟩ := fld_at HO.out hS HG.out.1 hlt
          have h0 : (0 : Int) ≤ (k : Int) := by omega
          have h1 : (k : Int) < (r.fields.length : Int) := by omega
          have SF : Hid (szFld (r.fields.getD k default) ≤ 1048576) := szL_one szFld HZ.out hlt
          have MT := Seg.hid (map_take (fun f => plc s.fields (nms f)) hlt)
          have LK : Hid (((r.fields.take k).map fun f => plc s.fields (nms f)).length = k) := by show _ = _; rw [List.length_map, List.length_take]; omega
          have HFL := Seg.hid hfl
          have BW := Seg.hid HG.out.1
          have MW := Seg.hid HG.out.2.1
          have OW := Seg.hid HG.out.2.2
          have hbm : w.heap.size + 2 < wr.heap.size := MW.out.lt
          have LV : Hid (∀ x, v.ownBlock = some x → w.heap.size + 3 ≤ x ∧ x < wr.heap.size) := fun x hx => World.ownsRow.lt OW.out x hx
          clear HG hfl
          generalize r.fields.getD k default = f at *
          generalize (r.fields.take k).map (fun f => plc s.fields (nms f)) = ns at *
          have CP : Hid (∀ wx, Below wr.heap.size wr wx → Calls Try.prog 90 #[.agg (frow f A' c' B' d'), .map (some (w.heap.size + 2))] wx fun e w' => e = .returned (.int .i64 (plc s.fields (nms f))) ∧ Below wx.heap.size wx w') := fun wx b => place_any _ f (w.heap.size + 2) _ s.fields wx S (HFL.out.below b (fun g hg => Nat.lt_of_lt_of_le (hS g hg) BW.out.size)) (fun g hg => Nat.lt_of_lt_of_le (hS g hg) (Nat.le_trans BW.out.size b.size)) SF.out (MW.out.keep (b.block _ hbm))
          go_wp2_with fail
          refine (CP.out _ (below1 wr _)).mono ?_
          rintro e w3 ⟨rfl, b3⟩
          have N3 := Seg.hid (chain (below1 wr _) b3)
          have s3 : wr.heap.size < w3.heap.size := by have := b3.size; rw [hsz] at this; omega
          clear b3 d0 d1 d2 d3 d4 d5 d6 d7 d8 d9 d10
          generalize plc s.fields (nms f) = pf at *
          have O3 : Hid (IRow w3 (w.heap.size + 3) v ns) := OW.out.keep (fun x _ hx => N3.out.block x hx)
          have NX : Hid (∀ (w9 : World) (v9 : Value) (ob : Obj), w9.ownsRow (w.heap.size + 3) 3 1 v9 (ns.length + 1) (ns.map (Value.int .i64) ++ [Value.int .i64 pf]) → (w3.alloc ob).grownBy w9 v.ownBlock → (Below w.heap.size w w9 ∧ PM w9 (w.heap.size + 2) s.fields.length s.fields ∧ IRow w9 (w.heap.size + 3) v9 ((r.fields.take (k + 1)).map fun f => plc s.fields (nms f)))) := fun w9 v9 ob ho hg => by
            have b9 : Below w.heap.size w w9 := ((chain BW.out N3.out).alloc (by omega) ob).grown hg (by rw [hsz]; omega) (fun x hx => by have := (LV.out x hx).1; omega)
            refine ⟨b9, ?_, by rw [MT.out]; exact irow_put ho⟩
            refine MW.out.keep ?_
            rw [hg.block (w.heap.size + 2) (by rw [hsz]; omega) (fun h => by have := (LV.out _ h.symm).1; omega), (below1 w3 ob).block _ (by omega), N3.out.block _ hbm]
          go_wp2_with (at_builtin; refine AppW.wpList_append_all _ rfl _ _ 39 rfl (w.heap.size + 3) 3 i0 _ 1 8 Try.underlying39 hi hz0 hz1 hz2 rfl (by decide) v ns.length (ns.map (Value.int .i64)) rfl (O3.out.alloc _) (some ⟨w3.heap.size, 0, none⟩) 1 1 [.int .i64 pf] rfl (by rfl) (fun _ => ⟨_, rfl, World.news_of_block (cs := #[.int .i64 pf]) (heap_alloc_new _ _)⟩) (by simp [Value.oneCell']) (by have := LK.out; unfold maxLen; omega) (by have := LK.out; omega) (by rw [hsz]; omega) ?_; intro v9 w9 own9 gr9 vb9; have N9 := Seg.hid (NX.out _ _ _ own9 gr9); clear own9 gr9 vb9)
          go_roundw
          case rel => exact ⟨k + 1, by omega, by go_num, N9.out⟩
          case measure => simp [intOf]; omega
        · obtain rfl : k = r.fields.length := by omega
          have R : Hid (IRow wr w.heap.size v (mtch r s)) := by
            have h := HG.out.2.2
            rw [List.take_length] at h
            refine ⟨h.1, ?_⟩
            rcases h.2 with ⟨h1, h2⟩ | ⟨g, cap, cur, h1, hb', hg, q⟩
            · exact .inl ⟨h1, h2⟩
            · exact .inr ⟨g, cap, cur, h1, by omega, hg, q⟩
          go_wp2
          go_ret
          exact ⟨_, rfl, R.out, HG.out.1⟩
end Go.Proofs.Ytdhicmbfknagjaa.MaI
namespace Go.Proofs.Ytdhicmbfknagjaa.CrP
set_option maxRecDepth 8000
open Go.RowKit
open Ls Lp VkP VkR ScP ScS MaP MaI
set_option linter.unusedVariables false
def takes (f g : Fld) : Bool := (f.lst == g.lst) && (!g.may || f.may) && (decide (f.kind = g.kind) || (decide (f.kind = 3) && decide (g.kind = 2)))
def one (ws : List Fld) (f : Fld) : Bool := if plc ws (nms f) = -1 then f.fixd || f.may else takes f (ws.getD (plc ws (nms f)).toNat default)
def crd (r s : Sch) : Bool := (r.name.toList == s.name.toList) && r.fields.all (one s.fields)
def canR (r s : Sch) : Bool := sok r && sok s && crd r s
theorem ints_row {w : World} {B : Nat} {v : Value} {ns : List Int} (h : IRow w B v ns) (hl : ns.length ≤ 1048577) : IntsAt w (seg B w.heap.size) v ns := by
  refine ⟨by omega, ?_⟩
  rcases h.2 with ⟨rfl, h0⟩ | ⟨g, cap, cur, rfl, hb, hg, hnc, hcm, hcs, htake⟩
  · exact ⟨none, 0, by rw [h0], .inl h0⟩
  · refine ⟨_, cap, rfl, .inr ⟨g, 0, fun i _ => .int .i64 (ns.getD i default), rfl, ⟨hb, (Array.getElem?_eq_some_iff.1 hg).1⟩, hnc, fun i hi j hj => ?_, fun i hi => rfl⟩⟩
    obtain rfl : j = 0 := by omega
    have hc : cur.toList[i]? = some (.int .i64 (ns.getD i default)) := by
      have h2 : (cur.toList.take (ns.length * 1))[i]? = (ns.map (Value.int .i64))[i]? := by rw [htake]
      rw [List.getElem?_take_of_lt (by omega)] at h2
      rw [h2]
      simp [hi]
    have hc2 : cur[i]? = some (.int .i64 (ns.getD i default)) := by simpa using hc
    show w.cell? ⟨g, 0 + i * 1 + 0, none⟩ = _
    rw [show 0 + i * 1 + 0 = i by omega]
    simp [World.cell?, hg, hc2]
theorem int_cell {w w' : World} {S : Nat → Prop} {A : Option Addr} {c : Nat} {us : List Int} {g o : Nat} {F : Nat → Nat → Value} (h : Opn 1 EI w S A c us g o F) (hb : w'.heap[g]? = w.heap[g]?) {k : Nat} (hk : k < us.length) : w'.cell? ⟨g, o + k, none⟩ = some (.int .i64 (us.getD k default)) := by
  have e : F k 0 = .int .i64 (us.getD k default) := h.el k hk
  have c := h.cells k hk 0 (by omega)
  rw [e] at c
  rw [World.cell?_of_block (w := w) (a := ⟨g, o + k, none⟩) hb]
  simpa using c
theorem mtch_at {r s : Sch} {k : Nat} (h : k < r.fields.length) : (mtch r s).getD k default = plc s.fields (nms (r.fields.getD k default)) := by
  unfold mtch
  simp [h]
theorem mtch_len (r s : Sch) : (mtch r s).length = r.fields.length := by simp [mtch]
/-- No two fields of a right reader read the same. -/
theorem plc_apart {fs ws : List Fld} (h : dst [] (allN fs) = true) {i k : Nat} (hk : k < i) (hi : i < fs.length) (hp : plc ws (nms (fs.getD i default)) ≠ -1) : plc ws (nms (fs.getD k default)) ≠ plc ws (nms (fs.getD i default)) := fun e => by
  rcases plc_range ws (nms (fs.getD i default)) with h1 | ⟨h1, h2, h3⟩
  · exact hp h1
  · rcases plc_range ws (nms (fs.getD k default)) with g1 | ⟨g1, g2, g3⟩
    · rw [g1] at e; omega
    · rw [e] at g3
      unfold hs at h3
      rw [List.any_eq_true] at h3
      obtain ⟨m, hm, hme⟩ := h3
      have := apart h hk hi hm
      rw [beq_iff_eq] at hme
      unfold hs at this g3
      rw [← hme] at g3
      rw [this] at g3
      simp at g3
end Go.Proofs.Ytdhicmbfknagjaa.CrP
