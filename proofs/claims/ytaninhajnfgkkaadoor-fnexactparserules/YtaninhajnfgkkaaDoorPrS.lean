/- Rules out of their text, as the model reads them. -/
import Derived.Test.YtaninhajnfgkkaaDoorPrP
import Derived.Test.YtaninhajnfgkkaaDoorTxS
import Derived.Test.YtaninhajnfgkkaaDoorRuS
import Derived.Test.YtaninhajnfgkkaaDoorHdK
namespace Go.Proofs.YtaninhajnfgkkaaDoor.PrS
set_option maxRecDepth 8000
open Go.RowKit
open Ls Lp RuP TxP PrP
open Recs (hsz below1 below2 chain)
set_option linter.unusedVariables false
theorem map_getD (l : List Value) (n : Nat) (h : l.length = n) : (List.range n).map (fun q => l.getD q default) = l := by
  subst h
  apply List.ext_getElem
  · simp
  · intro i h1 h2
    simp at h1
    simp [h1]
theorem rules_own {wr : World} {base : Nat} {v : Value} {acc : List Rul} (h : RRow wr base v acc) (hn : acc.length ≤ 1048576) : Ow.RulsOwn wr (seg base wr.heap.size) v acc := by
  refine ⟨hn, ?_⟩
  rcases h.2 with ⟨h1, h2⟩ | ⟨g, cap, cur, h1, h2, h3, h4, h5, h6, h7⟩
  · exact ⟨none, 0, by rw [h1, h2], .inl h2⟩
  · refine ⟨_, cap, h1, .inr ⟨g, fun q => (rcells acc).getD q default, fun _ _ => False, rfl, ⟨h2, (Array.getElem?_eq_some_iff.1 h3).1⟩, fun i hi x hx => hx.elim, ⟨⟨by simp, .inr ⟨g, cap, cur, rfl, Nat.le_refl _, h3, h4, h5, h6, by rw [h7]; exact (map_getD _ _ (rcells_len acc)).symm⟩⟩, rfl, fun i hi => ?_, fun i hi x hx => hx.elim, fun i j hi hj hne x hx => hx.elim⟩⟩⟩
    have e : ∀ j, j < 6 → (rcells acc).getD (i * 6 + j) default = (rrow (acc.getD i default)).toList.getD j default := fun j hj => by
      rw [List.getD_eq_getElem?_getD, rcells_get hi hj]; rfl
    exact ⟨e 0 (by omega), e 1 (by omega), e 2 (by omega), e 3 (by omega), e 4 (by omega), e 5 (by omega)⟩
set_option maxHeartbeats 3200000 in
theorem place_any (g n : Nat) (L : List ByteArray) (s : ByteArray) (w : World) (hn : L.length = n) (h1 : 1 ≤ n) (h2 : n ≤ 100) (hc : ∀ j, j < n → w.cell? ⟨g, j, none⟩ = some (.string (L.getD j ⟨#[]⟩))) :
    Calls Tryd.prog 11 #[.slice (some ⟨g, 0, none⟩) n n, .string s] w fun e w' => e = .returned (.int .i64 (place L s.toList)) ∧ w = w' := by
  have HC := Seg.hid hc
  have HN := Seg.hid hn
  clear hc hn
  go_enter Tryd.func11, Tryd.ntmps11
  go_wp2_with fail
  go_loop [5] (fun i => ∃ k : Nat, 1 ≤ k ∧ k ≤ n ∧ i = .int .i64 k ∧ Hid (placeF s.toList (L.drop k) k = place L s.toList)) (fun i => n - (intOf i).toNat)
  case atStart => exact ⟨1, Nat.le_refl _, h1, rfl, rfl⟩
  case round =>
    obtain ⟨k, hk1, hk, rfl, HR⟩ := hrel
    by_cases hlt : k < n
    · have c1 := HC.out k hlt
      have h0 : (0 : Int) ≤ (k : Int) := by omega
      have h3 : (k : Int) < (n : Int) := by omega
      have ST := HR.out
      rw [place_step (by rw [HN.out]; exact hlt)] at ST
      have SH := Seg.hid ST
      clear ST HR
      generalize L.getD k ⟨#[]⟩ = x at *
      by_cases hx : x.toList = s.toList
      · have hx1 : (x.toList == s.toList) = true := by simp [hx]
        have Z : Hid ((k : Int) = place L s.toList) := by show _ = _; rw [← SH.out, if_pos hx]
        clear hx SH
        go_wp2
        go_ret
        exact ⟨by rw [← Z.out]; rfl, rfl⟩
      · have hx1 : (x.toList == s.toList) = false := by simp [hx]
        have Z : Hid (placeF s.toList (L.drop (k + 1)) (k + 1) = place L s.toList) := by show _ = _; rw [← SH.out, if_neg hx]
        clear hx SH
        go_wp2
        go_round
        case rel => exact ⟨k + 1, by omega, by omega, by go_num, Z.out⟩
        case measure => simp [intOf]; omega
    · have Z : Hid ((0 : Int) = place L s.toList) := by
        have := HR.out
        rw [List.drop_eq_nil_of_le (by rw [HN.out]; omega)] at this
        exact this
      clear HR
      go_wp2
      go_ret
      exact ⟨by rw [← Z.out]; rfl, rfl⟩
theorem sixr {w : World} {b : Nat} {r : Rul} (h : w.heap[b]? = some (.cells (rrow r) 33 (0, 0))) : w.cell? ⟨b, 0, none⟩ = some (.bool r.deny) ∧ w.cell? ⟨b, 1, none⟩ = some (.string r.who) ∧ w.cell? ⟨b, 2, none⟩ = some (.int .i64 r.may) ∧ w.cell? ⟨b, 3, none⟩ = some (.int .i64 r.on) ∧ w.cell? ⟨b, 4, none⟩ = some (.string r.name) ∧ w.cell? ⟨b, 5, none⟩ = some (.bool r.begins) :=
  ⟨cell_of_row w b 0 _ _ (0, 0) h, cell_of_row w b 1 _ _ (0, 0) h, cell_of_row w b 2 _ _ (0, 0) h, cell_of_row w b 3 _ _ (0, 0) h, cell_of_row w b 4 _ _ (0, 0) h, cell_of_row w b 5 _ _ (0, 0) h⟩
abbrev zrule : Array Value := #[.bool false, .string ⟨#[]⟩, .int .i64 0, .int .i64 0, .string ⟨#[]⟩, .bool false]
theorem mk_form {ws : List (List UInt8)} {x1 x2 x3 n : ByteArray} {d b' : Bool} (h0 : (mk ws).deny = d) (h1 : x1 = (mk ws).who) (h2 : x2.toList = wd ws 2) (h3 : x3.toList = wd ws 3) (hn : (if star (wd ws 4) = true then bsOf (wd ws 4).dropLast else bsOf (wd ws 4)) = n) (hb : star (wd ws 4) = b') : mk ws = ⟨d, x1, place mayL x2.toList, place onL x3.toList, n, b'⟩ := by
  subst h0
  subst h1
  subst hn
  subst hb
  rw [h2, h3]
  rfl
theorem bs_of (t : ByteArray) : bsOf t.toList = t := by
  apply ByteArray.ext
  rw [toList_data]
  simp [bsOf]
theorem last_of {z : ByteArray} {n1 : Nat} (h : z.size = n1 + 1) : z.toList.getLast? = some (z[n1]'(by omega)) := by
  have e : z.size - 1 = n1 := by omega
  rw [List.getLast?_eq_getElem?, size_list, e]
  have hl : n1 < z.toList.length := by rw [size_list]; omega
  rw [List.getElem?_eq_getElem hl]
  congr 1
  simp only [toList_data]
  rfl
theorem drop_last {z : ByteArray} {n1 : Nat} (h : z.size = n1 + 1) : (z.extract 0 n1).toList = z.toList.dropLast := by
  rw [extract_eq, bs_toList, List.dropLast_eq_take, size_list, h]
  simp
set_option maxHeartbeats 12800000 in
theorem parse_any (t : ByteArray) (w : World) (ht : t.size ≤ 1048576) :
    Calls Tryd.prog 4 #[.string t] w fun e w' => ∃ r, e = .returned (.tuple #[r, .int .i64 (parse t).2]) ∧ Ow.RulsOwn w' (seg w.heap.size w'.heap.size) r (parse t).1 ∧ Below w.heap.size w w' := by
  obtain ⟨i0, hi, hz0, hz1, hz2⟩ := info_parts infoZRul
  have NO : Hid (∀ (w' : World) (A : Option Addr) (c : Nat) (q : Int), parse t = ([], q) → Below w.heap.size w w' → ∃ r, Ending.returned (.tuple #[.slice A 0 c, .int .i64 q]) = .returned (.tuple #[r, .int .i64 (parse t).2]) ∧ Ow.RulsOwn w' (seg w.heap.size w'.heap.size) r (parse t).1 ∧ Below w.heap.size w w') := fun w' A c q h b => ⟨.slice A 0 c, by rw [h], by rw [h]; exact Ow.LOwn.nil _ _ _ _, b⟩
  have CL : Hid (∀ wx, Calls Tryd.prog 9 #[.string t] wx fun e w' => ∃ v, e = .returned v ∧ TRow w' wx.heap.size v (TxS.lines t) ∧ Below wx.heap.size wx w') := fun wx => TxS.lines_any t wx ht
  have LN : Hid (∀ x ∈ TxS.lines t, x ≠ [] ∧ x.length ≤ t.size) := fun x hx => ⟨lin_ne _ _ x hx, by have := lin_le t.toList [] x hx; rw [size_list] at this; simpa using this⟩
  have LL : (TxS.lines t).length ≤ t.size + 1 := by have := TxS.lin_len t.toList []; rw [size_list] at this; exact this
  go_enter Tryd.func4, Tryd.ntmps4
  by_cases h4 : 4000 < t.size
  · have Z : Hid (parse t = ([], 1)) := by show _ = _; unfold parse; rw [if_pos h4]
    have h5 : (4000 : Int) < (t.size : Int) := by omega
    go_wp2
    go_ret2
    exact NO.out _ _ _ _ Z.out (below1 _ _)
  have PE : Hid (parse t = parseF (TxS.lines t) 0 []) := by show _ = _; unfold parse; rw [if_neg h4]; rfl
  have h5 : ¬ (4000 : Int) < (t.size : Int) := by omega
  have O1 := Seg.hid (rnew w w.heap.size (Nat.le_refl _))
  have h6 : t.size ≤ 9223372036854775807 := by omega
  go_upto_region 5 with (go_at_call 9; refine (CL.out _).mono ?_; rintro e w2 ⟨v2, rfl, tr, b2⟩; have TR := Seg.hid tr; have B2 := Seg.hid b2; clear tr b2)
  have O2 : Hid (RRow w2 w.heap.size (.slice (some ⟨w.heap.size, 0, none⟩) 0 0) []) := rkeep O1.out (fun x _ hx => B2.out.block x hx)
  have BB := Seg.hid (chain (below1 w _) B2.out)
  obtain ⟨A, c, gl, rfl, hA, TL⟩ := topen TR.out
  have TL' := Seg.hid TL
  have HA := Seg.hid hA
  clear TL hA TR O1 B2 CL
  obtain ⟨L, hL⟩ : ∃ L, L = TxS.lines t := ⟨_, rfl⟩
  rw [← hL] at TL' HA PE LN LL ⊢
  clear hL
  go_wp2_with fail
  go_loopw [4, 6] (fun v i wr => ∃ (k : Nat) (us : List Rul), k ≤ L.length ∧ us.length ≤ k ∧ i = .int .i64 k ∧ Hid (RRow wr w.heap.size v us ∧ Below w.heap.size w wr ∧ Txs wr gl L ∧ parseF (L.drop k) k us = parse t)) (fun _ i _ => L.length - (intOf i).toNat)
  case atStart => exact ⟨0, [], Nat.zero_le _, Nat.le_refl _, rfl, O2.out, BB.out, TL'.out, PE.out.symm⟩
  case round =>
    clear O2 BB TL' PE
    obtain ⟨k, us, hk, hu, rfl, HR⟩ := hrel
    by_cases hlt : k < L.length
    · obtain ⟨ea, hc, hbg⟩ := HA.out.resolve_left (by omega)
      have TX := Seg.hid HR.out.2.2.1
      have hgl : gl < wr.heap.size := TX.out.lt.resolve_left (by omega)
      have cz := TX.out.cell k hlt
      have hmem : L.getD k [] ∈ L := by simp [hlt]
      have q1 := (LN.out _ hmem).1
      have q2 := (LN.out _ hmem).2
      have KR := Seg.hid HR.out.1
      have KB := Seg.hid HR.out.2.1
      have PS : Hid ((if lnOk (L.getD k []) k = true then parseF (L.drop (k + 1)) (k + 1) (us ++ [mk (wsOf (L.getD k []))]) else ([], ((k + 1 : Nat) : Int))) = parse t) := by
        have := HR.out.2.2.2
        rw [parse_step hlt] at this
        exact this
      clear HR hmem
      generalize L.getD k [] = ln at *
      have hz : (bsOf ln).toList = ln := bs_toList ln
      generalize bsOf ln = z at *
      subst hz
      obtain ⟨n1, hn1⟩ : ∃ n1, z.size = n1 + 1 := ⟨z.size - 1, by have : 0 < z.size := by { rw [← size_list]; exact List.length_pos_iff.2 q1 }; omega⟩
      have hn4 : n1 < 4000 := by rw [size_list] at q2; omega
      have ZS : Hid (z.size ≤ 4000) := by show _ ≤ _; rw [size_list] at q2; omega
      have hlast := last_of hn1
      have DL := Seg.hid (drop_last hn1)
      have e1 : IntKind.i64.wrap ((z.size : Int) - 1) = (n1 : Int) := by rw [IntKind.wrap_i64] <;> omega
      have e2 : (0 : Int) ≤ (n1 : Int) := by omega
      have e3 : (n1 : Int) < (z.size : Int) := by omega
      have e4 : n1 < z.size := by omega
      have e5 : (n1 : Int) ≤ (z.size : Int) := by omega
      have h0 : (0 : Int) ≤ (k : Int) := by omega
      have h1 : (k : Int) < (L.length : Int) := by omega
      have hk5 : k ≤ 5000 := by omega
      subst ea
      have NOK : Hid (∀ wx A c, lnOk z.toList k = false → Below w.heap.size w wx → ∃ r, Ending.returned (.tuple #[.slice A 0 c, .int .i64 ((k : Int) + 1)]) = .returned (.tuple #[r, .int .i64 (parse t).2]) ∧ Ow.RulsOwn wx (seg w.heap.size wx.heap.size) r (parse t).1 ∧ Below w.heap.size w wx) := fun wx A c h b => NO.out wx A c _ (by rw [← PS.out, if_neg (by rw [h]; exact Bool.false_ne_true)]; congr 1) b
      by_cases hb : z[n1] = 10
      case neg =>
        have hb0 : ¬ (z[n1].toNat : Int) = 10 := fun h => hb (by apply UInt8.toNat_inj.1; have : (10 : UInt8).toNat = 10 := rfl; omega)
        have hb1 : ((z[n1].toNat : Int) != 10) = true := by simp only [bne_iff_ne, ne_eq]; exact hb0
        have hb2 : ((z[n1].toNat : Int) == 10) = false := by simp only [beq_eq_false_iff_ne]; exact hb0
        have Z : Hid (lnOk z.toList k = false) := by show _ = _; unfold lnOk; rw [hlast]; simp [hb]
        clear hb hb0 hlast hn1
        go_wp2
        go_ret2
        exact NOK.out _ _ _ Z.out (chain KB.out (below1 _ _))
      have hb1 : ((z[n1].toNat : Int) != 10) = false := by rw [hb]; rfl
      have hb2 : ((z[n1].toNat : Int) == 10) = true := by rw [hb]; rfl
      by_cases h100 : k < 100
      case neg =>
        have h101 : (100 : Int) ≤ (k : Int) := by omega
        have Z : Hid (lnOk z.toList k = false) := by show _ = _; unfold lnOk; simp [h100]
        clear hb hlast hn1
        go_wp2
        go_ret2
        exact NOK.out _ _ _ Z.out (chain KB.out (below1 _ _))
      have h101 : ¬ (100 : Int) ≤ (k : Int) := by omega
      have LK : Hid (lnOk z.toList k = (wsOk (wsOf z.toList) && okR (mk (wsOf z.toList)))) := by show _ = _; unfold lnOk; rw [hlast, hb]; simp [h100]
      have CW : Hid (∀ wx, Calls Tryd.prog 10 #[.string (z.extract 0 n1)] wx fun e w' => ∃ v, e = .returned v ∧ TRow w' wx.heap.size v (wsOf z.toList) ∧ Below wx.heap.size wx w') := fun wx => by
        have := TxS.words_any (z.extract 0 n1) wx (by have := size_list (z.extract 0 n1); rw [DL.out] at this; rw [List.length_dropLast, size_list] at this; omega)
        unfold TxS.words at this
        rw [DL.out] at this
        exact this
      clear hb hlast hn1 DL
      go_upto_region 12 with (go_at_call 10; refine (CW.out _).mono ?_; rintro e w3 ⟨v3, rfl, tr, b3⟩; have TR := Seg.hid tr; have B3 := Seg.hid b3; clear tr b3)
      obtain ⟨A3, c3, gw, rfl, hA3, TW⟩ := topen TR.out
      have BK := Seg.hid (chain KB.out B3.out)
      obtain ⟨ws, hws⟩ : ∃ ws, ws = wsOf z.toList := ⟨_, rfl⟩
      rw [← hws] at hA3 TW LK PS ⊢
      have WL : Hid (∀ j, (wd ws j).length ≤ z.size) := fun j => by
        unfold wd
        by_cases hj : j < ws.length
        · have hm : ws.getD j [] ∈ ws := by simp [hj]
          rw [hws] at hm
          have := cut_le 32 z.toList.dropLast [] _ hm
          rw [← hws] at this
          rw [List.length_dropLast, size_list] at this
          simp only [List.length_nil] at this
          omega
        · rw [show ws.getD j [] = [] by rw [List.getD_eq_getElem?_getD, List.getElem?_eq_none (by omega)]; rfl]; exact Nat.zero_le _
      clear TR hws
      by_cases h5' : ws.length = 5
      case neg =>
        have Z : Hid (lnOk z.toList k = false) := by show _ = _; rw [LK.out]; simp [wsOk, h5']
        have v1 : ((ws.length : Int) != 5) = true := by simp only [bne_iff_ne, ne_eq]; omega
        have v2 : ((ws.length : Int) == 5) = false := by simp only [beq_eq_false_iff_ne]; omega
        clear TW hA3
        go_wp2
        go_ret2
        exact NOK.out _ _ _ Z.out (chain BK.out (below1 _ _))
      obtain ⟨rfl, hc3, hbw⟩ := hA3.resolve_left (by omega)
      have hgw : gw < w3.heap.size := TW.lt.resolve_left (by omega)
      have d0 := TW.cell 0 (by omega)
      have d1 := TW.cell 1 (by omega)
      have d2 := TW.cell 2 (by omega)
      have d3 := TW.cell 3 (by omega)
      have d4 := TW.cell 4 (by omega)
      have t0 : (bsOf (ws.getD 0 [])).toList = wd ws 0 := bs_toList _
      have t1 : bsOf (ws.getD 1 []) = (mk ws).who := rfl
      have t2 : (bsOf (ws.getD 2 [])).toList = wd ws 2 := bs_toList _
      have t3 : (bsOf (ws.getD 3 [])).toList = wd ws 3 := bs_toList _
      have t4 : (bsOf (ws.getD 4 [])).toList = wd ws 4 := bs_toList _
      clear TW
      generalize bsOf (ws.getD 0 []) = x0 at *
      generalize bsOf (ws.getD 1 []) = x1 at *
      generalize bsOf (ws.getD 2 []) = x2 at *
      generalize bsOf (ws.getD 3 []) = x3 at *
      generalize bsOf (ws.getD 4 []) = x4 at *
      have T0 := Seg.hid t0
      have T1 := Seg.hid t1
      have T2 := Seg.hid t2
      have T3 := Seg.hid t3
      have T4 := Seg.hid t4
      clear t0 t1 t2 t3 t4
      have WO : Hid (wsOk ws = ((x0.toList == [97, 108, 108, 111, 119]) || (x0.toList == [100, 101, 110, 121]))) := by show _ = _; unfold wsOk; rw [h5', T0.out]; simp
      rw [h5'] at *
      have DN : Hid ((mk ws).deny = (x0.toList == [100, 101, 110, 121])) := by show _ = _; rw [T0.out]; rfl
      obtain ⟨ba, hba⟩ : ∃ ba, (x0.toList == [97, 108, 108, 111, 119]) = ba := ⟨_, rfl⟩
      obtain ⟨bd, hbd⟩ : ∃ bd, (x0.toList == [100, 101, 110, 121]) = bd := ⟨_, rfl⟩
      have hba' : (x0.toList != [97, 108, 108, 111, 119]) = !ba := by rw [bne, hba]
      have hbd' : (x0.toList != [100, 101, 110, 121]) = !bd := by rw [bne, hbd]
      rw [hba, hbd] at WO
      rw [hbd] at DN
      cases hw1 : (ba || bd) with
      | false =>
        have Z : Hid (lnOk z.toList k = false) := by show _ = _; rw [LK.out, WO.out, hw1]; rfl
        cases ba with
        | true => simp at hw1
        | false =>
        cases bd with
        | true => simp at hw1
        | false =>
        clear hw1
        go_wp2
        go_ret2
        exact NOK.out _ _ _ Z.out (chain BK.out (below1 _ _))
      | true =>
      have LM : Hid (lnOk z.toList k = okR (mk ws)) := by show _ = _; rw [LK.out, WO.out, hw1]; simp
      have HM : Hid (∀ (wx : World), True) := fun _ => trivial
      clear HM LK WO
      have UP : ba = true ∨ (ba = false ∧ bd = true) := by cases ba <;> cases bd <;> simp_all
      clear hw1
      have ST : Hid (∀ wx, Below w3.heap.size w3 wx → wx.cell? ⟨gw, 0, none⟩ = some (.string x0) ∧ wx.cell? ⟨gw, 1, none⟩ = some (.string x1) ∧ wx.cell? ⟨gw, 2, none⟩ = some (.string x2) ∧ wx.cell? ⟨gw, 3, none⟩ = some (.string x3) ∧ wx.cell? ⟨gw, 4, none⟩ = some (.string x4)) := fun wx b => ⟨(b.cell (p := ⟨gw, 0, none⟩) hgw).trans d0, (b.cell (p := ⟨gw, 1, none⟩) hgw).trans d1, (b.cell (p := ⟨gw, 2, none⟩) hgw).trans d2, (b.cell (p := ⟨gw, 3, none⟩) hgw).trans d3, (b.cell (p := ⟨gw, 4, none⟩) hgw).trans d4⟩
      have CM : Hid (∀ wx, Calls Tryd.prog 12 #[] wx fun e w' => ∃ g, e = .returned (.slice (some ⟨g, 0, none⟩) 5 5) ∧ (∀ wy, Below w'.heap.size w' wy → ∀ j, j < 5 → wy.cell? ⟨g, j, none⟩ = some (.string (mayL.getD j ⟨#[]⟩))) ∧ Below wx.heap.size wx w') := fun wx => (RuS.may_any wx).mono fun e w' ⟨a, b, c, d⟩ => ⟨_, a, fun wy by_ j hj => (by_.cell (p := ⟨wx.heap.size, j, none⟩) c).trans (b j hj), d⟩
      have CO : Hid (∀ wx, Calls Tryd.prog 13 #[] wx fun e w' => ∃ g, e = .returned (.slice (some ⟨g, 0, none⟩) 3 3) ∧ (∀ wy, Below w'.heap.size w' wy → ∀ j, j < 3 → wy.cell? ⟨g, j, none⟩ = some (.string (onL.getD j ⟨#[]⟩))) ∧ Below wx.heap.size wx w') := fun wx => (RuS.on_any wx).mono fun e w' ⟨a, b, c, d⟩ => ⟨_, a, fun wy by_ j hj => (by_.cell (p := ⟨wx.heap.size, j, none⟩) c).trans (b j hj), d⟩
      rcases UP with rfl | ⟨rfl, rfl⟩
      · go_upto_region 14 with fail
        rename_i K0 aK0
        have J : ∀ (y18 y19 y20 y21 y22 y23 y24 y25 y26 y27 y28 y29 y30 y31 y32 y33 y34 y35 y36 y37 y38 y39 y40 y41 y42 y43 y44 y45 y46 y47 y48 y49 y50 y51 y52 y53 y54 y55 y56 y57 y58 y59 y60 y61 y62 y63 y64 y65 y66 y67 y68 y69 y70 y71 y72 y73 y74 y75 y76 y77 y78 y79 y80 y81 y82 y83 y84 y85 y86 y87 y88 y89 y90 y91 y92 y93 y94 y95 y96 y97 y98 y99 y100 y101 y102 y103 y104 y105 y106 y107 y108 y109 y110 y111 y112 y113 y114 y115 y116 y117 y118 : Value) (b : Nat) (wx : World), w3.heap.size ≤ b → Below w3.heap.size w3 wx → wx.heap[b]? = some (.cells (rrow ⟨bd, x1, place mayL x2.toList, place onL x3.toList, x4, false⟩) 33 (0, 0)) → K0 { tmps := List.toArray (.string t :: undef :: u2 :: u3 :: u4 :: .slice (some ⟨gl, 0, none⟩) L.length c :: .int .i64 k :: .string z :: .slice (some ⟨gw, 0, none⟩) 5 c3 :: .pointer (some ⟨b, 0, none⟩) :: u10 :: .slice (some ⟨w.heap.size, 0, none⟩) 0 0 :: .string t :: .int .i64 t.size :: .bool false :: undef :: .string t :: .slice (some ⟨gl, 0, none⟩) L.length c :: y18 :: y19 :: y20 :: y21 :: y22 :: y23 :: y24 :: y25 :: y26 :: y27 :: y28 :: y29 :: y30 :: y31 :: y32 :: y33 :: y34 :: y35 :: y36 :: y37 :: y38 :: y39 :: y40 :: y41 :: y42 :: y43 :: y44 :: y45 :: y46 :: y47 :: y48 :: y49 :: y50 :: y51 :: y52 :: y53 :: y54 :: y55 :: y56 :: y57 :: y58 :: y59 :: y60 :: y61 :: y62 :: y63 :: y64 :: y65 :: y66 :: y67 :: y68 :: y69 :: y70 :: y71 :: y72 :: y73 :: y74 :: y75 :: y76 :: y77 :: y78 :: y79 :: y80 :: y81 :: y82 :: y83 :: y84 :: y85 :: y86 :: y87 :: y88 :: y89 :: y90 :: y91 :: y92 :: y93 :: y94 :: y95 :: y96 :: y97 :: y98 :: y99 :: y100 :: y101 :: y102 :: y103 :: y104 :: y105 :: y106 :: y107 :: y108 :: y109 :: y110 :: y111 :: y112 :: y113 :: y114 :: y115 :: y116 :: y117 :: y118 :: undef :: []), defers := [] } wx := by
          intro y18 y19 y20 y21 y22 y23 y24 y25 y26 y27 y28 y29 y30 y31 y32 y33 y34 y35 y36 y37 y38 y39 y40 y41 y42 y43 y44 y45 y46 y47 y48 y49 y50 y51 y52 y53 y54 y55 y56 y57 y58 y59 y60 y61 y62 y63 y64 y65 y66 y67 y68 y69 y70 y71 y72 y73 y74 y75 y76 y77 y78 y79 y80 y81 y82 y83 y84 y85 y86 y87 y88 y89 y90 y91 y92 y93 y94 y95 y96 y97 y98 y99 y100 y101 y102 y103 y104 y105 y106 y107 y108 y109 y110 y111 y112 y113 y114 y115 y116 y117 y118 b wx hb bx hrow
          obtain ⟨_, _, _, _, k4⟩ := ST.out wx bx
          have q4 : wx.cell? ⟨b, 4, none⟩ = some (.string x4) := cell_of_row wx b 4 _ _ (0, 0) hrow
          have q5 : wx.cell? ⟨b, 5, none⟩ = some (.bool false) := cell_of_row wx b 5 _ _ (0, 0) hrow
          have f4 := frozen_of_row wx b 4 _ _ hrow
          have f5 := frozen_of_row wx b 5 _ _ hrow
          have HRW := Seg.hid hrow
          have BX := Seg.hid bx
          have HBB := Seg.hid hb
          have hblt : b < wx.heap.size := (Array.getElem?_eq_some_iff.1 hrow).1
          clear hrow bx ST CM CO
          have X4 : Hid (x4.size ≤ 1048576) := by show _ ≤ _; have := WL.out 4; have zs := ZS.out; rw [← T4.out, size_list] at this; omega
          have X1 : Hid (x1.size ≤ maxLen) := by
            show _ ≤ _
            have := WL.out 1
            have zs := ZS.out
            rw [T1.out]
            show (bsOf (wd ws 1)).size ≤ _
            have e := size_list (bsOf (wd ws 1))
            rw [bs_toList] at e
            unfold maxLen
            omega
          have MK : Hid (∀ n b', (if star (wd ws 4) = true then bsOf (wd ws 4).dropLast else bsOf (wd ws 4)) = n → star (wd ws 4) = b' → mk ws = ⟨bd, x1, place mayL x2.toList, place onL x3.toList, n, b'⟩) := fun n b' h1 h2 => mk_form DN.out T1.out T2.out T3.out h1 h2
          have E4 : Hid (bsOf (wd ws 4) = x4) := by
            show _ = _
            rw [← T4.out]
            apply ByteArray.ext
            rw [toList_data]
            simp [bsOf]
          refine aK0 _ _ ?_
          clear aK0
          have h40 : (0 : Int) ≤ (4 : Int) := by omega
          by_cases hz4 : x4.size = 0
          · have v1 : ¬ (0 : Int) < (x4.size : Int) := by omega
            have v2 : ¬ 0 < x4.size := by omega
            have SF : star (wd ws 4) = false := by unfold star; rw [← T4.out, size_list, hz4]; rfl
            obtain ⟨r, hr⟩ : ∃ r, r = mk ws := ⟨_, rfl⟩
            have RE : r = ⟨bd, x1, place mayL x2.toList, place onL x3.toList, x4, false⟩ := by rw [hr]; exact MK.out x4 false (by rw [if_neg (by rw [SF]; simp)]; exact E4.out) SF
            rw [← hr] at LM PS
            have WH : Hid (r.who.size ≤ maxLen) := by show _ ≤ _; rw [RE]; exact X1.out
            have NH : Hid (r.name.size ≤ maxLen) := by show _ ≤ _; rw [RE]; show x4.size ≤ _; have := X4.out; unfold maxLen; omega
            obtain ⟨wf, hwf⟩ : ∃ wf, wf = wx := ⟨_, rfl⟩
            have RF : wf.heap[b]? = some (.cells (rrow r) 33 (0, 0)) := by rw [hwf, RE]; exact HRW.out
            have BF : Below w3.heap.size w3 wf := by rw [hwf]; exact BX.out
            clear SF RE hr MK
            go_upto_region 19 with fail
            rw [← hwf]
            clear q4 q5 f4 f5 k4 HRW BX hblt hz4
            clear hwf
            have RF' := Seg.hid RF
            have BF' := Seg.hid BF
            clear RF BF
            obtain ⟨p0, p1, p2, p3, p4, p5⟩ := sixr RF'.out
            have nw : r.who.size ≤ maxLen := WH.out
            have nn : r.name.size ≤ maxLen := NH.out
            cases ho : okR r with
            | false =>
              have Z : Hid (lnOk z.toList k = false) := by show _ = _; rw [LM.out, ho]
              have CR : Hid (∀ wy, Calls Tryd.prog 14 #[.agg (rrow r)] wy fun e w' => e = .returned (.bool false) ∧ Below wy.heap.size wy w') := fun wy => by have := RuS.rule_any r wy nw nn; rw [ho] at this; exact this
              clear ho
              go_wp2_with (go_at_call 14; refine (CR.out _).mono ?_; rintro e w7 ⟨rfl, b7⟩; have B7 := Seg.hid b7; clear b7)
              go_ret2
              exact NOK.out _ _ _ Z.out (chain (chain (chain BK.out BF'.out) B7.out) (below1 _ _))
            | true =>
              have PT : Hid (parseF (L.drop (k + 1)) (k + 1) (us ++ [r]) = parse t) := by show _ = _; rw [← PS.out, if_pos (by rw [LM.out, ho])]
              have CR : Hid (∀ wy, Calls Tryd.prog 14 #[.agg (rrow r)] wy fun e w' => e = .returned (.bool true) ∧ Below wy.heap.size wy w') := fun wy => by have := RuS.rule_any r wy nw nn; rw [ho] at this; exact this
              clear ho
              have BW : Hid (∀ w7, Below wf.heap.size wf w7 → Below wr.heap.size wr w7) := fun w7 b7 => chain (chain B3.out BF'.out) b7
              have OW : Hid (∀ w7 o1, Below wf.heap.size wf w7 → RRow (w7.alloc o1) w.heap.size u4 us) := fun w7 o1 b7 => rkeep KR.out (fun x _ hx => (chain (BW.out w7 b7) (below1 w7 o1)).block x hx)
              have GW : Hid (∀ w7 o1 w9, Below wf.heap.size wf w7 → (w7.alloc o1).grownBy w9 u4.ownBlock → Below w.heap.size w w9 ∧ Txs w9 gl L) := fun w7 o1 w9 b7 h9 => by
                have bw := chain (BW.out w7 b7) (below1 w7 o1)
                refine ⟨(chain KB.out bw).grown h9 (Nat.le_trans KB.out.size bw.size) (fun x hx => ?_), TX.out.keep ?_⟩
                · rcases KR.out.2 with ⟨h1, _⟩ | ⟨g', cap, cur, h1, h2, _⟩
                  · rw [h1] at hx; cases hx
                  · rw [h1] at hx; cases hx; exact h2
                · refine (h9.block gl (Nat.lt_of_lt_of_le hgl bw.size) ?_).trans (bw.block gl hgl)
                  intro he
                  obtain ⟨cur', hc'⟩ := TX.out.row.resolve_left (by omega)
                  rcases KR.out.2 with ⟨h1, _⟩ | ⟨g', cap, cur, h1, h2, h3, _⟩
                  · rw [h1] at he; cases he
                  · rw [h1] at he
                    cases he
                    rw [hc'] at h3
                    cases h3
              have PU : Hid (rcells us ++ (rrow r).toList = rcells (us ++ [r]) ∧ us.length + 1 = (us ++ [r]).length) := ⟨(rcells_app us r).symm, by simp⟩
              have hwr : w.heap.size ≤ wr.heap.size := KB.out.size
              go_wp2_with (first | (go_at_call 14; refine (CR.out _).mono ?_; rintro e w7 ⟨rfl, b7⟩; have B7 := Seg.hid b7; obtain ⟨s0, s1, s2, s3, s4, s5⟩ := sixr ((b7.block _ (Array.getElem?_eq_some_iff.1 RF'.out).1).trans RF'.out); have hw7 : w.heap.size ≤ w7.heap.size := Nat.le_trans hwr (BW.out w7 b7).size; clear b7) | (at_builtin; (refine wpList_append_lies _ rfl _ _ 22 rfl w.heap.size 33 i0 _ 6 64 Tryd.underlying22 hi hz0 hz1 hz2 rfl (by decide) u4 us.length (rcells us) rfl (OW.out _ _ B7.out) ⟨w7.heap.size, 0, none⟩ 1 1 (rrow r).toList rfl rfl (World.news_of_block (cs := rrow r) (heap_alloc_new _ _)) (by simp [Value.oneCell']) (by decide) (by unfold maxLen; omega) (by omega) (by rw [hsz]; omega) (w7.heap.size + 1) (by rw [hsz]) ?_; intro g9 cap9 w9 hown9 gr9 hat9 hlt9; rw [PU.out.1, PU.out.2] at hown9; have D9 := Seg.hid hown9; have G9 := Seg.hid (GW.out _ _ _ B7.out gr9); clear hown9 gr9 hat9 hlt9)))
              go_roundw
              case rel => exact ⟨k + 1, us ++ [r], by omega, by simp; omega, by go_num, by rw [PU.out.2]; exact D9.out, G9.out.1, G9.out.2, PT.out⟩
              case measure => simp [intOf]; omega
          · obtain ⟨m, hm⟩ : ∃ m, x4.size = m + 1 := ⟨x4.size - 1, by omega⟩
            have x4b : m < 1048576 := by have := X4.out; omega
            have v1 : (0 : Int) < (x4.size : Int) := by omega
            have v2 : 0 < x4.size := by omega
            have w1 : IntKind.i64.wrap ((x4.size : Int) - 1) = (m : Int) := by rw [IntKind.wrap_i64] <;> omega
            have w2 : (0 : Int) ≤ (m : Int) := by omega
            have w3' : (m : Int) < (x4.size : Int) := by omega
            have w4 : m < x4.size := by omega
            have w5 : (m : Int) ≤ (x4.size : Int) := by omega
            have LS := last_of hm
            have DLS := Seg.hid (drop_last hm)
            by_cases h42 : x4[m] = 42
            · have b1 : ((x4[m].toNat : Int) == 42) = true := by rw [h42]; rfl
              have SF : star (wd ws 4) = true := by unfold star; rw [← T4.out, size_list, LS, h42]; simp [v2]
              obtain ⟨r, hr⟩ : ∃ r, r = mk ws := ⟨_, rfl⟩
              have RE : r = ⟨bd, x1, place mayL x2.toList, place onL x3.toList, x4.extract 0 m, true⟩ := by
                rw [hr]
                refine MK.out (x4.extract 0 m) true ?_ SF
                rw [if_pos SF, ← T4.out, ← DLS.out]
                exact bs_of _
              rw [← hr] at LM PS
              have WH : Hid (r.who.size ≤ maxLen) := by show _ ≤ _; rw [RE]; exact X1.out
              have NH : Hid (r.name.size ≤ maxLen) := by
                show _ ≤ _
                rw [RE]
                show (x4.extract 0 m).size ≤ _
                have e := size_list (x4.extract 0 m)
                rw [DLS.out, List.length_dropLast, size_list] at e
                unfold maxLen
                omega
              have RF0 : ((wx.setCell ⟨b, 5, none⟩ (.bool true)).setCell ⟨b, 4, none⟩ (.string (x4.extract 0 m))).heap[b]? = some (.cells (rrow r) 33 (0, 0)) := by
                rw [RE]
                exact heap_setCell_same _ b 4 _ _ _ (heap_setCell_same wx b 5 _ _ _ HRW.out)
              have BF0 : Below w3.heap.size w3 ((wx.setCell ⟨b, 5, none⟩ (.bool true)).setCell ⟨b, 4, none⟩ (.string (x4.extract 0 m))) := (BX.out.setCell hb _).setCell hb _
              have RFh := Seg.hid RF0
              have BFh := Seg.hid BF0
              clear SF RE hr MK LS h42 RF0 BF0 hm hz4
              go_upto_region 19 with fail
              obtain ⟨wf, hwf⟩ : ∃ wf, (wx.setCell ⟨b, 5, none⟩ (.bool true)).setCell ⟨b, 4, none⟩ (.string (x4.extract 0 m)) = wf := ⟨_, rfl⟩
              rw [hwf] at RFh BFh ⊢
              have RF := RFh.out
              have BF := BFh.out
              clear q4 q5 f4 f5 k4 HRW BX hblt RFh BFh
              clear hwf
              have RF' := Seg.hid RF
              have BF' := Seg.hid BF
              clear RF BF
              obtain ⟨p0, p1, p2, p3, p4, p5⟩ := sixr RF'.out
              have nw : r.who.size ≤ maxLen := WH.out
              have nn : r.name.size ≤ maxLen := NH.out
              cases ho : okR r with
              | false =>
                have Z : Hid (lnOk z.toList k = false) := by show _ = _; rw [LM.out, ho]
                have CR : Hid (∀ wy, Calls Tryd.prog 14 #[.agg (rrow r)] wy fun e w' => e = .returned (.bool false) ∧ Below wy.heap.size wy w') := fun wy => by have := RuS.rule_any r wy nw nn; rw [ho] at this; exact this
                clear ho
                go_wp2_with (go_at_call 14; refine (CR.out _).mono ?_; rintro e w7 ⟨rfl, b7⟩; have B7 := Seg.hid b7; clear b7)
                go_ret2
                exact NOK.out _ _ _ Z.out (chain (chain (chain BK.out BF'.out) B7.out) (below1 _ _))
              | true =>
                have PT : Hid (parseF (L.drop (k + 1)) (k + 1) (us ++ [r]) = parse t) := by show _ = _; rw [← PS.out, if_pos (by rw [LM.out, ho])]
                have CR : Hid (∀ wy, Calls Tryd.prog 14 #[.agg (rrow r)] wy fun e w' => e = .returned (.bool true) ∧ Below wy.heap.size wy w') := fun wy => by have := RuS.rule_any r wy nw nn; rw [ho] at this; exact this
                clear ho
                have BW : Hid (∀ w7, Below wf.heap.size wf w7 → Below wr.heap.size wr w7) := fun w7 b7 => chain (chain B3.out BF'.out) b7
                have OW : Hid (∀ w7 o1, Below wf.heap.size wf w7 → RRow (w7.alloc o1) w.heap.size u4 us) := fun w7 o1 b7 => rkeep KR.out (fun x _ hx => (chain (BW.out w7 b7) (below1 w7 o1)).block x hx)
                have GW : Hid (∀ w7 o1 w9, Below wf.heap.size wf w7 → (w7.alloc o1).grownBy w9 u4.ownBlock → Below w.heap.size w w9 ∧ Txs w9 gl L) := fun w7 o1 w9 b7 h9 => by
                  have bw := chain (BW.out w7 b7) (below1 w7 o1)
                  refine ⟨(chain KB.out bw).grown h9 (Nat.le_trans KB.out.size bw.size) (fun x hx => ?_), TX.out.keep ?_⟩
                  · rcases KR.out.2 with ⟨h1, _⟩ | ⟨g', cap, cur, h1, h2, _⟩
                    · rw [h1] at hx; cases hx
                    · rw [h1] at hx; cases hx; exact h2
                  · refine (h9.block gl (Nat.lt_of_lt_of_le hgl bw.size) ?_).trans (bw.block gl hgl)
                    intro he
                    obtain ⟨cur', hc'⟩ := TX.out.row.resolve_left (by omega)
                    rcases KR.out.2 with ⟨h1, _⟩ | ⟨g', cap, cur, h1, h2, h3, _⟩
                    · rw [h1] at he; cases he
                    · rw [h1] at he
                      cases he
                      rw [hc'] at h3
                      cases h3
                have PU : Hid (rcells us ++ (rrow r).toList = rcells (us ++ [r]) ∧ us.length + 1 = (us ++ [r]).length) := ⟨(rcells_app us r).symm, by simp⟩
                have hwr : w.heap.size ≤ wr.heap.size := KB.out.size
                go_wp2_with (first | (go_at_call 14; refine (CR.out _).mono ?_; rintro e w7 ⟨rfl, b7⟩; have B7 := Seg.hid b7; obtain ⟨s0, s1, s2, s3, s4, s5⟩ := sixr ((b7.block _ (Array.getElem?_eq_some_iff.1 RF'.out).1).trans RF'.out); have hw7 : w.heap.size ≤ w7.heap.size := Nat.le_trans hwr (BW.out w7 b7).size; clear b7) | (at_builtin; (refine wpList_append_lies _ rfl _ _ 22 rfl w.heap.size 33 i0 _ 6 64 Tryd.underlying22 hi hz0 hz1 hz2 rfl (by decide) u4 us.length (rcells us) rfl (OW.out _ _ B7.out) ⟨w7.heap.size, 0, none⟩ 1 1 (rrow r).toList rfl rfl (World.news_of_block (cs := rrow r) (heap_alloc_new _ _)) (by simp [Value.oneCell']) (by decide) (by unfold maxLen; omega) (by omega) (by rw [hsz]; omega) (w7.heap.size + 1) (by rw [hsz]) ?_; intro g9 cap9 w9 hown9 gr9 hat9 hlt9; rw [PU.out.1, PU.out.2] at hown9; have D9 := Seg.hid hown9; have G9 := Seg.hid (GW.out _ _ _ B7.out gr9); clear hown9 gr9 hat9 hlt9)))
                go_roundw
                case rel => exact ⟨k + 1, us ++ [r], by omega, by simp; omega, by go_num, by rw [PU.out.2]; exact D9.out, G9.out.1, G9.out.2, PT.out⟩
                case measure => simp [intOf]; omega
            · have b0 : ¬ (x4[m].toNat : Int) = 42 := fun h => h42 (by apply UInt8.toNat_inj.1; have : (42 : UInt8).toNat = 42 := rfl; omega)
              have b1 : ((x4[m].toNat : Int) == 42) = false := by simp only [beq_eq_false_iff_ne]; exact b0
              have SF : star (wd ws 4) = false := by unfold star; rw [← T4.out, size_list, LS]; simp [h42]
              obtain ⟨r, hr⟩ : ∃ r, r = mk ws := ⟨_, rfl⟩
              have RE : r = ⟨bd, x1, place mayL x2.toList, place onL x3.toList, x4, false⟩ := by rw [hr]; exact MK.out x4 false (by rw [if_neg (by rw [SF]; simp)]; exact E4.out) SF
              rw [← hr] at LM PS
              have WH : Hid (r.who.size ≤ maxLen) := by show _ ≤ _; rw [RE]; exact X1.out
              have NH : Hid (r.name.size ≤ maxLen) := by show _ ≤ _; rw [RE]; show x4.size ≤ _; have := X4.out; unfold maxLen; omega
              obtain ⟨wf, hwf⟩ : ∃ wf, wf = wx := ⟨_, rfl⟩
              have RF : wf.heap[b]? = some (.cells (rrow r) 33 (0, 0)) := by rw [hwf, RE]; exact HRW.out
              have BF : Below w3.heap.size w3 wf := by rw [hwf]; exact BX.out
              clear SF RE hr MK LS h42 b0 hm hz4
              go_upto_region 19 with fail
              rw [← hwf]
              clear q4 q5 f4 f5 k4 HRW BX hblt
              clear hwf
              have RF' := Seg.hid RF
              have BF' := Seg.hid BF
              clear RF BF
              obtain ⟨p0, p1, p2, p3, p4, p5⟩ := sixr RF'.out
              have nw : r.who.size ≤ maxLen := WH.out
              have nn : r.name.size ≤ maxLen := NH.out
              cases ho : okR r with
              | false =>
                have Z : Hid (lnOk z.toList k = false) := by show _ = _; rw [LM.out, ho]
                have CR : Hid (∀ wy, Calls Tryd.prog 14 #[.agg (rrow r)] wy fun e w' => e = .returned (.bool false) ∧ Below wy.heap.size wy w') := fun wy => by have := RuS.rule_any r wy nw nn; rw [ho] at this; exact this
                clear ho
                go_wp2_with (go_at_call 14; refine (CR.out _).mono ?_; rintro e w7 ⟨rfl, b7⟩; have B7 := Seg.hid b7; clear b7)
                go_ret2
                exact NOK.out _ _ _ Z.out (chain (chain (chain BK.out BF'.out) B7.out) (below1 _ _))
              | true =>
                have PT : Hid (parseF (L.drop (k + 1)) (k + 1) (us ++ [r]) = parse t) := by show _ = _; rw [← PS.out, if_pos (by rw [LM.out, ho])]
                have CR : Hid (∀ wy, Calls Tryd.prog 14 #[.agg (rrow r)] wy fun e w' => e = .returned (.bool true) ∧ Below wy.heap.size wy w') := fun wy => by have := RuS.rule_any r wy nw nn; rw [ho] at this; exact this
                clear ho
                have BW : Hid (∀ w7, Below wf.heap.size wf w7 → Below wr.heap.size wr w7) := fun w7 b7 => chain (chain B3.out BF'.out) b7
                have OW : Hid (∀ w7 o1, Below wf.heap.size wf w7 → RRow (w7.alloc o1) w.heap.size u4 us) := fun w7 o1 b7 => rkeep KR.out (fun x _ hx => (chain (BW.out w7 b7) (below1 w7 o1)).block x hx)
                have GW : Hid (∀ w7 o1 w9, Below wf.heap.size wf w7 → (w7.alloc o1).grownBy w9 u4.ownBlock → Below w.heap.size w w9 ∧ Txs w9 gl L) := fun w7 o1 w9 b7 h9 => by
                  have bw := chain (BW.out w7 b7) (below1 w7 o1)
                  refine ⟨(chain KB.out bw).grown h9 (Nat.le_trans KB.out.size bw.size) (fun x hx => ?_), TX.out.keep ?_⟩
                  · rcases KR.out.2 with ⟨h1, _⟩ | ⟨g', cap, cur, h1, h2, _⟩
                    · rw [h1] at hx; cases hx
                    · rw [h1] at hx; cases hx; exact h2
                  · refine (h9.block gl (Nat.lt_of_lt_of_le hgl bw.size) ?_).trans (bw.block gl hgl)
                    intro he
                    obtain ⟨cur', hc'⟩ := TX.out.row.resolve_left (by omega)
                    rcases KR.out.2 with ⟨h1, _⟩ | ⟨g', cap, cur, h1, h2, h3, _⟩
                    · rw [h1] at he; cases he
                    · rw [h1] at he
                      cases he
                      rw [hc'] at h3
                      cases h3
                have PU : Hid (rcells us ++ (rrow r).toList = rcells (us ++ [r]) ∧ us.length + 1 = (us ++ [r]).length) := ⟨(rcells_app us r).symm, by simp⟩
                have hwr : w.heap.size ≤ wr.heap.size := KB.out.size
                go_wp2_with (first | (go_at_call 14; refine (CR.out _).mono ?_; rintro e w7 ⟨rfl, b7⟩; have B7 := Seg.hid b7; obtain ⟨s0, s1, s2, s3, s4, s5⟩ := sixr ((b7.block _ (Array.getElem?_eq_some_iff.1 RF'.out).1).trans RF'.out); have hw7 : w.heap.size ≤ w7.heap.size := Nat.le_trans hwr (BW.out w7 b7).size; clear b7) | (at_builtin; (refine wpList_append_lies _ rfl _ _ 22 rfl w.heap.size 33 i0 _ 6 64 Tryd.underlying22 hi hz0 hz1 hz2 rfl (by decide) u4 us.length (rcells us) rfl (OW.out _ _ B7.out) ⟨w7.heap.size, 0, none⟩ 1 1 (rrow r).toList rfl rfl (World.news_of_block (cs := rrow r) (heap_alloc_new _ _)) (by simp [Value.oneCell']) (by decide) (by unfold maxLen; omega) (by omega) (by rw [hsz]; omega) (w7.heap.size + 1) (by rw [hsz]) ?_; intro g9 cap9 w9 hown9 gr9 hat9 hlt9; rw [PU.out.1, PU.out.2] at hown9; have D9 := Seg.hid hown9; have G9 := Seg.hid (GW.out _ _ _ B7.out gr9); clear hown9 gr9 hat9 hlt9)))
                go_roundw
                case rel => exact ⟨k + 1, us ++ [r], by omega, by simp; omega, by go_num, by rw [PU.out.2]; exact D9.out, G9.out.1, G9.out.2, PT.out⟩
                case measure => simp [intOf]; omega
        clear aK0
        refine wp_region_held_drew (S := (fun w' => w'.cell? ⟨gw, 0, none⟩ = some (.string x0) ∧ w'.cell? ⟨gw, 1, none⟩ = some (.string x1) ∧ w'.cell? ⟨gw, 2, none⟩ = some (.string x2) ∧ w'.cell? ⟨gw, 3, none⟩ = some (.string x3) ∧ w'.cell? ⟨gw, 4, none⟩ = some (.string x4))) (by kernel_rfl) (ST.out _ (Below.refl _ _).drew) (fun hHeld => ?_)
        have B0 : Hid (Below w3.heap.size w3 w3.drew) := (Below.refl _ _).drew
        refine HdK.tke 0 (some 65) (.slice (some ⟨gw, 0, none⟩) 5 c3) rfl rfl ?_
        try simp only [Act.put, List.setIfInBounds_toArray, List.set_cons_zero, List.set_cons_succ]
        refine HdK.tke 1 (some 66) (.pointer (some ⟨gw, 0, none⟩)) rfl rfl ?_
        try simp only [Act.put, List.setIfInBounds_toArray, List.set_cons_zero, List.set_cons_succ]
        refine HdK.tke 2 (some 67) (.string x0) rfl rfl ?_
        try simp only [Act.put, List.setIfInBounds_toArray, List.set_cons_zero, List.set_cons_succ]
        refine HdK.tke 3 (some 68) (.bool bd) rfl rfl ?_
        try simp only [Act.put, List.setIfInBounds_toArray, List.set_cons_zero, List.set_cons_succ]
        refine HdK.tke 4 (some 69) (.slice (some ⟨gw, 0, none⟩) 5 c3) rfl rfl ?_
        try simp only [Act.put, List.setIfInBounds_toArray, List.set_cons_zero, List.set_cons_succ]
        refine HdK.tke 5 (some 70) (.pointer (some ⟨gw, 1, none⟩)) rfl rfl ?_
        try simp only [Act.put, List.setIfInBounds_toArray, List.set_cons_zero, List.set_cons_succ]
        refine HdK.tke 6 (some 71) (.string x1) rfl rfl ?_
        try simp only [Act.put, List.setIfInBounds_toArray, List.set_cons_zero, List.set_cons_succ]
        refine HdK.tke 8 (some 73) (.slice (some ⟨gw, 0, none⟩) 5 c3) rfl rfl ?_
        try simp only [Act.put, List.setIfInBounds_toArray, List.set_cons_zero, List.set_cons_succ]
        refine HdK.tke 9 (some 74) (.pointer (some ⟨gw, 2, none⟩)) rfl rfl ?_
        try simp only [Act.put, List.setIfInBounds_toArray, List.set_cons_zero, List.set_cons_succ]
        refine HdK.tke 10 (some 75) (.string x2) rfl rfl ?_
        try simp only [Act.put, List.setIfInBounds_toArray, List.set_cons_zero, List.set_cons_succ]
        refine HdK.tke 13 (some 78) (.slice (some ⟨gw, 0, none⟩) 5 c3) rfl rfl ?_
        try simp only [Act.put, List.setIfInBounds_toArray, List.set_cons_zero, List.set_cons_succ]
        refine HdK.tke 14 (some 79) (.pointer (some ⟨gw, 3, none⟩)) rfl rfl ?_
        try simp only [Act.put, List.setIfInBounds_toArray, List.set_cons_zero, List.set_cons_succ]
        refine HdK.tke 15 (some 80) (.string x3) rfl rfl ?_
        try simp only [Act.put, List.setIfInBounds_toArray, List.set_cons_zero, List.set_cons_succ]
        refine HdK.tke 17 (some 82) (.slice (some ⟨gw, 0, none⟩) 5 c3) rfl rfl ?_
        try simp only [Act.put, List.setIfInBounds_toArray, List.set_cons_zero, List.set_cons_succ]
        refine HdK.tke 18 (some 83) (.pointer (some ⟨gw, 4, none⟩)) rfl rfl ?_
        try simp only [Act.put, List.setIfInBounds_toArray, List.set_cons_zero, List.set_cons_succ]
        refine HdK.tke 19 (some 84) (.string x4) rfl rfl ?_
        try simp only [Act.put, List.setIfInBounds_toArray, List.set_cons_zero, List.set_cons_succ]
        refine wpAnyH_ready (rs := [7, 21]) (by kernel_rfl) (by simp) ?_
        refine AllReadyH.cons (o := { dst := some 72, op := Op.call { callee := Callee.value (Operand.func 12), args := #[], argTypes := #[] }, type := 28, pos := "l11_access.go:97", after := #[], guard := none }) rfl (fun K hK => ?_) (AllReadyH.cons (o := { dst := some 9, op := Op.alloc 33, type := 0, pos := "l11_access.go:97", after := #[], guard := none }) rfl (fun K hK => ?_) AllReadyH.nil)
        · (go_simp; go_at_call 12; refine (CM.out _).mono ?_; rintro e wm ⟨gm, rfl, xx, bb⟩; have XM := Seg.hid xx; have Bwm : Hid (Below w3.heap.size w3 wm) := chain B0.out ⟨bb.os, bb.tape, bb.output, bb.size, bb.block⟩; clear xx bb; try (go_wp2_with fail))
          refine hK.out _ _ (ST.out _ Bwm.out) (fun hHeld => ?_)
          clear hK K
          try simp only [Act.put, List.setIfInBounds_toArray, List.set_cons_zero, List.set_cons_succ]
          refine wpAnyH_ready (rs := [11, 21]) (by kernel_rfl) (by simp) ?_
          refine AllReadyH.cons (o := { dst := some 76, op := Op.call { callee := Callee.value (Operand.func 11), args := #[Operand.tmp 72, Operand.tmp 75], argTypes := #[28, 9] }, type := 3, pos := "l11_access.go:97", after := #[{ on := 7, ground := Ground.data }, { on := 10, ground := Ground.data }, { on := 7, ground := Ground.chain }], guard := none }) rfl (fun K hK => ?_) (AllReadyH.cons (o := { dst := some 9, op := Op.alloc 33, type := 0, pos := "l11_access.go:97", after := #[], guard := none }) rfl (fun K hK => ?_) AllReadyH.nil)
          · (go_simp; go_at_call 11; refine (place_any gm 5 mayL x2 _ rfl (by omega) (by omega) (fun j hj => XM.out _ (by first | exact Below.refl _ _ | exact below1 _ _ | exact ⟨rfl, rfl, rfl, Nat.le_refl _, fun _ _ => rfl⟩) j hj)).mono ?_; rintro e wq ⟨rfl, rfl⟩; try (go_wp2_with fail))
            refine hK.out _ _ (ST.out _ Bwm.out) (fun hHeld => ?_)
            clear hK K
            try simp only [Act.put, List.setIfInBounds_toArray, List.set_cons_zero, List.set_cons_succ]
            refine wpAnyH_ready (rs := [12, 21]) (by kernel_rfl) (by simp) ?_
            refine AllReadyH.cons (o := { dst := some 77, op := Op.call { callee := Callee.value (Operand.func 13), args := #[], argTypes := #[] }, type := 28, pos := "l11_access.go:97", after := #[{ on := 11, ground := Ground.chain }], guard := none }) rfl (fun K hK => ?_) (AllReadyH.cons (o := { dst := some 9, op := Op.alloc 33, type := 0, pos := "l11_access.go:97", after := #[], guard := none }) rfl (fun K hK => ?_) AllReadyH.nil)
            · (go_simp; go_at_call 13; refine (CO.out _).mono ?_; rintro e wo ⟨go, rfl, xx, bb⟩; have XO := Seg.hid xx; have Bwo : Hid (Below w3.heap.size w3 wo) := chain Bwm.out ⟨bb.os, bb.tape, bb.output, bb.size, bb.block⟩; clear xx bb; try (go_wp2_with fail))
              refine hK.out _ _ (ST.out _ Bwo.out) (fun hHeld => ?_)
              clear hK K
              try simp only [Act.put, List.setIfInBounds_toArray, List.set_cons_zero, List.set_cons_succ]
              refine wpAnyH_ready (rs := [16, 21]) (by kernel_rfl) (by simp) ?_
              refine AllReadyH.cons (o := { dst := some 81, op := Op.call { callee := Callee.value (Operand.func 11), args := #[Operand.tmp 77, Operand.tmp 80], argTypes := #[28, 9] }, type := 3, pos := "l11_access.go:97", after := #[{ on := 12, ground := Ground.data }, { on := 15, ground := Ground.data }, { on := 12, ground := Ground.chain }], guard := none }) rfl (fun K hK => ?_) (AllReadyH.cons (o := { dst := some 9, op := Op.alloc 33, type := 0, pos := "l11_access.go:97", after := #[], guard := none }) rfl (fun K hK => ?_) AllReadyH.nil)
              · (go_simp; go_at_call 11; refine (place_any go 3 onL x3 _ rfl (by omega) (by omega) (fun j hj => XO.out _ (by first | exact Below.refl _ _ | exact below1 _ _ | exact ⟨rfl, rfl, rfl, Nat.le_refl _, fun _ _ => rfl⟩) j hj)).mono ?_; rintro e wq ⟨rfl, rfl⟩; try (go_wp2_with fail))
                refine hK.out _ _ (ST.out _ Bwo.out) (fun hHeld => ?_)
                clear hK K
                try simp only [Act.put, List.setIfInBounds_toArray, List.set_cons_zero, List.set_cons_succ]
                refine HdK.tke 20 (some 85) (.agg (rrow ⟨bd, x1, place mayL x2.toList, place onL x3.toList, x4, false⟩)) rfl rfl ?_
                try simp only [Act.put, List.setIfInBounds_toArray, List.set_cons_zero, List.set_cons_succ]
                refine wpAnyH_ready (rs := [21]) (by kernel_rfl) (by simp) ?_
                refine AllReadyH.cons (o := { dst := some 9, op := Op.alloc 33, type := 0, pos := "l11_access.go:97", after := #[], guard := none }) rfl (fun K hK => ?_) AllReadyH.nil
                have BA : Hid (Below w3.heap.size w3 (wo.alloc (.cells zrule 33 (0, 0)))) := chain Bwo.out (below1 wo _)
                have KA : Hid ((wo.alloc (.cells zrule 33 (0, 0))).heap[wo.heap.size]? = some (.cells zrule 33 (0, 0))) := heap_alloc_new _ _
                have LB : Hid (w3.heap.size ≤ wo.heap.size) := by show _ ≤ _; first | exact Nat.le_refl _ | exact Bwo.out.size
                (go_simp; try (go_wp2_with fail))
                refine hK.out _ _ (ST.out _ BA.out) (fun hHeld => ?_)
                clear hK K
                try simp only [Act.put, List.setIfInBounds_toArray, List.set_cons_zero, List.set_cons_succ]
                refine wpAnyH_ready (rs := [22]) (by kernel_rfl) (by simp) ?_
                refine AllReadyH.cons (o := { dst := none, op := Op.store 33 (Operand.tmp 9) (Operand.tmp 85), type := 0, pos := "l11_access.go:97", after := #[{ on := 21, ground := Ground.data }, { on := 20, ground := Ground.data }, { on := 16, ground := Ground.chain }, { on := 0, ground := Ground.phase }, { on := 1, ground := Ground.phase }, { on := 2, ground := Ground.phase }, { on := 3, ground := Ground.phase }, { on := 4, ground := Ground.phase }, { on := 5, ground := Ground.phase }, { on := 6, ground := Ground.phase }, { on := 7, ground := Ground.phase }, { on := 8, ground := Ground.phase }, { on := 9, ground := Ground.phase }, { on := 10, ground := Ground.phase }, { on := 11, ground := Ground.phase }, { on := 12, ground := Ground.phase }, { on := 13, ground := Ground.phase }, { on := 14, ground := Ground.phase }, { on := 15, ground := Ground.phase }, { on := 16, ground := Ground.phase }, { on := 17, ground := Ground.phase }, { on := 18, ground := Ground.phase }, { on := 19, ground := Ground.phase }, { on := 20, ground := Ground.phase }, { on := 21, ground := Ground.phase }], guard := none }) rfl (fun K hK => ?_) AllReadyH.nil
                refine HdK.step_store_mid rfl 33 _ _ rfl wo.heap.size 0 (rrow ⟨bd, x1, place mayL x2.toList, place onL x3.toList, x4, false⟩) rfl rfl (Cells.there_of (cs := zrule) KA.out) infoRul (by simp [rrow, Value.oneCell']) ?_
                have BS := Seg.hid (Cells.below_setCells (B := w3.heap.size) (g := wo.heap.size) (by first | exact Nat.le_refl _ | exact BA.out.size | exact LB.out) (rrow ⟨bd, x1, place mayL x2.toList, place onL x3.toList, x4, false⟩).toList 0 w3 _ BA.out)
                refine hK.out _ _ (ST.out _ BS.out) (fun hHeld => ?_)
                clear hK K
                refine wpAnyH_done (by kernel_rfl) ?_ _
                exact J _ _ _ _ _ _ _ _ _ _ _ _ _ _ _ _ _ _ _ _ _ _ _ _ _ _ _ _ _ _ _ _ _ _ _ _ _ _ _ _ _ _ _ _ _ _ _ _ _ _ _ _ _ _ _ _ _ _ _ _ _ _ _ _ _ _ _ _ _ _ _ _ _ _ _ _ _ _ _ _ _ _ _ _ _ _ _ _ _ _ _ _ _ _ _ _ _ _ _ _ _ wo.heap.size _ (by first | exact Nat.le_refl _ | exact BA.out.size | exact LB.out) BS.out (Cells.whole (cs := zrule) (vs := rrow ⟨bd, x1, place mayL x2.toList, place onL x3.toList, x4, false⟩) KA.out rfl)
              · have BA : Hid (Below w3.heap.size w3 (wo.alloc (.cells zrule 33 (0, 0)))) := chain Bwo.out (below1 wo _)
                have KA : Hid ((wo.alloc (.cells zrule 33 (0, 0))).heap[wo.heap.size]? = some (.cells zrule 33 (0, 0))) := heap_alloc_new _ _
                have LB : Hid (w3.heap.size ≤ wo.heap.size) := by show _ ≤ _; first | exact Nat.le_refl _ | exact Bwo.out.size
                (go_simp; try (go_wp2_with fail))
                refine hK.out _ _ (ST.out _ BA.out) (fun hHeld => ?_)
                clear hK K
                try simp only [Act.put, List.setIfInBounds_toArray, List.set_cons_zero, List.set_cons_succ]
                refine wpAnyH_ready (rs := [16]) (by kernel_rfl) (by simp) ?_
                refine AllReadyH.cons (o := { dst := some 81, op := Op.call { callee := Callee.value (Operand.func 11), args := #[Operand.tmp 77, Operand.tmp 80], argTypes := #[28, 9] }, type := 3, pos := "l11_access.go:97", after := #[{ on := 12, ground := Ground.data }, { on := 15, ground := Ground.data }, { on := 12, ground := Ground.chain }], guard := none }) rfl (fun K hK => ?_) AllReadyH.nil
                (go_simp; go_at_call 11; refine (place_any go 3 onL x3 _ rfl (by omega) (by omega) (fun j hj => XO.out _ (by first | exact Below.refl _ _ | exact below1 _ _ | exact ⟨rfl, rfl, rfl, Nat.le_refl _, fun _ _ => rfl⟩) j hj)).mono ?_; rintro e wq ⟨rfl, rfl⟩; try (go_wp2_with fail))
                refine hK.out _ _ (ST.out _ BA.out) (fun hHeld => ?_)
                clear hK K
                try simp only [Act.put, List.setIfInBounds_toArray, List.set_cons_zero, List.set_cons_succ]
                refine HdK.tke 20 (some 85) (.agg (rrow ⟨bd, x1, place mayL x2.toList, place onL x3.toList, x4, false⟩)) rfl rfl ?_
                try simp only [Act.put, List.setIfInBounds_toArray, List.set_cons_zero, List.set_cons_succ]
                refine wpAnyH_ready (rs := [22]) (by kernel_rfl) (by simp) ?_
                refine AllReadyH.cons (o := { dst := none, op := Op.store 33 (Operand.tmp 9) (Operand.tmp 85), type := 0, pos := "l11_access.go:97", after := #[{ on := 21, ground := Ground.data }, { on := 20, ground := Ground.data }, { on := 16, ground := Ground.chain }, { on := 0, ground := Ground.phase }, { on := 1, ground := Ground.phase }, { on := 2, ground := Ground.phase }, { on := 3, ground := Ground.phase }, { on := 4, ground := Ground.phase }, { on := 5, ground := Ground.phase }, { on := 6, ground := Ground.phase }, { on := 7, ground := Ground.phase }, { on := 8, ground := Ground.phase }, { on := 9, ground := Ground.phase }, { on := 10, ground := Ground.phase }, { on := 11, ground := Ground.phase }, { on := 12, ground := Ground.phase }, { on := 13, ground := Ground.phase }, { on := 14, ground := Ground.phase }, { on := 15, ground := Ground.phase }, { on := 16, ground := Ground.phase }, { on := 17, ground := Ground.phase }, { on := 18, ground := Ground.phase }, { on := 19, ground := Ground.phase }, { on := 20, ground := Ground.phase }, { on := 21, ground := Ground.phase }], guard := none }) rfl (fun K hK => ?_) AllReadyH.nil
                refine HdK.step_store_mid rfl 33 _ _ rfl wo.heap.size 0 (rrow ⟨bd, x1, place mayL x2.toList, place onL x3.toList, x4, false⟩) rfl rfl (Cells.there_of (cs := zrule) KA.out) infoRul (by simp [rrow, Value.oneCell']) ?_
                have BS := Seg.hid (Cells.below_setCells (B := w3.heap.size) (g := wo.heap.size) (by first | exact Nat.le_refl _ | exact BA.out.size | exact LB.out) (rrow ⟨bd, x1, place mayL x2.toList, place onL x3.toList, x4, false⟩).toList 0 w3 _ BA.out)
                refine hK.out _ _ (ST.out _ BS.out) (fun hHeld => ?_)
                clear hK K
                refine wpAnyH_done (by kernel_rfl) ?_ _
                exact J _ _ _ _ _ _ _ _ _ _ _ _ _ _ _ _ _ _ _ _ _ _ _ _ _ _ _ _ _ _ _ _ _ _ _ _ _ _ _ _ _ _ _ _ _ _ _ _ _ _ _ _ _ _ _ _ _ _ _ _ _ _ _ _ _ _ _ _ _ _ _ _ _ _ _ _ _ _ _ _ _ _ _ _ _ _ _ _ _ _ _ _ _ _ _ _ _ _ _ _ _ wo.heap.size _ (by first | exact Nat.le_refl _ | exact BA.out.size | exact LB.out) BS.out (Cells.whole (cs := zrule) (vs := rrow ⟨bd, x1, place mayL x2.toList, place onL x3.toList, x4, false⟩) KA.out rfl)
            · have BA : Hid (Below w3.heap.size w3 (wm.alloc (.cells zrule 33 (0, 0)))) := chain Bwm.out (below1 wm _)
              have KA : Hid ((wm.alloc (.cells zrule 33 (0, 0))).heap[wm.heap.size]? = some (.cells zrule 33 (0, 0))) := heap_alloc_new _ _
              have LB : Hid (w3.heap.size ≤ wm.heap.size) := by show _ ≤ _; first | exact Nat.le_refl _ | exact Bwm.out.size
              (go_simp; try (go_wp2_with fail))
              refine hK.out _ _ (ST.out _ BA.out) (fun hHeld => ?_)
              clear hK K
              try simp only [Act.put, List.setIfInBounds_toArray, List.set_cons_zero, List.set_cons_succ]
              refine wpAnyH_ready (rs := [12]) (by kernel_rfl) (by simp) ?_
              refine AllReadyH.cons (o := { dst := some 77, op := Op.call { callee := Callee.value (Operand.func 13), args := #[], argTypes := #[] }, type := 28, pos := "l11_access.go:97", after := #[{ on := 11, ground := Ground.chain }], guard := none }) rfl (fun K hK => ?_) AllReadyH.nil
              (go_simp; go_at_call 13; refine (CO.out _).mono ?_; rintro e wo ⟨go, rfl, xx, bb⟩; have XO := Seg.hid xx; have Bwoa : Hid (Below w3.heap.size w3 wo) := chain BA.out ⟨bb.os, bb.tape, bb.output, bb.size, bb.block⟩; have Kwo : Hid (wo.heap[wm.heap.size]? = some (.cells zrule 33 (0, 0))) := (bb.block _ (Array.getElem?_eq_some_iff.1 KA.out).1).trans KA.out; clear xx bb; try (go_wp2_with fail))
              refine hK.out _ _ (ST.out _ Bwoa.out) (fun hHeld => ?_)
              clear hK K
              try simp only [Act.put, List.setIfInBounds_toArray, List.set_cons_zero, List.set_cons_succ]
              refine wpAnyH_ready (rs := [16]) (by kernel_rfl) (by simp) ?_
              refine AllReadyH.cons (o := { dst := some 81, op := Op.call { callee := Callee.value (Operand.func 11), args := #[Operand.tmp 77, Operand.tmp 80], argTypes := #[28, 9] }, type := 3, pos := "l11_access.go:97", after := #[{ on := 12, ground := Ground.data }, { on := 15, ground := Ground.data }, { on := 12, ground := Ground.chain }], guard := none }) rfl (fun K hK => ?_) AllReadyH.nil
              (go_simp; go_at_call 11; refine (place_any go 3 onL x3 _ rfl (by omega) (by omega) (fun j hj => XO.out _ (by first | exact Below.refl _ _ | exact below1 _ _ | exact ⟨rfl, rfl, rfl, Nat.le_refl _, fun _ _ => rfl⟩) j hj)).mono ?_; rintro e wq ⟨rfl, rfl⟩; try (go_wp2_with fail))
              refine hK.out _ _ (ST.out _ Bwoa.out) (fun hHeld => ?_)
              clear hK K
              try simp only [Act.put, List.setIfInBounds_toArray, List.set_cons_zero, List.set_cons_succ]
              refine HdK.tke 20 (some 85) (.agg (rrow ⟨bd, x1, place mayL x2.toList, place onL x3.toList, x4, false⟩)) rfl rfl ?_
              try simp only [Act.put, List.setIfInBounds_toArray, List.set_cons_zero, List.set_cons_succ]
              refine wpAnyH_ready (rs := [22]) (by kernel_rfl) (by simp) ?_
              refine AllReadyH.cons (o := { dst := none, op := Op.store 33 (Operand.tmp 9) (Operand.tmp 85), type := 0, pos := "l11_access.go:97", after := #[{ on := 21, ground := Ground.data }, { on := 20, ground := Ground.data }, { on := 16, ground := Ground.chain }, { on := 0, ground := Ground.phase }, { on := 1, ground := Ground.phase }, { on := 2, ground := Ground.phase }, { on := 3, ground := Ground.phase }, { on := 4, ground := Ground.phase }, { on := 5, ground := Ground.phase }, { on := 6, ground := Ground.phase }, { on := 7, ground := Ground.phase }, { on := 8, ground := Ground.phase }, { on := 9, ground := Ground.phase }, { on := 10, ground := Ground.phase }, { on := 11, ground := Ground.phase }, { on := 12, ground := Ground.phase }, { on := 13, ground := Ground.phase }, { on := 14, ground := Ground.phase }, { on := 15, ground := Ground.phase }, { on := 16, ground := Ground.phase }, { on := 17, ground := Ground.phase }, { on := 18, ground := Ground.phase }, { on := 19, ground := Ground.phase }, { on := 20, ground := Ground.phase }, { on := 21, ground := Ground.phase }], guard := none }) rfl (fun K hK => ?_) AllReadyH.nil
              refine HdK.step_store_mid rfl 33 _ _ rfl wm.heap.size 0 (rrow ⟨bd, x1, place mayL x2.toList, place onL x3.toList, x4, false⟩) rfl rfl (Cells.there_of (cs := zrule) Kwo.out) infoRul (by simp [rrow, Value.oneCell']) ?_
              have BS := Seg.hid (Cells.below_setCells (B := w3.heap.size) (g := wm.heap.size) (by first | exact Nat.le_refl _ | exact Bwoa.out.size | exact LB.out) (rrow ⟨bd, x1, place mayL x2.toList, place onL x3.toList, x4, false⟩).toList 0 w3 _ Bwoa.out)
              refine hK.out _ _ (ST.out _ BS.out) (fun hHeld => ?_)
              clear hK K
              refine wpAnyH_done (by kernel_rfl) ?_ _
              exact J _ _ _ _ _ _ _ _ _ _ _ _ _ _ _ _ _ _ _ _ _ _ _ _ _ _ _ _ _ _ _ _ _ _ _ _ _ _ _ _ _ _ _ _ _ _ _ _ _ _ _ _ _ _ _ _ _ _ _ _ _ _ _ _ _ _ _ _ _ _ _ _ _ _ _ _ _ _ _ _ _ _ _ _ _ _ _ _ _ _ _ _ _ _ _ _ _ _ _ _ _ wm.heap.size _ (by first | exact Nat.le_refl _ | exact Bwoa.out.size | exact LB.out) BS.out (Cells.whole (cs := zrule) (vs := rrow ⟨bd, x1, place mayL x2.toList, place onL x3.toList, x4, false⟩) Kwo.out rfl)
          · have BA : Hid (Below w3.heap.size w3 (wm.alloc (.cells zrule 33 (0, 0)))) := chain Bwm.out (below1 wm _)
            have KA : Hid ((wm.alloc (.cells zrule 33 (0, 0))).heap[wm.heap.size]? = some (.cells zrule 33 (0, 0))) := heap_alloc_new _ _
            have LB : Hid (w3.heap.size ≤ wm.heap.size) := by show _ ≤ _; first | exact Nat.le_refl _ | exact Bwm.out.size
            (go_simp; try (go_wp2_with fail))
            refine hK.out _ _ (ST.out _ BA.out) (fun hHeld => ?_)
            clear hK K
            try simp only [Act.put, List.setIfInBounds_toArray, List.set_cons_zero, List.set_cons_succ]
            refine wpAnyH_ready (rs := [11]) (by kernel_rfl) (by simp) ?_
            refine AllReadyH.cons (o := { dst := some 76, op := Op.call { callee := Callee.value (Operand.func 11), args := #[Operand.tmp 72, Operand.tmp 75], argTypes := #[28, 9] }, type := 3, pos := "l11_access.go:97", after := #[{ on := 7, ground := Ground.data }, { on := 10, ground := Ground.data }, { on := 7, ground := Ground.chain }], guard := none }) rfl (fun K hK => ?_) AllReadyH.nil
            (go_simp; go_at_call 11; refine (place_any gm 5 mayL x2 _ rfl (by omega) (by omega) (fun j hj => XM.out _ (by first | exact Below.refl _ _ | exact below1 _ _ | exact ⟨rfl, rfl, rfl, Nat.le_refl _, fun _ _ => rfl⟩) j hj)).mono ?_; rintro e wq ⟨rfl, rfl⟩; try (go_wp2_with fail))
            refine hK.out _ _ (ST.out _ BA.out) (fun hHeld => ?_)
            clear hK K
            try simp only [Act.put, List.setIfInBounds_toArray, List.set_cons_zero, List.set_cons_succ]
            refine wpAnyH_ready (rs := [12]) (by kernel_rfl) (by simp) ?_
            refine AllReadyH.cons (o := { dst := some 77, op := Op.call { callee := Callee.value (Operand.func 13), args := #[], argTypes := #[] }, type := 28, pos := "l11_access.go:97", after := #[{ on := 11, ground := Ground.chain }], guard := none }) rfl (fun K hK => ?_) AllReadyH.nil
            (go_simp; go_at_call 13; refine (CO.out _).mono ?_; rintro e wo ⟨go, rfl, xx, bb⟩; have XO := Seg.hid xx; have Bwoa : Hid (Below w3.heap.size w3 wo) := chain BA.out ⟨bb.os, bb.tape, bb.output, bb.size, bb.block⟩; have Kwo : Hid (wo.heap[wm.heap.size]? = some (.cells zrule 33 (0, 0))) := (bb.block _ (Array.getElem?_eq_some_iff.1 KA.out).1).trans KA.out; clear xx bb; try (go_wp2_with fail))
            refine hK.out _ _ (ST.out _ Bwoa.out) (fun hHeld => ?_)
            clear hK K
            try simp only [Act.put, List.setIfInBounds_toArray, List.set_cons_zero, List.set_cons_succ]
            refine wpAnyH_ready (rs := [16]) (by kernel_rfl) (by simp) ?_
            refine AllReadyH.cons (o := { dst := some 81, op := Op.call { callee := Callee.value (Operand.func 11), args := #[Operand.tmp 77, Operand.tmp 80], argTypes := #[28, 9] }, type := 3, pos := "l11_access.go:97", after := #[{ on := 12, ground := Ground.data }, { on := 15, ground := Ground.data }, { on := 12, ground := Ground.chain }], guard := none }) rfl (fun K hK => ?_) AllReadyH.nil
            (go_simp; go_at_call 11; refine (place_any go 3 onL x3 _ rfl (by omega) (by omega) (fun j hj => XO.out _ (by first | exact Below.refl _ _ | exact below1 _ _ | exact ⟨rfl, rfl, rfl, Nat.le_refl _, fun _ _ => rfl⟩) j hj)).mono ?_; rintro e wq ⟨rfl, rfl⟩; try (go_wp2_with fail))
            refine hK.out _ _ (ST.out _ Bwoa.out) (fun hHeld => ?_)
            clear hK K
            try simp only [Act.put, List.setIfInBounds_toArray, List.set_cons_zero, List.set_cons_succ]
            refine HdK.tke 20 (some 85) (.agg (rrow ⟨bd, x1, place mayL x2.toList, place onL x3.toList, x4, false⟩)) rfl rfl ?_
            try simp only [Act.put, List.setIfInBounds_toArray, List.set_cons_zero, List.set_cons_succ]
            refine wpAnyH_ready (rs := [22]) (by kernel_rfl) (by simp) ?_
            refine AllReadyH.cons (o := { dst := none, op := Op.store 33 (Operand.tmp 9) (Operand.tmp 85), type := 0, pos := "l11_access.go:97", after := #[{ on := 21, ground := Ground.data }, { on := 20, ground := Ground.data }, { on := 16, ground := Ground.chain }, { on := 0, ground := Ground.phase }, { on := 1, ground := Ground.phase }, { on := 2, ground := Ground.phase }, { on := 3, ground := Ground.phase }, { on := 4, ground := Ground.phase }, { on := 5, ground := Ground.phase }, { on := 6, ground := Ground.phase }, { on := 7, ground := Ground.phase }, { on := 8, ground := Ground.phase }, { on := 9, ground := Ground.phase }, { on := 10, ground := Ground.phase }, { on := 11, ground := Ground.phase }, { on := 12, ground := Ground.phase }, { on := 13, ground := Ground.phase }, { on := 14, ground := Ground.phase }, { on := 15, ground := Ground.phase }, { on := 16, ground := Ground.phase }, { on := 17, ground := Ground.phase }, { on := 18, ground := Ground.phase }, { on := 19, ground := Ground.phase }, { on := 20, ground := Ground.phase }, { on := 21, ground := Ground.phase }], guard := none }) rfl (fun K hK => ?_) AllReadyH.nil
            refine HdK.step_store_mid rfl 33 _ _ rfl wm.heap.size 0 (rrow ⟨bd, x1, place mayL x2.toList, place onL x3.toList, x4, false⟩) rfl rfl (Cells.there_of (cs := zrule) Kwo.out) infoRul (by simp [rrow, Value.oneCell']) ?_
            have BS := Seg.hid (Cells.below_setCells (B := w3.heap.size) (g := wm.heap.size) (by first | exact Nat.le_refl _ | exact Bwoa.out.size | exact LB.out) (rrow ⟨bd, x1, place mayL x2.toList, place onL x3.toList, x4, false⟩).toList 0 w3 _ Bwoa.out)
            refine hK.out _ _ (ST.out _ BS.out) (fun hHeld => ?_)
            clear hK K
            refine wpAnyH_done (by kernel_rfl) ?_ _
            exact J _ _ _ _ _ _ _ _ _ _ _ _ _ _ _ _ _ _ _ _ _ _ _ _ _ _ _ _ _ _ _ _ _ _ _ _ _ _ _ _ _ _ _ _ _ _ _ _ _ _ _ _ _ _ _ _ _ _ _ _ _ _ _ _ _ _ _ _ _ _ _ _ _ _ _ _ _ _ _ _ _ _ _ _ _ _ _ _ _ _ _ _ _ _ _ _ _ _ _ _ _ wm.heap.size _ (by first | exact Nat.le_refl _ | exact Bwoa.out.size | exact LB.out) BS.out (Cells.whole (cs := zrule) (vs := rrow ⟨bd, x1, place mayL x2.toList, place onL x3.toList, x4, false⟩) Kwo.out rfl)
        · have BA : Hid (Below w3.heap.size w3 ((w3.alloc (.cells zrule 33 (0, 0))).drew)) := (below1 w3 _).drew
          have KA : Hid (((w3.alloc (.cells zrule 33 (0, 0))).drew).heap[w3.heap.size]? = some (.cells zrule 33 (0, 0))) := heap_alloc_new _ _
          have LB : Hid (w3.heap.size ≤ w3.heap.size) := by show _ ≤ _; first | exact Nat.le_refl _ | exact B0.out.size
          (go_simp; try (go_wp2_with fail))
          refine hK.out _ _ (ST.out _ BA.out) (fun hHeld => ?_)
          clear hK K
          try simp only [Act.put, List.setIfInBounds_toArray, List.set_cons_zero, List.set_cons_succ]
          refine wpAnyH_ready (rs := [7]) (by kernel_rfl) (by simp) ?_
          refine AllReadyH.cons (o := { dst := some 72, op := Op.call { callee := Callee.value (Operand.func 12), args := #[], argTypes := #[] }, type := 28, pos := "l11_access.go:97", after := #[], guard := none }) rfl (fun K hK => ?_) AllReadyH.nil
          (go_simp; go_at_call 12; refine (CM.out _).mono ?_; rintro e wm ⟨gm, rfl, xx, bb⟩; have XM := Seg.hid xx; have Bwma : Hid (Below w3.heap.size w3 wm) := chain BA.out ⟨bb.os, bb.tape, bb.output, bb.size, bb.block⟩; have Kwm : Hid (wm.heap[w3.heap.size]? = some (.cells zrule 33 (0, 0))) := (bb.block _ (Array.getElem?_eq_some_iff.1 KA.out).1).trans KA.out; clear xx bb; try (go_wp2_with fail))
          refine hK.out _ _ (ST.out _ Bwma.out) (fun hHeld => ?_)
          clear hK K
          try simp only [Act.put, List.setIfInBounds_toArray, List.set_cons_zero, List.set_cons_succ]
          refine wpAnyH_ready (rs := [11]) (by kernel_rfl) (by simp) ?_
          refine AllReadyH.cons (o := { dst := some 76, op := Op.call { callee := Callee.value (Operand.func 11), args := #[Operand.tmp 72, Operand.tmp 75], argTypes := #[28, 9] }, type := 3, pos := "l11_access.go:97", after := #[{ on := 7, ground := Ground.data }, { on := 10, ground := Ground.data }, { on := 7, ground := Ground.chain }], guard := none }) rfl (fun K hK => ?_) AllReadyH.nil
          (go_simp; go_at_call 11; refine (place_any gm 5 mayL x2 _ rfl (by omega) (by omega) (fun j hj => XM.out _ (by first | exact Below.refl _ _ | exact below1 _ _ | exact ⟨rfl, rfl, rfl, Nat.le_refl _, fun _ _ => rfl⟩) j hj)).mono ?_; rintro e wq ⟨rfl, rfl⟩; try (go_wp2_with fail))
          refine hK.out _ _ (ST.out _ Bwma.out) (fun hHeld => ?_)
          clear hK K
          try simp only [Act.put, List.setIfInBounds_toArray, List.set_cons_zero, List.set_cons_succ]
          refine wpAnyH_ready (rs := [12]) (by kernel_rfl) (by simp) ?_
          refine AllReadyH.cons (o := { dst := some 77, op := Op.call { callee := Callee.value (Operand.func 13), args := #[], argTypes := #[] }, type := 28, pos := "l11_access.go:97", after := #[{ on := 11, ground := Ground.chain }], guard := none }) rfl (fun K hK => ?_) AllReadyH.nil
          (go_simp; go_at_call 13; refine (CO.out _).mono ?_; rintro e wo ⟨go, rfl, xx, bb⟩; have XO := Seg.hid xx; have Bwoa : Hid (Below w3.heap.size w3 wo) := chain Bwma.out ⟨bb.os, bb.tape, bb.output, bb.size, bb.block⟩; have Kwo : Hid (wo.heap[w3.heap.size]? = some (.cells zrule 33 (0, 0))) := (bb.block _ (Array.getElem?_eq_some_iff.1 Kwm.out).1).trans Kwm.out; clear xx bb; try (go_wp2_with fail))
          refine hK.out _ _ (ST.out _ Bwoa.out) (fun hHeld => ?_)
          clear hK K
          try simp only [Act.put, List.setIfInBounds_toArray, List.set_cons_zero, List.set_cons_succ]
          refine wpAnyH_ready (rs := [16]) (by kernel_rfl) (by simp) ?_
          refine AllReadyH.cons (o := { dst := some 81, op := Op.call { callee := Callee.value (Operand.func 11), args := #[Operand.tmp 77, Operand.tmp 80], argTypes := #[28, 9] }, type := 3, pos := "l11_access.go:97", after := #[{ on := 12, ground := Ground.data }, { on := 15, ground := Ground.data }, { on := 12, ground := Ground.chain }], guard := none }) rfl (fun K hK => ?_) AllReadyH.nil
          (go_simp; go_at_call 11; refine (place_any go 3 onL x3 _ rfl (by omega) (by omega) (fun j hj => XO.out _ (by first | exact Below.refl _ _ | exact below1 _ _ | exact ⟨rfl, rfl, rfl, Nat.le_refl _, fun _ _ => rfl⟩) j hj)).mono ?_; rintro e wq ⟨rfl, rfl⟩; try (go_wp2_with fail))
          refine hK.out _ _ (ST.out _ Bwoa.out) (fun hHeld => ?_)
          clear hK K
          try simp only [Act.put, List.setIfInBounds_toArray, List.set_cons_zero, List.set_cons_succ]
          refine HdK.tke 20 (some 85) (.agg (rrow ⟨bd, x1, place mayL x2.toList, place onL x3.toList, x4, false⟩)) rfl rfl ?_
          try simp only [Act.put, List.setIfInBounds_toArray, List.set_cons_zero, List.set_cons_succ]
          refine wpAnyH_ready (rs := [22]) (by kernel_rfl) (by simp) ?_
          refine AllReadyH.cons (o := { dst := none, op := Op.store 33 (Operand.tmp 9) (Operand.tmp 85), type := 0, pos := "l11_access.go:97", after := #[{ on := 21, ground := Ground.data }, { on := 20, ground := Ground.data }, { on := 16, ground := Ground.chain }, { on := 0, ground := Ground.phase }, { on := 1, ground := Ground.phase }, { on := 2, ground := Ground.phase }, { on := 3, ground := Ground.phase }, { on := 4, ground := Ground.phase }, { on := 5, ground := Ground.phase }, { on := 6, ground := Ground.phase }, { on := 7, ground := Ground.phase }, { on := 8, ground := Ground.phase }, { on := 9, ground := Ground.phase }, { on := 10, ground := Ground.phase }, { on := 11, ground := Ground.phase }, { on := 12, ground := Ground.phase }, { on := 13, ground := Ground.phase }, { on := 14, ground := Ground.phase }, { on := 15, ground := Ground.phase }, { on := 16, ground := Ground.phase }, { on := 17, ground := Ground.phase }, { on := 18, ground := Ground.phase }, { on := 19, ground := Ground.phase }, { on := 20, ground := Ground.phase }, { on := 21, ground := Ground.phase }], guard := none }) rfl (fun K hK => ?_) AllReadyH.nil
          refine HdK.step_store_mid rfl 33 _ _ rfl w3.heap.size 0 (rrow ⟨bd, x1, place mayL x2.toList, place onL x3.toList, x4, false⟩) rfl rfl (Cells.there_of (cs := zrule) Kwo.out) infoRul (by simp [rrow, Value.oneCell']) ?_
          have BS := Seg.hid (Cells.below_setCells (B := w3.heap.size) (g := w3.heap.size) (by first | exact Nat.le_refl _ | exact Bwoa.out.size | exact LB.out) (rrow ⟨bd, x1, place mayL x2.toList, place onL x3.toList, x4, false⟩).toList 0 w3 _ Bwoa.out)
          refine hK.out _ _ (ST.out _ BS.out) (fun hHeld => ?_)
          clear hK K
          refine wpAnyH_done (by kernel_rfl) ?_ _
          exact J _ _ _ _ _ _ _ _ _ _ _ _ _ _ _ _ _ _ _ _ _ _ _ _ _ _ _ _ _ _ _ _ _ _ _ _ _ _ _ _ _ _ _ _ _ _ _ _ _ _ _ _ _ _ _ _ _ _ _ _ _ _ _ _ _ _ _ _ _ _ _ _ _ _ _ _ _ _ _ _ _ _ _ _ _ _ _ _ _ _ _ _ _ _ _ _ _ _ _ _ _ w3.heap.size _ (by first | exact Nat.le_refl _ | exact Bwoa.out.size | exact LB.out) BS.out (Cells.whole (cs := zrule) (vs := rrow ⟨bd, x1, place mayL x2.toList, place onL x3.toList, x4, false⟩) Kwo.out rfl)
      · go_upto_region 14 with fail
        rename_i K0 aK0
        have J : ∀ (y18 y19 y20 y21 y22 y23 y24 y25 y26 y27 y28 y29 y30 y31 y32 y33 y34 y35 y36 y37 y38 y39 y40 y41 y42 y43 y44 y45 y46 y47 y48 y49 y50 y51 y52 y53 y54 y55 y56 y57 y58 y59 y60 y61 y62 y63 y64 y65 y66 y67 y68 y69 y70 y71 y72 y73 y74 y75 y76 y77 y78 y79 y80 y81 y82 y83 y84 y85 y86 y87 y88 y89 y90 y91 y92 y93 y94 y95 y96 y97 y98 y99 y100 y101 y102 y103 y104 y105 y106 y107 y108 y109 y110 y111 y112 y113 y114 y115 y116 y117 y118 : Value) (b : Nat) (wx : World), w3.heap.size ≤ b → Below w3.heap.size w3 wx → wx.heap[b]? = some (.cells (rrow ⟨true, x1, place mayL x2.toList, place onL x3.toList, x4, false⟩) 33 (0, 0)) → K0 { tmps := List.toArray (.string t :: undef :: u2 :: u3 :: u4 :: .slice (some ⟨gl, 0, none⟩) L.length c :: .int .i64 k :: .string z :: .slice (some ⟨gw, 0, none⟩) 5 c3 :: .pointer (some ⟨b, 0, none⟩) :: u10 :: .slice (some ⟨w.heap.size, 0, none⟩) 0 0 :: .string t :: .int .i64 t.size :: .bool false :: undef :: .string t :: .slice (some ⟨gl, 0, none⟩) L.length c :: y18 :: y19 :: y20 :: y21 :: y22 :: y23 :: y24 :: y25 :: y26 :: y27 :: y28 :: y29 :: y30 :: y31 :: y32 :: y33 :: y34 :: y35 :: y36 :: y37 :: y38 :: y39 :: y40 :: y41 :: y42 :: y43 :: y44 :: y45 :: y46 :: y47 :: y48 :: y49 :: y50 :: y51 :: y52 :: y53 :: y54 :: y55 :: y56 :: y57 :: y58 :: y59 :: y60 :: y61 :: y62 :: y63 :: y64 :: y65 :: y66 :: y67 :: y68 :: y69 :: y70 :: y71 :: y72 :: y73 :: y74 :: y75 :: y76 :: y77 :: y78 :: y79 :: y80 :: y81 :: y82 :: y83 :: y84 :: y85 :: y86 :: y87 :: y88 :: y89 :: y90 :: y91 :: y92 :: y93 :: y94 :: y95 :: y96 :: y97 :: y98 :: y99 :: y100 :: y101 :: y102 :: y103 :: y104 :: y105 :: y106 :: y107 :: y108 :: y109 :: y110 :: y111 :: y112 :: y113 :: y114 :: y115 :: y116 :: y117 :: y118 :: undef :: []), defers := [] } wx := by
          intro y18 y19 y20 y21 y22 y23 y24 y25 y26 y27 y28 y29 y30 y31 y32 y33 y34 y35 y36 y37 y38 y39 y40 y41 y42 y43 y44 y45 y46 y47 y48 y49 y50 y51 y52 y53 y54 y55 y56 y57 y58 y59 y60 y61 y62 y63 y64 y65 y66 y67 y68 y69 y70 y71 y72 y73 y74 y75 y76 y77 y78 y79 y80 y81 y82 y83 y84 y85 y86 y87 y88 y89 y90 y91 y92 y93 y94 y95 y96 y97 y98 y99 y100 y101 y102 y103 y104 y105 y106 y107 y108 y109 y110 y111 y112 y113 y114 y115 y116 y117 y118 b wx hb bx hrow
          obtain ⟨_, _, _, _, k4⟩ := ST.out wx bx
          have q4 : wx.cell? ⟨b, 4, none⟩ = some (.string x4) := cell_of_row wx b 4 _ _ (0, 0) hrow
          have q5 : wx.cell? ⟨b, 5, none⟩ = some (.bool false) := cell_of_row wx b 5 _ _ (0, 0) hrow
          have f4 := frozen_of_row wx b 4 _ _ hrow
          have f5 := frozen_of_row wx b 5 _ _ hrow
          have HRW := Seg.hid hrow
          have BX := Seg.hid bx
          have HBB := Seg.hid hb
          have hblt : b < wx.heap.size := (Array.getElem?_eq_some_iff.1 hrow).1
          clear hrow bx ST CM CO
          have X4 : Hid (x4.size ≤ 1048576) := by show _ ≤ _; have := WL.out 4; have zs := ZS.out; rw [← T4.out, size_list] at this; omega
          have X1 : Hid (x1.size ≤ maxLen) := by
            show _ ≤ _
            have := WL.out 1
            have zs := ZS.out
            rw [T1.out]
            show (bsOf (wd ws 1)).size ≤ _
            have e := size_list (bsOf (wd ws 1))
            rw [bs_toList] at e
            unfold maxLen
            omega
          have MK : Hid (∀ n b', (if star (wd ws 4) = true then bsOf (wd ws 4).dropLast else bsOf (wd ws 4)) = n → star (wd ws 4) = b' → mk ws = ⟨true, x1, place mayL x2.toList, place onL x3.toList, n, b'⟩) := fun n b' h1 h2 => mk_form DN.out T1.out T2.out T3.out h1 h2
          have E4 : Hid (bsOf (wd ws 4) = x4) := by
            show _ = _
            rw [← T4.out]
            apply ByteArray.ext
            rw [toList_data]
            simp [bsOf]
          refine aK0 _ _ ?_
          clear aK0
          have h40 : (0 : Int) ≤ (4 : Int) := by omega
          by_cases hz4 : x4.size = 0
          · have v1 : ¬ (0 : Int) < (x4.size : Int) := by omega
            have v2 : ¬ 0 < x4.size := by omega
            have SF : star (wd ws 4) = false := by unfold star; rw [← T4.out, size_list, hz4]; rfl
            obtain ⟨r, hr⟩ : ∃ r, r = mk ws := ⟨_, rfl⟩
            have RE : r = ⟨true, x1, place mayL x2.toList, place onL x3.toList, x4, false⟩ := by rw [hr]; exact MK.out x4 false (by rw [if_neg (by rw [SF]; simp)]; exact E4.out) SF
            rw [← hr] at LM PS
            have WH : Hid (r.who.size ≤ maxLen) := by show _ ≤ _; rw [RE]; exact X1.out
            have NH : Hid (r.name.size ≤ maxLen) := by show _ ≤ _; rw [RE]; show x4.size ≤ _; have := X4.out; unfold maxLen; omega
            obtain ⟨wf, hwf⟩ : ∃ wf, wf = wx := ⟨_, rfl⟩
            have RF : wf.heap[b]? = some (.cells (rrow r) 33 (0, 0)) := by rw [hwf, RE]; exact HRW.out
            have BF : Below w3.heap.size w3 wf := by rw [hwf]; exact BX.out
            clear SF RE hr MK
            go_upto_region 19 with fail
            rw [← hwf]
            clear q4 q5 f4 f5 k4 HRW BX hblt hz4
            clear hwf
            have RF' := Seg.hid RF
            have BF' := Seg.hid BF
            clear RF BF
            obtain ⟨p0, p1, p2, p3, p4, p5⟩ := sixr RF'.out
            have nw : r.who.size ≤ maxLen := WH.out
            have nn : r.name.size ≤ maxLen := NH.out
            cases ho : okR r with
            | false =>
              have Z : Hid (lnOk z.toList k = false) := by show _ = _; rw [LM.out, ho]
              have CR : Hid (∀ wy, Calls Tryd.prog 14 #[.agg (rrow r)] wy fun e w' => e = .returned (.bool false) ∧ Below wy.heap.size wy w') := fun wy => by have := RuS.rule_any r wy nw nn; rw [ho] at this; exact this
              clear ho
              go_wp2_with (go_at_call 14; refine (CR.out _).mono ?_; rintro e w7 ⟨rfl, b7⟩; have B7 := Seg.hid b7; clear b7)
              go_ret2
              exact NOK.out _ _ _ Z.out (chain (chain (chain BK.out BF'.out) B7.out) (below1 _ _))
            | true =>
              have PT : Hid (parseF (L.drop (k + 1)) (k + 1) (us ++ [r]) = parse t) := by show _ = _; rw [← PS.out, if_pos (by rw [LM.out, ho])]
              have CR : Hid (∀ wy, Calls Tryd.prog 14 #[.agg (rrow r)] wy fun e w' => e = .returned (.bool true) ∧ Below wy.heap.size wy w') := fun wy => by have := RuS.rule_any r wy nw nn; rw [ho] at this; exact this
              clear ho
              have BW : Hid (∀ w7, Below wf.heap.size wf w7 → Below wr.heap.size wr w7) := fun w7 b7 => chain (chain B3.out BF'.out) b7
              have OW : Hid (∀ w7 o1, Below wf.heap.size wf w7 → RRow (w7.alloc o1) w.heap.size u4 us) := fun w7 o1 b7 => rkeep KR.out (fun x _ hx => (chain (BW.out w7 b7) (below1 w7 o1)).block x hx)
              have GW : Hid (∀ w7 o1 w9, Below wf.heap.size wf w7 → (w7.alloc o1).grownBy w9 u4.ownBlock → Below w.heap.size w w9 ∧ Txs w9 gl L) := fun w7 o1 w9 b7 h9 => by
                have bw := chain (BW.out w7 b7) (below1 w7 o1)
                refine ⟨(chain KB.out bw).grown h9 (Nat.le_trans KB.out.size bw.size) (fun x hx => ?_), TX.out.keep ?_⟩
                · rcases KR.out.2 with ⟨h1, _⟩ | ⟨g', cap, cur, h1, h2, _⟩
                  · rw [h1] at hx; cases hx
                  · rw [h1] at hx; cases hx; exact h2
                · refine (h9.block gl (Nat.lt_of_lt_of_le hgl bw.size) ?_).trans (bw.block gl hgl)
                  intro he
                  obtain ⟨cur', hc'⟩ := TX.out.row.resolve_left (by omega)
                  rcases KR.out.2 with ⟨h1, _⟩ | ⟨g', cap, cur, h1, h2, h3, _⟩
                  · rw [h1] at he; cases he
                  · rw [h1] at he
                    cases he
                    rw [hc'] at h3
                    cases h3
              have PU : Hid (rcells us ++ (rrow r).toList = rcells (us ++ [r]) ∧ us.length + 1 = (us ++ [r]).length) := ⟨(rcells_app us r).symm, by simp⟩
              have hwr : w.heap.size ≤ wr.heap.size := KB.out.size
              go_wp2_with (first | (go_at_call 14; refine (CR.out _).mono ?_; rintro e w7 ⟨rfl, b7⟩; have B7 := Seg.hid b7; obtain ⟨s0, s1, s2, s3, s4, s5⟩ := sixr ((b7.block _ (Array.getElem?_eq_some_iff.1 RF'.out).1).trans RF'.out); have hw7 : w.heap.size ≤ w7.heap.size := Nat.le_trans hwr (BW.out w7 b7).size; clear b7) | (at_builtin; (refine wpList_append_lies _ rfl _ _ 22 rfl w.heap.size 33 i0 _ 6 64 Tryd.underlying22 hi hz0 hz1 hz2 rfl (by decide) u4 us.length (rcells us) rfl (OW.out _ _ B7.out) ⟨w7.heap.size, 0, none⟩ 1 1 (rrow r).toList rfl rfl (World.news_of_block (cs := rrow r) (heap_alloc_new _ _)) (by simp [Value.oneCell']) (by decide) (by unfold maxLen; omega) (by omega) (by rw [hsz]; omega) (w7.heap.size + 1) (by rw [hsz]) ?_; intro g9 cap9 w9 hown9 gr9 hat9 hlt9; rw [PU.out.1, PU.out.2] at hown9; have D9 := Seg.hid hown9; have G9 := Seg.hid (GW.out _ _ _ B7.out gr9); clear hown9 gr9 hat9 hlt9)))
              go_roundw
              case rel => exact ⟨k + 1, us ++ [r], by omega, by simp; omega, by go_num, by rw [PU.out.2]; exact D9.out, G9.out.1, G9.out.2, PT.out⟩
              case measure => simp [intOf]; omega
          · obtain ⟨m, hm⟩ : ∃ m, x4.size = m + 1 := ⟨x4.size - 1, by omega⟩
            have x4b : m < 1048576 := by have := X4.out; omega
            have v1 : (0 : Int) < (x4.size : Int) := by omega
            have v2 : 0 < x4.size := by omega
            have w1 : IntKind.i64.wrap ((x4.size : Int) - 1) = (m : Int) := by rw [IntKind.wrap_i64] <;> omega
            have w2 : (0 : Int) ≤ (m : Int) := by omega
            have w3' : (m : Int) < (x4.size : Int) := by omega
            have w4 : m < x4.size := by omega
            have w5 : (m : Int) ≤ (x4.size : Int) := by omega
            have LS := last_of hm
            have DLS := Seg.hid (drop_last hm)
            by_cases h42 : x4[m] = 42
            · have b1 : ((x4[m].toNat : Int) == 42) = true := by rw [h42]; rfl
              have SF : star (wd ws 4) = true := by unfold star; rw [← T4.out, size_list, LS, h42]; simp [v2]
              obtain ⟨r, hr⟩ : ∃ r, r = mk ws := ⟨_, rfl⟩
              have RE : r = ⟨true, x1, place mayL x2.toList, place onL x3.toList, x4.extract 0 m, true⟩ := by
                rw [hr]
                refine MK.out (x4.extract 0 m) true ?_ SF
                rw [if_pos SF, ← T4.out, ← DLS.out]
                exact bs_of _
              rw [← hr] at LM PS
              have WH : Hid (r.who.size ≤ maxLen) := by show _ ≤ _; rw [RE]; exact X1.out
              have NH : Hid (r.name.size ≤ maxLen) := by
                show _ ≤ _
                rw [RE]
                show (x4.extract 0 m).size ≤ _
                have e := size_list (x4.extract 0 m)
                rw [DLS.out, List.length_dropLast, size_list] at e
                unfold maxLen
                omega
              have RF0 : ((wx.setCell ⟨b, 5, none⟩ (.bool true)).setCell ⟨b, 4, none⟩ (.string (x4.extract 0 m))).heap[b]? = some (.cells (rrow r) 33 (0, 0)) := by
                rw [RE]
                exact heap_setCell_same _ b 4 _ _ _ (heap_setCell_same wx b 5 _ _ _ HRW.out)
              have BF0 : Below w3.heap.size w3 ((wx.setCell ⟨b, 5, none⟩ (.bool true)).setCell ⟨b, 4, none⟩ (.string (x4.extract 0 m))) := (BX.out.setCell hb _).setCell hb _
              have RFh := Seg.hid RF0
              have BFh := Seg.hid BF0
              clear SF RE hr MK LS h42 RF0 BF0 hm hz4
              go_upto_region 19 with fail
              obtain ⟨wf, hwf⟩ : ∃ wf, (wx.setCell ⟨b, 5, none⟩ (.bool true)).setCell ⟨b, 4, none⟩ (.string (x4.extract 0 m)) = wf := ⟨_, rfl⟩
              rw [hwf] at RFh BFh ⊢
              have RF := RFh.out
              have BF := BFh.out
              clear q4 q5 f4 f5 k4 HRW BX hblt RFh BFh
              clear hwf
              have RF' := Seg.hid RF
              have BF' := Seg.hid BF
              clear RF BF
              obtain ⟨p0, p1, p2, p3, p4, p5⟩ := sixr RF'.out
              have nw : r.who.size ≤ maxLen := WH.out
              have nn : r.name.size ≤ maxLen := NH.out
              cases ho : okR r with
              | false =>
                have Z : Hid (lnOk z.toList k = false) := by show _ = _; rw [LM.out, ho]
                have CR : Hid (∀ wy, Calls Tryd.prog 14 #[.agg (rrow r)] wy fun e w' => e = .returned (.bool false) ∧ Below wy.heap.size wy w') := fun wy => by have := RuS.rule_any r wy nw nn; rw [ho] at this; exact this
                clear ho
                go_wp2_with (go_at_call 14; refine (CR.out _).mono ?_; rintro e w7 ⟨rfl, b7⟩; have B7 := Seg.hid b7; clear b7)
                go_ret2
                exact NOK.out _ _ _ Z.out (chain (chain (chain BK.out BF'.out) B7.out) (below1 _ _))
              | true =>
                have PT : Hid (parseF (L.drop (k + 1)) (k + 1) (us ++ [r]) = parse t) := by show _ = _; rw [← PS.out, if_pos (by rw [LM.out, ho])]
                have CR : Hid (∀ wy, Calls Tryd.prog 14 #[.agg (rrow r)] wy fun e w' => e = .returned (.bool true) ∧ Below wy.heap.size wy w') := fun wy => by have := RuS.rule_any r wy nw nn; rw [ho] at this; exact this
                clear ho
                have BW : Hid (∀ w7, Below wf.heap.size wf w7 → Below wr.heap.size wr w7) := fun w7 b7 => chain (chain B3.out BF'.out) b7
                have OW : Hid (∀ w7 o1, Below wf.heap.size wf w7 → RRow (w7.alloc o1) w.heap.size u4 us) := fun w7 o1 b7 => rkeep KR.out (fun x _ hx => (chain (BW.out w7 b7) (below1 w7 o1)).block x hx)
                have GW : Hid (∀ w7 o1 w9, Below wf.heap.size wf w7 → (w7.alloc o1).grownBy w9 u4.ownBlock → Below w.heap.size w w9 ∧ Txs w9 gl L) := fun w7 o1 w9 b7 h9 => by
                  have bw := chain (BW.out w7 b7) (below1 w7 o1)
                  refine ⟨(chain KB.out bw).grown h9 (Nat.le_trans KB.out.size bw.size) (fun x hx => ?_), TX.out.keep ?_⟩
                  · rcases KR.out.2 with ⟨h1, _⟩ | ⟨g', cap, cur, h1, h2, _⟩
                    · rw [h1] at hx; cases hx
                    · rw [h1] at hx; cases hx; exact h2
                  · refine (h9.block gl (Nat.lt_of_lt_of_le hgl bw.size) ?_).trans (bw.block gl hgl)
                    intro he
                    obtain ⟨cur', hc'⟩ := TX.out.row.resolve_left (by omega)
                    rcases KR.out.2 with ⟨h1, _⟩ | ⟨g', cap, cur, h1, h2, h3, _⟩
                    · rw [h1] at he; cases he
                    · rw [h1] at he
                      cases he
                      rw [hc'] at h3
                      cases h3
                have PU : Hid (rcells us ++ (rrow r).toList = rcells (us ++ [r]) ∧ us.length + 1 = (us ++ [r]).length) := ⟨(rcells_app us r).symm, by simp⟩
                have hwr : w.heap.size ≤ wr.heap.size := KB.out.size
                go_wp2_with (first | (go_at_call 14; refine (CR.out _).mono ?_; rintro e w7 ⟨rfl, b7⟩; have B7 := Seg.hid b7; obtain ⟨s0, s1, s2, s3, s4, s5⟩ := sixr ((b7.block _ (Array.getElem?_eq_some_iff.1 RF'.out).1).trans RF'.out); have hw7 : w.heap.size ≤ w7.heap.size := Nat.le_trans hwr (BW.out w7 b7).size; clear b7) | (at_builtin; (refine wpList_append_lies _ rfl _ _ 22 rfl w.heap.size 33 i0 _ 6 64 Tryd.underlying22 hi hz0 hz1 hz2 rfl (by decide) u4 us.length (rcells us) rfl (OW.out _ _ B7.out) ⟨w7.heap.size, 0, none⟩ 1 1 (rrow r).toList rfl rfl (World.news_of_block (cs := rrow r) (heap_alloc_new _ _)) (by simp [Value.oneCell']) (by decide) (by unfold maxLen; omega) (by omega) (by rw [hsz]; omega) (w7.heap.size + 1) (by rw [hsz]) ?_; intro g9 cap9 w9 hown9 gr9 hat9 hlt9; rw [PU.out.1, PU.out.2] at hown9; have D9 := Seg.hid hown9; have G9 := Seg.hid (GW.out _ _ _ B7.out gr9); clear hown9 gr9 hat9 hlt9)))
                go_roundw
                case rel => exact ⟨k + 1, us ++ [r], by omega, by simp; omega, by go_num, by rw [PU.out.2]; exact D9.out, G9.out.1, G9.out.2, PT.out⟩
                case measure => simp [intOf]; omega
            · have b0 : ¬ (x4[m].toNat : Int) = 42 := fun h => h42 (by apply UInt8.toNat_inj.1; have : (42 : UInt8).toNat = 42 := rfl; omega)
              have b1 : ((x4[m].toNat : Int) == 42) = false := by simp only [beq_eq_false_iff_ne]; exact b0
              have SF : star (wd ws 4) = false := by unfold star; rw [← T4.out, size_list, LS]; simp [h42]
              obtain ⟨r, hr⟩ : ∃ r, r = mk ws := ⟨_, rfl⟩
              have RE : r = ⟨true, x1, place mayL x2.toList, place onL x3.toList, x4, false⟩ := by rw [hr]; exact MK.out x4 false (by rw [if_neg (by rw [SF]; simp)]; exact E4.out) SF
              rw [← hr] at LM PS
              have WH : Hid (r.who.size ≤ maxLen) := by show _ ≤ _; rw [RE]; exact X1.out
              have NH : Hid (r.name.size ≤ maxLen) := by show _ ≤ _; rw [RE]; show x4.size ≤ _; have := X4.out; unfold maxLen; omega
              obtain ⟨wf, hwf⟩ : ∃ wf, wf = wx := ⟨_, rfl⟩
              have RF : wf.heap[b]? = some (.cells (rrow r) 33 (0, 0)) := by rw [hwf, RE]; exact HRW.out
              have BF : Below w3.heap.size w3 wf := by rw [hwf]; exact BX.out
              clear SF RE hr MK LS h42 b0 hm hz4
              go_upto_region 19 with fail
              rw [← hwf]
              clear q4 q5 f4 f5 k4 HRW BX hblt
              clear hwf
              have RF' := Seg.hid RF
              have BF' := Seg.hid BF
              clear RF BF
              obtain ⟨p0, p1, p2, p3, p4, p5⟩ := sixr RF'.out
              have nw : r.who.size ≤ maxLen := WH.out
              have nn : r.name.size ≤ maxLen := NH.out
              cases ho : okR r with
              | false =>
                have Z : Hid (lnOk z.toList k = false) := by show _ = _; rw [LM.out, ho]
                have CR : Hid (∀ wy, Calls Tryd.prog 14 #[.agg (rrow r)] wy fun e w' => e = .returned (.bool false) ∧ Below wy.heap.size wy w') := fun wy => by have := RuS.rule_any r wy nw nn; rw [ho] at this; exact this
                clear ho
                go_wp2_with (go_at_call 14; refine (CR.out _).mono ?_; rintro e w7 ⟨rfl, b7⟩; have B7 := Seg.hid b7; clear b7)
                go_ret2
                exact NOK.out _ _ _ Z.out (chain (chain (chain BK.out BF'.out) B7.out) (below1 _ _))
              | true =>
                have PT : Hid (parseF (L.drop (k + 1)) (k + 1) (us ++ [r]) = parse t) := by show _ = _; rw [← PS.out, if_pos (by rw [LM.out, ho])]
                have CR : Hid (∀ wy, Calls Tryd.prog 14 #[.agg (rrow r)] wy fun e w' => e = .returned (.bool true) ∧ Below wy.heap.size wy w') := fun wy => by have := RuS.rule_any r wy nw nn; rw [ho] at this; exact this
                clear ho
                have BW : Hid (∀ w7, Below wf.heap.size wf w7 → Below wr.heap.size wr w7) := fun w7 b7 => chain (chain B3.out BF'.out) b7
                have OW : Hid (∀ w7 o1, Below wf.heap.size wf w7 → RRow (w7.alloc o1) w.heap.size u4 us) := fun w7 o1 b7 => rkeep KR.out (fun x _ hx => (chain (BW.out w7 b7) (below1 w7 o1)).block x hx)
                have GW : Hid (∀ w7 o1 w9, Below wf.heap.size wf w7 → (w7.alloc o1).grownBy w9 u4.ownBlock → Below w.heap.size w w9 ∧ Txs w9 gl L) := fun w7 o1 w9 b7 h9 => by
                  have bw := chain (BW.out w7 b7) (below1 w7 o1)
                  refine ⟨(chain KB.out bw).grown h9 (Nat.le_trans KB.out.size bw.size) (fun x hx => ?_), TX.out.keep ?_⟩
                  · rcases KR.out.2 with ⟨h1, _⟩ | ⟨g', cap, cur, h1, h2, _⟩
                    · rw [h1] at hx; cases hx
                    · rw [h1] at hx; cases hx; exact h2
                  · refine (h9.block gl (Nat.lt_of_lt_of_le hgl bw.size) ?_).trans (bw.block gl hgl)
                    intro he
                    obtain ⟨cur', hc'⟩ := TX.out.row.resolve_left (by omega)
                    rcases KR.out.2 with ⟨h1, _⟩ | ⟨g', cap, cur, h1, h2, h3, _⟩
                    · rw [h1] at he; cases he
                    · rw [h1] at he
                      cases he
                      rw [hc'] at h3
                      cases h3
                have PU : Hid (rcells us ++ (rrow r).toList = rcells (us ++ [r]) ∧ us.length + 1 = (us ++ [r]).length) := ⟨(rcells_app us r).symm, by simp⟩
                have hwr : w.heap.size ≤ wr.heap.size := KB.out.size
                go_wp2_with (first | (go_at_call 14; refine (CR.out _).mono ?_; rintro e w7 ⟨rfl, b7⟩; have B7 := Seg.hid b7; obtain ⟨s0, s1, s2, s3, s4, s5⟩ := sixr ((b7.block _ (Array.getElem?_eq_some_iff.1 RF'.out).1).trans RF'.out); have hw7 : w.heap.size ≤ w7.heap.size := Nat.le_trans hwr (BW.out w7 b7).size; clear b7) | (at_builtin; (refine wpList_append_lies _ rfl _ _ 22 rfl w.heap.size 33 i0 _ 6 64 Tryd.underlying22 hi hz0 hz1 hz2 rfl (by decide) u4 us.length (rcells us) rfl (OW.out _ _ B7.out) ⟨w7.heap.size, 0, none⟩ 1 1 (rrow r).toList rfl rfl (World.news_of_block (cs := rrow r) (heap_alloc_new _ _)) (by simp [Value.oneCell']) (by decide) (by unfold maxLen; omega) (by omega) (by rw [hsz]; omega) (w7.heap.size + 1) (by rw [hsz]) ?_; intro g9 cap9 w9 hown9 gr9 hat9 hlt9; rw [PU.out.1, PU.out.2] at hown9; have D9 := Seg.hid hown9; have G9 := Seg.hid (GW.out _ _ _ B7.out gr9); clear hown9 gr9 hat9 hlt9)))
                go_roundw
                case rel => exact ⟨k + 1, us ++ [r], by omega, by simp; omega, by go_num, by rw [PU.out.2]; exact D9.out, G9.out.1, G9.out.2, PT.out⟩
                case measure => simp [intOf]; omega
        clear aK0
        refine wp_region_held_drew (S := (fun w' => w'.cell? ⟨gw, 0, none⟩ = some (.string x0) ∧ w'.cell? ⟨gw, 1, none⟩ = some (.string x1) ∧ w'.cell? ⟨gw, 2, none⟩ = some (.string x2) ∧ w'.cell? ⟨gw, 3, none⟩ = some (.string x3) ∧ w'.cell? ⟨gw, 4, none⟩ = some (.string x4))) (by kernel_rfl) (ST.out _ (Below.refl _ _).drew) (fun hHeld => ?_)
        have B0 : Hid (Below w3.heap.size w3 w3.drew) := (Below.refl _ _).drew
        refine HdK.tke 0 (some 65) (.slice (some ⟨gw, 0, none⟩) 5 c3) rfl rfl ?_
        try simp only [Act.put, List.setIfInBounds_toArray, List.set_cons_zero, List.set_cons_succ]
        refine HdK.tke 1 (some 66) (.pointer (some ⟨gw, 0, none⟩)) rfl rfl ?_
        try simp only [Act.put, List.setIfInBounds_toArray, List.set_cons_zero, List.set_cons_succ]
        refine HdK.tke 2 (some 67) (.string x0) rfl rfl ?_
        try simp only [Act.put, List.setIfInBounds_toArray, List.set_cons_zero, List.set_cons_succ]
        refine HdK.tke 3 (some 68) (.bool true) rfl rfl ?_
        try simp only [Act.put, List.setIfInBounds_toArray, List.set_cons_zero, List.set_cons_succ]
        refine HdK.tke 4 (some 69) (.slice (some ⟨gw, 0, none⟩) 5 c3) rfl rfl ?_
        try simp only [Act.put, List.setIfInBounds_toArray, List.set_cons_zero, List.set_cons_succ]
        refine HdK.tke 5 (some 70) (.pointer (some ⟨gw, 1, none⟩)) rfl rfl ?_
        try simp only [Act.put, List.setIfInBounds_toArray, List.set_cons_zero, List.set_cons_succ]
        refine HdK.tke 6 (some 71) (.string x1) rfl rfl ?_
        try simp only [Act.put, List.setIfInBounds_toArray, List.set_cons_zero, List.set_cons_succ]
        refine HdK.tke 8 (some 73) (.slice (some ⟨gw, 0, none⟩) 5 c3) rfl rfl ?_
        try simp only [Act.put, List.setIfInBounds_toArray, List.set_cons_zero, List.set_cons_succ]
        refine HdK.tke 9 (some 74) (.pointer (some ⟨gw, 2, none⟩)) rfl rfl ?_
        try simp only [Act.put, List.setIfInBounds_toArray, List.set_cons_zero, List.set_cons_succ]
        refine HdK.tke 10 (some 75) (.string x2) rfl rfl ?_
        try simp only [Act.put, List.setIfInBounds_toArray, List.set_cons_zero, List.set_cons_succ]
        refine HdK.tke 13 (some 78) (.slice (some ⟨gw, 0, none⟩) 5 c3) rfl rfl ?_
        try simp only [Act.put, List.setIfInBounds_toArray, List.set_cons_zero, List.set_cons_succ]
        refine HdK.tke 14 (some 79) (.pointer (some ⟨gw, 3, none⟩)) rfl rfl ?_
        try simp only [Act.put, List.setIfInBounds_toArray, List.set_cons_zero, List.set_cons_succ]
        refine HdK.tke 15 (some 80) (.string x3) rfl rfl ?_
        try simp only [Act.put, List.setIfInBounds_toArray, List.set_cons_zero, List.set_cons_succ]
        refine HdK.tke 17 (some 82) (.slice (some ⟨gw, 0, none⟩) 5 c3) rfl rfl ?_
        try simp only [Act.put, List.setIfInBounds_toArray, List.set_cons_zero, List.set_cons_succ]
        refine HdK.tke 18 (some 83) (.pointer (some ⟨gw, 4, none⟩)) rfl rfl ?_
        try simp only [Act.put, List.setIfInBounds_toArray, List.set_cons_zero, List.set_cons_succ]
        refine HdK.tke 19 (some 84) (.string x4) rfl rfl ?_
        try simp only [Act.put, List.setIfInBounds_toArray, List.set_cons_zero, List.set_cons_succ]
        refine wpAnyH_ready (rs := [7, 21]) (by kernel_rfl) (by simp) ?_
        refine AllReadyH.cons (o := { dst := some 72, op := Op.call { callee := Callee.value (Operand.func 12), args := #[], argTypes := #[] }, type := 28, pos := "l11_access.go:97", after := #[], guard := none }) rfl (fun K hK => ?_) (AllReadyH.cons (o := { dst := some 9, op := Op.alloc 33, type := 0, pos := "l11_access.go:97", after := #[], guard := none }) rfl (fun K hK => ?_) AllReadyH.nil)
        · (go_simp; go_at_call 12; refine (CM.out _).mono ?_; rintro e wm ⟨gm, rfl, xx, bb⟩; have XM := Seg.hid xx; have Bwm : Hid (Below w3.heap.size w3 wm) := chain B0.out ⟨bb.os, bb.tape, bb.output, bb.size, bb.block⟩; clear xx bb; try (go_wp2_with fail))
          refine hK.out _ _ (ST.out _ Bwm.out) (fun hHeld => ?_)
          clear hK K
          try simp only [Act.put, List.setIfInBounds_toArray, List.set_cons_zero, List.set_cons_succ]
          refine wpAnyH_ready (rs := [11, 21]) (by kernel_rfl) (by simp) ?_
          refine AllReadyH.cons (o := { dst := some 76, op := Op.call { callee := Callee.value (Operand.func 11), args := #[Operand.tmp 72, Operand.tmp 75], argTypes := #[28, 9] }, type := 3, pos := "l11_access.go:97", after := #[{ on := 7, ground := Ground.data }, { on := 10, ground := Ground.data }, { on := 7, ground := Ground.chain }], guard := none }) rfl (fun K hK => ?_) (AllReadyH.cons (o := { dst := some 9, op := Op.alloc 33, type := 0, pos := "l11_access.go:97", after := #[], guard := none }) rfl (fun K hK => ?_) AllReadyH.nil)
          · (go_simp; go_at_call 11; refine (place_any gm 5 mayL x2 _ rfl (by omega) (by omega) (fun j hj => XM.out _ (by first | exact Below.refl _ _ | exact below1 _ _ | exact ⟨rfl, rfl, rfl, Nat.le_refl _, fun _ _ => rfl⟩) j hj)).mono ?_; rintro e wq ⟨rfl, rfl⟩; try (go_wp2_with fail))
            refine hK.out _ _ (ST.out _ Bwm.out) (fun hHeld => ?_)
            clear hK K
            try simp only [Act.put, List.setIfInBounds_toArray, List.set_cons_zero, List.set_cons_succ]
            refine wpAnyH_ready (rs := [12, 21]) (by kernel_rfl) (by simp) ?_
            refine AllReadyH.cons (o := { dst := some 77, op := Op.call { callee := Callee.value (Operand.func 13), args := #[], argTypes := #[] }, type := 28, pos := "l11_access.go:97", after := #[{ on := 11, ground := Ground.chain }], guard := none }) rfl (fun K hK => ?_) (AllReadyH.cons (o := { dst := some 9, op := Op.alloc 33, type := 0, pos := "l11_access.go:97", after := #[], guard := none }) rfl (fun K hK => ?_) AllReadyH.nil)
            · (go_simp; go_at_call 13; refine (CO.out _).mono ?_; rintro e wo ⟨go, rfl, xx, bb⟩; have XO := Seg.hid xx; have Bwo : Hid (Below w3.heap.size w3 wo) := chain Bwm.out ⟨bb.os, bb.tape, bb.output, bb.size, bb.block⟩; clear xx bb; try (go_wp2_with fail))
              refine hK.out _ _ (ST.out _ Bwo.out) (fun hHeld => ?_)
              clear hK K
              try simp only [Act.put, List.setIfInBounds_toArray, List.set_cons_zero, List.set_cons_succ]
              refine wpAnyH_ready (rs := [16, 21]) (by kernel_rfl) (by simp) ?_
              refine AllReadyH.cons (o := { dst := some 81, op := Op.call { callee := Callee.value (Operand.func 11), args := #[Operand.tmp 77, Operand.tmp 80], argTypes := #[28, 9] }, type := 3, pos := "l11_access.go:97", after := #[{ on := 12, ground := Ground.data }, { on := 15, ground := Ground.data }, { on := 12, ground := Ground.chain }], guard := none }) rfl (fun K hK => ?_) (AllReadyH.cons (o := { dst := some 9, op := Op.alloc 33, type := 0, pos := "l11_access.go:97", after := #[], guard := none }) rfl (fun K hK => ?_) AllReadyH.nil)
              · (go_simp; go_at_call 11; refine (place_any go 3 onL x3 _ rfl (by omega) (by omega) (fun j hj => XO.out _ (by first | exact Below.refl _ _ | exact below1 _ _ | exact ⟨rfl, rfl, rfl, Nat.le_refl _, fun _ _ => rfl⟩) j hj)).mono ?_; rintro e wq ⟨rfl, rfl⟩; try (go_wp2_with fail))
                refine hK.out _ _ (ST.out _ Bwo.out) (fun hHeld => ?_)
                clear hK K
                try simp only [Act.put, List.setIfInBounds_toArray, List.set_cons_zero, List.set_cons_succ]
                refine HdK.tke 20 (some 85) (.agg (rrow ⟨true, x1, place mayL x2.toList, place onL x3.toList, x4, false⟩)) rfl rfl ?_
                try simp only [Act.put, List.setIfInBounds_toArray, List.set_cons_zero, List.set_cons_succ]
                refine wpAnyH_ready (rs := [21]) (by kernel_rfl) (by simp) ?_
                refine AllReadyH.cons (o := { dst := some 9, op := Op.alloc 33, type := 0, pos := "l11_access.go:97", after := #[], guard := none }) rfl (fun K hK => ?_) AllReadyH.nil
                have BA : Hid (Below w3.heap.size w3 (wo.alloc (.cells zrule 33 (0, 0)))) := chain Bwo.out (below1 wo _)
                have KA : Hid ((wo.alloc (.cells zrule 33 (0, 0))).heap[wo.heap.size]? = some (.cells zrule 33 (0, 0))) := heap_alloc_new _ _
                have LB : Hid (w3.heap.size ≤ wo.heap.size) := by show _ ≤ _; first | exact Nat.le_refl _ | exact Bwo.out.size
                (go_simp; try (go_wp2_with fail))
                refine hK.out _ _ (ST.out _ BA.out) (fun hHeld => ?_)
                clear hK K
                try simp only [Act.put, List.setIfInBounds_toArray, List.set_cons_zero, List.set_cons_succ]
                refine wpAnyH_ready (rs := [22]) (by kernel_rfl) (by simp) ?_
                refine AllReadyH.cons (o := { dst := none, op := Op.store 33 (Operand.tmp 9) (Operand.tmp 85), type := 0, pos := "l11_access.go:97", after := #[{ on := 21, ground := Ground.data }, { on := 20, ground := Ground.data }, { on := 16, ground := Ground.chain }, { on := 0, ground := Ground.phase }, { on := 1, ground := Ground.phase }, { on := 2, ground := Ground.phase }, { on := 3, ground := Ground.phase }, { on := 4, ground := Ground.phase }, { on := 5, ground := Ground.phase }, { on := 6, ground := Ground.phase }, { on := 7, ground := Ground.phase }, { on := 8, ground := Ground.phase }, { on := 9, ground := Ground.phase }, { on := 10, ground := Ground.phase }, { on := 11, ground := Ground.phase }, { on := 12, ground := Ground.phase }, { on := 13, ground := Ground.phase }, { on := 14, ground := Ground.phase }, { on := 15, ground := Ground.phase }, { on := 16, ground := Ground.phase }, { on := 17, ground := Ground.phase }, { on := 18, ground := Ground.phase }, { on := 19, ground := Ground.phase }, { on := 20, ground := Ground.phase }, { on := 21, ground := Ground.phase }], guard := none }) rfl (fun K hK => ?_) AllReadyH.nil
                refine HdK.step_store_mid rfl 33 _ _ rfl wo.heap.size 0 (rrow ⟨true, x1, place mayL x2.toList, place onL x3.toList, x4, false⟩) rfl rfl (Cells.there_of (cs := zrule) KA.out) infoRul (by simp [rrow, Value.oneCell']) ?_
                have BS := Seg.hid (Cells.below_setCells (B := w3.heap.size) (g := wo.heap.size) (by first | exact Nat.le_refl _ | exact BA.out.size | exact LB.out) (rrow ⟨true, x1, place mayL x2.toList, place onL x3.toList, x4, false⟩).toList 0 w3 _ BA.out)
                refine hK.out _ _ (ST.out _ BS.out) (fun hHeld => ?_)
                clear hK K
                refine wpAnyH_done (by kernel_rfl) ?_ _
                exact J _ _ _ _ _ _ _ _ _ _ _ _ _ _ _ _ _ _ _ _ _ _ _ _ _ _ _ _ _ _ _ _ _ _ _ _ _ _ _ _ _ _ _ _ _ _ _ _ _ _ _ _ _ _ _ _ _ _ _ _ _ _ _ _ _ _ _ _ _ _ _ _ _ _ _ _ _ _ _ _ _ _ _ _ _ _ _ _ _ _ _ _ _ _ _ _ _ _ _ _ _ wo.heap.size _ (by first | exact Nat.le_refl _ | exact BA.out.size | exact LB.out) BS.out (Cells.whole (cs := zrule) (vs := rrow ⟨true, x1, place mayL x2.toList, place onL x3.toList, x4, false⟩) KA.out rfl)
              · have BA : Hid (Below w3.heap.size w3 (wo.alloc (.cells zrule 33 (0, 0)))) := chain Bwo.out (below1 wo _)
                have KA : Hid ((wo.alloc (.cells zrule 33 (0, 0))).heap[wo.heap.size]? = some (.cells zrule 33 (0, 0))) := heap_alloc_new _ _
                have LB : Hid (w3.heap.size ≤ wo.heap.size) := by show _ ≤ _; first | exact Nat.le_refl _ | exact Bwo.out.size
                (go_simp; try (go_wp2_with fail))
                refine hK.out _ _ (ST.out _ BA.out) (fun hHeld => ?_)
                clear hK K
                try simp only [Act.put, List.setIfInBounds_toArray, List.set_cons_zero, List.set_cons_succ]
                refine wpAnyH_ready (rs := [16]) (by kernel_rfl) (by simp) ?_
                refine AllReadyH.cons (o := { dst := some 81, op := Op.call { callee := Callee.value (Operand.func 11), args := #[Operand.tmp 77, Operand.tmp 80], argTypes := #[28, 9] }, type := 3, pos := "l11_access.go:97", after := #[{ on := 12, ground := Ground.data }, { on := 15, ground := Ground.data }, { on := 12, ground := Ground.chain }], guard := none }) rfl (fun K hK => ?_) AllReadyH.nil
                (go_simp; go_at_call 11; refine (place_any go 3 onL x3 _ rfl (by omega) (by omega) (fun j hj => XO.out _ (by first | exact Below.refl _ _ | exact below1 _ _ | exact ⟨rfl, rfl, rfl, Nat.le_refl _, fun _ _ => rfl⟩) j hj)).mono ?_; rintro e wq ⟨rfl, rfl⟩; try (go_wp2_with fail))
                refine hK.out _ _ (ST.out _ BA.out) (fun hHeld => ?_)
                clear hK K
                try simp only [Act.put, List.setIfInBounds_toArray, List.set_cons_zero, List.set_cons_succ]
                refine HdK.tke 20 (some 85) (.agg (rrow ⟨true, x1, place mayL x2.toList, place onL x3.toList, x4, false⟩)) rfl rfl ?_
                try simp only [Act.put, List.setIfInBounds_toArray, List.set_cons_zero, List.set_cons_succ]
                refine wpAnyH_ready (rs := [22]) (by kernel_rfl) (by simp) ?_
                refine AllReadyH.cons (o := { dst := none, op := Op.store 33 (Operand.tmp 9) (Operand.tmp 85), type := 0, pos := "l11_access.go:97", after := #[{ on := 21, ground := Ground.data }, { on := 20, ground := Ground.data }, { on := 16, ground := Ground.chain }, { on := 0, ground := Ground.phase }, { on := 1, ground := Ground.phase }, { on := 2, ground := Ground.phase }, { on := 3, ground := Ground.phase }, { on := 4, ground := Ground.phase }, { on := 5, ground := Ground.phase }, { on := 6, ground := Ground.phase }, { on := 7, ground := Ground.phase }, { on := 8, ground := Ground.phase }, { on := 9, ground := Ground.phase }, { on := 10, ground := Ground.phase }, { on := 11, ground := Ground.phase }, { on := 12, ground := Ground.phase }, { on := 13, ground := Ground.phase }, { on := 14, ground := Ground.phase }, { on := 15, ground := Ground.phase }, { on := 16, ground := Ground.phase }, { on := 17, ground := Ground.phase }, { on := 18, ground := Ground.phase }, { on := 19, ground := Ground.phase }, { on := 20, ground := Ground.phase }, { on := 21, ground := Ground.phase }], guard := none }) rfl (fun K hK => ?_) AllReadyH.nil
                refine HdK.step_store_mid rfl 33 _ _ rfl wo.heap.size 0 (rrow ⟨true, x1, place mayL x2.toList, place onL x3.toList, x4, false⟩) rfl rfl (Cells.there_of (cs := zrule) KA.out) infoRul (by simp [rrow, Value.oneCell']) ?_
                have BS := Seg.hid (Cells.below_setCells (B := w3.heap.size) (g := wo.heap.size) (by first | exact Nat.le_refl _ | exact BA.out.size | exact LB.out) (rrow ⟨true, x1, place mayL x2.toList, place onL x3.toList, x4, false⟩).toList 0 w3 _ BA.out)
                refine hK.out _ _ (ST.out _ BS.out) (fun hHeld => ?_)
                clear hK K
                refine wpAnyH_done (by kernel_rfl) ?_ _
                exact J _ _ _ _ _ _ _ _ _ _ _ _ _ _ _ _ _ _ _ _ _ _ _ _ _ _ _ _ _ _ _ _ _ _ _ _ _ _ _ _ _ _ _ _ _ _ _ _ _ _ _ _ _ _ _ _ _ _ _ _ _ _ _ _ _ _ _ _ _ _ _ _ _ _ _ _ _ _ _ _ _ _ _ _ _ _ _ _ _ _ _ _ _ _ _ _ _ _ _ _ _ wo.heap.size _ (by first | exact Nat.le_refl _ | exact BA.out.size | exact LB.out) BS.out (Cells.whole (cs := zrule) (vs := rrow ⟨true, x1, place mayL x2.toList, place onL x3.toList, x4, false⟩) KA.out rfl)
            · have BA : Hid (Below w3.heap.size w3 (wm.alloc (.cells zrule 33 (0, 0)))) := chain Bwm.out (below1 wm _)
              have KA : Hid ((wm.alloc (.cells zrule 33 (0, 0))).heap[wm.heap.size]? = some (.cells zrule 33 (0, 0))) := heap_alloc_new _ _
              have LB : Hid (w3.heap.size ≤ wm.heap.size) := by show _ ≤ _; first | exact Nat.le_refl _ | exact Bwm.out.size
              (go_simp; try (go_wp2_with fail))
              refine hK.out _ _ (ST.out _ BA.out) (fun hHeld => ?_)
              clear hK K
              try simp only [Act.put, List.setIfInBounds_toArray, List.set_cons_zero, List.set_cons_succ]
              refine wpAnyH_ready (rs := [12]) (by kernel_rfl) (by simp) ?_
              refine AllReadyH.cons (o := { dst := some 77, op := Op.call { callee := Callee.value (Operand.func 13), args := #[], argTypes := #[] }, type := 28, pos := "l11_access.go:97", after := #[{ on := 11, ground := Ground.chain }], guard := none }) rfl (fun K hK => ?_) AllReadyH.nil
              (go_simp; go_at_call 13; refine (CO.out _).mono ?_; rintro e wo ⟨go, rfl, xx, bb⟩; have XO := Seg.hid xx; have Bwoa : Hid (Below w3.heap.size w3 wo) := chain BA.out ⟨bb.os, bb.tape, bb.output, bb.size, bb.block⟩; have Kwo : Hid (wo.heap[wm.heap.size]? = some (.cells zrule 33 (0, 0))) := (bb.block _ (Array.getElem?_eq_some_iff.1 KA.out).1).trans KA.out; clear xx bb; try (go_wp2_with fail))
              refine hK.out _ _ (ST.out _ Bwoa.out) (fun hHeld => ?_)
              clear hK K
              try simp only [Act.put, List.setIfInBounds_toArray, List.set_cons_zero, List.set_cons_succ]
              refine wpAnyH_ready (rs := [16]) (by kernel_rfl) (by simp) ?_
              refine AllReadyH.cons (o := { dst := some 81, op := Op.call { callee := Callee.value (Operand.func 11), args := #[Operand.tmp 77, Operand.tmp 80], argTypes := #[28, 9] }, type := 3, pos := "l11_access.go:97", after := #[{ on := 12, ground := Ground.data }, { on := 15, ground := Ground.data }, { on := 12, ground := Ground.chain }], guard := none }) rfl (fun K hK => ?_) AllReadyH.nil
              (go_simp; go_at_call 11; refine (place_any go 3 onL x3 _ rfl (by omega) (by omega) (fun j hj => XO.out _ (by first | exact Below.refl _ _ | exact below1 _ _ | exact ⟨rfl, rfl, rfl, Nat.le_refl _, fun _ _ => rfl⟩) j hj)).mono ?_; rintro e wq ⟨rfl, rfl⟩; try (go_wp2_with fail))
              refine hK.out _ _ (ST.out _ Bwoa.out) (fun hHeld => ?_)
              clear hK K
              try simp only [Act.put, List.setIfInBounds_toArray, List.set_cons_zero, List.set_cons_succ]
              refine HdK.tke 20 (some 85) (.agg (rrow ⟨true, x1, place mayL x2.toList, place onL x3.toList, x4, false⟩)) rfl rfl ?_
              try simp only [Act.put, List.setIfInBounds_toArray, List.set_cons_zero, List.set_cons_succ]
              refine wpAnyH_ready (rs := [22]) (by kernel_rfl) (by simp) ?_
              refine AllReadyH.cons (o := { dst := none, op := Op.store 33 (Operand.tmp 9) (Operand.tmp 85), type := 0, pos := "l11_access.go:97", after := #[{ on := 21, ground := Ground.data }, { on := 20, ground := Ground.data }, { on := 16, ground := Ground.chain }, { on := 0, ground := Ground.phase }, { on := 1, ground := Ground.phase }, { on := 2, ground := Ground.phase }, { on := 3, ground := Ground.phase }, { on := 4, ground := Ground.phase }, { on := 5, ground := Ground.phase }, { on := 6, ground := Ground.phase }, { on := 7, ground := Ground.phase }, { on := 8, ground := Ground.phase }, { on := 9, ground := Ground.phase }, { on := 10, ground := Ground.phase }, { on := 11, ground := Ground.phase }, { on := 12, ground := Ground.phase }, { on := 13, ground := Ground.phase }, { on := 14, ground := Ground.phase }, { on := 15, ground := Ground.phase }, { on := 16, ground := Ground.phase }, { on := 17, ground := Ground.phase }, { on := 18, ground := Ground.phase }, { on := 19, ground := Ground.phase }, { on := 20, ground := Ground.phase }, { on := 21, ground := Ground.phase }], guard := none }) rfl (fun K hK => ?_) AllReadyH.nil
              refine HdK.step_store_mid rfl 33 _ _ rfl wm.heap.size 0 (rrow ⟨true, x1, place mayL x2.toList, place onL x3.toList, x4, false⟩) rfl rfl (Cells.there_of (cs := zrule) Kwo.out) infoRul (by simp [rrow, Value.oneCell']) ?_
              have BS := Seg.hid (Cells.below_setCells (B := w3.heap.size) (g := wm.heap.size) (by first | exact Nat.le_refl _ | exact Bwoa.out.size | exact LB.out) (rrow ⟨true, x1, place mayL x2.toList, place onL x3.toList, x4, false⟩).toList 0 w3 _ Bwoa.out)
              refine hK.out _ _ (ST.out _ BS.out) (fun hHeld => ?_)
              clear hK K
              refine wpAnyH_done (by kernel_rfl) ?_ _
              exact J _ _ _ _ _ _ _ _ _ _ _ _ _ _ _ _ _ _ _ _ _ _ _ _ _ _ _ _ _ _ _ _ _ _ _ _ _ _ _ _ _ _ _ _ _ _ _ _ _ _ _ _ _ _ _ _ _ _ _ _ _ _ _ _ _ _ _ _ _ _ _ _ _ _ _ _ _ _ _ _ _ _ _ _ _ _ _ _ _ _ _ _ _ _ _ _ _ _ _ _ _ wm.heap.size _ (by first | exact Nat.le_refl _ | exact Bwoa.out.size | exact LB.out) BS.out (Cells.whole (cs := zrule) (vs := rrow ⟨true, x1, place mayL x2.toList, place onL x3.toList, x4, false⟩) Kwo.out rfl)
          · have BA : Hid (Below w3.heap.size w3 (wm.alloc (.cells zrule 33 (0, 0)))) := chain Bwm.out (below1 wm _)
            have KA : Hid ((wm.alloc (.cells zrule 33 (0, 0))).heap[wm.heap.size]? = some (.cells zrule 33 (0, 0))) := heap_alloc_new _ _
            have LB : Hid (w3.heap.size ≤ wm.heap.size) := by show _ ≤ _; first | exact Nat.le_refl _ | exact Bwm.out.size
            (go_simp; try (go_wp2_with fail))
            refine hK.out _ _ (ST.out _ BA.out) (fun hHeld => ?_)
            clear hK K
            try simp only [Act.put, List.setIfInBounds_toArray, List.set_cons_zero, List.set_cons_succ]
            refine wpAnyH_ready (rs := [11]) (by kernel_rfl) (by simp) ?_
            refine AllReadyH.cons (o := { dst := some 76, op := Op.call { callee := Callee.value (Operand.func 11), args := #[Operand.tmp 72, Operand.tmp 75], argTypes := #[28, 9] }, type := 3, pos := "l11_access.go:97", after := #[{ on := 7, ground := Ground.data }, { on := 10, ground := Ground.data }, { on := 7, ground := Ground.chain }], guard := none }) rfl (fun K hK => ?_) AllReadyH.nil
            (go_simp; go_at_call 11; refine (place_any gm 5 mayL x2 _ rfl (by omega) (by omega) (fun j hj => XM.out _ (by first | exact Below.refl _ _ | exact below1 _ _ | exact ⟨rfl, rfl, rfl, Nat.le_refl _, fun _ _ => rfl⟩) j hj)).mono ?_; rintro e wq ⟨rfl, rfl⟩; try (go_wp2_with fail))
            refine hK.out _ _ (ST.out _ BA.out) (fun hHeld => ?_)
            clear hK K
            try simp only [Act.put, List.setIfInBounds_toArray, List.set_cons_zero, List.set_cons_succ]
            refine wpAnyH_ready (rs := [12]) (by kernel_rfl) (by simp) ?_
            refine AllReadyH.cons (o := { dst := some 77, op := Op.call { callee := Callee.value (Operand.func 13), args := #[], argTypes := #[] }, type := 28, pos := "l11_access.go:97", after := #[{ on := 11, ground := Ground.chain }], guard := none }) rfl (fun K hK => ?_) AllReadyH.nil
            (go_simp; go_at_call 13; refine (CO.out _).mono ?_; rintro e wo ⟨go, rfl, xx, bb⟩; have XO := Seg.hid xx; have Bwoa : Hid (Below w3.heap.size w3 wo) := chain BA.out ⟨bb.os, bb.tape, bb.output, bb.size, bb.block⟩; have Kwo : Hid (wo.heap[wm.heap.size]? = some (.cells zrule 33 (0, 0))) := (bb.block _ (Array.getElem?_eq_some_iff.1 KA.out).1).trans KA.out; clear xx bb; try (go_wp2_with fail))
            refine hK.out _ _ (ST.out _ Bwoa.out) (fun hHeld => ?_)
            clear hK K
            try simp only [Act.put, List.setIfInBounds_toArray, List.set_cons_zero, List.set_cons_succ]
            refine wpAnyH_ready (rs := [16]) (by kernel_rfl) (by simp) ?_
            refine AllReadyH.cons (o := { dst := some 81, op := Op.call { callee := Callee.value (Operand.func 11), args := #[Operand.tmp 77, Operand.tmp 80], argTypes := #[28, 9] }, type := 3, pos := "l11_access.go:97", after := #[{ on := 12, ground := Ground.data }, { on := 15, ground := Ground.data }, { on := 12, ground := Ground.chain }], guard := none }) rfl (fun K hK => ?_) AllReadyH.nil
            (go_simp; go_at_call 11; refine (place_any go 3 onL x3 _ rfl (by omega) (by omega) (fun j hj => XO.out _ (by first | exact Below.refl _ _ | exact below1 _ _ | exact ⟨rfl, rfl, rfl, Nat.le_refl _, fun _ _ => rfl⟩) j hj)).mono ?_; rintro e wq ⟨rfl, rfl⟩; try (go_wp2_with fail))
            refine hK.out _ _ (ST.out _ Bwoa.out) (fun hHeld => ?_)
            clear hK K
            try simp only [Act.put, List.setIfInBounds_toArray, List.set_cons_zero, List.set_cons_succ]
            refine HdK.tke 20 (some 85) (.agg (rrow ⟨true, x1, place mayL x2.toList, place onL x3.toList, x4, false⟩)) rfl rfl ?_
            try simp only [Act.put, List.setIfInBounds_toArray, List.set_cons_zero, List.set_cons_succ]
            refine wpAnyH_ready (rs := [22]) (by kernel_rfl) (by simp) ?_
            refine AllReadyH.cons (o := { dst := none, op := Op.store 33 (Operand.tmp 9) (Operand.tmp 85), type := 0, pos := "l11_access.go:97", after := #[{ on := 21, ground := Ground.data }, { on := 20, ground := Ground.data }, { on := 16, ground := Ground.chain }, { on := 0, ground := Ground.phase }, { on := 1, ground := Ground.phase }, { on := 2, ground := Ground.phase }, { on := 3, ground := Ground.phase }, { on := 4, ground := Ground.phase }, { on := 5, ground := Ground.phase }, { on := 6, ground := Ground.phase }, { on := 7, ground := Ground.phase }, { on := 8, ground := Ground.phase }, { on := 9, ground := Ground.phase }, { on := 10, ground := Ground.phase }, { on := 11, ground := Ground.phase }, { on := 12, ground := Ground.phase }, { on := 13, ground := Ground.phase }, { on := 14, ground := Ground.phase }, { on := 15, ground := Ground.phase }, { on := 16, ground := Ground.phase }, { on := 17, ground := Ground.phase }, { on := 18, ground := Ground.phase }, { on := 19, ground := Ground.phase }, { on := 20, ground := Ground.phase }, { on := 21, ground := Ground.phase }], guard := none }) rfl (fun K hK => ?_) AllReadyH.nil
            refine HdK.step_store_mid rfl 33 _ _ rfl wm.heap.size 0 (rrow ⟨true, x1, place mayL x2.toList, place onL x3.toList, x4, false⟩) rfl rfl (Cells.there_of (cs := zrule) Kwo.out) infoRul (by simp [rrow, Value.oneCell']) ?_
            have BS := Seg.hid (Cells.below_setCells (B := w3.heap.size) (g := wm.heap.size) (by first | exact Nat.le_refl _ | exact Bwoa.out.size | exact LB.out) (rrow ⟨true, x1, place mayL x2.toList, place onL x3.toList, x4, false⟩).toList 0 w3 _ Bwoa.out)
            refine hK.out _ _ (ST.out _ BS.out) (fun hHeld => ?_)
            clear hK K
            refine wpAnyH_done (by kernel_rfl) ?_ _
            exact J _ _ _ _ _ _ _ _ _ _ _ _ _ _ _ _ _ _ _ _ _ _ _ _ _ _ _ _ _ _ _ _ _ _ _ _ _ _ _ _ _ _ _ _ _ _ _ _ _ _ _ _ _ _ _ _ _ _ _ _ _ _ _ _ _ _ _ _ _ _ _ _ _ _ _ _ _ _ _ _ _ _ _ _ _ _ _ _ _ _ _ _ _ _ _ _ _ _ _ _ _ wm.heap.size _ (by first | exact Nat.le_refl _ | exact Bwoa.out.size | exact LB.out) BS.out (Cells.whole (cs := zrule) (vs := rrow ⟨true, x1, place mayL x2.toList, place onL x3.toList, x4, false⟩) Kwo.out rfl)
        · have BA : Hid (Below w3.heap.size w3 ((w3.alloc (.cells zrule 33 (0, 0))).drew)) := (below1 w3 _).drew
          have KA : Hid (((w3.alloc (.cells zrule 33 (0, 0))).drew).heap[w3.heap.size]? = some (.cells zrule 33 (0, 0))) := heap_alloc_new _ _
          have LB : Hid (w3.heap.size ≤ w3.heap.size) := by show _ ≤ _; first | exact Nat.le_refl _ | exact B0.out.size
          (go_simp; try (go_wp2_with fail))
          refine hK.out _ _ (ST.out _ BA.out) (fun hHeld => ?_)
          clear hK K
          try simp only [Act.put, List.setIfInBounds_toArray, List.set_cons_zero, List.set_cons_succ]
          refine wpAnyH_ready (rs := [7]) (by kernel_rfl) (by simp) ?_
          refine AllReadyH.cons (o := { dst := some 72, op := Op.call { callee := Callee.value (Operand.func 12), args := #[], argTypes := #[] }, type := 28, pos := "l11_access.go:97", after := #[], guard := none }) rfl (fun K hK => ?_) AllReadyH.nil
          (go_simp; go_at_call 12; refine (CM.out _).mono ?_; rintro e wm ⟨gm, rfl, xx, bb⟩; have XM := Seg.hid xx; have Bwma : Hid (Below w3.heap.size w3 wm) := chain BA.out ⟨bb.os, bb.tape, bb.output, bb.size, bb.block⟩; have Kwm : Hid (wm.heap[w3.heap.size]? = some (.cells zrule 33 (0, 0))) := (bb.block _ (Array.getElem?_eq_some_iff.1 KA.out).1).trans KA.out; clear xx bb; try (go_wp2_with fail))
          refine hK.out _ _ (ST.out _ Bwma.out) (fun hHeld => ?_)
          clear hK K
          try simp only [Act.put, List.setIfInBounds_toArray, List.set_cons_zero, List.set_cons_succ]
          refine wpAnyH_ready (rs := [11]) (by kernel_rfl) (by simp) ?_
          refine AllReadyH.cons (o := { dst := some 76, op := Op.call { callee := Callee.value (Operand.func 11), args := #[Operand.tmp 72, Operand.tmp 75], argTypes := #[28, 9] }, type := 3, pos := "l11_access.go:97", after := #[{ on := 7, ground := Ground.data }, { on := 10, ground := Ground.data }, { on := 7, ground := Ground.chain }], guard := none }) rfl (fun K hK => ?_) AllReadyH.nil
          (go_simp; go_at_call 11; refine (place_any gm 5 mayL x2 _ rfl (by omega) (by omega) (fun j hj => XM.out _ (by first | exact Below.refl _ _ | exact below1 _ _ | exact ⟨rfl, rfl, rfl, Nat.le_refl _, fun _ _ => rfl⟩) j hj)).mono ?_; rintro e wq ⟨rfl, rfl⟩; try (go_wp2_with fail))
          refine hK.out _ _ (ST.out _ Bwma.out) (fun hHeld => ?_)
          clear hK K
          try simp only [Act.put, List.setIfInBounds_toArray, List.set_cons_zero, List.set_cons_succ]
          refine wpAnyH_ready (rs := [12]) (by kernel_rfl) (by simp) ?_
          refine AllReadyH.cons (o := { dst := some 77, op := Op.call { callee := Callee.value (Operand.func 13), args := #[], argTypes := #[] }, type := 28, pos := "l11_access.go:97", after := #[{ on := 11, ground := Ground.chain }], guard := none }) rfl (fun K hK => ?_) AllReadyH.nil
          (go_simp; go_at_call 13; refine (CO.out _).mono ?_; rintro e wo ⟨go, rfl, xx, bb⟩; have XO := Seg.hid xx; have Bwoa : Hid (Below w3.heap.size w3 wo) := chain Bwma.out ⟨bb.os, bb.tape, bb.output, bb.size, bb.block⟩; have Kwo : Hid (wo.heap[w3.heap.size]? = some (.cells zrule 33 (0, 0))) := (bb.block _ (Array.getElem?_eq_some_iff.1 Kwm.out).1).trans Kwm.out; clear xx bb; try (go_wp2_with fail))
          refine hK.out _ _ (ST.out _ Bwoa.out) (fun hHeld => ?_)
          clear hK K
          try simp only [Act.put, List.setIfInBounds_toArray, List.set_cons_zero, List.set_cons_succ]
          refine wpAnyH_ready (rs := [16]) (by kernel_rfl) (by simp) ?_
          refine AllReadyH.cons (o := { dst := some 81, op := Op.call { callee := Callee.value (Operand.func 11), args := #[Operand.tmp 77, Operand.tmp 80], argTypes := #[28, 9] }, type := 3, pos := "l11_access.go:97", after := #[{ on := 12, ground := Ground.data }, { on := 15, ground := Ground.data }, { on := 12, ground := Ground.chain }], guard := none }) rfl (fun K hK => ?_) AllReadyH.nil
          (go_simp; go_at_call 11; refine (place_any go 3 onL x3 _ rfl (by omega) (by omega) (fun j hj => XO.out _ (by first | exact Below.refl _ _ | exact below1 _ _ | exact ⟨rfl, rfl, rfl, Nat.le_refl _, fun _ _ => rfl⟩) j hj)).mono ?_; rintro e wq ⟨rfl, rfl⟩; try (go_wp2_with fail))
          refine hK.out _ _ (ST.out _ Bwoa.out) (fun hHeld => ?_)
          clear hK K
          try simp only [Act.put, List.setIfInBounds_toArray, List.set_cons_zero, List.set_cons_succ]
          refine HdK.tke 20 (some 85) (.agg (rrow ⟨true, x1, place mayL x2.toList, place onL x3.toList, x4, false⟩)) rfl rfl ?_
          try simp only [Act.put, List.setIfInBounds_toArray, List.set_cons_zero, List.set_cons_succ]
          refine wpAnyH_ready (rs := [22]) (by kernel_rfl) (by simp) ?_
          refine AllReadyH.cons (o := { dst := none, op := Op.store 33 (Operand.tmp 9) (Operand.tmp 85), type := 0, pos := "l11_access.go:97", after := #[{ on := 21, ground := Ground.data }, { on := 20, ground := Ground.data }, { on := 16, ground := Ground.chain }, { on := 0, ground := Ground.phase }, { on := 1, ground := Ground.phase }, { on := 2, ground := Ground.phase }, { on := 3, ground := Ground.phase }, { on := 4, ground := Ground.phase }, { on := 5, ground := Ground.phase }, { on := 6, ground := Ground.phase }, { on := 7, ground := Ground.phase }, { on := 8, ground := Ground.phase }, { on := 9, ground := Ground.phase }, { on := 10, ground := Ground.phase }, { on := 11, ground := Ground.phase }, { on := 12, ground := Ground.phase }, { on := 13, ground := Ground.phase }, { on := 14, ground := Ground.phase }, { on := 15, ground := Ground.phase }, { on := 16, ground := Ground.phase }, { on := 17, ground := Ground.phase }, { on := 18, ground := Ground.phase }, { on := 19, ground := Ground.phase }, { on := 20, ground := Ground.phase }, { on := 21, ground := Ground.phase }], guard := none }) rfl (fun K hK => ?_) AllReadyH.nil
          refine HdK.step_store_mid rfl 33 _ _ rfl w3.heap.size 0 (rrow ⟨true, x1, place mayL x2.toList, place onL x3.toList, x4, false⟩) rfl rfl (Cells.there_of (cs := zrule) Kwo.out) infoRul (by simp [rrow, Value.oneCell']) ?_
          have BS := Seg.hid (Cells.below_setCells (B := w3.heap.size) (g := w3.heap.size) (by first | exact Nat.le_refl _ | exact Bwoa.out.size | exact LB.out) (rrow ⟨true, x1, place mayL x2.toList, place onL x3.toList, x4, false⟩).toList 0 w3 _ Bwoa.out)
          refine hK.out _ _ (ST.out _ BS.out) (fun hHeld => ?_)
          clear hK K
          refine wpAnyH_done (by kernel_rfl) ?_ _
          exact J _ _ _ _ _ _ _ _ _ _ _ _ _ _ _ _ _ _ _ _ _ _ _ _ _ _ _ _ _ _ _ _ _ _ _ _ _ _ _ _ _ _ _ _ _ _ _ _ _ _ _ _ _ _ _ _ _ _ _ _ _ _ _ _ _ _ _ _ _ _ _ _ _ _ _ _ _ _ _ _ _ _ _ _ _ _ _ _ _ _ _ _ _ _ _ _ _ _ _ _ _ w3.heap.size _ (by first | exact Nat.le_refl _ | exact Bwoa.out.size | exact LB.out) BS.out (Cells.whole (cs := zrule) (vs := rrow ⟨true, x1, place mayL x2.toList, place onL x3.toList, x4, false⟩) Kwo.out rfl)
    · have Z : Hid ((us, 0) = parse t) := by
        have := HR.out.2.2.2
        rw [parse_end (by omega)] at this
        exact this
      have RO := Seg.hid (rules_own HR.out.1 (by omega))
      have KB := Seg.hid HR.out.2.1
      clear HR
      go_wp2
      go_ret2
      exact ⟨_, by rw [← Z.out]; rfl, by rw [← Z.out]; exact RO.out, KB.out⟩
end Go.Proofs.YtaninhajnfgkkaaDoor.PrS
