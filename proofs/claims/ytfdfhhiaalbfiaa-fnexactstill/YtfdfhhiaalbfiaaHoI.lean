/- The program's lists of what members have; who holds a slot; how many have moved. -/
import Derived.Test.YtfdfhhiaalbfiaaHoM
import Derived.Test.YtfdfhhiaalbfiaaTSltD
import Derived.Deep.AppendLies
namespace Go.Proofs.Ytfdfhhiaalbfiaa.HoI
set_option maxRecDepth 8000
open Go.RowKit Go.Maps
open Ls Lp WnP HoP HoM
open Recs (hsz below1 below2 chain)
set_option linter.unusedVariables false
theorem own_keep {ty nf : Nat} {w w' : World} {base n : Nat} {v : Value} {xs : List Value} (h : w.ownsRow base ty nf v n xs) (hk : ∀ g, base ≤ g → g < w.heap.size → w'.heap[g]? = w.heap[g]?) : w'.ownsRow base ty nf v n xs := by
  refine ⟨h.1, ?_⟩
  rcases h.2 with hn | ⟨g', cap, cur, h1, hbs, hgg, rest⟩
  · exact .inl hn
  · exact .inr ⟨g', cap, cur, h1, hbs, by rw [hk g' hbs (Array.getElem?_eq_some_iff.1 hgg).1]; exact hgg, rest⟩
theorem lists_of {w w' : World} {base : Nat} {S : Nat → Prop} {v : Value} {us : List (List Slt)} {H : Nat → Value} (hn : us.length ≤ 9223372036854775807) (ho : w'.ownsRow base 65 1 v us.length ((List.range us.length).map H)) (hS : ∀ g, S g → g < w.heap.size) (hb : Below w.heap.size w w') (he : ∀ i, i < us.length → LAt 2 ESlt w S (H i) (us.getD i default)) :
    LAt 1 ESlt2 w' (fun g => g < w'.heap.size) v us := by
  refine ⟨hn, ?_⟩
  rcases ho.2 with ⟨h1, h2⟩ | ⟨g, cap, cur, h1, h2, h3, h4, h5, h6, h7⟩
  · exact ⟨none, 0, by rw [h1, h2], .inl h2⟩
  · refine ⟨_, cap, h1, .inr ⟨g, 0, fun i _ => H i, rfl, (Array.getElem?_eq_some_iff.1 h3).1, h4, fun i hi j hj => ?_, fun i hi => ?_⟩⟩
    · obtain rfl : j = 0 := by omega
      have e : cur[i]? = some (H i) := by
        have h8 : (cur.toList.take (us.length * 1))[i]? = ((List.range us.length).map H)[i]? := by rw [h7]
        rw [List.getElem?_take_of_lt (by omega)] at h8
        simpa [hi] using h8
      rw [show 0 + i * 1 + 0 = i by omega]
      simp [World.cell?, h3, e]
    · exact LAt.mono growsSlt (LAt.below keepsSlt (he i hi) hb hS) (fun g hg => Nat.lt_of_lt_of_le (hS g hg) hb.size)
set_option maxHeartbeats 3200000 in
theorem hasOf_any (x : Value) (l : List Wnt) (w : World) (S : Nat → Prop) (hv : LAt 3 EWnt w S x l) (hS : ∀ g, S g → g < w.heap.size) (hn : l.length ≤ 30) :
    Calls Try.prog 110 #[x] w fun e w' => ∃ v, e = .returned v ∧ LAt 1 ESlt2 w' (fun g => g < w'.heap.size) v (l.map (·.has)) ∧ Below w.heap.size w w' := by
  obtain ⟨i0, hi, hz0, hz1, hz2⟩ := info_parts infoZSlt2
  obtain ⟨A, c, g, o, F, rfl, OA, n3⟩ := opn hv hS
  have HA := Seg.hid OA
  have HE : Hid (∀ i, i < l.length → LAt 2 ESlt w S (F i 2) (l.getD i default).has) := fun i hi => (OA.el i hi).2.2
  clear hv OA
  go_enter Try.func110, Try.ntmps110
  have O0 : Hid ((w.alloc (.cells #[] 65 (0, 0))).ownsRow w.heap.size 65 1 (.slice (some ⟨w.heap.size, 0, none⟩) 0 0) 0 ((List.range 0).map fun j => F j 2)) := ⟨rfl, .inr ⟨w.heap.size, 0, #[], rfl, Nat.le_refl _, heap_alloc_new _ _, Nat.le_refl _, Nat.zero_le _, rfl, rfl⟩⟩
  go_wp2_with fail
  go_loopw [3, 9] (fun v i wr => ∃ (k : Nat), k ≤ l.length ∧ i = .int .i64 k ∧ Hid (wr.ownsRow w.heap.size 65 1 v k ((List.range k).map fun j => F j 2) ∧ Below w.heap.size w wr)) (fun _ i _ => l.length - (intOf i).toNat)
  case atStart => exact ⟨0, Nat.zero_le _, rfl, O0.out, below1 _ _⟩
  case round =>
    clear O0
    obtain ⟨k, hk, rfl, HR⟩ := hrel
    by_cases hlt : k < l.length
    · obtain ⟨ea, hc, hga⟩ := HA.out.addr.resolve_left (by omega)
      have hb := HR.out.2
      have OL := HA.out.later keepsWnt hS hb
      obtain ⟨A1, c1, A2, c2, ⟨d0, d1, d2⟩, _, _⟩ := wnt_cells (i := k) (fun j hj => OL.cells k hlt j hj) (OL.el k hlt)
      have FK : Hid (F k 2 = .slice A2 (l.getD k default).has.length c2) := by
        show _ = _
        have := OL.cells k hlt 2 (by omega)
        rw [d2] at this
        exact (Option.some.inj this).symm
      have h0 : (0 : Int) ≤ (k : Int) := by omega
      have h1' : (k : Int) < (l.length : Int) := by omega
      have hgr : g < wr.heap.size := Nat.lt_of_lt_of_le hga hb.size
      have hwr := hb.size
      clear OL hb
      generalize l.getD k default = tk at *
      subst ea
      have OW : Hid (∀ o1 o2, ((wr.alloc o1).alloc o2).ownsRow w.heap.size 65 1 (u3) k ((List.range k).map fun j => F j 2)) := fun o1 o2 => own_keep HR.out.1 (fun x _ hx => (below2 wr o1 o2).block x hx)
      have BW : Hid (∀ o1 o2 w9, (((wr.alloc o1).alloc o2).grownBy w9 u3.ownBlock) → Below w.heap.size w w9) := fun o1 o2 w9 h9 => (chain HR.out.2 (below2 wr o1 o2)).grown h9 (by rw [hsz, hsz]; omega) (fun x hx => by
        rcases HR.out.1.2 with ⟨h1, _⟩ | ⟨g', cap, cur, h1, h2, _⟩
        · rw [h1] at hx; cases hx
        · rw [h1] at hx; cases hx; exact h2)
      have PU : Hid ((List.range k).map (fun j => F j 2) ++ [Value.slice A2 tk.has.length c2] = (List.range (k + 1)).map (fun j => F j 2)) := by
        show _ = _
        rw [List.range_succ, List.map_append, List.map_singleton, FK.out]
      clear HR
      go_wp2_with (at_builtin; (refine wpList_append_lies _ rfl _ _ 125 rfl w.heap.size 65 i0 _ 1 24 Try.underlying125 hi hz0 hz1 hz2 rfl (by decide) u3 k ((List.range k).map fun j => F j 2) rfl (OW.out _ _) ⟨wr.heap.size + 1, 0, none⟩ 1 1 [.slice A2 tk.has.length c2] rfl rfl (World.news_of_block (cs := #[.slice A2 tk.has.length c2]) (by first | exact heap_alloc_new _ _ | (rw [← hsz wr]; exact heap_alloc_new _ _))) (by simp [Value.oneCell']) (by decide) (by unfold maxLen; omega) (by omega) (by rw [hsz, hsz]; omega) (wr.heap.size + 1 + 1) (by rw [hsz, hsz]) ?_; intro g9 cap9 w9 hown9 gr9 hat9 hlt9; rw [PU.out] at hown9; have D9 := Seg.hid hown9; have B9 := Seg.hid (BW.out _ _ _ gr9); clear hown9 gr9 hat9 hlt9))
      go_roundw
      case rel => exact ⟨k + 1, by omega, by go_num, D9.out, B9.out⟩
      case measure => simp [intOf]; omega
    · have hkl : k = l.length := by omega
      subst hkl
      have Z0 : LAt 1 ESlt2 wr (fun g => g < wr.heap.size) u3 (l.map fun t => t.has) := lists_of (us := l.map fun t => t.has) (H := fun j => F j 2) (by simpa using n3) (by simpa using HR.out.1) hS HR.out.2 (fun i hi => by
        have hi' : i < l.length := by simpa using hi
        have := HE.out i hi'
        simpa [hi'] using this)
      have Z := Seg.hid Z0
      clear Z0
      go_wp2
      go_ret
      exact ⟨_, rfl, Z.out, HR.out.2⟩
theorem hlds_step {i : Nat} {f : St} {ls : List (List Slt)} (h : i < ls.length) : hlds i f (ls.drop i) = hlds (i + 1) (hld i f (ls.getD i default)) (ls.drop (i + 1)) := by
  rw [drop_cons h]; rfl
theorem hld_step {i : Int} {f : St} {l : List Slt} {m : Nat} (h : m < l.length) : hld i f (l.drop m) = hld i (stp i f (l.getD m default)) (l.drop (m + 1)) := by
  rw [drop_cons h]; rfl
/-- Lists of slots that are right: so many, each of so many, each slot a key. -/
structure Few (ls : List (List Slt)) : Prop where
  n : ls.length ≤ 30
  each : ∀ i, i < ls.length → (ls.getD i default).length ≤ 400
  gd : ∀ i, i < ls.length → ∀ j, j < (ls.getD i default).length → Gd ((ls.getD i default).getD j default)
set_option maxHeartbeats 6400000 in
theorem holders_any (x : Value) (ls : List (List Slt)) (w : World) (S : Nat → Prop) (hv : LAt 1 ESlt2 w S x ls) (hS : ∀ g, S g → g < w.heap.size) (hf : Few ls) :
    Calls Try.prog 139 #[x] w fun e w' => e = .returned (.map (some w.heap.size)) ∧ MapAt w' w.heap.size 12000 (hlds 0 f0 ls) ∧ Below w.heap.size w w' := by
  obtain ⟨A, c, g, o, F, rfl, OA, n3⟩ := opn hv hS
  have HA := Seg.hid OA
  have HC : Hid (∀ i, i < ls.length → w.cell? ⟨g, o + i, none⟩ = some (F i 0)) := cells1 OA.cells
  have HE : Hid (∀ i, i < ls.length → LAt 2 ESlt w S (F i 0) (ls.getD i default)) := OA.el
  have hn := hf.n
  have HF := Seg.hid hf
  clear hv OA hf
  go_enter Try.func139, Try.ntmps139
  have M0 : Hid (MapAt (w.alloc (.map #[] 0)) w.heap.size 0 f0) := ⟨_, World.ownsMap_made _ _ _ _, mp_nil⟩
  have hmm := @run_makeMap Try.prog
  go_wp2_with fail
  clear hmm
  go_loopw [13] (fun i wr => ∃ (k : Nat) (f : St), k ≤ ls.length ∧ i = .int .i64 k ∧ Hid (MapAt wr w.heap.size (400 * k) f ∧ hlds k f (ls.drop k) = hlds 0 f0 ls ∧ Below w.heap.size w wr)) (fun i _ => ls.length - (intOf i).toNat)
  case atStart => exact ⟨0, f0, Nat.zero_le _, rfl, M0.out, rfl, below1 _ _⟩
  case round =>
    clear M0
    obtain ⟨k, f, hk, rfl, HR⟩ := hrel
    by_cases hlt : k < ls.length
    · obtain ⟨ea, hc, hga⟩ := HA.out.addr.resolve_left (by omega)
      have d0 : wr.cell? ⟨g, o + k, none⟩ = some (F k 0) := (HR.out.2.2.cell (p := ⟨g, o + k, none⟩) hga).trans (HC.out k hlt)
      obtain ⟨A2, c2, g2, o2, F2, e2, OB, n2⟩ := opn (HE.out k hlt) hS
      have HB := Seg.hid OB
      rw [e2] at d0
      have HT := HR.out.2.1
      rw [hlds_step hlt] at HT
      have HT' := Seg.hid HT
      have hl2 := HF.out.each k hlt
      have HG := Seg.hid (HF.out.gd k hlt)
      have h0 : (0 : Int) ≤ (k : Int) := by omega
      have h1' : (k : Int) < (ls.length : Int) := by omega
      have hgr : g < wr.heap.size := Nat.lt_of_lt_of_le hga HR.out.2.2.size
      have WK : Hid ((Lit.int .i64 (k : Int)).wf = true) := WalkArith.wf_i64 ⟨by omega, by omega⟩
      have WM : Hid ((Lit.int .i64 (-2)).wf = true) := WalkArith.wf_i64 ⟨by omega, by omega⟩
      clear OB e2 HT
      generalize ls.getD k default = uk at *
      subst ea
      go_wp2_with fail
      clear d0 hgr
      have M1 := Seg.hid HR.out.1
      have B1 := Seg.hid HR.out.2.2
      clear HR
      go_loopw [20] (fun i wr => ∃ (m : Nat) (f' : St), m ≤ uk.length ∧ i = .int .i64 m ∧ Hid (MapAt wr w.heap.size (400 * k + m) f' ∧ hld k f' (uk.drop m) = hld k f uk ∧ Below w.heap.size w wr)) (fun i _ => uk.length - (intOf i).toNat)
      case atStart => exact ⟨0, f, Nat.zero_le _, rfl, M1.out, rfl, B1.out⟩
      case round =>
        clear M1 B1
        obtain ⟨m, f', hm, rfl, HI⟩ := hrel
        by_cases hlm : m < uk.length
        · obtain ⟨eb, hc2, hgb⟩ := HB.out.addr.resolve_left (by omega)
          have OL := HB.out.later keepsSlt hS HI.out.2.2
          obtain ⟨e0, e1⟩ := slt_cells (i := m) (fun j hj => OL.cells m hlm j hj) (OL.el m hlm)
          have GD := Seg.hid (HG.out m hlm)
          have hbw : w.heap.size < wr.heap.size := HI.out.1.lt
          obtain ⟨D, hown, hmp⟩ := HI.out.1
          have HD := HI.out.2.1
          rw [hld_step hlm] at HD
          have h2 : (0 : Int) ≤ (m : Int) := by omega
          have h3 : (m : Int) < (uk.length : Int) := by omega
          have hgr : g2 < wr.heap.size := Nat.lt_of_lt_of_le hgb HI.out.2.2.size
          generalize uk.getD m default = tm at *
          subst eb
          obtain ⟨wz, hwz⟩ : ∃ wz, wr.alloc (.cells #[.string tm.topic, .int .i64 tm.part] 73 (0, 0)) = wz := ⟨_, rfl⟩
          have OZ : Hid (wz.ownsMap Try.prog 73 (plainElem Try.prog 3) w.heap.size (400 * k + m) D) := by show World.ownsMap _ _ _ _ _ _ _; rw [← hwz]; exact hown.alloc _
          have RZ : Hid (wz.heap[wr.heap.size]? = some (.cells #[.string tm.topic, .int .i64 tm.part] 73 (0, 0))) := by show _ = _; rw [← hwz]; exact heap_alloc_new _ _
          have BZ : Hid (Below w.heap.size w wz) := by show Below _ _ _; rw [← hwz]; exact chain HI.out.2.2 (below1 wr _)
          have hlz : wr.heap.size < wz.heap.size := (Array.getElem?_eq_some_iff.1 RZ.out).1
          have HM := Seg.hid hmp
          have NX : Hid (∀ w3 v, w3.ownsMap Try.prog 73 (plainElem Try.prog 3) w.heap.size (400 * k + m + 1) (D.put (keyS tm) (.lit (.int .i64 v))) → wz.grownBy w3 (some w.heap.size) → vl k (f' tm) = v → (MapAt w3 w.heap.size (400 * k + (m + 1)) (stp k f' tm) ∧ hld k (stp k f' tm) (uk.drop (m + 1)) = hld k f uk ∧ Below w.heap.size w w3)) := fun w3 v q1 q2 q3 => by
            refine ⟨⟨_, q1, ?_⟩, HD, BZ.out.grown q2 (by omega) (fun x hx => by cases hx; exact Nat.le_refl _)⟩
            rw [← q3]
            exact mp_put HM.out OZ.out.isMap tm GD.out _
          clear HI hown hmp OL HD
          go_upto_region 8 with fail
          try rw [hwz]
          clear hwz e0 e1
          have p0 : wz.cell? ⟨wr.heap.size, 0, none⟩ = some (.string tm.topic) := cell_of_row wz _ 0 _ _ (0, 0) RZ.out
          have p1 : wz.cell? ⟨wr.heap.size, 1, none⟩ = some (.int .i64 tm.part) := cell_of_row wz _ 1 _ _ (0, 0) RZ.out
          go_upto_region 9 with (at_lookup; refine wpList_lookup_own_ok_int _ rfl _ _ 198 rfl 73 3 .i64 law Try.underlying198 Try.underlying3 (zeroI _) w.heap.size (400 * k + m) _ rfl OZ.out _ _ rfl (key_of tm GD.out) ?_; intro c0 hat hwc)
          cases hv : f' tm with
          | none =>
            have hH : Maps.has D (keyS tm) = false := by rw [(HM.out tm GD.out).1, hv]; rfl
            rw [hH]
            have VL : Hid (vl k (f' tm) = k) := by show _ = _; rw [hv]; rfl
            clear hat hwc hv hH
            go_wp2_with (first | (at_mapUpdate; refine wpList_mapUpdate_own _ rfl _ _ _ 198 rfl 73 3 law Try.underlying198 _ w.heap.size (400 * k + m) _ rfl OZ.out (by unfold maxLen; omega) _ _ _ rfl rfl (key_of tm GD.out) _ [] (plainElem_int Try.underlying3 WK.out) ?_; intro w3 hown3 hg3; have N3 := Seg.hid (NX.out w3 _ hown3 hg3 VL.out); clear hown3 hg3))
            go_roundw
            case rel => exact ⟨m + 1, _, by omega, by go_num, N3.out⟩
            case measure => simp [intOf]; omega
          | some v =>
            have hH : Maps.has D (keyS tm) = true := by rw [(HM.out tm GD.out).1, hv]; rfl
            have hcv : c0 = v := by
              rw [(HM.out tm GD.out).2 v hv] at hat
              cases hat; rfl
            rw [hH, hcv]
            clear hat hwc hH hcv
            by_cases hvk : v = (k : Int)
            · have VL : Hid (vl k (f' tm) = k) := by show _ = _; rw [hv, hvk]; simp [vl]
              have hq : (v == (k : Int)) = true := by simp [hvk]
              clear hv hvk
              go_wp2_with (first | (at_mapUpdate; refine wpList_mapUpdate_own _ rfl _ _ _ 198 rfl 73 3 law Try.underlying198 _ w.heap.size (400 * k + m) _ rfl OZ.out (by unfold maxLen; omega) _ _ _ rfl rfl (key_of tm GD.out) _ [] (plainElem_int Try.underlying3 WK.out) ?_; intro w3 hown3 hg3; have N3 := Seg.hid (NX.out w3 _ hown3 hg3 VL.out); clear hown3 hg3))
              go_roundw
              case rel => exact ⟨m + 1, _, by omega, by go_num, N3.out⟩
              case measure => simp [intOf]; omega
            · have VL : Hid (vl k (f' tm) = -2) := by show _ = _; rw [hv]; simp [vl, hvk]
              have hq : (v == (k : Int)) = false := by simp [hvk]
              clear hv
              go_wp2_with (first | (at_mapUpdate; refine wpList_mapUpdate_own _ rfl _ _ _ 198 rfl 73 3 law Try.underlying198 _ w.heap.size (400 * k + m) _ rfl OZ.out (by unfold maxLen; omega) _ _ _ rfl rfl (key_of tm GD.out) _ [] (plainElem_int Try.underlying3 WM.out) ?_; intro w3 hown3 hg3; have N3 := Seg.hid (NX.out w3 _ hown3 hg3 VL.out); clear hown3 hg3))
              go_roundw
              case rel => exact ⟨m + 1, _, by omega, by go_num, N3.out⟩
              case measure => simp [intOf]; omega
        · have N4 : Hid (MapAt wr w.heap.size (400 * (k + 1)) f' ∧ hlds (k + 1) f' (ls.drop (k + 1)) = hlds 0 f0 ls ∧ Below w.heap.size w wr) := by
            have h5 := HI.out.2.1
            rw [List.drop_eq_nil_of_le (by omega)] at h5
            have h6 : f' = hld k f uk := h5
            exact ⟨HI.out.1.mono (by omega), by rw [h6]; exact HT'.out, HI.out.2.2⟩
          clear HI
          go_wp2
          go_roundw
          case rel => exact ⟨k + 1, f', by omega, by go_num, N4.out⟩
          case measure => simp [intOf]; omega
    · have Z : Hid (MapAt wr w.heap.size 12000 (hlds 0 f0 ls)) := by
        have h5 := HR.out.2.1
        rw [List.drop_eq_nil_of_le (by omega)] at h5
        have h6 : f = hlds 0 f0 ls := h5
        rw [← h6]
        exact HR.out.1.mono (by omega)
      go_wp2
      go_ret
      exact ⟨rfl, Z.out, HR.out.2.2⟩
end Go.Proofs.Ytfdfhhiaalbfiaa.HoI
