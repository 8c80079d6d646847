/- The model's CanRead; The program's RowOk. -/
import Derived.Deep.RegionHeld3
import Derived.Deep.RegionLaw
import Derived.BigQuiet
import Derived.Test.YtdhicmbfknagjaaJRO24
import Derived.Test.YtdhicmbfknagjaaJRO16
import Derived.Test.YtdhicmbfknagjaaJRO21
import Derived.Test.YtdhicmbfknagjaaJRO18
import Derived.Test.YtdhicmbfknagjaaJRO22
namespace Go.Proofs.Ytdhicmbfknagjaa.CrS
set_option maxRecDepth 8000
open Go.RowKit
open Ls Lp VkP VkR ScP ScM ScN ScI ScS MaP MaI CrP MaS
open Recs (hsz below1 below2 below3 chain chainD)
set_option linter.unusedVariables false
theorem takes_lst {f h : Fld} (e : (h.lst != f.lst) = true) : takes f h = false := by
  unfold takes
  cases hf : f.lst <;> cases hh : h.lst <;> simp [hf, hh] at e ⊢
theorem takes_kind {f h : Fld} (e1 : ¬ h.kind = f.kind) (e2 : ¬ (h.kind = 2 ∧ f.kind = 3)) : takes f h = false := by
  unfold takes
  have a : decide (f.kind = h.kind) = false := by simpa using fun q => e1 q.symm
  have b : (decide (f.kind = 3) && decide (h.kind = 2)) = false := by
    simp only [Bool.and_eq_false_iff, decide_eq_false_iff_not]
    by_cases q : f.kind = 3
    · exact .inr (fun q2 => e2 ⟨q2, q⟩)
    · exact .inl q
  rw [a, b]; simp
theorem takes_may {f h : Fld} (e1 : h.may = true) (e2 : f.may = false) : takes f h = false := by
  unfold takes
  rw [e1, e2]; simp
theorem takes_yes {f h : Fld} (e : (h.lst != f.lst) = false) (ek : h.kind = f.kind ∨ (h.kind = 2 ∧ f.kind = 3)) (em : h.may = false ∨ (h.may = true ∧ f.may = true)) : takes f h = true := by
  unfold takes
  have a : (f.lst == h.lst) = true := by cases hf : f.lst <;> cases hh : h.lst <;> simp [hf, hh] at e ⊢
  have b : (decide (f.kind = h.kind) || (decide (f.kind = 3) && decide (h.kind = 2))) = true := by
    rcases ek with h1 | ⟨h1, h2⟩
    · simp [h1]
    · simp [h1, h2]
  have c : (!h.may || f.may) = true := by
    rcases em with h1 | ⟨h1, h2⟩
    · simp [h1]
    · simp [h2]
  rw [a, b, c]; rfl
set_option maxHeartbeats 12800000 in
theorem spec_any (x y : Value) (r s : Sch) (w : World) (S : Nat → Prop) (hx : SchAt w S x r) (hy : SchAt w S y s) (hS : ∀ g, S g → g < w.heap.size) (hfr : szSch r ≤ 1048576) (hfs : szSch s ≤ 1048576) :
    Calls Try.prog 64 #[x, y] w fun e w' => e = .returned (.bool (canR r s)) ∧ Below w.heap.size w w' := by
  have HX := Seg.hid hx
  have HY := Seg.hid hy
  obtain ⟨A0, c0, rfl, hl⟩ := formS hx
  obtain ⟨A, c, g, o, F, e, OP, hn⟩ := opn hl hS
  cases e
  obtain ⟨A2, c2, rfl, hl2⟩ := formS hy
  obtain ⟨A3, c3, g2, o2, F2, e, OP2, hn2⟩ := opn hl2 hS
  cases e
  have HO := Seg.hid OP
  have HO2 := Seg.hid OP2
  clear hx hy hl hl2 OP OP2
  have C1 : Hid (∀ wx, Below w.heap.size w wx → Calls Try.prog 46 #[.agg (srow r A0 c0)] wx fun e w' => e = .returned (.bool (sok r)) ∧ Below wx.heap.size wx w') := fun wx b => ScS.first_any _ r wx S (HX.out.below b hS) (fun g hg => Nat.lt_of_lt_of_le (hS g hg) b.size) hfr
  have C2 : Hid (∀ wx, Below w.heap.size w wx → Calls Try.prog 46 #[.agg (srow s A2 c2)] wx fun e w' => e = .returned (.bool (sok s)) ∧ Below wx.heap.size wx w') := fun wx b => ScS.first_any _ s wx S (HY.out.below b hS) (fun g hg => Nat.lt_of_lt_of_le (hS g hg) b.size) hfs
  have CM : Hid (∀ wx, Below w.heap.size w wx → Calls Try.prog 13 #[.agg (srow r A0 c0), .agg (srow s A2 c2)] wx fun e w' => ∃ v, e = .returned v ∧ IRow w' wx.heap.size v (matchL r s) ∧ Below wx.heap.size wx w') := fun wx b => MaS.spec_any _ _ r s wx S (HX.out.below b hS) (HY.out.below b hS) (fun g hg => Nat.lt_of_lt_of_le (hS g hg) b.size) hfr hfs
  have R0 : Hid (canR r s = (sok r && sok s && crd r s)) := rfl
  have hfr' := Seg.hid hfr
  clear hfr hfs
  go_enter Try.func64, Try.ntmps64
  go_wp2_with fail
  refine (C1.out _ (below2 w _ _)).mono ?_
  rintro e w1 ⟨rfl, b1⟩
  have B1 := Seg.hid (chain (below2 w _ _) b1)
  have P1 : Hid (w1.heap[w.heap.size]? = some (.cells (srow r A0 c0) 43 (0, 0))) := (b1.block w.heap.size (by rw [hsz, hsz]; omega)).trans (at2z w _ _)
  have P2 : Hid (w1.heap[w.heap.size + 1]? = some (.cells (srow s A2 c2) 43 (0, 0))) := (b1.block (w.heap.size + 1) (by rw [hsz, hsz]; omega)).trans (at2y w _ _)
  have s1 : w.heap.size + 1 < w1.heap.size := (Array.getElem?_eq_some_iff.1 P2.out).1
  have p2 : w1.cell? ⟨w.heap.size + 1, 0, none⟩ = some (.string s.name) := cell_of_row w1 _ 0 _ _ (0, 0) P2.out
  have p3 : w1.cell? ⟨w.heap.size + 1, 1, none⟩ = some (.slice A2 s.fields.length c2) := cell_of_row w1 _ 1 _ _ (0, 0) P2.out
  clear b1
  cases h1 : sok r with
  | false =>
    have R : Hid (canR r s = false) := by show _ = _; rw [R0.out, h1]; rfl
    clear h1
    go_wp2
    go_ret
    exact ⟨by rw [R.out]; rfl, B1.out⟩
  | true =>
  go_wp2_with fail
  refine (C2.out _ B1.out).mono ?_
  rintro e w2 ⟨rfl, b2⟩
  have B2 := Seg.hid (chain B1.out b2)
  have Q1 : Hid (w2.heap[w.heap.size]? = some (.cells (srow r A0 c0) 43 (0, 0))) := (b2.block _ (by omega)).trans P1.out
  have Q2 : Hid (w2.heap[w.heap.size + 1]? = some (.cells (srow s A2 c2) 43 (0, 0))) := (b2.block _ s1).trans P2.out
  have q0 : w2.cell? ⟨w.heap.size, 0, none⟩ = some (.string r.name) := cell_of_row w2 _ 0 _ _ (0, 0) Q1.out
  have q1 : w2.cell? ⟨w.heap.size, 1, none⟩ = some (.slice A0 r.fields.length c0) := cell_of_row w2 _ 1 _ _ (0, 0) Q1.out
  have q2 : w2.cell? ⟨w.heap.size + 1, 0, none⟩ = some (.string s.name) := cell_of_row w2 _ 0 _ _ (0, 0) Q2.out
  have q3 : w2.cell? ⟨w.heap.size + 1, 1, none⟩ = some (.slice A2 s.fields.length c2) := cell_of_row w2 _ 1 _ _ (0, 0) Q2.out
  have s2 : w.heap.size + 1 < w2.heap.size := (Array.getElem?_eq_some_iff.1 Q2.out).1
  clear b2 p2 p3 P1 P2
  cases h2 : sok s with
  | false =>
    have R : Hid (canR r s = false) := by show _ = _; rw [R0.out, h2]; simp
    clear h2 h1
    go_wp2
    go_ret
    exact ⟨by rw [R.out]; rfl, B2.out⟩
  | true =>
  have R1 : Hid (canR r s = crd r s) := by show _ = _; rw [R0.out, h1, h2]; rfl
  have RM : Hid (matchL r s = mtch r s) := by show _ = _; rw [matchL, h1, h2]; rfl
  have h20 := (sok_dst h1).2.1
  have DS := Seg.hid (sok_dst h1).1
  clear h1 h2
  obtain ⟨be, hbe⟩ : ∃ b, (r.name.toList == s.name.toList) = b := ⟨_, rfl⟩
  have RC : Hid (crd r s = (be && r.fields.all (one s.fields))) := by show _ = _; rw [crd, hbe]
  cases be with
  | false =>
    have R : Hid (canR r s = false) := by show _ = _; rw [R1.out, RC.out]; rfl
    go_wp2
    go_ret
    exact ⟨by rw [R.out]; rfl, B2.out⟩
  | true =>
    have R : Hid (canR r s = r.fields.all (one s.fields)) := by show _ = _; rw [R1.out, RC.out]; rfl
    go_wp2_with fail
    refine (CM.out _ B2.out).mono ?_
    rintro e w3 ⟨v, rfl, hv, b3⟩
    rw [RM.out] at hv
    have B3 := Seg.hid (chain B2.out b3)
    have P1 : Hid (w3.heap[w.heap.size]? = some (.cells (srow r A0 c0) 43 (0, 0))) := (b3.block _ (by omega)).trans Q1.out
    have P2 : Hid (w3.heap[w.heap.size + 1]? = some (.cells (srow s A2 c2) 43 (0, 0))) := (b3.block _ s2).trans Q2.out
    have s3 : w.heap.size + 1 < w3.heap.size := (Array.getElem?_eq_some_iff.1 P2.out).1
    have hml : (mtch r s).length = r.fields.length := mtch_len r s
    obtain ⟨Am, cm, gm, om, Fm, rfl, OM, hnm⟩ := opn (ints_row hv (by omega)) (fun g hg => hg.2)
    have HM := Seg.hid OM
    clear b3 OM hv hbe q0 q1 q2 q3 Q1 Q2
    have MA : Hid (∀ k, k < r.fields.length → (mtch r s).getD k default = plc s.fields (nms (r.fields.getD k default))) := fun k h => mtch_at h
    generalize mtch r s = ms at *
    go_wp2
    go_loopw [6] (fun i wr => ∃ k : Nat, k ≤ r.fields.length ∧ i = .int .i64 k ∧ Hid (Below w3.heap.size w3 wr ∧ (r.fields.take k).all (one s.fields) = true)) (fun i _ => r.fields.length - (intOf i).toNat)
    case atStart => exact ⟨0, Nat.zero_le _, rfl, Below.refl _ _, by simp⟩
    case round =>
      obtain ⟨k, hk, rfl, HG⟩ := hrel
      obtain ⟨wO, hE⟩ : ∃ x, x = wr := ⟨_, rfl⟩
      subst hE
      by_cases hlt : k < r.fields.length
      · obtain ⟨em, hcm, hgm⟩ := HM.out.addr.resolve_left (by omega)
        subst em
        obtain ⟨ea, hc, hgw⟩ := HO.out.addr.resolve_left (by omega)
        subst ea
        have BW : Hid (Below w.heap.size w wO) := chain B3.out HG.out.1
        have MC : Hid (∀ wx, Below w3.heap.size w3 wx → ∀ q, q < r.fields.length → wx.cell? ⟨gm, om + q, none⟩ = some (.int .i64 (plc s.fields (nms (r.fields.getD q default))))) := fun wx b q hq => by
          rw [← MA.out q hq]
          exact int_cell HM.out (b.block _ hgm) (show q < ms.length by omega)
        have mc := MC.out wO HG.out.1 k hlt
        obtain ⟨A', c', B', d', hfl, d0, d1, d2, d3, d4, d5, d6, d7, d8, d9, d10⟩ := fld_at HO.out hS BW.out hlt
        have h0 : (0 : Int) ≤ (k : Int) := by omega
        have h1 : (k : Int) < (r.fields.length : Int) := by omega
        have h1m : (k : Int) < (ms.length : Int) := by omega
        have NX := Seg.hid (all_next (one s.fields) r.fields k hlt HG.out.2)
        have BX := Seg.hid (all_bad (one s.fields) r.fields k hlt)
        have N1 := Seg.hid HG.out.1
        have p0 : wO.cell? ⟨w.heap.size, 1, none⟩ = some (.slice (some ⟨g, o, none⟩) r.fields.length c0) := cell_of_row wO _ 1 _ _ (0, 0) ((N1.out.block _ (by omega)).trans P1.out)
        have hz : w.heap.size + 1 < wO.heap.size := Nat.lt_of_lt_of_le s3 N1.out.size
        have PR := Seg.hid (plc_range s.fields (nms (r.fields.getD k default)))
        have AP : Hid (∀ q, q < k → plc s.fields (nms (r.fields.getD k default)) ≠ -1 → plc s.fields (nms (r.fields.getD q default)) ≠ plc s.fields (nms (r.fields.getD k default))) := fun q hq hp => plc_apart DS.out hq hlt hp
        have OD : Hid (one s.fields (r.fields.getD k default) = if plc s.fields (nms (r.fields.getD k default)) = -1 then (r.fields.getD k default).fixd || (r.fields.getD k default).may else takes (r.fields.getD k default) (s.fields.getD (plc s.fields (nms (r.fields.getD k default))).toNat default)) := rfl
        have KK : Hid (∀ wx, Below w3.heap.size w3 wx → wx.cell? ⟨gm, om + k, none⟩ = some (.int .i64 (plc s.fields (nms (r.fields.getD k default))))) := fun wx b => MC.out wx b k hlt
        clear HG hfl
        generalize r.fields.getD k default = f at *
        obtain ⟨p, hp⟩ : ∃ p, plc s.fields (nms f) = p := ⟨_, rfl⟩
        rw [hp] at mc OD PR AP KK
        clear hp
        obtain ⟨w5, hw5⟩ : ∃ w5, wO.alloc (.cells #[.string f.name, .int .i64 f.kind, .bool f.lst, .bool f.may, .slice A' f.was.length c', .bool f.fixd, .int .i64 f.vk, .int .i64 f.vn, .string f.vt, .bool f.vl, .slice B' f.vi.length d'] 86 (0, 0)) = w5 := ⟨_, rfl⟩
        have T5 : Hid (w5.heap[wO.heap.size]? = some (.cells (frow f A' c' B' d') 86 (0, 0))) := by show _ = _; rw [← hw5]; exact heap_alloc_new _ _
        have N5 : Hid (Below wO.heap.size wO w5) := by show Below _ _ _; rw [← hw5]; exact below1 _ _
        have s5 : wO.heap.size < w5.heap.size := (Array.getElem?_eq_some_iff.1 T5.out).1
        have B5 := Seg.hid (chain N1.out N5.out)
        go_upto_region 8 with fail
        try rw [hw5]
        clear hw5 d0 d1 d2 d3 d4 d5 d6 d7 d8 d9 d10 mc p0
        have mc5 := KK.out w5 B5.out
        obtain ⟨q0, q1, q2, q3, q4, q5, q6, q7, q8, q9, q10⟩ := cells11 T5.out
        by_cases hpm : p = -1
        · subst hpm
          obtain ⟨bf, ef⟩ : ∃ b, f.fixd = b := ⟨_, rfl⟩
          obtain ⟨bm, em⟩ : ∃ b, f.may = b := ⟨_, rfl⟩
          have O1 : Hid (one s.fields f = (bf || bm)) := by show _ = _; rw [OD.out, if_pos rfl, ef, em]
          rw [O1.out] at NX BX
          clear OD PR O1 AP
          cases bf <;> cases bm
          · go_wp2
            go_ret
            exact ⟨by rw [R.out, BX.out (by simp)]; rfl, chain BW.out N5.out⟩
          all_goals
            go_wp2
            go_roundw
            case rel => exact ⟨k + 1, by omega, by go_num, B5.out, NX.out (by simp)⟩
            case measure => simp [intOf]; omega
        · obtain ⟨j, hj⟩ : ∃ j : Nat, p = j := ⟨p.toNat, by rcases PR.out with h | ⟨h, _, _⟩ <;> omega⟩
          subst hj
          have hjl : j < s.fields.length := by rcases PR.out with h | ⟨_, h, _⟩ <;> omega
          obtain ⟨ea, hc2, hgw2⟩ := HO2.out.addr.resolve_left (by omega)
          subst ea
          obtain ⟨A4, c4, B4, d4, hfl2, y0, y1, y2, y3, y4, y5, y6, y7, y8, y9, y10⟩ := fld_at HO2.out hS (chain BW.out N5.out) hjl
          have O1 : Hid (one s.fields f = takes f (s.fields.getD j default)) := by show _ = _; rw [OD.out, if_neg hpm]; rfl
          clear hfl2 OD PR
          generalize s.fields.getD j default = h at *
          rw [O1.out] at NX BX
          clear O1
          have hq : ¬ (j : Int) < 0 := by omega
          have j0 : (0 : Int) ≤ (j : Int) := by omega
          have j1 : (j : Int) < (s.fields.length : Int) := by omega
          have t1 : w5.cell? ⟨w.heap.size + 1, 1, none⟩ = some (.slice (some ⟨g2, o2, none⟩) s.fields.length c2) := cell_of_row w5 _ 1 _ _ (0, 0) ((B5.out.block _ s3).trans P2.out)
          have z5 : w.heap.size + 1 < w5.heap.size := by omega
          have y5 : g2 < w5.heap.size := by have := BW.out.size; omega
          have g5 : gm < w5.heap.size := by have := B5.out.size; omega
          go_upto_region 11 with fail
          go_region_held3 (fun w' => w'.cell? ⟨w.heap.size + 1, 1, none⟩ = some (.slice (some ⟨g2, o2, none⟩) s.fields.length c2) ∧ w'.cell? ⟨gm, om + k, none⟩ = some (.int .i64 (j : Int)) ∧ w'.cell? ⟨g2, o2 + j * 11, none⟩ = some (.string h.name) ∧ w'.cell? ⟨g2, o2 + j * 11 + 1, none⟩ = some (.int .i64 h.kind) ∧ w'.cell? ⟨g2, o2 + j * 11 + 2, none⟩ = some (.bool h.lst) ∧ w'.cell? ⟨g2, o2 + j * 11 + 3, none⟩ = some (.bool h.may) ∧ w'.cell? ⟨g2, o2 + j * 11 + 4, none⟩ = some (.slice A4 h.was.length c4) ∧ w'.cell? ⟨g2, o2 + j * 11 + 5, none⟩ = some (.bool h.fixd) ∧ w'.cell? ⟨g2, o2 + j * 11 + 6, none⟩ = some (.int .i64 h.vk) ∧ w'.cell? ⟨g2, o2 + j * 11 + 7, none⟩ = some (.int .i64 h.vn) ∧ w'.cell? ⟨g2, o2 + j * 11 + 8, none⟩ = some (.string h.vt) ∧ w'.cell? ⟨g2, o2 + j * 11 + 9, none⟩ = some (.bool h.vl) ∧ w'.cell? ⟨g2, o2 + j * 11 + 10, none⟩ = some (.slice B4 h.vi.length d4)) (first | exact ⟨t1, mc5, y0, y1, y2, y3, y4, y5, y6, y7, y8, y9, y10⟩ | go_keep) (fail)
          obtain ⟨w7, hw7⟩ : ∃ w7, (w5.alloc (.cells #[.string h.name, .int .i64 h.kind, .bool h.lst, .bool h.may, .slice A4 h.was.length c4, .bool h.fixd, .int .i64 h.vk, .int .i64 h.vn, .string h.vt, .bool h.vl, .slice B4 h.vi.length d4] 86 (0, 0))).drew = w7 := ⟨_, rfl⟩
          have N7 : Hid (Below w5.heap.size w5 w7) := by show Below _ _ _; rw [← hw7]; exact (below1 w5 _).drew
          have T7 : Hid (w7.heap[w5.heap.size]? = some (.cells (frow h A4 c4 B4 d4) 86 (0, 0))) := by show _ = _; rw [← hw7]; exact heap_alloc_new _ _
          have F7 : Hid (w7.heap[wO.heap.size]? = some (.cells (frow f A' c' B' d') 86 (0, 0))) := (N7.out.block _ s5).trans T5.out
          have B7 := Seg.hid (chain B5.out N7.out)
          have E7 := Seg.hid (chain (chain BW.out N5.out) N7.out)
          rw [hw7]
          clear hw7 t1 mc5 y0 y1 y2 y3 y4 y5 y6 y7 y8 y9 y10 q0 q1 q2 q3 q4 q5 q6 q7 q8 q9 q10
          have a1 : w7.cell? ⟨wO.heap.size, 1, none⟩ = some (.int .i64 f.kind) := cell_of_row w7 _ 1 _ _ (0, 0) F7.out
          have a2 : w7.cell? ⟨wO.heap.size, 2, none⟩ = some (.bool f.lst) := cell_of_row w7 _ 2 _ _ (0, 0) F7.out
          have a3 : w7.cell? ⟨wO.heap.size, 3, none⟩ = some (.bool f.may) := cell_of_row w7 _ 3 _ _ (0, 0) F7.out
          have b1 : w7.cell? ⟨w5.heap.size, 1, none⟩ = some (.int .i64 h.kind) := cell_of_row w7 _ 1 _ _ (0, 0) T7.out
          have b2 : w7.cell? ⟨w5.heap.size, 2, none⟩ = some (.bool h.lst) := cell_of_row w7 _ 2 _ _ (0, 0) T7.out
          have b3 : w7.cell? ⟨w5.heap.size, 3, none⟩ = some (.bool h.may) := cell_of_row w7 _ 3 _ _ (0, 0) T7.out
          cases hl : (h.lst != f.lst) with
          | true =>
            have RF : Hid (canR r s = false) := by show _ = _; rw [R.out, BX.out (takes_lst hl)]
            obtain ⟨la, ea⟩ : ∃ b, f.lst = b := ⟨_, rfl⟩
            obtain ⟨lb, eb⟩ : ∃ b, h.lst = b := ⟨_, rfl⟩
            rw [ea] at a2 hl
            rw [eb] at b2 hl
            clear ea eb
            cases la <;> cases lb
            all_goals first
              | (exfalso; simp at hl; done)
              | (clear hl
                 go_wp2
                 go_ret
                 exact ⟨by rw [RF.out]; rfl, E7.out⟩)
          | false =>
          have hle : h.lst = f.lst := by cases e1 : f.lst <;> cases e2 : h.lst <;> simp [e1, e2] at hl ⊢
          rw [hle] at b2
          clear hle
          by_cases hkk : h.kind = f.kind ∨ (h.kind = 2 ∧ f.kind = 3)
          · by_cases hmm : h.may = true ∧ f.may = false
            · have RF : Hid (canR r s = false) := by show _ = _; rw [R.out, BX.out (takes_may hmm.1 hmm.2)]
              obtain ⟨m1, m2⟩ := hmm
              rcases hkk with k1 | ⟨k1, k2⟩
              · have k3 : (h.kind != f.kind) = false := by simp [k1]
                generalize h.kind = kh at *
                generalize f.kind = kf at *
                clear k1
                go_wp2
                go_ret
                exact ⟨by rw [RF.out]; rfl, E7.out⟩
              · go_wp2
                go_ret
                exact ⟨by rw [RF.out]; rfl, E7.out⟩
            · have TY : Hid (takes f h = true) := takes_yes hl hkk (by
                cases e1 : h.may with
                | false => exact .inl rfl
                | true =>
                  refine .inr ⟨rfl, ?_⟩
                  cases e2 : f.may with
                  | true => rfl
                  | false => exact absurd ⟨e1, e2⟩ hmm)
              have NY := Seg.hid (NX.out TY.out)
              have hmc : h.may = false ∨ (h.may = true ∧ f.may = true) := by
                cases e1 : h.may with
                | false => exact .inl rfl
                | true =>
                  refine .inr ⟨rfl, ?_⟩
                  cases e2 : f.may with
                  | true => rfl
                  | false => exact absurd ⟨e1, e2⟩ hmm
              have QV : Hid (∀ q, q < k → ((plc s.fields (nms (r.fields.getD q default)) == (j : Int)) = false)) := fun q hq => by
                have := AP.out q hq (by omega)
                simpa using this
              have KJ : Hid (∀ wx, Below w3.heap.size w3 wx → wx.cell? ⟨gm, om + k, none⟩ = some (.int .i64 (j : Int))) := KK.out
              clear hmm TY AP BX NX KK
              have kcases : (∃ kh kf, h.kind = kh ∧ f.kind = kf ∧ (kh != kf) = false) ∨ (h.kind = 2 ∧ f.kind = 3) := by
                rcases hkk with k1 | k1
                · exact .inl ⟨_, _, rfl, rfl, by simp [k1]⟩
                · exact .inr k1
              clear hkk
              rcases kcases with ⟨kh, kf, k1, k2, k3⟩ | ⟨k1, k2⟩ <;> rcases hmc with m1 | ⟨m1, m2⟩
              all_goals
                rw [k1] at b1
                rw [k2] at a1
                rw [m1] at b3
                try rw [m2] at a3
                clear k1 k2 m1
                go_wp2
                clear a1 a2 a3 b1 b2 b3
                go_loopw [9] (fun i wy => ∃ (q : Nat), q ≤ k ∧ i = .int .i64 q ∧ Hid (Qt w7 wy)) (fun i _ => k - (intOf i).toNat)
                case atStart => exact ⟨0, Nat.zero_le _, rfl, Qt.refl _⟩
                case round =>
                  obtain ⟨wy, hE⟩ : ∃ x, x = wr := ⟨_, rfl⟩
                  subst hE
                  obtain ⟨q, hq, rfl, HI⟩ := hrel
                  have BY := Seg.hid (chain B7.out (HI.out.bel _))
                  by_cases hql : q < k
                  · have f0 := MC.out wy BY.out q (by omega)
                    have f1 := KJ.out wy BY.out
                    have v0 : (0 : Int) ≤ (q : Int) := by omega
                    have v1 : (q : Int) < (ms.length : Int) := by omega
                    have v2 : (q : Int) < (k : Int) := by omega
                    have v3 := QV.out q hql
                    generalize plc s.fields (nms (r.fields.getD q default)) = pq at *
                    go_wp2_with fail
                    go_quiet (fail)
                    go_wp2
                    go_roundw
                    case rel => exact ⟨q + 1, by omega, by go_num, HI.out.drewN _⟩
                    case measure => simp [intOf]; omega
                  · obtain rfl : q = k := by omega
                    have v2 : ¬ (q : Int) < (q : Int) := by omega
                    go_wp2
                    go_roundw
                    case rel => exact ⟨q + 1, by omega, by go_num, BY.out, NY.out⟩
                    case measure => simp [intOf]; omega
          · have RF : Hid (canR r s = false) := by show _ = _; rw [R.out, BX.out (takes_kind (fun q => hkk (.inl q)) (fun q => hkk (.inr q)))]
            have k1 : (h.kind != f.kind) = true := by simpa using fun q => hkk (.inl q)
            by_cases k2 : h.kind = 2
            · have k3 : ¬ f.kind = 3 := fun q => hkk (.inr ⟨k2, q⟩)
              have k4 : (f.kind == 3) = false := by simpa using k3
              rw [k2] at b1 k1
              clear k2 hkk
              go_wp2
              go_ret
              exact ⟨by rw [RF.out]; rfl, E7.out⟩
            · have k4 : (h.kind == 2) = false := by simpa using k2
              clear hkk
              go_wp2
              go_ret
              exact ⟨by rw [RF.out]; rfl, E7.out⟩
      · obtain rfl : k = r.fields.length := by omega
        have RF : Hid (r.fields.all (one s.fields) = true) := by show _ = _; have := HG.out.2; rwa [List.take_length] at this
        go_wp2
        go_ret
        exact ⟨by rw [R.out, RF.out]; rfl, chain B3.out HG.out.1⟩
end Go.Proofs.Ytdhicmbfknagjaa.CrS
namespace Go.Proofs.Ytdhicmbfknagjaa.RoI
set_option maxRecDepth 8000
open Go.RowKit
open Ls Lp VkP VkR ScP ScI ScS RoP
open Recs (hsz below1 below2 below3 chain chainD)
set_option linter.unusedVariables false
/-- The cells of one value of a row. -/
theorem vlu_at {w w' : World} {S : Nat → Prop} {A : Option Addr} {c : Nat} {us : List Vlu} {g o : Nat} {F : Nat → Nat → Value} (h : Opn 5 EVlu w S A c us g o F) (hS : ∀ g, S g → g < w.heap.size) (hb : Below w.heap.size w w') {k : Nat} (hk : k < us.length) : ∃ A' c', VluAt w' S (.agg (vrow (us.getD k default) A' c')) (us.getD k default) ∧ w'.cell? ⟨g, o + k * 5, none⟩ = some (.int .i64 (us.getD k default).kind) ∧ w'.cell? ⟨g, o + k * 5 + 1, none⟩ = some (.int .i64 (us.getD k default).num) ∧ w'.cell? ⟨g, o + k * 5 + 2, none⟩ = some (.string (us.getD k default).text) ∧ w'.cell? ⟨g, o + k * 5 + 3, none⟩ = some (.bool (us.getD k default).lst) ∧ w'.cell? ⟨g, o + k * 5 + 4, none⟩ = some (.slice A' (us.getD k default).items.length c') := by
  have OL := h.later keepsVlu hS hb
  have e := OL.el k hk
  have cc := OL.cells k hk
  obtain ⟨A', c', hv, -⟩ := formV (v := .agg (arrVlu (F k))) ⟨F k, rfl, e⟩
  have hv' : arrVlu (F k) = vrow (us.getD k default) A' c' := by injection hv
  simp only [arrVlu, vrow, Array.mk.injEq, List.cons.injEq, and_true] at hv'
  obtain ⟨e0, e1, e2, e3, e4⟩ := hv'
  refine ⟨A', c', by rw [← hv]; exact ⟨F k, rfl, e⟩, ?_, ?_, ?_, ?_, ?_⟩
  · rw [← e0]; exact cc 0 (by omega)
  · rw [← e1]; exact cc 1 (by omega)
  · rw [← e2]; exact cc 2 (by omega)
  · rw [← e3]; exact cc 3 (by omega)
  · rw [← e4]; exact cc 4 (by omega)
set_option maxHeartbeats 6400000 in
theorem impl_any (x y : Value) (s : Sch) (us : List Vlu) (w : World) (S : Nat → Prop) (hx : SchAt w S x s) (hy : LAt 5 EVlu w S y us) (hS : ∀ g, S g → g < w.heap.size) (hfs : szSch s ≤ 1048576) (hfu : szL szVlu us ≤ 1048576) :
    Calls Try.prog 58 #[x, y] w fun e w' => e = .returned (.bool (rowOk s us)) ∧ Below w.heap.size w w' := by
  have HX := Seg.hid hx
  obtain ⟨A0, c0, rfl, hl⟩ := formS hx
  obtain ⟨A, c, g, o, F, e, OP, hn⟩ := opn hl hS
  cases e
  obtain ⟨A2, c2, g2, o2, F2, rfl, OP2, hn2⟩ := opn hy hS
  have HO := Seg.hid OP
  have HO2 := Seg.hid OP2
  have HU := Seg.hid hfu
  have C1 : Hid (∀ wx, Below w.heap.size w wx → Calls Try.prog 49 #[.agg (srow s A0 c0)] wx fun e w' => e = .returned (.bool (sok s)) ∧ Below wx.heap.size wx w') := fun wx b => ScI.impl_any _ s wx S (HX.out.below b hS) (fun g hg => Nat.lt_of_lt_of_le (hS g hg) b.size) hfs
  have R0 : Hid (rowOk s us = (sok s && (decide (us.length = s.fields.length) && rowL s.fields us s.fields.length))) := rfl
  clear hx hy hl OP OP2 hfs hfu
  go_enter Try.func58, Try.ntmps58
  go_wp2_with fail
  refine (C1.out _ (below1 w _)).mono ?_
  rintro e w1 ⟨rfl, b1⟩
  have B1 := Seg.hid (chain (below1 w _) b1)
  have P1 : Hid (w1.heap[w.heap.size]? = some (.cells (srow s A0 c0) 43 (0, 0))) := (b1.block w.heap.size (by rw [hsz]; omega)).trans (heap_alloc_new w _)
  have s1 : w.heap.size < w1.heap.size := (Array.getElem?_eq_some_iff.1 P1.out).1
  have p1 : w1.cell? ⟨w.heap.size, 1, none⟩ = some (.slice A0 s.fields.length c0) := cell_of_row w1 _ 1 _ _ (0, 0) P1.out
  clear b1 C1 HX
  cases h1 : sok s with
  | false =>
    have R : Hid (rowOk s us = false) := by show _ = _; rw [R0.out, h1]; rfl
    clear h1
    go_wp2
    go_ret
    exact ⟨by rw [R.out]; rfl, B1.out⟩
  | true =>
  by_cases hlen : us.length = s.fields.length
  case neg =>
    have R : Hid (rowOk s us = false) := by show _ = _; rw [R0.out, h1, decide_eq_false hlen]; rfl
    have hne : ((us.length : Int) != (s.fields.length : Int)) = true := by simp; omega
    clear h1 hlen
    go_wp2
    go_ret
    exact ⟨by rw [R.out]; rfl, B1.out⟩
  case pos =>
  have R : Hid (rowOk s us = rowL s.fields us s.fields.length) := by show _ = _; rw [R0.out, h1, decide_eq_true hlen]; rfl
  have hne : ((us.length : Int) != (s.fields.length : Int)) = false := by simp; omega
  have HL := Seg.hid hlen
  clear h1 hlen
  go_wp2
  clear hne
  go_loopw [21] (fun i wr => ∃ k : Nat, k ≤ s.fields.length ∧ i = .int .i64 k ∧ Hid (Below w1.heap.size w1 wr ∧ rowL s.fields us k = true)) (fun i _ => s.fields.length - (intOf i).toNat)
  case atStart => exact ⟨0, Nat.zero_le _, rfl, Below.refl _ _, rowL_zero _ _⟩
  case round =>
    obtain ⟨k, hk, rfl, HG⟩ := hrel
    by_cases hlt : k < s.fields.length
    · obtain ⟨ea, hc, hgw⟩ := HO.out.addr.resolve_left (by omega)
      subst ea
      have hltu : k < us.length := by have := HL.out; omega
      obtain ⟨ea, hc2, hgw2⟩ := HO2.out.addr.resolve_left (by omega)
      subst ea
      have BW : Hid (Below w.heap.size w wr) := chain B1.out HG.out.1
      obtain ⟨A', c', B', d', hfl, d0, d1, d2, d3, d4, d5, d6, d7, d8, d9, d10⟩ := fld_at HO.out hS BW.out hlt
      obtain ⟨A4, c4, hvl, q11, q12, q13, q14, q15⟩ := vlu_at HO2.out hS BW.out hltu
      have h0 : (0 : Int) ≤ (k : Int) := by omega
      have h1 : (k : Int) < (s.fields.length : Int) := by omega
      have h2 : (k : Int) < (us.length : Int) := by omega
      have SU : Hid (szVlu (us.getD k default) ≤ 1048576) := szL_one szVlu HU.out hltu
      have NX : Hid (oneAt s.fields us k = true → rowL s.fields us (k + 1) = true) := rowL_next HG.out.2
      have BX : Hid (oneAt s.fields us k = false → rowL s.fields us s.fields.length = false) := rowL_bad hlt
      have OD : Hid (oneAt s.fields us k = vof (s.fields.getD k default).kind (s.fields.getD k default).lst (s.fields.getD k default).may (us.getD k default)) := rfl
      have N1 := Seg.hid HG.out.1
      have HFL := Seg.hid hfl
      have HVL := Seg.hid hvl
      clear HG hfl hvl
      generalize s.fields.getD k default = f at *
      generalize us.getD k default = u at *
      obtain ⟨b, hb⟩ : ∃ b, oneAt s.fields us k = b := ⟨_, rfl⟩
      rw [hb] at NX BX OD
      clear hb
      have CV : Hid (∀ wx, Below wr.heap.size wr wx → Calls Try.prog 96 #[.agg (frow f A' c' B' d'), .agg (vrow u A4 c4)] wx fun e w' => e = .returned (.bool b) ∧ Below wx.heap.size wx w') := fun wx bx => by
        have h := VoI.impl_any _ _ f u wx S (HFL.out.below bx (fun g hg => Nat.lt_of_lt_of_le (hS g hg) BW.out.size)) (HVL.out.below bx (fun g hg => Nat.lt_of_lt_of_le (hS g hg) BW.out.size)) (fun g hg => Nat.lt_of_lt_of_le (hS g hg) (Nat.le_trans BW.out.size bx.size)) SU.out
        rw [← OD.out] at h
        exact h
      clear OD
      have y5 : g2 < wr.heap.size := by have := BW.out.size; omega
      obtain ⟨w5, hw5⟩ : ∃ w5, wr.alloc (.cells #[.string f.name, .int .i64 f.kind, .bool f.lst, .bool f.may, .slice A' f.was.length c', .bool f.fixd, .int .i64 f.vk, .int .i64 f.vn, .string f.vt, .bool f.vl, .slice B' f.vi.length d'] 86 (0, 0)) = w5 := ⟨_, rfl⟩
      have T5 : Hid (w5.heap[wr.heap.size]? = some (.cells (frow f A' c' B' d') 86 (0, 0))) := by show _ = _; rw [← hw5]; exact heap_alloc_new _ _
      have N5 : Hid (Below wr.heap.size wr w5) := by show Below _ _ _; rw [← hw5]; exact below1 _ _
      have s5 : wr.heap.size < w5.heap.size := (Array.getElem?_eq_some_iff.1 T5.out).1
      go_upto_region 6 with fail
      try rw [hw5]
      clear hw5 d0 d1 d2 d3 d4 d5 d6 d7 d8 d9 d10
      obtain ⟨q0, q1, q2, q3, q4, q5, q6, q7, q8, q9, q10⟩ := cells11 T5.out
      have q11 := (N5.out.cell (p := ⟨g2, o2 + k * 5, none⟩) y5).trans q11
      have q12 := (N5.out.cell (p := ⟨g2, o2 + k * 5 + 1, none⟩) y5).trans q12
      have q13 := (N5.out.cell (p := ⟨g2, o2 + k * 5 + 2, none⟩) y5).trans q13
      have q14 := (N5.out.cell (p := ⟨g2, o2 + k * 5 + 3, none⟩) y5).trans q14
      have q15 := (N5.out.cell (p := ⟨g2, o2 + k * 5 + 4, none⟩) y5).trans q15
      have y5 : g2 < w5.heap.size := by omega
      go_wp2_with fail
      go_region_held3 (fun w' => w'.cell? ⟨wr.heap.size, 0, none⟩ = some (.string f.name) ∧ w'.cell? ⟨wr.heap.size, 1, none⟩ = some (.int .i64 f.kind) ∧ w'.cell? ⟨wr.heap.size, 2, none⟩ = some (.bool f.lst) ∧ w'.cell? ⟨wr.heap.size, 3, none⟩ = some (.bool f.may) ∧ w'.cell? ⟨wr.heap.size, 4, none⟩ = some (.slice A' f.was.length c') ∧ w'.cell? ⟨wr.heap.size, 5, none⟩ = some (.bool f.fixd) ∧ w'.cell? ⟨wr.heap.size, 6, none⟩ = some (.int .i64 f.vk) ∧ w'.cell? ⟨wr.heap.size, 7, none⟩ = some (.int .i64 f.vn) ∧ w'.cell? ⟨wr.heap.size, 8, none⟩ = some (.string f.vt) ∧ w'.cell? ⟨wr.heap.size, 9, none⟩ = some (.bool f.vl) ∧ w'.cell? ⟨wr.heap.size, 10, none⟩ = some (.slice B' f.vi.length d') ∧ w'.cell? ⟨g2, o2 + k * 5, none⟩ = some (.int .i64 u.kind) ∧ w'.cell? ⟨g2, o2 + k * 5 + 1, none⟩ = some (.int .i64 u.num) ∧ w'.cell? ⟨g2, o2 + k * 5 + 2, none⟩ = some (.string u.text) ∧ w'.cell? ⟨g2, o2 + k * 5 + 3, none⟩ = some (.bool u.lst) ∧ w'.cell? ⟨g2, o2 + k * 5 + 4, none⟩ = some (.slice A4 u.items.length c4)) (first | exact ⟨q0, q1, q2, q3, q4, q5, q6, q7, q8, q9, q10, q11, q12, q13, q14, q15⟩ | exact ⟨r0, r1, r2, r3, r4, r5, r6, r7, r8, r9, r10, r11, r12, r13, r14, r15⟩ | go_keep) (first | (go_at_call 96; refine (CV.out _ (N5.out.drew)).mono ?_; rintro e w8 ⟨rfl, b8⟩; have B8 : Hid (Below w5.heap.size w5 w8) := ⟨b8.os, b8.tape, b8.output, b8.size, b8.block⟩; clear b8; have r0 := (B8.out.cell (p := ⟨wr.heap.size, 0, none⟩) s5).trans q0; have r1 := (B8.out.cell (p := ⟨wr.heap.size, 1, none⟩) s5).trans q1; have r2 := (B8.out.cell (p := ⟨wr.heap.size, 2, none⟩) s5).trans q2; have r3 := (B8.out.cell (p := ⟨wr.heap.size, 3, none⟩) s5).trans q3; have r4 := (B8.out.cell (p := ⟨wr.heap.size, 4, none⟩) s5).trans q4; have r5 := (B8.out.cell (p := ⟨wr.heap.size, 5, none⟩) s5).trans q5; have r6 := (B8.out.cell (p := ⟨wr.heap.size, 6, none⟩) s5).trans q6; have r7 := (B8.out.cell (p := ⟨wr.heap.size, 7, none⟩) s5).trans q7; have r8 := (B8.out.cell (p := ⟨wr.heap.size, 8, none⟩) s5).trans q8; have r9 := (B8.out.cell (p := ⟨wr.heap.size, 9, none⟩) s5).trans q9; have r10 := (B8.out.cell (p := ⟨wr.heap.size, 10, none⟩) s5).trans q10; have r11 := (B8.out.cell (p := ⟨g2, o2 + k * 5, none⟩) y5).trans q11; have r12 := (B8.out.cell (p := ⟨g2, o2 + k * 5 + 1, none⟩) y5).trans q12; have r13 := (B8.out.cell (p := ⟨g2, o2 + k * 5 + 2, none⟩) y5).trans q13; have r14 := (B8.out.cell (p := ⟨g2, o2 + k * 5 + 3, none⟩) y5).trans q14; have r15 := (B8.out.cell (p := ⟨g2, o2 + k * 5 + 4, none⟩) y5).trans q15))
      clear r0 r1 r2 r3 r4 r5 r6 r7 r8 r9 r10 r11 r12 r13 r14 r15
      cases b with
      | true =>
        go_wp2
        go_roundw
        case rel => exact ⟨k + 1, by omega, by go_num, chain N1.out (chain N5.out B8.out), NX.out (by simp)⟩
        case measure => simp [intOf]; omega
      | false =>
        go_wp2
        go_ret
        exact ⟨by rw [R.out, BX.out (by simp)]; rfl, chain BW.out (chain N5.out B8.out)⟩
    · obtain rfl : k = s.fields.length := by omega
      have RF : Hid (rowL s.fields us s.fields.length = true) := HG.out.2
      go_wp2
      go_ret
      exact ⟨by rw [R.out, RF.out]; rfl, chain B1.out HG.out.1⟩
end Go.Proofs.Ytdhicmbfknagjaa.RoI
