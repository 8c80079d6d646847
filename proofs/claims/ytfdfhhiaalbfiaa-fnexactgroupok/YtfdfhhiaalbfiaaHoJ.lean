/- How many have moved; is each slot held once. -/
import Derived.Test.YtfdfhhiaalbfiaaHoI
namespace Go.Proofs.Ytfdfhhiaalbfiaa.HoI
set_option maxRecDepth 8000
open Go.RowKit Go.Maps
open Ls Lp WnP HoP HoM
open Recs (hsz below1 below2 chain)
set_option linter.unusedVariables false
theorem mvs_step {i : Nat} {f : St} {ls : List (List Slt)} (h : i < ls.length) : mvs f i (ls.drop i) = mv f i (ls.getD i default) + mvs f (i + 1) (ls.drop (i + 1)) := by
  rw [drop_cons h]; rfl
theorem mv_step {i : Int} {f : St} {l : List Slt} {m : Nat} (h : m < l.length) : mv f i (l.drop m) = (if bad f i (l.getD m default) = true then 1 else 0) + mv f i (l.drop (m + 1)) := by
  rw [drop_cons h]
  unfold mv
  rw [List.filter_cons]
  split
  · rw [List.length_cons]; omega
  · omega
set_option maxHeartbeats 6400000 in
theorem moved_any (x y : Value) (ls now : List (List Slt)) (w : World) (S : Nat → Prop) (hv : LAt 1 ESlt2 w S x ls) (hy : LAt 1 ESlt2 w S y now) (hS : ∀ g, S g → g < w.heap.size) (hf : Few ls) (hf2 : Few now) :
    Calls Try.prog 116 #[x, y] w fun e w' => e = .returned (.int .i64 (mvs (hlds 0 f0 now) 0 ls : Nat)) ∧ Below w.heap.size w w' := by
  obtain ⟨A, c, g, o, F, rfl, OA, n3⟩ := opn hv hS
  have HA := Seg.hid OA
  have HC : Hid (∀ i, i < ls.length → w.cell? ⟨g, o + i, none⟩ = some (F i 0)) := cells1 OA.cells
  have HE : Hid (∀ i, i < ls.length → LAt 2 ESlt w S (F i 0) (ls.getD i default)) := OA.el
  have hn := hf.n
  have HF := Seg.hid hf
  have HW := Seg.hid (holders_any y now w S hy hS hf2)
  clear hv OA hf hy hf2
  go_enter Try.func116, Try.ntmps116
  go_wp2_with (go_at_call 139; refine HW.out.mono ?_; rintro e w1 ⟨rfl, m1, b1⟩; have M1 := Seg.hid m1; have B1 := Seg.hid b1; clear b1 m1)
  clear HW
  obtain ⟨f, hfn⟩ : ∃ f, hlds 0 f0 now = f := ⟨_, rfl⟩
  rw [hfn] at M1
  go_loopw [6, 17] (fun a i wr => ∃ (k t : Nat), k ≤ ls.length ∧ a = .int .i64 t ∧ i = .int .i64 k ∧ t ≤ 400 * k ∧ Hid (t + mvs f k (ls.drop k) = mvs f 0 ls ∧ Below w1.heap.size w1 wr)) (fun _ i _ => ls.length - (intOf i).toNat)
  case atStart => exact ⟨0, 0, Nat.zero_le _, rfl, rfl, by omega, by show 0 + mvs f 0 ls = _; omega, Below.refl _ _⟩
  case round =>
    obtain ⟨k, t, hk, rfl, rfl, ht, HR⟩ := hrel
    by_cases hlt : k < ls.length
    · obtain ⟨ea, hc, hga⟩ := HA.out.addr.resolve_left (by omega)
      have hbw := chain B1.out HR.out.2
      have d0 : wr.cell? ⟨g, o + k, none⟩ = some (F k 0) := (hbw.cell (p := ⟨g, o + k, none⟩) hga).trans (HC.out k hlt)
      obtain ⟨A2, c2, g2, o2, F2, e2, OB, n2⟩ := opn (HE.out k hlt) hS
      have HB := Seg.hid OB
      rw [e2] at d0
      have HT := HR.out.1
      rw [mvs_step hlt] at HT
      have HT' := Seg.hid HT
      have hl2 := HF.out.each k hlt
      have HG := Seg.hid (HF.out.gd k hlt)
      have h0 : (0 : Int) ≤ (k : Int) := by omega
      have h1' : (k : Int) < (ls.length : Int) := by omega
      have hgr : g < wr.heap.size := Nat.lt_of_lt_of_le hga hbw.size
      clear OB e2 HT hbw
      generalize ls.getD k default = uk at *
      subst ea
      go_wp2_with fail
      clear d0 hgr
      have B2 := Seg.hid HR.out.2
      clear HR
      go_loopw [6, 24] (fun a i wr => ∃ (m t' : Nat), m ≤ uk.length ∧ a = .int .i64 t' ∧ i = .int .i64 m ∧ t' ≤ 400 * k + m ∧ Hid (t' + mv f k (uk.drop m) = t + mv f k uk ∧ Below w1.heap.size w1 wr)) (fun _ i _ => uk.length - (intOf i).toNat)
      case atStart => exact ⟨0, t, Nat.zero_le _, rfl, rfl, by omega, rfl, B2.out⟩
      case round =>
        clear B2
        obtain ⟨m, t', hm, rfl, rfl, ht', HI⟩ := hrel
        by_cases hlm : m < uk.length
        · obtain ⟨eb, hc2, hgb⟩ := HB.out.addr.resolve_left (by omega)
          have hbw := chain B1.out HI.out.2
          have OL := HB.out.later keepsSlt hS hbw
          obtain ⟨e0, e1⟩ := slt_cells (i := m) (fun j hj => OL.cells m hlm j hj) (OL.el m hlm)
          have GD := Seg.hid (HG.out m hlm)
          have hbl : w.heap.size < wr.heap.size := Nat.lt_of_lt_of_le M1.out.lt HI.out.2.size
          have MR : MapAt wr w.heap.size 12000 f := M1.out.keep (HI.out.2.block _ M1.out.lt)
          obtain ⟨D, hown, hmp⟩ := MR
          have HD := HI.out.1
          rw [mv_step hlm] at HD
          have h2 : (0 : Int) ≤ (m : Int) := by omega
          have h3 : (m : Int) < (uk.length : Int) := by omega
          have hgr : g2 < wr.heap.size := Nat.lt_of_lt_of_le hgb hbw.size
          generalize uk.getD m default = tm at *
          subst eb
          obtain ⟨wz, hwz⟩ : ∃ wz, wr.alloc (.cells #[.string tm.topic, .int .i64 tm.part] 73 (0, 0)) = wz := ⟨_, rfl⟩
          have OZ : Hid (wz.ownsMap Try.prog 73 (plainElem Try.prog 3) w.heap.size 12000 D) := by show World.ownsMap _ _ _ _ _ _ _; rw [← hwz]; exact hown.alloc _
          have RZ : Hid (wz.heap[wr.heap.size]? = some (.cells #[.string tm.topic, .int .i64 tm.part] 73 (0, 0))) := by show _ = _; rw [← hwz]; exact heap_alloc_new _ _
          have BZ : Hid (Below w1.heap.size w1 wz) := by show Below _ _ _; rw [← hwz]; exact chain HI.out.2 (below1 wr _)
          have hlz : wr.heap.size < wz.heap.size := (Array.getElem?_eq_some_iff.1 RZ.out).1
          have HM := Seg.hid hmp
          have NG : Hid (bad f k tm = false → t' + mv f k (uk.drop (m + 1)) = t + mv f k uk) := fun q => by rw [q] at HD; simpa using HD
          have NB : Hid (bad f k tm = true → (t' + 1) + mv f k (uk.drop (m + 1)) = t + mv f k uk) := fun q => by rw [q] at HD; simp only [if_true] at HD; omega
          have wt : IntKind.i64.wrap ((t' : Int) + 1) = (t' : Int) + 1 := by rw [IntKind.wrap_i64] <;> omega
          clear HI hown hmp OL HD hbw
          go_upto_region 9 with fail
          try rw [hwz]
          clear hwz e0 e1
          have p0 : wz.cell? ⟨wr.heap.size, 0, none⟩ = some (.string tm.topic) := cell_of_row wz _ 0 _ _ (0, 0) RZ.out
          have p1 : wz.cell? ⟨wr.heap.size, 1, none⟩ = some (.int .i64 tm.part) := cell_of_row wz _ 1 _ _ (0, 0) RZ.out
          go_upto_region 10 with (at_lookup; refine wpList_lookup_own_ok_int _ rfl _ _ 198 rfl 73 3 .i64 law Try.underlying198 Try.underlying3 (zeroI _) w.heap.size 12000 _ rfl OZ.out _ _ rfl (key_of tm GD.out) ?_; intro c0 hat hwc)
          cases hv : f tm with
          | none =>
            have hH : Maps.has D (keyS tm) = false := by rw [(HM.out tm GD.out).1, hv]; rfl
            rw [hH]
            have N3 := Seg.hid (NB.out (by simp [bad, hv]))
            clear hat hwc hv hH
            go_wp2
            go_roundw
            case rel => exact ⟨m + 1, t' + 1, by omega, by go_num, by go_num, by omega, N3.out, BZ.out⟩
            case measure => simp [intOf]; omega
          | some v =>
            have hH : Maps.has D (keyS tm) = true := by rw [(HM.out tm GD.out).1, hv]; rfl
            have hcv : c0 = v := by
              rw [(HM.out tm GD.out).2 v hv] at hat
              cases hat; rfl
            rw [hH, hcv]
            clear hat hwc hH hcv
            by_cases hvk : v = (k : Int)
            · have N3 := Seg.hid (NG.out (by simp [bad, hv, hvk]))
              have hq : (v == (k : Int)) = true := by simp [hvk]
              clear hv hvk
              go_wp2
              go_roundw
              case rel => exact ⟨m + 1, t', by omega, rfl, by go_num, by omega, N3.out, BZ.out⟩
              case measure => simp [intOf]; omega
            · have N3 := Seg.hid (NB.out (by simp [bad, hv, hvk]))
              have hq : (v == (k : Int)) = false := by simp [hvk]
              clear hv
              go_wp2
              go_roundw
              case rel => exact ⟨m + 1, t' + 1, by omega, by go_num, by go_num, by omega, N3.out, BZ.out⟩
              case measure => simp [intOf]; omega
        · have N4 : Hid (t' + mvs f (k + 1) (ls.drop (k + 1)) = mvs f 0 ls ∧ Below w1.heap.size w1 wr) := by
            have h5 := HI.out.1
            rw [List.drop_eq_nil_of_le (by omega)] at h5
            have h6 : t' = t + mv f k uk := by simpa [mv] using h5
            have h7 := HT'.out
            exact ⟨by omega, HI.out.2⟩
          clear HI
          go_wp2
          go_roundw
          case rel => exact ⟨k + 1, t', by omega, rfl, by go_num, by omega, N4.out⟩
          case measure => simp [intOf]; omega
    · have Z : Hid (t = mvs (hlds 0 f0 now) 0 ls) := by
        show _ = _
        have h5 := HR.out.1
        rw [List.drop_eq_nil_of_le (by omega)] at h5
        rw [hfn]
        simpa [mvs] using h5
      go_wp2
      go_ret
      exact ⟨by rw [← Z.out]; rfl, chain B1.out HR.out.2⟩
set_option maxHeartbeats 1600000 in
theorem once_any (x : Value) (ls : List (List Slt)) (b : Bool) (w : World) (S : Nat → Prop) (hv : LAt 1 ESlt2 w S x ls) (hS : ∀ g, S g → g < w.heap.size) (hf : Few ls) (hb : decide (mvs (hlds 0 f0 ls) 0 ls = 0) = b) :
    Calls Try.prog 76 #[x] w fun e w' => e = .returned (.bool b) ∧ Below w.heap.size w w' := by
  have HW := Seg.hid (moved_any x x ls ls w S hv hv hS hf hf)
  obtain ⟨A, c, rfl⟩ := hv.form
  clear hv hf
  obtain ⟨n, hn⟩ : ∃ n, mvs (hlds 0 f0 ls) 0 ls = n := ⟨_, rfl⟩
  rw [hn] at HW hb
  subst hb
  go_enter Try.func76, Try.ntmps76
  go_wp2_with (go_at_call 116; refine HW.out.mono ?_; rintro e w1 ⟨rfl, b1⟩; have B1 := Seg.hid b1; clear b1)
  go_ret
  exact ⟨Seg.ret_bool (by rw [Bool.eq_iff_iff]; simp), B1.out⟩
end Go.Proofs.Ytfdfhhiaalbfiaa.HoI
