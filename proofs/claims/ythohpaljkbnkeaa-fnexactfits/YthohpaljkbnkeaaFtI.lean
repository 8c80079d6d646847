/- The program's Fits. -/
import Derived.Test.YthohpaljkbnkeaaFtP
import Derived.Deep.RegionHeld3
import Derived.Deep.RegionLaw
import Derived.BigQuiet
namespace Go.Proofs.Ythohpaljkbnkeaa.FtI
set_option maxRecDepth 8000
open Go.RowKit
open Ls Lp VkP VkR ScP ScM ScN ScI ScS MaP MaI CrP FtP
open Recs (hsz below1 below2 below3 chain chainD)
set_option linter.unusedVariables false
theorem mode_any (m : Int) (w : World) : Calls Try.prog 63 #[.int .i64 m] w fun e w' => e = .returned (.bool (mOk m)) ∧ w = w' := by
  cases h : mOk m with
  | true =>
    rcases mOk_cases h with rfl | rfl | rfl | rfl | rfl | rfl | rfl | rfl
    all_goals
      clear h
      go_enter Try.func63, Try.ntmps63
      go_wp2
      go_ret
      exact ⟨rfl, rfl⟩
  | false =>
    have h' : ¬ (m = 0 ∨ m = 1 ∨ m = 2 ∨ m = 4 ∨ m = 8 ∨ m = 9 ∨ m = 10 ∨ m = 12) := by simpa [mOk] using h
    simp only [not_or] at h'
    obtain ⟨h0, h1, h2, h3, h4, h5, h6, h7⟩ := h'
    clear h
    go_enter Try.func63, Try.ntmps63
    go_wp2
    go_ret
    exact ⟨rfl, rfl⟩
set_option maxHeartbeats 1600000 in
theorem schemas_any (v : Value) (us : List Sch) (w : World) (S : Nat → Prop) (hv : LAt 2 ESch w S v us) (hS : ∀ g, S g → g < w.heap.size) (hf : szL szSch us ≤ 1048576) : Calls Try.prog 64 #[v] w fun e w' => e = .returned (.bool (us.all sok)) ∧ Below w.heap.size w w' := by
  obtain ⟨A, c, g, o, F, rfl, OP, hn⟩ := opn hv hS
  have HO := Seg.hid OP
  have HZ := Seg.hid hf
  clear hv OP hf
  go_enter Try.func64, Try.ntmps64
  go_wp2
  go_loopw [7] (fun i wr => ∃ k : Nat, k ≤ us.length ∧ i = .int .i64 k ∧ Hid (Below w.heap.size w wr ∧ (us.take k).all sok = true)) (fun i _ => us.length - (intOf i).toNat)
  case atStart => exact ⟨0, Nat.zero_le _, rfl, Below.refl _ _, by simp⟩
  case round =>
    obtain ⟨k, hk, rfl, HG⟩ := hrel
    by_cases hlt : k < us.length
    · obtain ⟨ea, hc, hgw⟩ := HO.out.addr.resolve_left (by omega)
      subst ea
      obtain ⟨A', c', hfl, d0, d1⟩ := sch_at HO.out hS HG.out.1 hlt
      have h0 : (0 : Int) ≤ (k : Int) := by omega
      have h1 : (k : Int) < (us.length : Int) := by omega
      have ZU : Hid (szSch (us.getD k default) ≤ 1048576) := szL_one szSch HZ.out hlt
      have NX := Seg.hid (all_next sok us k hlt HG.out.2)
      have BX := Seg.hid (all_bad sok us k hlt)
      have HFL := Seg.hid hfl
      have BW := Seg.hid HG.out.1
      clear HG hfl
      generalize us.getD k default = u at *
      have CS : Hid (∀ wx, Below wr.heap.size wr wx → Calls Try.prog 24 #[.agg (srow u A' c')] wx fun e w' => e = .returned (.bool (sok u)) ∧ Below wx.heap.size wx w') := fun wx b => ScI.impl_any _ u wx S (HFL.out.below b (fun g hg => Nat.lt_of_lt_of_le (hS g hg) BW.out.size)) (fun g hg => Nat.lt_of_lt_of_le (hS g hg) (Nat.le_trans BW.out.size b.size)) ZU.out
      obtain ⟨b, hb⟩ : ∃ b, sok u = b := ⟨_, rfl⟩
      rw [hb] at CS NX BX
      clear hb
      go_wp2_with fail
      refine (CS.out _ (below1 wr _)).mono ?_
      rintro e w6 ⟨rfl, b6⟩
      have B6 : Hid (Below w.heap.size w w6) := chain BW.out (chain (below1 wr _) b6)
      clear b6
      cases b with
      | true =>
        go_wp2
        go_roundw
        case rel => exact ⟨k + 1, by omega, by go_num, B6.out, NX.out (by simp)⟩
        case measure => simp [intOf]; omega
      | false =>
        go_wp2
        go_ret
        exact ⟨by rw [BX.out (by simp)]; rfl, B6.out⟩
    · obtain rfl : k = us.length := by omega
      have RF : Hid (us.all sok = true) := by show _ = _; have := HG.out.2; rwa [List.take_length] at this
      go_wp2
      go_ret
      exact ⟨by rw [RF.out]; rfl, HG.out.1⟩
set_option maxHeartbeats 12800000 in
theorem fits_any (m : Int) (v y : Value) (old : List Sch) (s : Sch) (w : World) (S : Nat → Prop) (hm : mOk m = true) (hv : LAt 2 ESch w S v old) (hy : SchAt w S y s) (hS : ∀ g, S g → g < w.heap.size) (hf : szL szSch old ≤ 1048576) (hfs : szSch s ≤ 1048576) (ho : old.all sok = true) (hs : sok s = true) :
    Calls Try.prog 65 #[.int .i64 m, v, y] w fun e w' => e = .returned (.bool (fitL m old s)) ∧ Below w.heap.size w w' := by
  obtain ⟨A, c, g, o, F, rfl, OP, hn⟩ := opn hv hS
  have HO := Seg.hid OP
  have HZ := Seg.hid hf
  have HA := Seg.hid ho
  have SS := Seg.hid hs
  have ZS := Seg.hid hfs
  have HY := Seg.hid hy
  obtain ⟨A2, c2, rfl, -⟩ := formS hy
  have b8 := bits8 hm
  have b5 := bits5 hm
  have b6 := bits6 hm
  obtain ⟨bk, hbk⟩ : ∃ b, bck m = b := ⟨_, rfl⟩
  obtain ⟨fo, hfo⟩ : ∃ b, fth m = b := ⟨_, rfl⟩
  rw [hbk] at b5
  rw [hfo] at b6
  have HB := Seg.hid hbk
  have HF := Seg.hid hfo
  clear hv hy OP hf ho hs hfs hm hbk hfo
  go_enter Try.func65, Try.ntmps65
  by_cases h8 : m < 8
  · rw [decide_eq_true h8] at b8
    by_cases h2 : 1 < old.length
    · have q2 : (1 : Int) < (old.length : Int) := by omega
      have AK : Hid (asked m old = [old.getD (old.length - 1) default]) := by show _ = _; rw [asked, if_pos h8, last_one (by omega)]
      obtain ⟨ea, hc, hgw⟩ := HO.out.addr.resolve_left (by omega)
      subst ea
      go_wp2
      obtain ⟨N1, hN1⟩ : ∃ n, old.length - (old.length - 1) = n := ⟨_, rfl⟩
      obtain ⟨cb, hcb⟩ : ∃ n, c - (old.length - 1) = n := ⟨_, rfl⟩
      obtain ⟨ob, hob⟩ : ∃ n, o + (old.length - 1) * 2 = n := ⟨_, rfl⟩
      obtain ⟨lb, hlb⟩ : ∃ n : Int, (old.length : Int) - 1 = n := ⟨_, rfl⟩
      rw [hN1, hcb, hob, hlb]
      have HN1 : Hid (N1 = 1) := (by omega : N1 = 1)
      have HOB := Seg.hid hob
      clear hN1 hcb hob hlb
      go_loopw [24] (fun i wr => ∃ k : Nat, k ≤ N1 ∧ i = .int .i64 k ∧ Hid (Below w.heap.size w wr ∧ wr.heap[w.heap.size]? = some (.cells (srow s A2 c2) 44 (0, 0)) ∧ (k = 0 ∨ fitL m old s = true))) (fun i _ => N1 - (intOf i).toNat)
      case atStart => exact ⟨0, Nat.zero_le _, rfl, below1 _ _, heap_alloc_new _ _, .inl rfl⟩
      case round =>
        obtain ⟨k, hk, rfl, HG⟩ := hrel
        by_cases hlt : k < N1
        · have HK0 : Hid (k = 0) := (by have := HN1.out; omega : k = 0)
          have hkb : k ≤ 9 := by have := HK0.out; omega
          obtain ⟨A', c', hfl, d0, d1⟩ := sch_at HO.out hS HG.out.1 (k := old.length - 1) (by omega)
          have f0 : wr.cell? ⟨g, ob + k * 2, none⟩ = some (.string (old.getD (old.length - 1) default).name) := by rw [HK0.out, ← HOB.out]; exact d0
          have f1 : wr.cell? ⟨g, ob + k * 2 + 1, none⟩ = some (.slice A' (old.getD (old.length - 1) default).fields.length c') := by rw [HK0.out, ← HOB.out]; exact d1
          clear d0 d1
          have d0 := f0
          have d1 := f1
          clear f0 f1
          have SU : Hid (sok (old.getD (old.length - 1) default) = true) := all_at HA.out (by omega)
          have ZU : Hid (szSch (old.getD (old.length - 1) default) ≤ 1048576) := szL_one szSch HZ.out (by omega)
          have h0 : (0 : Int) ≤ (k : Int) := by omega
          have h1 : (k : Int) < (N1 : Int) := by omega
          have HFL := Seg.hid hfl
          have BW := Seg.hid HG.out.1
          have PW := Seg.hid HG.out.2.1
          have hz : w.heap.size < wr.heap.size := (Array.getElem?_eq_some_iff.1 PW.out).1
          have GO : Hid (fit1 m s (old.getD (old.length - 1) default) = true → ((k + 1) = 0 ∨ fitL m old s = true)) := fun h => .inr (by rw [fitL, AK.out, List.all_cons, h]; rfl)
          have NO : Hid (fit1 m s (old.getD (old.length - 1) default) = false → fitL m old s = false) := fun h => by rw [fitL, AK.out, List.all_cons, h]; rfl
          have FD : Hid (fit1 m s (old.getD (old.length - 1) default) = ((!bk || crd s (old.getD (old.length - 1) default)) && (!fo || crd (old.getD (old.length - 1) default) s))) := by show _ = _; rw [fit1, HB.out, HF.out]
          clear HG hfl
          generalize old.getD (old.length - 1) default = u at *
          have CB : Hid (∀ wx, Below wr.heap.size wr wx → Calls Try.prog 67 #[.agg (srow s A2 c2), .agg (srow u A' c')] wx fun e w' => e = .returned (.bool (crd s u)) ∧ Below wx.heap.size wx w') := fun wx b => CrI.can_any _ _ s u wx S (HY.out.below (chain BW.out b) hS) (HFL.out.below b (fun g hg => Nat.lt_of_lt_of_le (hS g hg) BW.out.size)) (fun g hg => Nat.lt_of_lt_of_le (hS g hg) (Nat.le_trans BW.out.size b.size)) ZS.out ZU.out SS.out SU.out
          have CF : Hid (∀ wx, Below wr.heap.size wr wx → Calls Try.prog 67 #[.agg (srow u A' c'), .agg (srow s A2 c2)] wx fun e w' => e = .returned (.bool (crd u s)) ∧ Below wx.heap.size wx w') := fun wx b => CrI.can_any _ _ u s wx S (HFL.out.below b (fun g hg => Nat.lt_of_lt_of_le (hS g hg) BW.out.size)) (HY.out.below (chain BW.out b) hS) (fun g hg => Nat.lt_of_lt_of_le (hS g hg) (Nat.le_trans BW.out.size b.size)) ZU.out ZS.out SU.out SS.out
          obtain ⟨b1, e1⟩ : ∃ b, crd s u = b := ⟨_, rfl⟩
          obtain ⟨b2, e2⟩ : ∃ b, crd u s = b := ⟨_, rfl⟩
          rw [e1] at CB FD
          rw [e2] at CF FD
          clear e1 e2
          rw [FD.out] at GO NO
          clear FD
          obtain ⟨w5, hw5⟩ : ∃ w5, wr.alloc (.cells #[.string u.name, .slice A' u.fields.length c'] 44 (0, 0)) = w5 := ⟨_, rfl⟩
          have T5 : Hid (w5.heap[wr.heap.size]? = some (.cells (srow u A' c') 44 (0, 0))) := by show _ = _; rw [← hw5]; exact heap_alloc_new _ _
          have N5 : Hid (Below wr.heap.size wr w5) := by show Below _ _ _; rw [← hw5]; exact below1 _ _
          have s5 : wr.heap.size < w5.heap.size := (Array.getElem?_eq_some_iff.1 T5.out).1
          go_upto_region 6 with fail
          try rw [hw5]
          clear hw5 d0 d1
          have KC : Hid (∀ wx, Below w5.heap.size w5 wx → wx.cell? ⟨w.heap.size, 0, none⟩ = some (.string s.name) ∧ wx.cell? ⟨w.heap.size, 1, none⟩ = some (.slice A2 s.fields.length c2) ∧ wx.cell? ⟨wr.heap.size, 0, none⟩ = some (.string u.name) ∧ wx.cell? ⟨wr.heap.size, 1, none⟩ = some (.slice A' u.fields.length c')) := fun wx b => by
            have p := (b.block _ (by omega)).trans ((N5.out.block _ hz).trans PW.out)
            have q := (b.block _ s5).trans T5.out
            exact ⟨cell_of_row wx _ 0 _ _ (0, 0) p, cell_of_row wx _ 1 _ _ (0, 0) p, cell_of_row wx _ 0 _ _ (0, 0) q, cell_of_row wx _ 1 _ _ (0, 0) q⟩
          obtain ⟨q0, q1, q2, q3⟩ := KC.out w5 (Below.refl _ _)
          have NXT : Hid (∀ wx, Below w5.heap.size w5 wx → (Below w.heap.size w wx ∧ wx.heap[w.heap.size]? = some (.cells (srow s A2 c2) 44 (0, 0)))) := fun wx b => ⟨chain (chain BW.out N5.out) b, (b.block _ (by omega)).trans ((N5.out.block _ hz).trans PW.out)⟩
          cases bk with
          | false =>
            cases fo with
            | false =>
              go_wp2
              go_roundw
              case rel => exact ⟨k + 1, by omega, by go_num, (NXT.out w5 (Below.refl _ _)).1, (NXT.out w5 (Below.refl _ _)).2, GO.out (by simp)⟩
              case measure => simp [intOf]; omega
            | true =>
              go_wp2_with fail
              refine (CF.out _ N5.out).mono ?_
              rintro e w6 ⟨rfl, b6⟩
              have B6 := Seg.hid b6
              clear b6
              cases b2 with
              | true =>
                go_wp2
                go_roundw
                case rel => exact ⟨k + 1, by omega, by go_num, (NXT.out _ B6.out).1, (NXT.out _ B6.out).2, GO.out (by simp)⟩
                case measure => simp [intOf]; omega
              | false =>
                go_wp2
                go_ret
                exact ⟨by rw [NO.out (by simp)]; rfl, (NXT.out _ B6.out).1⟩
          | true =>
            go_wp2_with fail
            refine (CB.out _ N5.out).mono ?_
            rintro e w6 ⟨rfl, b6⟩
            have B6 := Seg.hid b6
            clear b6 q0 q1 q2 q3
            obtain ⟨q0, q1, q2, q3⟩ := KC.out w6 B6.out
            cases b1 with
            | false =>
              have NN : Hid (fitL m old s = false) := NO.out (by cases fo <;> rfl)
              go_wp2
              go_ret
              exact ⟨by rw [NN.out]; rfl, (NXT.out _ B6.out).1⟩
            | true =>
              cases fo with
              | false =>
                go_wp2
                go_roundw
                case rel => exact ⟨k + 1, by omega, by go_num, (NXT.out _ B6.out).1, (NXT.out _ B6.out).2, GO.out (by simp)⟩
                case measure => simp [intOf]; omega
              | true =>
                go_wp2_with fail
                refine (CF.out _ (chain N5.out B6.out)).mono ?_
                rintro e w7 ⟨rfl, b7⟩
                have B7 := Seg.hid (chain B6.out b7)
                clear b7
                cases b2 with
                | true =>
                  go_wp2
                  go_roundw
                  case rel => exact ⟨k + 1, by omega, by go_num, (NXT.out _ B7.out).1, (NXT.out _ B7.out).2, GO.out (by simp)⟩
                  case measure => simp [intOf]; omega
                | false =>
                  go_wp2
                  go_ret
                  exact ⟨by rw [NO.out (by simp)]; rfl, (NXT.out _ B7.out).1⟩
        · have RF : Hid (fitL m old s = true) := by show _ = _; exact HG.out.2.2.resolve_left (by have := HN1.out; omega)
          obtain rfl : k = N1 := by omega
          go_wp2
          go_ret
          exact ⟨by rw [RF.out]; rfl, HG.out.1⟩
    · have AK : Hid (asked m old = old) := by show _ = _; rw [asked, if_pos h8, show old.length - 1 = 0 by omega]; rfl
      have q2 : ¬ (1 : Int) < (old.length : Int) := by omega
      go_wp2
      go_loopw [24] (fun i wr => ∃ k : Nat, k ≤ old.length ∧ i = .int .i64 k ∧ Hid (Below w.heap.size w wr ∧ wr.heap[w.heap.size]? = some (.cells (srow s A2 c2) 44 (0, 0)) ∧ (old.take k).all (fit1 m s) = true)) (fun i _ => old.length - (intOf i).toNat)
      case atStart => exact ⟨0, Nat.zero_le _, rfl, below1 _ _, heap_alloc_new _ _, by simp⟩
      case round =>
        obtain ⟨k, hk, rfl, HG⟩ := hrel
        by_cases hlt : k < old.length
        · obtain ⟨ea, hc, hgw⟩ := HO.out.addr.resolve_left (by omega)
          subst ea
          obtain ⟨A', c', hfl, d0, d1⟩ := sch_at HO.out hS HG.out.1 (k := k) (by omega)
          have SU : Hid (sok (old.getD (k) default) = true) := all_at HA.out (by omega)
          have ZU : Hid (szSch (old.getD (k) default) ≤ 1048576) := szL_one szSch HZ.out (by omega)
          have h0 : (0 : Int) ≤ (k : Int) := by omega
          have h1 : (k : Int) < (old.length : Int) := by omega
          have HFL := Seg.hid hfl
          have BW := Seg.hid HG.out.1
          have PW := Seg.hid HG.out.2.1
          have hz : w.heap.size < wr.heap.size := (Array.getElem?_eq_some_iff.1 PW.out).1
          have GO : Hid (fit1 m s (old.getD (k) default) = true → (old.take (k + 1)).all (fit1 m s) = true) := fun h => all_next (fit1 m s) old k hlt HG.out.2.2 h
          have NO : Hid (fit1 m s (old.getD (k) default) = false → fitL m old s = false) := fun h => by rw [fitL, AK.out]; exact all_bad (fit1 m s) old k hlt h
          have FD : Hid (fit1 m s (old.getD (k) default) = ((!bk || crd s (old.getD (k) default)) && (!fo || crd (old.getD (k) default) s))) := by show _ = _; rw [fit1, HB.out, HF.out]
          clear HG hfl
          generalize old.getD (k) default = u at *
          have CB : Hid (∀ wx, Below wr.heap.size wr wx → Calls Try.prog 67 #[.agg (srow s A2 c2), .agg (srow u A' c')] wx fun e w' => e = .returned (.bool (crd s u)) ∧ Below wx.heap.size wx w') := fun wx b => CrI.can_any _ _ s u wx S (HY.out.below (chain BW.out b) hS) (HFL.out.below b (fun g hg => Nat.lt_of_lt_of_le (hS g hg) BW.out.size)) (fun g hg => Nat.lt_of_lt_of_le (hS g hg) (Nat.le_trans BW.out.size b.size)) ZS.out ZU.out SS.out SU.out
          have CF : Hid (∀ wx, Below wr.heap.size wr wx → Calls Try.prog 67 #[.agg (srow u A' c'), .agg (srow s A2 c2)] wx fun e w' => e = .returned (.bool (crd u s)) ∧ Below wx.heap.size wx w') := fun wx b => CrI.can_any _ _ u s wx S (HFL.out.below b (fun g hg => Nat.lt_of_lt_of_le (hS g hg) BW.out.size)) (HY.out.below (chain BW.out b) hS) (fun g hg => Nat.lt_of_lt_of_le (hS g hg) (Nat.le_trans BW.out.size b.size)) ZU.out ZS.out SU.out SS.out
          obtain ⟨b1, e1⟩ : ∃ b, crd s u = b := ⟨_, rfl⟩
          obtain ⟨b2, e2⟩ : ∃ b, crd u s = b := ⟨_, rfl⟩
          rw [e1] at CB FD
          rw [e2] at CF FD
          clear e1 e2
          rw [FD.out] at GO NO
          clear FD
          obtain ⟨w5, hw5⟩ : ∃ w5, wr.alloc (.cells #[.string u.name, .slice A' u.fields.length c'] 44 (0, 0)) = w5 := ⟨_, rfl⟩
          have T5 : Hid (w5.heap[wr.heap.size]? = some (.cells (srow u A' c') 44 (0, 0))) := by show _ = _; rw [← hw5]; exact heap_alloc_new _ _
          have N5 : Hid (Below wr.heap.size wr w5) := by show Below _ _ _; rw [← hw5]; exact below1 _ _
          have s5 : wr.heap.size < w5.heap.size := (Array.getElem?_eq_some_iff.1 T5.out).1
          go_upto_region 6 with fail
          try rw [hw5]
          clear hw5 d0 d1
          have KC : Hid (∀ wx, Below w5.heap.size w5 wx → wx.cell? ⟨w.heap.size, 0, none⟩ = some (.string s.name) ∧ wx.cell? ⟨w.heap.size, 1, none⟩ = some (.slice A2 s.fields.length c2) ∧ wx.cell? ⟨wr.heap.size, 0, none⟩ = some (.string u.name) ∧ wx.cell? ⟨wr.heap.size, 1, none⟩ = some (.slice A' u.fields.length c')) := fun wx b => by
            have p := (b.block _ (by omega)).trans ((N5.out.block _ hz).trans PW.out)
            have q := (b.block _ s5).trans T5.out
            exact ⟨cell_of_row wx _ 0 _ _ (0, 0) p, cell_of_row wx _ 1 _ _ (0, 0) p, cell_of_row wx _ 0 _ _ (0, 0) q, cell_of_row wx _ 1 _ _ (0, 0) q⟩
          obtain ⟨q0, q1, q2, q3⟩ := KC.out w5 (Below.refl _ _)
          have NXT : Hid (∀ wx, Below w5.heap.size w5 wx → (Below w.heap.size w wx ∧ wx.heap[w.heap.size]? = some (.cells (srow s A2 c2) 44 (0, 0)))) := fun wx b => ⟨chain (chain BW.out N5.out) b, (b.block _ (by omega)).trans ((N5.out.block _ hz).trans PW.out)⟩
          cases bk with
          | false =>
            cases fo with
            | false =>
              go_wp2
              go_roundw
              case rel => exact ⟨k + 1, by omega, by go_num, (NXT.out w5 (Below.refl _ _)).1, (NXT.out w5 (Below.refl _ _)).2, GO.out (by simp)⟩
              case measure => simp [intOf]; omega
            | true =>
              go_wp2_with fail
              refine (CF.out _ N5.out).mono ?_
              rintro e w6 ⟨rfl, b6⟩
              have B6 := Seg.hid b6
              clear b6
              cases b2 with
              | true =>
                go_wp2
                go_roundw
                case rel => exact ⟨k + 1, by omega, by go_num, (NXT.out _ B6.out).1, (NXT.out _ B6.out).2, GO.out (by simp)⟩
                case measure => simp [intOf]; omega
              | false =>
                go_wp2
                go_ret
                exact ⟨by rw [NO.out (by simp)]; rfl, (NXT.out _ B6.out).1⟩
          | true =>
            go_wp2_with fail
            refine (CB.out _ N5.out).mono ?_
            rintro e w6 ⟨rfl, b6⟩
            have B6 := Seg.hid b6
            clear b6 q0 q1 q2 q3
            obtain ⟨q0, q1, q2, q3⟩ := KC.out w6 B6.out
            cases b1 with
            | false =>
              have NN : Hid (fitL m old s = false) := NO.out (by cases fo <;> rfl)
              go_wp2
              go_ret
              exact ⟨by rw [NN.out]; rfl, (NXT.out _ B6.out).1⟩
            | true =>
              cases fo with
              | false =>
                go_wp2
                go_roundw
                case rel => exact ⟨k + 1, by omega, by go_num, (NXT.out _ B6.out).1, (NXT.out _ B6.out).2, GO.out (by simp)⟩
                case measure => simp [intOf]; omega
              | true =>
                go_wp2_with fail
                refine (CF.out _ (chain N5.out B6.out)).mono ?_
                rintro e w7 ⟨rfl, b7⟩
                have B7 := Seg.hid (chain B6.out b7)
                clear b7
                cases b2 with
                | true =>
                  go_wp2
                  go_roundw
                  case rel => exact ⟨k + 1, by omega, by go_num, (NXT.out _ B7.out).1, (NXT.out _ B7.out).2, GO.out (by simp)⟩
                  case measure => simp [intOf]; omega
                | false =>
                  go_wp2
                  go_ret
                  exact ⟨by rw [NO.out (by simp)]; rfl, (NXT.out _ B7.out).1⟩
        · obtain rfl : k = old.length := by omega
          have RF : Hid (fitL m old s = true) := by show _ = _; rw [fitL, AK.out]; have := HG.out.2.2; rwa [List.take_length] at this
          go_wp2
          go_ret
          exact ⟨by rw [RF.out]; rfl, HG.out.1⟩
  · have AK : Hid (asked m old = old) := by show _ = _; rw [asked, if_neg h8]
    rw [decide_eq_false h8] at b8
    · go_wp2
      go_loopw [24] (fun i wr => ∃ k : Nat, k ≤ old.length ∧ i = .int .i64 k ∧ Hid (Below w.heap.size w wr ∧ wr.heap[w.heap.size]? = some (.cells (srow s A2 c2) 44 (0, 0)) ∧ (old.take k).all (fit1 m s) = true)) (fun i _ => old.length - (intOf i).toNat)
      case atStart => exact ⟨0, Nat.zero_le _, rfl, below1 _ _, heap_alloc_new _ _, by simp⟩
      case round =>
        obtain ⟨k, hk, rfl, HG⟩ := hrel
        by_cases hlt : k < old.length
        · obtain ⟨ea, hc, hgw⟩ := HO.out.addr.resolve_left (by omega)
          subst ea
          obtain ⟨A', c', hfl, d0, d1⟩ := sch_at HO.out hS HG.out.1 (k := k) (by omega)
          have SU : Hid (sok (old.getD (k) default) = true) := all_at HA.out (by omega)
          have ZU : Hid (szSch (old.getD (k) default) ≤ 1048576) := szL_one szSch HZ.out (by omega)
          have h0 : (0 : Int) ≤ (k : Int) := by omega
          have h1 : (k : Int) < (old.length : Int) := by omega
          have HFL := Seg.hid hfl
          have BW := Seg.hid HG.out.1
          have PW := Seg.hid HG.out.2.1
          have hz : w.heap.size < wr.heap.size := (Array.getElem?_eq_some_iff.1 PW.out).1
          have GO : Hid (fit1 m s (old.getD (k) default) = true → (old.take (k + 1)).all (fit1 m s) = true) := fun h => all_next (fit1 m s) old k hlt HG.out.2.2 h
          have NO : Hid (fit1 m s (old.getD (k) default) = false → fitL m old s = false) := fun h => by rw [fitL, AK.out]; exact all_bad (fit1 m s) old k hlt h
          have FD : Hid (fit1 m s (old.getD (k) default) = ((!bk || crd s (old.getD (k) default)) && (!fo || crd (old.getD (k) default) s))) := by show _ = _; rw [fit1, HB.out, HF.out]
          clear HG hfl
          generalize old.getD (k) default = u at *
          have CB : Hid (∀ wx, Below wr.heap.size wr wx → Calls Try.prog 67 #[.agg (srow s A2 c2), .agg (srow u A' c')] wx fun e w' => e = .returned (.bool (crd s u)) ∧ Below wx.heap.size wx w') := fun wx b => CrI.can_any _ _ s u wx S (HY.out.below (chain BW.out b) hS) (HFL.out.below b (fun g hg => Nat.lt_of_lt_of_le (hS g hg) BW.out.size)) (fun g hg => Nat.lt_of_lt_of_le (hS g hg) (Nat.le_trans BW.out.size b.size)) ZS.out ZU.out SS.out SU.out
          have CF : Hid (∀ wx, Below wr.heap.size wr wx → Calls Try.prog 67 #[.agg (srow u A' c'), .agg (srow s A2 c2)] wx fun e w' => e = .returned (.bool (crd u s)) ∧ Below wx.heap.size wx w') := fun wx b => CrI.can_any _ _ u s wx S (HFL.out.below b (fun g hg => Nat.lt_of_lt_of_le (hS g hg) BW.out.size)) (HY.out.below (chain BW.out b) hS) (fun g hg => Nat.lt_of_lt_of_le (hS g hg) (Nat.le_trans BW.out.size b.size)) ZU.out ZS.out SU.out SS.out
          obtain ⟨b1, e1⟩ : ∃ b, crd s u = b := ⟨_, rfl⟩
          obtain ⟨b2, e2⟩ : ∃ b, crd u s = b := ⟨_, rfl⟩
          rw [e1] at CB FD
          rw [e2] at CF FD
          clear e1 e2
          rw [FD.out] at GO NO
          clear FD
          obtain ⟨w5, hw5⟩ : ∃ w5, wr.alloc (.cells #[.string u.name, .slice A' u.fields.length c'] 44 (0, 0)) = w5 := ⟨_, rfl⟩
          have T5 : Hid (w5.heap[wr.heap.size]? = some (.cells (srow u A' c') 44 (0, 0))) := by show _ = _; rw [← hw5]; exact heap_alloc_new _ _
          have N5 : Hid (Below wr.heap.size wr w5) := by show Below _ _ _; rw [← hw5]; exact below1 _ _
          have s5 : wr.heap.size < w5.heap.size := (Array.getElem?_eq_some_iff.1 T5.out).1
          go_upto_region 6 with fail
          try rw [hw5]
          clear hw5 d0 d1
          have KC : Hid (∀ wx, Below w5.heap.size w5 wx → wx.cell? ⟨w.heap.size, 0, none⟩ = some (.string s.name) ∧ wx.cell? ⟨w.heap.size, 1, none⟩ = some (.slice A2 s.fields.length c2) ∧ wx.cell? ⟨wr.heap.size, 0, none⟩ = some (.string u.name) ∧ wx.cell? ⟨wr.heap.size, 1, none⟩ = some (.slice A' u.fields.length c')) := fun wx b => by
            have p := (b.block _ (by omega)).trans ((N5.out.block _ hz).trans PW.out)
            have q := (b.block _ s5).trans T5.out
            exact ⟨cell_of_row wx _ 0 _ _ (0, 0) p, cell_of_row wx _ 1 _ _ (0, 0) p, cell_of_row wx _ 0 _ _ (0, 0) q, cell_of_row wx _ 1 _ _ (0, 0) q⟩
          obtain ⟨q0, q1, q2, q3⟩ := KC.out w5 (Below.refl _ _)
          have NXT : Hid (∀ wx, Below w5.heap.size w5 wx → (Below w.heap.size w wx ∧ wx.heap[w.heap.size]? = some (.cells (srow s A2 c2) 44 (0, 0)))) := fun wx b => ⟨chain (chain BW.out N5.out) b, (b.block _ (by omega)).trans ((N5.out.block _ hz).trans PW.out)⟩
          cases bk with
          | false =>
            cases fo with
            | false =>
              go_wp2
              go_roundw
              case rel => exact ⟨k + 1, by omega, by go_num, (NXT.out w5 (Below.refl _ _)).1, (NXT.out w5 (Below.refl _ _)).2, GO.out (by simp)⟩
              case measure => simp [intOf]; omega
            | true =>
              go_wp2_with fail
              refine (CF.out _ N5.out).mono ?_
              rintro e w6 ⟨rfl, b6⟩
              have B6 := Seg.hid b6
              clear b6
              cases b2 with
              | true =>
                go_wp2
                go_roundw
                case rel => exact ⟨k + 1, by omega, by go_num, (NXT.out _ B6.out).1, (NXT.out _ B6.out).2, GO.out (by simp)⟩
                case measure => simp [intOf]; omega
              | false =>
                go_wp2
                go_ret
                exact ⟨by rw [NO.out (by simp)]; rfl, (NXT.out _ B6.out).1⟩
          | true =>
            go_wp2_with fail
            refine (CB.out _ N5.out).mono ?_
            rintro e w6 ⟨rfl, b6⟩
            have B6 := Seg.hid b6
            clear b6 q0 q1 q2 q3
            obtain ⟨q0, q1, q2, q3⟩ := KC.out w6 B6.out
            cases b1 with
            | false =>
              have NN : Hid (fitL m old s = false) := NO.out (by cases fo <;> rfl)
              go_wp2
              go_ret
              exact ⟨by rw [NN.out]; rfl, (NXT.out _ B6.out).1⟩
            | true =>
              cases fo with
              | false =>
                go_wp2
                go_roundw
                case rel => exact ⟨k + 1, by omega, by go_num, (NXT.out _ B6.out).1, (NXT.out _ B6.out).2, GO.out (by simp)⟩
                case measure => simp [intOf]; omega
              | true =>
                go_wp2_with fail
                refine (CF.out _ (chain N5.out B6.out)).mono ?_
                rintro e w7 ⟨rfl, b7⟩
                have B7 := Seg.hid (chain B6.out b7)
                clear b7
                cases b2 with
                | true =>
                  go_wp2
                  go_roundw
                  case rel => exact ⟨k + 1, by omega, by go_num, (NXT.out _ B7.out).1, (NXT.out _ B7.out).2, GO.out (by simp)⟩
                  case measure => simp [intOf]; omega
                | false =>
                  go_wp2
                  go_ret
                  exact ⟨by rw [NO.out (by simp)]; rfl, (NXT.out _ B7.out).1⟩
        · obtain rfl : k = old.length := by omega
          have RF : Hid (fitL m old s = true) := by show _ = _; rw [fitL, AK.out]; have := HG.out.2.2; rwa [List.take_length] at this
          go_wp2
          go_ret
          exact ⟨by rw [RF.out]; rfl, HG.out.1⟩
set_option maxHeartbeats 3200000 in
theorem impl_any (m : Int) (v y : Value) (old : List Sch) (s : Sch) (w : World) (S : Nat → Prop) (hv : LAt 2 ESch w S v old) (hy : SchAt w S y s) (hS : ∀ g, S g → g < w.heap.size) (hf : szL szSch old ≤ 1048576) (hfs : szSch s ≤ 1048576) :
    Calls Try.prog 29 #[.int .i64 m, v, y] w fun e w' => e = .returned (.bool (fitP m old s)) ∧ Below w.heap.size w w' := by
  have HV := Seg.hid hv
  have HY := Seg.hid hy
  obtain ⟨A, c, rfl⟩ := hv.form
  obtain ⟨A2, c2, rfl, -⟩ := formS hy
  clear hv hy
  have C1 : Hid (∀ wx, Below w.heap.size w wx → Calls Try.prog 64 #[.slice A old.length c] wx fun e w' => e = .returned (.bool (old.all sok)) ∧ Below wx.heap.size wx w') := fun wx b => schemas_any _ old wx S (LAt.below keepsSch HV.out b hS) (fun g hg => Nat.lt_of_lt_of_le (hS g hg) b.size) hf
  have C2 : Hid (∀ wx, Below w.heap.size w wx → Calls Try.prog 24 #[.agg (srow s A2 c2)] wx fun e w' => e = .returned (.bool (sok s)) ∧ Below wx.heap.size wx w') := fun wx b => ScI.impl_any _ s wx S (HY.out.below b hS) (fun g hg => Nat.lt_of_lt_of_le (hS g hg) b.size) hfs
  have C3 : Hid (mOk m = true → old.all sok = true → sok s = true → ∀ wx, Below w.heap.size w wx → Calls Try.prog 65 #[.int .i64 m, .slice A old.length c, .agg (srow s A2 c2)] wx fun e w' => e = .returned (.bool (fitL m old s)) ∧ Below wx.heap.size wx w') := fun h1 h2 h3 wx b => fits_any m _ _ old s wx S h1 (LAt.below keepsSch HV.out b hS) (HY.out.below b hS) (fun g hg => Nat.lt_of_lt_of_le (hS g hg) b.size) hf hfs h2 h3
  have R0 : Hid (fitP m old s = (mOk m && decide (old.length ≤ 20) && old.all sok && sok s && fitL m old s)) := rfl
  clear hf hfs
  go_enter Try.func29, Try.ntmps29
  cases h1 : mOk m with
  | false =>
    have R : Hid (fitP m old s = false) := by show _ = _; rw [R0.out, h1]; rfl
    have CM := Seg.hid (fun wx => mode_any m wx)
    rw [h1] at CM
    clear h1
    go_wp2_with (go_at_call 63; refine (CM.out _).mono ?_; rintro e w5 ⟨rfl, rfl⟩)
    go_ret
    exact ⟨by rw [R.out]; rfl, below1 _ _⟩
  | true =>
  have CM := Seg.hid (fun wx => mode_any m wx)
  rw [h1] at CM
  by_cases h20 : 20 < old.length
  · have R : Hid (fitP m old s = false) := by
      show _ = _
      have : ¬ old.length ≤ 20 := by omega
      rw [R0.out]; simp [this]
    have q : (20 : Int) < (old.length : Int) := by omega
    clear h1
    go_wp2_with (go_at_call 63; refine (CM.out _).mono ?_; rintro e w5 ⟨rfl, rfl⟩)
    go_ret
    exact ⟨by rw [R.out]; rfl, below1 _ _⟩
  have q : ¬ (20 : Int) < (old.length : Int) := by omega
  have R1 : Hid (fitP m old s = (old.all sok && sok s && fitL m old s)) := by
    show _ = _
    have : old.length ≤ 20 := by omega
    rw [R0.out, h1]; simp [this]
  have C4 := Seg.hid (C3.out h1)
  clear h1
  go_wp2_with (go_at_call 63; refine (CM.out _).mono ?_; rintro e w5 ⟨rfl, rfl⟩)
  refine (C1.out _ (below1 w _)).mono ?_
  rintro e w2 ⟨rfl, b2⟩
  have B2 := Seg.hid (chain (below1 w _) b2)
  have P2 : Hid (w2.heap[w.heap.size]? = some (.cells (srow s A2 c2) 44 (0, 0))) := (b2.block w.heap.size (by rw [hsz]; omega)).trans (heap_alloc_new _ _)
  have z2 : w.heap.size < w2.heap.size := (Array.getElem?_eq_some_iff.1 P2.out).1
  have q0 : w2.cell? ⟨w.heap.size, 0, none⟩ = some (.string s.name) := cell_of_row w2 _ 0 _ _ (0, 0) P2.out
  have q1 : w2.cell? ⟨w.heap.size, 1, none⟩ = some (.slice A2 s.fields.length c2) := cell_of_row w2 _ 1 _ _ (0, 0) P2.out
  clear b2
  cases h2 : old.all sok with
  | false =>
    have R : Hid (fitP m old s = false) := by show _ = _; rw [R1.out, h2]; rfl
    clear h2
    go_wp2
    go_ret
    exact ⟨by rw [R.out]; rfl, B2.out⟩
  | true =>
    have C5 := Seg.hid (C4.out h2)
    have R2 : Hid (fitP m old s = (sok s && fitL m old s)) := by show _ = _; rw [R1.out, h2]; rfl
    clear h2
    go_wp2_with fail
    refine (C2.out _ B2.out).mono ?_
    rintro e w3 ⟨rfl, b3⟩
    have B3 := Seg.hid (chain B2.out b3)
    have r0 := (b3.cell (p := ⟨w.heap.size, 0, none⟩) z2).trans q0
    have r1 := (b3.cell (p := ⟨w.heap.size, 1, none⟩) z2).trans q1
    clear b3 q0 q1
    cases h3 : sok s with
    | false =>
      have R : Hid (fitP m old s = false) := by show _ = _; rw [R2.out, h3]; rfl
      clear h3
      go_wp2
      go_ret
      exact ⟨by rw [R.out]; rfl, B3.out⟩
    | true =>
      have C6 := Seg.hid (C5.out h3)
      have R3 : Hid (fitP m old s = fitL m old s) := by show _ = _; rw [R2.out, h3]; rfl
      clear h3
      go_wp2_with (go_at_call 65; refine (C6.out _ B3.out).mono ?_; rintro e w4 ⟨rfl, b4⟩; have B4 := Seg.hid (chain B3.out b4); clear b4)
      go_ret
      exact ⟨by rw [R3.out]; rfl, B4.out⟩
end Go.Proofs.Ythohpaljkbnkeaa.FtI
