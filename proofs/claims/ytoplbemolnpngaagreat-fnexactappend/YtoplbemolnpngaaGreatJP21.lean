/- The finder's find. -/
import Derived.Deep.RegionWith
import Derived.Test.YtoplbemolnpngaaGreatJP20
namespace Go.Proofs.YtoplbemolnpngaaGreat.SqW
set_option maxRecDepth 8000
open Go.RowKit Go.ChangeShapes Go.WideShapes
open SqM SqK SqG
open SqN (Par og_below)
set_option linter.unusedVariables false

/-- What the look-up hands over: the places, and where they lie. -/
structure Places (w w1 : World) (M : Nat) (l : List Int) (at_ : Nat) (A : Option Addr) (n c : Nat) : Prop where
  len : n = (pos l at_ at_).length
  cells : 0 < n → ∃ g, A = some ⟨g, 0, none⟩ ∧ n ≤ c ∧ g < w1.heap.size ∧ ∀ j, j < n → w1.cell? ⟨g, j, none⟩ = some (.int .i64 ((pos l at_ at_).getD j 0 : Nat))
  bel : Below w.heap.size w w1
theorem Places.le {w w1 : World} {M at_ n c : Nat} {l : List Int} {A : Option Addr} (h : Places w w1 M l at_ A n c) (hat : at_ + 4 ≤ l.length) (hl : l.length ≤ 60000) : n ≤ 60000 := by
  have h1 := h.len
  have h2 : (pos l at_ at_).length ≤ at_ := by unfold pos; exact Nat.le_trans (List.length_filter_le _ _) (by simp)
  omega
theorem chain' {w w1 wr : World} (h : Below w.heap.size w w1) (h1 : Below w1.heap.size w1 wr) : Below w.heap.size w wr := h.trans (h1.mono h.size)
theorem run_ways (l : List Int) (p at_ L : Nat) (hp : p < at_) : (L < runR l p at_ L ∧ rn l at_ (at_ - p) = runR l p at_ L) ∨ (runR l p at_ L ≤ L ∧ rn l at_ (at_ - p) ≤ L) := by
  unfold runR
  split
  · rename_i h
    rcases Nat.lt_or_ge L (rn l at_ (at_ - p)) with h1 | h1
    · exact .inl ⟨h1, rfl⟩
    · exact .inr ⟨h1, h1⟩
  · rename_i h
    exact .inr ⟨Nat.zero_le _, rn_stop (by rw [show at_ + L - (at_ - p) = p + L by omega]; exact fun e => h e.symm)⟩
theorem look_at {w w0 w1 : World} {M at_ : Nat} {l : List Int} (hG : Grp w M l at_) (hb0 : Below w.heap.size w w0) (hb1 : Below w0.drew.heap.size w0.drew w1) (hat : at_ + 4 ≤ l.length) (hl : l.length ≤ 60000) :
    ∃ (A : Option Addr) (n c : Nat), (Instr.lookup 128 (.map (some M)) (.agg (k4 l at_)) false).run Tryz.prog w1 = .ok (.slice A n c) w1 ∧ Places w w1 M l at_ A n c := by
  have hbel : Below w.heap.size w w1 := hb0.drew.trans (hb1.mono hb0.size)
  have hG1 := hG.below hbel
  obtain ⟨D, ho, hk⟩ := hG1.own
  obtain ⟨kl, hkl, hR⟩ := hk at_ hat
  obtain ⟨v, zs, hrun, hat', hoi, hzl, _⟩ := ho.at keyed Tryz.underlying128 (zeroI w1) (by unfold maxLen; omega) hkl
  have hzs := reads_eq hR hat' hoi
  subst hzs
  rcases hoi.1.2 with ⟨h1, h2⟩ | ⟨g, cap, cur, h1, h2, h3, h4, h5, h6, h7⟩
  · subst h1
    refine ⟨none, 0, 0, hrun, ?_, fun h => absurd h (by omega), hbel⟩
    simpa [posI] using h2.symm
  · subst h1
    refine ⟨_, _, _, hrun, by simp [posI], fun _ => ⟨g, rfl, h4, (Array.getElem?_eq_some_iff.1 h3).1, fun j hj => ?_⟩, hbel⟩
    have hc := hoi.1.cellAt j (by simpa using hj)
    rw [hc]
    have : j < (pos l at_ at_).length := by simpa [posI] using hj
    simp [posI, this]

set_option maxRecDepth 4000 in
set_option maxHeartbeats 1600000 in
theorem find_in (g o c M at_ : Nat) (l : List Int) (w : World) (hl : l.length ≤ 60000) (hc : l.length ≤ c) (hg : g < w.heap.size) (hat : at_ + 4 ≤ l.length)
    (ha : ∀ i, i < l.length → w.cell? ⟨g, o + i, none⟩ = some (.int .u8 (l.getD i 0))) (hG : Grp w M l at_) :
    Calls Tryz.prog 104 #[fv g o l.length c M, .int .i64 at_] w fun e w' => e = .returned (.tuple #[.int .i64 (cp l at_).1, .int .i64 (cp l at_).2]) ∧ Below w.heap.size w w' := by
  have HA := Seg.hid ha
  have HG := Seg.hid hG
  clear ha hG
  unfold fv
  obtain ⟨lg, hlg⟩ : ∃ lg : Nat, lg = min (l.length - at_) 67 := ⟨_, rfl⟩
  have HLG := Seg.hid hlg
  have g1 : 4 ≤ lg := by omega
  have g2 : lg ≤ 67 := by omega
  have g3 : at_ + lg ≤ l.length := by omega
  obtain ⟨x0, x1, x2, x3, hx4⟩ : ∃ x0 x1 x2 x3 : Int, k4 l at_ = #[.int .u8 x0, .int .u8 x1, .int .u8 x2, .int .u8 x3] := ⟨_, _, _, _, rfl⟩
  have hPar : Hid (Par (w.alloc (.cells #[.slice (some ⟨g, o, none⟩) l.length c, .map (some M)] 130)) w.heap.size g o l.length c M) := heap_alloc_new _ _
  have W0 : Hid (Below w.heap.size w (w.alloc (.cells #[.slice (some ⟨g, o, none⟩) l.length c, .map (some M)] 130))) := (Below.refl _ _).alloc (Nat.le_refl _) _
  by_cases hA : l.length - at_ ≤ 67
  · have m2 : (l.length : Int) - (at_ : Int) = (lg : Int) := by omega
    have m3 : (lg : Int) ≤ 67 := by omega
    clear hlg
    go_enter Tryz.func104, Tryz.ntmps104
    go_wp2_with fail
    go_region_with (go_at_call 109; refine (key_any g o c M at_ l (w.alloc (.cells #[.slice (some ⟨g, o, none⟩) l.length c, .map (some M)] 130)).drew hl hc ?hg hat ?hcc).mono ?_; (case hg => simp; omega); (case hcc => exact fun j hj => (W0.out.drew.cell (p := ⟨g, o + j, none⟩) hg).trans (HA.out j hj)); rintro e w1 ⟨rfl, b1⟩; rw [hx4]; have LK := look_at HG.out W0.out b1 hat hl; rw [hx4] at LK; obtain ⟨A1, n1, c1, hrun, FT⟩ := LK; have PP : Hid (Par w1 w.heap.size g o l.length c M) := (b1.block w.heap.size hPar.out.lt).trans hPar.out; have q0 := PP.out.cells.1; have q1 := PP.out.cells.2; have hn1 : n1 ≤ 60000 := FT.le hat hl; have HFT := Seg.hid FT; clear b1 FT)
    all_goals
      clear q0 q1 hrun
      go_wp2
      go_loopw [8, 9, 10, 11] (fun x y z _ wr => ∃ k L d : Nat, x = .int .i64 L ∧ y = .int .i64 d ∧ z = .int .i64 ((k : Int) - 1) ∧ k ≤ n1 ∧ Hid (Inv l at_ k L d ∧ Below w1.heap.size w1 wr)) (fun _ _ z _ _ => (intOf z + 1).toNat)
      case atStart => exact ⟨n1, 0, 0, rfl, rfl, rfl, Nat.le_refl _, HFT.out.len ▸ Inv.start l at_, Below.refl _ _⟩
      case round =>
        obtain ⟨k, L, d, rfl, rfl, rfl, hk, HI⟩ := hrel
        have HB := Seg.hid (chain' HFT.out.bel HI.out.2)
        by_cases hk0 : k = 0
        · subst hk0
          have f0 : decide ((0 : Int) ≤ ((0 : Nat) : Int) - 1) = false := by simp
          have HC := Seg.hid (HI.out.1.ends hat)
          go_wp2
          go_ret2
          exact ⟨by rw [HC.out]; rfl, HB.out⟩
        · obtain ⟨k', rfl⟩ : ∃ k', k = k' + 1 := ⟨k - 1, by omega⟩
          have f0 : (0 : Int) ≤ ((k' + 1 : Nat) : Int) - 1 := by omega
          by_cases hL : L < lg
          · have f1 : (L : Int) < (lg : Int) := by omega
            obtain ⟨gp, rfl, hnc, hgp, hcl⟩ := HFT.out.cells (by omega)
            obtain ⟨p, hp⟩ : ∃ p, (pos l at_ at_)[k']? = some p := ⟨_, List.getElem?_eq_getElem (by have := HFT.out.len; omega)⟩
            have hpm := (mem_pos.1 (List.mem_of_getElem? hp)).1
            have cp0 : wr.cell? ⟨gp, k', none⟩ = some (.int .i64 (p : Int)) := by
              rw [HI.out.2.cell (p := ⟨gp, k', none⟩) hgp, hcl k' (by omega)]
              simp [List.getD_eq_getElem?_getD, hp]
            have HP := Seg.hid hp
            have PR : Hid (Par wr w.heap.size g o l.length c M) := (HI.out.2.block w.heap.size PP.out.lt).trans PP.out
            have r0 := PR.out.cells.1
            have r1 := PR.out.cells.2
            clear hp hcl
            have f2 : ((k' + 1 : Nat) : Int) - 1 = (k' : Int) := by omega
            have f3 : (0 : Int) ≤ (k' : Int) := by omega
            have f4 : (k' : Int) < (n1 : Int) := by omega
            by_cases hd : 4096 < at_ - p
            · have f5 : (4096 : Int) < (at_ : Int) - (p : Int) := by omega
              have HC := Seg.hid (HI.out.1.breaks hat HP.out hd)
              go_wp2
              go_ret2
              exact ⟨by rw [HC.out]; rfl, HB.out⟩
            · have f5 : ¬ (4096 : Int) < (at_ : Int) - (p : Int) := by omega
              have hgw : g < wr.heap.size := Nat.lt_of_lt_of_le hg HB.out.size
              have CE : Hid (∀ j, j < l.length → wr.cell? ⟨g, o + j, none⟩ = some (.int .u8 (l.getD j 0))) := fun j hj => (HB.out.cell (p := ⟨g, o + j, none⟩) hg).trans (HA.out j hj)
              go_wp2_with fail
              go_region_with (go_at_call 110; refine (run_any g o c M p at_ L lg l wr.drew hl hc hgw hpm hL g3 HLG.out CE.out).mono ?_; rintro e w2 ⟨rfl, b2⟩; have I2 : Hid (Below w1.heap.size w1 w2) := HI.out.2.drew.trans (b2.mono HI.out.2.size); have cp2 : w2.cell? ⟨gp, k', none⟩ = some (.int .i64 (p : Int)) := (b2.cell (p := ⟨gp, k', none⟩) (Nat.lt_of_lt_of_le hgp HI.out.2.size)).trans cp0; clear b2)
              all_goals
                clear cp0 r0 r1
                have HR := Seg.hid (run_ways l p at_ L hpm)
                generalize runR l p at_ L = R at *
                rcases HR.out with ⟨hR1, hR2⟩ | ⟨hR1, hR2⟩
                · have f6 : (L : Int) < (R : Int) := by omega
                  have NX := Seg.hid (HI.out.1.better hat HP.out (by omega) (by rw [hR2]; exact hR1))
                  rw [hR2] at NX
                  have HRR := Seg.hid hR2
                  have hRb : R ≤ 67 := by have := (rn_le l at_ (at_ - p)).1; omega
                  clear hR2
                  go_wp2_with fail
                  go_region
                  go_wp2
                  go_roundw
                  case rel => exact ⟨k', R, at_ - p, rfl, by go_num, by go_num, by omega, NX.out, I2.out.drew⟩
                  case measure => simp [intOf]
                · have f6 : ¬ (L : Int) < (R : Int) := by omega
                  have NX := Seg.hid (HI.out.1.worse HP.out hR2)
                  have HRR := Seg.hid hR2
                  clear hR2
                  go_wp2
                  go_roundw
                  case rel => exact ⟨k', L, d, rfl, rfl, by go_num, by omega, NX.out, I2.out⟩
                  case measure => simp [intOf]
          · have f1 : decide ((L : Int) < (lg : Int)) = false := by simp; omega
            have HC := Seg.hid (HI.out.1.full hat (by have h1 := HI.out.1.lt; have h2 := HLG.out; omega))
            go_wp2
            go_ret2
            exact ⟨by rw [HC.out]; rfl, HB.out⟩
  · obtain rfl : lg = 67 := by omega
    have m3 : ¬ (l.length : Int) - (at_ : Int) ≤ 67 := by omega
    clear hlg
    go_enter Tryz.func104, Tryz.ntmps104
    go_wp2_with fail
    go_region_with (go_at_call 109; refine (key_any g o c M at_ l (w.alloc (.cells #[.slice (some ⟨g, o, none⟩) l.length c, .map (some M)] 130)).drew hl hc ?hg hat ?hcc).mono ?_; (case hg => simp; omega); (case hcc => exact fun j hj => (W0.out.drew.cell (p := ⟨g, o + j, none⟩) hg).trans (HA.out j hj)); rintro e w1 ⟨rfl, b1⟩; rw [hx4]; have LK := look_at HG.out W0.out b1 hat hl; rw [hx4] at LK; obtain ⟨A1, n1, c1, hrun, FT⟩ := LK; have PP : Hid (Par w1 w.heap.size g o l.length c M) := (b1.block w.heap.size hPar.out.lt).trans hPar.out; have q0 := PP.out.cells.1; have q1 := PP.out.cells.2; have hn1 : n1 ≤ 60000 := FT.le hat hl; have HFT := Seg.hid FT; clear b1 FT)
    all_goals
      clear q0 q1 hrun
      go_wp2
      go_loopw [8, 9, 10, 11] (fun x y z _ wr => ∃ k L d : Nat, x = .int .i64 L ∧ y = .int .i64 d ∧ z = .int .i64 ((k : Int) - 1) ∧ k ≤ n1 ∧ Hid (Inv l at_ k L d ∧ Below w1.heap.size w1 wr)) (fun _ _ z _ _ => (intOf z + 1).toNat)
      case atStart => exact ⟨n1, 0, 0, rfl, rfl, rfl, Nat.le_refl _, HFT.out.len ▸ Inv.start l at_, Below.refl _ _⟩
      case round =>
        obtain ⟨k, L, d, rfl, rfl, rfl, hk, HI⟩ := hrel
        have HB := Seg.hid (chain' HFT.out.bel HI.out.2)
        by_cases hk0 : k = 0
        · subst hk0
          have f0 : decide ((0 : Int) ≤ ((0 : Nat) : Int) - 1) = false := by simp
          have HC := Seg.hid (HI.out.1.ends hat)
          go_wp2
          go_ret2
          exact ⟨by rw [HC.out]; rfl, HB.out⟩
        · obtain ⟨k', rfl⟩ : ∃ k', k = k' + 1 := ⟨k - 1, by omega⟩
          have f0 : (0 : Int) ≤ ((k' + 1 : Nat) : Int) - 1 := by omega
          by_cases hL : L < 67
          · have f1 : (L : Int) < (67 : Int) := by omega
            obtain ⟨gp, rfl, hnc, hgp, hcl⟩ := HFT.out.cells (by omega)
            obtain ⟨p, hp⟩ : ∃ p, (pos l at_ at_)[k']? = some p := ⟨_, List.getElem?_eq_getElem (by have := HFT.out.len; omega)⟩
            have hpm := (mem_pos.1 (List.mem_of_getElem? hp)).1
            have cp0 : wr.cell? ⟨gp, k', none⟩ = some (.int .i64 (p : Int)) := by
              rw [HI.out.2.cell (p := ⟨gp, k', none⟩) hgp, hcl k' (by omega)]
              simp [List.getD_eq_getElem?_getD, hp]
            have HP := Seg.hid hp
            have PR : Hid (Par wr w.heap.size g o l.length c M) := (HI.out.2.block w.heap.size PP.out.lt).trans PP.out
            have r0 := PR.out.cells.1
            have r1 := PR.out.cells.2
            clear hp hcl
            have f2 : ((k' + 1 : Nat) : Int) - 1 = (k' : Int) := by omega
            have f3 : (0 : Int) ≤ (k' : Int) := by omega
            have f4 : (k' : Int) < (n1 : Int) := by omega
            by_cases hd : 4096 < at_ - p
            · have f5 : (4096 : Int) < (at_ : Int) - (p : Int) := by omega
              have HC := Seg.hid (HI.out.1.breaks hat HP.out hd)
              go_wp2
              go_ret2
              exact ⟨by rw [HC.out]; rfl, HB.out⟩
            · have f5 : ¬ (4096 : Int) < (at_ : Int) - (p : Int) := by omega
              have hgw : g < wr.heap.size := Nat.lt_of_lt_of_le hg HB.out.size
              have CE : Hid (∀ j, j < l.length → wr.cell? ⟨g, o + j, none⟩ = some (.int .u8 (l.getD j 0))) := fun j hj => (HB.out.cell (p := ⟨g, o + j, none⟩) hg).trans (HA.out j hj)
              go_wp2_with fail
              go_region_with (go_at_call 110; refine (run_any g o c M p at_ L 67 l wr.drew hl hc hgw hpm hL g3 HLG.out CE.out).mono ?_; rintro e w2 ⟨rfl, b2⟩; have I2 : Hid (Below w1.heap.size w1 w2) := HI.out.2.drew.trans (b2.mono HI.out.2.size); have cp2 : w2.cell? ⟨gp, k', none⟩ = some (.int .i64 (p : Int)) := (b2.cell (p := ⟨gp, k', none⟩) (Nat.lt_of_lt_of_le hgp HI.out.2.size)).trans cp0; clear b2)
              all_goals
                clear cp0 r0 r1
                have HR := Seg.hid (run_ways l p at_ L hpm)
                generalize runR l p at_ L = R at *
                rcases HR.out with ⟨hR1, hR2⟩ | ⟨hR1, hR2⟩
                · have f6 : (L : Int) < (R : Int) := by omega
                  have NX := Seg.hid (HI.out.1.better hat HP.out (by omega) (by rw [hR2]; exact hR1))
                  rw [hR2] at NX
                  have HRR := Seg.hid hR2
                  have hRb : R ≤ 67 := by have := (rn_le l at_ (at_ - p)).1; omega
                  clear hR2
                  go_wp2_with fail
                  go_region
                  go_wp2
                  go_roundw
                  case rel => exact ⟨k', R, at_ - p, rfl, by go_num, by go_num, by omega, NX.out, I2.out.drew⟩
                  case measure => simp [intOf]
                · have f6 : ¬ (L : Int) < (R : Int) := by omega
                  have NX := Seg.hid (HI.out.1.worse HP.out hR2)
                  have HRR := Seg.hid hR2
                  clear hR2
                  go_wp2
                  go_roundw
                  case rel => exact ⟨k', L, d, rfl, rfl, by go_num, by omega, NX.out, I2.out⟩
                  case measure => simp [intOf]
          · have f1 : decide ((L : Int) < (67 : Int)) = false := by simp; omega
            have HC := Seg.hid (HI.out.1.full hat (by have h1 := HI.out.1.lt; have h2 := HLG.out; omega))
            go_wp2
            go_ret2
            exact ⟨by rw [HC.out]; rfl, HB.out⟩
end Go.Proofs.YtoplbemolnpngaaGreat.SqW
