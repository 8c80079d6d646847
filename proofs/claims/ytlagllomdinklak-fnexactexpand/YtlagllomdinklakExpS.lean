/- What the model's Expand answers: the bytes that the pieces are of. -/
import Derived.Test.YtlagllomdinklakExpA
import Derived.Deep.Cut
import Derived.Deep.QuietTactic
import Derived.BigQuiet
namespace Go.Proofs.Ytlagllomdinklak.ExpS
open Go.RowKit
open Seg (B)
open ExpM (piece expand Far)
open Expc (cpy)
set_option linter.unusedVariables false

theorem in_any (a b c : Int) (w : World) : Calls Try.prog 26 #[.int .i64 a, .int .i64 b, .int .i64 c] w fun e w' => e = .returned (.bool (decide (b ≤ a) && decide (a ≤ c))) ∧ w = w' := by
  by_cases h : b ≤ a
  · go_enter Try.func26, Try.ntmps26
    go_wp2
    go_ret
    exact ⟨Seg.ret_bool (by simp [h]), rfl⟩
  · have hd : decide (b ≤ a) = false := decide_eq_false h
    go_enter Try.func26, Try.ntmps26
    go_wp2
    go_ret
    exact ⟨Seg.ret_bool rfl, rfl⟩

set_option maxHeartbeats 800000 in
theorem spec_out (A : Option Addr) (n c : Nat) (most : Int) (w : World) (h : most < 0 ∨ 60000 < most) :
    Calls Try.prog 17 #[.slice A n c, .int .i64 most] w fun e w' => Ans w none e w' := by
  have hb : (decide ((0 : Int) ≤ most) && decide (most ≤ 60000)) = false := by
    rw [Bool.and_eq_false_iff]
    rcases h with h | h
    · exact .inl (decide_eq_false (by omega))
    · exact .inr (decide_eq_false (by omega))
  go_enter Try.func17, Try.ntmps17
  go_wp2_with fail
  refine (in_any most 0 60000 _).mono ?_
  rintro e w1 ⟨rfl, rfl⟩
  rw [hb]
  go_wp2_with fail
  go_ret2
  exact ⟨w.heap.size, rfl, World.ownsRow_lit w #[] 0 (Nat.le_refl _) (Nat.zero_le _) rfl, (Below.refl _ _).alloc (Nat.le_refl _) _⟩

set_option maxRecDepth 100000 in
set_option maxHeartbeats 3200000 in
theorem spec_in (g n c : Nat) (l : List Int) (most : Nat) (w : World) (hn : n ≤ 2000000) (hc1 : n ≤ c) (hl : l.length = n) (hby : Seg.Byt l) (hg : g < w.heap.size) (hmost : most ≤ 60000)
    (hcell : ∀ j, j < n → w.cell? ⟨g, j, none⟩ = some (.int .u8 (l.getD j 0))) :
    Calls Try.prog 17 #[.slice (some ⟨g, 0, none⟩) n c, .int .i64 most] w fun e w' => Ans w (expand l most 0 []) e w' := by
  obtain ⟨i0, hi, hz0, hz1, hz2⟩ := info_parts Expd.infoB
  subst hl
  have HC := Seg.hid hcell; have HY := Seg.hid hby
  clear hcell hby
  have hb : (decide ((0 : Int) ≤ (most : Int)) && decide ((most : Int) ≤ 60000)) = true := by simp; omega
  go_enter Try.func17, Try.ntmps17
  go_wp2_with fail
  refine (in_any most 0 60000 _).mono ?_
  rintro e w1 ⟨rfl, rfl⟩
  rw [hb]
  clear hb
  go_wp2_with fail
  go_loopw [6, 7, 8, 9, 10] (fun v i _ _ _ wr => ∃ (k : Nat) (out : List Int) (vg vc : Nat), i = .int .i64 k ∧ v = .slice (some ⟨vg, 0, none⟩) out.length vc ∧ Far l most k out ∧ Out w wr v out) (fun _ i _ _ _ _ => l.length - (intOf i).toNat)
  case atStart => exact ⟨0, [], w.heap.size, 0, rfl, rfl, Far.start l most, ⟨World.ownsRow_lit w #[] 0 (Nat.le_refl _) (Nat.zero_le _) rfl, (Below.refl _ _).alloc (Nat.le_refl _) _⟩⟩
  case round =>
    obtain ⟨i, out, vg, vc, rfl, rfl, F, O⟩ := hrel
    have hle := F.le
    have hol := F.ol
    have hbs := O.bl.size
    have HF := Seg.hid F; have HOU := Seg.hid O
    clear F O
    by_cases hlt : i < l.length
    · obtain ⟨x, HX, hx⟩ : ∃ x : Nat, Hid (l.getD i 0 = (x : Int)) ∧ x < 256 := ⟨(l.getD i 0).toNat, by show _ = _; have := HY.out i; omega, by have := HY.out i; omega⟩
      have cx : wr.cell? ⟨g, i, none⟩ = some (.int .u8 (x : Int)) := by rw [HOU.out.bl.cell (p := ⟨g, i, none⟩) hg, HC.out i hlt, HX.out]
      have HX2 : Hid ((l.getD i 0).toNat = x) := (by show _ = _; rw [HX.out]; simp)
      by_cases h1 : x < 128
      · by_cases h2 : l.length - i < 1 + (x + 1)
        · have HE := Seg.hid (HF.out.bad hlt (ExpM.p_short HX2.out h1 h2))
          have hd : decide (((l.length : Nat) : Int) < (i : Int) + 1 + (x : Int) + 1) = true := decide_eq_true (by omega)
          go_wp2_with fail
          go_ret2
          rw [HE.out]
          exact ⟨wr.heap.size, rfl, World.ownsRow_lit wr #[] 0 hbs (Nat.zero_le _) rfl, HOU.out.bl.alloc hbs _⟩
        have hd : decide (((l.length : Nat) : Int) < (i : Int) + 1 + (x : Int) + 1) = false := decide_eq_false (by omega)
        by_cases h3 : most < out.length + (x + 1)
        · have HE := Seg.hid (HF.out.bad hlt (ExpM.p_full HX2.out h1 h2 h3))
          go_wp2_with fail
          go_ret2
          rw [HE.out]
          exact ⟨wr.heap.size, rfl, World.ownsRow_lit wr #[] 0 hbs (Nat.zero_le _) rfl, HOU.out.bl.alloc hbs _⟩
        · have HN := Seg.hid (HF.out.next hlt (ExpM.p_plain HX2.out h1 h2 h3))
          have HS : Hid (∀ j u, (B ((List.range (x + 1)).map fun j => l.getD (i + (1 + j)) 0))[j]? = some u → wr.cell? ((⟨g, i + 1, none⟩ : Addr).add j) = some u) := by
            intro j u hj
            have hjl : j < x + 1 := by
              have := (List.getElem?_eq_some_iff.1 hj).1
              simpa [B] using this
            have e : (⟨g, i + 1, none⟩ : Addr).add j = ⟨g, i + (1 + j), none⟩ := by
              unfold Addr.add
              split
              · simp_all
              · simp; omega
            rw [e, HOU.out.bl.cell (p := ⟨g, i + (1 + j), none⟩) hg, HC.out (i + (1 + j)) (by omega)]
            simpa [B, hjl] using hj
          have hci : ¬ c = i + 1 := by omega
          have htn : ((i : Int) + 1 + (x : Int) + 1).toNat = i + 1 + x + 1 := by omega
          go_wp2_with (at_builtin; (refine wpList_append_lies _ rfl (.tmp 46) (.tmp 53) 22 rfl w.heap.size 5 i0 (.int .u8 0) 1 1 Try.underlying22 hi hz0 hz1 hz2 rfl (by decide) _ _ _ rfl HOU.out.own ⟨g, i + 1, none⟩ _ _ (B ((List.range (x + 1)).map fun j => l.getD (i + (1 + j)) 0)) rfl (by simp [B]; omega) HS.out (by simp [B, Value.oneCell']) (by omega) (by unfold maxLen; omega) (by omega) hbs wr.heap.size rfl ?_); intro g1 c1 w1 o1 gr1 at1 lt1)
          have hnl : ((List.range (x + 1)).map fun j => l.getD (i + (1 + j)) 0).length = i + 1 + x - i := by simp; omega
          have HO1 := Seg.hid (HOU.out.push o1 hnl gr1)
          have HNL : Hid ((out ++ (List.range (x + 1)).map fun j => l.getD (i + (1 + j)) 0).length = out.length + (i + 1 + x - i)) := (by show _ = _; rw [List.length_append, hnl])
          clear o1 gr1 at1 lt1 hnl
          go_wp2
          go_roundw
          case rel => exact ⟨i + (1 + (x + 1)), _, g1, c1, by go_num, by rw [HNL.out], HN.out, HO1.out⟩
          case measure => simp [intOf]; omega
      · by_cases h2 : 191 < x
        · have HE := Seg.hid (HF.out.bad hlt (ExpM.p_high HX2.out h1 h2))
          have hd : decide ((191 : Int) < (x : Int)) = true := decide_eq_true (by omega)
          go_wp2_with fail
          go_ret2
          rw [HE.out]
          exact ⟨wr.heap.size, rfl, World.ownsRow_lit wr #[] 0 hbs (Nat.zero_le _) rfl, HOU.out.bl.alloc hbs _⟩
        have hd : decide ((191 : Int) < (x : Int)) = false := decide_eq_false (by omega)
        by_cases h3 : l.length - i < 3
        · have HE := Seg.hid (HF.out.bad hlt (ExpM.p_cut HX2.out h1 h2 h3))
          go_wp2_with fail
          go_ret2
          rw [HE.out]
          exact ⟨wr.heap.size, rfl, World.ownsRow_lit wr #[] 0 hbs (Nat.zero_le _) rfl, HOU.out.bl.alloc hbs _⟩
        obtain ⟨a, HA, ha⟩ : ∃ a : Nat, Hid (l.getD (i + 1) 0 = (a : Int)) ∧ a < 256 := ⟨(l.getD (i + 1) 0).toNat, by show _ = _; have := HY.out (i + 1); omega, by have := HY.out (i + 1); omega⟩
        obtain ⟨b, HB, hb⟩ : ∃ b : Nat, Hid (l.getD (i + 2) 0 = (b : Int)) ∧ b < 256 := ⟨(l.getD (i + 2) 0).toNat, by show _ = _; have := HY.out (i + 2); omega, by have := HY.out (i + 2); omega⟩
        have ca : wr.cell? ⟨g, i + 1, none⟩ = some (.int .u8 (a : Int)) := (by rw [HOU.out.bl.cell (p := ⟨g, i + 1, none⟩) hg, HC.out (i + 1) (by omega), HA.out])
        have cb : wr.cell? ⟨g, i + 1 + 1, none⟩ = some (.int .u8 (b : Int)) := (by rw [HOU.out.bl.cell (p := ⟨g, i + 1 + 1, none⟩) hg, HC.out (i + 1 + 1) (by omega), HB.out])
        have HA2 : Hid ((l.getD (i + 1) 0).toNat = a) := (by show _ = _; rw [HA.out]; simp)
        have HB2 : Hid ((l.getD (i + 2) 0).toNat = b) := (by show _ = _; rw [HB.out]; simp)
        have hi1 : (0 : Int) ≤ (i : Int) + 1 := by omega
        have hi2 : (i : Int) + 1 < (l.length : Int) := by omega
        have hi3 : (i : Int) + 1 + 1 < (l.length : Int) := by omega
        by_cases h5 : out.length < a * 256 + b + 1
        · have HE : Hid (expand l most 0 [] = none) := (by
            by_cases h4 : most < out.length + (x - 124)
            · exact HF.out.bad hlt (ExpM.p_much HX2.out h1 h2 h3 h4)
            · exact HF.out.bad hlt (ExpM.p_back HX2.out h1 h2 h3 h4 HA2.out HB2.out h5))
          have hd5 : decide ((out.length : Int) < (a : Int) * 256 + (b : Int) + 1) = true := decide_eq_true (by omega)
          go_wp2_with fail
          go_quiet (fail)
          go_wp2_with fail
          go_ret2
          rw [HE.out]
          exact ⟨wr.heap.size, rfl, World.ownsRow_lit _ #[] 0 hbs (Nat.zero_le _) rfl, (below_drewN HOU.out.bl _).alloc hbs _⟩
        have hd5 : decide ((out.length : Int) < (a : Int) * 256 + (b : Int) + 1) = false := decide_eq_false (by omega)
        by_cases h4 : most < out.length + (x - 124)
        · have HE := Seg.hid (HF.out.bad hlt (ExpM.p_much HX2.out h1 h2 h3 h4))
          go_wp2_with fail
          go_quiet (fail)
          go_wp2_with fail
          go_ret2
          rw [HE.out]
          exact ⟨wr.heap.size, rfl, World.ownsRow_lit _ #[] 0 hbs (Nat.zero_le _) rfl, (below_drewN HOU.out.bl _).alloc hbs _⟩
        · have HN := Seg.hid (HF.out.next hlt (ExpM.p_copy HX2.out h1 h2 h3 h4 HA2.out HB2.out h5))
          go_wp2_with fail
          go_quiet (fail)
          go_wp2_with fail
          have O0 : ∀ d, Out w (wr.drewN d) (.slice (some ⟨vg, 0, none⟩) out.length vc) (cpy (a * 256 + b + 1) 0 out) := fun d => ⟨HOU.out.own, below_drewN HOU.out.bl d⟩
          clear ca cb cx
          go_loopw [6, 10] (fun v y w5 => ∃ (j vg' vc' : Nat), j ≤ x - 124 ∧ y = .int .i64 j ∧ v = .slice (some ⟨vg', 0, none⟩) (cpy (a * 256 + b + 1) j out).length vc' ∧ Out w w5 v (cpy (a * 256 + b + 1) j out)) (fun _ y _ => x - 124 - (intOf y).toNat)
          case atStart => exact ⟨0, vg, vc, Nat.zero_le _, rfl, rfl, O0 _⟩
          case round =>
            clear O0
            obtain ⟨j, vg', vc', hj, rfl, rfl, O5⟩ := hrel
            have hcl := Expc.cpy_len (a * 256 + b + 1) j out
            have HCS : Hid (cpy (a * 256 + b + 1) (j + 1) out = cpy (a * 256 + b + 1) j out ++ [(cpy (a * 256 + b + 1) j out).getD ((cpy (a * 256 + b + 1) j out).length - (a * 256 + b + 1)) 0]) := rfl
            have HCE : Hid (j = x - 124 → cpy (a * 256 + b + 1) j out = cpy (a * 256 + b + 1) (x - 124) out) := fun e => by rw [e]
            revert O5 hcl HCS HCE
            generalize cpy (a * 256 + b + 1) j out = cs
            intro O5 hcl HCS HCE
            have hcb : cs.length ≤ 60000 := by omega
            have HCL := Seg.hid hcl
            have hoc := Seg.owns_cap O5.own
            have hbs5 := O5.bl.size
            by_cases hjl : j < x - 124
            · obtain ⟨p, hp⟩ : ∃ p : Nat, cs.length = p + (a * 256 + b + 1) := ⟨cs.length - (a * 256 + b + 1), by omega⟩
              have hpe : (cs.length : Int) - ((a : Int) * 256 + (b : Int) + 1) = (p : Int) := by omega
              have hpl : p < cs.length := by omega
              have hcv := Seg.owns_cell O5.own p hpl
              have HP : Hid (cs.length - (a * 256 + b + 1) = p) := (by show _ = _; omega)
              obtain ⟨v, hv⟩ : ∃ v, v = cs.getD p 0 := ⟨_, rfl⟩
              rw [← hv] at hcv
              rw [HP.out, ← hv] at HCS
              have HO5 := Seg.hid O5
              clear hcl hp hv O5
              go_wp2_with (at_builtin; refine wpList_append_lies _ rfl (.tmp 105) (.tmp 113) 22 rfl w.heap.size 5 i0 (.int .u8 0) 1 1 Try.underlying22 hi hz0 hz1 hz2 rfl (by decide) _ _ _ rfl (HO5.out.own.alloc _) ⟨wr.heap.size, 0, none⟩ 1 1 [.int .u8 v] rfl rfl (cell_one_new _ _ _) (by simp [Value.oneCell']) (by decide) (by unfold maxLen; omega) (by omega) (by simp; omega) (wr.heap.size + 1) (by simp) ?_; intro g1 c1 w1 o1 gr1 at1 lt1)
              have HO6 := Seg.hid ((HO5.out.alloc _).push (new := [v]) o1 rfl gr1)
              clear o1 gr1 at1 lt1 HO5
              rw [← HCS.out] at HO6
              have HLN : Hid ((cpy (a * 256 + b + 1) (j + 1) out).length = cs.length + 1) := (by show _ = _; rw [HCS.out]; simp)
              go_wp2
              go_roundw
              case rel => exact ⟨j + 1, g1, c1, by omega, by go_num, by rw [HLN.out], HO6.out⟩
              case measure => simp [intOf]; omega
            · have hje : j = x - 124 := by omega
              have HO5 : Hid (Out w wr (.slice (some ⟨vg', 0, none⟩) cs.length vc') (cpy (a * 256 + b + 1) (x - 124) out)) := (by rw [← HCE.out hje]; exact O5)
              have HLN : Hid (cs.length = (cpy (a * 256 + b + 1) (x - 124) out).length) := (by show _ = _; rw [← HCE.out hje])
              clear hje hcl O5
              go_wp2
              go_roundw
              case rel => exact ⟨i + 3, _, vg', vc', by go_num, by rw [HLN.out], HN.out, HO5.out⟩
              case measure => simp [intOf]; omega
    · have HE := Seg.hid (HF.out.done hlt)
      go_wp2_with fail
      go_ret2
      rw [HE.out]
      exact ⟨vg, vc, rfl, HOU.out.own, HOU.out.bl⟩
end Go.Proofs.Ytlagllomdinklak.ExpS
