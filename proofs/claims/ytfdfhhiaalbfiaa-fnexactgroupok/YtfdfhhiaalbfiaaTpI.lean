/- TopicsOk of the program. -/
import Derived.Test.YtfdfhhiaalbfiaaTpP
import Derived.Test.YtfdfhhiaalbfiaaCmp
import Derived.Test.YtfdfhhiaalbfiaaInQ
import Derived.Test.YtfdfhhiaalbfiaaNmQ
import Derived.Deep.RegionHeld3
namespace Go.Proofs.Ytfdfhhiaalbfiaa.TpI
set_option maxRecDepth 8000
open Go.RowKit
open Ls Lp TpP Cmp
open Recs (hsz below1 below2 chain)
set_option linter.unusedVariables false
def rT (a b : Tpc) : Bool := sl a.name b.name
theorem tpg_asc : ∀ (l : List Tpc) (p : Option ByteArray), tpg p l = (l.all okT && ((match l with | [] => true | t :: _ => aheadO p t.name) && ascL rT l))
  | [], p => by simp [tpg, ascL]
  | [t], p => by simp [tpg, ascL]
  | t :: u :: r, p => by
    rw [tpg, tpg_asc (u :: r)]
    simp only [List.all_cons, ascL, aheadO, rT]
    cases okT t <;> cases aheadO p t.name <;> cases okT u <;> cases r.all okT <;> cases sl t.name u.name <;> simp
theorem topics_asc (l : List Tpc) : topics l = (decide (l.length ≤ 20) && (ascL rT l && (l.all okT && decide (sumP l ≤ 400)))) := by
  unfold topics
  rw [tpg_asc]
  have : (match l with | [] => true | t :: _ => aheadO none t.name) = true := by cases l <;> rfl
  rw [this]
  cases l.all okT <;> cases ascL rT l <;> simp
set_option maxHeartbeats 1600000 in
theorem cmp_any (a b : Tpc) (w : World) :
    Calls Try.prog 71 #[.agg #[.string a.name, .int .i64 a.parts], .agg #[.string b.name, .int .i64 b.parts]] w fun e w' => e = .returned (.int .i64 (cmpB a.name b.name)) ∧ Below w.heap.size w w' := by
  go_enter Try.func71, Try.ntmps71
  go_wp2_with (go_at_call 106; refine (sc_any _ _ _).mono ?_; rintro e w' ⟨rfl, rfl⟩)
  go_ret
  exact ⟨rfl, below2 _ _ _⟩
set_option maxHeartbeats 3200000 in
theorem asc_any (x : Value) (l : List Tpc) (w : World) (S : Nat → Prop) (hv : LAt 2 ETpc w S x l) (hS : ∀ g, S g → g < w.heap.size) :
    Calls Try.prog 70 #[x, .func (.func 71) #[] #[]] w fun e w' => e = .returned (.bool (ascL rT l)) ∧ Below w.heap.size w w' := by
  obtain ⟨A, c, g, o, F, rfl, OA, n3⟩ := opn hv hS
  have HA := Seg.hid OA
  clear hv OA
  go_enter Try.func70, Try.ntmps70
  go_wp2_with fail
  go_loopw [5] (fun i wr => ∃ (k : Nat), 1 ≤ k ∧ k ≤ l.length + 1 ∧ i = .int .i64 k ∧ Hid (ascL rT (l.drop (k - 1)) = ascL rT l ∧ Below w.heap.size w wr)) (fun i _ => l.length - (intOf i).toNat)
  case atStart => exact ⟨1, by omega, by omega, rfl, rfl, Below.refl _ _⟩
  case round =>
    obtain ⟨k, hk1, hk, rfl, HR⟩ := hrel
    by_cases hlt : k < l.length
    · obtain ⟨ea, hc, hga⟩ := HA.out.addr.resolve_left (by omega)
      have hb := HR.out.2
      have OL := HA.out.later keepsTpc hS hb
      obtain ⟨d0, d1⟩ := tpc_cells (i := k) (fun j hj => OL.cells k hlt j hj) (OL.el k hlt)
      obtain ⟨d2, d3⟩ := tpc_cells (i := k - 1) (fun j hj => OL.cells (k - 1) (by omega) j hj) (OL.el (k - 1) (by omega))
      have HD := HR.out.1
      rw [ascL_step rT (by omega) hlt] at HD
      have HD' := Seg.hid HD
      have hgr : g < wr.heap.size := Nat.lt_of_lt_of_le hga hb.size
      have h0 : (0 : Int) ≤ (k : Int) := by omega
      have h1' : (k : Int) < (l.length : Int) := by omega
      have w1 : IntKind.i64.wrap ((k : Int) - 1) = (k : Int) - 1 := by rw [IntKind.wrap_i64] <;> omega
      have w2 : IntKind.i64.wrap ((k : Int) + 1) = (k : Int) + 1 := by rw [IntKind.wrap_i64] <;> omega
      have k2 : (0 : Int) ≤ (k : Int) - 1 := by omega
      have k3 : (k : Int) - 1 < (l.length : Int) := by omega
      have k6 : (1 : Int) ≤ (k : Int) := by omega
      clear HD OL hb
      generalize l.getD k default = tk at *
      generalize l.getD (k - 1) default = pk at *
      subst ea
      obtain ⟨q, hq⟩ : ∃ q, cmpB pk.name tk.name = q := ⟨_, rfl⟩
      have CQ : Hid (∀ wx, Calls Try.prog 71 #[.agg #[.string pk.name, .int .i64 pk.parts], .agg #[.string tk.name, .int .i64 tk.parts]] wx fun e w' => e = .returned (.int .i64 q) ∧ Below wx.heap.size wx w') := fun wx => by rw [← hq]; exact cmp_any pk tk wx
      have QG : Hid (decide (0 ≤ q) = !rT pk tk) := by show _ = _; rw [← hq]; exact cmpB_geq _ _
      clear hq
      go_wp2_with fail
      go_region_held3 (fun w' => w'.cell? ⟨g, o + k * 2, none⟩ = some (.string tk.name) ∧ w'.cell? ⟨g, o + k * 2 + 1, none⟩ = some (.int .i64 tk.parts) ∧ w'.cell? ⟨g, o + (k - 1) * 2, none⟩ = some (.string pk.name) ∧ w'.cell? ⟨g, o + (k - 1) * 2 + 1, none⟩ = some (.int .i64 pk.parts)) (first | exact ⟨d0, d1, d2, d3⟩ | exact ⟨r0, r1, r2, r3⟩ | go_keep)
        (first | (go_at_call 71; refine (CQ.out _).mono ?_; rintro e w8 ⟨rfl, b8⟩; have B8 : Hid (Below wr.heap.size wr w8) := ⟨b8.os, b8.tape, b8.output, b8.size, b8.block⟩; clear b8; have r0 := (B8.out.cell (p := ⟨g, o + k * 2, none⟩) hgr).trans d0; have r1 := (B8.out.cell (p := ⟨g, o + k * 2 + 1, none⟩) hgr).trans d1; have r2 := (B8.out.cell (p := ⟨g, o + (k - 1) * 2, none⟩) hgr).trans d2; have r3 := (B8.out.cell (p := ⟨g, o + (k - 1) * 2 + 1, none⟩) hgr).trans d3))
      cases hr : rT pk tk with
      | false =>
        have Z : Hid (ascL rT l = false) := by show _ = _; rw [← HD'.out, hr]; rfl
        rw [show decide (0 ≤ q) = true by rw [QG.out, hr]; rfl]
        go_wp2
        go_ret
        exact ⟨Seg.ret_bool Z.out.symm, chain HR.out.2 B8.out⟩
      | true =>
        have Z : Hid (ascL rT (l.drop (k + 1 - 1)) = ascL rT l) := by show _ = _; rw [← HD'.out, hr]; rfl
        rw [show decide (0 ≤ q) = false by rw [QG.out, hr]; rfl]
        go_wp2
        go_roundw
        case rel => exact ⟨k + 1, by omega, by omega, by go_num, Z.out, chain HR.out.2 B8.out⟩
        case measure => simp [intOf]; omega
    · have HE := HR.out.1
      rw [ascL_end rT (by omega)] at HE
      have HE' := Seg.hid HE
      clear HE
      go_wp2
      go_ret
      exact ⟨Seg.ret_bool HE'.out, HR.out.2⟩
theorem all_step {T : Type} [Inhabited T] (p : T → Bool) {l : List T} {k : Nat} (h : k < l.length) : (l.drop k).all p = (p (l.getD k default) && (l.drop (k + 1)).all p) := by
  rw [drop_cons h]; rfl
set_option maxHeartbeats 3200000 in
theorem impl_any (x : Value) (l : List Tpc) (w : World) (S : Nat → Prop) (hv : LAt 2 ETpc w S x l) (hS : ∀ g, S g → g < w.heap.size) (hf : szL szTpc l ≤ 1048576) :
    Calls Try.prog 41 #[x] w fun e w' => e = .returned (.bool (topics l)) ∧ Below w.heap.size w w' := by
  have HV := Seg.hid hv
  obtain ⟨A, c, g, o, F, rfl, OA, n3⟩ := opn hv hS
  have HA := Seg.hid OA
  have hn : l.length ≤ 1048576 := szL_len _ hf
  have HL : Hid (∀ i, i < l.length → (l.getD i default).name.size ≤ maxLen) := fun i hi => by
    have := szL_one _ hf hi
    unfold szTpc at this
    unfold maxLen
    omega
  clear hv OA hf n3
  have no : ∀ (w' : World), topics l = false → Below w.heap.size w w' → (Ending.returned (.bool false) = .returned (.bool (topics l)) ∧ Below w.heap.size w w') := fun w' h b => ⟨by rw [h], b⟩
  have NO := Seg.hid no
  clear no
  go_enter Try.func41, Try.ntmps41
  by_cases h1 : l.length ≤ 20
  case neg =>
    have Z : Hid (topics l = false) := by show _ = _; simp [topics, h1]
    go_wp2
    go_ret
    exact NO.out _ Z.out (Below.refl _ _)
  have KS : Hid (topics l = (ascL rT l && (l.all okT && decide (sumP l ≤ 400)))) := by show _ = _; rw [topics_asc]; simp [h1]
  have AC : Hid (Calls Try.prog 70 #[.slice A l.length c, .func (.func 71) #[] #[]] w fun e w' => e = .returned (.bool (ascL rT l)) ∧ Below w.heap.size w w') := asc_any _ l w S HV.out hS
  cases ha : ascL rT l with
  | false =>
    have Z : Hid (topics l = false) := by show _ = _; rw [KS.out, ha]; rfl
    rw [ha] at AC
    go_wp2_with (go_at_call 70; refine AC.out.mono ?_; rintro e w1 ⟨rfl, b1⟩; have B1 := Seg.hid b1; clear b1)
    go_ret
    exact NO.out _ Z.out B1.out
  | true =>
  have KT : Hid (topics l = (l.all okT && decide (sumP l ≤ 400))) := by show _ = _; rw [KS.out, ha]; rfl
  rw [ha] at AC
  clear KS ha
  go_wp2_with (go_at_call 70; refine AC.out.mono ?_; rintro e w1 ⟨rfl, b1⟩; have B1 := Seg.hid b1; clear b1)
  clear AC
  go_loopw [3, 16] (fun a i wr => ∃ (k : Nat) (s : Int), k ≤ l.length ∧ a = .int .i64 s ∧ i = .int .i64 k ∧ 0 ≤ s ∧ s ≤ 50 * k ∧ Hid ((l.drop k).all okT = l.all okT ∧ s = sumP (l.take k) ∧ Below w.heap.size w wr)) (fun _ i _ => l.length - (intOf i).toNat)
  case atStart => exact ⟨0, 0, Nat.zero_le _, rfl, rfl, by omega, by omega, rfl, rfl, B1.out⟩
  case round =>
    obtain ⟨k, s, hk, rfl, rfl, hs0, hs1, HR⟩ := hrel
    by_cases hlt : k < l.length
    · obtain ⟨ea, hc, hga⟩ := HA.out.addr.resolve_left (by omega)
      have hb := HR.out.2.2
      have OL := HA.out.later keepsTpc hS hb
      obtain ⟨d0, d1⟩ := tpc_cells (i := k) (fun j hj => OL.cells k hlt j hj) (OL.el k hlt)
      have h0 : (0 : Int) ≤ (k : Int) := by omega
      have h1' : (k : Int) < (l.length : Int) := by omega
      have hgr : g < wr.heap.size := Nat.lt_of_lt_of_le hga hb.size
      have NS := HL.out k hlt
      have ST : Hid (sumP (l.take (k + 1)) = s + (l.getD k default).parts) := by show _ = _; rw [sum_take hlt, HR.out.2.1]
      have HD := HR.out.1
      rw [all_step okT hlt] at HD
      have HD' := Seg.hid HD
      clear HD OL hb
      generalize l.getD k default = tk at *
      subst ea
      have ZF : Hid (okT tk = false → topics l = false) := fun hb => by rw [KT.out, ← HD'.out, hb]; rfl
      have ZT : Hid (okT tk = true → (l.drop (k + 1)).all okT = l.all okT) := fun hb => by rw [← HD'.out, hb]; rfl
      have BI : Hid (Below w.heap.size w (wr.alloc (.cells #[.string tk.name, .int .i64 tk.parts] 114 (0, 0)))) := chain HR.out.2.2 (below1 wr _)
      clear HR
      cases b1 : Nm.nameOk tk.name with
      | false =>
        have Z := Seg.hid (ZF.out (by simp [okT, b1]))
        have KN := Seg.hid b1
        clear b1
        go_wp2_with (first | (go_at_call 53; refine (Nm.impl_q _ _ KN.out _ NS).mono ?_; rintro e w2 ⟨rfl, rfl⟩))
        go_ret
        exact NO.out _ Z.out BI.out
      | true =>
      have KN := Seg.hid b1
      clear b1
      cases b2 : inR 0 tk.parts 50 with
      | false =>
        have Z := Seg.hid (ZF.out (by simp [okT, b2]))
        have KP := Seg.hid b2
        clear b2
        go_wp2_with (first | (go_at_call 53; refine (Nm.impl_q _ _ KN.out _ NS).mono ?_; rintro e w2 ⟨rfl, rfl⟩) | (go_at_call 40; refine (InB.within_b _ _ _ _ KP.out _).mono ?_; rintro e w2 ⟨rfl, rfl⟩))
        go_ret
        exact NO.out _ Z.out BI.out
      | true =>
      have KP := Seg.hid b2
      have HB := Seg.hid (inR_true b2)
      have hb1 : 0 ≤ tk.parts := HB.out.1
      have hb2 : tk.parts ≤ 50 := HB.out.2
      have ZY := Seg.hid (ZT.out (by simp [okT, KN.out, b2]))
      clear b2
      go_wp2_with (first | (go_at_call 53; refine (Nm.impl_q _ _ KN.out _ NS).mono ?_; rintro e w2 ⟨rfl, rfl⟩) | (go_at_call 40; refine (InB.within_b _ _ _ _ KP.out _).mono ?_; rintro e w2 ⟨rfl, rfl⟩))
      go_roundw
      case rel => exact ⟨k + 1, sumP (l.take (k + 1)), by omega, by rw [ST.out], by go_num, by rw [ST.out]; have := HB.out; omega, by rw [ST.out]; have := HB.out; omega, ZY.out, rfl, BI.out⟩
      case measure => simp [intOf]; omega
    · have Z : Hid (topics l = decide (s ≤ 400)) := by
        show _ = _
        have h2 := HR.out.1
        rw [List.drop_eq_nil_of_le (by omega)] at h2
        rw [KT.out, ← h2, HR.out.2.1, List.take_of_length_le (by omega)]
        simp
      go_wp2
      go_ret
      exact ⟨Seg.ret_bool (by rw [Z.out]), HR.out.2.2⟩
end Go.Proofs.Ytfdfhhiaalbfiaa.TpI
