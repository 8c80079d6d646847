/- Names and slots of the program. -/
import Derived.Test.YtfdfhhiaalbfiaaWnA
import Derived.Test.YtfdfhhiaalbfiaaCmp
import Derived.Test.YtfdfhhiaalbfiaaInQ
import Derived.Test.YtfdfhhiaalbfiaaNmQ
import Derived.Deep.RegionHeld3
namespace Go.Proofs.Ytfdfhhiaalbfiaa.SlI
set_option maxRecDepth 8000
open Go.RowKit
open Ls Lp WnP Cmp
open TpP (sl aheadO)
open Recs (hsz below1 below2 chain)
set_option linter.unusedVariables false
theorem ret_int {a b : Int} (h : a = b) : Ending.returned (.int .i64 a) = .returned (.int .i64 b) := by rw [h]
theorem less_irrefl : ∀ (x : List UInt8), Go.Op.bytesLess x x = false
  | [] => rfl
  | a :: x => by
    have h := less_irrefl x
    unfold Go.Op.bytesLess
    simp [h]
def cmpI (a b : Int) : Int := if a < b then -1 else if b < a then 1 else 0
def cmpS (a b : Slt) : Int := if a.topic.toList = b.topic.toList then cmpI a.part b.part else cmpB a.topic b.topic
theorem cmpS_geq (a b : Slt) : decide (0 ≤ cmpS a b) = !ahd a b := by
  unfold cmpS ahd
  by_cases h : a.topic.toList = b.topic.toList
  · rw [if_pos h, decide_eq_true h]
    have e : sl a.topic b.topic = false := by unfold sl; rw [h]; exact less_irrefl _
    rw [e]
    unfold cmpI
    by_cases h1 : a.part < b.part
    · simp [h1]
    · by_cases h2 : b.part < a.part
      · simp [h1, h2]
      · simp [h1, h2]
  · rw [if_neg h, decide_eq_false h, cmpB_geq]
    simp
set_option maxHeartbeats 1600000 in
theorem nan_any (a : Int) (w : World) : Calls Try.prog 144 #[.int .i64 a] w fun e w' => e = .returned (.bool false) ∧ w = w' := by
  go_enter Try.func144, Try.ntmps144
  go_wp2
  go_ret
  exact ⟨rfl, rfl⟩
set_option maxHeartbeats 1600000 in
theorem ci_any (a b : Int) (w : World) : Calls Try.prog 138 #[.int .i64 a, .int .i64 b] w fun e w' => e = .returned (.int .i64 (cmpI a b)) ∧ w = w' := by
  by_cases h1 : a < b
  · have Z : Hid (cmpI a b = -1) := by show _ = _; simp [cmpI, h1]
    go_enter Try.func138, Try.ntmps138
    go_wp2_with (go_at_call 144; refine (nan_any _ _).mono ?_; rintro e w' ⟨rfl, rfl⟩)
    go_ret
    exact ⟨ret_int Z.out.symm, rfl⟩
  · by_cases h2 : b < a
    · have Z : Hid (cmpI a b = 1) := by show _ = _; simp [cmpI, h1, h2]
      go_enter Try.func138, Try.ntmps138
      go_wp2_with (go_at_call 144; refine (nan_any _ _).mono ?_; rintro e w' ⟨rfl, rfl⟩)
      go_ret
      exact ⟨ret_int Z.out.symm, rfl⟩
    · have Z : Hid (cmpI a b = 0) := by show _ = _; simp [cmpI, h1, h2]
      go_enter Try.func138, Try.ntmps138
      go_wp2_with (go_at_call 144; refine (nan_any _ _).mono ?_; rintro e w' ⟨rfl, rfl⟩)
      go_ret
      exact ⟨ret_int Z.out.symm, rfl⟩
set_option maxHeartbeats 1600000 in
theorem cmpS_any (a b : Slt) (w : World) :
    Calls Try.prog 114 #[.agg #[.string a.topic, .int .i64 a.part], .agg #[.string b.topic, .int .i64 b.part]] w fun e w' => e = .returned (.int .i64 (cmpS a b)) ∧ Below w.heap.size w w' := by
  by_cases h : a.topic.toList = b.topic.toList
  · have Z : Hid (cmpS a b = cmpI a.part b.part) := by show _ = _; simp [cmpS, h]
    have h3 : (a.topic.toList == b.topic.toList) = true := by simp [h]
    clear h
    go_enter Try.func114, Try.ntmps114
    go_wp2_with (first | (go_at_call 138; refine (ci_any _ _ _).mono ?_; rintro e w' ⟨rfl, rfl⟩))
    go_ret
    exact ⟨ret_int Z.out.symm, below2 _ _ _⟩
  · have Z : Hid (cmpS a b = cmpB a.topic b.topic) := by show _ = _; simp [cmpS, h]
    have h3 : (a.topic.toList == b.topic.toList) = false := beq_false_of_ne h
    clear h
    go_enter Try.func114, Try.ntmps114
    go_wp2_with (first | (go_at_call 106; refine (sc_any _ _ _).mono ?_; rintro e w' ⟨rfl, rfl⟩))
    go_ret
    exact ⟨ret_int Z.out.symm, below2 _ _ _⟩
set_option maxHeartbeats 3200000 in
theorem ascS_any (x : Value) (l : List Slt) (w : World) (S : Nat → Prop) (hv : LAt 2 ESlt w S x l) (hS : ∀ g, S g → g < w.heap.size) :
    Calls Try.prog 113 #[x, .func (.func 114) #[] #[]] w fun e w' => e = .returned (.bool (ascL ahd l)) ∧ Below w.heap.size w w' := by
  obtain ⟨A, c, g, o, F, rfl, OA, n3⟩ := opn hv hS
  have HA := Seg.hid OA
  clear hv OA
  go_enter Try.func113, Try.ntmps113
  go_wp2_with fail
  go_loopw [5] (fun i wr => ∃ (k : Nat), 1 ≤ k ∧ k ≤ l.length + 1 ∧ i = .int .i64 k ∧ Hid (ascL ahd (l.drop (k - 1)) = ascL ahd l ∧ Below w.heap.size w wr)) (fun i _ => l.length - (intOf i).toNat)
  case atStart => exact ⟨1, by omega, by omega, rfl, rfl, Below.refl _ _⟩
  case round =>
    obtain ⟨k, hk1, hk, rfl, HR⟩ := hrel
    by_cases hlt : k < l.length
    · obtain ⟨ea, hc, hga⟩ := HA.out.addr.resolve_left (by omega)
      have hb := HR.out.2
      have OL := HA.out.later keepsSlt hS hb
      obtain ⟨d0, d1⟩ := slt_cells (i := k) (fun j hj => OL.cells k hlt j hj) (OL.el k hlt)
      obtain ⟨d2, d3⟩ := slt_cells (i := (k - 1)) (fun j hj => OL.cells (k - 1) (by omega) j hj) (OL.el (k - 1) (by omega))
      have HD := HR.out.1
      rw [ascL_step ahd (by omega) hlt] at HD
      have HD' := Seg.hid HD
      have hgr : g < wr.heap.size := Nat.lt_of_lt_of_le hga hb.size
      have h0 : (0 : Int) ≤ (k : Int) := by omega
      have h1' : (k : Int) < (l.length : Int) := by omega
      have w1 : IntKind.i64.wrap ((k : Int) - 1) = (k : Int) - 1 := by rw [IntKind.wrap_i64] <;> omega
      have w2 : IntKind.i64.wrap ((k : Int) + 1) = (k : Int) + 1 := by rw [IntKind.wrap_i64] <;> omega
      have k2 : (0 : Int) ≤ (k : Int) - 1 := by omega
      have k3 : (k : Int) - 1 < (l.length : Int) := by omega
      have k6 : (1 : Int) ≤ (k : Int) := by omega
      clear HD OL hb
      generalize l.getD k default = tk at *
      generalize l.getD (k - 1) default = pk at *
      subst ea
      obtain ⟨q, hq⟩ : ∃ q, cmpS pk tk = q := ⟨_, rfl⟩
      have CQ : Hid (∀ wx, Calls Try.prog 114 #[.agg #[.string pk.topic, .int .i64 pk.part], .agg #[.string tk.topic, .int .i64 tk.part]] wx fun e w' => e = .returned (.int .i64 q) ∧ Below wx.heap.size wx w') := fun wx => by rw [← hq]; exact cmpS_any pk tk wx
      have QG : Hid (decide (0 ≤ q) = !ahd pk tk) := by show _ = _; rw [← hq]; exact cmpS_geq _ _
      clear hq
      go_wp2_with fail
      go_region_held3 (fun w' => w'.cell? ⟨g, o + k * 2, none⟩ = some (.string tk.topic) ∧ w'.cell? ⟨g, o + k * 2 + 1, none⟩ = some (.int .i64 tk.part) ∧ w'.cell? ⟨g, o + (k - 1) * 2, none⟩ = some (.string pk.topic) ∧ w'.cell? ⟨g, o + (k - 1) * 2 + 1, none⟩ = some (.int .i64 pk.part)) (first | exact ⟨d0, d1, d2, d3⟩ | exact ⟨r0, r1, r2, r3⟩ | go_keep)
        (first | (go_at_call 114; refine (CQ.out _).mono ?_; rintro e w8 ⟨rfl, b8⟩; have B8 : Hid (Below wr.heap.size wr w8) := ⟨b8.os, b8.tape, b8.output, b8.size, b8.block⟩; clear b8; have r0 := (B8.out.cell (p := ⟨g, o + k * 2, none⟩) hgr).trans d0; have r1 := (B8.out.cell (p := ⟨g, o + k * 2 + 1, none⟩) hgr).trans d1; have r2 := (B8.out.cell (p := ⟨g, o + (k - 1) * 2, none⟩) hgr).trans d2; have r3 := (B8.out.cell (p := ⟨g, o + (k - 1) * 2 + 1, none⟩) hgr).trans d3))
      cases hr : ahd pk tk with
      | false =>
        have Z : Hid (ascL ahd l = false) := by show _ = _; rw [← HD'.out, hr]; rfl
        rw [show decide (0 ≤ q) = true by rw [QG.out, hr]; rfl]
        go_wp2
        go_ret
        exact ⟨Seg.ret_bool Z.out.symm, chain HR.out.2 B8.out⟩
      | true =>
        have Z : Hid (ascL ahd (l.drop (k + 1 - 1)) = ascL ahd l) := by show _ = _; rw [← HD'.out, hr]; rfl
        rw [show decide (0 ≤ q) = false by rw [QG.out, hr]; rfl]
        go_wp2
        go_roundw
        case rel => exact ⟨k + 1, by omega, by omega, by go_num, Z.out, chain HR.out.2 B8.out⟩
        case measure => simp [intOf]; omega
    · have HE := HR.out.1
      rw [ascL_end ahd (by omega)] at HE
      have HE' := Seg.hid HE
      clear HE
      go_wp2
      go_ret
      exact ⟨Seg.ret_bool HE'.out, HR.out.2⟩

set_option maxHeartbeats 3200000 in
theorem ascT_any (x : Value) (l : List ByteArray) (w : World) (S : Nat → Prop) (hv : LAt 1 EStr w S x l) (hS : ∀ g, S g → g < w.heap.size) :
    Calls Try.prog 135 #[x, .func (.func 106) #[] #[]] w fun e w' => e = .returned (.bool (ascL sl l)) ∧ Below w.heap.size w w' := by
  obtain ⟨A, c, g, o, F, rfl, OA, n3⟩ := opn hv hS
  have HA := Seg.hid OA
  clear hv OA
  go_enter Try.func135, Try.ntmps135
  go_wp2_with fail
  go_loopw [5] (fun i wr => ∃ (k : Nat), 1 ≤ k ∧ k ≤ l.length + 1 ∧ i = .int .i64 k ∧ Hid (ascL sl (l.drop (k - 1)) = ascL sl l ∧ Below w.heap.size w wr)) (fun i _ => l.length - (intOf i).toNat)
  case atStart => exact ⟨1, by omega, by omega, rfl, rfl, Below.refl _ _⟩
  case round =>
    obtain ⟨k, hk1, hk, rfl, HR⟩ := hrel
    by_cases hlt : k < l.length
    · obtain ⟨ea, hc, hga⟩ := HA.out.addr.resolve_left (by omega)
      have hb := HR.out.2
      have OL := HA.out.later keepsStr hS hb
      have d0 := str_cell OL.cells OL.el k hlt
      have d1 := str_cell OL.cells OL.el (k - 1) (by omega)
      have HD := HR.out.1
      rw [ascL_step sl (by omega) hlt] at HD
      have HD' := Seg.hid HD
      have hgr : g < wr.heap.size := Nat.lt_of_lt_of_le hga hb.size
      have h0 : (0 : Int) ≤ (k : Int) := by omega
      have h1' : (k : Int) < (l.length : Int) := by omega
      have w1 : IntKind.i64.wrap ((k : Int) - 1) = (k : Int) - 1 := by rw [IntKind.wrap_i64] <;> omega
      have w2 : IntKind.i64.wrap ((k : Int) + 1) = (k : Int) + 1 := by rw [IntKind.wrap_i64] <;> omega
      have k2 : (0 : Int) ≤ (k : Int) - 1 := by omega
      have k3 : (k : Int) - 1 < (l.length : Int) := by omega
      have k6 : (1 : Int) ≤ (k : Int) := by omega
      clear HD OL hb
      generalize l.getD k default = tk at *
      generalize l.getD (k - 1) default = pk at *
      subst ea
      obtain ⟨q, hq⟩ : ∃ q, cmpB pk tk = q := ⟨_, rfl⟩
      have CQ : Hid (∀ wx, Calls Try.prog 106 #[.string pk, .string tk] wx fun e w' => e = .returned (.int .i64 q) ∧ Below wx.heap.size wx w') := fun wx => by rw [← hq]; exact (sc_any pk tk wx).mono (fun e w' ⟨h1, h2⟩ => ⟨h1, h2 ▸ Below.refl _ _⟩)
      have QG : Hid (decide (0 ≤ q) = !sl pk tk) := by show _ = _; rw [← hq]; exact cmpB_geq _ _
      clear hq
      go_wp2_with fail
      go_region_held3 (fun w' => w'.cell? ⟨g, o + k, none⟩ = some (.string tk) ∧ w'.cell? ⟨g, o + (k - 1), none⟩ = some (.string pk)) (first | exact ⟨d0, d1⟩ | exact ⟨r0, r1⟩ | go_keep)
        (first | (go_at_call 106; refine (CQ.out _).mono ?_; rintro e w8 ⟨rfl, b8⟩; have B8 : Hid (Below wr.heap.size wr w8) := ⟨b8.os, b8.tape, b8.output, b8.size, b8.block⟩; clear b8; have r0 := (B8.out.cell (p := ⟨g, o + k, none⟩) hgr).trans d0; have r1 := (B8.out.cell (p := ⟨g, o + (k - 1), none⟩) hgr).trans d1))
      cases hr : sl pk tk with
      | false =>
        have Z : Hid (ascL sl l = false) := by show _ = _; rw [← HD'.out, hr]; rfl
        rw [show decide (0 ≤ q) = true by rw [QG.out, hr]; rfl]
        go_wp2
        go_ret
        exact ⟨Seg.ret_bool Z.out.symm, chain HR.out.2 B8.out⟩
      | true =>
        have Z : Hid (ascL sl (l.drop (k + 1 - 1)) = ascL sl l) := by show _ = _; rw [← HD'.out, hr]; rfl
        rw [show decide (0 ≤ q) = false by rw [QG.out, hr]; rfl]
        go_wp2
        go_roundw
        case rel => exact ⟨k + 1, by omega, by omega, by go_num, Z.out, chain HR.out.2 B8.out⟩
        case measure => simp [intOf]; omega
    · have HE := HR.out.1
      rw [ascL_end sl (by omega)] at HE
      have HE' := Seg.hid HE
      clear HE
      go_wp2
      go_ret
      exact ⟨Seg.ret_bool HE'.out, HR.out.2⟩

theorem slg_asc : ∀ (l : List Slt) (p : Option Slt), slg p l = (l.all okS && ((match l with | [] => true | t :: _ => ahdO p t) && ascL ahd l))
  | [], p => by simp [slg, ascL]
  | [t], p => by simp [slg, ascL]
  | t :: u :: r, p => by
    rw [slg, slg_asc (u :: r)]
    simp only [List.all_cons, ascL, ahdO]
    cases okS t <;> cases ahdO p t <;> cases okS u <;> cases r.all okS <;> cases ahd t u <;> simp
theorem slots_asc (l : List Slt) : slots l = (decide (l.length ≤ 400) && (ascL ahd l && l.all okS)) := by
  unfold slots
  rw [slg_asc]
  have : (match l with | [] => true | t :: _ => ahdO none t) = true := by cases l <;> rfl
  rw [this]
  cases l.all okS <;> cases ascL ahd l <;> simp
theorem nmg_asc : ∀ (l : List ByteArray) (p : Option ByteArray), nmg p l = (l.all Nm.nameOk && ((match l with | [] => true | t :: _ => aheadO p t) && ascL sl l))
  | [], p => by simp [nmg, ascL]
  | [t], p => by simp [nmg, ascL]
  | t :: u :: r, p => by
    rw [nmg, nmg_asc (u :: r)]
    simp only [List.all_cons, ascL, aheadO]
    cases Nm.nameOk t <;> cases aheadO p t <;> cases Nm.nameOk u <;> cases r.all Nm.nameOk <;> cases sl t u <;> simp
theorem names_asc (l : List ByteArray) : names l = (decide (l.length ≤ 20) && (ascL sl l && l.all Nm.nameOk)) := by
  unfold names
  rw [nmg_asc]
  have : (match l with | [] => true | t :: _ => aheadO none t) = true := by cases l <;> rfl
  rw [this]
  cases l.all Nm.nameOk <;> cases ascL sl l <;> simp
theorem all_step {T : Type} [Inhabited T] (p : T → Bool) {l : List T} {k : Nat} (h : k < l.length) : (l.drop k).all p = (p (l.getD k default) && (l.drop (k + 1)).all p) := by
  rw [drop_cons h]; rfl
set_option maxHeartbeats 1600000 in
theorem slotOk_any (s : Slt) (b : Bool) (hb : okS s = b) (w : World) (hs : s.topic.size ≤ maxLen) :
    Calls Try.prog 115 #[.agg #[.string s.topic, .int .i64 s.part]] w fun e w' => e = .returned (.bool b) ∧ Below w.heap.size w w' := by
  subst hb
  cases b1 : Nm.nameOk s.topic with
  | false =>
    have Z : Hid (okS s = false) := by show _ = _; simp [okS, b1]
    have KN := Seg.hid b1
    clear b1
    go_enter Try.func115, Try.ntmps115
    go_wp2_with (first | (go_at_call 53; refine (Nm.impl_q _ _ KN.out _ hs).mono ?_; rintro e w2 ⟨rfl, rfl⟩))
    go_ret
    exact ⟨Seg.ret_bool Z.out.symm, below1 _ _⟩
  | true =>
    have KN := Seg.hid b1
    obtain ⟨b2, h2⟩ : ∃ b2, inR 0 s.part 49 = b2 := ⟨_, rfl⟩
    have Z : Hid (okS s = b2) := by show _ = _; simp [okS, b1, h2]
    have KP := Seg.hid h2
    clear b1 h2
    go_enter Try.func115, Try.ntmps115
    go_wp2_with (first | (go_at_call 53; refine (Nm.impl_q _ _ KN.out _ hs).mono ?_; rintro e w2 ⟨rfl, rfl⟩) | (go_at_call 40; refine (InB.within_b _ _ _ _ KP.out _).mono ?_; rintro e w2 ⟨rfl, rfl⟩))
    go_ret
    exact ⟨Seg.ret_bool Z.out.symm, below1 _ _⟩
set_option maxHeartbeats 3200000 in
theorem slotsOk_any (x : Value) (l : List Slt) (w : World) (S : Nat → Prop) (hv : LAt 2 ESlt w S x l) (hS : ∀ g, S g → g < w.heap.size) (hf : szL szSlt l ≤ 1048576) :
    Calls Try.prog 75 #[x] w fun e w' => e = .returned (.bool (slots l)) ∧ Below w.heap.size w w' := by
  have HV := Seg.hid hv
  obtain ⟨A, c, g, o, F, rfl, OA, n3⟩ := opn hv hS
  have HA := Seg.hid OA
  have hn : l.length ≤ 1048576 := szL_len _ hf
  have HL : Hid (∀ i, i < l.length → (l.getD i default).topic.size ≤ maxLen) := fun i hi => by
    have := szL_one _ hf hi
    unfold szSlt at this
    unfold maxLen
    omega
  clear hv OA hf n3
  have no : ∀ (w' : World), slots l = false → Below w.heap.size w w' → (Ending.returned (.bool false) = .returned (.bool (slots l)) ∧ Below w.heap.size w w') := fun w' h b => ⟨by rw [h], b⟩
  have NO := Seg.hid no
  clear no
  go_enter Try.func75, Try.ntmps75
  by_cases h1 : l.length ≤ 400
  case neg =>
    have Z : Hid (slots l = false) := by show _ = _; simp [slots, h1]
    go_wp2
    go_ret
    exact NO.out _ Z.out (Below.refl _ _)
  have KS : Hid (slots l = (ascL ahd l && l.all okS)) := by show _ = _; rw [slots_asc]; simp [h1]
  have AC : Hid (Calls Try.prog 113 #[.slice A l.length c, .func (.func 114) #[] #[]] w fun e w' => e = .returned (.bool (ascL ahd l)) ∧ Below w.heap.size w w') := ascS_any _ l w S HV.out hS
  cases ha : ascL ahd l with
  | false =>
    have Z : Hid (slots l = false) := by show _ = _; rw [KS.out, ha]; rfl
    rw [ha] at AC
    go_wp2_with (go_at_call 113; refine AC.out.mono ?_; rintro e w1 ⟨rfl, b1⟩; have B1 := Seg.hid b1; clear b1)
    go_ret
    exact NO.out _ Z.out B1.out
  | true =>
  have KT : Hid (slots l = l.all okS) := by show _ = _; rw [KS.out, ha]; rfl
  rw [ha] at AC
  clear KS ha
  go_wp2_with (go_at_call 113; refine AC.out.mono ?_; rintro e w1 ⟨rfl, b1⟩; have B1 := Seg.hid b1; clear b1)
  clear AC
  go_loopw [15] (fun i wr => ∃ (k : Nat), k ≤ l.length ∧ i = .int .i64 k ∧ Hid ((l.drop k).all okS = slots l ∧ Below w.heap.size w wr)) (fun i _ => l.length - (intOf i).toNat)
  case atStart => exact ⟨0, Nat.zero_le _, rfl, KT.out.symm, B1.out⟩
  case round =>
    clear KT
    obtain ⟨k, hk, rfl, HR⟩ := hrel
    by_cases hlt : k < l.length
    · obtain ⟨ea, hc, hga⟩ := HA.out.addr.resolve_left (by omega)
      have hb := HR.out.2
      have OL := HA.out.later keepsSlt hS hb
      obtain ⟨d0, d1⟩ := slt_cells (i := k) (fun j hj => OL.cells k hlt j hj) (OL.el k hlt)
      have h0 : (0 : Int) ≤ (k : Int) := by omega
      have h1' : (k : Int) < (l.length : Int) := by omega
      have NS := HL.out k hlt
      have HD := HR.out.1
      rw [all_step okS hlt] at HD
      have HD' := Seg.hid HD
      have hgr : g < wr.heap.size := Nat.lt_of_lt_of_le hga hb.size
      clear HD OL hb
      generalize l.getD k default = tk at *
      subst ea
      obtain ⟨b, hb⟩ : ∃ b, okS tk = b := ⟨_, rfl⟩
      have BI : Hid (Below w.heap.size w (wr.alloc (.cells #[.string tk.topic, .int .i64 tk.part] 73 (0, 0)))) := chain HR.out.2 (below1 wr _)
      have KB := Seg.hid hb
      clear HR
      cases b with
      | false =>
        have Z : Hid (slots l = false) := by show _ = _; rw [← HD'.out, hb]; rfl
        clear hb
        go_wp2_with (first | (go_at_call 115; refine (slotOk_any tk _ KB.out _ NS).mono ?_; rintro e w2 ⟨rfl, b2⟩; have B2 := Seg.hid b2; clear b2))
        go_ret
        exact NO.out _ Z.out (chain BI.out B2.out)
      | true =>
        have Z : Hid ((l.drop (k + 1)).all okS = slots l) := by show _ = _; rw [← HD'.out, hb]; rfl
        clear hb
        go_wp2_with (first | (go_at_call 115; refine (slotOk_any tk _ KB.out _ NS).mono ?_; rintro e w2 ⟨rfl, b2⟩; have B2 := Seg.hid b2; clear b2))
        go_roundw
        case rel => exact ⟨k + 1, by omega, by go_num, Z.out, chain BI.out B2.out⟩
        case measure => simp [intOf]; omega
    · have HE := HR.out.1
      rw [List.drop_eq_nil_of_le (by omega)] at HE
      have HE' := Seg.hid HE
      clear HE
      go_wp2
      go_ret
      exact ⟨Seg.ret_bool HE'.out, HR.out.2⟩
set_option maxHeartbeats 3200000 in
theorem namesOk_any (x : Value) (l : List ByteArray) (w : World) (S : Nat → Prop) (hv : StrsAt w S x l) (hS : ∀ g, S g → g < w.heap.size) (hf : szL ByteArray.size l ≤ 1048576) :
    Calls Try.prog 109 #[x] w fun e w' => e = .returned (.bool (names l)) ∧ Below w.heap.size w w' := by
  have HV := Seg.hid hv
  obtain ⟨A, c, g, o, F, rfl, OA, n3⟩ := opn hv hS
  have HA := Seg.hid OA
  have IC : Hid (∀ i, i < l.length → w.cell? ⟨g, o + i, none⟩ = some (.string (l.getD i default))) := str_cell OA.cells OA.el
  have hn : l.length ≤ 1048576 := szL_len _ hf
  have HL : Hid (∀ i, i < l.length → (l.getD i default).size ≤ maxLen) := fun i hi => by
    have := szL_one _ hf hi
    unfold maxLen
    omega
  clear hv OA hf n3
  have no : ∀ (w' : World), names l = false → Below w.heap.size w w' → (Ending.returned (.bool false) = .returned (.bool (names l)) ∧ Below w.heap.size w w') := fun w' h b => ⟨by rw [h], b⟩
  have NO := Seg.hid no
  clear no
  go_enter Try.func109, Try.ntmps109
  by_cases h1 : l.length ≤ 20
  case neg =>
    have Z : Hid (names l = false) := by show _ = _; simp [names, h1]
    go_wp2
    go_ret
    exact NO.out _ Z.out (Below.refl _ _)
  have KS : Hid (names l = (ascL sl l && l.all Nm.nameOk)) := by show _ = _; rw [names_asc]; simp [h1]
  have AC : Hid (Calls Try.prog 135 #[.slice A l.length c, .func (.func 106) #[] #[]] w fun e w' => e = .returned (.bool (ascL sl l)) ∧ Below w.heap.size w w') := ascT_any _ l w S HV.out hS
  cases ha : ascL sl l with
  | false =>
    have Z : Hid (names l = false) := by show _ = _; rw [KS.out, ha]; rfl
    rw [ha] at AC
    go_wp2_with (go_at_call 135; refine AC.out.mono ?_; rintro e w1 ⟨rfl, b1⟩; have B1 := Seg.hid b1; clear b1)
    go_ret
    exact NO.out _ Z.out B1.out
  | true =>
  have KT : Hid (names l = l.all Nm.nameOk) := by show _ = _; rw [KS.out, ha]; rfl
  rw [ha] at AC
  clear KS ha
  go_wp2_with (go_at_call 135; refine AC.out.mono ?_; rintro e w1 ⟨rfl, b1⟩; have B1 := Seg.hid b1; clear b1)
  clear AC
  go_loopw [15] (fun i wr => ∃ (k : Nat), k ≤ l.length ∧ i = .int .i64 k ∧ Hid ((l.drop k).all Nm.nameOk = names l ∧ Below w.heap.size w wr)) (fun i _ => l.length - (intOf i).toNat)
  case atStart => exact ⟨0, Nat.zero_le _, rfl, KT.out.symm, B1.out⟩
  case round =>
    clear KT
    obtain ⟨k, hk, rfl, HR⟩ := hrel
    by_cases hlt : k < l.length
    · obtain ⟨ea, hc, hga⟩ := HA.out.addr.resolve_left (by omega)
      have d0 : wr.cell? ⟨g, o + k, none⟩ = some (.string (l.getD k default)) := by rw [HR.out.2.cell (p := ⟨g, o + k, none⟩) hga]; exact IC.out k hlt
      have h0 : (0 : Int) ≤ (k : Int) := by omega
      have h1' : (k : Int) < (l.length : Int) := by omega
      have NS := HL.out k hlt
      have HD := HR.out.1
      rw [all_step Nm.nameOk hlt] at HD
      have HD' := Seg.hid HD
      clear HD
      generalize l.getD k default = tk at *
      subst ea
      obtain ⟨b, hb⟩ : ∃ b, Nm.nameOk tk = b := ⟨_, rfl⟩
      have KB := Seg.hid hb
      cases b with
      | false =>
        have Z : Hid (names l = false) := by show _ = _; rw [← HD'.out, hb]; rfl
        clear hb
        go_wp2_with (first | (go_at_call 53; refine (Nm.impl_q _ _ KB.out _ NS).mono ?_; rintro e w2 ⟨rfl, rfl⟩))
        go_ret
        exact NO.out _ Z.out HR.out.2
      | true =>
        have Z : Hid ((l.drop (k + 1)).all Nm.nameOk = names l) := by show _ = _; rw [← HD'.out, hb]; rfl
        clear hb
        go_wp2_with (first | (go_at_call 53; refine (Nm.impl_q _ _ KB.out _ NS).mono ?_; rintro e w2 ⟨rfl, rfl⟩))
        go_roundw
        case rel => exact ⟨k + 1, by omega, by go_num, Z.out, HR.out.2⟩
        case measure => simp [intOf]; omega
    · have HE := HR.out.1
      rw [List.drop_eq_nil_of_le (by omega)] at HE
      have HE' := Seg.hid HE
      clear HE
      go_wp2
      go_ret
      exact ⟨Seg.ret_bool HE'.out, HR.out.2⟩
end Go.Proofs.Ytfdfhhiaalbfiaa.SlI
