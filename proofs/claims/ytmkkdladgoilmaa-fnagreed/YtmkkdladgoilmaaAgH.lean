/- Lists of versions, as the program asks them. -/
import Derived.Test.YtmkkdladgoilmaaAgP
import Derived.Test.YtmkkdladgoilmaaInB
import Derived.Deep.RegionHeld3
namespace Go.Proofs.Ytmkkdladgoilmaa.AgI
set_option maxRecDepth 8000
open Go.RowKit
open Ls Lp AgP
open Recs (hsz below1 below2 chain)
set_option linter.unusedVariables false
def cmpK (x y : Int) : Int := if x < y then -1 else if y < x then 1 else 0
theorem nan_any (a : Int) (w : World) : Calls Try.prog 32 #[.int .i64 a] w fun e w' => e = .returned (.bool false) ∧ w = w' := by
  go_enter Try.func32, Try.ntmps32
  go_wp2
  go_ret
  exact ⟨rfl, rfl⟩
set_option maxHeartbeats 1600000 in
theorem cmp_any (a b : Int) (w : World) : Calls Try.prog 31 #[.int .i64 a, .int .i64 b] w fun e w' => e = .returned (.int .i64 (cmpK a b)) ∧ w = w' := by
  rcases Int.lt_trichotomy a b with h | h | h
  · have Z : Hid (cmpK a b = -1) := by show _ = _; simp [cmpK, h]
    go_enter Try.func31, Try.ntmps31
    go_wp2_with (go_at_call 32; refine (nan_any _ _).mono ?_; rintro e w' ⟨rfl, rfl⟩)
    go_ret
    exact ⟨by rw [Z.out]; rfl, rfl⟩
  · have h1 : ¬ a < b := by omega
    have h2 : ¬ b < a := by omega
    have Z : Hid (cmpK a b = 0) := by show _ = _; simp [cmpK, h1, h2]
    clear h
    go_enter Try.func31, Try.ntmps31
    go_wp2_with (go_at_call 32; refine (nan_any _ _).mono ?_; rintro e w' ⟨rfl, rfl⟩)
    go_ret
    exact ⟨by rw [Z.out]; rfl, rfl⟩
  · have h1 : ¬ a < b := by omega
    have Z : Hid (cmpK a b = 1) := by show _ = _; simp [cmpK, h1, h]
    go_enter Try.func31, Try.ntmps31
    go_wp2_with (go_at_call 32; refine (nan_any _ _).mono ?_; rintro e w' ⟨rfl, rfl⟩)
    go_ret
    exact ⟨by rw [Z.out]; rfl, rfl⟩
def cmpA (a b : Apx) : Int := cmpK a.key b.key
def rA (a b : Apx) : Bool := decide (a.key < b.key)
theorem cmpA_geq (a b : Apx) : decide (0 ≤ cmpA a b) = !rA a b := by
  unfold cmpA cmpK rA
  by_cases h : a.key < b.key
  · simp [h]
  · by_cases h2 : b.key < a.key <;> simp [h, h2]
theorem cmpA_any (a b : Apx) (w : World) : Calls Try.prog 26 #[.agg #[.int .i64 a.key, .int .i64 a.least, .int .i64 a.most], .agg #[.int .i64 b.key, .int .i64 b.least, .int .i64 b.most]] w fun e w' => e = .returned (.int .i64 (cmpA a b)) ∧ Below w.heap.size w w' := by
  have B2 : Hid (∀ x y, Below w.heap.size w ((w.alloc x).alloc y)) := fun x y => below2 w x y
  have C : Hid (∀ wx, Calls Try.prog 31 #[.int .i64 a.key, .int .i64 b.key] wx fun e w' => e = .returned (.int .i64 (cmpA a b)) ∧ wx = w') := fun wx => cmp_any _ _ wx
  generalize cmpA a b = q at *
  go_enter Try.func26, Try.ntmps26
  go_wp2_with (go_at_call 31; refine (C.out _).mono ?_; rintro e w' ⟨rfl, rfl⟩)
  go_ret
  exact ⟨rfl, B2.out _ _⟩
/-- Each of a list is above the one ahead of it. -/
def ascL {T : Type} (r : T → T → Bool) : List T → Bool
  | [] => true
  | [_] => true
  | a :: b :: t => r a b && ascL r (b :: t)
theorem ascL_step {T : Type} [Inhabited T] (r : T → T → Bool) {l : List T} {k : Nat} (h0 : 0 < k) (h : k < l.length) : ascL r (l.drop (k - 1)) = (r (l.getD (k - 1) default) (l.getD k default) && ascL r (l.drop k)) := by
  rw [Lp.drop_cons (l := l) (k := k - 1) (by omega), show k - 1 + 1 = k by omega, Lp.drop_cons h]
  rfl
theorem ascL_end {T : Type} (r : T → T → Bool) {l : List T} {k : Nat} (h : l.length ≤ k) : ascL r (l.drop (k - 1)) = true := by
  have : (l.drop (k - 1)).length ≤ 1 := by rw [List.length_drop]; omega
  match hd : l.drop (k - 1), this with
  | [], _ => rfl
  | [_], _ => rfl
  | a :: b :: t, h2 => simp at h2
set_option maxHeartbeats 3200000 in
theorem ascA_any (x : Value) (l : List Apx) (w : World) (S : Nat → Prop) (hv : LAt 3 EApx w S x l) (hS : ∀ g, S g → g < w.heap.size) :
    Calls Try.prog 30 #[x, .func (.func 26) #[] #[]] w fun e w' => e = .returned (.bool (ascL rA l)) ∧ Below w.heap.size w w' := by
  obtain ⟨A, c, g, o, F, rfl, OA, n3⟩ := opn hv hS
  have HA := Seg.hid OA
  clear hv OA
  go_enter Try.func30, Try.ntmps30
  go_wp2_with fail
  go_loopw [5] (fun i wr => ∃ (k : Nat), 1 ≤ k ∧ k ≤ l.length + 1 ∧ i = .int .i64 k ∧ Hid (ascL rA (l.drop (k - 1)) = ascL rA l ∧ Below w.heap.size w wr)) (fun i _ => l.length - (intOf i).toNat)
  case atStart => exact ⟨1, by omega, by omega, rfl, rfl, Below.refl _ _⟩
  case round =>
    obtain ⟨k, hk1, hk, rfl, HR⟩ := hrel
    by_cases hlt : k < l.length
    · obtain ⟨ea, hc, hga⟩ := HA.out.addr.resolve_left (by omega)
      have hb := HR.out.2
      have OL := HA.out.later keepsApx hS hb
      obtain ⟨d0, d1, d2⟩ := apx_cells (i := k) (fun j hj => OL.cells k hlt j hj) (OL.el k hlt)
      obtain ⟨d3, d4, d5⟩ := apx_cells (i := (k - 1)) (fun j hj => OL.cells (k - 1) (by omega) j hj) (OL.el (k - 1) (by omega))
      have HD := HR.out.1
      rw [ascL_step rA (by omega) hlt] at HD
      have HD' := Seg.hid HD
      have hgr : g < wr.heap.size := Nat.lt_of_lt_of_le hga hb.size
      have h0 : (0 : Int) ≤ (k : Int) := by omega
      have h1' : (k : Int) < (l.length : Int) := by omega
      have w1 : IntKind.i64.wrap ((k : Int) - 1) = (k : Int) - 1 := by rw [IntKind.wrap_i64] <;> omega
      have w2 : IntKind.i64.wrap ((k : Int) + 1) = (k : Int) + 1 := by rw [IntKind.wrap_i64] <;> omega
      have k2 : (0 : Int) ≤ (k : Int) - 1 := by omega
      have k3 : (k : Int) - 1 < (l.length : Int) := by omega
      have k6 : (1 : Int) ≤ (k : Int) := by omega
      clear HD OL hb
      generalize l.getD k default = tk at *
      generalize l.getD (k - 1) default = pk at *
      subst ea
      obtain ⟨q, hq⟩ : ∃ q, cmpA pk tk = q := ⟨_, rfl⟩
      have CQ : Hid (∀ wx, Calls Try.prog 26 #[.agg #[.int .i64 pk.key, .int .i64 pk.least, .int .i64 pk.most], .agg #[.int .i64 tk.key, .int .i64 tk.least, .int .i64 tk.most]] wx fun e w' => e = .returned (.int .i64 q) ∧ Below wx.heap.size wx w') := fun wx => by rw [← hq]; exact cmpA_any pk tk wx
      have QG : Hid (decide (0 ≤ q) = !rA pk tk) := by show _ = _; rw [← hq]; exact cmpA_geq _ _
      clear hq
      go_wp2_with fail
      go_region_held3 (fun w' => w'.cell? ⟨g, o + k * 3, none⟩ = some (.int .i64 tk.key) ∧ w'.cell? ⟨g, o + k * 3 + 1, none⟩ = some (.int .i64 tk.least) ∧ w'.cell? ⟨g, o + k * 3 + 2, none⟩ = some (.int .i64 tk.most) ∧ w'.cell? ⟨g, o + (k - 1) * 3, none⟩ = some (.int .i64 pk.key) ∧ w'.cell? ⟨g, o + (k - 1) * 3 + 1, none⟩ = some (.int .i64 pk.least) ∧ w'.cell? ⟨g, o + (k - 1) * 3 + 2, none⟩ = some (.int .i64 pk.most)) (first | exact ⟨d0, d1, d2, d3, d4, d5⟩ | exact ⟨r0, r1, r2, r3, r4, r5⟩ | go_keep)
        (first | (go_at_call 26; refine (CQ.out _).mono ?_; rintro e w8 ⟨rfl, b8⟩; have B8 : Hid (Below wr.heap.size wr w8) := ⟨b8.os, b8.tape, b8.output, b8.size, b8.block⟩; clear b8; have r0 := (B8.out.cell (p := ⟨g, o + k * 3, none⟩) hgr).trans d0; have r1 := (B8.out.cell (p := ⟨g, o + k * 3 + 1, none⟩) hgr).trans d1; have r2 := (B8.out.cell (p := ⟨g, o + k * 3 + 2, none⟩) hgr).trans d2; have r3 := (B8.out.cell (p := ⟨g, o + (k - 1) * 3, none⟩) hgr).trans d3; have r4 := (B8.out.cell (p := ⟨g, o + (k - 1) * 3 + 1, none⟩) hgr).trans d4; have r5 := (B8.out.cell (p := ⟨g, o + (k - 1) * 3 + 2, none⟩) hgr).trans d5))
      cases hr : rA pk tk with
      | false =>
        have Z : Hid (ascL rA l = false) := by show _ = _; rw [← HD'.out, hr]; rfl
        rw [show decide (0 ≤ q) = true by rw [QG.out, hr]; rfl]
        go_wp2
        go_ret
        exact ⟨Seg.ret_bool Z.out.symm, chain HR.out.2 B8.out⟩
      | true =>
        have Z : Hid (ascL rA (l.drop (k + 1 - 1)) = ascL rA l) := by show _ = _; rw [← HD'.out, hr]; rfl
        rw [show decide (0 ≤ q) = false by rw [QG.out, hr]; rfl]
        go_wp2
        go_roundw
        case rel => exact ⟨k + 1, by omega, by omega, by go_num, Z.out, chain HR.out.2 B8.out⟩
        case measure => simp [intOf]; omega
    · have HE := HR.out.1
      rw [ascL_end rA (by omega)] at HE
      have HE' := Seg.hid HE
      clear HE
      go_wp2
      go_ret
      exact ⟨Seg.ret_bool HE'.out, HR.out.2⟩

def okP (a : Apx) : Bool := inR 0 a.key 1000 && (inR 0 a.most 1000 && inR 0 a.least a.most)
theorem okP_eq (a : Apx) : okP a = okA a := by
  simp only [okP, okA, inR]
  rw [Bool.eq_iff_iff]
  simp only [Bool.and_eq_true, decide_eq_true_eq]
  constructor <;> (intro h; omega)
theorem apg_eq : ∀ (l : List Apx) (p : Option Int), apg p l = ((match l with | [] => true | a :: _ => ahI p a.key) && (ascL rA l && l.all okP))
  | [], p => by simp [apg, ascL]
  | [a], p => by simp only [apg, ascL, List.all_cons, List.all_nil, okP_eq, Bool.and_true, Bool.true_and]; rw [Bool.and_comm]
  | a :: b :: r, p => by
    have h := apg_eq (b :: r) (some a.key)
    simp only at h ⊢
    rw [apg, h]
    simp only [ascL, List.all_cons, okP_eq, ahI, rA]
    cases okA a <;> cases ahI p a.key <;> cases decide (a.key < b.key) <;> cases ascL rA (b :: r) <;> cases okA b <;> simp
theorem apis_eq (l : List Apx) : apis l = (decide (l.length ≤ 40) && (ascL rA l && l.all okP)) := by
  rw [apis, apg_eq]
  cases l <;> simp [ahI]
set_option maxHeartbeats 3200000 in
theorem apisOk_any (x : Value) (l : List Apx) (w : World) (S : Nat → Prop) (hv : LAt 3 EApx w S x l) (hS : ∀ g, S g → g < w.heap.size) :
    Calls Try.prog 24 #[x] w fun e w' => e = .returned (.bool (apis l)) ∧ Below w.heap.size w w' := by
  have HV := Seg.hid hv
  obtain ⟨A, c, g, o, F, rfl, OA, n3⟩ := opn hv hS
  have HA := Seg.hid OA
  clear hv OA
  have AC : Hid (∀ wx, wx = w → Calls Try.prog 30 #[.slice A l.length c, .func (.func 26) #[] #[]] wx fun e w' => e = .returned (.bool (ascL rA l)) ∧ Below wx.heap.size wx w') := fun wx e => by rw [e]; exact ascA_any _ l w S HV.out hS
  by_cases h1 : l.length ≤ 40
  case neg =>
    have Z : Hid (apis l = false) := by show _ = _; simp [apis, h1]
    have q1 : (40 : Int) < (l.length : Int) := by omega
    go_enter Try.func24, Try.ntmps24
    go_wp2
    go_ret
    exact ⟨Seg.ret_bool Z.out.symm, Below.refl _ _⟩
  have q1 : ¬ (40 : Int) < (l.length : Int) := by omega
  cases hs : ascL rA l with
  | false =>
    have Z : Hid (apis l = false) := by show _ = _; rw [apis_eq, hs]; simp
    rw [hs] at AC
    go_enter Try.func24, Try.ntmps24
    go_wp2_with (go_at_call 30; refine (AC.out _ rfl).mono ?_; rintro e w1 ⟨rfl, b1⟩; have B1 := Seg.hid b1; clear b1)
    go_ret
    exact ⟨Seg.ret_bool Z.out.symm, B1.out⟩
  | true =>
  have KS : Hid (apis l = l.all okP) := by show _ = _; rw [apis_eq, hs]; simp [h1]
  rw [hs] at AC
  clear hs
  go_enter Try.func24, Try.ntmps24
  go_wp2_with (go_at_call 30; refine (AC.out _ rfl).mono ?_; rintro e w1 ⟨rfl, b1⟩; have B1 := Seg.hid b1; clear b1)
  clear AC
  go_loopw [15] (fun i wr => ∃ (k : Nat), k ≤ l.length ∧ i = .int .i64 k ∧ Hid ((l.drop k).all okP = apis l ∧ Below w.heap.size w wr)) (fun i _ => l.length - (intOf i).toNat)
  case atStart => exact ⟨0, Nat.zero_le _, rfl, KS.out.symm, B1.out⟩
  case round =>
    clear KS B1
    obtain ⟨k, hk, rfl, HR⟩ := hrel
    by_cases hlt : k < l.length
    · obtain ⟨ea, hc, hga⟩ := HA.out.addr.resolve_left (by omega)
      have hb := HR.out.2
      have OL := HA.out.later keepsApx hS hb
      obtain ⟨d0, d1, d2⟩ := apx_cells (i := k) (fun j hj => OL.cells k hlt j hj) (OL.el k hlt)
      have HD := HR.out.1
      rw [drop_cons hlt, List.all_cons] at HD
      have HD' := Seg.hid HD
      have hgr : g < wr.heap.size := Nat.lt_of_lt_of_le hga hb.size
      have h0 : (0 : Int) ≤ (k : Int) := by omega
      have h1' : (k : Int) < (l.length : Int) := by omega
      have BB := Seg.hid (fun x => HR.out.2.alloc HR.out.2.size x)
      clear HD OL hb HR
      generalize l.getD k default = tk at *
      subst ea
      have K0 : Hid (∀ wx, Calls Try.prog 19 #[.int .i64 tk.key, .int .i64 0, .int .i64 1000] wx fun e w' => e = .returned (.bool (inR 0 tk.key 1000)) ∧ wx = w') := fun wx => InB.within_any _ _ _ wx
      have K1 : Hid (∀ wx, Calls Try.prog 19 #[.int .i64 tk.most, .int .i64 0, .int .i64 1000] wx fun e w' => e = .returned (.bool (inR 0 tk.most 1000)) ∧ wx = w') := fun wx => InB.within_any _ _ _ wx
      have K2 : Hid (∀ wx, Calls Try.prog 19 #[.int .i64 tk.least, .int .i64 0, .int .i64 tk.most] wx fun e w' => e = .returned (.bool (inR 0 tk.least tk.most)) ∧ wx = w') := fun wx => InB.within_any _ _ _ wx
      rw [okP] at HD'
      generalize inR 0 tk.key 1000 = q0 at *
      generalize inR 0 tk.most 1000 = q2 at *
      generalize inR 0 tk.least tk.most = q3 at *
      cases q0 <;> cases q2 <;> cases q3
      all_goals
        go_wp2_with (first | (go_at_call 19; (with_reducible refine (K0.out _).mono ?_); rintro e w' ⟨rfl, rfl⟩) | (go_at_call 19; (with_reducible refine (K1.out _).mono ?_); rintro e w' ⟨rfl, rfl⟩) | (go_at_call 19; (with_reducible refine (K2.out _).mono ?_); rintro e w' ⟨rfl, rfl⟩))
        first
          | (go_ret; exact ⟨Seg.ret_bool (by rw [← HD'.out]; rfl), BB.out _⟩)
          | (all_goals exact ⟨⟨k + 1, by omega, by go_num, by rw [← HD'.out]; rfl, BB.out _⟩, by simp [intOf]; omega⟩)
    · have HE := HR.out.1
      rw [List.drop_eq_nil_of_le (by omega)] at HE
      have HE' := Seg.hid HE
      have BL := Seg.hid HR.out.2
      clear HE HR
      go_wp2
      go_ret
      exact ⟨Seg.ret_bool HE'.out, BL.out⟩
end Go.Proofs.Ytmkkdladgoilmaa.AgI
