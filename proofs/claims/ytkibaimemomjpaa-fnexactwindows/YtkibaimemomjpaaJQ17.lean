/- The program's rowReckonable, Arrival.okFor and InputsOk; A row of numbers of the call's own: opened, its cells written, its end taken away. -/
import Derived.Deep.RegionHeld3
import Derived.Deep.Cut
import Derived.WalkSmall
import Derived.Test.YtkibaimemomjpaaJQ13
import Derived.Test.YtkibaimemomjpaaJQ16
import Derived.Test.YtkibaimemomjpaaJQ09
import Derived.Test.YtkibaimemomjpaaJQ04
import Derived.Test.YtkibaimemomjpaaJQ05
namespace Go.Proofs.Ytkibaimemomjpaa.IoI
set_option maxRecDepth 8000
open Go.RowKit
open Ls Lp QyP QsP QtP QuP TbP IoP
open Recs (hsz below1 below2 chain chainD)
set_option linter.unusedVariables false
set_option maxHeartbeats 1600000 in
theorem row_any (v : Value) (ns : List Int) (w : World) (S : Nat → Prop) (hv : IntsAt w S v ns) (hS : ∀ g, S g → g < w.heap.size) :
    Calls Try.prog 111 #[v] w fun e w' => e = .returned (.bool (ns.all inN)) ∧ w = w' := by
  obtain ⟨A, c, g, o, F, rfl, OP, hn⟩ := opn hv hS
  have HO := Seg.hid OP
  clear hv OP
  obtain ⟨R, hR⟩ : ∃ R, ns.all inN = R := ⟨_, rfl⟩
  rw [hR]
  have HR := Seg.hid hR
  clear hR
  have CQ : Hid (∀ n wx, Calls Try.prog 125 #[.int .i64 n] wx fun e w' => e = .returned (.bool (inN n)) ∧ wx = w') := fun n wx => by
    obtain ⟨b, hb⟩ : ∃ b, inN n = b := ⟨_, rfl⟩
    rw [hb]
    have CB := Seg.hid (InB.within_b n (-1000000000000000) 1000000000000000 b hb)
    clear hb
    go_enter Try.func125, Try.ntmps125
    go_wp2_with (go_at_call 82; refine (CB.out _).mono ?_; rintro e w5 ⟨rfl, rfl⟩)
    go_ret
    exact ⟨rfl, rfl⟩
  go_enter Try.func111, Try.ntmps111
  go_wp2
  go_loop [7] (fun i => ∃ k : Nat, k ≤ ns.length ∧ i = .int .i64 k ∧ Hid ((ns.take k).all inN = true)) (fun i => ns.length - (intOf i).toNat)
  case atStart => exact ⟨0, Nat.zero_le _, rfl, by show _ = _; simp⟩
  case round =>
    obtain ⟨k, hk, rfl, HG⟩ := hrel
    by_cases hlt : k < ns.length
    · obtain ⟨ea, hc, hgw⟩ := HO.out.addr.resolve_left (by omega)
      subst ea
      have d0 := ints_cell HO.out hlt
      have h0 : (0 : Int) ≤ (k : Int) := by omega
      have h1 : (k : Int) < (ns.length : Int) := by omega
      have NX := Seg.hid (all_next inN ns k hlt HG.out)
      have BX := Seg.hid (all_bad inN ns k hlt)
      generalize ns.getD k default = nk at *
      have CB : ∀ b, inN nk = b → Hid (∀ wx, Calls Try.prog 125 #[.int .i64 nk] wx fun e w' => e = .returned (.bool b) ∧ wx = w') := fun b hb => by subst hb; exact CQ.out nk
      cases hy : inN nk with
      | true =>
        have NY : Hid ((ns.take (k + 1)).all inN = true) := NX.out hy
        have CC := CB true hy
        clear hy NX BX CB
        go_wp2_with (go_at_call 125; refine (CC.out _).mono ?_; rintro e w5 ⟨rfl, rfl⟩)
        go_round
        case rel => exact ⟨k + 1, by omega, by go_num, NY.out⟩
        case measure => simp [intOf]; omega
      | false =>
        have NY : Hid (R = false) := by show _ = _; rw [← HR.out]; exact BX.out hy
        have CC := CB false hy
        clear hy NX BX CB
        go_wp2_with (go_at_call 125; refine (CC.out _).mono ?_; rintro e w5 ⟨rfl, rfl⟩)
        go_ret
        exact ⟨by rw [NY.out]; rfl, rfl⟩
    · have hkl : k = ns.length := by omega
      have RF : Hid (R = true) := by show _ = _; have := HG.out; rw [hkl, List.take_length, HR.out] at this; exact this
      have hx1 : ¬ (k : Int) < (ns.length : Int) := by omega
      clear hkl
      go_wp2
      go_ret
      exact ⟨by rw [RF.out]; rfl, rfl⟩
set_option maxHeartbeats 3200000 in
theorem ok_any (s : Src) (a : Arr) (A A' : Option Addr) (c c' : Nat) (w : World) (S : Nat → Prop) (hv : IntsAt w S (.slice A a.row.length c) a.row) (hS : ∀ g, S g → g < w.heap.size) :
    Calls Try.prog 93 #[.agg (avl a A c), .agg #[.string s.name, .bool s.tab, .slice A' s.cols.length c']] w fun e w' => e = .returned (.bool (arrOk s a)) ∧ Below w.heap.size w w' := by
  have HV := Seg.hid hv
  clear hv
  obtain ⟨R, hR⟩ : ∃ R, arrOk s a = R := ⟨_, rfl⟩
  rw [hR]
  have HR : Hid (((inR 0 a.time 1000000000000 && (!a.gone || s.tab)) && (decide (a.row.length = s.cols.length) && a.row.all inN)) = R) := hR
  clear hR
  go_enter Try.func93, Try.ntmps93
  go_upto_region 1 with fail
  obtain ⟨w1, hw1⟩ : ∃ w1, (w.alloc (.cells #[.int .i64 a.time, .slice A a.row.length c, .bool a.gone] 88 (0, 0))).alloc (.cells #[.string s.name, .bool s.tab, .slice A' s.cols.length c'] 92 (0, 0)) = w1 := ⟨_, rfl⟩
  have T1 : Hid (w1.heap[w.heap.size]? = some (.cells #[.int .i64 a.time, .slice A a.row.length c, .bool a.gone] 88 (0, 0))) := by show _ = _; rw [← hw1]; exact (heap_alloc_old _ _ (by rw [hsz]; omega)).trans (heap_alloc_new _ _)
  have T2 : Hid (w1.heap[w.heap.size + 1]? = some (.cells #[.string s.name, .bool s.tab, .slice A' s.cols.length c'] 92 (0, 0))) := by
    show _ = _
    have := heap_alloc_new (w.alloc (.cells #[.int .i64 a.time, .slice A a.row.length c, .bool a.gone] 88 (0, 0))) (.cells #[.string s.name, .bool s.tab, .slice A' s.cols.length c'] 92 (0, 0))
    rw [hsz] at this
    rw [← hw1]
    exact this
  have B1 : Hid (Below w.heap.size w w1) := by show Below _ _ _; rw [← hw1]; exact below2 _ _ _
  try rw [hw1]
  clear hw1
  obtain ⟨q0, q1, q2⟩ := arrB T1.out
  obtain ⟨s0, s1, s2⟩ := arrB T2.out
  have CR : Hid (∀ b, a.row.all inN = b → Calls Try.prog 111 #[.slice A a.row.length c] w1 fun e w' => e = .returned (.bool b) ∧ w1 = w') := fun b hb => by
    subst hb
    exact row_any _ _ w1 S (LAt.below keepsI HV.out B1.out hS) (fun y hy => Nat.lt_of_lt_of_le (hS y hy) B1.out.size)
  obtain ⟨bt, hbt⟩ : ∃ b, inR 0 a.time 1000000000000 = b := ⟨_, rfl⟩
  rw [hbt] at HR
  have CT := Seg.hid (InB.within_b a.time 0 1000000000000 bt hbt)
  clear hbt
  obtain ⟨tm, htm⟩ : ∃ t, a.time = t := ⟨_, rfl⟩
  rw [htm] at q0 CT
  obtain ⟨gn, hgn⟩ : ∃ t, a.gone = t := ⟨_, rfl⟩
  rw [hgn] at q2 HR
  obtain ⟨tb, htb⟩ : ∃ t, s.tab = t := ⟨_, rfl⟩
  rw [htb] at s1 HR
  clear htm hgn htb
  cases bt with
  | false =>
    have RF : Hid (R = false) := by show _ = _; rw [← HR.out]; rfl
    clear HR
    go_wp2_with (go_at_call 82; refine (CT.out _).mono ?_; rintro e w5 ⟨rfl, rfl⟩)
    go_ret
    exact ⟨by rw [RF.out]; rfl, B1.out⟩
  | true =>
    cases gn with
    | false =>
      by_cases hl : a.row.length = s.cols.length
      · have HL := Seg.hid hl
        obtain ⟨b, hb⟩ : ∃ b, a.row.all inN = b := ⟨_, rfl⟩
        have CB := Seg.hid (CR.out b hb)
        have hlb : ((a.row.length : Int) == (s.cols.length : Int)) = true := by simp; omega
        clear hl
        have RF : Hid (R = b) := by show _ = _; rw [← HR.out, hb, decide_eq_true HL.out]; simp
        clear HR CR hb
        go_wp2_with (first | (go_at_call 82; refine (CT.out _).mono ?_; rintro e w5 ⟨rfl, rfl⟩) | (go_at_call 111; refine (CB.out).mono ?_; rintro e w5 ⟨rfl, rfl⟩))
        go_ret
        exact ⟨by rw [RF.out]; rfl, B1.out⟩
      · have hlb : ((a.row.length : Int) == (s.cols.length : Int)) = false := by simp; omega
        have RF : Hid (R = false) := by show _ = _; rw [← HR.out]; rw [decide_eq_false hl]; simp
        clear HR
        go_wp2_with (go_at_call 82; refine (CT.out _).mono ?_; rintro e w5 ⟨rfl, rfl⟩)
        go_ret
        exact ⟨by rw [RF.out]; rfl, B1.out⟩
    | true =>
      cases tb with
      | false =>
        have RF : Hid (R = false) := by show _ = _; rw [← HR.out]; rfl
        clear HR
        go_wp2_with (go_at_call 82; refine (CT.out _).mono ?_; rintro e w5 ⟨rfl, rfl⟩)
        go_ret
        exact ⟨by rw [RF.out]; rfl, B1.out⟩
      | true =>
        by_cases hl : a.row.length = s.cols.length
        · have HL := Seg.hid hl
          obtain ⟨b, hb⟩ : ∃ b, a.row.all inN = b := ⟨_, rfl⟩
          have CB := Seg.hid (CR.out b hb)
          have hlb : ((a.row.length : Int) == (s.cols.length : Int)) = true := by simp; omega
          clear hl
          have RF : Hid (R = b) := by show _ = _; rw [← HR.out, hb, decide_eq_true HL.out]; simp
          clear HR CR hb
          go_wp2_with (first | (go_at_call 82; refine (CT.out _).mono ?_; rintro e w5 ⟨rfl, rfl⟩) | (go_at_call 111; refine (CB.out).mono ?_; rintro e w5 ⟨rfl, rfl⟩))
          go_ret
          exact ⟨by rw [RF.out]; rfl, B1.out⟩
        · have hlb : ((a.row.length : Int) == (s.cols.length : Int)) = false := by simp; omega
          have RF : Hid (R = false) := by show _ = _; rw [← HR.out]; rw [decide_eq_false hl]; simp
          clear HR
          go_wp2_with (go_at_call 82; refine (CT.out _).mono ?_; rintro e w5 ⟨rfl, rfl⟩)
          go_ret
          exact ⟨by rw [RF.out]; rfl, B1.out⟩
set_option maxHeartbeats 12800000 in
theorem impl_any (v z : Value) (l : List Src) (us : List (List Arr)) (w : World) (S : Nat → Prop) (hv : LAt 3 ESrc w S v l) (hz : LAt 1 EArr2 w S z us) (hS : ∀ g, S g → g < w.heap.size) (hf : szL szSrc l ≤ 1048576) (hfz : szL szArr2 us ≤ 1048576) :
    Calls Try.prog 59 #[v, z] w fun e w' => e = .returned (.bool (inpOk l us)) ∧ Below w.heap.size w w' := by
  have HV := Seg.hid hv
  obtain ⟨A, c, g, o, F, rfl, OP, hn⟩ := opn hv hS
  have HO := Seg.hid OP
  obtain ⟨A2, c2, g2, o2, F2, rfl, OP2, hn2⟩ := opn hz hS
  have HO2 := Seg.hid OP2
  clear hv hz OP OP2
  have HZ := Seg.hid hf
  have HZ2 := Seg.hid (cnt_max hfz)
  clear hf hfz
  obtain ⟨R, hR⟩ : ∃ R, inpOk l us = R := ⟨_, rfl⟩
  rw [hR]
  have HR : Hid ((srcsOk l && (decide (us.length = l.length) && (decide (cnt us ≤ 300) && rowsK l us us.length))) = R) := hR
  clear hR
  have CS : ∀ b, srcsOk l = b → Hid (Calls Try.prog 92 #[.slice A l.length c] w fun e w' => e = .returned (.bool b) ∧ Below w.heap.size w w') := fun b hb => by subst hb; exact QsI.impl_any _ l w S HV.out hS HZ.out
  go_enter Try.func59, Try.ntmps59
  cases hso : srcsOk l with
  | false =>
    have CC := CS false hso
    have RF : Hid (R = false) := by show _ = _; rw [← HR.out, hso]; rfl
    clear CS hso
    go_wp2_with (go_at_call 92; refine CC.out.mono ?_; rintro e w1 ⟨rfl, b1⟩; have B1 := Seg.hid b1; clear b1)
    go_ret
    exact ⟨by rw [RF.out]; rfl, B1.out⟩
  | true =>
  have CC := CS true hso
  have R1 : Hid (R = (decide (us.length = l.length) && (decide (cnt us ≤ 300) && rowsK l us us.length))) := by show _ = _; rw [← HR.out, hso]; rfl
  clear CS hso HR
  by_cases hle : us.length = l.length
  case neg =>
    have RF : Hid (R = false) := by show _ = _; rw [R1.out, decide_eq_false hle]; rfl
    have hq : ((us.length : Int) == (l.length : Int)) = false := by simp; omega
    go_wp2_with (go_at_call 92; refine CC.out.mono ?_; rintro e w1 ⟨rfl, b1⟩; have B1 := Seg.hid b1; clear b1)
    go_ret
    exact ⟨by rw [RF.out]; rfl, B1.out⟩
  case pos =>
  have R2 : Hid (R = (decide (cnt us ≤ 300) && rowsK l us us.length)) := by show _ = _; rw [R1.out, decide_eq_true hle]; rfl
  have hle2 : (us.length : Int) = (l.length : Int) := by omega
  clear R1
  go_wp2_with (go_at_call 92; refine CC.out.mono ?_; rintro e w1 ⟨rfl, b1⟩; have B1 := Seg.hid b1; clear b1)
  clear CC
  go_loopw [5, 22] (fun n i wr => ∃ k : Nat, k ≤ us.length ∧ i = .int .i64 k ∧ n = .int .i64 (cnt (us.take k)) ∧ Hid (cnt (us.take k) ≤ 300 ∧ rowsK l us k = true ∧ Below w.heap.size w wr)) (fun _ i _ => us.length - (intOf i).toNat)
  case atStart => exact ⟨0, Nat.zero_le _, rfl, by simp [cnt], by simp [cnt], rfl, B1.out⟩
  case round =>
    clear B1
    obtain ⟨wo, rfl⟩ : ∃ wo, wo = wr := ⟨_, rfl⟩
    obtain ⟨k, hk, rfl, rfl, HG⟩ := hrel
    have BW := Seg.hid HG.out.2.2
    have GC := HG.out.1
    have GR := Seg.hid HG.out.2.1
    clear HG
    by_cases hlt : k < us.length
    · obtain ⟨ea, hc2, hgw2⟩ := HO2.out.addr.resolve_left (by omega)
      subst ea
      obtain ⟨ea, hc, hgw⟩ := HO.out.addr.resolve_left (by omega)
      subst ea
      obtain ⟨A3, c3, hl3, d3⟩ := arrs_at HO2.out hS BW.out hlt
      have CN := cnt_next hlt
      have CL := cnt_le us (k + 1)
      have CM := HZ2.out
      have RX : Hid ((us.getD k default).all (arrOk (l.getD k default)) = true → rowsK l us (k + 1) = true) := fun h => rows_next GR.out h
      have RY : Hid ((us.getD k default).all (arrOk (l.getD k default)) = false → rowsK l us us.length = false) := fun h => rows_bad hlt h
      have hSr : ∀ y, S y → y < wo.heap.size := fun y hy => Nat.lt_of_lt_of_le (hS y hy) BW.out.size
      obtain ⟨As, cs, hls, e0, e1, e2⟩ := src_at HO.out hS BW.out (k := k) (by omega)
      clear hls
      have h0 : (0 : Int) ≤ (k : Int) := by omega
      have h1 : (k : Int) < (us.length : Int) := by omega
      have h2 : (k : Int) < (l.length : Int) := by omega
      generalize us.getD k default = ak at *
      generalize l.getD k default = s at *
      obtain ⟨n, hnn⟩ : ∃ n, cnt (us.take k) = n := ⟨_, rfl⟩
      rw [hnn] at CN GC ⊢
      obtain ⟨n', hnn'⟩ : ∃ n, cnt (us.take (k + 1)) = n := ⟨_, rfl⟩
      rw [hnn'] at CN CL
      have HN' := Seg.hid hnn'
      have wz : IntKind.i64.wrap ((n : Int) + (ak.length : Int)) = (n' : Int) := by rw [IntKind.wrap_i64] <;> omega
      clear hnn hnn'
      by_cases h3 : 300 < n'
      · have RF : Hid (R = false) := by show _ = _; rw [R2.out, decide_eq_false (by omega)]; rfl
        have h3i : (300 : Int) < (n' : Int) := by omega
        go_wp2
        go_ret
        exact ⟨by rw [RF.out]; rfl, BW.out⟩
      have h3i : ¬ (300 : Int) < (n' : Int) := by omega
      obtain ⟨A4, c4, g4, o4, F4, e4, OP4, hn4⟩ := opn hl3 hSr
      simp only [Value.slice.injEq, true_and] at e4
      obtain ⟨rfl, rfl⟩ := e4
      have HO4 := Seg.hid OP4
      clear hl3 OP4
      go_wp2
      go_loopw [35] (fun j wr => ∃ q : Nat, q ≤ ak.length ∧ j = .int .i64 q ∧ Hid ((ak.take q).all (arrOk s) = true ∧ Below wo.heap.size wo wr)) (fun j _ => ak.length - (intOf j).toNat)
      case atStart => exact ⟨0, Nat.zero_le _, rfl, by simp, Below.refl _ _⟩
      case round =>
        obtain ⟨q, hq, rfl, HQ⟩ := hrel
        have BQ := Seg.hid HQ.out.2
        have GQ := Seg.hid HQ.out.1
        clear HQ
        by_cases hqt : q < ak.length
        · obtain ⟨ea, hc4, hgw4⟩ := HO4.out.addr.resolve_left (by omega)
          subst ea
          obtain ⟨A', c', hcl, d0, d1, d2⟩ := arr_at HO4.out hSr BQ.out hqt
          have NX := Seg.hid (all_next (arrOk s) ak q hqt GQ.out)
          have BX := Seg.hid (all_bad (arrOk s) ak q hqt)
          have hq0 : (0 : Int) ≤ (q : Int) := by omega
          have hq1 : (q : Int) < (ak.length : Int) := by omega
          generalize ak.getD q default = a at *
          have HC := Seg.hid hcl
          have s0 := (BQ.out.cell (p := ⟨g, o + k * 3, none⟩) (Nat.lt_of_lt_of_le hgw BW.out.size)).trans e0
          have s1 := (BQ.out.cell (p := ⟨g, o + k * 3 + 1, none⟩) (Nat.lt_of_lt_of_le hgw BW.out.size)).trans e1
          have s2 := (BQ.out.cell (p := ⟨g, o + k * 3 + 2, none⟩) (Nat.lt_of_lt_of_le hgw BW.out.size)).trans e2
          have hgq : g < wr.heap.size := Nat.lt_of_lt_of_le hgw (Nat.le_trans BW.out.size BQ.out.size)
          have hSq : ∀ y, S y → y < wr.heap.size := fun y hy => Nat.lt_of_lt_of_le (hSr y hy) BQ.out.size
          clear hcl
          obtain ⟨w5, hw5⟩ : ∃ w5, wr.alloc (.cells #[.int .i64 a.time, .slice A' a.row.length c', .bool a.gone] 88 (0, 0)) = w5 := ⟨_, rfl⟩
          have T5 : Hid (w5.heap[wr.heap.size]? = some (.cells #[.int .i64 a.time, .slice A' a.row.length c', .bool a.gone] 88 (0, 0))) := by show _ = _; rw [← hw5]; exact heap_alloc_new _ _
          have N5 : Hid (Below wr.heap.size wr w5) := by show Below _ _ _; rw [← hw5]; exact below1 _ _
          go_upto_region 13 with fail
          try rw [hw5]
          clear hw5 d0 d1 d2
          obtain ⟨q0, q1, q2⟩ := arrB T5.out
          have p0 := (N5.out.cell (p := ⟨g, o + k * 3, none⟩) hgq).trans s0
          have p1 := (N5.out.cell (p := ⟨g, o + k * 3 + 1, none⟩) hgq).trans s1
          have p2 := (N5.out.cell (p := ⟨g, o + k * 3 + 2, none⟩) hgq).trans s2
          have hl5 : wr.heap.size < w5.heap.size := (Array.getElem?_eq_some_iff.1 T5.out).1
          have hg5 : g < w5.heap.size := Nat.lt_of_lt_of_le hgq N5.out.size
          have CT : ∀ b, arrOk s a = b → Hid (Calls Try.prog 93 #[.agg (avl a A' c'), .agg #[.string s.name, .bool s.tab, .slice As s.cols.length cs]] w5.drew fun e w' => e = .returned (.bool b) ∧ Below w5.drew.heap.size w5.drew w') := fun b hb => by
            subst hb
            exact ok_any s a A' As c' cs w5.drew S (LAt.below keepsI HC.out N5.out.drew hSq) (fun y hy => Nat.lt_of_lt_of_le (hSq y hy) N5.out.size)
          clear e0 e1 e2 s0 s1 s2
          cases hb : arrOk s a with
          | true =>
            have CB := CT true hb
            have NY := Seg.hid (NX.out hb)
            clear CT hb NX BX
            go_region_held3 (fun w' => w'.cell? ⟨wr.heap.size, 0, none⟩ = some (.int .i64 a.time) ∧ w'.cell? ⟨wr.heap.size, 1, none⟩ = some (.slice A' a.row.length c') ∧ w'.cell? ⟨wr.heap.size, 2, none⟩ = some (.bool a.gone) ∧ w'.cell? ⟨g, o + k * 3, none⟩ = some (.string s.name) ∧ w'.cell? ⟨g, o + k * 3 + 1, none⟩ = some (.bool s.tab) ∧ w'.cell? ⟨g, o + k * 3 + 2, none⟩ = some (.slice As s.cols.length cs)) (first | exact ⟨q0, q1, q2, p0, p1, p2⟩ | exact ⟨t0, t1, t2, t3, t4, t5⟩ | go_keep) (first | (go_at_call 93; refine (CB.out).mono ?_; rintro e w6 ⟨rfl, b6⟩; have M6 : Hid (Below w5.heap.size w5 w6) := ⟨b6.os, b6.tape, b6.output, b6.size, b6.block⟩; have N6 := Seg.hid (chainD N5.out b6); clear b6; have t0 := (M6.out.cell (p := ⟨wr.heap.size, 0, none⟩) hl5).trans q0; have t1 := (M6.out.cell (p := ⟨wr.heap.size, 1, none⟩) hl5).trans q1; have t2 := (M6.out.cell (p := ⟨wr.heap.size, 2, none⟩) hl5).trans q2; have t3 := (M6.out.cell (p := ⟨g, o + k * 3, none⟩) hg5).trans p0; have t4 := (M6.out.cell (p := ⟨g, o + k * 3 + 1, none⟩) hg5).trans p1; have t5 := (M6.out.cell (p := ⟨g, o + k * 3 + 2, none⟩) hg5).trans p2))
            all_goals
              go_wp2
              go_roundw
              case rel => exact ⟨q + 1, by omega, by go_num, NY.out, chain BQ.out N6.out⟩
              case measure => simp [intOf]; omega
          | false =>
            have CB := CT false hb
            have RF : Hid (R = false) := by show _ = _; rw [R2.out, RY.out (BX.out hb)]; simp
            clear CT hb NX BX
            go_region_held3 (fun w' => w'.cell? ⟨wr.heap.size, 0, none⟩ = some (.int .i64 a.time) ∧ w'.cell? ⟨wr.heap.size, 1, none⟩ = some (.slice A' a.row.length c') ∧ w'.cell? ⟨wr.heap.size, 2, none⟩ = some (.bool a.gone) ∧ w'.cell? ⟨g, o + k * 3, none⟩ = some (.string s.name) ∧ w'.cell? ⟨g, o + k * 3 + 1, none⟩ = some (.bool s.tab) ∧ w'.cell? ⟨g, o + k * 3 + 2, none⟩ = some (.slice As s.cols.length cs)) (first | exact ⟨q0, q1, q2, p0, p1, p2⟩ | exact ⟨t0, t1, t2, t3, t4, t5⟩ | go_keep) (first | (go_at_call 93; refine (CB.out).mono ?_; rintro e w6 ⟨rfl, b6⟩; have M6 : Hid (Below w5.heap.size w5 w6) := ⟨b6.os, b6.tape, b6.output, b6.size, b6.block⟩; have N6 := Seg.hid (chainD N5.out b6); clear b6; have t0 := (M6.out.cell (p := ⟨wr.heap.size, 0, none⟩) hl5).trans q0; have t1 := (M6.out.cell (p := ⟨wr.heap.size, 1, none⟩) hl5).trans q1; have t2 := (M6.out.cell (p := ⟨wr.heap.size, 2, none⟩) hl5).trans q2; have t3 := (M6.out.cell (p := ⟨g, o + k * 3, none⟩) hg5).trans p0; have t4 := (M6.out.cell (p := ⟨g, o + k * 3 + 1, none⟩) hg5).trans p1; have t5 := (M6.out.cell (p := ⟨g, o + k * 3 + 2, none⟩) hg5).trans p2))
            all_goals
              go_wp2
              go_ret
              exact ⟨by rw [RF.out]; rfl, chain BW.out (chain BQ.out N6.out)⟩
        · have hql : q = ak.length := by omega
          have RN := Seg.hid (RX.out (by have := GQ.out; rw [hql, List.take_length] at this; exact this))
          have hx1 : ¬ (q : Int) < (ak.length : Int) := by omega
          clear hql
          go_wp2
          go_roundw
          case rel => exact ⟨k + 1, by omega, by go_num, by rw [HN'.out]; exact (congrArg (Value.int .i64) (by omega)), by rw [HN'.out]; omega, RN.out, chain BW.out BQ.out⟩
          case measure => simp [intOf]; omega
    · have hkl : k = us.length := by omega
      have hx1 : ¬ (k : Int) < (us.length : Int) := by omega
      have RF : Hid (R = true) := by
        show _ = _
        have h4 := GR.out
        have h5 := GC
        rw [hkl] at h4
        rw [hkl, List.take_length] at h5
        rw [R2.out, h4, decide_eq_true h5]
        rfl
      clear hkl
      go_wp2
      go_ret
      exact ⟨by rw [RF.out]; rfl, BW.out⟩
end Go.Proofs.Ytkibaimemomjpaa.IoI
namespace Go.Proofs.Ytkibaimemomjpaa.RkP
set_option maxRecDepth 8000
open Go.RowKit
open Ls Lp
set_option linter.unusedVariables false
abbrev NRow (w : World) (B : Nat) (v : Value) (ns : List Int) : Prop := w.ownsRow B 3 1 v ns.length (ns.map (Value.int .i64))
theorem NRow.keep {w w' : World} {B : Nat} {v : Value} {ns : List Int} (h : NRow w B v ns) (hb : Below w.heap.size w w') : NRow w' B v ns := by
  refine ⟨h.1, ?_⟩
  rcases h.2 with ⟨h1, h2⟩ | ⟨g, cap, cur, h1, hb', hg, r⟩
  · exact .inl ⟨h1, h2⟩
  · exact .inr ⟨g, cap, cur, h1, hb', (hb.block g (Array.getElem?_eq_some_iff.1 hg).1).trans hg, r⟩
theorem NRow.open {w : World} {B : Nat} {v : Value} {ns : List Int} (h : NRow w B v ns) (h0 : 0 < ns.length) : ∃ g cap, v = .slice (some ⟨g, 0, none⟩) ns.length cap ∧ B ≤ g ∧ g < w.heap.size ∧ (∀ i, i < ns.length → w.cell? ⟨g, i, none⟩ = some (.int .i64 (ns.getD i 0))) ∧ (∀ i, w.frozen? ⟨g, i, none⟩ = false) ∧ ns.length ≤ cap := by
  rcases h.2 with ⟨h1, h2⟩ | ⟨g, cap, cur, h1, hb', hg, hnc, hcm, hcs, htake⟩
  · omega
  · subst h1
    refine ⟨g, cap, rfl, hb', (Array.getElem?_eq_some_iff.1 hg).1, fun i hi => ?_, fun i => frozen_of_row w g i _ _ hg, by simpa using hnc⟩
    have := World.ownsRow.cellAt h i (by simpa using hi)
    rw [this]
    simp [hi]
theorem NRow.put {w : World} {B : Nat} {v : Value} {ns : List Int} {a : Int} (h : w.ownsRow B 3 1 v (ns.length + 1) (ns.map (Value.int .i64) ++ [Value.int .i64 a])) : NRow w B v (ns ++ [a]) := by
  unfold NRow
  rw [List.length_append, List.length_singleton, List.map_append]
  exact h
theorem NRow.set {w : World} {B g cap j : Nat} {ns : List Int} {a : Int} (h : NRow w B (.slice (some ⟨g, 0, none⟩) ns.length cap) ns) (hj : j < ns.length) : NRow (w.setCell ⟨g, j, none⟩ (.int .i64 a)) B (.slice (some ⟨g, 0, none⟩) ns.length cap) (ns.set j a) := by
  rcases h.2 with ⟨h1, h2⟩ | ⟨g', cap', cur, h1, hb', hg, hnc, hcm, hcs, htake⟩
  · omega
  · cases h1
    refine ⟨by simp, .inr ⟨g, cap, cur.setIfInBounds j (.int .i64 a), by simp, hb', heap_setCell_same w g j cur _ (.int .i64 a) hg, by simpa using hnc, hcm, by simpa using hcs, ?_⟩⟩
    simp only [List.length_set]
    rw [Array.toList_setIfInBounds, List.take_set, htake, List.map_set]
theorem NRow.pop {w : World} {B g cap n : Nat} {ns : List Int} (hn : ns.length = n + 1) (h : NRow w B (.slice (some ⟨g, 0, none⟩) ns.length cap) ns) : NRow w B (.slice (some ⟨g, 0, none⟩) n cap) (ns.take n) := by
  have e : ns.map (Value.int .i64) = (ns.take n).map (Value.int .i64) ++ (ns.drop n).map (Value.int .i64) := by rw [← List.map_append, List.take_append_drop]
  unfold NRow at *
  rw [hn, e] at h
  have hl : (ns.take n).length = n := by rw [List.length_take]; omega
  rw [hl]
  exact Go.ownsRow_pop (by rw [List.length_map, hl]; omega) h
end Go.Proofs.Ytkibaimemomjpaa.RkP
