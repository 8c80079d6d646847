/- A right query: the model's way to ask is the program's: plain; The model's l14Steps. -/
import Derived.Deep.Cut
import Derived.Test.YtkohhcjpjloaaaaJW18
import Derived.Test.YtkohhcjpjloaaaaJW08
import Derived.Test.YtkohhcjpjloaaaaJW15
namespace Go.Proofs.Ytkohhcjpjloaaaa.XqQ
set_option maxRecDepth 8000
open Go.RowKit
open Ls Lp QtP XsP QsI QyP XqP
set_option linter.unusedVariables false
def k1 (n0 ej n1 el n2 : Bool) : Bool := !n0 || ((!ej && !n1) || ((!el && !n2) || (!ej && !el)))
def k3 (ej el eo no iw z : Bool) : Bool := ((!ej || !el) != !eo) || ((!eo && !no) || (!iw || (ej && !z)))
def k5 (lw sw : Bool) (m12 df : Bool) : Bool := (!lw && !sw) || (m12 || !df)
def k12 (iw z lg : Bool) : Bool := !iw || (!z && lg)
def k14 (z s0 is : Bool) : Bool := (z && !s0) || (!z && !is)
def k16 (t ie m e0 : Bool) : Bool := (t && (!ie || m)) || (!t && !e0)
theorem em_name {t : ByteArray} (h : em t = true) : Nm.nameOk t = false := by
  refine Nm.name_size _ (.inl ?_)
  have : t.toList = [] := by simpa [em] using h
  rw [ByteArray.toList_eq] at this
  have h2 : t.data.size = 0 := by simpa using congrArg List.length this
  have : t.size = t.data.size := rfl
  omega
theorem partA (fr jn on lk : ByteArray) (wn : Int) : (!k1 (Nm.nameOk fr) (em jn) (Nm.nameOk jn) (em lk) (Nm.nameOk lk) && !k3 (em jn) (em lk) (em on) (Nm.nameOk on) (inR 0 wn 1000000000000) (decide (wn = 0))) = (Nm.nameOk fr && beP jn on lk wn) := by
  have hj := @em_name jn
  have hl := @em_name lk
  have ho := @em_name on
  have hw : decide (wn = 0) = true → inR 0 wn 1000000000000 = true := fun h => by
    have : wn = 0 := by simpa using h
    subst this
    rfl
  unfold beP k1 k3
  generalize Nm.nameOk fr = a at *
  generalize em jn = b at *
  generalize em lk = c at *
  generalize em on = d at *
  generalize Nm.nameOk jn = e at *
  generalize Nm.nameOk lk = f at *
  generalize Nm.nameOk on = g at *
  generalize decide (wn = 0) = h at *
  generalize inR 0 wn 1000000000000 = i at *
  revert a b c d e f g h i
  decide
theorem partB (q : Qry) : (!k5 (decide (q.wh.length = 0)) (stepsOk q.wh) (decide (12 < q.gps.length)) (diff q.gps) && q.gps.all Nm.nameOk) = (cOk q.gps && (decide (q.wh.length = 0) || stepsOk q.wh)) := by
  unfold k5 cOk
  have : decide (12 < q.gps.length) = !decide (q.gps.length ≤ 12) := by
    by_cases h : q.gps.length ≤ 12
    · rw [decide_eq_true h, decide_eq_false (by omega)]; rfl
    · rw [decide_eq_false h, decide_eq_true (by omega)]; rfl
  rw [this]
  generalize decide (q.wh.length = 0) = a
  generalize stepsOk q.wh = b
  generalize decide (q.gps.length ≤ 12) = c
  generalize diff q.gps = d
  generalize q.gps.all Nm.nameOk = e
  revert a b c d e
  decide
theorem partC (win size every : Int) (n : Nat) : (!k12 (inR 0 win 3) (decide (win = 0)) (decide (n = 0)) && (!k14 (decide (win = 0)) (decide (size = 0)) (inR 1 size 1000000000000) && !k16 (decide (win = 2)) (inR 1 every size) (decide (20 * every < size)) (decide (every = 0)))) = winP win size every n := by
  have hn : decide (n = 0) = !decide (0 < n) := by
    by_cases h : 0 < n
    · rw [decide_eq_true h, decide_eq_false (by omega)]; rfl
    · rw [decide_eq_false h, decide_eq_true (by omega)]; rfl
  have hm : decide (20 * every < size) = !decide (size ≤ 20 * every) := by
    by_cases h : size ≤ 20 * every
    · rw [decide_eq_true h, decide_eq_false (by omega)]; rfl
    · rw [decide_eq_false h, decide_eq_true (by omega)]; rfl
  rw [hn, hm]
  unfold winP k12 k14 k16
  generalize decide (0 < n) = a
  generalize decide (size ≤ 20 * every) = b
  generalize decide (size = 0) = c
  generalize decide (every = 0) = d
  generalize inR 1 size 1000000000000 = e
  generalize inR 1 every size = f
  by_cases h0 : win = 0
  · subst h0
    have : inR 0 0 3 = true := rfl
    rw [this]
    revert a b c d e f; decide
  by_cases h1 : win = 1
  · subst h1
    have : inR 0 1 3 = true := rfl
    rw [this]
    revert a b c d e f; decide
  by_cases h2 : win = 2
  · subst h2
    have : inR 0 2 3 = true := rfl
    rw [this]
    revert a b c d e f; decide
  by_cases h3 : win = 3
  · subst h3
    have : inR 0 3 3 = true := rfl
    rw [this]
    revert a b c d e f; decide
  have hi : inR 0 win 3 = false := by
    unfold inR
    by_cases hl : 0 ≤ win
    · rw [decide_eq_false (show ¬ win ≤ 3 by omega), Bool.and_false]
    · rw [decide_eq_false hl]; rfl
  rw [hi, if_neg h0, if_neg (by omega), if_neg h2]
  rfl
def mOk (q : Qry) : Bool := !k1 (Nm.nameOk q.fr) (em q.jn) (Nm.nameOk q.jn) (em q.lk) (Nm.nameOk q.lk) && (!k3 (em q.jn) (em q.lk) (em q.on) (Nm.nameOk q.on) (inR 0 q.wn 1000000000000) (decide (q.wn = 0)) && (!k5 (decide (q.wh.length = 0)) (stepsOk q.wh) (decide (12 < q.gps.length)) (diff q.gps) && (q.gps.all Nm.nameOk && (!k12 (inR 0 q.win 3) (decide (q.win = 0)) (decide (q.gps.length = 0)) && (!k14 (decide (q.win = 0)) (decide (q.size = 0)) (inR 1 q.size 1000000000000) && (!k16 (decide (q.win = 2)) (inR 1 q.every q.size) (decide (20 * q.every < q.size)) (decide (q.every = 0)) && (inR 1 q.gets.length 8 && q.gets.all (gtP (decide (0 < q.gps.length))))))))))
theorem re1 : ∀ x1 x3 x5 r x12 x14 x16 y : Bool, (!x1 && (!x3 && (!x5 && (r && (!x12 && (!x14 && (!x16 && y))))))) = ((!x1 && !x3) && ((!x5 && r) && ((!x12 && (!x14 && !x16)) && y))) := by decide
theorem re2 : ∀ p z s u t y : Bool, (p && (z && (s && (u && (t && y))))) = ((p && z) && ((s && t) && (u && y))) := by decide
theorem mOk_eq (q : Qry) : mOk q = qOk q := by
  unfold mOk qOk
  rw [re1, re2, partA, partB, partC]
end Go.Proofs.Ytkohhcjpjloaaaa.XqQ
namespace Go.Proofs.Ytkohhcjpjloaaaa.QtS
set_option maxRecDepth 8000
open Go.RowKit
open Ls Lp QtP
open Recs (hsz below1 below2 chain)
set_option linter.unusedVariables false
set_option maxHeartbeats 6400000 in
theorem steps_any (v : Value) (l : List Stp) (w : World) (S : Nat → Prop) (hv : LAt 3 EStp w S v l) (hS : ∀ g, S g → g < w.heap.size) (hf : szL szStp l ≤ 1048576) : Calls Try.prog 38 #[v] w fun e w' => e = .returned (.bool (stepsOk l)) ∧ Below w.heap.size w w' := by
  obtain ⟨A, c, g, o, F, rfl, OP, hn⟩ := opn hv hS
  have HO := Seg.hid OP
  have HZ := Seg.hid hf
  clear hv OP hf
  obtain ⟨R, hR⟩ : ∃ R, stepsOk l = R := ⟨_, rfl⟩
  rw [hR]
  have HR := Seg.hid hR
  clear hR
  go_enter Try.func38, Try.ntmps38
  by_cases h60 : 60 < l.length
  · have RF : Hid (R = false) := by show _ = _; rw [← HR.out, stepsOk, decide_eq_false (by omega)]; rfl
    have q60 : (60 : Int) < (l.length : Int) := by omega
    go_wp2
    go_ret
    exact ⟨by rw [RF.out]; rfl, Below.refl _ _⟩
  have R1 : Hid (R = endH (runH l 0)) := by show _ = _; rw [← HR.out, stepsOk, decide_eq_true (by omega)]; rfl
  have q60 : ¬ (60 : Int) < (l.length : Int) := by omega
  clear HR
  go_wp2
  go_loopw [3, 4] (fun v i wr => ∃ (k : Nat) (h : Int), k ≤ l.length ∧ v = .int .i64 h ∧ i = .int .i64 k ∧ Hid (0 ≤ h ∧ h ≤ k ∧ runH (l.drop k) h = runH l 0 ∧ Below w.heap.size w wr)) (fun _ i _ => l.length - (intOf i).toNat)
  case atStart => exact ⟨0, 0, Nat.zero_le _, rfl, rfl, by omega, by omega, rfl, Below.refl _ _⟩
  case round =>
    obtain ⟨k, h, hk, rfl, rfl, HG⟩ := hrel
    have hh0 : 0 ≤ h := HG.out.1
    have hh1 : h ≤ 60 := by have := HG.out.2.1; omega
    have hhk : h ≤ k := HG.out.2.1
    have RH : Hid (runH (l.drop k) h = runH l 0) := HG.out.2.2.1
    have BW : Hid (Below w.heap.size w wr) := HG.out.2.2.2
    clear HG
    by_cases hlt : k < l.length
    · obtain ⟨ea, hc, hgw⟩ := HO.out.addr.resolve_left (by omega)
      subst ea
      obtain ⟨d0, d1, d2⟩ := stp_at HO.out hS BW.out hlt
      have h0 : (0 : Int) ≤ (k : Int) := by omega
      have h1 : (k : Int) < (l.length : Int) := by omega
      have SU : Hid (szStp (l.getD k default) ≤ 1048576) := szL_one szStp HZ.out hlt
      have NO : Hid (stepH (l.getD k default) h = none → R = false) := fun e => by rw [R1.out, ← RH.out, run_none hlt e]; rfl
      have YES : Hid (∀ h', stepH (l.getD k default) h = some h' → runH (l.drop (k + 1)) h' = runH l 0) := fun h' e => by rw [← RH.out, run_some hlt e]
      clear RH
      generalize l.getD k default = s at *
      have TN : Hid (s.name.size ≤ maxLen) := by show _ ≤ _; have := SU.out; unfold szStp at this; unfold maxLen; omega
      obtain ⟨op, hop⟩ : ∃ op, s.op = op := ⟨_, rfl⟩
      obtain ⟨nu, hnu⟩ : ∃ nu, s.num = nu := ⟨_, rfl⟩
      obtain ⟨nm, hnm⟩ : ∃ nm, s.name = nm := ⟨_, rfl⟩
      obtain ⟨e, he⟩ : ∃ e, (nm.toList == []) = e := ⟨_, rfl⟩
      have EM : Hid (em s.name = e) := by show _ = _; rw [hnm]; exact he
      have OPH := Seg.hid hop
      have NUH := Seg.hid hnu
      have NMH := Seg.hid hnm
      rw [hop] at d0
      rw [hnu] at d1
      rw [hnm] at d2 TN
      clear hop hnu hnm
      obtain ⟨w5, hw5⟩ : ∃ w5, wr.alloc (.cells #[.int .i64 op, .int .i64 nu, .string nm] 55 (0, 0)) = w5 := ⟨_, rfl⟩
      have T5 : Hid (w5.heap[wr.heap.size]? = some (.cells #[.int .i64 op, .int .i64 nu, .string nm] 55 (0, 0))) := by show _ = _; rw [← hw5]; exact heap_alloc_new _ _
      have B5 : Hid (Below w.heap.size w w5) := by show Below _ _ _; rw [← hw5]; exact chain BW.out (below1 _ _)
      go_upto_region 9 with fail
      try rw [hw5]
      clear hw5 d0 d1 d2
      have q0 : w5.cell? ⟨wr.heap.size, 0, none⟩ = some (.int .i64 op) := cell_of_row w5 _ 0 _ _ (0, 0) T5.out
      have q1 : w5.cell? ⟨wr.heap.size, 1, none⟩ = some (.int .i64 nu) := cell_of_row w5 _ 1 _ _ (0, 0) T5.out
      have q2 : w5.cell? ⟨wr.heap.size, 2, none⟩ = some (.string nm) := cell_of_row w5 _ 2 _ _ (0, 0) T5.out
      clear T5
      by_cases o1 : op = 1
      · subst o1
        cases hb : inR 0 nu 1000000000000000 with
        | false =>
          have HK := Seg.hid hb
          clear hb
          have RF : Hid (R = false) := NO.out (by rw [step_num (b := false) OPH.out (by rw [NUH.out]; exact HK.out) EM.out]; rfl)
          clear NO YES
          go_wp2_with (go_at_call 37; refine (InB.l1In_b _ _ _ _ HK.out _).mono ?_; rintro e7 w6 ⟨rfl, rfl⟩)
          go_ret
          exact ⟨by rw [RF.out]; rfl, B5.out⟩
        | true =>
          have HK := Seg.hid hb
          clear hb
          cases e with
          | false =>
            have RF : Hid (R = false) := NO.out (by rw [step_num (b := true) OPH.out (by rw [NUH.out]; exact HK.out) EM.out]; rfl)
            clear NO YES
            go_wp2_with (go_at_call 37; refine (InB.l1In_b _ _ _ _ HK.out _).mono ?_; rintro e7 w6 ⟨rfl, rfl⟩)
            go_ret
            exact ⟨by rw [RF.out]; rfl, B5.out⟩
          | true =>
            have NX := Seg.hid (YES.out (h + 1) (by rw [step_num (b := true) OPH.out (by rw [NUH.out]; exact HK.out) EM.out]; rfl))
            clear NO YES
            go_wp2_with (go_at_call 37; refine (InB.l1In_b _ _ _ _ HK.out _).mono ?_; rintro e7 w6 ⟨rfl, rfl⟩)
            go_roundw
            case rel => exact ⟨k + 1, h + 1, by omega, by go_num, by go_num, by omega, by omega, NX.out, B5.out⟩
            case measure => simp [intOf]; omega
      by_cases o2 : op = 2
      · subst o2
        clear o1
        cases hb : Nm.nameOk nm with
        | false =>
          have HY := Seg.hid hb
          clear hb
          have RF : Hid (R = false) := NO.out (by rw [step_col (b := false) OPH.out (by rw [NMH.out]; exact HY.out) rfl]; rfl)
          clear NO YES
          go_wp2_with (go_at_call 36; refine (Nm.spec_q _ _ HY.out _ TN.out).mono ?_; rintro e7 w6 ⟨rfl, rfl⟩)
          go_ret
          exact ⟨by rw [RF.out]; rfl, B5.out⟩
        | true =>
          have HY := Seg.hid hb
          clear hb
          by_cases hn0 : nu = 0
          · subst hn0
            have NX := Seg.hid (YES.out (h + 1) (by rw [step_col (b := true) (e := true) OPH.out (by rw [NMH.out]; exact HY.out) (by rw [NUH.out]; rfl)]; rfl))
            clear NO YES
            go_wp2_with (go_at_call 36; refine (Nm.spec_q _ _ HY.out _ TN.out).mono ?_; rintro e7 w6 ⟨rfl, rfl⟩)
            go_roundw
            case rel => exact ⟨k + 1, h + 1, by omega, by go_num, by go_num, by omega, by omega, NX.out, B5.out⟩
            case measure => simp [intOf]; omega
          · have hn1 : (nu != 0) = true := by simpa using hn0
            have HN : Hid (decide (s.num = 0) = false) := by show _ = _; rw [NUH.out]; exact decide_eq_false hn0
            clear hn0
            have RF : Hid (R = false) := NO.out (by rw [step_col (b := true) OPH.out (by rw [NMH.out]; exact HY.out) HN.out]; rfl)
            clear NO YES
            go_wp2_with (go_at_call 36; refine (Nm.spec_q _ _ HY.out _ TN.out).mono ?_; rintro e7 w6 ⟨rfl, rfl⟩)
            go_ret
            exact ⟨by rw [RF.out]; rfl, B5.out⟩
      have p1 : (op == 1) = false := by simpa using o1
      have p2 : (op == 2) = false := by simpa using o2
      cases hb : inR 3 op 12 with
      | false =>
        have HK := Seg.hid hb
        have OO := Seg.hid (And.intro o1 o2)
        clear hb o1 o2
        have RF : Hid (R = false) := NO.out (by exact step_not (by rw [OPH.out]; exact OO.out.1) (by rw [OPH.out]; exact OO.out.2) (by rw [OPH.out]; exact HK.out))
        clear NO YES
        go_wp2_with (go_at_call 37; refine (InB.l1In_b _ _ _ _ HK.out _).mono ?_; rintro e7 w6 ⟨rfl, rfl⟩)
        go_ret
        exact ⟨by rw [RF.out]; rfl, B5.out⟩
      | true =>
      have HK := Seg.hid hb
      have h312 := inR_true hb
      have OR : Hid (3 ≤ s.op ∧ s.op ≤ 12) := by show _ ∧ _; rw [OPH.out]; exact h312
      clear hb o1 o2
      cases e with
      | false =>
        have RF : Hid (R = false) := NO.out (by rw [step_op OR.out EM.out rfl rfl]; rfl)
        clear NO YES
        go_wp2_with (go_at_call 37; refine (InB.l1In_b _ _ _ _ HK.out _).mono ?_; rintro e7 w6 ⟨rfl, rfl⟩)
        go_ret
        exact ⟨by rw [RF.out]; rfl, B5.out⟩
      | true =>
      by_cases hn0 : nu = 0
      case neg =>
        have hn1 : (nu != 0) = true := by simpa using hn0
        have HN : Hid (decide (s.num = 0) = false) := by show _ = _; rw [NUH.out]; exact decide_eq_false hn0
        clear hn0
        have RF : Hid (R = false) := NO.out (by rw [step_op OR.out EM.out HN.out rfl]; rfl)
        clear NO YES
        go_wp2_with (go_at_call 37; refine (InB.l1In_b _ _ _ _ HK.out _).mono ?_; rintro e7 w6 ⟨rfl, rfl⟩)
        go_ret
        exact ⟨by rw [RF.out]; rfl, B5.out⟩
      case pos =>
      subst hn0
      have HN : Hid (decide (s.num = 0) = true) := by show _ = _; rw [NUH.out]; rfl
      by_cases hz : h < 1
      · have z2 : h < 2 := by omega
        have HC : Hid ((decide (1 ≤ h) && (decide (2 ≤ h) || decide (s.op = 12))) = false) := by show _ = _; rw [decide_eq_false (show ¬ 1 ≤ h by omega)]; rfl
        by_cases o12 : op = 12
        · subst o12
          have RF : Hid (R = false) := NO.out (by rw [step_op OR.out EM.out HN.out HC.out]; rfl)
          clear NO YES
          go_wp2_with (go_at_call 37; refine (InB.l1In_b _ _ _ _ HK.out _).mono ?_; rintro e7 w6 ⟨rfl, rfl⟩)
          go_ret
          exact ⟨by rw [RF.out]; rfl, B5.out⟩
        · have p12 : (op != 12) = true := by simpa using o12
          clear o12
          have RF : Hid (R = false) := NO.out (by rw [step_op OR.out EM.out HN.out HC.out]; rfl)
          clear NO YES
          go_wp2_with (go_at_call 37; refine (InB.l1In_b _ _ _ _ HK.out _).mono ?_; rintro e7 w6 ⟨rfl, rfl⟩)
          go_ret
          exact ⟨by rw [RF.out]; rfl, B5.out⟩
      · by_cases o12 : op = 12
        · subst o12
          have HC : Hid ((decide (1 ≤ h) && (decide (2 ≤ h) || decide (s.op = 12))) = true) := by show _ = _; rw [decide_eq_true (show 1 ≤ h by omega), decide_eq_true OPH.out]; simp
          have ST : Hid (stepH s h = some h) := by show _ = _; rw [step_op OR.out EM.out HN.out HC.out, if_pos OPH.out]; rfl
          clear HC
          by_cases z2 : h < 2
          · have NX := Seg.hid (YES.out (h) (by exact ST.out))
            clear NO YES
            go_wp2_with (go_at_call 37; refine (InB.l1In_b _ _ _ _ HK.out _).mono ?_; rintro e7 w6 ⟨rfl, rfl⟩)
            go_roundw
            case rel => exact ⟨k + 1, h, by omega, by go_num, by go_num, by omega, by omega, NX.out, B5.out⟩
            case measure => simp [intOf]; omega
          · have NX := Seg.hid (YES.out (h) (by exact ST.out))
            clear NO YES
            go_wp2_with (go_at_call 37; refine (InB.l1In_b _ _ _ _ HK.out _).mono ?_; rintro e7 w6 ⟨rfl, rfl⟩)
            go_roundw
            case rel => exact ⟨k + 1, h, by omega, by go_num, by go_num, by omega, by omega, NX.out, B5.out⟩
            case measure => simp [intOf]; omega
        · have p12 : (op != 12) = true := by simpa using o12
          have O12 : Hid (¬ s.op = 12) := by show ¬ _; rw [OPH.out]; exact o12
          clear o12
          by_cases z2 : h < 2
          · have HC : Hid ((decide (1 ≤ h) && (decide (2 ≤ h) || decide (s.op = 12))) = false) := by show _ = _; rw [decide_eq_false (show ¬ 2 ≤ h by omega), decide_eq_false O12.out]; simp
            have RF : Hid (R = false) := NO.out (by rw [step_op OR.out EM.out HN.out HC.out]; rfl)
            clear NO YES
            go_wp2_with (go_at_call 37; refine (InB.l1In_b _ _ _ _ HK.out _).mono ?_; rintro e7 w6 ⟨rfl, rfl⟩)
            go_ret
            exact ⟨by rw [RF.out]; rfl, B5.out⟩
          · have HC : Hid ((decide (1 ≤ h) && (decide (2 ≤ h) || decide (s.op = 12))) = true) := by show _ = _; rw [decide_eq_true (show 1 ≤ h by omega), decide_eq_true (show 2 ≤ h by omega)]; rfl
            have ST : Hid (stepH s h = some (h - 1)) := by show _ = _; rw [step_op OR.out EM.out HN.out HC.out, if_neg O12.out]; rfl
            clear HC
            have NX := Seg.hid (YES.out (h - 1) (by exact ST.out))
            clear NO YES
            go_wp2_with (go_at_call 37; refine (InB.l1In_b _ _ _ _ HK.out _).mono ?_; rintro e7 w6 ⟨rfl, rfl⟩)
            go_roundw
            case rel => exact ⟨k + 1, h - 1, by omega, by go_num, by go_num, by omega, by omega, NX.out, B5.out⟩
            case measure => simp [intOf]; omega
    · have hkl : k = l.length := by omega
      have RT : Hid (R = decide (h = 1)) := by show _ = _; have := RH.out; rw [hkl, List.drop_length, runH] at this; rw [R1.out, ← this]; rfl
      have hx1 : ¬ (k : Int) < (l.length : Int) := by omega
      clear hkl
      by_cases e1 : h = 1
      · subst e1
        go_wp2
        go_ret
        exact ⟨by rw [RT.out]; rfl, BW.out⟩
      · have e2 : (h == 1) = false := by simpa using e1
        have RT2 : Hid (R = false) := by show _ = _; rw [RT.out]; exact decide_eq_false e1
        clear e1 RT
        go_wp2
        go_ret
        exact ⟨by rw [RT2.out]; rfl, BW.out⟩
end Go.Proofs.Ytkohhcjpjloaaaa.QtS
