/- StoreOk of the program: its logs, one Txn, the search for one that clashes. -/
import Derived.Test.YtdhicmbfknagjaaSoP
import Derived.Test.YtdhicmbfknagjaaLgK
import Derived.Deep.RegionHeld3
namespace Go.Proofs.Ytdhicmbfknagjaa.SoI
set_option maxRecDepth 8000
open Go.RowKit
open Ls SoP
open Recs (hsz below1 below2 chain chainD)
open SegW (Sg)
open LogW (Lg LogAt)
open LgP (logOk)
open Asc (asc)
open Lp (inR Opn opn drop_cons inR_true)
set_option linter.unusedVariables false
set_option maxHeartbeats 1600000 in
theorem logs_any (v : Value) (l : List Lg) (t : Bool) (w : World) (lo b : Nat) (hv : LAt 4 ELg w (seg lo b) v l) (hb : b ≤ w.heap.size) (hf : szL szLg l ≤ 1048576) (ht : logs l = t) :
    Calls Try.prog 40 #[v] w fun e w' => e = .returned (.bool t) ∧ Below w.heap.size w w' := by
  have hS : ∀ g, seg lo b g → g < w.heap.size := fun g hg => Nat.lt_of_lt_of_le hg.2 hb
  obtain ⟨A, c, g, o, F, rfl, OA, n0⟩ := opn hv hS
  have HA := Seg.hid OA
  have hn : l.length ≤ 1048576 := szL_len _ hf
  have L0 : Hid (∀ i, i < l.length → szLg (l.getD i default) ≤ 1048576) := fun i hi => szL_one (l := 1048576) szLg hf hi
  clear hv OA hf n0
  go_enter Try.func40, Try.ntmps40
  go_wp2_with fail
  cases h1 : inR 1 l.length 12 with
  | false =>
    refine (InB.within_b _ _ _ false h1 _).mono ?_
    rintro e wq ⟨rfl, rfl⟩
    have Z : Hid (false = t) := by show _ = _; rw [← ht]; simp [logs, h1]
    clear h1
    go_wp2
    go_ret
    exact ⟨Seg.ret_bool Z.out, Below.refl _ _⟩
  | true =>
  refine (InB.within_b _ _ _ true h1 _).mono ?_
  rintro e wq ⟨rfl, rfl⟩
  have HT : Hid (lgs l = t) := by show _ = _; rw [← ht]; simp [logs, h1]
  clear h1 ht
  go_wp2_with fail
  go_loopw [11] (fun i wr => ∃ (k : Nat), k ≤ l.length ∧ i = .int .i64 k ∧ Hid (lgs (l.drop k) = t ∧ Below w.heap.size w wr)) (fun i _ => l.length - (intOf i).toNat)
  case atStart => exact ⟨0, Nat.zero_le _, rfl, HT.out, Below.refl _ _⟩
  case round =>
    obtain ⟨k, hk, rfl, HR⟩ := hrel
    by_cases hlt : k < l.length
    · obtain ⟨ea, hc, hga⟩ := HA.out.addr.resolve_left (by omega)
      have OL := HA.out.later keepsLg hS HR.out.2
      obtain ⟨A3, c3, ⟨d0, d1, d2, d3⟩, LA⟩ := lg_cells (i := k) (fun j hj => OL.cells k hlt j hj) (OL.el k hlt)
      have LA' := Seg.hid LA
      have VF := Seg.hid (OldL.few_log (L0.out k hlt))
      have HD := HR.out.1
      rw [drop_cons hlt] at HD
      have HD' := Seg.hid HD
      have h0 : (0 : Int) ≤ (k : Int) := by omega
      have h1 : (k : Int) < (l.length : Int) := by omega
      have hgr : g < wr.heap.size := Nat.lt_of_lt_of_le hga HR.out.2.size
      have hbr : b ≤ wr.heap.size := Nat.le_trans hb HR.out.2.size
      clear OL LA HD
      generalize l.getD k default = r at *
      subst ea
      go_upto_region 6 with fail
      have LA2 : Hid (LogAt (wr.alloc (.cells #[.int .i64 r.start, .int .i64 r.next, .int .i64 r.roll, .slice A3 r.segs.length c3] 70 (0, 0))) lo b (.agg #[.int .i64 r.start, .int .i64 r.next, .int .i64 r.roll, .slice A3 r.segs.length c3]) r) := LA'.out.below ((below1 wr _).mono hbr)
      have BI : Hid (Below w.heap.size w (wr.alloc (.cells #[.int .i64 r.start, .int .i64 r.next, .int .i64 r.roll, .slice A3 r.segs.length c3] 70 (0, 0)))) := chain HR.out.2 (below1 wr _)
      have RI : Hid ((wr.alloc (.cells #[.int .i64 r.start, .int .i64 r.next, .int .i64 r.roll, .slice A3 r.segs.length c3] 70 (0, 0))).heap[wr.heap.size]? = some (.cells #[.int .i64 r.start, .int .i64 r.next, .int .i64 r.roll, .slice A3 r.segs.length c3] 70 (0, 0))) := heap_alloc_new _ _
      have hbi : b ≤ (wr.alloc (.cells #[.int .i64 r.start, .int .i64 r.next, .int .i64 r.roll, .slice A3 r.segs.length c3] 70 (0, 0))).heap.size := by rw [hsz]; omega
      generalize wr.alloc (.cells #[.int .i64 r.start, .int .i64 r.next, .int .i64 r.roll, .slice A3 r.segs.length c3] 70 (0, 0)) = wi at *
      clear d0 d1 d2 d3 LA'
      go_wp2_with (refine wpList_load_row rfl 70 _ rfl wr.heap.size rfl _ _ _ _ RI.out Try.underlying70 rfl infoLg ?_)
      refine (LgI.impl_any _ r wi lo b LA2.out hbi VF.out).mono ?_
      rintro e w8 ⟨rfl, b8⟩
      have B8 := Seg.hid (chain BI.out b8)
      clear b8
      cases hl : logOk r with
      | false =>
        have Z : Hid (false = t) := by show _ = _; rw [← HD'.out]; simp [lgs, hl]
        clear hl
        go_wp2
        go_ret
        exact ⟨Seg.ret_bool Z.out, B8.out⟩
      | true =>
        have Z : Hid (lgs (l.drop (k + 1)) = t) := by show _ = _; rw [← HD'.out]; simp [lgs, hl]
        clear hl
        go_wp2
        go_roundw
        case rel => exact ⟨k + 1, by omega, by go_num, Z.out, B8.out⟩
        case measure => simp [intOf]; omega
    · have HE := HR.out.1
      rw [List.drop_eq_nil_of_le (by omega)] at HE
      have HE' := Seg.hid HE
      clear HE
      go_wp2
      go_ret
      exact ⟨Seg.ret_bool HE'.out, HR.out.2⟩
set_option maxHeartbeats 1600000 in
theorem clash_any (a b : Txn) (A B : Option Addr) (c d : Nat) (w : World) :
    Calls Try.prog 79 #[.agg #[.string a.name, .int .i64 a.producer, .int .i64 a.turn, .bool a.opn, .slice A a.parts.length c], .agg #[.string b.name, .int .i64 b.producer, .int .i64 b.turn, .bool b.opn, .slice B b.parts.length d]] w fun e w' => e = .returned (.bool (clash a b)) ∧ Below w.heap.size w w' := by
  by_cases h1 : a.name.toList = b.name.toList
  · have Z : Hid (clash a b = true) := by show _ = _; simp [clash, h1]
    go_enter Try.func79, Try.ntmps79
    go_wp2
    go_ret
    exact ⟨Seg.ret_bool Z.out.symm, below2 _ _ _⟩
  · have Z : Hid (clash a b = decide (a.producer = b.producer)) := by show _ = _; simp [clash, h1]
    go_enter Try.func79, Try.ntmps79
    go_wp2
    go_ret
    exact ⟨Seg.ret_bool (by rw [Z.out, Bool.eq_iff_iff]; simp [h1]), below2 _ _ _⟩
set_option maxHeartbeats 1600000 in
theorem index_any (tk : Txn) (A4 : Option Addr) (c4 : Nat) (A : Option Addr) (c m : Nat) (l : List Txn) (g o : Nat) (F : Nat → Nat → Value) (w : World) (S : Nat → Prop) (hS : ∀ g, S g → g < w.heap.size) (O : Opn 5 ETxn w S A c l g o F) (hm : m ≤ l.length) (hn : l.length ≤ 1048576) :
    Calls Try.prog 113 #[.slice A m c, .func (.func 79) #[.agg #[.string tk.name, .int .i64 tk.producer, .int .i64 tk.turn, .bool tk.opn, .slice A4 tk.parts.length c4]] #[]] w fun e w' => ∃ q : Int, e = .returned (.int .i64 q) ∧ decide (0 ≤ q) = (l.take m).any (clash tk) ∧ Below w.heap.size w w' := by
  have HA := Seg.hid O
  clear O
  go_enter Try.func113, Try.ntmps113
  go_wp2_with fail
  go_loopw [8] (fun i wr => ∃ (k : Nat), k ≤ m ∧ i = .int .i64 k ∧ Hid ((l.take k).any (clash tk) = false ∧ Below w.heap.size w wr)) (fun i _ => m - (intOf i).toNat)
  case atStart => exact ⟨0, Nat.zero_le _, rfl, rfl, Below.refl _ _⟩
  case round =>
    obtain ⟨k, hk, rfl, HR⟩ := hrel
    by_cases hlt : k < m
    · obtain ⟨ea, hc, hga⟩ := HA.out.addr.resolve_left (by omega)
      have OL := HA.out.later keepsTxn hS HR.out.2
      obtain ⟨B4, d4, ⟨e0, e1, e2, e3, e4⟩, _⟩ := txn_cells (i := k) (fun j hj => OL.cells k (by omega) j hj) (OL.el k (by omega))
      have TK : Hid (l.take (k + 1) = l.take k ++ [l.getD k default]) := by
        show _ = _
        rw [List.take_add_one, List.getElem?_eq_getElem (show k < l.length by omega)]
        simp [show k < l.length by omega]
      have TM : Hid (∀ x, (l.take (k + 1)).any x = true → (l.take m).any x = true) := fun x hx => by
        simp only [List.any_eq_true] at hx ⊢
        obtain ⟨y, h1, h2⟩ := hx
        refine ⟨y, ?_, h2⟩
        have : l.take (k + 1) = (l.take m).take (k + 1) := by rw [List.take_take, Nat.min_eq_left (by omega)]
        rw [this] at h1
        exact List.mem_of_mem_take h1
      have h0 : (0 : Int) ≤ (k : Int) := by omega
      have h1 : (k : Int) < (m : Int) := by omega
      have hgr : g < wr.heap.size := Nat.lt_of_lt_of_le hga HR.out.2.size
      clear OL
      generalize l.getD k default = r at *
      subst ea
      go_wp2_with fail
      refine (clash_any tk r A4 B4 c4 d4 wr).mono ?_
      rintro e w8 ⟨rfl, b8⟩
      have B8 := Seg.hid (chain HR.out.2 b8)
      clear b8
      cases hq : clash tk r with
      | true =>
        have Z : Hid ((l.take m).any (clash tk) = true) := TM.out _ (by rw [TK.out]; simp [hq])
        clear hq
        go_wp2
        go_ret
        exact ⟨_, rfl, by rw [Z.out]; simp, B8.out⟩
      | false =>
        have Z : Hid ((l.take (k + 1)).any (clash tk) = false) := by show _ = _; rw [TK.out, List.any_append, HR.out.1]; simp [hq]
        clear hq
        go_wp2
        go_roundw
        case rel => exact ⟨k + 1, by omega, by go_num, Z.out, B8.out⟩
        case measure => simp [intOf]; omega
    · have hk' : k = m := by omega
      subst hk'
      go_wp2
      go_ret
      exact ⟨_, rfl, by rw [HR.out.1]; simp, HR.out.2⟩
theorem contains_any (tk : Txn) (A4 : Option Addr) (c4 : Nat) (A : Option Addr) (c m : Nat) (l : List Txn) (g o : Nat) (F : Nat → Nat → Value) (w : World) (S : Nat → Prop) (hS : ∀ g, S g → g < w.heap.size) (O : Opn 5 ETxn w S A c l g o F) (hm : m ≤ l.length) (hn : l.length ≤ 1048576) :
    Calls Try.prog 78 #[.slice A m c, .func (.func 79) #[.agg #[.string tk.name, .int .i64 tk.producer, .int .i64 tk.turn, .bool tk.opn, .slice A4 tk.parts.length c4]] #[]] w fun e w' => e = .returned (.bool ((l.take m).any (clash tk))) ∧ Below w.heap.size w w' := by
  go_enter Try.func78, Try.ntmps78
  go_wp2_with fail
  refine (index_any tk A4 c4 A c m l g o F w S hS O hm hn).mono ?_
  rintro e w1 ⟨q, rfl, hq, b1⟩
  have HQ := Seg.hid hq
  have B1 := Seg.hid b1
  clear hq b1
  go_wp2
  go_ret
  exact ⟨Seg.ret_bool HQ.out, B1.out⟩
set_option maxHeartbeats 1600000 in
theorem txn_any (u : Sto) (tk : Txn) (A0 A1 A4 : Option Addr) (c0 c1 c4 : Nat) (t : Bool) (w : World) (S : Nat → Prop) (hS : ∀ g, S g → g < w.heap.size) (hp : IntsAt w S (.slice A4 tk.parts.length c4) tk.parts) (hn : tk.name.size ≤ maxLen) (hl : 1 ≤ u.logs.length ∧ u.logs.length ≤ 12) (hu : 0 ≤ u.used ∧ u.used ≤ 1000000000) (ht : txOk u.logs.length u.used tk = t) :
    Calls Try.prog 77 #[.agg #[.slice A0 u.logs.length c0, .slice A1 u.txns.length c1, .int .i64 u.used], .agg #[.string tk.name, .int .i64 tk.producer, .int .i64 tk.turn, .bool tk.opn, .slice A4 tk.parts.length c4]] w fun e w' => e = .returned (.bool t) ∧ Below w.heap.size w w' := by
  have HP : Hid (IntsAt ((w.alloc (.cells #[.slice A0 u.logs.length c0, .slice A1 u.txns.length c1, .int .i64 u.used] 31 (0, 0))).alloc (.cells #[.string tk.name, .int .i64 tk.producer, .int .i64 tk.turn, .bool tk.opn, .slice A4 tk.parts.length c4] 72 (0, 0))) S (.slice A4 tk.parts.length c4) tk.parts) := hp.below keepsI (below2 w _ _) hS
  have hw : IntKind.i64.wrap (u.used - 1) = u.used - 1 := by rw [IntKind.wrap_i64] <;> omega
  have hw2 : IntKind.i64.wrap ((u.logs.length : Int) - 1) = (u.logs.length : Int) - 1 := by rw [IntKind.wrap_i64] <;> omega
  clear hp
  go_enter Try.func77, Try.ntmps77
  go_wp2_with fail
  refine (Nm.impl_any tk.name _ hn).mono ?_
  rintro e wq ⟨rfl, rfl⟩
  cases h1 : Nm.nameOk tk.name with
  | false =>
    have Z : Hid (false = t) := by show _ = _; rw [← ht]; simp [txOk, front, h1]
    clear h1
    go_wp2
    go_ret
    exact ⟨Seg.ret_bool Z.out, below2 _ _ _⟩
  | true =>
  go_wp2_with fail
  cases h2 : inR 0 tk.producer (u.used - 1) with
  | false =>
    refine (InB.within_b _ _ _ false h2 _).mono ?_
    rintro e wq ⟨rfl, rfl⟩
    have Z : Hid (false = t) := by show _ = _; rw [← ht]; simp [txOk, front, h2]
    clear h1 h2
    go_wp2
    go_ret
    exact ⟨Seg.ret_bool Z.out, below2 _ _ _⟩
  | true =>
  refine (InB.within_b _ _ _ true h2 _).mono ?_
  rintro e wq ⟨rfl, rfl⟩
  go_wp2_with fail
  cases h3 : inR 0 tk.turn 1000 with
  | false =>
    refine (InB.within_b _ _ _ false h3 _).mono ?_
    rintro e wq ⟨rfl, rfl⟩
    have Z : Hid (false = t) := by show _ = _; rw [← ht]; simp [txOk, front, h3]
    clear h1 h2 h3
    go_wp2
    go_ret
    exact ⟨Seg.ret_bool Z.out, below2 _ _ _⟩
  | true =>
  refine (InB.within_b _ _ _ true h3 _).mono ?_
  rintro e wq ⟨rfl, rfl⟩
  have HT : Hid ((asc ((u.logs.length : Int) - 1) (-1) tk.parts && empt tk) = t) := by show _ = _; rw [← ht]; simp [txOk, front, h1, h2, h3]
  clear h1 h2 h3 ht
  go_wp2_with fail
  cases h4 : asc ((u.logs.length : Int) - 1) (-1) tk.parts with
  | false =>
    refine (Asc.asc_any _ tk.parts _ false _ S HP.out (by omega) h4).mono ?_
    rintro e wq ⟨rfl, rfl⟩
    have Z : Hid (false = t) := by show _ = _; rw [← HT.out]; simp [h4]
    clear h4
    go_wp2
    go_ret
    exact ⟨Seg.ret_bool Z.out, below2 _ _ _⟩
  | true =>
    refine (Asc.asc_any _ tk.parts _ true _ S HP.out (by omega) h4).mono ?_
    rintro e wq ⟨rfl, rfl⟩
    have Z : Hid (empt tk = t) := by show _ = _; rw [← HT.out]; simp [h4]
    clear h4 HT
    cases h5 : tk.opn with
    | true =>
      have Y : Hid (true = t) := by show _ = _; rw [← Z.out]; simp [empt, h5]
      rw [h5] at *
      go_wp2
      go_ret
      exact ⟨Seg.ret_bool Y.out, below2 _ _ _⟩
    | false =>
      have Y : Hid (decide (tk.parts.length = 0) = t) := by show _ = _; rw [← Z.out]; simp [empt, h5]
      rw [h5] at *
      go_wp2
      go_ret
      exact ⟨Seg.ret_bool (by rw [← Y.out, Bool.eq_iff_iff]; simp), below2 _ _ _⟩
end Go.Proofs.Ytdhicmbfknagjaa.SoI
