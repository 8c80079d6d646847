/- The Statics of members, as the program asks. -/
import Derived.Test.YtfdfhhiaalbfiaaGmP
import Derived.Test.YtfdfhhiaalbfiaaNmQ
import Derived.Deep.RegionHeld3
import Derived.BigQuiet
namespace Go.Proofs.Ytfdfhhiaalbfiaa.GsI
set_option maxRecDepth 8000
open Go.RowKit Go.Maps
open Ls Lp WnP GpP GmP
open Recs (hsz below1 below2 chain)
set_option linter.unusedVariables false
def eqS (s : ByteArray) (o : Mbr) : Bool := o.sttc.toList == s.toList
set_option maxHeartbeats 1600000 in
theorem ask_any (m : Mbr) (s : ByteArray) (B2 B5 B6 : Option Addr) (c2 c5 c6 bx : Nat) (w : World) (hx : w.cell? ⟨bx, 0, none⟩ = some (.string s)) (lx : bx < w.heap.size) :
    Calls Try.prog 137 #[.agg (mrow m B2 c2 B5 c5 B6 c6), .pointer (some ⟨bx, 0, none⟩)] w fun e w' => e = .returned (.bool (eqS s m)) ∧ Below w.heap.size w w' := by
  cases hq : eqS s m with
  | true =>
    have q2 : (m.sttc.toList == s.toList) = true := hq
    go_enter Try.func137, Try.ntmps137
    go_wp2
    go_ret
    exact ⟨rfl, below1 _ _⟩
  | false =>
    have q2 : (m.sttc.toList == s.toList) = false := hq
    go_enter Try.func137, Try.ntmps137
    go_wp2
    go_ret
    exact ⟨rfl, below1 _ _⟩
set_option maxHeartbeats 1600000 in
theorem index_any (s : ByteArray) (bx : Nat) (A : Option Addr) (c m : Nat) (l : List Mbr) (g o : Nat) (F : Nat → Nat → Value) (w : World) (S : Nat → Prop) (hS : ∀ g, S g → g < w.heap.size) (O : Opn 7 EMbr w S A c l g o F) (hm : m ≤ l.length) (hn : l.length ≤ 1048576) (hx : w.cell? ⟨bx, 0, none⟩ = some (.string s)) (lx : bx < w.heap.size) :
    Calls Try.prog 136 #[.slice A m c, .func (.func 137) #[] #[.pointer (some ⟨bx, 0, none⟩)]] w fun e w' => ∃ q : Int, e = .returned (.int .i64 q) ∧ decide (0 ≤ q) = (l.take m).any (eqS s) ∧ Below w.heap.size w w' := by
  have HA := Seg.hid O
  clear O
  go_enter Try.func136, Try.ntmps136
  go_wp2_with fail
  go_loopw [8] (fun i wr => ∃ (k : Nat), k ≤ m ∧ i = .int .i64 k ∧ Hid ((l.take k).any (eqS s) = false ∧ Below w.heap.size w wr)) (fun i _ => m - (intOf i).toNat)
  case atStart => exact ⟨0, Nat.zero_le _, rfl, rfl, Below.refl _ _⟩
  case round =>
    obtain ⟨k, hk, rfl, HR⟩ := hrel
    by_cases hlt : k < m
    · obtain ⟨ea, hc, hga⟩ := HA.out.addr.resolve_left (by omega)
      have OL := HA.out.later keepsMbr hS HR.out.2
      obtain ⟨B2, c2, B5, c5, B6, c6, ⟨e0, e1, e2, e3, e4, e5, e6⟩, _, _, _⟩ := mbr_cells (i := k) (fun j hj => OL.cells k (by omega) j hj) (OL.el k (by omega))
      have TK : Hid (l.take (k + 1) = l.take k ++ [l.getD k default]) := by
        show _ = _
        rw [List.take_add_one, List.getElem?_eq_getElem (show k < l.length by omega)]
        simp [show k < l.length by omega]
      have TM : Hid (∀ x, (l.take (k + 1)).any x = true → (l.take m).any x = true) := fun x hx => by
        simp only [List.any_eq_true] at hx ⊢
        obtain ⟨y, h1, h2⟩ := hx
        refine ⟨y, ?_, h2⟩
        have : l.take (k + 1) = (l.take m).take (k + 1) := by rw [List.take_take, Nat.min_eq_left (by omega)]
        rw [this] at h1
        exact List.mem_of_mem_take h1
      have h0 : (0 : Int) ≤ (k : Int) := by omega
      have h1 : (k : Int) < (m : Int) := by omega
      have hgr : g < wr.heap.size := Nat.lt_of_lt_of_le hga HR.out.2.size
      have CA : Hid (∀ r : Mbr, Calls Try.prog 137 #[.agg (mrow r B2 c2 B5 c5 B6 c6), .pointer (some ⟨bx, 0, none⟩)] wr fun e w' => e = .returned (.bool (eqS s r)) ∧ Below wr.heap.size wr w') := fun r => ask_any r s B2 B5 B6 c2 c5 c6 bx wr ((HR.out.2.cell (p := ⟨bx, 0, none⟩) lx).trans hx) (Nat.lt_of_lt_of_le lx HR.out.2.size)
      clear OL hx
      generalize l.getD k default = r at *
      subst ea
      go_wp2_with fail
      refine (CA.out r).mono ?_
      rintro e w8 ⟨rfl, b8⟩
      have B8 := Seg.hid (chain HR.out.2 b8)
      clear b8
      cases hq : eqS s r with
      | true =>
        have Z : Hid ((l.take m).any (eqS s) = true) := TM.out _ (by rw [TK.out]; simp [hq])
        clear hq
        go_wp2
        go_ret
        exact ⟨_, rfl, by rw [Z.out]; exact decide_eq_true h0, B8.out⟩
      | false =>
        have Z : Hid ((l.take (k + 1)).any (eqS s) = false) := by show _ = _; rw [TK.out, List.any_append, HR.out.1]; simp [hq]
        clear hq
        go_wp2
        go_roundw
        case rel => exact ⟨k + 1, by omega, by go_num, Z.out, B8.out⟩
        case measure => simp [intOf]; omega
    · have hkm : k = m := by omega
      have Z : Hid ((l.take m).any (eqS s) = false) := by show _ = _; rw [← hkm]; exact HR.out.1
      clear hkm
      go_wp2
      go_ret
      exact ⟨_, rfl, by rw [Z.out]; rfl, HR.out.2⟩
def found (l : List Mbr) (m : Nat) (s : ByteArray) : Bool := !(s.toList == []) && (l.take m).any (eqS s)
set_option maxHeartbeats 1600000 in
theorem place_any (s : ByteArray) (A : Option Addr) (c m : Nat) (l : List Mbr) (g o : Nat) (F : Nat → Nat → Value) (w : World) (S : Nat → Prop) (hS : ∀ g, S g → g < w.heap.size) (O : Opn 7 EMbr w S A c l g o F) (hm : m ≤ l.length) (hn : l.length ≤ 1048576) :
    Calls Try.prog 111 #[.slice A m c, .string s] w fun e w' => ∃ q : Int, e = .returned (.tuple #[.int .i64 q, .bool (found l m s)]) ∧ Below w.heap.size w w' := by
  have HA := Seg.hid O
  clear O
  by_cases he : s.toList = []
  · have q1 : (s.toList == []) = true := by simp [he]
    have Z : Hid (found l m s = false) := by show _ = _; simp [found, he]
    clear he
    go_enter Try.func111, Try.ntmps111
    go_wp2
    go_ret2
    exact ⟨0, by rw [Z.out]; rfl, below1 _ _⟩
  · have q1 : (s.toList == []) = false := by simp [he]
    have Z : Hid (found l m s = (l.take m).any (eqS s)) := by show _ = _; simp [found, he]
    clear he
    go_enter Try.func111, Try.ntmps111
    have CI : Hid (∀ ob, (w.alloc ob).cell? ⟨w.heap.size, 0, none⟩ = some (.string s) → Calls Try.prog 136 #[.slice A m c, .func (.func 137) #[] #[.pointer (some ⟨w.heap.size, 0, none⟩)]] (w.alloc ob) fun e w' => ∃ q : Int, e = .returned (.int .i64 q) ∧ decide (0 ≤ q) = (l.take m).any (eqS s) ∧ Below (w.alloc ob).heap.size (w.alloc ob) w') := fun ob hb => index_any s w.heap.size A c m l g o F (w.alloc ob) S (fun g hg => by rw [hsz]; have := hS g hg; omega) (HA.out.later keepsMbr hS (below1 w ob)) hm hn hb (by rw [hsz]; omega)
    go_wp2_with (go_at_call 136; refine (CI.out _ (cell_of_row _ _ 0 _ _ (0, 0) (heap_alloc_new _ _))).mono ?_; rintro e w2 ⟨q, rfl, hq, b2⟩; have HQ := Seg.hid hq; have B2 := Seg.hid b2; clear hq b2)
    all_goals
      go_ret2
      exact ⟨q, by rw [Z.out, ← HQ.out]; first | rfl | simp_all, chain (below1 _ _) B2.out⟩
set_option maxHeartbeats 1600000 in
theorem staticOk_any (s : ByteArray) (w : World) (hs : s.size ≤ maxLen) : Calls Try.prog 112 #[.string s] w fun e w' => e = .returned (.bool (stO s)) ∧ w = w' := by
  by_cases he : s.toList = []
  · have q1 : (s.toList == []) = true := by simp [he]
    have Z : Hid (stO s = true) := by show _ = _; simp [stO, he]
    clear he
    go_enter Try.func112, Try.ntmps112
    go_wp2
    go_ret
    exact ⟨Seg.ret_bool Z.out.symm, rfl⟩
  · have q1 : (s.toList == []) = false := by simp [he]
    have Z : Hid (stO s = Nm.nameOk s) := by show _ = _; simp [stO, he]
    clear he
    go_enter Try.func112, Try.ntmps112
    go_wp2_with (go_at_call 53; refine (Nm.impl_q _ _ rfl _ hs).mono ?_; rintro e w2 ⟨rfl, rfl⟩)
    go_ret
    exact ⟨Seg.ret_bool Z.out.symm, rfl⟩
set_option maxHeartbeats 6400000 in
theorem statics_any (x : Value) (l : List Mbr) (w : World) (S : Nat → Prop) (hv : LAt 7 EMbr w S x l) (hS : ∀ g, S g → g < w.heap.size) (hf : szL szMbr l ≤ 1048576) :
    Calls Try.prog 74 #[x] w fun e w' => e = .returned (.bool (stats l 0)) ∧ Below w.heap.size w w' := by
  obtain ⟨A, c, g, o, F, rfl, OA, n3⟩ := opn hv hS
  have HA := Seg.hid OA
  have hn : l.length ≤ 1048576 := szL_len _ hf
  have HL : Hid (∀ i, i < l.length → szMbr (l.getD i default) ≤ 1048576) := fun i hi => szL_one _ hf hi
  clear hv OA hf n3
  go_enter Try.func74, Try.ntmps74
  go_wp2_with fail
  go_loopw [9] (fun i wr => ∃ (k : Nat), k ≤ l.length ∧ i = .int .i64 k ∧ Hid (stats l k = stats l 0 ∧ Below w.heap.size w wr)) (fun i _ => l.length - (intOf i).toNat)
  case atStart => exact ⟨0, Nat.zero_le _, rfl, rfl, Below.refl _ _⟩
  case round =>
    obtain ⟨k, hk, rfl, HR⟩ := hrel
    by_cases hlt : k < l.length
    · obtain ⟨ea, hc, hga⟩ := HA.out.addr.resolve_left (by omega)
      have hb := HR.out.2
      have OL := HA.out.later keepsMbr hS hb
      obtain ⟨B2, c2, B5, c5, B6, c6, ⟨e0, e1, e2, e3, e4, e5, e6⟩, _, _, _⟩ := mbr_cells (i := k) (fun j hj => OL.cells k (by omega) j hj) (OL.el k (by omega))
      have h0 : (0 : Int) ≤ (k : Int) := by omega
      have h1 : (k : Int) < (l.length : Int) := by omega
      have h2 : ¬ (c : Int) < (k : Int) := by omega
      have hgr : g < wr.heap.size := Nat.lt_of_lt_of_le hga hb.size
      have hsz1 := HL.out k hlt
      have NS : (l.getD k default).sttc.size ≤ maxLen := by unfold szMbr at hsz1; unfold maxLen; omega
      have ST : Hid (stats l k = (stO (l.getD k default).sttc && !found l k (l.getD k default).sttc && stats l (k + 1))) := by
        show _ = _
        rw [stats_step hlt]
        unfold stat found
        have e : ((l.take k).any fun o => sts o (l.getD k default)) = (!((l.getD k default).sttc.toList == []) && (l.take k).any (eqS (l.getD k default).sttc)) := by
          generalize l.getD k default = m
          induction l.take k with
          | nil => simp
          | cons a r ih =>
            have q : sts a m = (!(m.sttc.toList == []) && eqS m.sttc a) := by
              unfold sts eqS
              congr 1
              rw [Bool.eq_iff_iff]
              simp only [beq_iff_eq]
              exact eq_comm
            simp only [List.any_cons, ih, q]
            cases (m.sttc.toList == []) <;> simp
        rw [e]
      clear hsz1 OL hb
      generalize l.getD k default = m at *
      subst ea
      obtain ⟨wz, hwz⟩ : ∃ wz, wr.alloc (.cells (mrow m B2 c2 B5 c5 B6 c6) 67 (0, 0)) = wz := ⟨_, rfl⟩
      have RZ : Hid (wz.heap[wr.heap.size]? = some (.cells (mrow m B2 c2 B5 c5 B6 c6) 67 (0, 0))) := by show _ = _; rw [← hwz]; exact heap_alloc_new _ _
      have BR : Hid (Below wr.heap.size wr wz) := by show Below _ _ _; rw [← hwz]; exact below1 wr _
      have BI : Hid (Below w.heap.size w wz) := chain HR.out.2 BR.out
      have hlz : wr.heap.size < wz.heap.size := (Array.getElem?_eq_some_iff.1 RZ.out).1
      have CP : Hid (∀ wy, Below w.heap.size w wy → Calls Try.prog 111 #[.slice (some ⟨g, o, none⟩) k c, .string m.sttc] wy fun e w' => ∃ q : Int, e = .returned (.tuple #[.int .i64 q, .bool (found l k m.sttc)]) ∧ Below wy.heap.size wy w') := fun wy b => place_any m.sttc _ c k l g o F wy S (fun g hg => Nat.lt_of_lt_of_le (hS g hg) b.size) (HA.out.later keepsMbr hS b) hk hn
      go_upto_region 4 with fail
      try rw [hwz]
      clear hwz e0 e1 e2 e3 e4 e5 e6
      have p1 : wz.cell? ⟨wr.heap.size, 1, none⟩ = some (.string m.sttc) := cell_of_row wz _ 1 _ _ (0, 0) RZ.out
      have hkc : (k : Int) ≤ (c : Int) := by omega
      have hkc' : k ≤ c := by omega
      have hc0 : ¬ c = 0 := by omega
      go_region_held3 (fun w' => w'.cell? ⟨wr.heap.size, 1, none⟩ = some (.string m.sttc)) (first | exact p1 | exact r1 | go_keep)
        (first | (go_at_call 111; refine (CP.out _ (by exact ⟨BI.out.os, BI.out.tape, BI.out.output, BI.out.size, BI.out.block⟩)).mono ?_; rintro e w8 ⟨qq, rfl, b8⟩; have B8 : Hid (Below wz.heap.size wz w8) := ⟨b8.os, b8.tape, b8.output, b8.size, b8.block⟩; clear b8; have r1 := (B8.out.cell (p := ⟨wr.heap.size, 1, none⟩) hlz).trans p1))
      have BJ := Seg.hid (chain BI.out B8.out)
      clear p1 CP
      cases hf : found l k m.sttc with
      | true =>
        have Z : Hid (stats l 0 = false) := by show _ = _; rw [← HR.out.1, ST.out, hf]; simp
        clear hf
        go_wp2
        go_ret
        exact ⟨Seg.ret_bool Z.out.symm, BJ.out⟩
      | false =>
      cases ho : stO m.sttc with
      | false =>
        have Z : Hid (stats l 0 = false) := by show _ = _; rw [← HR.out.1, ST.out, ho]; simp
        have CO : Hid (∀ wy, Calls Try.prog 112 #[.string m.sttc] wy fun e w' => e = .returned (.bool false) ∧ wy = w') := fun wy => by rw [← ho]; exact staticOk_any _ wy NS
        clear hf ho
        go_wp2_with (go_at_call 112; refine (CO.out _).mono ?_; rintro e w9 ⟨rfl, rfl⟩)
        go_ret
        exact ⟨Seg.ret_bool Z.out.symm, BJ.out⟩
      | true =>
        have Z : Hid (stats l (k + 1) = stats l 0) := by show _ = _; rw [← HR.out.1, ST.out, ho, hf]; simp
        have CO : Hid (∀ wy, Calls Try.prog 112 #[.string m.sttc] wy fun e w' => e = .returned (.bool true) ∧ wy = w') := fun wy => by rw [← ho]; exact staticOk_any _ wy NS
        clear hf ho
        go_wp2_with (go_at_call 112; refine (CO.out _).mono ?_; rintro e w9 ⟨rfl, rfl⟩)
        go_roundw
        case rel => exact ⟨k + 1, by omega, by go_num, Z.out, BJ.out⟩
        case measure => simp [intOf]; omega
    · have HE := HR.out.1
      rw [stats_end (by omega)] at HE
      have HE' := Seg.hid HE
      clear HE
      go_wp2
      go_ret
      exact ⟨Seg.ret_bool HE'.out, HR.out.2⟩
end Go.Proofs.Ytfdfhhiaalbfiaa.GsI
