/- The model's Reckon. -/
import Derived.Test.YtclkcnkjjoolcaaRkP
import Derived.Test.YtclkcnkjjoolcaaQrP
import Derived.Test.YtclkcnkjjoolcaaQtS
import Derived.Test.YtclkcnkjjoolcaaQuS
import Derived.Test.YtclkcnkjjoolcaaQdS
import Derived.Test.YtclkcnkjjoolcaaHdK
import Derived.Deep.AppendLies
import Derived.Deep.RegionHeld3
import Derived.Deep.Cut
namespace Go.Proofs.Ytclkcnkjjoolcaa.RkS
set_option maxRecDepth 8000
open Go.RowKit
open Ls Lp QyP QsP QtP QuP QdP QrP RkP
open Recs (hsz below1 below2 chain)
set_option linter.unusedVariables false
theorem infoIn : (Try.prog.info? 3).map (fun i => (i.zero, i.size, i.bytes)) = some (some (.int .i64 0), 1, 8) := by kernel_rfl
theorem int_at {w w' : World} {S : Nat → Prop} {A : Option Addr} {c : Nat} {us : List Int} {g o : Nat} {F : Nat → Nat → Value} (h : Opn 1 EI w S A c us g o F) (hb : w'.heap[g]? = w.heap[g]?) {k : Nat} (hk : k < us.length) : w'.cell? ⟨g, o + k, none⟩ = some (.int .i64 (us.getD k default)) := by
  have e : F k 0 = .int .i64 (us.getD k default) := h.el k hk
  have c := h.cells k hk 0 (by omega)
  rw [e] at c
  rw [World.cell?_of_block (w := w) (a := ⟨g, o + k, none⟩) hb]
  simpa using c
theorem in_of {n : Int} (h : -1000000000000000 ≤ n ∧ n ≤ 1000000000000000) : inM n = true := by
  unfold inM inR
  rw [decide_eq_true h.1, decide_eq_true h.2]; rfl
theorem do_in {op a b : Int} (ia : inM a = true) (ib : inM b = true) : inM (doS op a b) = true := by
  have ha := inR_true ia
  unfold doS
  split
  · exact kept_in _
  split
  · exact kept_in _
  split
  · unfold prodP
    split
    · rfl
    · next h0 =>
      split
      · rfl
      · next h1 => exact in_of (prod_le (fun e => h0 (.inr e)) h1)
  split
  · split
    · rfl
    · next hb => exact in_of (QdS.tdiv_in ha hb)
  split
  · split
    · rfl
    · exact in_of (QdS.tmod_in ha)
  split
  · exact b01_in _
  split
  · exact b01_in _
  split
  · exact b01_in _
  · exact b01_in _
theorem all_at9 {st : List Int} {p : Int → Bool} {j : Nat} (h : st.all p = true) (hj : j < st.length) : p (st.getD j 0) = true := by
  have := List.all_eq_true.1 h st[j] (List.getElem_mem hj)
  simpa [hj] using this
structure Rs (w wr : World) (b0 : Nat) (l : List Stp) (cols : List ByteArray) (row : List Int) (k : Nat) (v : Value) (st : List Int) : Prop where
  le : k ≤ l.length
  few : st.length ≤ k
  lie : NRow wr b0 v st
  good : endH (runH (l.drop k) st.length) = true
  val : runV cols row (l.drop k) st = runV cols row l []
  inm : st.all inM = true
  bel : Below w.heap.size w wr
  siz : b0 ≤ wr.heap.size
set_option maxHeartbeats 25600000 in
theorem spec_any (v z x : Value) (l : List Stp) (cols : List ByteArray) (row : List Int) (w : World) (S : Nat → Prop) (hv : LAt 3 EStp w S v l) (hc : LAt 1 EStr w S z cols) (hr : LAt 1 EI w S x row) (hS : ∀ g, S g → g < w.heap.size) (hf : szL szStp l ≤ 1048576) :
    Calls Try.prog 7 #[v, z, x] w fun e w' => e = .returned (.tuple #[.int .i64 (reckon l cols row), .bool (recOk l cols row)]) ∧ Below w.heap.size w w' := by
  have HV := Seg.hid hv
  have HCL := Seg.hid hc
  obtain ⟨A, c, g, o, F, rfl, OP, hn⟩ := opn hv hS
  have HO := Seg.hid OP
  obtain ⟨A1, c1, g1, o1, F1, rfl, OP1, hn1⟩ := opn hc hS
  have HO1 := Seg.hid OP1
  obtain ⟨A2, c2, g2, o2, F2, rfl, OP2, hn2⟩ := opn hr hS
  have HO2 := Seg.hid OP2
  clear hv hc hr OP OP1 OP2
  have CT : Hid (Calls Try.prog 17 #[.slice A l.length c] w fun e w' => e = .returned (.bool (stepsOk l)) ∧ Below w.heap.size w w') := QtS.steps_any _ l w S HV.out hS hf
  have CS : Hid (∀ wx, Below w.heap.size w wx → Calls Try.prog 18 #[.slice A l.length c, .slice A1 cols.length c1] wx fun e w' => e = .returned (.bool (sees l cols)) ∧ wx = w') := fun wx b => QuS.sees_any _ _ l cols wx S (LAt.below keepsStp HV.out b hS) (LAt.below keepsStr HCL.out b hS) (fun y hy => Nat.lt_of_lt_of_le (hS y hy) b.size)
  obtain ⟨i0, hi, hz0, hz1, hz2⟩ := info_parts infoIn
  obtain ⟨RV, hRV⟩ : ∃ R, reckon l cols row = R := ⟨_, rfl⟩
  obtain ⟨RB, hRB⟩ : ∃ R, recOk l cols row = R := ⟨_, rfl⟩
  rw [hRV, hRB]
  unfold reckon at hRV
  rw [hRB] at hRV
  unfold recOk at hRB
  have HRV := Seg.hid hRV
  have HRB := Seg.hid hRB
  have BAD : Hid (RB = false → RV = 0) := fun h => by rw [← HRV.out, h]; rfl
  clear hRV hRB hf
  go_enter Try.func7, Try.ntmps7
  cases k1 : stepsOk l with
  | false =>
    have RF : Hid (RB = false) := by show _ = _; rw [← HRB.out, k1]; rfl
    rw [k1] at CT
    clear k1
    go_wp2_with (go_at_call 17; refine CT.out.mono ?_; rintro e w1 ⟨rfl, b1⟩; have B1 := Seg.hid b1; clear b1)
    go_ret2
    exact ⟨by rw [RF.out, BAD.out RF.out]; rfl, B1.out⟩
  | true =>
  have K1 := Seg.hid k1
  rw [k1] at CT
  clear k1
  by_cases k2 : cols.length = row.length
  case neg =>
    have RF : Hid (RB = false) := by show _ = _; rw [← HRB.out, decide_eq_false k2, Bool.false_and, Bool.and_false]
    have b2 : ((cols.length : Int) != (row.length : Int)) = true := by simp; omega
    clear k2
    go_wp2_with (go_at_call 17; refine CT.out.mono ?_; rintro e w1 ⟨rfl, b1⟩; have B1 := Seg.hid b1; clear b1)
    go_ret2
    exact ⟨by rw [RF.out, BAD.out RF.out]; rfl, B1.out⟩
  have b2 : ((cols.length : Int) != (row.length : Int)) = false := by simp; omega
  have K2 := Seg.hid k2
  clear k2
  cases k3 : sees l cols with
  | false =>
    have RF : Hid (RB = false) := by show _ = _; rw [← HRB.out, k3, Bool.false_and, Bool.and_false, Bool.and_false]
    rw [k3] at CS
    clear k3
    go_wp2_with (first | (go_at_call 17; refine CT.out.mono ?_; rintro e w1 ⟨rfl, b1⟩; have B1 := Seg.hid b1; clear b1) | (go_at_call 18; refine (CS.out _ B1.out).mono ?_; rintro e w2 ⟨rfl, rfl⟩))
    go_ret2
    exact ⟨by rw [RF.out, BAD.out RF.out]; rfl, B1.out⟩
  | true =>
  have K3 := Seg.hid k3
  rw [k3] at CS
  clear k3
  have RB1 : Hid (RB = row.all inM) := by show _ = _; rw [← HRB.out, K1.out, decide_eq_true K2.out, K3.out]; rfl
  go_upto_region 3 with (first | (go_at_call 17; refine CT.out.mono ?_; rintro e w1 ⟨rfl, b1⟩; have B1 := Seg.hid b1; clear b1) | (go_at_call 18; refine (CS.out _ B1.out).mono ?_; rintro e w2 ⟨rfl, rfl⟩))
  clear b2
  go_wp2
  go_loop [8] (fun i => ∃ k : Nat, k ≤ row.length ∧ i = .int .i64 k ∧ Hid ((row.take k).all inM = true)) (fun i => row.length - (intOf i).toNat)
  case atStart => exact ⟨0, Nat.zero_le _, rfl, by show _ = _; simp⟩
  case round =>
  obtain ⟨k, hk, rfl, HG⟩ := hrel
  by_cases hlt : k < row.length
  · obtain ⟨ea, hcc, hgw⟩ := HO2.out.addr.resolve_left (by omega)
    subst ea
    have d0 := int_at HO2.out (B1.out.block g2 hgw) hlt
    have h0 : (0 : Int) ≤ (k : Int) := by omega
    have h1 : (k : Int) < (row.length : Int) := by omega
    have NX : Hid (inM (row.getD k 0) = true → (row.take (k + 1)).all inM = true) := all_next inM row k hlt HG.out
    have BX : Hid (inM (row.getD k 0) = false → row.all inM = false) := all_bad inM row k hlt
    generalize row.getD k 0 = n at *
    cases hy : inM n with
    | true =>
      have NY := Seg.hid (NX.out hy)
      have HY : Hid (inR (-1000000000000000) n 1000000000000000 = true) := hy
      clear hy NX BX
      go_wp2_with (go_at_call 19; refine (InB.l1In_b _ _ _ _ HY.out _).mono ?_; rintro e w5 ⟨rfl, rfl⟩)
      go_round
      case rel => exact ⟨k + 1, by omega, by go_num, NY.out⟩
      case measure => simp [intOf]; omega
    | false =>
      have RF : Hid (RB = false) := by show _ = _; rw [RB1.out, BX.out hy]
      have HY : Hid (inR (-1000000000000000) n 1000000000000000 = false) := hy
      clear hy NX BX
      go_wp2_with (go_at_call 19; refine (InB.l1In_b _ _ _ _ HY.out _).mono ?_; rintro e w5 ⟨rfl, rfl⟩)
      go_ret2
      exact ⟨by rw [RF.out, BAD.out RF.out]; rfl, B1.out⟩
  have hkl : k = row.length := by omega
  have RT : Hid (RB = true) := by show _ = _; have := HG.out; rw [hkl, List.take_length] at this; rw [RB1.out, this]
  have RA : Hid (row.all inM = true) := by show _ = _; rw [← RB1.out]; exact RT.out
  have RVT : Hid (RV = (runV cols row l []).getD 0 0) := by show _ = _; rw [← HRV.out, RT.out, if_pos rfl]
  have hx1 : ¬ (k : Int) < (row.length : Int) := by omega
  clear hkl HG hlt HRV HRB BAD
  go_upto_region 9 with fail
  obtain ⟨w3, hw3⟩ : ∃ w3, w1.alloc (.cells #[] 3 (0, 0)) = w3 := ⟨_, rfl⟩
  have B3 : Hid (Below w.heap.size w w3) := by show Below _ _ _; rw [← hw3]; exact chain B1.out (below1 _ _)
  have O3 : Hid (NRow w3 w1.heap.size (.slice (some ⟨w1.heap.size, 0, none⟩) 0 0) []) := by
    show NRow _ _ _ _
    rw [← hw3]
    exact ⟨rfl, .inr ⟨w1.heap.size, 0, #[], rfl, Nat.le_refl _, heap_alloc_new _ _, by simp, by unfold maxLen; omega, by simp, by simp⟩⟩
  have s3 : w1.heap.size ≤ w3.heap.size := by rw [← hw3, hsz]; omega
  try rw [hw3]
  clear hw3
  have l60 : l.length ≤ 60 := by have := K1.out; simp only [stepsOk, Bool.and_eq_true, decide_eq_true_eq] at this; exact this.1
  have E0 : Hid (endH (runH l 0) = true) := by show _ = _; have := K1.out; simp only [stepsOk, Bool.and_eq_true] at this; exact this.2
  go_wp2
  go_loopw [9, 10] (fun u i wr => ∃ (k : Nat) (st : List Int), i = .int .i64 k ∧ Rs w wr w1.heap.size l cols row k u st) (fun _ i _ => l.length - (intOf i).toNat)
  case atStart => exact ⟨0, [], rfl, Nat.zero_le _, Nat.zero_le _, O3.out, E0.out, rfl, rfl, B3.out, s3⟩
  case round =>
    clear B3 O3 s3
    obtain ⟨k, st, rfl, SS⟩ := hrel
    obtain ⟨u, hu⟩ : ∃ u, u = u9 := ⟨_, rfl⟩
    rw [← hu] at SS ⊢
    clear hu
    have hk := SS.le
    have hfew := SS.few
    have RW := Seg.hid SS.lie
    have GW := Seg.hid SS.good
    have VW := Seg.hid SS.val
    have MW := Seg.hid SS.inm
    have BW := Seg.hid SS.bel
    have sw := SS.siz
    clear SS
    by_cases hlt : k < l.length
    · obtain ⟨ea, hcc, hgw⟩ := HO.out.addr.resolve_left (by omega)
      subst ea
      obtain ⟨d0, d1, d2⟩ := stp_at HO.out hS BW.out hlt
      have h0 : (0 : Int) ≤ (k : Int) := by omega
      have h1 : (k : Int) < (l.length : Int) := by omega
      obtain ⟨h', hst, hgd⟩ := run_inv hlt GW.out
      have CASE := Seg.hid (step_inv hst)
      have G2 := Seg.hid hgd
      have V2 : Hid (runV cols row (l.drop (k + 1)) (stepV cols row (l.getD k default) st) = runV cols row l []) := by show _ = _; rw [← VW.out, run_v hlt]
      have SE : Hid ((l.getD k default).op = 2 → hasT cols (l.getD k default).name = true) := fun h => by
        have h2 := List.all_eq_true.1 K3.out (l.getD k default) (by simp [hlt])
        simp only [see, h, decide_true, Bool.not_true, Bool.false_or] at h2
        exact h2
      clear hst hgd GW VW
      generalize l.getD k default = s at *
      obtain ⟨op, hop⟩ : ∃ op, s.op = op := ⟨_, rfl⟩
      obtain ⟨nu, hnu⟩ : ∃ nu, s.num = nu := ⟨_, rfl⟩
      obtain ⟨nm, hnm⟩ : ∃ nm, s.name = nm := ⟨_, rfl⟩
      rw [hop] at d0 CASE SE
      rw [hnu] at d1 CASE
      rw [hnm] at d2 SE
      unfold stepV at V2
      rw [hop, hnu, hnm] at V2
      clear hop hnu hnm
      obtain ⟨w5, hw5⟩ : ∃ w5, wr.alloc (.cells #[.int .i64 op, .int .i64 nu, .string nm] 32 (0, 0)) = w5 := ⟨_, rfl⟩
      have T5 : Hid (w5.heap[wr.heap.size]? = some (.cells #[.int .i64 op, .int .i64 nu, .string nm] 32 (0, 0))) := by show _ = _; rw [← hw5]; exact heap_alloc_new _ _
      have N5 : Hid (Below wr.heap.size wr w5) := by show Below _ _ _; rw [← hw5]; exact below1 _ _
      obtain ⟨A9, c9, hu⟩ : ∃ A c, u = .slice A st.length c := by
        rcases RW.out.2 with ⟨h1, h2⟩ | ⟨g, cap, cur, h1, -⟩
        · exact ⟨none, 0, by rw [h1, h2]⟩
        · exact ⟨_, cap, h1⟩
      subst hu
      go_upto_region 14 with fail
      try rw [hw5]
      clear hw5 d0 d1 d2
      have q0 : w5.cell? ⟨wr.heap.size, 0, none⟩ = some (.int .i64 op) := cell_of_row w5 _ 0 _ _ (0, 0) T5.out
      have q1 : w5.cell? ⟨wr.heap.size, 1, none⟩ = some (.int .i64 nu) := cell_of_row w5 _ 1 _ _ (0, 0) T5.out
      have q2 : w5.cell? ⟨wr.heap.size, 2, none⟩ = some (.string nm) := cell_of_row w5 _ 2 _ _ (0, 0) T5.out
      have R5 := Seg.hid (RW.out.keep N5.out)
      have B5 := Seg.hid (chain BW.out N5.out)
      have s5 := N5.out.size
      rcases CASE.out with ⟨rfl, hin, hh⟩ | ⟨rfl, hh⟩ | ⟨rfl, hge, hh⟩ | ⟨⟨ho3, ho11⟩, hge, hh⟩
      · have VN : Hid (runV cols row (l.drop (k + 1)) (st ++ [nu]) = runV cols row l []) := by have := V2.out; rw [if_pos rfl] at this; exact this
        have GN : Hid (endH (runH (l.drop (k + 1)) (st ++ [nu]).length) = true) := by show _ = _; rw [List.length_append, List.length_singleton]; have := G2.out; rw [hh] at this; simpa using this
        have MN : Hid ((st ++ [nu]).all inM = true) := by show _ = _; rw [List.all_append, MW.out]; simpa using hin
        clear hh hin CASE V2 G2 SE
        have OW : Hid (∀ ob, (w5.alloc ob).ownsRow w1.heap.size 3 1 (.slice A9 st.length c9) st.length (st.map (Value.int .i64))) := fun ob => R5.out.keep (below1 w5 ob)
        go_wp2_with (at_builtin; (refine wpList_append_lies _ rfl _ _ 26 rfl w1.heap.size 3 i0 _ 1 8 Try.underlying26 hi hz0 hz1 hz2 rfl (by decide) (.slice A9 st.length c9) st.length (st.map (Value.int .i64)) rfl (OW.out _) ⟨w5.heap.size, 0, none⟩ 1 1 [.int .i64 nu] rfl rfl (World.news_of_block (cs := #[.int .i64 nu]) (heap_alloc_new _ _)) (by simp [Value.oneCell']) (by decide) (by unfold maxLen; omega) (by omega) (by rw [hsz]; omega) (w5.heap.size + 1) (by rw [hsz]) ?_; intro g9 cap9 w9 hown9 gr9 hat9 hlt9; have RN := Seg.hid (NRow.put hown9); have B9 : Hid (Below w.heap.size w w9) := (chain B5.out (below1 w5 _)).grown gr9 (by rw [hsz]; have := B5.out.size; omega) (fun y hy => by have := (World.ownsRow.lt R5.out y hy).1; have := B1.out.size; omega); have S9 : Hid (w1.heap.size ≤ w9.heap.size) := (by have := gr9.size; rw [hsz] at this; show _ ≤ _; omega); clear hown9 gr9 hat9 hlt9))
        go_roundw
        case rel => exact ⟨k + 1, st ++ [nu], by go_num, by omega, by rw [List.length_append, List.length_singleton]; omega, RN.out, GN.out, VN.out, MN.out, B9.out, S9.out⟩
        case measure => simp [intOf]; omega
      · have HS := Seg.hid (SE.out rfl)
        have GN : Hid (∀ n : Int, endH (runH (l.drop (k + 1)) (st ++ [n]).length) = true) := fun n => by rw [List.length_append, List.length_singleton]; have := G2.out; rw [hh] at this; simpa using this
        have VN : Hid (runV cols row (l.drop (k + 1)) (st ++ [QrP.look cols row nm]) = runV cols row l []) := by have := V2.out; rw [if_neg (by decide), if_pos rfl] at this; exact this
        clear hh CASE V2 G2 SE
        go_upto_region 20 with fail
        have hbw : wr.heap.size < w5.heap.size := (Array.getElem?_eq_some_iff.1 T5.out).1
        generalize wr.heap.size = bw at *
        clear q0 q1 q2
        go_wp2
        go_loopw [9, 13] (fun u i wq => ∃ j : Nat, j ≤ cols.length ∧ u = .slice A9 st.length c9 ∧ i = .int .i64 j ∧ Hid ((∀ t, t < j → ((cols.getD t default).toList == nm.toList) = false) ∧ Below w5.heap.size w5 wq)) (fun _ i _ => cols.length - (intOf i).toNat)
        case atStart => exact ⟨0, Nat.zero_le _, rfl, rfl, fun t ht => absurd ht (by omega), Below.refl _ _⟩
        case round =>
          obtain ⟨j, hj, rfl, rfl, HJ⟩ := hrel
          have BQ : Hid (Below w5.heap.size w5 wr) := HJ.out.2
          have NJ := Seg.hid HJ.out.1
          clear HJ
          have TQ := Seg.hid ((BQ.out.block bw hbw).trans T5.out)
          have q2 : wr.cell? ⟨bw, 2, none⟩ = some (.string nm) := cell_of_row wr _ 2 _ _ (0, 0) TQ.out
          have CQ : Hid (Below w.heap.size w wr) := chain B5.out BQ.out
          by_cases hjt : j < cols.length
          · obtain ⟨ea1, hcc1, hgw1⟩ := HO1.out.addr.resolve_left (by omega)
            subst ea1
            have m1 := strs_cell HO1.out (CQ.out.block g1 hgw1) hjt
            have j0 : (0 : Int) ≤ (j : Int) := by omega
            have j1 : (j : Int) < (cols.length : Int) := by omega
            have LK : Hid (((cols.getD j default).toList == nm.toList) = true → QrP.look cols row nm = row.getD j 0) := fun h => look_at hjt NJ.out h
            have NJ2 : Hid (((cols.getD j default).toList == nm.toList) = false → ∀ t, t < j + 1 → ((cols.getD t default).toList == nm.toList) = false) := fun h t ht => by
              by_cases e : t = j
              · subst e; exact h
              · exact NJ.out t (by omega)
            clear NJ
            generalize cols.getD j default = mm at *
            go_wp2_with fail
            cases hb : (mm.toList == nm.toList) with
            | false =>
              have NY := Seg.hid (NJ2.out hb)
              clear NJ2 LK
              go_region_held3 (fun w' => w'.cell? ⟨g1, o1 + j, none⟩ = some (.string mm) ∧ w'.cell? ⟨bw, 2, none⟩ = some (.string nm)) (first | exact ⟨m1, q2⟩ | go_keep) (fail)
              all_goals
                go_wp2
                go_roundw
                case rel => exact ⟨j + 1, by omega, rfl, by go_num, NY.out, BQ.out.drew⟩
                case measure => simp [intOf]; omega
            | true =>
              have LV := Seg.hid (LK.out hb)
              clear NJ2 LK
              obtain ⟨ea2, hcc2, hgw2⟩ := HO2.out.addr.resolve_left (by have := K2.out; omega)
              subst ea2
              have n1 := int_at HO2.out (CQ.out.block g2 hgw2) (show j < row.length by have := K2.out; omega)
              have jr : (j : Int) < (row.length : Int) := by have := K2.out; omega
              have IN : Hid (inM (row.getD j 0) = true) := all_at9 RA.out (by have := K2.out; omega)
              rw [LV.out] at VN
              clear LV
              generalize row.getD j 0 = nn at *
              go_region_held3 (fun w' => w'.cell? ⟨g1, o1 + j, none⟩ = some (.string mm) ∧ w'.cell? ⟨bw, 2, none⟩ = some (.string nm)) (first | exact ⟨m1, q2⟩ | go_keep) (fail)
              all_goals
                have BD : Hid (Below w5.heap.size w5 wr.drew) := BQ.out.drew
                have e1 : wr.drew.cell? ⟨g2, o2 + j, none⟩ = some (.int .i64 nn) := n1
                generalize wr.drew = wd at *
                have RD := Seg.hid (R5.out.keep BD.out)
                have CD := Seg.hid (chain B5.out BD.out)
                have sd := BD.out.size
                have sb1 : w1.heap.size ≤ wd.heap.size := by omega
                have few9 : st.length ≤ 60 := by omega
                have MN : Hid ((st ++ [nn]).all inM = true) := by show _ = _; rw [List.all_append, MW.out]; simpa using IN.out
                have OW : Hid (∀ ob, (wd.alloc ob).ownsRow w1.heap.size 3 1 (.slice A9 st.length c9) st.length (st.map (Value.int .i64))) := fun ob => RD.out.keep (below1 wd ob)
                go_wp2_with (at_builtin; (refine wpList_append_lies _ rfl _ _ 26 rfl w1.heap.size 3 i0 _ 1 8 Try.underlying26 hi hz0 hz1 hz2 rfl (by decide) (.slice A9 st.length c9) st.length (st.map (Value.int .i64)) rfl (OW.out _) ⟨wd.heap.size, 0, none⟩ 1 1 [.int .i64 nn] rfl rfl (World.news_of_block (cs := #[.int .i64 nn]) (heap_alloc_new _ _)) (by simp [Value.oneCell']) (by decide) (by unfold maxLen; omega) (by omega) (by rw [hsz]; omega) (wd.heap.size + 1) (by rw [hsz]) ?_; intro g9 cap9 w9 hown9 gr9 hat9 hlt9; have RN := Seg.hid (NRow.put hown9); have B9 : Hid (Below w.heap.size w w9) := (chain CD.out (below1 wd _)).grown gr9 (by rw [hsz]; have := CD.out.size; omega) (fun y hy => by have := (World.ownsRow.lt RD.out y hy).1; have := B1.out.size; omega); have S9 : Hid (w1.heap.size ≤ w9.heap.size) := (by have := gr9.size; rw [hsz] at this; show _ ≤ _; omega); clear hown9 gr9 hat9 hlt9))
                go_roundw
                case rel => exact ⟨k + 1, st ++ [nn], by go_num, by omega, by rw [List.length_append, List.length_singleton]; omega, RN.out, GN.out _, VN.out, MN.out, B9.out, S9.out⟩
                case measure => simp [intOf]; omega
          · exfalso
            obtain ⟨t, ht, he⟩ := see_some HS.out
            have := NJ.out t (by omega)
            rw [he] at this
            cases this
      · obtain ⟨m, hm⟩ : ∃ m, st.length = m + 1 := ⟨st.length - 1, by omega⟩
        obtain ⟨gs, cs, hu, hgs, hgl, hcell, hfr, -⟩ := NRow.open R5.out (by omega)
        cases hu
        have c0 := hcell m (by omega)
        have f0 := hfr m
        have em : st.length - 1 = m := by omega
        have VN : Hid (runV cols row (l.drop (k + 1)) (st.set m (b01 (decide (st.getD m 0 = 0)))) = runV cols row l []) := by have := V2.out; rw [if_neg (by decide), if_neg (by decide), if_pos rfl, em] at this; exact this
        have RS : Hid (∀ a, NRow (w5.setCell ⟨gs, m, none⟩ (.int .i64 a)) w1.heap.size (.slice (some ⟨gs, 0, none⟩) (m + 1) c9) (st.set m a)) := fun a => by
          have h := NRow.set (j := m) (a := a) R5.out (by omega)
          rwa [hm] at h
        have GN : Hid (∀ a, endH (runH (l.drop (k + 1)) (st.set m a).length) = true) := fun a => by rw [List.length_set, hm]; have := G2.out; rw [hh, hm] at this; exact this
        have MN : Hid (∀ b, (st.set m (b01 b)).all inM = true) := fun b => by
          refine List.all_eq_true.2 fun y hy => ?_
          rcases List.mem_or_eq_of_mem_set hy with h | h
          · exact List.all_eq_true.1 MW.out y h
          · rw [h]; exact b01_in b
        have hfm : m + 1 ≤ k := by omega
        have SM : Hid (∀ a, (st.set m a).length ≤ k + 1) := fun a => by rw [List.length_set]; omega
        have LM : Hid (∀ a, (st.set m a).length = m + 1) := fun a => by rw [List.length_set]; exact hm
        have zg : w.heap.size ≤ gs := by have := B1.out.size; omega
        rw [hm]
        clear hcell hfr hh hge CASE V2 G2 SE em hm
        generalize st.getD m 0 = r at *
        have m0 : (0 : Int) ≤ (m : Int) := by omega
        have m1 : (m : Int) < (m : Int) + 1 := by omega
        obtain ⟨z, hz9⟩ : ∃ z, (r == 0) = z := ⟨_, rfl⟩
        have hzd : Hid (decide (r = 0) = z) := by show _ = _; rw [← hz9]; rfl
        rw [hzd.out] at VN
        go_wp2_with (go_at_call 20; refine (QdS.bool_any _ _).mono ?_; rintro e w7 ⟨rfl, rfl⟩)
        go_roundw
        case rel => exact ⟨k + 1, st.set m (b01 z), by go_num, by omega, SM.out _, (by have h := RS.out (b01 z); unfold NRow at h ⊢; rw [LM.out] at h ⊢; exact h), GN.out _, VN.out, MN.out z, B5.out.setCell zg _, (by simp; omega)⟩
        case measure => simp [intOf]; omega
      · obtain ⟨m, hm⟩ : ∃ m, st.length = m + 2 := ⟨st.length - 2, by omega⟩
        obtain ⟨gs, cs, hu, hgs, hgl, hcell, hfr, hcap⟩ := NRow.open R5.out (by omega)
        cases hu
        have c0 := hcell m (by omega)
        have c1 := hcell (m + 1) (by omega)
        have f0 := hfr m
        have c1s : ∀ r, (w5.setCell ⟨gs, m, none⟩ (.int .i64 r)).cell? ⟨gs, m + 1, none⟩ = some (.int .i64 (st.getD (m + 1) 0)) := fun r => by
          have h := NRow.set (j := m) (a := r) R5.out (by omega)
          have hj : m + 1 < st.length := by omega
          have h3 : NRow (w5.setCell ⟨gs, m, none⟩ (.int .i64 r)) w1.heap.size (.slice (some ⟨gs, 0, none⟩) (st.set m r).length c9) (st.set m r) := by rw [List.length_set]; exact h
          have h2 := World.ownsRow.cellAt h3 (m + 1) (by simpa using hj)
          rw [h2]
          simp [hj]
        have ia : inM (st.getD m 0) = true := all_at9 MW.out (by omega)
        have ib : inM (st.getD (m + 1) 0) = true := all_at9 MW.out (by omega)
        rw [hm]
        rw [hm] at hcap
        clear hcell hfr
        have GEN : Hid (runV cols row (l.drop (k + 1)) ((st.set m (doS op (st.getD m 0) (st.getD (m + 1) 0))).take (m + 1)) = runV cols row l []) := by
          have := V2.out
          rw [if_neg (by omega), if_neg (by omega), if_neg (by omega), hm] at this
          exact this
        generalize st.getD m 0 = a at *
        generalize st.getD (m + 1) 0 = b at *
        have CD : Hid (Calls Try.prog 21 #[.int .i64 op, .int .i64 a, .int .i64 b] w5.drew fun e w' => e = .returned (.int .i64 (doS op a b)) ∧ w5.drew = w') := QdS.do_any op a b _ ⟨ho3, ho11⟩ (inR_true ia) (inR_true ib)
        have m0 : (0 : Int) ≤ (m : Int) := by omega
        have m1 : (m : Int) < (m : Int) + 2 := by omega
        have m2 : (0 : Int) ≤ (m : Int) + 1 := by omega
        have m3 : (m : Int) + 1 < (m : Int) + 2 := by omega
        have wr1 : IntKind.i64.wrap (m : Int) = (m : Int) := by rw [IntKind.wrap_i64]; omega
        have wr2 : IntKind.i64.wrap ((m : Int) + 2 - 1) = (m : Int) + 1 := by rw [IntKind.wrap_i64]; omega
        have o1 : (op == 1) = false := by rw [beq_eq_false_iff_ne]; omega
        have o2' : (op == 2) = false := by rw [beq_eq_false_iff_ne]; omega
        have o12 : (op == 12) = false := by rw [beq_eq_false_iff_ne]; omega
        have hgr : gs < wr.heap.size := (World.ownsRow.lt RW.out gs rfl).2
        have hne : wr.heap.size ≠ gs := by omega
        have hne2 : gs ≠ wr.heap.size := by omega
        have zg : w.heap.size ≤ gs := by have := B1.out.size; omega
        have RN : Hid (NRow (w5.setCell ⟨gs, m, none⟩ (.int .i64 (doS op a b))).drew w1.heap.size (.slice (some ⟨gs, 0, none⟩) (m + 1) c9) ((st.set m (doS op a b)).take (m + 1))) := by
          have h := NRow.set (w := w5) (j := m) (a := doS op a b) R5.out (by omega)
          have h2 : NRow (w5.setCell ⟨gs, m, none⟩ (.int .i64 (doS op a b))) w1.heap.size (.slice (some ⟨gs, 0, none⟩) (st.set m (doS op a b)).length c9) (st.set m (doS op a b)) := by rw [List.length_set]; exact h
          exact NRow.pop (by rw [List.length_set, hm]) h2
        have SM : Hid (((st.set m (doS op a b)).take (m + 1)).length ≤ k + 1) := by show _ ≤ _; rw [List.length_take]; omega
        have LN : Hid (((st.set m (doS op a b)).take (m + 1)).length = m + 1) := by show _ = _; rw [List.length_take, List.length_set, hm]; omega
        have GN : Hid (endH (runH (l.drop (k + 1)) ((st.set m (doS op a b)).take (m + 1)).length) = true) := by
          show _ = _
          rw [LN.out]
          have := G2.out
          rw [hh, hm] at this
          have e : (((m + 2 : Nat) : Int) - 1) = ((m + 1 : Nat) : Int) := by omega
          rw [e] at this
          exact this
        have MN : Hid (((st.set m (doS op a b)).take (m + 1)).all inM = true) := by
          refine List.all_eq_true.2 fun y hy => ?_
          rcases List.mem_or_eq_of_mem_set (List.mem_of_mem_take hy) with h | h
          · exact List.all_eq_true.1 MW.out y h
          · rw [h]; exact do_in ia ib
        have hm1 : (m : Int) + 1 ≤ (c9 : Int) := by omega
        clear CASE hm V2 G2 SE
        go_upto_region 15 with fail
        refine wp_region_held_drew (S := (fun w' => w'.cell? ⟨wr.heap.size, 0, none⟩ = some (.int .i64 op) ∧ w'.cell? ⟨gs, m + 1, none⟩ = some (.int .i64 b))) (by kernel_rfl) ⟨q0, c1⟩ (fun hHeld => ?_)
        refine HdK.tke 0 (some 57) (.slice (some ⟨gs, 0, none⟩) (m + 2) c9) rfl rfl ?_
        try simp only [Act.put, List.setIfInBounds_toArray, List.set_cons_zero, List.set_cons_succ]
        refine HdK.tke 1 (some 58) (.int .i64 ((m : Int) + 2)) rfl rfl ?_
        try simp only [Act.put, List.setIfInBounds_toArray, List.set_cons_zero, List.set_cons_succ]
        refine HdK.tke 2 (some 59) (.int .i64 (m : Int)) rfl rfl ?_
        try simp only [Act.put, List.setIfInBounds_toArray, List.set_cons_zero, List.set_cons_succ]
        refine HdK.tke 3 (some 60) (.pointer (some ⟨wr.heap.size, 0, none⟩)) rfl rfl ?_
        try simp only [Act.put, List.setIfInBounds_toArray, List.set_cons_zero, List.set_cons_succ]
        refine HdK.tke 4 (some 61) (.int .i64 op) rfl rfl ?_
        try simp only [Act.put, List.setIfInBounds_toArray, List.set_cons_zero, List.set_cons_succ]
        refine HdK.tke 5 (some 62) (.slice (some ⟨gs, 0, none⟩) (m + 2) c9) rfl rfl ?_
        try simp only [Act.put, List.setIfInBounds_toArray, List.set_cons_zero, List.set_cons_succ]
        refine HdK.tke 6 (some 63) (.int .i64 ((m : Int) + 2)) rfl rfl ?_
        try simp only [Act.put, List.setIfInBounds_toArray, List.set_cons_zero, List.set_cons_succ]
        refine HdK.tke 7 (some 64) (.int .i64 (m : Int)) rfl rfl ?_
        try simp only [Act.put, List.setIfInBounds_toArray, List.set_cons_zero, List.set_cons_succ]
        refine HdK.tke 8 (some 65) (.pointer (some ⟨gs, m, none⟩)) rfl rfl ?_
        try simp only [Act.put, List.setIfInBounds_toArray, List.set_cons_zero, List.set_cons_succ]
        refine HdK.tke 10 (some 67) (.slice (some ⟨gs, 0, none⟩) (m + 2) c9) rfl rfl ?_
        try simp only [Act.put, List.setIfInBounds_toArray, List.set_cons_zero, List.set_cons_succ]
        refine HdK.tke 11 (some 68) (.int .i64 ((m : Int) + 2)) rfl rfl ?_
        try simp only [Act.put, List.setIfInBounds_toArray, List.set_cons_zero, List.set_cons_succ]
        refine HdK.tke 12 (some 69) (.int .i64 ((m : Int) + 1)) rfl rfl ?_
        try simp only [Act.put, List.setIfInBounds_toArray, List.set_cons_zero, List.set_cons_succ]
        refine HdK.tke 13 (some 70) (.pointer (some ⟨gs, m + 1, none⟩)) rfl rfl ?_
        try simp only [Act.put, List.setIfInBounds_toArray, List.set_cons_zero, List.set_cons_succ]
        refine HdK.tke 14 (some 71) (.int .i64 b) rfl rfl ?_
        try simp only [Act.put, List.setIfInBounds_toArray, List.set_cons_zero, List.set_cons_succ]
        refine wpAnyH_ready (rs := [9]) (by kernel_rfl) (by simp) ?_
        refine AllReadyH.cons rfl (fun K hK => ?_) AllReadyH.nil
        go_simp
        refine hK.out _ _ ⟨q0, c1⟩ (fun hHeld => ?_)
        clear hK K
        try simp only [Act.put, List.setIfInBounds_toArray, List.set_cons_zero, List.set_cons_succ]
        refine wpAnyH_ready (rs := [15]) (by kernel_rfl) (by simp) ?_
        refine AllReadyH.cons rfl (fun K hK => ?_) AllReadyH.nil
        (go_simp; go_at_call 21; refine (CD.out).mono ?_; rintro e w8 ⟨rfl, rfl⟩; try (go_wp2_with fail))
        refine hK.out _ _ ⟨q0, c1⟩ (fun hHeld => ?_)
        clear hK K
        try simp only [Act.put, List.setIfInBounds_toArray, List.set_cons_zero, List.set_cons_succ]
        refine HdK.tke 16 (some 73) (.pointer (some ⟨gs, m, none⟩)) rfl rfl ?_
        try simp only [Act.put, List.setIfInBounds_toArray, List.set_cons_zero, List.set_cons_succ]
        refine wpAnyH_ready (rs := [17]) (by kernel_rfl) (by simp) ?_
        refine AllReadyH.cons rfl (fun K hK => ?_) AllReadyH.nil
        go_simp
        refine hK.out _ _ (by first | go_keep | trace_state) (fun hHeld => ?_)
        clear hK K
        try simp only [Act.put]
        refine wpAnyH_done (by kernel_rfl) ?_ _
        have SZ : Hid ((w5.setCell ⟨gs, m, none⟩ (.int .i64 (doS op a b))).drew.heap.size = w5.heap.size) := by show (w5.setCell ⟨gs, m, none⟩ (.int .i64 (doS op a b))).heap.size = _; simp
        have BZ : Hid (Below w.heap.size w (w5.setCell ⟨gs, m, none⟩ (.int .i64 (doS op a b))).drew) := (B5.out.setCell zg _).drew
        clear c1s
        generalize (w5.setCell ⟨gs, m, none⟩ (.int .i64 (doS op a b))).drew = w8 at *
        clear q0 q1 q2 c0 c1 f0
        go_wp2
        go_roundw
        case rel => exact ⟨k + 1, (st.set m (doS op a b)).take (m + 1), by go_num, by omega, SM.out, RN.out, GN.out, GEN.out, MN.out, BZ.out, by rw [SZ.out]; omega⟩
        case measure => simp [intOf]; omega
    · have hkl : k = l.length := by omega
      have VL : Hid (runV cols row l [] = st) := by show _ = _; have := VW.out; rw [hkl, List.drop_length, runV] at this; exact this.symm
      have SL : Hid (st.length = 1) := by
        show _ = _
        have h := GW.out
        rw [hkl, List.drop_length, runH, endH] at h
        have := of_decide_eq_true h
        omega
      have hx2 : ¬ (k : Int) < (l.length : Int) := by omega
      obtain ⟨gs, cs, hu, hgs, hgl, hcell, -, -⟩ := NRow.open RW.out (by have := SL.out; omega)
      have c0 := hcell 0 (by have := SL.out; omega)
      have sl := SL.out
      rw [sl] at hu
      subst hu
      have RV2 : Hid (RV = st.getD 0 0) := by show _ = _; rw [RVT.out, VL.out]
      clear hkl hcell
      generalize st.getD 0 0 = r at *
      have h01 : (0 : Int) < ((1 : Nat) : Int) := by omega
      go_wp2
      go_ret2
      exact ⟨by rw [RT.out, RV2.out]; rfl, BW.out⟩
end Go.Proofs.Ytclkcnkjjoolcaa.RkS
