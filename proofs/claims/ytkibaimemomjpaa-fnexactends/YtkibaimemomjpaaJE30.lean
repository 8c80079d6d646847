/- The program's Ends. -/
import Derived.Test.YtkibaimemomjpaaJE29
namespace Go.Proofs.Ytkibaimemomjpaa.EdE
set_option maxRecDepth 8000
open Go.RowKit
open Ls Lp QyP QsP QtP QuP TbP IoP EdP RkP IrA EdI EdF EdM EdB EdA
open Recs (hsz below1 below2 chain chainD)
set_option linter.unusedVariables false
theorem cnt_one {us : List (List Arr)} (p : Nat) : (us.getD p []).length ≤ cnt us := by
  by_cases h : p < us.length
  · have h1 := cnt_next h
    have h2 := cnt_le us (p + 1)
    have e : us.getD p [] = us.getD p default := rfl
    rw [e]; omega
  · rw [List.getD_eq_getElem?_getD, List.getElem?_eq_none (by omega)]
    simp
/-- What right inputs are. -/
theorem right_of {l : List Src} {inp : List (List Arr)} (h : inpOk l inp = true) (hz : szL szArr2 inp ≤ 1048576) : inp.length = l.length ∧ inp.length ≤ 10 ∧ Rt (EdP.start inp) ∧ ∀ p a, a ∈ inp.getD p [] → 0 ≤ a.time := by
  unfold inpOk at h
  simp only [Bool.and_eq_true, decide_eq_true_eq] at h
  obtain ⟨h1, h2, h3, h4⟩ := h
  unfold srcsOk at h1
  simp only [Bool.and_eq_true, decide_eq_true_eq] at h1
  have ok : ∀ p a, a ∈ inp.getD p [] → (0 ≤ a.time ∧ a.time ≤ 1000000000000) ∧ a.row.length ≤ 1048576 := fun p a ha => by
    by_cases hp : p < inp.length
    · have h5 := List.all_eq_true.1 h4 p (List.mem_range.2 hp)
      have h6 := List.all_eq_true.1 h5 a ha
      unfold arrOk inR at h6
      simp only [Bool.and_eq_true, decide_eq_true_eq] at h6
      refine ⟨h6.1.1, ?_⟩
      have h7 : szArr2 (inp.getD p default) ≤ 1048576 := szL_one _ hz hp
      obtain ⟨i, hi, rfl⟩ := List.getElem_of_mem ha
      have h8 := TbP.sz_row h7 hi
      have e : (inp.getD p default).getD i default = (inp.getD p [])[i] := by
        rw [List.getD_eq_getElem?_getD]
        show ((inp.getD p [])[i]?).getD default = _
        rw [List.getElem?_eq_getElem hi]
        rfl
      rw [e] at h8
      exact h8
    · rw [List.getD_eq_getElem?_getD, List.getElem?_eq_none (by omega)] at ha
      cases ha
  exact ⟨h2, by omega, ⟨fun p => Nat.le_trans (cnt_one p) h3, fun p a ha => ⟨(ok p a ha).1.2, (ok p a ha).2⟩⟩, fun p a ha => (ok p a ha).1.1⟩
theorem ord_of {ord : List Int} {n : Nat} (h : ordOk ord n = true) : ord.length ≤ 400 ∧ ∀ k, k < ord.length → ∃ p : Nat, ord.getD k default = (p : Int) ∧ p < n ∧ (places ord).getD k 0 = p := by
  unfold ordOk at h
  simp only [Bool.and_eq_true, decide_eq_true_eq] at h
  refine ⟨h.2, fun k hk => ?_⟩
  have h1 := List.all_eq_true.1 h.1 ord[k] (List.getElem_mem hk)
  unfold inR at h1
  simp only [Bool.and_eq_true, decide_eq_true_eq] at h1
  refine ⟨ord[k].toNat, ?_, by omega, ?_⟩
  · rw [List.getD_eq_getElem?_getD, List.getElem?_eq_getElem hk]
    show ord[k] = _
    omega
  · unfold places
    simp [hk]
theorem row_form {w0 w : World} {S : Nat → Prop} {B n : Nat} {v : Value} {f : Nat → List Arr} (h : LRow w0 w S B v n f) : ∃ A c, v = .slice A n c := by
  obtain ⟨V, h1, -⟩ := h
  rcases h1.2 with ⟨e1, e2⟩ | ⟨g, cap, cur, e1, -⟩
  · exact ⟨none, 0, by rw [e1, e2]⟩
  · exact ⟨_, cap, e1⟩
theorem own_nil (w1 : World) {b : Nat} (hb : b ≤ w1.heap.size) : Ow.CmgsOwn (w1.alloc (.cells #[] 90 (0, 0))) (seg b (w1.alloc (.cells #[] 90 (0, 0))).heap.size) (.slice (some ⟨w1.heap.size, 0, none⟩) 0 0) [] := ⟨by simp, some ⟨w1.heap.size, 0, none⟩, 0, rfl, .inl rfl⟩
set_option maxHeartbeats 6400000 in
theorem impl_any (x y z : Value) (l : List Src) (inp : List (List Arr)) (ord : List Int) (w : World) (S : Nat → Prop) (hx : LAt 3 ESrc w S x l) (hy : LAt 1 EArr2 w S y inp) (hz : IntsAt w S z ord) (hS : ∀ g, S g → g < w.heap.size) (hf : szL szSrc l ≤ 1048576) (hfy : szL szArr2 inp ≤ 1048576) (hfz : ord.length ≤ 1048576) :
    Calls Try.prog 22 #[x, y, z] w fun e w' => ∃ v, e = .returned v ∧ Ow.CmgsOwn w' (seg w.heap.size w'.heap.size) v (ends l inp ord) ∧ Below w.heap.size w w' := by
  obtain ⟨Al, cl, rfl⟩ := hx.form
  have hll : l.length ≤ 1048576 := szL_len _ hf
  have hil : inp.length ≤ 1048576 := szL_len _ hfy
  have CI : ∀ b, inpOk l inp = b → Hid (Calls Try.prog 59 #[.slice Al l.length cl, y] w fun e w' => e = .returned (.bool b) ∧ Below w.heap.size w w') := fun b hb => by subst hb; exact IoI.impl_any _ y l inp w S hx hy hS hf hfy
  have CO : ∀ b, ordOk ord l.length = b → Hid (∀ wx, Below w.heap.size w wx → Calls Try.prog 60 #[z, .int .i64 l.length] wx fun e w' => e = .returned (.bool b) ∧ wx = w') := fun b hb => by subst hb; exact fun wx bx => order_any z ord l.length wx S (LAt.below keepsI hz bx hS) (fun y hy => Nat.lt_of_lt_of_le (hS y hy) bx.size) hll
  have CC : Hid (∀ wx, Below w.heap.size w wx → Calls Try.prog 61 #[y] wx fun e w' => ∃ v', e = .returned v' ∧ LRow wx w' S wx.heap.size v' inp.length (fun p => inp.getD p []) ∧ Below wx.heap.size wx w') := fun wx bx => clone_any y inp wx S (LAt.below keepsArr2 hy bx hS) (fun y hy => Nat.lt_of_lt_of_le (hS y hy) bx.size) hil
  obtain ⟨RR, hRR⟩ : ∃ R, ends l inp ord = R := ⟨_, rfl⟩
  rw [hRR]
  have HRR : Hid ((if inpOk l inp && ordOk ord l.length then (if (whole inp ord).out.length ≤ 400 then (whole inp ord).out else []) else []) = RR) := hRR
  have RT0 := Seg.hid (fun h => right_of (l := l) (inp := inp) h hfy)
  have HZ := Seg.hid hz
  have OO := Seg.hid (fun h => ord_of (ord := ord) (n := l.length) h)
  clear hRR hx hy hz
  go_enter Try.func22, Try.ntmps22
  cases k1 : inpOk l inp with
  | false =>
    have CJ := CI false k1
    have RN : Hid (RR = []) := by show _ = _; rw [← HRR.out, k1]; rfl
    clear k1 CI CO
    go_wp2_with (go_at_call 59; refine CJ.out.mono ?_; rintro e w1 ⟨rfl, b1⟩; have B1 := Seg.hid b1; clear b1)
    go_ret
    exact ⟨_, rfl, by rw [RN.out]; exact own_nil w1 B1.out.size, chain B1.out (below1 _ _)⟩
  | true =>
  obtain ⟨n1, n2, RT, TM⟩ := RT0.out k1
  have CJ := CI true k1
  cases k2 : ordOk ord l.length with
  | false =>
    have CK := CO false k2
    have RN : Hid (RR = []) := by show _ = _; rw [← HRR.out, k1, k2]; rfl
    clear k1 k2 CI CO RT TM n1
    go_wp2_with (first | (go_at_call 59; refine CJ.out.mono ?_; rintro e w1 ⟨rfl, b1⟩; have B1 := Seg.hid b1; clear b1) | (go_at_call 60; refine (CK.out _ B1.out).mono ?_; rintro e w1' ⟨rfl, rfl⟩))
    go_ret
    exact ⟨_, rfl, by rw [RN.out]; exact own_nil w1 B1.out.size, chain B1.out (below1 _ _)⟩
  | true =>
  have CK := CO true k2
  obtain ⟨o1, o2⟩ := OO.out k2
  have R1 : Hid ((if (whole inp ord).out.length ≤ 400 then (whole inp ord).out else []) = RR) := by show _ = _; rw [← HRR.out, k1, k2]; rfl
  rw [← n1] at o2
  have O2 := Seg.hid o2
  have RTH := Seg.hid RT
  clear k1 k2 CI CO RT TM n1 HRR OO RT0 o2
  go_upto_region 3 with (first | (go_at_call 59; refine CJ.out.mono ?_; rintro e w1 ⟨rfl, b1⟩; have B1 := Seg.hid b1; clear b1) | (go_at_call 60; refine (CK.out _ B1.out).mono ?_; rintro e w1' ⟨rfl, rfl⟩))
  clear CJ CK
  go_upto_region 4 with (go_at_call 61; refine (CC.out _ B1.out).mono ?_; rintro e w2 ⟨v2, rfl, h2, b2⟩; obtain ⟨Av, kv, rfl⟩ := row_form h2; have L2 := Seg.hid h2; have B2 := Seg.hid b2; clear h2 b2)
  clear CC
  obtain ⟨w3, hw3⟩ : ∃ w3, w2.alloc (.cells #[.slice Av inp.length kv, .int .i64 0, .int .i64 0, .int .i64 0, .int .i64 0, .int .i64 0, .int .i64 0, .int .i64 0, .int .i64 0, .int .i64 0, .int .i64 0, .slice none 0 0] 100 (0, 0)) = w3 := ⟨_, rfl⟩
  have F3 : Hid (Fee w1 S w2.heap.size w3 (.slice Av inp.length kv) inp.length (EdP.start inp)) := by
    show Fee _ _ _ _ _ _ _
    rw [← hw3]
    refine ⟨chain B2.out (below1 _ _), LRow.keep L2.out (fun y hy => (below1 w2 _).block y (LRow.lt L2.out y hy).2), fun y hy => (LRow.lt L2.out y hy).2, B2.out.size, .slice none 0 0, heap_alloc_new _ _, Ow.LGrow.nil _ _⟩
  have hS1 : Hid (∀ y, S y → y < w1.heap.size) := fun y hy => Nat.lt_of_lt_of_le (hS y hy) B1.out.size
  obtain ⟨fb, hfb⟩ : ∃ fb, w2.heap.size = fb := ⟨_, rfl⟩
  rw [hfb] at F3 ⊢
  try rw [hw3]
  clear hw3 hfb L2
  obtain ⟨_, ko, go, oo, Fo, rfl, hop, -⟩ := opn HZ.out hS
  have HO := Seg.hid hop
  have RL : Hid (∀ k, k ≤ ord.length → (run ((places ord).take k) (EdP.start inp)).out.length ≤ 2 * k ∧ Rt (run ((places ord).take k) (EdP.start inp))) := fun k hk => by
    have h1 := run_out ((places ord).take k) (EdP.start inp)
    have h2 : ((places ord).take k).length = k := by unfold places; rw [List.length_take, List.length_map]; omega
    have h3 : (EdP.start inp).out.length = 0 := rfl
    exact ⟨by omega, RTH.out.run _⟩
  have PL : Hid ((places ord).length = ord.length) := List.length_map ..
  have CB : Hid (∀ (p : Nat) (wx : World) (t : St), p < inp.length → Rt t → t.out.length ≤ 999999 → Fee w1 S fb wx (.slice Av inp.length kv) inp.length t → Calls Try.prog 62 #[.pointer (some ⟨fb, 0, none⟩), .int .i64 p] wx fun e w' => e = .returned (.tuple #[]) ∧ Fee w1 S fb w' (.slice Av inp.length kv) inp.length (bring p t)) := fun p wx t h1 h2 h3 h4 => bring_any w1 S hS1.out fb inp.length p wx _ t h4 h1 n2 h3 (by have := h2.few p; omega) (h2.ok p)
  clear hop
  go_wp2
  go_loopw [27] (fun i wx => ∃ k : Nat, i = .int .i64 k ∧ k ≤ ord.length ∧ Hid (Fee w1 S fb wx (.slice Av inp.length kv) inp.length (run ((places ord).take k) (EdP.start inp)))) (fun i _ => ord.length - (intOf i).toNat)
  case atStart => exact ⟨0, rfl, Nat.zero_le _, F3.out⟩
  case round =>
  clear F3
  obtain ⟨k, rfl, hk, HG⟩ := hrel
  by_cases hlt : k < ord.length
  · obtain ⟨p, e1, hp, e2⟩ := O2.out k hlt
    obtain ⟨ea, hco, hgo⟩ := HO.out.addr.resolve_left (by omega)
    subst ea
    have d0 : wr.cell? ⟨go, oo + k, none⟩ = some (.int .i64 p) := by
      rw [World.cell?_of_block (w := w) (a := ⟨go, oo + k, none⟩) ((HG.out.bel.block go (Nat.lt_of_lt_of_le hgo B1.out.size)).trans (B1.out.block go hgo)), ← e1]
      exact TbP.ints_cell HO.out hlt
    have h0 : (0 : Int) ≤ (k : Int) := by omega
    have h1 : (k : Int) < (ord.length : Int) := by omega
    have NX : Hid (run ((places ord).take (k + 1)) (EdP.start inp) = bring p (run ((places ord).take k) (EdP.start inp))) := by show _ = _; rw [run_next (by rw [PL.out]; exact hlt), e2]
    obtain ⟨q1, q2⟩ := RL.out k hk
    have CJ := Seg.hid (CB.out p wr _ hp q2 (by omega) HG.out)
    clear e1 e2 q1 q2 HG
    go_wp2_with (go_at_call 62; refine CJ.out.mono ?_; rintro e w5 ⟨rfl, h5⟩; have H5 := Seg.hid h5; clear h5)
    go_roundw
    case rel => exact ⟨k + 1, by go_num, hlt, by rw [NX.out]; exact H5.out⟩
    case measure => simp [intOf]; omega
  · have hkl : k = ord.length := by omega
    have hx1 : ¬ (k : Int) < (ord.length : Int) := by omega
    obtain ⟨q1, q2⟩ := RL.out k hk
    have WE : Hid (endK inp.length (allK inp.length inp.length (run ((places ord).take k) (EdP.start inp))) = whole inp ord) := by show _ = _; unfold whole; rw [hkl, ← PL.out, List.take_length]
    have CA := Seg.hid (all_any w1 S hS1.out fb inp.length wr Av kv _ HG.out n2 (by omega) q2)
    rw [WE.out] at CA
    clear hkl HG q1 q2 WE CB RL
    go_upto_region 10 with (go_at_call 63; refine CA.out.mono ?_; rintro e w5 ⟨rfl, h5⟩; have H5 := Seg.hid h5; clear h5)
    obtain ⟨A9, k9, F9, P9, hbx, hpt⟩ := fee_pt H5.out
    have PT := Seg.hid hpt
    have e11 : w5.cell? ⟨fb, 11, none⟩ = some (.slice A9 (whole inp ord).out.length k9) := cell_of_row w5 fb 11 _ _ (0, 0) hbx
    have fbw : w1.heap.size ≤ fb := H5.out.old
    have B5 : Hid (Below w.heap.size w w5) := B1.out.trans (H5.out.bel.mono B1.out.size)
    clear hbx hpt CA hx1
    by_cases h4 : (whole inp ord).out.length ≤ 400
    · have RN : Hid (RR = (whole inp ord).out) := by show _ = _; rw [← R1.out, if_pos h4]
      have b4 : ¬ (400 : Int) < ((whole inp ord).out.length : Int) := by omega
      go_wp2
      go_ret
      refine ⟨_, rfl, ?_, B5.out⟩
      rw [RN.out]
      exact Ow.LOwn.mono (Ow.LGrow.own ⟨F9, P9, PT.out.lg⟩ (by omega)) (fun y hy => ⟨by have := hy.1; have := B1.out.size; omega, hy.2⟩)
    · have RN : Hid (RR = []) := by show _ = _; rw [← R1.out, if_neg h4]
      have b4 : (400 : Int) < ((whole inp ord).out.length : Int) := by omega
      go_wp2
      go_ret
      exact ⟨_, rfl, by rw [RN.out]; exact own_nil w5 B5.out.size, chain B5.out (below1 _ _)⟩
end Go.Proofs.Ytkibaimemomjpaa.EdE
