/- The model's Ends. -/
import Derived.Deep.RegionLaw
import Derived.BigQuiet
import Derived.WalkSmall
import Derived.Test.YtkibaimemomjpaaJE24
import Derived.Test.YtkibaimemomjpaaJE30
import Derived.Test.YtkibaimemomjpaaJE32
import Derived.Test.YtkibaimemomjpaaJE09
namespace Go.Proofs.Ytkibaimemomjpaa.EdS
set_option maxRecDepth 8000
open Go.RowKit
open Ls Lp QyP QsP QtP QuP TbP IoP EdP RkP IrA EdL EdT EdE
open Recs (hsz below1 below2 chain)
set_option linter.unusedVariables false
theorem nil_own (w : World) (S : Nat → Prop) (A : Option Addr) (c : Nat) : Ow.CmgsOwn w S (.slice A 0 c) [] := ⟨by simp, A, c, rfl, .inl rfl⟩
theorem rest_len (inp : List (List Arr)) : ∀ k, k ≤ inp.length → (restK inp k).length = cnt (inp.take k)
  | 0, _ => by simp [restK, cnt]
  | k + 1, h => by
    rw [restK, List.length_append, List.length_replicate, rest_len inp k (by omega), cnt_next (by omega)]
    rfl
def nats (l : List Nat) : List Int := l.map (fun (n : Nat) => (n : Int))
theorem nats_app (a b : List Nat) : nats (a ++ b) = nats a ++ nats b := List.map_append
theorem nats_places {ord : List Int} {n : Nat} (h : ∀ k, k < ord.length → ∃ p : Nat, ord.getD k default = (p : Int) ∧ p < n ∧ (places ord).getD k 0 = p) : nats (places ord) = ord := by
  unfold nats places
  rw [List.map_map]
  apply List.ext_getElem
  · simp
  · intro i h1 h2
    obtain ⟨p, e, -, -⟩ := h i h2
    rw [List.getD_eq_getElem?_getD, List.getElem?_eq_getElem h2] at e
    have e' : ord[i] = (p : Int) := e
    simp [e']
theorem rest_lt (inp : List (List Arr)) : ∀ k q, q ∈ restK inp k → q < k
  | 0, q, h => by cases h
  | k + 1, q, h => by
    rw [restK, List.mem_append] at h
    rcases h with h | h
    · have := rest_lt inp k q h; omega
    · have := (List.mem_replicate.1 h).2; omega
theorem places_lt {ord : List Int} {inp : List (List Arr)} (h : ∀ k, k < ord.length → ∃ p : Nat, ord.getD k default = (p : Int) ∧ p < inp.length ∧ (places ord).getD k 0 = p) : ∀ j, j < (places ord ++ restK inp inp.length).length → (places ord ++ restK inp inp.length).getD j 0 < inp.length := fun j hj => by
  have hm : (places ord ++ restK inp inp.length).getD j 0 ∈ places ord ++ restK inp inp.length := by
    rw [List.getD_eq_getElem?_getD, List.getElem?_eq_getElem hj]
    exact List.getElem_mem hj
  rcases List.mem_append.1 hm with q | q
  · obtain ⟨i, hi, e⟩ := List.getElem_of_mem q
    obtain ⟨p, -, h1, h2⟩ := h i (by unfold places at hi; simpa using hi)
    rw [List.getD_eq_getElem?_getD, List.getElem?_eq_getElem hi] at h2
    have h3 : (places ord)[i] = p := h2
    omega
  · exact rest_lt inp inp.length _ q
theorem infoI3 : ∃ i, Try.prog.info? 3 = some i ∧ i.zero = some (.int .i64 0) ∧ i.size = 1 ∧ i.bytes = 8 := ⟨_, rfl, rfl, rfl, rfl⟩
theorem made_zero (wx : World) (n : Nat) (h : n ≤ 1000) : (Instr.makeSlice 27 (.int .i64 (n : Int)) (.int .i64 (n : Int))).run Try.prog wx = .ok (.slice (some ⟨wx.heap.size, 0, none⟩) n n) (wx.alloc (.cells (rowN n (fun _ => 0)) 3 (0, 0))) := by
  obtain ⟨i, h1, h2, h3, h4⟩ := infoI3
  have hr := run_make (P := Try.prog) wx 27 3 i (.int .i64 0) Try.underlying27 h1 h2 .i64 .i64 n n (by omega) (Int.le_refl _) (by rw [h4]; omega) (by omega)
  rw [Int.toNat_natCast, h3, Nat.mul_one] at hr
  rw [hr]
  congr 3
  have hc : (Value.int .i64 0).cells = #[Value.int .i64 0] := rfl
  rw [hc]
  apply Array.ext
  · rw [size_madeCells]; simp [rowN]
  · intro j h5 h6
    simp [rowN, madeCells, Nat.mod_one]
theorem md_start (w6 : World) (n : Nat) (inp : List (List Arr)) : Md w6 w6.heap.size (w6.heap.size + 1) (w6.heap.size + 1 + 1) (w6.heap.size + 1 + 1 + 1) n inp (((w6.alloc (.cells #[] 90 (0, 0))).alloc (.cells (rowN n (fun _ => 0)) 3 (0, 0))).alloc (.cells (rowN n (fun _ => 0)) 3 (0, 0))) (.slice (some ⟨w6.heap.size, 0, none⟩) 0 0) (EdP.start inp) (fun _ => 0) := by
  have s1 := hsz w6 (.cells #[] 90 (0, 0))
  have h1 := heap_alloc_new w6 (.cells #[] 90 (0, 0))
  have b1 := below1 w6 (.cells #[] 90 (0, 0))
  generalize w6.alloc (.cells #[] 90 (0, 0)) = a at *
  have s2 := hsz a (.cells (rowN n (fun _ => 0)) 3 (0, 0))
  have h2 := heap_alloc_new a (.cells (rowN n (fun _ => 0)) 3 (0, 0))
  have b2 := below1 a (.cells (rowN n (fun _ => 0)) 3 (0, 0))
  generalize a.alloc (.cells (rowN n (fun _ => 0)) 3 (0, 0)) = b at *
  have s3 := hsz b (.cells (rowN n (fun _ => 0)) 3 (0, 0))
  have h3 := heap_alloc_new b (.cells (rowN n (fun _ => 0)) 3 (0, 0))
  have b3 := below1 b (.cells (rowN n (fun _ => 0)) 3 (0, 0))
  generalize b.alloc (.cells (rowN n (fun _ => 0)) 3 (0, 0)) = c at *
  rw [s2, s1] at h3
  rw [s1] at h2
  have e0 : c.heap[w6.heap.size]? = some (.cells #[] 90 (0, 0)) := (b3.block _ (by omega)).trans ((b2.block _ (by omega)).trans h1)
  refine ⟨chain (chain b1 b2) b3, (b3.block _ (by omega)).trans h2, h3, ⟨fun y hy => ?_, ?_⟩, by omega, fun p => by rw [List.drop_zero]; rfl⟩
  · simp only [Value.ownBlock, Option.some.injEq] at hy
    exact .inl hy.symm
  · obtain ⟨F, P, h⟩ : Ow.LGrow 90 5 Ow.EOCmg c w6.heap.size (.slice (some ⟨w6.heap.size, 0, none⟩) 0 0) ([] : List Cmg) := Ow.LGrow.empty ⟨rfl, .inr ⟨w6.heap.size, 0, #[], rfl, Nat.le_refl _, e0, by simp, by unfold maxLen; omega, by simp, by simp⟩⟩
    exact ⟨F, P, h, fun i hi => absurd hi (by simp [EdP.start])⟩
structure Wl (b8 : Nat) (w2 wr : World) (xs : List Int) (v : Value) : Prop where
  lie : NRow wr b8 v xs
  bel : Below b8 w2 wr
/-- The cells of the lists. -/
structure Ip (w : World) (S : Nat → Prop) (inp : List (List Arr)) (A : Option Addr) (c : Nat) : Prop where
  at' : ∀ k, k < inp.length → ∃ g o A' c', A = some ⟨g, o, none⟩ ∧ inp.length ≤ c ∧ g < w.heap.size ∧ w.cell? ⟨g, o + k, none⟩ = some (.slice A' (inp.getD k []).length c') ∧ LAt 3 EArr w S (.slice A' (inp.getD k []).length c') (inp.getD k [])
theorem ip_of {w : World} {S : Nat → Prop} {y : Value} {inp : List (List Arr)} (h : LAt 1 EArr2 w S y inp) (hS : ∀ g, S g → g < w.heap.size) : ∃ A c, y = .slice A inp.length c ∧ Ip w S inp A c := by
  obtain ⟨A, c, g, o, F, rfl, OP, hn⟩ := opn h hS
  refine ⟨A, c, rfl, ⟨fun k hk => ?_⟩⟩
  obtain ⟨ea, hc, hg⟩ := OP.addr.resolve_left (by omega)
  have h1 := OP.cells k hk 0 (by omega)
  have h2 : LAt 3 EArr w S (F k 0) (inp.getD k []) := OP.el k hk
  obtain ⟨A', c', e⟩ := h2.form
  rw [Nat.mul_one, Nat.add_zero, e] at h1
  exact ⟨g, o, A', c', ea, hc, hg, h1, e ▸ h2⟩
set_option maxHeartbeats 12800000 in
theorem spec_any (x y z : Value) (l : List Src) (inp : List (List Arr)) (ord : List Int) (w : World) (S : Nat → Prop) (hx : LAt 3 ESrc w S x l) (hy : LAt 1 EArr2 w S y inp) (hz : IntsAt w S z ord) (hS : ∀ g, S g → g < w.heap.size) (hf : szL szSrc l ≤ 1048576) (hfy : szL szArr2 inp ≤ 1048576) (hfz : ord.length ≤ 1048576) :
    Calls Try.prog 19 #[x, y, z] w fun e w' => ∃ v, e = .returned v ∧ Ow.CmgsOwn w' (seg w.heap.size w'.heap.size) v (ends l inp ord) ∧ Below w.heap.size w w' := by
  obtain ⟨Al, cl, rfl⟩ := hx.form
  have hll : l.length ≤ 1048576 := szL_len _ hf
  have CI : ∀ b, inpOk l inp = b → Hid (∀ wx, Below w.heap.size w wx → Calls Try.prog 53 #[.slice Al l.length cl, y] wx fun e w' => e = .returned (.bool b) ∧ Below wx.heap.size wx w') := fun b hb => by subst hb; exact fun wx bx => IoS.spec_any _ y l inp wx S (LAt.below keepsSrc hx bx hS) (LAt.below keepsArr2 hy bx hS) (fun y hy => Nat.lt_of_lt_of_le (hS y hy) bx.size) hf hfy
  obtain ⟨Ay, cy, rfl, hip⟩ := ip_of hy hS
  have HIP := Seg.hid hip
  obtain ⟨Az, cz, rfl⟩ := hz.form
  obtain ⟨_, _, gz, oz, Fz, eA, hop, -⟩ := opn hz hS
  simp only [Value.slice.injEq, true_and] at eA
  obtain ⟨rfl, rfl⟩ := eA
  have HO := Seg.hid hop
  have HZ := Seg.hid hz
  obtain ⟨RR, hRR⟩ : ∃ R, ends l inp ord = R := ⟨_, rfl⟩
  rw [hRR]
  have HRR : Hid ((if inpOk l inp && ordOk ord l.length then (if (whole inp ord).out.length ≤ 400 then (whole inp ord).out else []) else []) = RR) := hRR
  have RT0 := Seg.hid (fun h => right_of (l := l) (inp := inp) h hfy)
  have OO := Seg.hid (fun h => ord_of (ord := ord) (n := l.length) h)
  clear hRR hx hy hz hip hop
  obtain ⟨W1, hW1⟩ : ∃ W1, w.alloc (.cells #[] 90 (0, 0)) = W1 := ⟨_, rfl⟩
  have N1 : Hid (Below w.heap.size w W1) := by show Below _ _ _; rw [← hW1]; exact below1 _ _
  go_enter Try.func19, Try.ntmps19
  go_upto_region 2 with fail
  try rw [hW1]
  clear hW1
  cases k1 : inpOk l inp with
  | false =>
    have CJ := CI false k1
    have RN : Hid (RR = []) := by show _ = _; rw [← HRR.out, k1]; rfl
    clear k1 CI
    go_wp2_with (go_at_call 53; refine (CJ.out _ N1.out).mono ?_; rintro e w2 ⟨rfl, b2⟩; have B2 := Seg.hid (chain N1.out b2); clear b2)
    go_ret
    exact ⟨_, rfl, by rw [RN.out]; exact nil_own _ _ _ _, B2.out⟩
  | true =>
  obtain ⟨n1, n2, RT, TM⟩ := RT0.out k1
  have CJ := CI true k1
  have cn : cnt inp ≤ 300 := by
    have h := k1
    unfold inpOk at h
    simp only [Bool.and_eq_true, decide_eq_true_eq] at h
    exact h.2.2.1
  have CN := Seg.hid cn
  have R1 : Hid ((if ordOk ord l.length then (if (whole inp ord).out.length ≤ 400 then (whole inp ord).out else []) else []) = RR) := by show _ = _; rw [← HRR.out, k1, Bool.true_and]
  clear k1 CI HRR RT0 cn
  by_cases k2 : ord.length ≤ 400
  case neg =>
    have RN : Hid (RR = []) := by show _ = _; rw [← R1.out]; unfold ordOk; rw [decide_eq_false k2, Bool.and_false]; rfl
    have b3 : (400 : Int) < (ord.length : Int) := by omega
    clear k2 n1 RT TM
    go_wp2_with (go_at_call 53; refine (CJ.out _ N1.out).mono ?_; rintro e w2 ⟨rfl, b2⟩; have B2 := Seg.hid (chain N1.out b2); clear b2)
    go_ret
    exact ⟨_, rfl, by rw [RN.out]; exact nil_own _ _ _ _, B2.out⟩
  have b3 : ¬ (400 : Int) < (ord.length : Int) := by omega
  obtain ⟨i0, hi, hz0, hz1, hz2⟩ := info_parts infoI
  have RTH := Seg.hid RT
  have N12 := Seg.hid n1
  clear RT TM n1
  have NW : Hid (∀ wx, Below w.heap.size w wx → (ord.length ≠ 0 → ∃ ad', Az = some ad' ∧ ∀ j x, (ord.map (Value.int .i64))[j]? = some x → wx.cell? (ad'.add j) = some x)) := fun wx bx => news_of HZ.out (fun y hy => bx.block y (hS y hy))
  go_upto_region 5 with (first | (go_at_call 53; refine (CJ.out _ N1.out).mono ?_; rintro e w2 ⟨rfl, b2⟩; have B2 := Seg.hid (chain N1.out b2); clear b2) | (at_builtin; refine AppW.wpList_append_all _ rfl _ _ 27 rfl w2.heap.size 3 i0 _ 1 8 Try.underlying27 hi hz0 hz1 hz2 rfl (by decide) (.slice (some ⟨w2.heap.size, 0, none⟩) 0 0) 0 [] rfl (empty_row w2) Az ord.length cz (ord.map (Value.int .i64)) rfl (by simp) (NW.out _ (chain B2.out (below1 w2 _))) (by simp [Value.oneCell']) (by unfold maxLen; omega) (by omega) (by rw [hsz]; omega) ?_; intro v8 w4 hown hgr hvb; have R4 : Hid (NRow w4 w2.heap.size v8 ord) := row_all hown; have B4 : Hid (Below w2.heap.size w2 w4) := (below1 w2 _).grown hgr (by rw [hsz]; omega) (fun k hk => by simp only [Value.ownBlock, Option.some.injEq] at hk; omega); clear hown hgr hvb))
  clear CJ NW b3
  have BW4 := Seg.hid (chain B2.out B4.out)
  obtain ⟨P, hP⟩ : ∃ P : Int → Bool, (inR 0 · ((l.length : Int) - 1)) = P := ⟨_, rfl⟩
  have HP : Hid (∀ x b, P x = b → inR 0 x ((l.length : Int) - 1) = b) := fun x b h => by rw [← h, ← hP]
  have HP2 := Seg.hid hP
  have wm : IntKind.i64.wrap ((l.length : Int) - 1) = (l.length : Int) - 1 := by rw [IntKind.wrap_i64]; omega
  clear hP
  go_wp2
  go_loop [9] (fun i => ∃ k : Nat, k ≤ ord.length ∧ i = .int .i64 k ∧ Hid ((ord.take k).all P = true)) (fun i => ord.length - (intOf i).toNat)
  case atStart => exact ⟨0, Nat.zero_le _, rfl, by show _ = _; simp⟩
  case round =>
  obtain ⟨k, hk, rfl, HG⟩ := hrel
  by_cases hlt : k < ord.length
  · obtain ⟨ea, hc, hgw⟩ := HO.out.addr.resolve_left (by omega)
    subst ea
    have d0 : w4.cell? ⟨gz, oz + k, none⟩ = some (.int .i64 (ord.getD k default)) := by
      rw [World.cell?_of_block (w := w) (a := ⟨gz, oz + k, none⟩) (BW4.out.block gz hgw)]
      exact TbP.ints_cell HO.out hlt
    have h0 : (0 : Int) ≤ (k : Int) := by omega
    have h1 : (k : Int) < (ord.length : Int) := by omega
    have NX := Seg.hid (all_next P ord k hlt HG.out)
    have BX := Seg.hid (all_bad P ord k hlt)
    generalize ord.getD k default = nk at *
    cases hy : P nk with
    | true =>
      have NY : Hid ((ord.take (k + 1)).all P = true) := NX.out hy
      have CC := Seg.hid (InB.l1In_q nk 0 ((l.length : Int) - 1) true (HP.out nk true hy))
      clear hy NX BX
      go_wp2_with (go_at_call 54; refine (CC.out _).mono ?_; rintro e w5 ⟨rfl, rfl⟩)
      go_round
      case rel => exact ⟨k + 1, by omega, by go_num, NY.out⟩
      case measure => simp [intOf]; omega
    | false =>
      have RN : Hid (RR = []) := by show _ = _; rw [← R1.out]; unfold ordOk; rw [HP2.out, BX.out hy]; rfl
      have CC := Seg.hid (InB.l1In_q nk 0 ((l.length : Int) - 1) false (HP.out nk false hy))
      clear hy NX BX
      go_wp2_with (go_at_call 54; refine (CC.out _).mono ?_; rintro e w5 ⟨rfl, rfl⟩)
      go_ret
      exact ⟨_, rfl, by rw [RN.out]; exact nil_own _ _ _ _, BW4.out⟩
  have hkl : k = ord.length := by omega
  have OK : Hid (ordOk ord l.length = true) := by show _ = _; have := HG.out; rw [hkl, List.take_length] at this; unfold ordOk; rw [HP2.out, this, decide_eq_true k2]; rfl
  have R2 : Hid ((if (whole inp ord).out.length ≤ 400 then (whole inp ord).out else []) = RR) := by show _ = _; rw [← R1.out, OK.out, if_pos rfl]
  have hx1 : ¬ (k : Int) < (ord.length : Int) := by omega
  have O2 : Hid (∀ k, k < ord.length → ∃ p : Nat, ord.getD k default = (p : Int) ∧ p < inp.length ∧ (places ord).getD k 0 = p) := fun k hk => by rw [N12.out]; exact (OO.out OK.out).2 k hk
  clear hkl HG HP HP2 wm R1 OO
  obtain ⟨b8, hb8⟩ : ∃ b8, w2.heap.size = b8 := ⟨_, rfl⟩
  have wb8 : w.heap.size ≤ b8 := by have := B2.out.size; omega
  rw [hb8] at R4 B4
  have L0 : Hid (Wl b8 w2 w4 (ord ++ nats (restK inp 0)) v8) := by show Wl _ _ _ _ _; rw [show nats (restK inp 0) = [] from rfl, List.append_nil]; exact ⟨R4.out, B4.out⟩
  have hb8' : b8 ≤ w2.heap.size := by omega
  clear hb8 R4 B4 hlt
  go_wp2
  go_loopw [8, 10] (fun v i wr => ∃ k : Nat, i = .int .i64 k ∧ k ≤ l.length ∧ Hid (Wl b8 w2 wr (ord ++ nats (restK inp k)) v)) (fun _ i _ => l.length - (intOf i).toNat)
  case atStart => exact ⟨0, rfl, Nat.zero_le _, L0.out⟩
  case round =>
  clear L0 hk hx1
  obtain ⟨k, rfl, hk, HG⟩ := hrel
  by_cases hlt : k < l.length
  · obtain ⟨gi, oi, A', c', eA, hic, hig, hcell, hel⟩ := HIP.out.at' k (by rw [N12.out]; exact hlt)
    subst eA
    have FW := RTH.out.few k
    have RN8 : Hid (nats (restK inp (k + 1)) = nats (restK inp k) ++ nats (List.replicate (inp.getD k []).length k)) := by show _ = _; rw [restK, nats_app]
    have XL : Hid ((ord ++ nats (restK inp k)).length ≤ 700) := by
      show _ ≤ _
      have h1 := rest_len inp k (by rw [N12.out]; exact hk)
      have h2 := cnt_le inp k
      have h3 := CN.out
      unfold nats
      rw [List.length_append, List.length_map]
      omega
    have FW' : (inp.getD k []).length ≤ 300 := FW
    obtain ⟨m, hm⟩ : ∃ m, (inp.getD k []).length = m := ⟨_, rfl⟩
    rw [hm] at hcell RN8 FW'
    have n0 : (0 : Int) ≤ (k : Int) := by omega
    have n1 : (k : Int) < (l.length : Int) := by omega
    have n3 : (k : Int) < (inp.length : Int) := by have := N12.out; omega
    have HC := Seg.hid hcell
    clear FW hel hm hcell
    obtain ⟨xs, hxs⟩ : ∃ xs, ord ++ nats (restK inp k) = xs := ⟨_, rfl⟩
    rw [hxs] at HG XL
    have HXS := Seg.hid hxs
    clear hxs
    go_wp2
    go_loopw [8, 11] (fun v j wq => ∃ q : Nat, j = .int .i64 q ∧ q ≤ m ∧ Hid (Wl b8 w2 wq (xs ++ nats (List.replicate q k)) v)) (fun _ j _ => m - (intOf j).toNat)
    case atStart => exact ⟨0, rfl, Nat.zero_le _, by show Wl _ _ _ _ _; rw [show nats (List.replicate 0 k) = [] from rfl, List.append_nil]; exact HG.out⟩
    case round =>
    clear HG
    obtain ⟨q, rfl, hq, HJ⟩ := hrel
    have d0 : wr.cell? ⟨gi, oi + k, none⟩ = some (.slice A' m c') := by
      rw [World.cell?_of_block (w := w2) (a := ⟨gi, oi + k, none⟩) (HJ.out.bel.block gi (by omega)), World.cell?_of_block (w := w) (a := ⟨gi, oi + k, none⟩) (B2.out.block gi hig)]
      exact HC.out
    by_cases hqm : q < m
    · have LQ := Seg.hid HJ.out.lie
      have BQ := Seg.hid HJ.out.bel
      have q1 : (q : Int) < (m : Int) := by omega
      have NX : Hid (xs ++ nats (List.replicate (q + 1) k) = (xs ++ nats (List.replicate q k)) ++ [(k : Int)]) := by show _ = _; rw [List.replicate_succ', nats_app, List.append_assoc]; rfl
      have LN : Hid ((xs ++ nats (List.replicate q k)).length ≤ 1000) := by show _ ≤ _; have := XL.out; unfold nats; rw [List.length_append, List.length_map, List.length_replicate]; omega
      clear HJ
      generalize xs ++ nats (List.replicate q k) = st at *
      obtain ⟨v3, hv3⟩ : ∃ v3, v3 = u8 := ⟨_, rfl⟩
      rw [← hv3] at LQ ⊢
      clear hv3
      obtain ⟨A9, c9, rfl⟩ := EdI.NRow_form LQ.out
      have ws0 : b8 ≤ wr.heap.size := by have := BQ.out.size; omega
      have OW : Hid (∀ ob, (wr.alloc ob).ownsRow b8 3 1 (.slice A9 st.length c9) st.length (st.map (Value.int .i64))) := fun ob => LQ.out.keep (below1 wr ob)
      go_wp2_with (at_builtin; (refine wpList_append_lies _ rfl _ _ 27 rfl b8 3 i0 _ 1 8 Try.underlying27 hi hz0 hz1 hz2 rfl (by decide) (.slice A9 st.length c9) st.length (st.map (Value.int .i64)) rfl (OW.out _) ⟨wr.heap.size, 0, none⟩ 1 1 [.int .i64 k] rfl rfl (World.news_of_block (cs := #[.int .i64 k]) (heap_alloc_new _ _)) (by simp [Value.oneCell']) (by decide) (by have := LN.out; unfold maxLen; omega) (by have := LN.out; omega) (by rw [hsz]; omega) (wr.heap.size + 1) (by rw [hsz]) ?_; intro g9 cap9 w9 hown9 gr9 hat9 hlt9; have RN := Seg.hid (NRow.put hown9); have B9 : Hid (Below b8 w2 w9) := (BQ.out.trans ((below1 wr _).mono ws0)).grown gr9 (by rw [hsz]; omega) (fun y hy => (row_lt LQ.out y hy).1); clear hown9 gr9 hat9 hlt9))
      go_roundw
      case rel => exact ⟨q + 1, by go_num, hqm, by rw [NX.out]; exact RN.out, B9.out⟩
      case measure => simp [intOf]; omega
    · have hqe : q = m := by omega
      have HN : Hid (Wl b8 w2 wr (ord ++ nats (restK inp (k + 1))) u8) := by show Wl _ _ _ _ _; rw [RN8.out, ← List.append_assoc, HXS.out, ← hqe]; exact HJ.out
      have q1 : ¬ (q : Int) < (m : Int) := by omega
      clear HJ hqe
      go_wp2
      go_roundw
      case rel => exact ⟨k + 1, by go_num, hlt, HN.out⟩
      case measure => simp [intOf]; omega
  have hkl : k = inp.length := by have := N12.out; omega
  have hx1 : ¬ (k : Int) < (l.length : Int) := by omega
  obtain ⟨L, hL⟩ : ∃ L, places ord ++ restK inp inp.length = L := ⟨_, rfl⟩
  have LS : Hid (NRow wr b8 u8 (nats L)) := by
    have h1 := HG.out.lie
    rw [hkl] at h1
    show NRow _ _ _ _
    rw [← hL, nats_app]
    have h2 : nats (places ord) = ord := nats_places (fun k hk => O2.out k hk)
    rw [h2]
    exact h1
  have LL : Hid (L.length ≤ 700) := by
    show _ ≤ _
    have h1 := rest_len inp inp.length (Nat.le_refl _)
    have h2 := cnt_le inp inp.length
    have h3 := CN.out
    rw [← hL, List.length_append]
    unfold places
    rw [List.length_map]
    omega
  have LP : Hid (∀ j, j < L.length → L.getD j 0 < inp.length) := by rw [← hL]; exact places_lt (fun k hk => O2.out k hk)
  have WH : Hid (whole inp ord = endK inp.length (run L (EdP.start inp))) := by show _ = _; rw [whole_eq, hL]
  have BQ := Seg.hid HG.out.bel
  obtain ⟨v8', hv8⟩ : ∃ v8', v8' = u8 := ⟨_, rfl⟩
  rw [← hv8] at LS ⊢
  clear hkl hL HG O2 HO HZ hv8
  obtain ⟨A8, c8, rfl⟩ := EdI.NRow_form LS.out
  have ll : (nats L).length = L.length := List.length_map ..
  rw [ll]
  clear ll
  have l10 : l.length ≤ 10 := by have := N12.out; omega
  have MK : ∀ wx : World, (Instr.makeSlice 27 (.int .i64 (l.length : Int)) (.int .i64 (l.length : Int))).run Try.prog wx = .ok (.slice (some ⟨wx.heap.size, 0, none⟩) l.length l.length) (wx.alloc (.cells (rowN l.length (fun _ => 0)) 3 (0, 0))) := fun wx => made_zero wx l.length (by omega)
  generalize wr = w6 at *
  obtain ⟨bo, hbo⟩ : ∃ bo, w6.heap.size = bo := ⟨_, rfl⟩
  go_upto_region 20 with fail
  clear MK
  obtain ⟨w7, hw7⟩ : ∃ w7, ((w6.alloc (.cells #[] 90 (0, 0))).alloc (.cells (rowN l.length (fun _ => 0)) 3 (0, 0))).alloc (.cells (rowN l.length (fun _ => 0)) 3 (0, 0)) = w7 := ⟨_, rfl⟩
  have OB : Hid (Ob bo (bo + 1) (bo + 1 + 1) (bo + 1 + 1 + 1)) := ⟨by omega, by omega, by omega⟩
  have M7 : Hid (Md w6 bo (bo + 1) (bo + 1 + 1) (bo + 1 + 1 + 1) l.length inp w7 (.slice (some ⟨bo, 0, none⟩) 0 0) (run (L.take 0) (EdP.start inp)) (fun _ => 0)) := by
    show Md _ _ _ _ _ _ _ _ _ _ _
    rw [← hw7, ← hbo]
    exact md_start w6 l.length inp
  try rw [hbo]
  try rw [hw7]
  have wbo : w.heap.size ≤ bo := by have := BQ.out.size; have := B2.out.size; omega
  have B6 : Hid (Below w.heap.size w w6) := B2.out.trans (BQ.out.mono (by omega))
  clear hw7 BQ
  obtain ⟨gn, hgn⟩ : ∃ gn, bo + 1 = gn := ⟨_, rfl⟩
  rw [hgn] at M7 OB ⊢
  obtain ⟨gm, hgm⟩ : ∃ gm, gn + 1 = gm := ⟨_, rfl⟩
  rw [hgm] at M7 OB ⊢
  obtain ⟨bq, hbq⟩ : ∃ bq, gm + 1 = bq := ⟨_, rfl⟩
  rw [hbq] at M7 OB
  have obq : bo ≤ bq := by omega
  have obn : bo < bq := by omega
  clear hgn hgm hbq hx1 hlt hk
  obtain ⟨j0, hj0, hj1, hj2, hj3⟩ := info_parts EdM.infoC
  go_wp2
  go_loopw [12, 15] (fun v i wr => ∃ (k : Nat) (nx : Nat → Nat), i = .int .i64 k ∧ k ≤ L.length ∧ Hid (Md w6 bo gn gm bq l.length inp wr v (run (L.take k) (EdP.start inp)) nx)) (fun _ i _ => L.length - (intOf i).toNat)
  case atStart => exact ⟨0, fun _ => 0, rfl, Nat.zero_le _, M7.out⟩
  case round =>
  clear M7
  obtain ⟨k, nx, rfl, hk, HG⟩ := hrel
  by_cases hlt : k < L.length
  · obtain ⟨g8, cap8, e8, hg1, hg2, hcell8, -, hcap8⟩ := NRow.open LS.out (show 0 < (nats L).length by unfold nats; rw [List.length_map]; omega)
    simp only [Value.slice.injEq] at e8
    obtain ⟨rfl, -, rfl⟩ := e8
    have nl : (nats L).length = L.length := List.length_map ..
    rw [nl] at hcap8
    have hpl := LP.out k hlt
    have hpl' : L.getD k 0 < l.length := by rw [← N12.out]; exact hpl
    have c8k := hcell8 k (by rw [nl]; exact hlt)
    have NXS := Seg.hid (run_next hlt (EdP.start inp))
    have en : (nats L).getD k 0 = (L.getD k 0 : Int) := by unfold nats; simp [List.getD_eq_getElem?_getD, hlt]
    rw [en] at c8k
    have RT : Hid (EdA.Rt (run (L.take k) (EdP.start inp))) := RTH.out.run _
    have OT : Hid ((run (L.take k) (EdP.start inp)).out.length ≤ 100000) := by
      show _ ≤ _
      have h1 := run_out (L.take k) (EdP.start inp)
      have h2 : (EdP.start inp).out.length = 0 := rfl
      have h3 := LL.out
      rw [List.length_take] at h1
      omega
    obtain ⟨p, hp⟩ : ∃ p, L.getD k 0 = p := ⟨_, rfl⟩
    rw [hp] at hpl hpl' c8k NXS
    clear hp en nl hcell8
    obtain ⟨t, ht⟩ : ∃ t, run (L.take k) (EdP.start inp) = t := ⟨_, rfl⟩
    rw [ht] at HG NXS RT OT
    clear ht
    have d0 : wr.cell? ⟨g8, k, none⟩ = some (.int .i64 p) := by
      rw [World.cell?_of_block (w := w6) (a := ⟨g8, k, none⟩) (HG.out.bel.block g8 (by omega))]
      exact c8k
    obtain ⟨gi, oi, A', c', eA, hic, hig, hcell, hel⟩ := HIP.out.at' p hpl
    subst eA
    have HC := Seg.hid hcell
    have HEL := Seg.hid hel
    have d1 : ∀ wx, Below bo w6 wx → wx.cell? ⟨gi, oi + p, none⟩ = some (.slice A' (inp.getD p []).length c') := fun wx bx => by
      rw [World.cell?_of_block (w := w6) (a := ⟨gi, oi + p, none⟩) (bx.block gi (by omega)), World.cell?_of_block (w := w) (a := ⟨gi, oi + p, none⟩) (B6.out.block gi hig)]
      exact hcell
    have D1 := Seg.hid d1
    have d2 := d1 wr HG.out.bel
    have d3 : wr.cell? ⟨gn, p, none⟩ = some (.int .i64 (nx p : Int)) := by rw [cell_of_row wr gn p _ _ (0, 0) HG.out.nxt]; exact rowN_at _ hpl'
    have LEF : Hid (t.left p = (inp.getD p []).drop (nx p)) := HG.out.lef p
    have FW : (inp.getD p []).length ≤ 300 := RTH.out.few p
    have i0 : (0 : Int) ≤ (k : Int) := by omega
    have i1 : (k : Int) < (L.length : Int) := by omega
    have p0 : (0 : Int) ≤ (p : Int) := by omega
    have lb : L.length ≤ 700 := LL.out
    have p1 : (p : Int) < (l.length : Int) := by omega
    have p2 : (p : Int) < (inp.length : Int) := by omega
    obtain ⟨m, hm⟩ : ∃ m, (inp.getD p []).length = m := ⟨_, rfl⟩
    rw [hm] at d2 D1 FW
    have HM := Seg.hid hm
    obtain ⟨j, hj⟩ : ∃ j, nx p = j := ⟨_, rfl⟩
    rw [hj] at d3 LEF
    have HJ := Seg.hid hj
    clear c8k hcell hel d1 hm hj
    by_cases hmj : m ≤ j
    · have BE : Hid (bring p t = t) := bring_nil (by rw [LEF.out]; exact List.drop_eq_nil_of_le (by rw [HM.out]; exact hmj))
      have b0 : ((m : Int) ≤ (j : Int)) := by omega
      have b1 : decide ((m : Int) ≤ (j : Int)) = true := decide_eq_true b0
      have HN : Hid (Md w6 bo gn gm bq l.length inp wr u12 (run (L.take (k + 1)) (EdP.start inp)) nx) := by show Md _ _ _ _ _ _ _ _ _ _ _; rw [NXS.out, BE.out]; exact HG.out
      clear HG b0
      go_upto_region 24 with fail
      go_quiet (fail)
      obtain ⟨wo, hwo⟩ : ∃ wo, wr.drewN nq = wo := ⟨_, rfl⟩
      have HN2 : Hid (Md w6 bo gn gm bq l.length inp wo u12 (run (L.take (k + 1)) (EdP.start inp)) nx) := by show Md _ _ _ _ _ _ _ _ _ _ _; rw [← hwo]; exact HN.out.keep OB.out (below_drewN (Below.refl _ _) nq)
      try rw [hwo]
      clear hwo HN d0 d2 d3
      go_wp2
      go_roundw
      case rel => exact ⟨k + 1, nx, by go_num, hlt, HN2.out⟩
      case measure => simp [intOf]; omega
    have b0 : ¬ ((m : Int) ≤ (j : Int)) := by omega
    have b1 : decide ((m : Int) ≤ (j : Int)) = false := decide_eq_false b0
    go_upto_region 24 with fail
    go_quiet (fail)
    obtain ⟨wo, hwo⟩ : ∃ wo, wr.drewN nq = wo := ⟨_, rfl⟩
    have HO : Hid (Md w6 bo gn gm bq l.length inp wo u12 t nx) := by show Md _ _ _ _ _ _ _ _ _ _ _; rw [← hwo]; exact HG.out.keep OB.out (below_drewN (Below.refl _ _) nq)
    try rw [hwo]
    clear hwo HG d0 d2 d3 b0 b1
    have d2 := D1.out wo HO.out.bel
    have d3 : wo.cell? ⟨gn, p, none⟩ = some (.int .i64 (j : Int)) := by rw [cell_of_row wo gn p _ _ (0, 0) HO.out.nxt, rowN_at _ hpl', HJ.out]
    have d4 : wo.cell? ⟨gm, p, none⟩ = some (.int .i64 (t.marks p)) := by rw [cell_of_row wo gm p _ _ (0, 0) HO.out.mrk]; exact rowN_at _ hpl'
    obtain ⟨us, hus⟩ : ∃ us, t.left p = us := ⟨_, rfl⟩
    have UL : us.length = m - j := by rw [← hus, LEF.out, List.length_drop, HM.out]
    rw [hus] at LEF
    have US := Seg.hid hus
    clear hus
    obtain ⟨_, ka, ga, oa, Fa, eB, hop, -⟩ := opn HEL.out hS
    simp only [Value.slice.injEq] at eB
    obtain ⟨rfl, -, rfl⟩ := eB
    obtain ⟨eA, hca, hga⟩ := hop.addr.resolve_left (by rw [HM.out]; omega)
    subst eA
    have HOP := Seg.hid hop
    rw [HM.out] at hca
    have AT : Hid (∀ q, q < m - j → ∀ wx, Below bo w6 wx → ∃ A1 c1, IntsAt wx S (.slice A1 (us.getD q default).row.length c1) (us.getD q default).row ∧ wx.cell? ⟨ga, oa + (j + q) * 3, none⟩ = some (.int .i64 (us.getD q default).time) ∧ wx.cell? ⟨ga, oa + (j + q) * 3 + 1, none⟩ = some (.slice A1 (us.getD q default).row.length c1) ∧ wx.cell? ⟨ga, oa + (j + q) * 3 + 2, none⟩ = some (.bool (us.getD q default).gone)) := fun q hq wx bx => by
      have e : us.getD q default = (inp.getD p []).getD (j + q) default := by rw [LEF.out, List.getD_eq_getElem?_getD, List.getElem?_drop, ← List.getD_eq_getElem?_getD]
      rw [e]
      exact TbP.arr_at HOP.out hS (B6.out.trans (bx.mono wbo)) (by rw [HM.out]; omega)
    have DT : Hid (∀ q, q < m - j → wo.cell? ⟨ga, oa + (j + q) * 3, none⟩ = some (.int .i64 (us.getD q default).time)) := fun q hq => by
      obtain ⟨A1, c1, -, h2, -⟩ := AT.out q hq wo HO.out.bel
      exact h2
    clear hop
    go_wp2
    go_loop [17, 18] (fun a b => ∃ q : Nat, q ≤ m - j ∧ b = .int .i64 ((j + q : Nat) : Int) ∧ a = .int .i64 (leastF 1000000000000 (us.take q))) (fun _ b => m - (intOf b).toNat)
    case atStart => exact ⟨0, Nat.zero_le _, rfl, rfl⟩
    case round =>
    clear d3
    obtain ⟨q, hq, rfl, rfl⟩ := hrel
    by_cases hqm : q < m - j
    · have e0 := DT.out q hqm
      have CL := Seg.hid (least_any (leastF 1000000000000 (us.take q)) (us.getD q default).time)
      have NL := Seg.hid (least_next 1000000000000 (show q < us.length by rw [UL]; exact hqm))
      have q0 : (0 : Int) ≤ ((j + q : Nat) : Int) := by omega
      have q1 : ((j + q : Nat) : Int) < (m : Int) := by omega
      have q2 : j + q < m := by omega
      obtain ⟨x, hx⟩ : ∃ x, j + q = x := ⟨_, rfl⟩
      rw [hx] at e0 q0 q1 q2 ⊢
      generalize (us.getD q default).time = tq at *
      generalize leastF 1000000000000 (us.take q) = lq at *
      have HX := Seg.hid hx
      clear hx
      go_wp2_with (go_at_call 55; refine (CL.out _).mono ?_; rintro e w5 ⟨rfl, rfl⟩)
      go_round
      case rel => exact ⟨q + 1, by omega, by rw [← Nat.add_assoc, HX.out]; go_num, by rw [NL.out]⟩
      case measure => simp [intOf]; omega
    have hqe : q = m - j := by omega
    have LE : Hid (leastF 1000000000000 (us.take q) = leastA us) := by show _ = _; rw [hqe, ← UL, List.take_length]; rfl
    have q1 : ¬ ((j + q : Nat) : Int) < (m : Int) := by omega
    rw [LE.out]
    obtain ⟨mn, hmn⟩ : ∃ mn, leastA us = mn := ⟨_, rfl⟩
    rw [hmn]
    obtain ⟨a, r, har⟩ : ∃ a r, us = a :: r := by
      match us, UL with
      | [], h => simp at h; omega
      | a :: r, _ => exact ⟨a, r, rfl⟩
    have BR : Hid (bring p t = ⟨upd (noteS p mn t).left p r, (noteS p mn t).marks, (noteS p mn t).out ++ [cmA p a]⟩) := by
      show _ = _
      unfold bring
      rw [US.out, har]
      dsimp only
      rw [← har, hmn]
    have UA : Hid (us.getD 0 default = a) := by show _ = _; rw [har]; rfl
    have HAR := Seg.hid har
    have AT0 : Hid (∀ wx, Below bo w6 wx → ∃ A1 c1, IntsAt wx S (.slice A1 a.row.length c1) a.row ∧ wx.cell? ⟨ga, oa + j * 3, none⟩ = some (.int .i64 a.time) ∧ wx.cell? ⟨ga, oa + j * 3 + 1, none⟩ = some (.slice A1 a.row.length c1) ∧ wx.cell? ⟨ga, oa + j * 3 + 2, none⟩ = some (.bool a.gone)) := fun wx bx => by
      have h := AT.out 0 (by omega) wx bx
      rw [UA.out, Nat.add_zero] at h
      exact h
    have RL : Hid (a.row.length ≤ 1048576) := (RT.out.ok p a (by rw [US.out, har]; simp)).2
    clear hmn har LE hqe AT DT
    by_cases hnt : t.marks p < mn
    · obtain ⟨tt, htt⟩ : ∃ tt, noteS p mn t = tt := ⟨_, rfl⟩
      have NT : Hid (tt = markS p mn t) := by show _ = _; rw [← htt]; unfold noteS; rw [if_pos hnt]
      rw [htt] at BR
      have TL : Hid (tt.left p = a :: r) := by show _ = _; rw [← htt, note_left, US.out, HAR.out]
      have OTT : Hid (tt.out.length ≤ 100001) := by show _ ≤ _; rw [← htt]; have := note_out p mn t; have := OT.out; omega
      have M1 : Hid (Md w6 bo gn gm bq l.length inp (wo.setCell ⟨gm, p, none⟩ (.int .i64 mn)) u12 ⟨t.left, upd t.marks p mn, t.out⟩ nx) := HO.out.note OB.out mn
      have f4 := frozen_of_row wo gm p _ _ HO.out.mrk
      clear htt
      go_upto_region 32 with fail
      obtain ⟨w8, hw8⟩ : ∃ w8, wo.setCell ⟨gm, p, none⟩ (.int .i64 mn) = w8 := ⟨_, rfl⟩
      rw [hw8] at M1
      try rw [hw8]
      clear hw8 d2 d4 f4 HO
      obtain ⟨A7, c7, hv⟩ := M1.out.out.form
      obtain ⟨v7, hv7⟩ : ∃ v7, v7 = u12 := ⟨_, rfl⟩
      rw [← hv7] at M1 hv ⊢
      clear hv7
      subst hv
      obtain ⟨F7, P7, LG0, LP0⟩ := M1.out.out.gro
      have LG : Hid (Ow.LGr 90 5 Ow.EOCmg w8 bo (.slice A7 t.out.length c7) t.out F7 P7) := LG0
      have LPH := Seg.hid LP0
      have M1' : Hid (Md w6 bo gn gm bq l.length inp w8 (.slice A7 t.out.length c7) ⟨t.left, upd t.marks p mn, t.out⟩ nx) := M1.out
      have BG := M1.out.big
      clear LG0 LP0 M1
      have OWN : Hid (∀ o1, (w8.alloc o1).ownsRow bo 90 5 (.slice A7 t.out.length c7) t.out.length ((List.range (t.out.length * 5)).map F7)) := fun o1 => Ow.own_keep LG.out.own (fun y _ hy => (below1 w8 o1).block y hy)
      go_upto_region 33 with (at_builtin; (refine wpList_append_lies _ rfl _ _ 48 rfl bo 90 j0 _ 5 56 Try.underlying48 hj0 hj1 hj2 hj3 rfl (by decide) (.slice A7 t.out.length c7) t.out.length ((List.range (t.out.length * 5)).map F7) rfl (OWN.out _) ⟨w8.heap.size, 0, none⟩ 1 1 [.int .i64 p, .int .i64 0, .slice none 0 0, .bool false, .int .i64 mn] rfl rfl (World.news_of_block (cs := #[.int .i64 p, .int .i64 0, .slice none 0 0, .bool false, .int .i64 mn]) (heap_alloc_new _ _)) (by simp [Value.oneCell']) (by decide) (by have := OT.out; unfold maxLen; omega) (by have := OT.out; omega) (by rw [hsz]; omega) _ rfl ?_; intro g9 cap9 w9 hown9 gr9 hat9 hlt9; have HD : Hid (Md w6 bo gn gm bq l.length inp w9 (.slice (some ⟨g9, 0, none⟩) (t.out.length + 1) cap9) tt nx) := (by show Md _ _ _ _ _ _ _ _ _ _ _; rw [NT.out]; exact Md.push (s := ⟨t.left, upd t.marks p mn, t.out⟩) M1'.out OB.out LG.out LPH.out (below1 w8 _) (EdM.eo_mark _ p mn) (fun _ h => h.elim) rfl hown9 gr9 hat9); clear hown9 gr9 hat9 hlt9))
      have TO : tt.out.length = t.out.length + 1 := by rw [NT.out]; unfold markS; rw [List.length_append]; rfl
      rw [← TO] at HD ⊢
      clear M1' LG LPH OWN NT TO hnt BG
      have e2 := D1.out w9 HD.out.bel
      have e3 : w9.cell? ⟨gn, p, none⟩ = some (.int .i64 (j : Int)) := by rw [cell_of_row w9 gn p _ _ (0, 0) HD.out.nxt, rowN_at _ hpl', HJ.out]
      obtain ⟨A1, c1, q4, e4, e5, e6⟩ := AT0.out w9 HD.out.bel
      have QR := Seg.hid q4
      have j1 : (0 : Int) ≤ (j : Int) := by omega
      have j2 : (j : Int) < (m : Int) := by omega
      have BG := HD.out.big
      have SW : Hid (∀ y, S y → y < w9.heap.size) := fun y hy => by have := hS y hy; omega
      have CPY : Hid (Calls Try.prog 56 #[.agg #[.int .i64 a.time, .slice A1 a.row.length c1, .bool a.gone]] w9.drew fun e w' => ∃ A' c', e = .returned (.agg #[.int .i64 a.time, .slice A' a.row.length c', .bool a.gone]) ∧ NRow w' w9.heap.size (.slice A' a.row.length c') a.row ∧ Below w9.heap.size w9 w') := (copy_any a A1 c1 w9.drew S (LAt.keep keepsI QR.out (fun _ _ => rfl)) SW.out RL.out).mono fun e w' ⟨A', c', h1, h2, h3⟩ => ⟨A', c', h1, h2, ⟨h3.os, h3.tape, h3.output, h3.size, h3.block⟩⟩
      obtain ⟨F8, P8, LG0, LP0⟩ := HD.out.out.gro
      have LG := Seg.hid LG0
      have LPH := Seg.hid LP0
      clear q4 LG0 LP0 QR
      go_region_law (first | (go_simp; go_at_call 56; refine CPY.out.mono ?_; rintro e wc ⟨A2, c2, rfl, h2, b2⟩; have R2 := Seg.hid h2; have BC := Seg.hid b2; have BS := b2.size; clear h2 b2) | (refine step_append_lies _ (by rfl) _ _ _ (by rfl) bo 90 j0 _ 5 56 Try.underlying48 hj0 hj1 hj2 hj3 rfl (by decide) (.slice (some ⟨g9, 0, none⟩) tt.out.length cap9) tt.out.length ((List.range (tt.out.length * 5)).map F8) (by rfl) (Ow.own_keep LG.out.own (fun y _ hy => (chain BC.out (below1 wc _)).block y hy)) ⟨wc.heap.size, 0, none⟩ 1 1 [.int .i64 p, .int .i64 a.time, .slice A2 a.row.length c2, .bool a.gone, .int .i64 (-1)] (by rfl) (by rfl) (World.news_of_block (cs := #[.int .i64 p, .int .i64 a.time, .slice A2 a.row.length c2, .bool a.gone, .int .i64 (-1)]) (heap_alloc_new _ _)) (by simp [Value.oneCell']) (by decide) (by have := OTT.out; unfold maxLen; omega) (by have := OTT.out; omega) (by show _ ≤ (wc.alloc _).heap.size; rw [hsz]; omega) _ rfl ?_; intro g10 cap10 w10 hown9 gr9 hat9 hlt9; have HE := Seg.hid (HD.out.push OB.out LG.out LPH.out (chain BC.out (below1 wc _)) (EdB.eo_arr (p := p) (R2.out.keep (below1 wc _)) R2.out RL.out) (fun x hx => ⟨by have := hx.1; omega, by have := hx.2; rw [hsz]; omega⟩) rfl hown9 gr9 hat9); clear hown9 gr9 hat9 hlt9))
      all_goals (
        go_upto_region 34 with fail
        have z3 : w10.cell? ⟨gn, p, none⟩ = some (.int .i64 (j : Int)) := by rw [cell_of_row w10 gn p _ _ (0, 0) HE.out.nxt, rowN_at _ hpl', HJ.out]
        have zf := frozen_of_row w10 gn p _ _ HE.out.nxt
        have HF := Seg.hid (HE.out.next OB.out (p := p) (a := a) (r := r) TL.out)
        rw [HJ.out] at HF
        have wj : IntKind.i64.wrap ((j : Int) + 1) = (j : Int) + 1 := by rw [IntKind.wrap_i64]; omega
        have HN : Hid (run (L.take (k + 1)) (EdP.start inp) = ⟨upd tt.left p r, tt.marks, tt.out ++ [cmA p a]⟩) := by show _ = _; rw [NXS.out, BR.out]
        clear HE HD LG LPH e2 e3 e4 e5 e6 CPY
        go_wp2
        go_roundw
        case rel => exact ⟨k + 1, _, by go_num, hlt, by rw [HN.out]; exact HF.out⟩
        case measure => simp [intOf]; omega)
    · obtain ⟨tt, htt⟩ : ∃ tt, noteS p mn t = tt := ⟨_, rfl⟩
      have NT : Hid (t = tt) := by show _ = _; rw [← htt]; unfold noteS; rw [if_neg hnt]
      rw [htt] at BR
      have TL : Hid (tt.left p = a :: r) := by show _ = _; rw [← htt, note_left, US.out, HAR.out]
      have OTT : Hid (tt.out.length ≤ 100001) := by show _ ≤ _; rw [← htt]; have := note_out p mn t; have := OT.out; omega
      clear htt
      go_upto_region 33 with fail
      obtain ⟨A7, c7, hv⟩ := HO.out.out.form
      obtain ⟨v7, hv7⟩ : ∃ v7, v7 = u12 := ⟨_, rfl⟩
      rw [← hv7] at HO hv ⊢
      clear hv7
      subst hv
      have HD : Hid (Md w6 bo gn gm bq l.length inp wo (.slice A7 tt.out.length c7) tt nx) := by show Md _ _ _ _ _ _ _ _ _ _ _; rw [← NT.out]; exact HO.out
      have TO : t.out.length = tt.out.length := by rw [NT.out]
      rw [TO]
      clear HO NT TO hnt d2 d4
      have e2 := D1.out wo HD.out.bel
      have e3 : wo.cell? ⟨gn, p, none⟩ = some (.int .i64 (j : Int)) := by rw [cell_of_row wo gn p _ _ (0, 0) HD.out.nxt, rowN_at _ hpl', HJ.out]
      obtain ⟨A1, c1, q4, e4, e5, e6⟩ := AT0.out wo HD.out.bel
      have QR := Seg.hid q4
      have j1 : (0 : Int) ≤ (j : Int) := by omega
      have j2 : (j : Int) < (m : Int) := by omega
      have BG := HD.out.big
      have SW : Hid (∀ y, S y → y < wo.heap.size) := fun y hy => by have := hS y hy; omega
      have CPY : Hid (Calls Try.prog 56 #[.agg #[.int .i64 a.time, .slice A1 a.row.length c1, .bool a.gone]] wo.drew fun e w' => ∃ A' c', e = .returned (.agg #[.int .i64 a.time, .slice A' a.row.length c', .bool a.gone]) ∧ NRow w' wo.heap.size (.slice A' a.row.length c') a.row ∧ Below wo.heap.size wo w') := (copy_any a A1 c1 wo.drew S (LAt.keep keepsI QR.out (fun _ _ => rfl)) SW.out RL.out).mono fun e w' ⟨A', c', h1, h2, h3⟩ => ⟨A', c', h1, h2, ⟨h3.os, h3.tape, h3.output, h3.size, h3.block⟩⟩
      obtain ⟨F8, P8, LG0, LP0⟩ := HD.out.out.gro
      have LG := Seg.hid LG0
      have LPH := Seg.hid LP0
      clear q4 LG0 LP0 QR
      go_region_law (first | (go_simp; go_at_call 56; refine CPY.out.mono ?_; rintro e wc ⟨A2, c2, rfl, h2, b2⟩; have R2 := Seg.hid h2; have BC := Seg.hid b2; have BS := b2.size; clear h2 b2) | (refine step_append_lies _ (by rfl) _ _ _ (by rfl) bo 90 j0 _ 5 56 Try.underlying48 hj0 hj1 hj2 hj3 rfl (by decide) (.slice A7 tt.out.length c7) tt.out.length ((List.range (tt.out.length * 5)).map F8) (by rfl) (Ow.own_keep LG.out.own (fun y _ hy => (chain BC.out (below1 wc _)).block y hy)) ⟨wc.heap.size, 0, none⟩ 1 1 [.int .i64 p, .int .i64 a.time, .slice A2 a.row.length c2, .bool a.gone, .int .i64 (-1)] (by rfl) (by rfl) (World.news_of_block (cs := #[.int .i64 p, .int .i64 a.time, .slice A2 a.row.length c2, .bool a.gone, .int .i64 (-1)]) (heap_alloc_new _ _)) (by simp [Value.oneCell']) (by decide) (by have := OTT.out; unfold maxLen; omega) (by have := OTT.out; omega) (by show _ ≤ (wc.alloc _).heap.size; rw [hsz]; omega) _ rfl ?_; intro g9 cap9 w9 hown9 gr9 hat9 hlt9; have HE := Seg.hid (HD.out.push OB.out LG.out LPH.out (chain BC.out (below1 wc _)) (EdB.eo_arr (p := p) (R2.out.keep (below1 wc _)) R2.out RL.out) (fun x hx => ⟨by have := hx.1; omega, by have := hx.2; rw [hsz]; omega⟩) rfl hown9 gr9 hat9); clear hown9 gr9 hat9 hlt9))
      all_goals (
        go_upto_region 34 with fail
        have z3 : w9.cell? ⟨gn, p, none⟩ = some (.int .i64 (j : Int)) := by rw [cell_of_row w9 gn p _ _ (0, 0) HE.out.nxt, rowN_at _ hpl', HJ.out]
        have zf := frozen_of_row w9 gn p _ _ HE.out.nxt
        have HF := Seg.hid (HE.out.next OB.out (p := p) (a := a) (r := r) TL.out)
        rw [HJ.out] at HF
        have wj : IntKind.i64.wrap ((j : Int) + 1) = (j : Int) + 1 := by rw [IntKind.wrap_i64]; omega
        have HN : Hid (run (L.take (k + 1)) (EdP.start inp) = ⟨upd tt.left p r, tt.marks, tt.out ++ [cmA p a]⟩) := by show _ = _; rw [NXS.out, BR.out]
        clear HE HD LG LPH e2 e3 e4 e5 e6 CPY
        go_wp2
        go_roundw
        case rel => exact ⟨k + 1, _, by go_num, hlt, by rw [HN.out]; exact HF.out⟩
        case measure => simp [intOf]; omega)
  have hkl : k = L.length := by omega
  have HT : Hid (Me w6 bo bq wr u12 (endK 0 (run L (EdP.start inp))).out) := by
    have h := HG.out
    rw [hkl, List.take_length] at h
    exact ⟨h.bel, h.out, h.big⟩
  have hx1 : ¬ (k : Int) < (L.length : Int) := by omega
  have OT : Hid ((run L (EdP.start inp)).out.length ≤ 100000) := by
    show _ ≤ _
    have h1 := run_out L (EdP.start inp)
    have h2 : (EdP.start inp).out.length = 0 := rfl
    have h3 := LL.out
    omega
  have WH2 : Hid (whole inp ord = endK l.length (run L (EdP.start inp))) := by show _ = _; rw [WH.out, N12.out]
  clear hkl HG LS LP WH OB RTH
  obtain ⟨T, hT⟩ : ∃ T, run L (EdP.start inp) = T := ⟨_, rfl⟩
  rw [hT] at HT OT WH2
  clear hT
  go_wp2
  go_loopw [12, 19] (fun v i wr => ∃ k : Nat, i = .int .i64 k ∧ k ≤ l.length ∧ Hid (Me w6 bo bq wr v (endK k T).out)) (fun _ i _ => l.length - (intOf i).toNat)
  case atStart => exact ⟨0, rfl, Nat.zero_le _, HT.out⟩
  case round =>
  clear HT hk hlt hx1
  obtain ⟨k, rfl, hk, HG⟩ := hrel
  by_cases hlt : k < l.length
  · have i0 : (0 : Int) ≤ (k : Int) := by omega
    have i1 : (k : Int) < (l.length : Int) := by omega
    have EN : Hid ((endK (k + 1) T).out = (endK k T).out ++ [cmM k 1000000000001]) := rfl
    have LN : Hid ((endK k T).out.length ≤ 100100) := by show _ ≤ _; rw [end_out]; have := OT.out; omega
    obtain ⟨us, hus⟩ : ∃ us, (endK k T).out = us := ⟨_, rfl⟩
    rw [hus] at HG EN LN
    clear hus
    obtain ⟨A7, c7, hv⟩ := HG.out.out.form
    obtain ⟨v7, hv7⟩ : ∃ v7, v7 = u12 := ⟨_, rfl⟩
    rw [← hv7] at HG hv ⊢
    clear hv7
    subst hv
    obtain ⟨F7, P7, LG0, LP0⟩ := HG.out.out.gro
    have LG := Seg.hid LG0
    have LPH := Seg.hid LP0
    have BG := HG.out.big
    clear LG0 LP0
    have OWN : Hid (∀ o1, (wr.alloc o1).ownsRow bo 90 5 (.slice A7 us.length c7) us.length ((List.range (us.length * 5)).map F7)) := fun o1 => Ow.own_keep LG.out.own (fun y _ hy => (below1 wr o1).block y hy)
    go_wp2_with (at_builtin; (refine wpList_append_lies _ rfl _ _ 48 rfl bo 90 j0 _ 5 56 Try.underlying48 hj0 hj1 hj2 hj3 rfl (by decide) (.slice A7 us.length c7) us.length ((List.range (us.length * 5)).map F7) rfl (OWN.out _) ⟨wr.heap.size, 0, none⟩ 1 1 [.int .i64 k, .int .i64 0, .slice none 0 0, .bool false, .int .i64 1000000000001] rfl rfl (World.news_of_block (cs := #[.int .i64 k, .int .i64 0, .slice none 0 0, .bool false, .int .i64 1000000000001]) (heap_alloc_new _ _)) (by simp [Value.oneCell']) (by decide) (by have := LN.out; unfold maxLen; omega) (by have := LN.out; omega) (by rw [hsz]; omega) _ rfl ?_; intro g9 cap9 w9 hown9 gr9 hat9 hlt9; have HD := Seg.hid (HG.out.push obq LG.out LPH.out (below1 wr _) (EdM.eo_mark _ k 1000000000001) (fun _ h => h.elim) rfl hown9 gr9 hat9); clear hown9 gr9 hat9 hlt9))
    go_roundw
    case rel => exact ⟨k + 1, by go_num, hlt, by rw [EN.out]; exact HD.out⟩
    case measure => simp [intOf]; omega
  have hkl : k = l.length := by omega
  have HT : Hid (Me w6 bo bq wr u12 (whole inp ord).out) := by have h := HG.out; rw [hkl, ← WH2.out] at h; exact h
  have hx1 : ¬ (k : Int) < (l.length : Int) := by omega
  have BW : Hid (Below w.heap.size w wr) := B6.out.trans (HT.out.bel.mono wbo)
  obtain ⟨A7, c7, hv⟩ := HT.out.out.form
  obtain ⟨v7, hv7⟩ : ∃ v7, v7 = u12 := ⟨_, rfl⟩
  rw [← hv7] at HT hv ⊢
  clear hv7 hkl HG WH2
  subst hv
  by_cases h4 : (whole inp ord).out.length ≤ 400
  · have RN : Hid (RR = (whole inp ord).out) := by show _ = _; rw [← R2.out, if_pos h4]
    have b4 : ¬ (400 : Int) < ((whole inp ord).out.length : Int) := by omega
    obtain ⟨F7, P7, LG0, LP0⟩ := HT.out.out.gro
    have OW := Seg.hid (Ow.LGrow.own ⟨F7, P7, LG0⟩ (by omega : (whole inp ord).out.length ≤ 1048576))
    clear LG0 LP0
    go_wp2
    go_ret
    refine ⟨_, rfl, ?_, BW.out⟩
    rw [RN.out]
    exact Ow.LOwn.mono OW.out (fun y hy => ⟨by have := hy.1; omega, hy.2⟩)
  · have RN : Hid (RR = []) := by show _ = _; rw [← R2.out, if_neg h4]
    have b4 : (400 : Int) < ((whole inp ord).out.length : Int) := by omega
    go_wp2
    go_ret
    exact ⟨_, rfl, by rw [RN.out]; exact nil_own _ _ _ _, BW.out⟩
end Go.Proofs.Ytkibaimemomjpaa.EdS
