/- WriteBatch of the model. (Written by gen_wru.py.); WriteBatch of the model, whatever the batch; Sizes of batches: of the model, one. -/
import Derived.Test.YtoplbemolnpngaaGreatJP22
import Derived.Test.YtoplbemolnpngaaGreatJP39
import Derived.Test.YtoplbemolnpngaaGreatJP40
import Derived.Test.YtoplbemolnpngaaGreatJP16
import Derived.Test.YtoplbemolnpngaaGreatJP23
namespace Go.Proofs.YtoplbemolnpngaaGreat.WrU
set_option maxRecDepth 8000
open Go.RowKit
open Seg (B)
open SqP (Out app grow)
open Nums (put)
open PuI (Ext below_grown out_below out_lt out_cell)
open PuT (kept)
open WrI (Sta out_mono out_kept bodyS_facts ok_parts Wrote wrote_none wr_yes by_bodyS)
open WrS (num_ext)
open WrP
open Recs
set_option linter.unusedVariables false

/-- The numbers from the k-th on are still to be put. -/
structure AtN (w wk : World) (gB capB gN : Nat) (X : Obj) (bd ns : List Int) (k : Nat) (v : Value) (cur tot : List Int) : Prop where
  le : k ≤ ns.length
  ou : ∃ g cap, v = .slice (some ⟨g, 0, none⟩) cur.length cap ∧ Sta w wk gB capB X bd cur g cap ∧ gN ≠ g
  num : wk.heap[gN]? = some (.cells (ns.map (Value.int .i64)).toArray 3 (0, 0))
  eq : cur ++ numsB (ns.drop k) = tot
theorem AtN.cell {w wk : World} {gB capB gN : Nat} {X : Obj} {bd ns : List Int} {k : Nat} {v : Value} {cur tot : List Int} (h : AtN w wk gB capB gN X bd ns k v cur tot) (j : Nat) (hj : j < ns.length) : wk.cell? ⟨gN, j, none⟩ = some (.int .i64 (ns.getD j 0)) := by
  rw [cell_of_row _ _ j _ _ _ h.num]
  simp [hj]
theorem AtN.next {w wk w2 w3 : World} {gB capB gN g g3 cap cap3 n : Nat} {X : Obj} {bd ns : List Int} {k : Nat} {v : Value} {cur tot : List Int} {x : Int} (h : AtN w wk gB capB gN X bd ns k v cur tot) (hk : k < ns.length) (hx : ns.getD k 0 = x) (S : Sta w wk gB capB X bd cur g cap) (hne : gN ≠ g)
    (hb : Below wk.heap.size wk w2) (o3 : Out w3 (w.heap.size + 1) g3 cap3 (cur ++ put x)) (gr : w2.grownBy w3 (some g)) (h3 : g3 = g ∨ g3 = w2.heap.size) (hn : n = (cur ++ put x).length) :
    AtN w w3 gB capB gN X bd ns (k + 1) (.slice (some ⟨g3, 0, none⟩) n cap3) (cur ++ put x) tot := by
  have hl := (Array.getElem?_eq_some_iff.1 h.num).1
  have s2 := hb.size
  refine ⟨hk, ⟨g3, cap3, by rw [hn], ?_, by omega⟩, kept ((hb.block gN hl).trans h.num) gr hne, ?_⟩
  · obtain ⟨g4, cap4, e4, S4⟩ := S.step (num_ext hb o3 gr h3)
    simp only [Ending.returned.injEq, Value.slice.injEq, Option.some.injEq, Addr.mk.injEq, and_true] at e4
    obtain ⟨rfl, _, rfl⟩ := e4
    exact S4
  · rw [← h.eq, numsB_at hk, hx, List.append_assoc]
theorem _root_.Go.Proofs.YtoplbemolnpngaaGreat.BOk.okNum' {t : Bat} (h : BOk.batOk t = true) : 1 ≤ (t.recs.length : Int) := by
  simp only [BOk.batOk, BOk.okB1, BOk.okB3, BOk.inR, Bool.and_eq_true, decide_eq_true_eq] at h
  omega
theorem odd_t (fl : Int) : (fl % 2 == 1) = decide (fl % 2 = 1) := by rw [Bool.eq_iff_iff]; simp
theorem holds_heads {t : Bat} (h : holds t 1 = true) : t.producer = -1 ∧ ∀ i, i < t.recs.length → (t.recs.getD i default).heads.length = 0 := by
  simp only [holds, Bool.or_eq_true, Bool.and_eq_true, decide_eq_true_eq] at h
  rcases h with h | ⟨⟨_, h1⟩, h2⟩
  · omega
  · refine ⟨h1, fun i hi => ?_⟩
    rw [List.all_eq_true] at h2
    have := h2 t.recs[i] (List.getElem_mem hi)
    simpa [hi] using this
theorem nums_bound {t : Bat} {ver : Int} {n : Nat} (h : BOk.batOk t = true) (hn : n ≤ 80000) : ∀ x ∈ headN ver t (n : Int), -1000000000000 ≤ x ∧ x ≤ 1000000000000 := by
  obtain ⟨p1, p2, p3, p4, p5, p6, _⟩ := ok_parts h
  intro x hx
  unfold headN at hx
  split at hx <;> simp at hx <;> omega
theorem numsB_le2 : ∀ (ns : List Int), (∀ x ∈ ns, -1000000000000 ≤ x ∧ x ≤ 1000000000000) → (numsB ns).length ≤ 10 * ns.length := fun ns h => PuI.numsB_le ns fun x hx => by have := h x hx; omega
theorem _root_.Go.Proofs.YtoplbemolnpngaaGreat.WrI.Sta.alloc {w0 w : World} {gB capB g cap : Nat} {X : Obj} {bd cur : List Int} (h : Sta w0 w gB capB X bd cur g cap) (o : Obj) : Sta w0 (w.alloc o) gB capB X bd cur g cap :=
  ⟨(heap_alloc_old w _ (Array.getElem?_eq_some_iff.1 h.var).1).trans h.var, World.ownsRow.alloc h.bod _, World.ownsRow.alloc h.out _, h.ne, h.bl.alloc h.bl.size _⟩

set_option maxHeartbeats 3200000 in
theorem spec_p1 (v : Value) (t : Bat) (w : World) (lo b : Nat) (hv : BatAt w lo b v t) (hb : b ≤ w.heap.size) (hok : BOk.batOk t = true) (hho : holds t 1 = true) (hodd : (t.flags % 2 == 1) = false) :
    Calls Tryz.prog 40 #[v, .int .i64 1] w fun e w' => Wrote w w' t 1 e := by
  have HV := Seg.hid hv
  obtain ⟨rv, rfl, hrs⟩ := hv
  obtain ⟨H, ⟨hn, A, c, rfl, hrow⟩, hh⟩ := hrs
  have HR := Seg.hid hrow; have HHd := Seg.hid hh
  obtain ⟨p1, p2, p3, p4, p5, p6, p7, p8⟩ := ok_parts hok
  obtain ⟨s1, s2, s3⟩ := bodyS_facts t 1 p8 p7
  have P8 := Seg.hid p8; have OK := Seg.hid hok; have HO := Seg.hid hho
  have BS : Hid (bodyS t 1 = body 1 t.recs) := by
    have := odd_t t.flags
    rw [hodd] at this
    show _ = _
    rw [bodyS, if_neg (by simpa using this.symm)]
  clear hrow hh p8 hok hho
  unfold batVal at HV ⊢
  go_enter Tryz.func40, Tryz.ntmps40
  go_wp2_with fail
  refine (BOk.spec_any _ t (w.alloc _) lo b (HV.out.below ((below1 w _).mono hb)) (by rw [hsz]; omega)).mono ?_
  rintro e w1 ⟨rfl, b1⟩
  rw [OK.out]
  have B1 := Seg.hid (chain (below1 w _) b1)
  have T1 : Hid (w1.heap[w.heap.size]? = some (.cells (BatW.batArr t (.slice A t.recs.length c)) 38 (0, 0))) := (b1.block w.heap.size (by rw [hsz]; omega)).trans (heap_alloc_new _ _)
  have z1 : w.heap.size < w1.heap.size := (Array.getElem?_eq_some_iff.1 T1.out).1
  clear b1
  go_wp2_with fail
  refine (ROk.l1In_b 1 1 2 true (by decide) w1).mono ?_
  rintro e w2 ⟨rfl, rfl⟩
  obtain ⟨c0, c1, c2, c3, c4, c5, c6⟩ := BOk.seven T1.out
  have HD := Seg.hid (holds_heads HO.out)
  have hpn : ¬ 0 ≤ t.producer := by rw [HD.out.1]; decide
  go_wp2_with fail
  go_loop [5] (fun i => ∃ k : Nat, i = .int .i64 k ∧ k ≤ t.recs.length) (fun i => t.recs.length - (intOf i).toNat)
  case atStart => exact ⟨0, rfl, Nat.zero_le _⟩
  case round =>
  obtain ⟨k, rfl, hle⟩ := hrel
  by_cases hlt : k < t.recs.length
  · obtain ⟨gr, o, rfl, hgr, hc, hcell, _⟩ := HR.out.resolve_left (by omega)
    obtain ⟨e0, e1, e2, e3, e4, e5⟩ := RecsW.six (RecsW.six' hcell B1.out (by omega)) k hlt
    obtain ⟨hnh, Ah, ch, hHe, _⟩ := HHd.out k hlt
    have hz0 := HD.out.2 k hlt
    rw [hHe, hz0] at e5
    have h0 : (0 : Int) ≤ (k : Int) := by omega
    have h1 : (k : Int) < (t.recs.length : Int) := by omega
    clear hcell hHe hz0
    generalize t.recs.getD k default = r at *
    go_wp2
    go_round
    case rel => exact ⟨k + 1, by go_num, by omega⟩
    case measure => simp [intOf]; omega
  have hkn : ¬ (k : Int) < (t.recs.length : Int) := by omega
  go_wp2_with fail
  clear c0 c1 c2 c3 c4 c5 c6
  refine (WrS.l2Body_any _ t 1 w1 lo b (HV.out.below (B1.out.mono hb)) (by omega) p7 P8.out).mono ?_
  rintro e w3 ⟨g3, cap3, rfl, o3, b3⟩
  obtain ⟨l3, hl3⟩ : ∃ l3, body 1 t.recs = l3 := ⟨_, rfl⟩
  have HL3 := Seg.hid hl3
  rw [hl3] at o3 s3 ⊢
  have O3 := Seg.hid (out_mono o3 (Nat.succ_le_succ (Nat.le_of_lt z1)))
  have B3 := Seg.hid (chain B1.out b3)
  have T3 := Seg.hid ((b3.block w.heap.size z1).trans T1.out)
  have z3 : w.heap.size < w3.heap.size := (Array.getElem?_eq_some_iff.1 T3.out).1
  clear o3 b3 hl3
  obtain ⟨c0, c1, c2, c3, c4, c5, c6⟩ := BOk.seven T3.out
  have L4 : Hid (l3 = bodyS t 1) := by show _ = _; rw [BS.out, HL3.out]
  have L4p : 0 < l3.length ∧ l3.length ≤ 80000 := by rw [L4.out]; exact ⟨s1, s2⟩
  have O4 := O3; have B4 := B3; have T4 := T3; have z4 := z3
  clear c0 c1 c2 c3 c4 c6
  have B4' := B4.out.size
  have NB : Hid (∀ x ∈ headN 1 t (l3.length : Int), -1000000000000 ≤ x ∧ x ≤ 1000000000000) := nums_bound OK.out L4p.2
  obtain ⟨ns, hns⟩ : ∃ ns, headN 1 t (l3.length : Int) = ns := ⟨_, rfl⟩
  have hnl : ns.length = 4 := by rw [← hns]; rfl
  have HNS := Seg.hid hns
  rw [hns] at NB
  have NL := Seg.hid (numsB_le2 ns NB.out)
  clear hns
  obtain ⟨c0, c1, c2, c3, c4, c5, c6⟩ := BOk.seven (heap_alloc_old w3 (.cells #[.int .u8 77, .int .u8 1] 5 (0, 0)) z4 |>.trans T4.out)
  go_wp2_with fail
  have S5 : Hid (Sta w (w3.alloc (.cells #[.int .u8 77, .int .u8 1] 5 (0, 0))) g3 cap3 (.cells (BatW.batArr t (.slice A t.recs.length c)) 38 (0, 0)) l3 [77, 1] w3.heap.size 2) :=
    ⟨(heap_alloc_old w3 _ z4).trans T4.out, World.ownsRow.alloc O4.out _, World.ownsRow_lit (e := 5) (size := 1) w3 #[.int .u8 77, .int .u8 1] 2 z4 (by unfold maxLen; omega) rfl, by have := (out_lt O4.out).2; omega, B4.out.alloc B4' _⟩
  obtain ⟨w6, hw6⟩ : ∃ x, (w3.alloc (.cells #[.int .u8 77, .int .u8 1] 5 (0, 0))).alloc (.cells #[.int .i64 t.base, .int .i64 t.epoch, .int .i64 t.flags, .int .i64 l3.length] 3 (0, 0)) = x := ⟨_, rfl⟩
  have S6 : Hid (Sta w w6 g3 cap3 (.cells (BatW.batArr t (.slice A t.recs.length c)) 38 (0, 0)) l3 [77, 1] w3.heap.size 2) := by rw [← hw6]; exact S5.out.alloc _
  have NUM : Hid (w6.heap[w3.heap.size + 1]? = some (.cells #[.int .i64 t.base, .int .i64 t.epoch, .int .i64 t.flags, .int .i64 l3.length] 3 (0, 0))) := by rw [← hw6, ← hsz w3 (.cells #[.int .u8 77, .int .u8 1] 5 (0, 0))]; exact heap_alloc_new _ _
  clear c0 c1 c2 c3 c4 c5 c6
  have N0 : Hid (AtN w w6 g3 cap3 (w3.heap.size + 1) (.cells (BatW.batArr t (.slice A t.recs.length c)) 38 (0, 0)) l3 ns 0 (.slice (some ⟨w3.heap.size, 0, none⟩) 2 2) [77, 1] ([77, 1] ++ numsB ns)) := ⟨Nat.zero_le _, ⟨_, 2, rfl, S6.out, by omega⟩, by rw [← HNS.out]; exact NUM.out, rfl⟩
  have hl0 : ((4 : Nat) : Int) = (ns.length : Int) := by rw [hnl]
  go_loopw [7, 9] (fun v i wk => ∃ (k : Nat) (cur : List Int), i = .int .i64 k ∧ AtN w wk g3 cap3 (w3.heap.size + 1) (.cells (BatW.batArr t (.slice A t.recs.length c)) 38 (0, 0)) l3 ns k v cur ([77, 1] ++ numsB ns)) (fun _ i _ => 4 - (intOf i).toNat)
  case atStart => exact ⟨0, _, rfl, by first | exact N0.out | (rw [hw6]; exact N0.out)⟩
  case round =>
    clear N0
    obtain ⟨k, cur, rfl, P⟩ := hrel
    have HP := Seg.hid P
    obtain ⟨g7, cap7, rfl, st7, ng7⟩ := P.ou
    have hle := P.le
    have S7 := Seg.hid st7
    have z7 := st7.lt
    have hcl : cur.length ≤ 100 := by
      have h1 := congrArg List.length P.eq
      have h2 := NL.out
      simp only [List.length_append, List.length_cons, List.length_nil] at h1
      omega
    by_cases hlt : k < 4
    · have ck := P.cell k (by omega)
      obtain ⟨x, hx⟩ : ∃ x, ns.getD k 0 = x := ⟨_, rfl⟩
      have hxr : -1000000000000 ≤ x ∧ x ≤ 1000000000000 := NB.out x (by rw [← hx]; simp [hnl, hlt])
      have hpl := put_le x hxr
      have HX := Seg.hid hx
      rw [hx] at ck
      clear hx P st7
      have h0 : (0 : Int) ≤ (k : Int) := by omega
      have h1 : (k : Int) < 4 := by omega
      go_wp2_with fail
      refine (Put.spec_any x wr (by omega) (by omega)).mono ?_
      rintro e w8 ⟨g8, cap8, rfl, o8, b8⟩
      have O8 := Seg.hid o8; have B8 := Seg.hid b8
      have z8 := b8.size
      clear o8 b8
      go_wp2_with (at_builtin; refine app rfl (.tmp 92) (.tmp 97) rfl (w.heap.size + 1) g7 cap7 cur (put x) ?zzs ?zzo ⟨g8, 0, none⟩ cap8 ?zzx ?zzn ?zzm ?zzb ?zzba ?_; (case zzs => rfl); (case zzo => exact out_below S7.out.out B8.out); (case zzx => rfl); (case zzn => exact fun j hj => out_cell (l := put x) O8.out j hj); (case zzm => exact Nums.put_pos x); (case zzb => omega); (case zzba => omega); intro g9 cap9 w9 o9 gr9 at9; have NX := Seg.hid (fun n hn => AtN.next (n := n) HP.out (by omega) HX.out S7.out ng7 B8.out o9 gr9 at9 hn); clear o9 gr9 at9)
      go_roundw
      case rel => exact ⟨k + 1, _, by go_num, NX.out _ (by rw [List.length_append])⟩
      case measure => simp [intOf]; omega
    · obtain ⟨l8, hl8⟩ : ∃ l8, cur = l8 := ⟨_, rfl⟩
      have HC8 : Hid (l8 = [77, 1] ++ numsB ns) := by
        have := P.eq
        rw [List.drop_of_length_le (by omega), numsB, List.append_nil] at this
        show _ = _
        rw [← hl8, this]
      rw [hl8] at S7 hcl ⊢
      obtain ⟨g8, hg8⟩ : ∃ g, g7 = g := ⟨_, rfl⟩
      rw [hg8] at S7 ng7 ⊢
      clear P st7 hl8 HP hg8
      have hkn : ¬ (k : Int) < 4 := by omega
      go_wp2_with (at_builtin; refine app rfl (.tmp 99) (.tmp 100) rfl (w.heap.size + 1) g8 cap7 l8 l3 ?zzs ?zzo ⟨g3, 0, none⟩ cap3 ?zzx ?zzn ?zzm ?zzb ?zzba ?_; (case zzs => rfl); (case zzo => exact S7.out.out); (case zzx => rfl); (case zzn => exact fun j hj => out_cell S7.out.bod j hj); (case zzm => omega); (case zzb => omega); (case zzba => omega); intro g9 cap9 w9 o9 gr9 at9; have S9 := Seg.hid (Sta.ext (n := 0) S7.out o9 gr9 at9); have z9 := S9.out.lt; clear o9 gr9 at9)
      have HPr : Hid (l8 ++ l3 = pre t 1) := by
        show _ = _
        rw [pre, ← L4.out, HC8.out, HNS.out]
      obtain ⟨l9, hl9⟩ : ∃ l9, l8 ++ l3 = l9 := ⟨_, rfl⟩
      have h9l : l8.length + l3.length = l9.length := by rw [← hl9, List.length_append]
      have hl9l : l9.length ≤ 80200 := by omega
      rw [hl9] at S9 HPr
      rw [h9l]
      clear hl9 h9l
      have BY9 : Hid (Seg.Byt l9) := (by rw [HPr.out]; exact (((show By [77, (1 : Int)] from fun x hx => by simp at hx; omega).app (by_nums _)).app (by_bodyS _ _)).byt : Seg.Byt l9)
      have hck := WrC.check_lt BY9.out
      refine (Chk.spec_core g9 0 l9.length cap9 l9 w9 (by omega) (Seg.owns_cap S9.out.out).1 rfl (fun i hi => by rw [Nat.zero_add]; exact Seg.owns_cell S9.out.out i hi) BY9.out).mono ?_
      rintro e w10 ⟨rfl, rfl⟩
      go_wp2_with fail
      refine (WrS.l2Four_any (Crc.check l9) w9 hck).mono ?_
      rintro e w10 ⟨g10, rfl, o10, b10⟩
      have O10 := Seg.hid o10
      have N10 := Seg.hid (out_below S9.out.out b10)
      have B10 := Seg.hid (chain S9.out.bl b10)
      have z10 := b10.size
      clear o10 b10
      go_wp2_with (at_builtin; refine app rfl (.tmp 102) (.tmp 105) rfl (w.heap.size + 1) g9 cap9 l9 (four (Crc.check l9)) ?zzs ?zzo ⟨g10, 0, none⟩ 4 ?zzx ?zzn ?zzm ?zzb ?zzba ?_; (case zzs => rfl); (case zzo => exact N10.out); (case zzx => rfl); (case zzn => exact fun j hj => out_cell O10.out j hj); (case zzm => simp [four]); (case zzb => simp [four]; omega); (case zzba => omega); intro g11 cap11 w11 o11 gr11 at11; have O11 := Seg.hid o11; have B11 : Hid (Below w.heap.size w w11) := B10.out.grown gr11 (by omega) (fun k hk => by cases hk; have := (out_lt S9.out.out).1; omega); clear o11 gr11 at11)
      go_ret
      refine ⟨g11, cap11, ?_, ?_, B11.out⟩
      · rw [wr_yes OK.out HO.out, ← HPr.out, List.length_append]
        rfl
      · rw [wr_yes OK.out HO.out, ← HPr.out]
        exact out_mono O11.out (by omega)

set_option maxHeartbeats 3200000 in
theorem spec_p2 (v : Value) (t : Bat) (w : World) (lo b : Nat) (hv : BatAt w lo b v t) (hb : b ≤ w.heap.size) (hok : BOk.batOk t = true) (hho : holds t 2 = true) (hodd : (t.flags % 2 == 1) = false) :
    Calls Tryz.prog 40 #[v, .int .i64 2] w fun e w' => Wrote w w' t 2 e := by
  have HV := Seg.hid hv
  obtain ⟨rv, rfl, hrs⟩ := hv
  obtain ⟨H, ⟨hn, A, c, rfl, hrow⟩, hh⟩ := hrs
  have HR := Seg.hid hrow; have HHd := Seg.hid hh
  obtain ⟨p1, p2, p3, p4, p5, p6, p7, p8⟩ := ok_parts hok
  obtain ⟨s1, s2, s3⟩ := bodyS_facts t 2 p8 p7
  have P8 := Seg.hid p8; have OK := Seg.hid hok; have HO := Seg.hid hho
  have BS : Hid (bodyS t 2 = body 2 t.recs) := by
    have := odd_t t.flags
    rw [hodd] at this
    show _ = _
    rw [bodyS, if_neg (by simpa using this.symm)]
  clear hrow hh p8 hok hho
  unfold batVal at HV ⊢
  go_enter Tryz.func40, Tryz.ntmps40
  go_wp2_with fail
  refine (BOk.spec_any _ t (w.alloc _) lo b (HV.out.below ((below1 w _).mono hb)) (by rw [hsz]; omega)).mono ?_
  rintro e w1 ⟨rfl, b1⟩
  rw [OK.out]
  have B1 := Seg.hid (chain (below1 w _) b1)
  have T1 : Hid (w1.heap[w.heap.size]? = some (.cells (BatW.batArr t (.slice A t.recs.length c)) 38 (0, 0))) := (b1.block w.heap.size (by rw [hsz]; omega)).trans (heap_alloc_new _ _)
  have z1 : w.heap.size < w1.heap.size := (Array.getElem?_eq_some_iff.1 T1.out).1
  clear b1
  go_wp2_with fail
  refine (ROk.l1In_b 2 1 2 true (by decide) w1).mono ?_
  rintro e w2 ⟨rfl, rfl⟩
  obtain ⟨c0, c1, c2, c3, c4, c5, c6⟩ := BOk.seven T1.out
  have hpos : (0 : Int) < (t.recs.length : Int) := by have := (BOk.okNum' OK.out); omega
  go_wp2_with fail
  go_loop [5] (fun i => i = .int .i64 0) (fun _ => 0)
  case atStart => rfl
  case round =>
  subst hrel
  go_wp2_with fail
  clear c0 c1 c2 c3 c4 c5 c6
  refine (WrS.l2Body_any _ t 2 w1 lo b (HV.out.below (B1.out.mono hb)) (by omega) p7 P8.out).mono ?_
  rintro e w3 ⟨g3, cap3, rfl, o3, b3⟩
  obtain ⟨l3, hl3⟩ : ∃ l3, body 2 t.recs = l3 := ⟨_, rfl⟩
  have HL3 := Seg.hid hl3
  rw [hl3] at o3 s3 ⊢
  have O3 := Seg.hid (out_mono o3 (Nat.succ_le_succ (Nat.le_of_lt z1)))
  have B3 := Seg.hid (chain B1.out b3)
  have T3 := Seg.hid ((b3.block w.heap.size z1).trans T1.out)
  have z3 : w.heap.size < w3.heap.size := (Array.getElem?_eq_some_iff.1 T3.out).1
  clear o3 b3 hl3
  obtain ⟨c0, c1, c2, c3, c4, c5, c6⟩ := BOk.seven T3.out
  have L4 : Hid (l3 = bodyS t 2) := by show _ = _; rw [BS.out, HL3.out]
  have L4p : 0 < l3.length ∧ l3.length ≤ 80000 := by rw [L4.out]; exact ⟨s1, s2⟩
  have O4 := O3; have B4 := B3; have T4 := T3; have z4 := z3
  clear c0 c1 c2 c3 c4 c6
  have B4' := B4.out.size
  have NB : Hid (∀ x ∈ headN 2 t (l3.length : Int), -1000000000000 ≤ x ∧ x ≤ 1000000000000) := nums_bound OK.out L4p.2
  obtain ⟨ns, hns⟩ : ∃ ns, headN 2 t (l3.length : Int) = ns := ⟨_, rfl⟩
  have hnl : ns.length = 7 := by rw [← hns]; rfl
  have HNS := Seg.hid hns
  rw [hns] at NB
  have NL := Seg.hid (numsB_le2 ns NB.out)
  clear hns
  obtain ⟨c0, c1, c2, c3, c4, c5, c6⟩ := BOk.seven (heap_alloc_old w3 (.cells #[.int .u8 77, .int .u8 2] 5 (0, 0)) z4 |>.trans T4.out)
  have S5 : Hid (Sta w (w3.alloc (.cells #[.int .u8 77, .int .u8 2] 5 (0, 0))) g3 cap3 (.cells (BatW.batArr t (.slice A t.recs.length c)) 38 (0, 0)) l3 [77, 2] w3.heap.size 2) :=
    ⟨(heap_alloc_old w3 _ z4).trans T4.out, World.ownsRow.alloc O4.out _, World.ownsRow_lit (e := 5) (size := 1) w3 #[.int .u8 77, .int .u8 2] 2 z4 (by unfold maxLen; omega) rfl, by have := (out_lt O4.out).2; omega, B4.out.alloc B4' _⟩
  have S5b := Seg.hid (S5.out.alloc (.cells #[.int .i64 t.base, .int .i64 t.epoch, .int .i64 t.flags, .int .i64 l3.length] 3 (0, 0)))
  obtain ⟨d0, d1, d2, d3, d4, d5, d6⟩ := BOk.seven S5b.out.var
  go_wp2_with fail
  obtain ⟨w6, hw6⟩ : ∃ x, ((w3.alloc (.cells #[.int .u8 77, .int .u8 2] 5 (0, 0))).alloc (.cells #[.int .i64 t.base, .int .i64 t.epoch, .int .i64 t.flags, .int .i64 l3.length] 3 (0, 0))).alloc (.cells #[.int .i64 t.base, .int .i64 t.epoch, .int .i64 t.producer, .int .i64 t.turn, .int .i64 t.seq, .int .i64 t.flags, .int .i64 l3.length] 3 (0, 0)) = x := ⟨_, rfl⟩
  have S6 : Hid (Sta w w6 g3 cap3 (.cells (BatW.batArr t (.slice A t.recs.length c)) 38 (0, 0)) l3 [77, 2] w3.heap.size 2) := by rw [← hw6]; exact S5b.out.alloc _
  have NUM : Hid (w6.heap[w3.heap.size + 1 + 1]? = some (.cells #[.int .i64 t.base, .int .i64 t.epoch, .int .i64 t.producer, .int .i64 t.turn, .int .i64 t.seq, .int .i64 t.flags, .int .i64 l3.length] 3 (0, 0))) := by rw [← hw6, ← hsz w3 (.cells #[.int .u8 77, .int .u8 2] 5 (0, 0)), ← hsz (w3.alloc (.cells #[.int .u8 77, .int .u8 2] 5 (0, 0))) (.cells #[.int .i64 t.base, .int .i64 t.epoch, .int .i64 t.flags, .int .i64 l3.length] 3 (0, 0))]; exact heap_alloc_new _ _
  clear c0 c1 c2 c3 c4 c5 c6 d0 d1 d2 d3 d4 d5 d6
  have N0 : Hid (AtN w w6 g3 cap3 (w3.heap.size + 1 + 1) (.cells (BatW.batArr t (.slice A t.recs.length c)) 38 (0, 0)) l3 ns 0 (.slice (some ⟨w3.heap.size, 0, none⟩) 2 2) [77, 2] ([77, 2] ++ numsB ns)) := ⟨Nat.zero_le _, ⟨_, 2, rfl, S6.out, by omega⟩, by rw [← HNS.out]; exact NUM.out, rfl⟩
  have hl0 : ((7 : Nat) : Int) = (ns.length : Int) := by rw [hnl]
  go_loopw [7, 9] (fun v i wk => ∃ (k : Nat) (cur : List Int), i = .int .i64 k ∧ AtN w wk g3 cap3 (w3.heap.size + 1 + 1) (.cells (BatW.batArr t (.slice A t.recs.length c)) 38 (0, 0)) l3 ns k v cur ([77, 2] ++ numsB ns)) (fun _ i _ => 7 - (intOf i).toNat)
  case atStart => exact ⟨0, _, rfl, by first | exact N0.out | (rw [hw6]; exact N0.out)⟩
  case round =>
    clear N0
    obtain ⟨k, cur, rfl, P⟩ := hrel
    have HP := Seg.hid P
    obtain ⟨g7, cap7, rfl, st7, ng7⟩ := P.ou
    have hle := P.le
    have S7 := Seg.hid st7
    have z7 := st7.lt
    have hcl : cur.length ≤ 100 := by
      have h1 := congrArg List.length P.eq
      have h2 := NL.out
      simp only [List.length_append, List.length_cons, List.length_nil] at h1
      omega
    by_cases hlt : k < 7
    · have ck := P.cell k (by omega)
      obtain ⟨x, hx⟩ : ∃ x, ns.getD k 0 = x := ⟨_, rfl⟩
      have hxr : -1000000000000 ≤ x ∧ x ≤ 1000000000000 := NB.out x (by rw [← hx]; simp [hnl, hlt])
      have hpl := put_le x hxr
      have HX := Seg.hid hx
      rw [hx] at ck
      clear hx P st7
      have h0 : (0 : Int) ≤ (k : Int) := by omega
      have h1 : (k : Int) < 7 := by omega
      go_wp2_with fail
      refine (Put.spec_any x wr (by omega) (by omega)).mono ?_
      rintro e w8 ⟨g8, cap8, rfl, o8, b8⟩
      have O8 := Seg.hid o8; have B8 := Seg.hid b8
      have z8 := b8.size
      clear o8 b8
      go_wp2_with (at_builtin; refine app rfl (.tmp 92) (.tmp 97) rfl (w.heap.size + 1) g7 cap7 cur (put x) ?zzs ?zzo ⟨g8, 0, none⟩ cap8 ?zzx ?zzn ?zzm ?zzb ?zzba ?_; (case zzs => rfl); (case zzo => exact out_below S7.out.out B8.out); (case zzx => rfl); (case zzn => exact fun j hj => out_cell (l := put x) O8.out j hj); (case zzm => exact Nums.put_pos x); (case zzb => omega); (case zzba => omega); intro g9 cap9 w9 o9 gr9 at9; have NX := Seg.hid (fun n hn => AtN.next (n := n) HP.out (by omega) HX.out S7.out ng7 B8.out o9 gr9 at9 hn); clear o9 gr9 at9)
      go_roundw
      case rel => exact ⟨k + 1, _, by go_num, NX.out _ (by rw [List.length_append])⟩
      case measure => simp [intOf]; omega
    · obtain ⟨l8, hl8⟩ : ∃ l8, cur = l8 := ⟨_, rfl⟩
      have HC8 : Hid (l8 = [77, 2] ++ numsB ns) := by
        have := P.eq
        rw [List.drop_of_length_le (by omega), numsB, List.append_nil] at this
        show _ = _
        rw [← hl8, this]
      rw [hl8] at S7 hcl ⊢
      obtain ⟨g8, hg8⟩ : ∃ g, g7 = g := ⟨_, rfl⟩
      rw [hg8] at S7 ng7 ⊢
      clear P st7 hl8 HP hg8
      have hkn : ¬ (k : Int) < 7 := by omega
      go_wp2_with (at_builtin; refine app rfl (.tmp 99) (.tmp 100) rfl (w.heap.size + 1) g8 cap7 l8 l3 ?zzs ?zzo ⟨g3, 0, none⟩ cap3 ?zzx ?zzn ?zzm ?zzb ?zzba ?_; (case zzs => rfl); (case zzo => exact S7.out.out); (case zzx => rfl); (case zzn => exact fun j hj => out_cell S7.out.bod j hj); (case zzm => omega); (case zzb => omega); (case zzba => omega); intro g9 cap9 w9 o9 gr9 at9; have S9 := Seg.hid (Sta.ext (n := 0) S7.out o9 gr9 at9); have z9 := S9.out.lt; clear o9 gr9 at9)
      have HPr : Hid (l8 ++ l3 = pre t 2) := by
        show _ = _
        rw [pre, ← L4.out, HC8.out, HNS.out]
      obtain ⟨l9, hl9⟩ : ∃ l9, l8 ++ l3 = l9 := ⟨_, rfl⟩
      have h9l : l8.length + l3.length = l9.length := by rw [← hl9, List.length_append]
      have hl9l : l9.length ≤ 80200 := by omega
      rw [hl9] at S9 HPr
      rw [h9l]
      clear hl9 h9l
      have BY9 : Hid (Seg.Byt l9) := (by rw [HPr.out]; exact (((show By [77, (2 : Int)] from fun x hx => by simp at hx; omega).app (by_nums _)).app (by_bodyS _ _)).byt : Seg.Byt l9)
      have hck := WrC.check_lt BY9.out
      refine (Chk.spec_core g9 0 l9.length cap9 l9 w9 (by omega) (Seg.owns_cap S9.out.out).1 rfl (fun i hi => by rw [Nat.zero_add]; exact Seg.owns_cell S9.out.out i hi) BY9.out).mono ?_
      rintro e w10 ⟨rfl, rfl⟩
      go_wp2_with fail
      refine (WrS.l2Four_any (Crc.check l9) w9 hck).mono ?_
      rintro e w10 ⟨g10, rfl, o10, b10⟩
      have O10 := Seg.hid o10
      have N10 := Seg.hid (out_below S9.out.out b10)
      have B10 := Seg.hid (chain S9.out.bl b10)
      have z10 := b10.size
      clear o10 b10
      go_wp2_with (at_builtin; refine app rfl (.tmp 102) (.tmp 105) rfl (w.heap.size + 1) g9 cap9 l9 (four (Crc.check l9)) ?zzs ?zzo ⟨g10, 0, none⟩ 4 ?zzx ?zzn ?zzm ?zzb ?zzba ?_; (case zzs => rfl); (case zzo => exact N10.out); (case zzx => rfl); (case zzn => exact fun j hj => out_cell O10.out j hj); (case zzm => simp [four]); (case zzb => simp [four]; omega); (case zzba => omega); intro g11 cap11 w11 o11 gr11 at11; have O11 := Seg.hid o11; have B11 : Hid (Below w.heap.size w w11) := B10.out.grown gr11 (by omega) (fun k hk => by cases hk; have := (out_lt S9.out.out).1; omega); clear o11 gr11 at11)
      go_ret
      refine ⟨g11, cap11, ?_, ?_, B11.out⟩
      · rw [wr_yes OK.out HO.out, ← HPr.out, List.length_append]
        rfl
      · rw [wr_yes OK.out HO.out, ← HPr.out]
        exact out_mono O11.out (by omega)

set_option maxHeartbeats 3200000 in
theorem spec_s1 (v : Value) (t : Bat) (w : World) (lo b : Nat) (hv : BatAt w lo b v t) (hb : b ≤ w.heap.size) (hok : BOk.batOk t = true) (hho : holds t 1 = true) (hodd : (t.flags % 2 == 1) = true) :
    Calls Tryz.prog 40 #[v, .int .i64 1] w fun e w' => Wrote w w' t 1 e := by
  have HV := Seg.hid hv
  obtain ⟨rv, rfl, hrs⟩ := hv
  obtain ⟨H, ⟨hn, A, c, rfl, hrow⟩, hh⟩ := hrs
  have HR := Seg.hid hrow; have HHd := Seg.hid hh
  obtain ⟨p1, p2, p3, p4, p5, p6, p7, p8⟩ := ok_parts hok
  obtain ⟨s1, s2, s3⟩ := bodyS_facts t 1 p8 p7
  have P8 := Seg.hid p8; have OK := Seg.hid hok; have HO := Seg.hid hho
  have BS : Hid (bodyS t 1 = SqF.sq (body 1 t.recs) 0 0 []) := by
    have := odd_t t.flags
    rw [hodd] at this
    show _ = _
    rw [bodyS, if_pos (by simpa using this.symm)]
  clear hrow hh p8 hok hho
  unfold batVal at HV ⊢
  go_enter Tryz.func40, Tryz.ntmps40
  go_wp2_with fail
  refine (BOk.spec_any _ t (w.alloc _) lo b (HV.out.below ((below1 w _).mono hb)) (by rw [hsz]; omega)).mono ?_
  rintro e w1 ⟨rfl, b1⟩
  rw [OK.out]
  have B1 := Seg.hid (chain (below1 w _) b1)
  have T1 : Hid (w1.heap[w.heap.size]? = some (.cells (BatW.batArr t (.slice A t.recs.length c)) 38 (0, 0))) := (b1.block w.heap.size (by rw [hsz]; omega)).trans (heap_alloc_new _ _)
  have z1 : w.heap.size < w1.heap.size := (Array.getElem?_eq_some_iff.1 T1.out).1
  clear b1
  go_wp2_with fail
  refine (ROk.l1In_b 1 1 2 true (by decide) w1).mono ?_
  rintro e w2 ⟨rfl, rfl⟩
  obtain ⟨c0, c1, c2, c3, c4, c5, c6⟩ := BOk.seven T1.out
  have HD := Seg.hid (holds_heads HO.out)
  have hpn : ¬ 0 ≤ t.producer := by rw [HD.out.1]; decide
  go_wp2_with fail
  go_loop [5] (fun i => ∃ k : Nat, i = .int .i64 k ∧ k ≤ t.recs.length) (fun i => t.recs.length - (intOf i).toNat)
  case atStart => exact ⟨0, rfl, Nat.zero_le _⟩
  case round =>
  obtain ⟨k, rfl, hle⟩ := hrel
  by_cases hlt : k < t.recs.length
  · obtain ⟨gr, o, rfl, hgr, hc, hcell, _⟩ := HR.out.resolve_left (by omega)
    obtain ⟨e0, e1, e2, e3, e4, e5⟩ := RecsW.six (RecsW.six' hcell B1.out (by omega)) k hlt
    obtain ⟨hnh, Ah, ch, hHe, _⟩ := HHd.out k hlt
    have hz0 := HD.out.2 k hlt
    rw [hHe, hz0] at e5
    have h0 : (0 : Int) ≤ (k : Int) := by omega
    have h1 : (k : Int) < (t.recs.length : Int) := by omega
    clear hcell hHe hz0
    generalize t.recs.getD k default = r at *
    go_wp2
    go_round
    case rel => exact ⟨k + 1, by go_num, by omega⟩
    case measure => simp [intOf]; omega
  have hkn : ¬ (k : Int) < (t.recs.length : Int) := by omega
  go_wp2_with fail
  clear c0 c1 c2 c3 c4 c5 c6
  refine (WrS.l2Body_any _ t 1 w1 lo b (HV.out.below (B1.out.mono hb)) (by omega) p7 P8.out).mono ?_
  rintro e w3 ⟨g3, cap3, rfl, o3, b3⟩
  obtain ⟨l3, hl3⟩ : ∃ l3, body 1 t.recs = l3 := ⟨_, rfl⟩
  have HL3 := Seg.hid hl3
  rw [hl3] at o3 s3 ⊢
  have O3 := Seg.hid (out_mono o3 (Nat.succ_le_succ (Nat.le_of_lt z1)))
  have B3 := Seg.hid (chain B1.out b3)
  have T3 := Seg.hid ((b3.block w.heap.size z1).trans T1.out)
  have z3 : w.heap.size < w3.heap.size := (Array.getElem?_eq_some_iff.1 T3.out).1
  clear o3 b3 hl3
  obtain ⟨c0, c1, c2, c3, c4, c5, c6⟩ := BOk.seven T3.out
  go_wp2_with fail
  clear c0 c1 c2 c3 c4 c5 c6
  refine (SqS.spec_in g3 0 cap3 l3 w3 (by omega) (Seg.owns_cap O3.out).1 (out_lt O3.out).2 (fun j hj => by rw [Nat.zero_add]; exact Seg.owns_cell O3.out j hj)).mono ?_
  rintro e w4 ⟨g4, cap4, rfl, o4, b4⟩
  obtain ⟨l4, hl4⟩ : ∃ l4, SqF.sq l3 0 0 [] = l4 := ⟨_, rfl⟩
  have L4 : Hid (l4 = bodyS t 1) := by show _ = _; rw [BS.out, HL3.out, hl4]
  have L4p : 0 < l4.length ∧ l4.length ≤ 80000 := by rw [L4.out]; exact ⟨s1, s2⟩
  rw [hl4] at o4 ⊢
  have O4 := Seg.hid (out_mono o4 z3)
  have B4 := Seg.hid (chain B3.out b4)
  have T4 := Seg.hid ((b4.block w.heap.size z3).trans T3.out)
  have z4 : w.heap.size < w4.heap.size := (Array.getElem?_eq_some_iff.1 T4.out).1
  clear o4 b4 hl4
  have B4' := B4.out.size
  have NB : Hid (∀ x ∈ headN 1 t (l4.length : Int), -1000000000000 ≤ x ∧ x ≤ 1000000000000) := nums_bound OK.out L4p.2
  obtain ⟨ns, hns⟩ : ∃ ns, headN 1 t (l4.length : Int) = ns := ⟨_, rfl⟩
  have hnl : ns.length = 4 := by rw [← hns]; rfl
  have HNS := Seg.hid hns
  rw [hns] at NB
  have NL := Seg.hid (numsB_le2 ns NB.out)
  clear hns
  obtain ⟨c0, c1, c2, c3, c4, c5, c6⟩ := BOk.seven (heap_alloc_old w4 (.cells #[.int .u8 77, .int .u8 1] 5 (0, 0)) z4 |>.trans T4.out)
  go_wp2_with fail
  have S5 : Hid (Sta w (w4.alloc (.cells #[.int .u8 77, .int .u8 1] 5 (0, 0))) g4 cap4 (.cells (BatW.batArr t (.slice A t.recs.length c)) 38 (0, 0)) l4 [77, 1] w4.heap.size 2) :=
    ⟨(heap_alloc_old w4 _ z4).trans T4.out, World.ownsRow.alloc O4.out _, World.ownsRow_lit (e := 5) (size := 1) w4 #[.int .u8 77, .int .u8 1] 2 z4 (by unfold maxLen; omega) rfl, by have := (out_lt O4.out).2; omega, B4.out.alloc B4' _⟩
  obtain ⟨w6, hw6⟩ : ∃ x, (w4.alloc (.cells #[.int .u8 77, .int .u8 1] 5 (0, 0))).alloc (.cells #[.int .i64 t.base, .int .i64 t.epoch, .int .i64 t.flags, .int .i64 l4.length] 3 (0, 0)) = x := ⟨_, rfl⟩
  have S6 : Hid (Sta w w6 g4 cap4 (.cells (BatW.batArr t (.slice A t.recs.length c)) 38 (0, 0)) l4 [77, 1] w4.heap.size 2) := by rw [← hw6]; exact S5.out.alloc _
  have NUM : Hid (w6.heap[w4.heap.size + 1]? = some (.cells #[.int .i64 t.base, .int .i64 t.epoch, .int .i64 t.flags, .int .i64 l4.length] 3 (0, 0))) := by rw [← hw6, ← hsz w4 (.cells #[.int .u8 77, .int .u8 1] 5 (0, 0))]; exact heap_alloc_new _ _
  clear c0 c1 c2 c3 c4 c5 c6
  have N0 : Hid (AtN w w6 g4 cap4 (w4.heap.size + 1) (.cells (BatW.batArr t (.slice A t.recs.length c)) 38 (0, 0)) l4 ns 0 (.slice (some ⟨w4.heap.size, 0, none⟩) 2 2) [77, 1] ([77, 1] ++ numsB ns)) := ⟨Nat.zero_le _, ⟨_, 2, rfl, S6.out, by omega⟩, by rw [← HNS.out]; exact NUM.out, rfl⟩
  have hl0 : ((4 : Nat) : Int) = (ns.length : Int) := by rw [hnl]
  go_loopw [7, 9] (fun v i wk => ∃ (k : Nat) (cur : List Int), i = .int .i64 k ∧ AtN w wk g4 cap4 (w4.heap.size + 1) (.cells (BatW.batArr t (.slice A t.recs.length c)) 38 (0, 0)) l4 ns k v cur ([77, 1] ++ numsB ns)) (fun _ i _ => 4 - (intOf i).toNat)
  case atStart => exact ⟨0, _, rfl, by first | exact N0.out | (rw [hw6]; exact N0.out)⟩
  case round =>
    clear N0
    obtain ⟨k, cur, rfl, P⟩ := hrel
    have HP := Seg.hid P
    obtain ⟨g7, cap7, rfl, st7, ng7⟩ := P.ou
    have hle := P.le
    have S7 := Seg.hid st7
    have z7 := st7.lt
    have hcl : cur.length ≤ 100 := by
      have h1 := congrArg List.length P.eq
      have h2 := NL.out
      simp only [List.length_append, List.length_cons, List.length_nil] at h1
      omega
    by_cases hlt : k < 4
    · have ck := P.cell k (by omega)
      obtain ⟨x, hx⟩ : ∃ x, ns.getD k 0 = x := ⟨_, rfl⟩
      have hxr : -1000000000000 ≤ x ∧ x ≤ 1000000000000 := NB.out x (by rw [← hx]; simp [hnl, hlt])
      have hpl := put_le x hxr
      have HX := Seg.hid hx
      rw [hx] at ck
      clear hx P st7
      have h0 : (0 : Int) ≤ (k : Int) := by omega
      have h1 : (k : Int) < 4 := by omega
      go_wp2_with fail
      refine (Put.spec_any x wr (by omega) (by omega)).mono ?_
      rintro e w8 ⟨g8, cap8, rfl, o8, b8⟩
      have O8 := Seg.hid o8; have B8 := Seg.hid b8
      have z8 := b8.size
      clear o8 b8
      go_wp2_with (at_builtin; refine app rfl (.tmp 92) (.tmp 97) rfl (w.heap.size + 1) g7 cap7 cur (put x) ?zzs ?zzo ⟨g8, 0, none⟩ cap8 ?zzx ?zzn ?zzm ?zzb ?zzba ?_; (case zzs => rfl); (case zzo => exact out_below S7.out.out B8.out); (case zzx => rfl); (case zzn => exact fun j hj => out_cell (l := put x) O8.out j hj); (case zzm => exact Nums.put_pos x); (case zzb => omega); (case zzba => omega); intro g9 cap9 w9 o9 gr9 at9; have NX := Seg.hid (fun n hn => AtN.next (n := n) HP.out (by omega) HX.out S7.out ng7 B8.out o9 gr9 at9 hn); clear o9 gr9 at9)
      go_roundw
      case rel => exact ⟨k + 1, _, by go_num, NX.out _ (by rw [List.length_append])⟩
      case measure => simp [intOf]; omega
    · obtain ⟨l8, hl8⟩ : ∃ l8, cur = l8 := ⟨_, rfl⟩
      have HC8 : Hid (l8 = [77, 1] ++ numsB ns) := by
        have := P.eq
        rw [List.drop_of_length_le (by omega), numsB, List.append_nil] at this
        show _ = _
        rw [← hl8, this]
      rw [hl8] at S7 hcl ⊢
      obtain ⟨g8, hg8⟩ : ∃ g, g7 = g := ⟨_, rfl⟩
      rw [hg8] at S7 ng7 ⊢
      clear P st7 hl8 HP hg8
      have hkn : ¬ (k : Int) < 4 := by omega
      go_wp2_with (at_builtin; refine app rfl (.tmp 99) (.tmp 100) rfl (w.heap.size + 1) g8 cap7 l8 l4 ?zzs ?zzo ⟨g4, 0, none⟩ cap4 ?zzx ?zzn ?zzm ?zzb ?zzba ?_; (case zzs => rfl); (case zzo => exact S7.out.out); (case zzx => rfl); (case zzn => exact fun j hj => out_cell S7.out.bod j hj); (case zzm => omega); (case zzb => omega); (case zzba => omega); intro g9 cap9 w9 o9 gr9 at9; have S9 := Seg.hid (Sta.ext (n := 0) S7.out o9 gr9 at9); have z9 := S9.out.lt; clear o9 gr9 at9)
      have HPr : Hid (l8 ++ l4 = pre t 1) := by
        show _ = _
        rw [pre, ← L4.out, HC8.out, HNS.out]
      obtain ⟨l9, hl9⟩ : ∃ l9, l8 ++ l4 = l9 := ⟨_, rfl⟩
      have h9l : l8.length + l4.length = l9.length := by rw [← hl9, List.length_append]
      have hl9l : l9.length ≤ 80200 := by omega
      rw [hl9] at S9 HPr
      rw [h9l]
      clear hl9 h9l
      have BY9 : Hid (Seg.Byt l9) := (by rw [HPr.out]; exact (((show By [77, (1 : Int)] from fun x hx => by simp at hx; omega).app (by_nums _)).app (by_bodyS _ _)).byt : Seg.Byt l9)
      have hck := WrC.check_lt BY9.out
      refine (Chk.spec_core g9 0 l9.length cap9 l9 w9 (by omega) (Seg.owns_cap S9.out.out).1 rfl (fun i hi => by rw [Nat.zero_add]; exact Seg.owns_cell S9.out.out i hi) BY9.out).mono ?_
      rintro e w10 ⟨rfl, rfl⟩
      go_wp2_with fail
      refine (WrS.l2Four_any (Crc.check l9) w9 hck).mono ?_
      rintro e w10 ⟨g10, rfl, o10, b10⟩
      have O10 := Seg.hid o10
      have N10 := Seg.hid (out_below S9.out.out b10)
      have B10 := Seg.hid (chain S9.out.bl b10)
      have z10 := b10.size
      clear o10 b10
      go_wp2_with (at_builtin; refine app rfl (.tmp 102) (.tmp 105) rfl (w.heap.size + 1) g9 cap9 l9 (four (Crc.check l9)) ?zzs ?zzo ⟨g10, 0, none⟩ 4 ?zzx ?zzn ?zzm ?zzb ?zzba ?_; (case zzs => rfl); (case zzo => exact N10.out); (case zzx => rfl); (case zzn => exact fun j hj => out_cell O10.out j hj); (case zzm => simp [four]); (case zzb => simp [four]; omega); (case zzba => omega); intro g11 cap11 w11 o11 gr11 at11; have O11 := Seg.hid o11; have B11 : Hid (Below w.heap.size w w11) := B10.out.grown gr11 (by omega) (fun k hk => by cases hk; have := (out_lt S9.out.out).1; omega); clear o11 gr11 at11)
      go_ret
      refine ⟨g11, cap11, ?_, ?_, B11.out⟩
      · rw [wr_yes OK.out HO.out, ← HPr.out, List.length_append]
        rfl
      · rw [wr_yes OK.out HO.out, ← HPr.out]
        exact out_mono O11.out (by omega)

set_option maxHeartbeats 3200000 in
theorem spec_s2 (v : Value) (t : Bat) (w : World) (lo b : Nat) (hv : BatAt w lo b v t) (hb : b ≤ w.heap.size) (hok : BOk.batOk t = true) (hho : holds t 2 = true) (hodd : (t.flags % 2 == 1) = true) :
    Calls Tryz.prog 40 #[v, .int .i64 2] w fun e w' => Wrote w w' t 2 e := by
  have HV := Seg.hid hv
  obtain ⟨rv, rfl, hrs⟩ := hv
  obtain ⟨H, ⟨hn, A, c, rfl, hrow⟩, hh⟩ := hrs
  have HR := Seg.hid hrow; have HHd := Seg.hid hh
  obtain ⟨p1, p2, p3, p4, p5, p6, p7, p8⟩ := ok_parts hok
  obtain ⟨s1, s2, s3⟩ := bodyS_facts t 2 p8 p7
  have P8 := Seg.hid p8; have OK := Seg.hid hok; have HO := Seg.hid hho
  have BS : Hid (bodyS t 2 = SqF.sq (body 2 t.recs) 0 0 []) := by
    have := odd_t t.flags
    rw [hodd] at this
    show _ = _
    rw [bodyS, if_pos (by simpa using this.symm)]
  clear hrow hh p8 hok hho
  unfold batVal at HV ⊢
  go_enter Tryz.func40, Tryz.ntmps40
  go_wp2_with fail
  refine (BOk.spec_any _ t (w.alloc _) lo b (HV.out.below ((below1 w _).mono hb)) (by rw [hsz]; omega)).mono ?_
  rintro e w1 ⟨rfl, b1⟩
  rw [OK.out]
  have B1 := Seg.hid (chain (below1 w _) b1)
  have T1 : Hid (w1.heap[w.heap.size]? = some (.cells (BatW.batArr t (.slice A t.recs.length c)) 38 (0, 0))) := (b1.block w.heap.size (by rw [hsz]; omega)).trans (heap_alloc_new _ _)
  have z1 : w.heap.size < w1.heap.size := (Array.getElem?_eq_some_iff.1 T1.out).1
  clear b1
  go_wp2_with fail
  refine (ROk.l1In_b 2 1 2 true (by decide) w1).mono ?_
  rintro e w2 ⟨rfl, rfl⟩
  obtain ⟨c0, c1, c2, c3, c4, c5, c6⟩ := BOk.seven T1.out
  have hpos : (0 : Int) < (t.recs.length : Int) := by have := (BOk.okNum' OK.out); omega
  go_wp2_with fail
  go_loop [5] (fun i => i = .int .i64 0) (fun _ => 0)
  case atStart => rfl
  case round =>
  subst hrel
  go_wp2_with fail
  clear c0 c1 c2 c3 c4 c5 c6
  refine (WrS.l2Body_any _ t 2 w1 lo b (HV.out.below (B1.out.mono hb)) (by omega) p7 P8.out).mono ?_
  rintro e w3 ⟨g3, cap3, rfl, o3, b3⟩
  obtain ⟨l3, hl3⟩ : ∃ l3, body 2 t.recs = l3 := ⟨_, rfl⟩
  have HL3 := Seg.hid hl3
  rw [hl3] at o3 s3 ⊢
  have O3 := Seg.hid (out_mono o3 (Nat.succ_le_succ (Nat.le_of_lt z1)))
  have B3 := Seg.hid (chain B1.out b3)
  have T3 := Seg.hid ((b3.block w.heap.size z1).trans T1.out)
  have z3 : w.heap.size < w3.heap.size := (Array.getElem?_eq_some_iff.1 T3.out).1
  clear o3 b3 hl3
  obtain ⟨c0, c1, c2, c3, c4, c5, c6⟩ := BOk.seven T3.out
  go_wp2_with fail
  clear c0 c1 c2 c3 c4 c5 c6
  refine (SqS.spec_in g3 0 cap3 l3 w3 (by omega) (Seg.owns_cap O3.out).1 (out_lt O3.out).2 (fun j hj => by rw [Nat.zero_add]; exact Seg.owns_cell O3.out j hj)).mono ?_
  rintro e w4 ⟨g4, cap4, rfl, o4, b4⟩
  obtain ⟨l4, hl4⟩ : ∃ l4, SqF.sq l3 0 0 [] = l4 := ⟨_, rfl⟩
  have L4 : Hid (l4 = bodyS t 2) := by show _ = _; rw [BS.out, HL3.out, hl4]
  have L4p : 0 < l4.length ∧ l4.length ≤ 80000 := by rw [L4.out]; exact ⟨s1, s2⟩
  rw [hl4] at o4 ⊢
  have O4 := Seg.hid (out_mono o4 z3)
  have B4 := Seg.hid (chain B3.out b4)
  have T4 := Seg.hid ((b4.block w.heap.size z3).trans T3.out)
  have z4 : w.heap.size < w4.heap.size := (Array.getElem?_eq_some_iff.1 T4.out).1
  clear o4 b4 hl4
  have B4' := B4.out.size
  have NB : Hid (∀ x ∈ headN 2 t (l4.length : Int), -1000000000000 ≤ x ∧ x ≤ 1000000000000) := nums_bound OK.out L4p.2
  obtain ⟨ns, hns⟩ : ∃ ns, headN 2 t (l4.length : Int) = ns := ⟨_, rfl⟩
  have hnl : ns.length = 7 := by rw [← hns]; rfl
  have HNS := Seg.hid hns
  rw [hns] at NB
  have NL := Seg.hid (numsB_le2 ns NB.out)
  clear hns
  obtain ⟨c0, c1, c2, c3, c4, c5, c6⟩ := BOk.seven (heap_alloc_old w4 (.cells #[.int .u8 77, .int .u8 2] 5 (0, 0)) z4 |>.trans T4.out)
  have S5 : Hid (Sta w (w4.alloc (.cells #[.int .u8 77, .int .u8 2] 5 (0, 0))) g4 cap4 (.cells (BatW.batArr t (.slice A t.recs.length c)) 38 (0, 0)) l4 [77, 2] w4.heap.size 2) :=
    ⟨(heap_alloc_old w4 _ z4).trans T4.out, World.ownsRow.alloc O4.out _, World.ownsRow_lit (e := 5) (size := 1) w4 #[.int .u8 77, .int .u8 2] 2 z4 (by unfold maxLen; omega) rfl, by have := (out_lt O4.out).2; omega, B4.out.alloc B4' _⟩
  have S5b := Seg.hid (S5.out.alloc (.cells #[.int .i64 t.base, .int .i64 t.epoch, .int .i64 t.flags, .int .i64 l4.length] 3 (0, 0)))
  obtain ⟨d0, d1, d2, d3, d4, d5, d6⟩ := BOk.seven S5b.out.var
  go_wp2_with fail
  obtain ⟨w6, hw6⟩ : ∃ x, ((w4.alloc (.cells #[.int .u8 77, .int .u8 2] 5 (0, 0))).alloc (.cells #[.int .i64 t.base, .int .i64 t.epoch, .int .i64 t.flags, .int .i64 l4.length] 3 (0, 0))).alloc (.cells #[.int .i64 t.base, .int .i64 t.epoch, .int .i64 t.producer, .int .i64 t.turn, .int .i64 t.seq, .int .i64 t.flags, .int .i64 l4.length] 3 (0, 0)) = x := ⟨_, rfl⟩
  have S6 : Hid (Sta w w6 g4 cap4 (.cells (BatW.batArr t (.slice A t.recs.length c)) 38 (0, 0)) l4 [77, 2] w4.heap.size 2) := by rw [← hw6]; exact S5b.out.alloc _
  have NUM : Hid (w6.heap[w4.heap.size + 1 + 1]? = some (.cells #[.int .i64 t.base, .int .i64 t.epoch, .int .i64 t.producer, .int .i64 t.turn, .int .i64 t.seq, .int .i64 t.flags, .int .i64 l4.length] 3 (0, 0))) := by rw [← hw6, ← hsz w4 (.cells #[.int .u8 77, .int .u8 2] 5 (0, 0)), ← hsz (w4.alloc (.cells #[.int .u8 77, .int .u8 2] 5 (0, 0))) (.cells #[.int .i64 t.base, .int .i64 t.epoch, .int .i64 t.flags, .int .i64 l4.length] 3 (0, 0))]; exact heap_alloc_new _ _
  clear c0 c1 c2 c3 c4 c5 c6 d0 d1 d2 d3 d4 d5 d6
  have N0 : Hid (AtN w w6 g4 cap4 (w4.heap.size + 1 + 1) (.cells (BatW.batArr t (.slice A t.recs.length c)) 38 (0, 0)) l4 ns 0 (.slice (some ⟨w4.heap.size, 0, none⟩) 2 2) [77, 2] ([77, 2] ++ numsB ns)) := ⟨Nat.zero_le _, ⟨_, 2, rfl, S6.out, by omega⟩, by rw [← HNS.out]; exact NUM.out, rfl⟩
  have hl0 : ((7 : Nat) : Int) = (ns.length : Int) := by rw [hnl]
  go_loopw [7, 9] (fun v i wk => ∃ (k : Nat) (cur : List Int), i = .int .i64 k ∧ AtN w wk g4 cap4 (w4.heap.size + 1 + 1) (.cells (BatW.batArr t (.slice A t.recs.length c)) 38 (0, 0)) l4 ns k v cur ([77, 2] ++ numsB ns)) (fun _ i _ => 7 - (intOf i).toNat)
  case atStart => exact ⟨0, _, rfl, by first | exact N0.out | (rw [hw6]; exact N0.out)⟩
  case round =>
    clear N0
    obtain ⟨k, cur, rfl, P⟩ := hrel
    have HP := Seg.hid P
    obtain ⟨g7, cap7, rfl, st7, ng7⟩ := P.ou
    have hle := P.le
    have S7 := Seg.hid st7
    have z7 := st7.lt
    have hcl : cur.length ≤ 100 := by
      have h1 := congrArg List.length P.eq
      have h2 := NL.out
      simp only [List.length_append, List.length_cons, List.length_nil] at h1
      omega
    by_cases hlt : k < 7
    · have ck := P.cell k (by omega)
      obtain ⟨x, hx⟩ : ∃ x, ns.getD k 0 = x := ⟨_, rfl⟩
      have hxr : -1000000000000 ≤ x ∧ x ≤ 1000000000000 := NB.out x (by rw [← hx]; simp [hnl, hlt])
      have hpl := put_le x hxr
      have HX := Seg.hid hx
      rw [hx] at ck
      clear hx P st7
      have h0 : (0 : Int) ≤ (k : Int) := by omega
      have h1 : (k : Int) < 7 := by omega
      go_wp2_with fail
      refine (Put.spec_any x wr (by omega) (by omega)).mono ?_
      rintro e w8 ⟨g8, cap8, rfl, o8, b8⟩
      have O8 := Seg.hid o8; have B8 := Seg.hid b8
      have z8 := b8.size
      clear o8 b8
      go_wp2_with (at_builtin; refine app rfl (.tmp 92) (.tmp 97) rfl (w.heap.size + 1) g7 cap7 cur (put x) ?zzs ?zzo ⟨g8, 0, none⟩ cap8 ?zzx ?zzn ?zzm ?zzb ?zzba ?_; (case zzs => rfl); (case zzo => exact out_below S7.out.out B8.out); (case zzx => rfl); (case zzn => exact fun j hj => out_cell (l := put x) O8.out j hj); (case zzm => exact Nums.put_pos x); (case zzb => omega); (case zzba => omega); intro g9 cap9 w9 o9 gr9 at9; have NX := Seg.hid (fun n hn => AtN.next (n := n) HP.out (by omega) HX.out S7.out ng7 B8.out o9 gr9 at9 hn); clear o9 gr9 at9)
      go_roundw
      case rel => exact ⟨k + 1, _, by go_num, NX.out _ (by rw [List.length_append])⟩
      case measure => simp [intOf]; omega
    · obtain ⟨l8, hl8⟩ : ∃ l8, cur = l8 := ⟨_, rfl⟩
      have HC8 : Hid (l8 = [77, 2] ++ numsB ns) := by
        have := P.eq
        rw [List.drop_of_length_le (by omega), numsB, List.append_nil] at this
        show _ = _
        rw [← hl8, this]
      rw [hl8] at S7 hcl ⊢
      obtain ⟨g8, hg8⟩ : ∃ g, g7 = g := ⟨_, rfl⟩
      rw [hg8] at S7 ng7 ⊢
      clear P st7 hl8 HP hg8
      have hkn : ¬ (k : Int) < 7 := by omega
      go_wp2_with (at_builtin; refine app rfl (.tmp 99) (.tmp 100) rfl (w.heap.size + 1) g8 cap7 l8 l4 ?zzs ?zzo ⟨g4, 0, none⟩ cap4 ?zzx ?zzn ?zzm ?zzb ?zzba ?_; (case zzs => rfl); (case zzo => exact S7.out.out); (case zzx => rfl); (case zzn => exact fun j hj => out_cell S7.out.bod j hj); (case zzm => omega); (case zzb => omega); (case zzba => omega); intro g9 cap9 w9 o9 gr9 at9; have S9 := Seg.hid (Sta.ext (n := 0) S7.out o9 gr9 at9); have z9 := S9.out.lt; clear o9 gr9 at9)
      have HPr : Hid (l8 ++ l4 = pre t 2) := by
        show _ = _
        rw [pre, ← L4.out, HC8.out, HNS.out]
      obtain ⟨l9, hl9⟩ : ∃ l9, l8 ++ l4 = l9 := ⟨_, rfl⟩
      have h9l : l8.length + l4.length = l9.length := by rw [← hl9, List.length_append]
      have hl9l : l9.length ≤ 80200 := by omega
      rw [hl9] at S9 HPr
      rw [h9l]
      clear hl9 h9l
      have BY9 : Hid (Seg.Byt l9) := (by rw [HPr.out]; exact (((show By [77, (2 : Int)] from fun x hx => by simp at hx; omega).app (by_nums _)).app (by_bodyS _ _)).byt : Seg.Byt l9)
      have hck := WrC.check_lt BY9.out
      refine (Chk.spec_core g9 0 l9.length cap9 l9 w9 (by omega) (Seg.owns_cap S9.out.out).1 rfl (fun i hi => by rw [Nat.zero_add]; exact Seg.owns_cell S9.out.out i hi) BY9.out).mono ?_
      rintro e w10 ⟨rfl, rfl⟩
      go_wp2_with fail
      refine (WrS.l2Four_any (Crc.check l9) w9 hck).mono ?_
      rintro e w10 ⟨g10, rfl, o10, b10⟩
      have O10 := Seg.hid o10
      have N10 := Seg.hid (out_below S9.out.out b10)
      have B10 := Seg.hid (chain S9.out.bl b10)
      have z10 := b10.size
      clear o10 b10
      go_wp2_with (at_builtin; refine app rfl (.tmp 102) (.tmp 105) rfl (w.heap.size + 1) g9 cap9 l9 (four (Crc.check l9)) ?zzs ?zzo ⟨g10, 0, none⟩ 4 ?zzx ?zzn ?zzm ?zzb ?zzba ?_; (case zzs => rfl); (case zzo => exact N10.out); (case zzx => rfl); (case zzn => exact fun j hj => out_cell O10.out j hj); (case zzm => simp [four]); (case zzb => simp [four]; omega); (case zzba => omega); intro g11 cap11 w11 o11 gr11 at11; have O11 := Seg.hid o11; have B11 : Hid (Below w.heap.size w w11) := B10.out.grown gr11 (by omega) (fun k hk => by cases hk; have := (out_lt S9.out.out).1; omega); clear o11 gr11 at11)
      go_ret
      refine ⟨g11, cap11, ?_, ?_, B11.out⟩
      · rw [wr_yes OK.out HO.out, ← HPr.out, List.length_append]
        rfl
      · rw [wr_yes OK.out HO.out, ← HPr.out]
        exact out_mono O11.out (by omega)
end Go.Proofs.YtoplbemolnpngaaGreat.WrU
namespace Go.Proofs.YtoplbemolnpngaaGreat.WrU
set_option maxRecDepth 8000
open Go.RowKit
open WrI (Wrote wrote_none ok_parts)
open WrP
open Recs
set_option linter.unusedVariables false

set_option maxHeartbeats 800000 in
theorem spec_no0 (v : Value) (t : Bat) (ver : Int) (w : World) (lo b : Nat) (hv : BatAt w lo b v t) (hb : b ≤ w.heap.size) (hok : BOk.batOk t = false) :
    Calls Tryz.prog 40 #[v, .int .i64 ver] w fun e w' => Wrote w w' t ver e := by
  have HV := Seg.hid hv
  obtain ⟨rv, rfl, hrs⟩ := hv
  obtain ⟨H, ⟨hn, A, c, rfl, hx1⟩, hx2⟩ := hrs
  have HK : Hid ((BOk.batOk t && holds t ver) = false) := by rw [hok]; rfl
  have OK := Seg.hid hok
  clear hx1 hx2 hok
  unfold batVal at HV ⊢
  go_enter Tryz.func40, Tryz.ntmps40
  go_wp2_with fail
  refine (BOk.spec_any _ t (w.alloc _) lo b (HV.out.below ((below1 w _).mono hb)) (by rw [hsz]; omega)).mono ?_
  rintro e w1 ⟨rfl, b1⟩
  rw [OK.out]
  have B1 := Seg.hid (chain (below1 w _) b1)
  clear b1
  go_wp2
  go_ret
  exact wrote_none HK.out B1.out _ rfl

set_option maxHeartbeats 800000 in
theorem spec_no1 (v : Value) (t : Bat) (ver : Int) (w : World) (lo b : Nat) (hv : BatAt w lo b v t) (hb : b ≤ w.heap.size) (hok : BOk.batOk t = true) (hver : (decide (1 ≤ ver) && decide (ver ≤ 2)) = false) :
    Calls Tryz.prog 40 #[v, .int .i64 ver] w fun e w' => Wrote w w' t ver e := by
  have HV := Seg.hid hv
  obtain ⟨rv, rfl, hrs⟩ := hv
  obtain ⟨H, ⟨hn, A, c, rfl, hx1⟩, hx2⟩ := hrs
  have HK : Hid ((BOk.batOk t && holds t ver) = false) := by
    show _ = _
    have h2 : ¬ ver = 2 := by rintro rfl; simp at hver
    have h1 : ¬ ver = 1 := by rintro rfl; simp at hver
    simp [holds, h1, h2]
  have OK := Seg.hid hok; have HVr := Seg.hid hver
  clear hx1 hx2 hok hver
  unfold batVal at HV ⊢
  go_enter Tryz.func40, Tryz.ntmps40
  go_wp2_with fail
  refine (BOk.spec_any _ t (w.alloc _) lo b (HV.out.below ((below1 w _).mono hb)) (by rw [hsz]; omega)).mono ?_
  rintro e w1 ⟨rfl, b1⟩
  rw [OK.out]
  have B1 := Seg.hid (chain (below1 w _) b1)
  clear b1
  go_wp2_with fail
  refine (ROk.l1In_b ver 1 2 false HVr.out w1).mono ?_
  rintro e w2 ⟨rfl, rfl⟩
  go_wp2
  go_ret
  exact wrote_none HK.out B1.out _ rfl

set_option maxHeartbeats 800000 in
theorem spec_no2 (v : Value) (t : Bat) (w : World) (lo b : Nat) (hv : BatAt w lo b v t) (hb : b ≤ w.heap.size) (hok : BOk.batOk t = true) (hp : 0 ≤ t.producer) :
    Calls Tryz.prog 40 #[v, .int .i64 1] w fun e w' => Wrote w w' t 1 e := by
  have HV := Seg.hid hv
  obtain ⟨rv, rfl, hrs⟩ := hv
  obtain ⟨H, ⟨hn, A, c, rfl, hx1⟩, hx2⟩ := hrs
  have HK : Hid ((BOk.batOk t && holds t 1) = false) := by
    show _ = _
    have h2 : ¬ t.producer = -1 := by omega
    simp [holds, h2]
  have OK := Seg.hid hok
  clear hx1 hx2 hok
  unfold batVal at HV ⊢
  go_enter Tryz.func40, Tryz.ntmps40
  go_wp2_with fail
  refine (BOk.spec_any _ t (w.alloc _) lo b (HV.out.below ((below1 w _).mono hb)) (by rw [hsz]; omega)).mono ?_
  rintro e w1 ⟨rfl, b1⟩
  rw [OK.out]
  have B1 := Seg.hid (chain (below1 w _) b1)
  have T1 : Hid (w1.heap[w.heap.size]? = some (.cells (BatW.batArr t (.slice A t.recs.length c)) 38 (0, 0))) := (b1.block w.heap.size (by rw [hsz]; omega)).trans (heap_alloc_new _ _)
  clear b1
  go_wp2_with fail
  refine (ROk.l1In_b 1 1 2 true (by decide) w1).mono ?_
  rintro e w2 ⟨rfl, rfl⟩
  obtain ⟨c0, c1, c2, c3, c4, c5, c6⟩ := BOk.seven T1.out
  go_wp2
  go_ret
  exact wrote_none HK.out B1.out _ rfl

set_option maxHeartbeats 1600000 in
theorem spec_no3 (v : Value) (t : Bat) (w : World) (lo b : Nat) (hv : BatAt w lo b v t) (hb : b ≤ w.heap.size) (hok : BOk.batOk t = true) (hp : t.producer = -1) (hhd : ¬ ∀ i, i < t.recs.length → (t.recs.getD i default).heads.length = 0) :
    Calls Tryz.prog 40 #[v, .int .i64 1] w fun e w' => Wrote w w' t 1 e := by
  have HV := Seg.hid hv
  obtain ⟨rv, rfl, hrs⟩ := hv
  obtain ⟨H, ⟨hn, A, c, rfl, hrow⟩, hh⟩ := hrs
  have HR := Seg.hid hrow; have HHd := Seg.hid hh
  have HK : Hid ((BOk.batOk t && holds t 1) = false) := by
    show _ = _
    rw [hok, Bool.true_and]
    cases hh1 : holds t 1 with
    | false => rfl
    | true => exact absurd (holds_heads hh1).2 hhd
  have OK := Seg.hid hok; have HN := Seg.hid hhd
  have hpn : ¬ 0 ≤ t.producer := by omega
  clear hrow hh hok hhd hp
  unfold batVal at HV ⊢
  go_enter Tryz.func40, Tryz.ntmps40
  go_wp2_with fail
  refine (BOk.spec_any _ t (w.alloc _) lo b (HV.out.below ((below1 w _).mono hb)) (by rw [hsz]; omega)).mono ?_
  rintro e w1 ⟨rfl, b1⟩
  rw [OK.out]
  have B1 := Seg.hid (chain (below1 w _) b1)
  have T1 : Hid (w1.heap[w.heap.size]? = some (.cells (BatW.batArr t (.slice A t.recs.length c)) 38 (0, 0))) := (b1.block w.heap.size (by rw [hsz]; omega)).trans (heap_alloc_new _ _)
  have z1 : w.heap.size < w1.heap.size := (Array.getElem?_eq_some_iff.1 T1.out).1
  clear b1
  go_wp2_with fail
  refine (ROk.l1In_b 1 1 2 true (by decide) w1).mono ?_
  rintro e w2 ⟨rfl, rfl⟩
  obtain ⟨c0, c1, c2, c3, c4, c5, c6⟩ := BOk.seven T1.out
  go_wp2_with fail
  go_loop [5] (fun i => ∃ k : Nat, i = .int .i64 k ∧ k ≤ t.recs.length ∧ Hid (∀ i, i < k → (t.recs.getD i default).heads.length = 0)) (fun i => t.recs.length - (intOf i).toNat)
  case atStart => exact ⟨0, rfl, Nat.zero_le _, fun i hi => absurd hi (by omega)⟩
  case round =>
    obtain ⟨k, rfl, hle, HQ⟩ := hrel
    by_cases hlt : k < t.recs.length
    · obtain ⟨gr, o, rfl, hgr, hc, hcell, _⟩ := HR.out.resolve_left (by omega)
      obtain ⟨e0, e1, e2, e3, e4, e5⟩ := RecsW.six (RecsW.six' hcell B1.out (by omega)) k hlt
      obtain ⟨hnh, Ah, ch, hHe, _⟩ := HHd.out k hlt
      rw [hHe] at e5
      have h0 : (0 : Int) ≤ (k : Int) := by omega
      have h1 : (k : Int) < (t.recs.length : Int) := by omega
      clear hcell hHe
      have NX : Hid ((t.recs.getD k default).heads.length = 0 → ∀ i, i < k + 1 → (t.recs.getD i default).heads.length = 0) := fun hz i hi => by
        by_cases he : i = k
        · subst he; exact hz
        · exact HQ.out i (by omega)
      generalize t.recs.getD k default = r at *
      by_cases hz : r.heads.length = 0
      · have N1 := Seg.hid (NX.out hz)
        rw [hz] at e5
        clear hz
        go_wp2
        go_round
        case rel => exact ⟨k + 1, by go_num, by omega, N1.out⟩
        case measure => simp [intOf]; omega
      · have hz0 : (0 : Int) < (r.heads.length : Int) := by omega
        clear hz
        go_wp2
        go_ret
        exact wrote_none HK.out B1.out _ rfl
    · exact absurd (fun i hi => HQ.out i (by omega)) HN.out

theorem spec_any (v : Value) (t : Bat) (ver : Int) (w : World) (lo b : Nat) (hv : BatAt w lo b v t) (hb : b ≤ w.heap.size) :
    Calls Tryz.prog 40 #[v, .int .i64 ver] w fun e w' => Wrote w w' t ver e := by
  cases hok : BOk.batOk t with
  | false => exact spec_no0 v t ver w lo b hv hb hok
  | true =>
  cases hver : (decide (1 ≤ ver) && decide (ver ≤ 2)) with
  | false => exact spec_no1 v t ver w lo b hv hb hok hver
  | true =>
  have hv12 : ver = 1 ∨ ver = 2 := by
    simp only [Bool.and_eq_true, decide_eq_true_eq] at hver
    omega
  obtain ⟨p1, p2, p3, p4, p5, p6, p7, p8⟩ := ok_parts hok
  rcases hv12 with rfl | rfl
  · by_cases hp : 0 ≤ t.producer
    · exact spec_no2 v t w lo b hv hb hok hp
    have hp' : t.producer = -1 := by omega
    by_cases hhd : ∀ i, i < t.recs.length → (t.recs.getD i default).heads.length = 0
    · have hho : holds t 1 = true := by
        have : (t.recs.all fun r => decide (r.heads.length = 0)) = true := by
          rw [List.all_eq_true]
          intro x hx
          obtain ⟨i, hi, rfl⟩ := List.getElem_of_mem hx
          have := hhd i hi
          simpa [hi] using this
        unfold holds
        rw [this, hp']
        decide
      cases hodd : (t.flags % 2 == 1) with
      | true => exact spec_s1 v t w lo b hv hb hok hho hodd
      | false => exact spec_p1 v t w lo b hv hb hok hho hodd
    · exact spec_no3 v t w lo b hv hb hok hp' hhd
  · have hho : holds t 2 = true := by simp [holds]
    cases hodd : (t.flags % 2 == 1) with
    | true => exact spec_s2 v t w lo b hv hb hok hho hodd
    | false => exact spec_p2 v t w lo b hv hb hok hho hodd
end Go.Proofs.YtoplbemolnpngaaGreat.WrU
namespace Go.Proofs.YtoplbemolnpngaaGreat.Zs
set_option maxRecDepth 8000
open Go.RowKit
open Recs (hsz Row below1 below2 BatAt RecsAt batVal Bat Rec chain chainD)
open Bats
set_option linter.unusedVariables false
theorem size_any (v : Value) (t : Bat) (w : World) (lo b : Nat) (hv : BatAt w lo b v t) (hb : b ≤ w.heap.size) :
    Calls Tryz.prog 24 #[v] w fun e w' => e = .returned (.int .i64 (size t)) ∧ Below w.heap.size w w' := by
  have HV := Seg.hid hv
  obtain ⟨rv, rfl, H, ⟨hn, A, c, rfl, hx1⟩, hx2⟩ := hv
  clear hx1 hx2
  unfold batVal at HV ⊢
  go_enter Tryz.func24, Tryz.ntmps24
  go_wp2_with fail
  refine (WrU.spec_any _ t 2 (w.alloc _) lo b (HV.out.below ((below1 w _).mono hb)) (by rw [hsz]; omega)).mono ?_
  rintro e w1 ⟨g, cap, rfl, o1, b1⟩
  have B1 := Seg.hid (chain (below1 w _) b1)
  clear b1 o1
  go_wp2
  go_ret
  exact ⟨rfl, B1.out⟩
end Go.Proofs.YtoplbemolnpngaaGreat.Zs
