/- Sizes of batches: of the model, one; The model's ReadFrom. -/
import Derived.Test.YtojalklkpnaofaaJF37
import Derived.Test.YtojalklkpnaofaaJF46
import Derived.Test.YtojalklkpnaofaaJF38
import Derived.Test.YtojalklkpnaofaaJF17
import Derived.Test.YtojalklkpnaofaaJF43
import Derived.Test.YtojalklkpnaofaaJF19
import Derived.Test.YtojalklkpnaofaaJF12
namespace Go.Proofs.Ytojalklkpnaofaa.Zs
set_option maxRecDepth 8000
open Go.RowKit
open Recs (hsz Row below1 below2 BatAt RecsAt batVal Bat Rec chain chainD)
open Bats
set_option linter.unusedVariables false
theorem size_any (v : Value) (t : Bat) (w : World) (lo b : Nat) (hv : BatAt w lo b v t) (hb : b ≤ w.heap.size) :
    Calls Try.prog 25 #[v] w fun e w' => e = .returned (.int .i64 (size t)) ∧ Below w.heap.size w w' := by
  have HV := Seg.hid hv
  obtain ⟨rv, rfl, H, ⟨hn, A, c, rfl, hx1⟩, hx2⟩ := hv
  clear hx1 hx2
  unfold batVal at HV ⊢
  go_enter Try.func25, Try.ntmps25
  go_wp2_with fail
  refine (WrU.spec_any _ t 2 (w.alloc _) lo b (HV.out.below ((below1 w _).mono hb)) (by rw [hsz]; omega)).mono ?_
  rintro e w1 ⟨g, cap, rfl, o1, b1⟩
  have B1 := Seg.hid (chain (below1 w _) b1)
  clear b1 o1
  go_wp2
  go_ret
  exact ⟨rfl, B1.out⟩
end Go.Proofs.Ytojalklkpnaofaa.Zs
namespace Go.Proofs.Ytojalklkpnaofaa.Ft
set_option maxRecDepth 8000
open Go.RowKit
open Recs
open Bats SegW Segs LogW BfP RfP Zs SrP
open LgP (logOk inR)
open Of (four ok_all okB_flat flat_count)
set_option linter.unusedVariables false
/-- How far the list is read: blocks that lay ahead are as they were, but for the empty row EB0 at the list's beginning. -/
structure RF (w2 wr : World) (n0 : Nat) (v : Value) (us : List Bat) : Prop where
  grow : LGrow 44 7 EB wr n0 v us
  keep : ∀ x, x < w2.heap.size → x ≠ n0 → wr.heap[x]? = w2.heap[x]?
  out : ∀ x, v.ownBlock = some x → x = n0 ∨ w2.heap.size ≤ x
  os : wr.os = w2.os ∧ wr.tape = w2.tape ∧ wr.output = w2.output
  size : w2.heap.size ≤ wr.heap.size
  n0 : n0 < w2.heap.size
theorem RF.later {w2 wr w' : World} {n0 : Nat} {v : Value} {us : List Bat} (h : RF w2 wr n0 v us) (b : Below wr.heap.size wr w') : RF w2 w' n0 v us :=
  ⟨h.grow.below keepsB b, fun x h1 h2 => (b.block x (by have := h.size; omega)).trans (h.keep x h1 h2), h.out, ⟨b.os.trans h.os.1, b.tape.trans h.os.2.1, b.output.trans h.os.2.2⟩, Nat.le_trans h.size b.size, h.n0⟩
theorem RF.below {w w2 wr : World} {n0 : Nat} {v : Value} {us : List Bat} (h : RF w2 wr n0 v us) (hn : w.heap.size ≤ n0) (b : Below w.heap.size w w2) : Below w.heap.size w wr :=
  ⟨h.os.1.trans b.os, h.os.2.1.trans b.tape, h.os.2.2.trans b.output, Nat.le_trans b.size h.size, fun x hx => (h.keep x (by have := b.size; omega) (by omega)).trans (b.block x hx)⟩
/-- One Batch more: w8: behind its copy; w9: behind append. -/
theorem RF.push {w2 wr w8 w9 : World} {n0 : Nat} {v : Value} {us : List Bat} {F : Nat → Value} {P : Nat → Nat → Prop} {t : Bat} {rv : Value} {o : Obj} {g cap : Nat} (h : RF w2 wr n0 v us) (hG : LGr 44 7 EB wr n0 v us F P) (b8 : Below wr.heap.size wr w8) (ho : OwnR w8 (seg wr.heap.size w8.heap.size) rv t.recs)
    (hown : w9.ownsRow n0 44 7 (.slice (some ⟨g, 0, none⟩) (us.length + 1) cap) (us.length + 1) ((List.range (us.length * 7)).map F ++ (BatW.batArr t rv).toList)) (gr : (w8.alloc o).grownBy w9 v.ownBlock) (hg : v.ownBlock = some g ∨ g = w8.heap.size + 1) :
    RF w2 w9 n0 (.slice (some ⟨g, 0, none⟩) (us.length + 1) cap) (us ++ [t]) := by
  have s8 := b8.size
  have hz := h.size
  have hn := h.n0
  have gs := gr.size
  rw [hsz] at gs
  refine ⟨LGr.push keepsB (w2 := w8.alloc o) (w3 := w9) (g := g) (cap := cap) (Q := seg wr.heap.size w8.heap.size) (t := t) (news := (BatW.batArr t rv).toList) hG (by omega) (by rw [hsz]; omega) (fun x _ hx => by rw [(below1 _ _).block _ (by omega), b8.block x hx]) (bat_el (LOwn.keep keepsR ho (by rw [hsz]; omega) (fun x hx => (below1 _ _).block _ hx.2))) (fun x hx => by rw [hsz]; obtain ⟨x1, x2⟩ := hx; exact ⟨x1, by omega⟩) rfl hown gr (by rw [hsz]; exact hg), fun x h1 h2 => ?_, fun x hx => ?_, ⟨gr.os.trans (b8.os.trans h.os.1), gr.tape.trans (b8.tape.trans h.os.2.1), gr.output.trans (b8.output.trans h.os.2.2)⟩, by omega, hn⟩
  · rw [gr.block x (by rw [hsz]; omega) (fun e => by have := h.out x e.symm; omega), (below1 _ _).block _ (by omega), b8.block x (by omega)]
    exact h.keep x h1 h2
  · simp only [Value.ownBlock, Option.some.injEq] at hx
    subst hx
    rcases hg with hg | hg
    · exact h.out g hg
    · right; omega
theorem last_lt {b : Bat} (h : BOk.batOk b = true) (x : Int) : (BOk.last b < x) ↔ pB x b = false := by
  have : BOk.last b = b.base + b.recs.length - 1 := if_pos h
  unfold pB bEnd
  rw [this]
  simp only [decide_eq_false_iff_not]
  omega
theorem flat_few' : ∀ (ss : List Sg), (∀ i, i < ss.length → FewS (ss.getD i default)) → ∀ q ∈ flatB ss, FewB q
  | [], _, q, hq => by simp [flatB] at hq
  | s :: t, h, q, hq => by
    simp only [flatB, List.mem_append] at hq
    rcases hq with hq | hq
    · obtain ⟨k, hk, rfl⟩ := List.getElem_of_mem hq
      have := (h 0 (by simp)).2 k (by simpa using hk)
      simpa [List.getD_eq_getElem?_getD, List.getElem?_eq_getElem hk] using this
    · exact flat_few' t (fun i hi => by have := h (i + 1) (by simpa using hi); simpa using this) q hq
theorem flat_few {l : Lg} (h : FewL l) (i : Nat) (hi : i < (flatB l.segs).length) : FewB ((flatB l.segs).getD i default) := flat_few' l.segs h.1.2 _ (by rw [List.getD_eq_getElem?_getD, List.getElem?_eq_getElem hi]; simp)
set_option maxHeartbeats 6400000 in
theorem readFromS_core (l : Lg) (x y : Int) (A : Option Addr) (c : Nat) (w : World) (lo b : Nat) (hb : b ≤ w.heap.size) (hf : FewL l) (hw : ∀ i, i < l.segs.length → -9223372036854775808 ≤ (l.segs.getD i default).base ∧ (l.segs.getD i default).base ≤ 9223372036854775807) (hs : SegsAt w lo b (.slice A l.segs.length c) l.segs) :
    Calls Try.prog 10 #[logVal l (.slice A l.segs.length c), .int .i64 x, .int .i64 y] w fun e w' => ∃ v, e = .returned (.tuple #[v, .int .i64 (reads l x y).2]) ∧ BatsAt w' w.heap.size w'.heap.size v (reads l x y).1 ∧ Below w.heap.size w w' := by
  obtain ⟨i0, hi, hz0, hz1, hz2⟩ := info_parts infoB
  have HV : Hid (LogAt w lo b (logVal l (.slice A l.segs.length c)) l) := ⟨_, rfl, hs⟩
  have HF := Seg.hid hf; have HWW := Seg.hid hw
  clear hs hf hw
  unfold logVal at HV ⊢
  go_enter Try.func10, Try.ntmps10
  go_wp2_with fail
  refine (LgS.spec_any _ l ((w.alloc _).alloc _) lo b (HV.out.below ((below2 w _ _).mono hb)) (by rw [hsz, hsz]; omega) HF.out HWW.out).mono ?_
  rintro e w1 ⟨rfl, b1⟩
  have B1 := Seg.hid (chain (below2 w _ _) b1)
  have T1 : Hid (w1.heap[w.heap.size]? = some (.cells (logArr l (.slice A l.segs.length c)) 29 (0, 0))) := (b1.block w.heap.size (by rw [hsz, hsz]; omega)).trans (((below1 _ _).block _ (by rw [hsz]; omega)).trans (heap_alloc_new _ _))
  have E1 : Hid (w1.heap[w.heap.size + 1]? = some (.cells #[] 44 (0, 0))) := (b1.block (w.heap.size + 1) (by rw [hsz, hsz]; omega)).trans (by have := heap_alloc_new (w.alloc (.cells (logArr l (.slice A l.segs.length c)) 29 (0, 0))) (.cells #[] 44 (0, 0)); rw [hsz] at this; exact this)
  have s1 := b1.size
  rw [hsz, hsz] at s1
  clear b1
  have NIL : Hid (∀ wx : World, BatsAt wx w.heap.size wx.heap.size (.slice (some ⟨w.heap.size + 1, 0, none⟩) 0 0) []) := fun wx => ⟨fun _ => default, ⟨by simp, _, _, rfl, .inl rfl⟩, fun i hi => absurd hi (by simp)⟩
  cases hok : logOk l with
  | false =>
    have HC : Hid (reads l x y = ([], 1)) := by show _ = _; simp [reads, hok]
    clear hok
    go_wp2_with fail
    (try simp only [Exit.inBlock, Exit.then]); refine bodyPost_ret (results_tmp2 rfl _ _ _) rfl ?_
    exact ⟨.slice (some ⟨w.heap.size + 1, 0, none⟩) 0 0, by rw [HC.out]; rfl, by rw [HC.out]; exact NIL.out _, B1.out⟩
  | true =>
  obtain ⟨c0, c1, c2, c3⟩ := four T1.out
  by_cases hy : y < 0
  · have HC : Hid (reads l x y = ([], 1)) := by show _ = _; simp [reads, hok]; omega
    clear hok
    go_wp2_with fail
    (try simp only [Exit.inBlock, Exit.then]); refine bodyPost_ret (results_tmp2 rfl _ _ _) rfl ?_
    exact ⟨.slice (some ⟨w.heap.size + 1, 0, none⟩) 0 0, by rw [HC.out]; rfl, by rw [HC.out]; exact NIL.out _, B1.out⟩
  have hy0 : decide (y < 0) = false := decide_eq_false hy
  have hw1 : w.heap.size < w1.heap.size := by omega
  have RD : Hid (∀ t, inR x l.start l.next = t → reads l x y = if t = true then (rd y 0 (fromB x (flatB l.segs)), 0) else ([], 4)) := fun t ht => by unfold reads; rw [if_pos (by rw [hok, decide_eq_true (show (0 : Int) ≤ y by omega)]; rfl), ht]
  cases hin : (decide (l.start ≤ x) && decide (x ≤ l.next)) with
  | false =>
    have HC : Hid (reads l x y = ([], 4)) := RD.out false hin
    clear hok
    go_wp2_with fail
    refine (InB.l1In_b x l.start l.next false hin w1).mono ?_
    rintro e w1' ⟨rfl, rfl⟩
    clear hin
    go_wp2_with fail
    (try simp only [Exit.inBlock, Exit.then]); refine bodyPost_ret (results_tmp2 rfl _ _ _) rfl ?_
    exact ⟨.slice (some ⟨w.heap.size + 1, 0, none⟩) 0 0, by rw [HC.out]; rfl, by rw [HC.out]; exact NIL.out _, B1.out⟩
  | true =>
  have HC : Hid (reads l x y = (rd y 0 (fromB x (flatB l.segs)), 0)) := RD.out true hin
  obtain ⟨f, k1, k2, k3, k4, k5, k6, k7⟩ := ok_all hok
  have OKB := Seg.hid (okB_flat k1)
  have FL : (flatB l.segs).length ≤ 400 := by rw [flat_count]; exact k7
  clear hok k1
  go_wp2_with fail
  refine (InB.l1In_b x l.start l.next true hin w1).mono ?_
  rintro e w1' ⟨rfl, rfl⟩
  clear hin
  go_wp2_with fail
  refine (Ft.l3All_own _ l w1 lo b (HV.out.below (B1.out.mono hb)) (by omega) (by omega) (by omega)).mono ?_
  rintro e w2 ⟨v2, rfl, hbs, b2⟩
  have B2 := Seg.hid (chain B1.out b2)
  have s2 := b2.size
  have FB := Seg.hid (fun i (hi : i < (flatB l.segs).length) => flat_few HF.out i hi)
  generalize flatB l.segs = bs at *
  obtain ⟨H, ⟨_, A2, c2', rfl, hrow⟩, hh⟩ := hbs
  have HROW := Seg.hid hrow; have HH := Seg.hid hh
  have C0 : Hid (RF w2 w2 (w.heap.size + 1) (.slice (some ⟨w.heap.size + 1, 0, none⟩) 0 0) []) := by
    have hE := (b2.block (w.heap.size + 1) (by omega)).trans E1.out
    refine ⟨LGrow.empty ⟨rfl, .inr ⟨w.heap.size + 1, 0, #[], rfl, Nat.le_refl _, hE, Nat.le_refl _, Nat.zero_le _, rfl, by simp⟩⟩, fun _ _ _ => rfl, fun q hq => .inl ?_, ⟨rfl, rfl, rfl⟩, Nat.le_refl _, by omega⟩
    simp only [Value.ownBlock, Option.some.injEq] at hq
    exact hq.symm
  clear hrow hh b2 c0 c1 c2 c3 T1 B1 E1
  go_wp2_with fail
  go_loopw [8, 10, 11] (fun v sv iv wr => ∃ (j a : Nat) (us : List Bat) (A1 : Option Addr) (c1 : Nat), j ≤ bs.length ∧ iv = .int .i64 j ∧ v = .slice A1 us.length c1 ∧ sv = .int .i64 a ∧ a ≤ j * 100000 ∧ us.length ≤ j ∧ Hid (rd y 0 (fromB x bs) = us ++ rd (y - (a : Int)) us.length (fromB x (bs.drop j)) ∧ RF w2 wr (w.heap.size + 1) (.slice A1 us.length c1) us)) (fun _ _ iv _ => bs.length - (intOf iv).toNat)
  case atStart => exact ⟨0, 0, [], some ⟨w.heap.size + 1, 0, none⟩, 0, Nat.zero_le _, rfl, rfl, rfl, by omega, by simp, by simp, C0.out⟩
  case round =>
    clear C0
    obtain ⟨j, a, us, A1, c1, hj, rfl, rfl, rfl, ha, hu, HW⟩ := hrel
    have RFr := Seg.hid HW.out.2
    have hzr := RFr.out.size
    by_cases hlt : j < bs.length
    · have h0 : (0 : Int) ≤ (j : Int) := by omega
      have h1 : (j : Int) < (bs.length : Int) := by omega
      obtain ⟨g, o, rfl, hg, hc, hcell, hlo⟩ := HROW.out.resolve_left (by omega)
      have SEV : Hid (∀ (wx : World) (vv : Value) (uu : List Bat), RF w2 wx (w.heap.size + 1) vv uu → wx.cell? ⟨g, o + j * 7, none⟩ = some (.int .i64 (bs.getD j default).base) ∧ wx.cell? ⟨g, o + j * 7 + 1, none⟩ = some (.int .i64 (bs.getD j default).epoch) ∧ wx.cell? ⟨g, o + j * 7 + 2, none⟩ = some (.int .i64 (bs.getD j default).producer) ∧ wx.cell? ⟨g, o + j * 7 + 3, none⟩ = some (.int .i64 (bs.getD j default).turn) ∧ wx.cell? ⟨g, o + j * 7 + 4, none⟩ = some (.int .i64 (bs.getD j default).seq) ∧ wx.cell? ⟨g, o + j * 7 + 5, none⟩ = some (.int .i64 (bs.getD j default).flags) ∧ wx.cell? ⟨g, o + j * 7 + 6, none⟩ = some (H j)) := fun wx vv uu r => Bats.six (fun i hi q hq => by rw [World.cell?_of_block (w := w2) (a := ⟨g, o + i * 7 + q, none⟩) (r.keep g hg (by omega))]; exact hcell i hi q hq) j hlt
      have BAT0 : Hid (∀ (wx : World) (vv : Value) (uu : List Bat), RF w2 wx (w.heap.size + 1) vv uu → RecsAt wx lo b (H j) (bs.getD j default).recs) := fun wx vv uu r => (HH.out j hlt).keep fun q _ hq => r.keep q (by omega) (by omega)
      have OKJ := Seg.hid (OKB.out (bs.getD j default) (by rw [List.getD_eq_getElem?_getD, List.getElem?_eq_getElem hlt]; simp))
      have FW := Seg.hid (FB.out j hlt)
      have DR : Hid (bs.drop j = bs.getD j default :: bs.drop (j + 1)) := LgP.drop_at hlt
      have EQ := Seg.hid HW.out.1
      obtain ⟨_, ⟨_, Ah, ch, hHj, _⟩, _⟩ := HH.out j hlt
      have zs := size_le OKJ.out
      have LST := Seg.hid (last_lt OKJ.out x)
      clear hcell HW
      generalize bs.getD j default = tj at *
      rw [hHj] at SEV BAT0
      clear hHj
      have BAT : Hid (∀ (wx : World), RF w2 wx (w.heap.size + 1) (.slice A1 us.length c1) us → BatAt wx lo b (.agg (BatW.batArr tj (.slice Ah tj.recs.length ch))) tj) := fun wx r => ⟨_, rfl, BAT0.out wx _ _ r⟩
      obtain ⟨e0, e1, e2, e3, e4, e5, e6⟩ := SEV.out wr _ _ RFr.out
      have hgr : g < wr.heap.size := by omega
      go_wp2_with fail
      refine (BOk.specLast_any _ tj wr lo b (BAT.out wr RFr.out) (by omega)).mono ?_
      rintro e w8 ⟨rfl, b8⟩
      have RF8 := Seg.hid (RFr.out.later b8)
      have s8 := b8.size
      clear b8 e0 e1 e2 e3 e4 e5 e6
      obtain ⟨la, hla⟩ : ∃ la, BOk.last tj = la := ⟨_, rfl⟩
      rw [hla] at LST ⊢
      clear hla
      by_cases hp : la < x
      · have EQ2 : Hid (rd y 0 (fromB x bs) = us ++ rd (y - (a : Int)) us.length (fromB x (bs.drop (j + 1)))) := by show _ = _; rw [EQ.out, DR.out, from_cons_no (LST.out.1 hp)]
        go_wp2_with fail
        go_roundw
        case rel => exact ⟨j + 1, a, us, A1, c1, by omega, by go_num, rfl, rfl, Nat.le_trans ha (Nat.mul_le_mul_right _ (Nat.le_succ j)), by omega, EQ2.out, RF8.out⟩
        case measure => simp [intOf]; omega
      · have PY : Hid (pB x tj = true) := by
          show _ = _
          cases hq : pB x tj with
          | true => rfl
          | false => exact absurd (LST.out.2 hq) hp
        have EQ3 : Hid (rd y 0 (fromB x bs) = us ++ rd (y - (a : Int)) us.length (tj :: fromB x (bs.drop (j + 1)))) := by show _ = _; rw [EQ.out, DR.out, from_cons_yes PY.out]
        obtain ⟨e0, e1, e2, e3, e4, e5, e6⟩ := SEV.out w8 _ _ RF8.out
        have hg8 : g < w8.heap.size := by omega
        go_wp2_with fail
        refine (Zs.size_any _ tj w8 lo b (BAT.out w8 RF8.out) (by omega)).mono ?_
        rintro e w9 ⟨rfl, b9⟩
        have RF9 := Seg.hid (RF8.out.later b9)
        have s9 := b9.size
        clear b9 e0 e1 e2 e3 e4 e5 e6
        have RDG := Seg.hid (fun h => rd_go (left := y - (a : Int)) (n := us.length) (b := tj) (t := fromB x (bs.drop (j + 1))) h)
        have RDS := Seg.hid (fun h => rd_stop (left := y - (a : Int)) (n := us.length) (b := tj) (t := fromB x (bs.drop (j + 1))) h)
        obtain ⟨z, hz⟩ : ∃ z, size tj = z := ⟨_, rfl⟩
        rw [hz] at zs RDG RDS ⊢
        clear hz
        obtain ⟨e0, e1, e2, e3, e4, e5, e6⟩ := SEV.out w9 _ _ RF9.out
        have hg9 : g < w9.heap.size := by omega
        have z1 : (a : Int) + (z : Int) ≤ 100000000 := by omega
        have EQG0 : Hid (¬ (y - (a : Int) - (z : Int) < 0 ∧ 0 < us.length) → rd y 0 (fromB x bs) = (us ++ [tj]) ++ rd (y - ((a + z : Nat) : Int)) (us ++ [tj]).length (fromB x (bs.drop (j + 1)))) := fun h => by
          rw [EQ3.out, RDG.out h, List.append_assoc, List.length_append, List.length_singleton, show y - ((a + z : Nat) : Int) = y - (a : Int) - (z : Int) by omega]
          rfl
        by_cases hu0 : us.length = 0
        · have EQG := Seg.hid (EQG0.out (by omega))
          have g1 : ¬ (0 : Int) < (us.length : Int) := by omega
          have g2 : decide ((0 : Int) < (us.length : Int)) = false := decide_eq_false g1
          have HU0 := Seg.hid hu0
          clear hu0
          clear EQG0 EQ3 RDG RDS
          go_wp2_with fail
          refine (l3Batch_any _ tj w9 lo b (BAT.out w9 RF9.out) (by omega) FW.out).mono ?_
          rintro e w10 ⟨rv8, rfl, ow8, b10⟩
          have B10 := Seg.hid b10
          have s10 := b10.size
          obtain ⟨A8, c8, hA8⟩ := LOwn.form ow8
          subst hA8
          have O8 := Seg.hid ow8
          clear ow8 b10 e0 e1 e2 e3 e4 e5 e6
          obtain ⟨F, P, hG⟩ := RF9.out.grow
          have HG := Seg.hid hG
          clear hG
          unfold batVal
          go_wp2_with (at_builtin; (refine wpList_append_lies _ rfl _ _ 33 rfl (w.heap.size + 1) 44 i0 _ 7 72 Try.underlying33 hi hz0 hz1 hz2 rfl (by decide) (.slice A1 us.length c1) us.length ((List.range (us.length * 7)).map F) rfl (World.ownsRow.alloc (own_keep HG.out.own (fun q _ hq => B10.out.block q hq)) _) ⟨w10.heap.size, 0, none⟩ 1 1 (BatW.batArr tj (.slice A8 tj.recs.length c8)).toList rfl rfl (World.news_of_block (cs := BatW.batArr tj (.slice A8 tj.recs.length c8)) (heap_alloc_new w10 _)) (by simp [BatW.batArr, Value.oneCell']) (by decide) (by unfold maxLen; omega) (by omega) (by rw [hsz]; omega) (w10.heap.size + 1) (hsz w10 _) ?_; intro g9 cap9 w11 hown9 gr9 hat9 hlt9; have D9 := Seg.hid (RF.push RF9.out HG.out B10.out O8.out hown9 gr9 hat9); clear hown9 gr9 hat9 hlt9))
          go_roundw
          case rel => exact ⟨j + 1, a + z, us ++ [tj], some ⟨g9, 0, none⟩, cap9, by omega, by go_num, by rw [List.length_append]; rfl, by rw [Int.natCast_add], by omega, by rw [List.length_append, List.length_singleton]; omega, EQG.out, by rw [List.length_append]; exact D9.out⟩
          case measure => simp [intOf]; omega
        · have g1 : (0 : Int) < (us.length : Int) := by omega
          have g2 : decide ((0 : Int) < (us.length : Int)) = true := decide_eq_true g1
          by_cases hbk : y < (a : Int) + (z : Int)
          · have g3 : decide (y < (a : Int) + (z : Int)) = true := decide_eq_true hbk
            have HC2 : Hid (reads l x y = (us, 0)) := by show _ = _; rw [HC.out, EQ3.out, RDS.out ⟨by omega, by omega⟩, List.append_nil]
            have BE : Hid (BatsAt w9 w.heap.size w9.heap.size (.slice A1 us.length c1) us) := (bats_of (LGrow.own RF9.out.grow (by omega)) (fun q hq => hq)).mono (by omega) (Nat.le_refl _)
            have BL := Seg.hid (RF9.out.below (by omega) B2.out)
            go_wp2_with fail
            (try simp only [Exit.inBlock, Exit.then]); refine bodyPost_ret (results_tmp2 rfl _ _ _) rfl ?_
            exact ⟨.slice A1 us.length c1, by rw [HC2.out]; rfl, by rw [HC2.out]; exact BE.out, BL.out⟩
          · have g3 : decide (y < (a : Int) + (z : Int)) = false := decide_eq_false hbk
            have EQG := Seg.hid (EQG0.out (by omega))
            clear EQG0 EQ3 RDG RDS
            go_wp2_with fail
            refine (l3Batch_any _ tj w9 lo b (BAT.out w9 RF9.out) (by omega) FW.out).mono ?_
            rintro e w10 ⟨rv8, rfl, ow8, b10⟩
            have B10 := Seg.hid b10
            have s10 := b10.size
            obtain ⟨A8, c8, hA8⟩ := LOwn.form ow8
            subst hA8
            have O8 := Seg.hid ow8
            clear ow8 b10 e0 e1 e2 e3 e4 e5 e6
            obtain ⟨F, P, hG⟩ := RF9.out.grow
            have HG := Seg.hid hG
            clear hG
            unfold batVal
            go_wp2_with (at_builtin; (refine wpList_append_lies _ rfl _ _ 33 rfl (w.heap.size + 1) 44 i0 _ 7 72 Try.underlying33 hi hz0 hz1 hz2 rfl (by decide) (.slice A1 us.length c1) us.length ((List.range (us.length * 7)).map F) rfl (World.ownsRow.alloc (own_keep HG.out.own (fun q _ hq => B10.out.block q hq)) _) ⟨w10.heap.size, 0, none⟩ 1 1 (BatW.batArr tj (.slice A8 tj.recs.length c8)).toList rfl rfl (World.news_of_block (cs := BatW.batArr tj (.slice A8 tj.recs.length c8)) (heap_alloc_new w10 _)) (by simp [BatW.batArr, Value.oneCell']) (by decide) (by unfold maxLen; omega) (by omega) (by rw [hsz]; omega) (w10.heap.size + 1) (hsz w10 _) ?_; intro g9 cap9 w11 hown9 gr9 hat9 hlt9; have D9 := Seg.hid (RF.push RF9.out HG.out B10.out O8.out hown9 gr9 hat9); clear hown9 gr9 hat9 hlt9))
            go_roundw
            case rel => exact ⟨j + 1, a + z, us ++ [tj], some ⟨g9, 0, none⟩, cap9, by omega, by go_num, by rw [List.length_append]; rfl, by rw [Int.natCast_add], by omega, by rw [List.length_append, List.length_singleton]; omega, EQG.out, by rw [List.length_append]; exact D9.out⟩
            case measure => simp [intOf]; omega
    · have HC2 : Hid (reads l x y = (us, 0)) := by show _ = _; rw [HC.out, HW.out.1, List.drop_eq_nil_of_le (by omega)]; simp [fromB, rd]
      have BE : Hid (BatsAt wr w.heap.size wr.heap.size (.slice A1 us.length c1) us) := (bats_of (LGrow.own RFr.out.grow (by omega)) (fun q hq => hq)).mono (by omega) (Nat.le_refl _)
      have BL := Seg.hid (RFr.out.below (by omega) B2.out)
      have : j = bs.length := by omega
      clear HW
      subst this
      go_wp2_with fail
      (try simp only [Exit.inBlock, Exit.then]); refine bodyPost_ret (results_tmp2 rfl _ _ _) rfl ?_
      exact ⟨.slice A1 us.length c1, by rw [HC2.out]; rfl, by rw [HC2.out]; exact BE.out, BL.out⟩
theorem readFromS_any (v : Value) (l : Lg) (x y : Int) (w : World) (lo b : Nat) (hv : LogAt w lo b v l) (hb : b ≤ w.heap.size) (hf : FewL l) (hw : ∀ i, i < l.segs.length → -9223372036854775808 ≤ (l.segs.getD i default).base ∧ (l.segs.getD i default).base ≤ 9223372036854775807) :
    Calls Try.prog 10 #[v, .int .i64 x, .int .i64 y] w fun e w' => ∃ v, e = .returned (.tuple #[v, .int .i64 (reads l x y).2]) ∧ BatsAt w' w.heap.size w'.heap.size v (reads l x y).1 ∧ Below w.heap.size w w' := by
  obtain ⟨sv, rfl, hs⟩ := hv
  obtain ⟨_, ⟨_, A, c, rfl, _⟩, _⟩ := id hs
  exact readFromS_core l x y A c w lo b hb hf hw hs
end Go.Proofs.Ytojalklkpnaofaa.Ft
