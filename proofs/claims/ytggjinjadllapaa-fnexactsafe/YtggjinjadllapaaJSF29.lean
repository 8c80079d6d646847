/- PartOk of the program. -/
import Derived.Deep.RegionHeld3
import Derived.Test.YtggjinjadllapaaJSF27
namespace Go.Proofs.Ytggjinjadllapaa.PoI
set_option maxRecDepth 8000
open Go.RowKit
open Ls Asc PoP
open Recs (hsz below1 below2 chain chainD Bat)
open SegW (Sg)
open LogW (Lg LogAt)
open LgP (logOk)
open BfP (flatB)
open EoP (lastE)
set_option linter.unusedVariables false
namespace Hd
variable {P : Program} {ops : Array Oper} {Q : Exit → Act → World → Prop} {md : Region.Mode} {S : World → Prop}
/-- An operation that its guard passes over may be taken first. -/
theorem skip (i : Nat) (d : Option Tmp) {oi : Oper} {fuel : Nat} {listed : Array Bool} {a : Act} {w : World} (hi : ops[i]? = some oi) (hd : oi.dst = d)
    (hs : Region.noSelect ops = true) (hf : Region.free md ops listed i = true) (hr : (Region.ready md ops listed).contains i = true)
    (hQ : ∀ c a w, Q (.panic c) (a.put d undef) w → Q (.panic c) a w) (hw : Region.wanted oi (yielded ops a.tmps) = false) (hS : S w)
    (h : wpAnyH P md ops Q S fuel (listed.setIfInBounds i true) (a.put d undef) w) : wpAnyH P md ops Q S (fuel + 1) listed a w := by
  subst hd; exact wpAnyH_take hi hs hf hr hQ (Or.inr ⟨hw, rfl⟩) hS h
theorem take (i : Nat) (d : Option Tmp) (v : Value) {oi : Oper} {fuel : Nat} {listed : Array Bool} {a : Act} {w : World} (hi : ops[i]? = some oi) (hd : oi.dst = d)
    (hs : Region.noSelect ops = true) (hf : Region.free md ops listed i = true) (hr : (Region.ready md ops listed).contains i = true)
    (hQ : ∀ c a w, Q (.panic c) (a.put d v) w → Q (.panic c) a w) (hw : Region.wanted oi (yielded ops a.tmps) = true) (hy : ∀ w, S w → (execOp a.eval oi).run P w = .ok (.value v) w) (hS : S w)
    (h : wpAnyH P md ops Q S fuel (listed.setIfInBounds i true) (a.put d v) w) : wpAnyH P md ops Q S (fuel + 1) listed a w := by
  subst hd; exact wpAnyH_take hi hs hf hr hQ (Or.inl ⟨hw, hy⟩) hS h
end Hd
/-- The Part's row while its replicas are checked. -/
structure Sr (w wr : World) (p : Prt) (A0 A3 A4 : Option Addr) (c0 c3 c4 : Nat) : Prop where
  rp : wr.heap[w.heap.size]? = some (.cells #[.slice A0 p.reps.length c0, .int .i64 p.leader, .int .i64 p.epoch, .slice A3 p.insync.length c3, .slice A4 p.known.length c4, .int .i64 p.least] 31 (0, 0))
  bel : Below w.heap.size w wr
set_option maxHeartbeats 6400000 in
theorem reps_any (v : Value) (p : Prt) (t : Bool) (w : World) (lo b : Nat) (hv : PrtAt w (seg lo b) v p) (hb : b ≤ w.heap.size) (hf : szPrt p ≤ 1048576) (hn5 : p.reps.length ≤ 5) (ht : reps p.epoch p.reps = t) :
    Calls Try.prog 40 #[v] w fun e w' => e = .returned (.bool t) ∧ Below w.heap.size w w' := by
  have hS : ∀ g, seg lo b g → g < w.heap.size := fun g hg => Nat.lt_of_lt_of_le hg.2 hb
  obtain ⟨A0, c0, A3, c3, A4, c4, rfl⟩ := form hv
  obtain ⟨A0', c0', ga, oa, Fa, g0, OA, n0⟩ := opn (parts hv).1 hS
  simp only [Value.slice.injEq, true_and] at g0
  obtain ⟨rfl, rfl⟩ := g0
  have HA := Seg.hid OA
  have HT := Seg.hid ht
  have L0 : Hid (∀ i, i < p.reps.length → szLg (lg (p.reps.getD i default)) ≤ 1048576) := fun i hi => by
    have := szL_one (l := 1048576) szRpl (show szL szRpl p.reps ≤ 1048576 by unfold szPrt at hf; omega) hi
    exact this
  clear hv OA hf ht
  go_enter Try.func40, Try.ntmps40
  go_wp2_with fail
  have S0 : Hid (Sr w (w.alloc (.cells #[.slice A0 p.reps.length c0, .int .i64 p.leader, .int .i64 p.epoch, .slice A3 p.insync.length c3, .slice A4 p.known.length c4, .int .i64 p.least] 31 (0, 0))) p A0 A3 A4 c0 c3 c4) := ⟨heap_alloc_new _ _, below1 _ _⟩
  go_loopw [8] (fun i wr => ∃ (k : Nat), k ≤ p.reps.length ∧ i = .int .i64 k ∧ Hid (reps p.epoch (p.reps.drop k) = t ∧ Sr w wr p A0 A3 A4 c0 c3 c4)) (fun i _ => p.reps.length - (intOf i).toNat)
  case atStart => exact ⟨0, Nat.zero_le _, rfl, HT.out, S0.out⟩
  case round =>
    clear S0
    obtain ⟨k, hk, rfl, HR⟩ := hrel
    by_cases hlt : k < p.reps.length
    · obtain ⟨ea, hc, hga⟩ := HA.out.addr.resolve_left (by omega)
      have CL := cells_later HA.out.cells HR.out.2.bel hga
      have EL : ERpl wr (seg lo b) (Fa k) (p.reps.getD k default) := keepsRpl _ _ _ _ _ _ (HA.out.el k hlt) (fun g hg => HR.out.2.bel.block g (hS g hg)) (fun _ _ => rfl)
      obtain ⟨AS, cS, ⟨d0, d1, d2, d3, d4, d5⟩, LA⟩ := rpl_cells (i := k) (fun j hj => CL k hlt j hj) EL
      have LA' := Seg.hid LA
      have VF := Seg.hid (OldL.few_log (L0.out k hlt))
      have HD := HR.out.1
      rw [drop_cons hlt] at HD
      have HD' := Seg.hid HD
      have h0 : (0 : Int) ≤ (k : Int) := by omega
      have h1 : (k : Int) < (p.reps.length : Int) := by omega
      have hlw : w.heap.size < wr.heap.size := (Array.getElem?_eq_some_iff.1 HR.out.2.rp).1
      have hbr : b ≤ wr.heap.size := Nat.le_trans hb HR.out.2.bel.size
      clear CL EL LA HD
      generalize p.reps.getD k default = r at *
      subst ea
      go_upto_region 4 with fail
      have R0 : Hid (Rr w (wr.alloc (.cells #[.int .i64 r.start, .int .i64 r.next, .int .i64 r.roll, .slice AS r.segs.length cS, .int .i64 r.mark, .bool r.up] 45 (0, 0))) w.heap.size wr.heap.size r p (some ⟨ga, oa, none⟩) A3 A4 AS c0 c3 c4 cS) := ⟨heap_alloc_new _ _, ((below1 wr _).block w.heap.size hlw).trans HR.out.2.rp, chain HR.out.2.bel (below1 wr _)⟩
      have LA2 : Hid (LogAt (wr.alloc (.cells #[.int .i64 r.start, .int .i64 r.next, .int .i64 r.roll, .slice AS r.segs.length cS, .int .i64 r.mark, .bool r.up] 45 (0, 0))) lo b (.agg #[.int .i64 r.start, .int .i64 r.next, .int .i64 r.roll, .slice AS r.segs.length cS]) (lg r)) := LA'.out.below ((below1 wr _).mono hbr)
      have hbi : b ≤ (wr.alloc (.cells #[.int .i64 r.start, .int .i64 r.next, .int .i64 r.roll, .slice AS r.segs.length cS, .int .i64 r.mark, .bool r.up] 45 (0, 0))).heap.size := by rw [hsz]; omega
      generalize wr.alloc (.cells #[.int .i64 r.start, .int .i64 r.next, .int .i64 r.roll, .slice AS r.segs.length cS, .int .i64 r.mark, .bool r.up] 45 (0, 0)) = wi at *
      clear d0 d1 d2 d3 d4 d5 LA' HR
      have LC : Hid (∀ wx, Below wi.heap.size wi wx → Calls Try.prog 44 #[.agg #[.int .i64 r.start, .int .i64 r.next, .int .i64 r.roll, .slice AS r.segs.length cS]] wx fun e w' => e = .returned (.bool (logOk (lg r))) ∧ Below wx.heap.size wx w') := fun wx bx => LgI.impl_any _ (lg r) wx lo b (LA2.out.below (bx.mono hbi)) (Nat.le_trans hbi bx.size) VF.out
      obtain ⟨s0, s1, s2, s3, s4, s5⟩ := R0.out.cells
      obtain ⟨u0, u2, u4⟩ := R0.out.cellp
      have ST : Hid (∀ wx, Below wi.heap.size wi wx → wx.cell? ⟨wr.heap.size, 0, none⟩ = some (.int .i64 r.start) ∧ wx.cell? ⟨wr.heap.size, 1, none⟩ = some (.int .i64 r.next) ∧ wx.cell? ⟨wr.heap.size, 2, none⟩ = some (.int .i64 r.roll) ∧ wx.cell? ⟨wr.heap.size, 3, none⟩ = some (.slice AS r.segs.length cS) ∧ wx.cell? ⟨wr.heap.size, 4, none⟩ = some (.int .i64 r.mark) ∧ wx.cell? ⟨w.heap.size, 2, none⟩ = some (.int .i64 p.epoch)) := fun wx bx => by
        obtain ⟨s0, s1, s2, s3, s4, s5⟩ := (R0.out.next bx).cells
        obtain ⟨u0, u2, u4⟩ := (R0.out.next bx).cellp
        exact ⟨s0, s1, s2, s3, s4, u2⟩
      cases hl : logOk (lg r) with
      | false =>
        rw [hl] at LC
        have Z : Hid (false = t) := by show _ = _; rw [← HD'.out]; simp [reps, repOk, hl]
        clear hl
        refine wp_region_held_drew (S := (fun w' => w'.cell? ⟨wr.heap.size, 0, none⟩ = some (.int .i64 r.start) ∧ w'.cell? ⟨wr.heap.size, 1, none⟩ = some (.int .i64 r.next) ∧ w'.cell? ⟨wr.heap.size, 2, none⟩ = some (.int .i64 r.roll) ∧ w'.cell? ⟨wr.heap.size, 3, none⟩ = some (.slice AS r.segs.length cS) ∧ w'.cell? ⟨wr.heap.size, 4, none⟩ = some (.int .i64 r.mark) ∧ w'.cell? ⟨w.heap.size, 2, none⟩ = some (.int .i64 p.epoch))) (by kernel_rfl) (ST.out _ (Below.refl _ _).drew) (fun hHeld => ?_)
        refine Hd.take 0 (some 12) (.pointer (some ⟨wr.heap.size, 0, none⟩)) rfl rfl (by kernel_rfl) (by kernel_rfl) (by kernel_rfl) (fun _ _ _ h => h) (by rfl) (by intro w hSw; (try dsimp only at hSw); go_simp) (by assumption) ?_
        try simp only [Act.put, List.setIfInBounds_toArray, List.set_cons_zero, List.set_cons_succ]
        refine Hd.take 1 (some 13) (.agg #[.int .i64 r.start, .int .i64 r.next, .int .i64 r.roll, .slice AS r.segs.length cS]) rfl rfl (by kernel_rfl) (by kernel_rfl) (by kernel_rfl) (fun _ _ _ h => h) (by rfl) (by intro w hSw; (try dsimp only at hSw); go_simp) (by assumption) ?_
        try simp only [Act.put, List.setIfInBounds_toArray, List.set_cons_zero, List.set_cons_succ]
        refine wpAnyH_ready (rs := [2]) (by kernel_rfl) (by simp) ?_
        refine AllReadyH.cons (o := { dst := some 14, op := Op.call { callee := Callee.value (Operand.func 44), args := #[Operand.tmp 13], argTypes := #[43] }, type := 4, pos := "l05_replica.go:70", after := #[{ on := 1, ground := Ground.data }], guard := none }) rfl (fun K hK => ?_) AllReadyH.nil
        (go_simp; go_at_call 44; refine (LC.out wi.drew (Below.refl _ _).drew).mono ?_; rintro e w8 ⟨rfl, b8⟩; have B8 : Hid (Below wi.heap.size wi w8) := ⟨b8.os, b8.tape, b8.output, b8.size, b8.block⟩; clear b8; try (go_wp2_with fail))
        refine hK.out _ _ (ST.out _ B8.out) (fun hHeld => ?_)
        clear hK K
        try simp only [Act.put, List.setIfInBounds_toArray, List.set_cons_zero, List.set_cons_succ]
        refine Hd.take 3 (some 15) (.bool true) rfl rfl (by kernel_rfl) (by kernel_rfl) (by kernel_rfl) (fun _ _ _ h => h) (by rfl) (by intro w hSw; (try dsimp only at hSw); go_simp) (by assumption) ?_
        try simp only [Act.put, List.setIfInBounds_toArray, List.set_cons_zero, List.set_cons_succ]
        refine Hd.take 4 (some 16) (.bool true) rfl rfl (by kernel_rfl) (by kernel_rfl) (by kernel_rfl) (fun _ _ _ h => h) (by rfl) (by intro w hSw; (try dsimp only at hSw); go_simp) (by assumption) ?_
        try simp only [Act.put, List.setIfInBounds_toArray, List.set_cons_zero, List.set_cons_succ]
        refine Hd.skip 5 (some 17) rfl rfl (by kernel_rfl) (by kernel_rfl) (by kernel_rfl) (fun _ _ _ h => h) (by rfl) (by assumption) ?_
        try simp only [Act.put, List.setIfInBounds_toArray, List.set_cons_zero, List.set_cons_succ]
        refine Hd.skip 6 (some 18) rfl rfl (by kernel_rfl) (by kernel_rfl) (by kernel_rfl) (fun _ _ _ h => h) (by rfl) (by assumption) ?_
        try simp only [Act.put, List.setIfInBounds_toArray, List.set_cons_zero, List.set_cons_succ]
        refine Hd.skip 7 (some 19) rfl rfl (by kernel_rfl) (by kernel_rfl) (by kernel_rfl) (fun _ _ _ h => h) (by rfl) (by assumption) ?_
        try simp only [Act.put, List.setIfInBounds_toArray, List.set_cons_zero, List.set_cons_succ]
        refine Hd.skip 8 (some 20) rfl rfl (by kernel_rfl) (by kernel_rfl) (by kernel_rfl) (fun _ _ _ h => h) (by rfl) (by assumption) ?_
        try simp only [Act.put, List.setIfInBounds_toArray, List.set_cons_zero, List.set_cons_succ]
        refine Hd.skip 9 (some 21) rfl rfl (by kernel_rfl) (by kernel_rfl) (by kernel_rfl) (fun _ _ _ h => h) (by rfl) (by assumption) ?_
        try simp only [Act.put, List.setIfInBounds_toArray, List.set_cons_zero, List.set_cons_succ]
        refine Hd.skip 10 (some 22) rfl rfl (by kernel_rfl) (by kernel_rfl) (by kernel_rfl) (fun _ _ _ h => h) (by rfl) (by assumption) ?_
        try simp only [Act.put, List.setIfInBounds_toArray, List.set_cons_zero, List.set_cons_succ]
        refine Hd.skip 11 (some 23) rfl rfl (by kernel_rfl) (by kernel_rfl) (by kernel_rfl) (fun _ _ _ h => h) (by rfl) (by assumption) ?_
        try simp only [Act.put, List.setIfInBounds_toArray, List.set_cons_zero, List.set_cons_succ]
        refine Hd.skip 12 (some 24) rfl rfl (by kernel_rfl) (by kernel_rfl) (by kernel_rfl) (fun _ _ _ h => h) (by rfl) (by assumption) ?_
        try simp only [Act.put, List.setIfInBounds_toArray, List.set_cons_zero, List.set_cons_succ]
        refine Hd.skip 13 (some 25) rfl rfl (by kernel_rfl) (by kernel_rfl) (by kernel_rfl) (fun _ _ _ h => h) (by rfl) (by assumption) ?_
        try simp only [Act.put, List.setIfInBounds_toArray, List.set_cons_zero, List.set_cons_succ]
        refine Hd.skip 14 (some 26) rfl rfl (by kernel_rfl) (by kernel_rfl) (by kernel_rfl) (fun _ _ _ h => h) (by rfl) (by assumption) ?_
        try simp only [Act.put, List.setIfInBounds_toArray, List.set_cons_zero, List.set_cons_succ]
        refine Hd.take 15 (some 27) (.bool true) rfl rfl (by kernel_rfl) (by kernel_rfl) (by kernel_rfl) (fun _ _ _ h => h) (by rfl) (by intro w hSw; (try dsimp only at hSw); go_simp) (by assumption) ?_
        try simp only [Act.put, List.setIfInBounds_toArray, List.set_cons_zero, List.set_cons_succ]
        refine Hd.take 16 (some 28) (.bool true) rfl rfl (by kernel_rfl) (by kernel_rfl) (by kernel_rfl) (fun _ _ _ h => h) (by rfl) (by intro w hSw; (try dsimp only at hSw); go_simp) (by assumption) ?_
        try simp only [Act.put, List.setIfInBounds_toArray, List.set_cons_zero, List.set_cons_succ]
        refine Hd.skip 17 (some 29) rfl rfl (by kernel_rfl) (by kernel_rfl) (by kernel_rfl) (fun _ _ _ h => h) (by rfl) (by assumption) ?_
        try simp only [Act.put, List.setIfInBounds_toArray, List.set_cons_zero, List.set_cons_succ]
        refine Hd.skip 18 (some 30) rfl rfl (by kernel_rfl) (by kernel_rfl) (by kernel_rfl) (fun _ _ _ h => h) (by rfl) (by assumption) ?_
        try simp only [Act.put, List.setIfInBounds_toArray, List.set_cons_zero, List.set_cons_succ]
        refine Hd.skip 19 (some 31) rfl rfl (by kernel_rfl) (by kernel_rfl) (by kernel_rfl) (fun _ _ _ h => h) (by rfl) (by assumption) ?_
        try simp only [Act.put, List.setIfInBounds_toArray, List.set_cons_zero, List.set_cons_succ]
        refine Hd.skip 20 (some 32) rfl rfl (by kernel_rfl) (by kernel_rfl) (by kernel_rfl) (fun _ _ _ h => h) (by rfl) (by assumption) ?_
        try simp only [Act.put, List.setIfInBounds_toArray, List.set_cons_zero, List.set_cons_succ]
        refine Hd.skip 21 (some 33) rfl rfl (by kernel_rfl) (by kernel_rfl) (by kernel_rfl) (fun _ _ _ h => h) (by rfl) (by assumption) ?_
        try simp only [Act.put, List.setIfInBounds_toArray, List.set_cons_zero, List.set_cons_succ]
        refine Hd.skip 22 (some 34) rfl rfl (by kernel_rfl) (by kernel_rfl) (by kernel_rfl) (fun _ _ _ h => h) (by rfl) (by assumption) ?_
        try simp only [Act.put, List.setIfInBounds_toArray, List.set_cons_zero, List.set_cons_succ]
        refine Hd.skip 23 (some 35) rfl rfl (by kernel_rfl) (by kernel_rfl) (by kernel_rfl) (fun _ _ _ h => h) (by rfl) (by assumption) ?_
        try simp only [Act.put, List.setIfInBounds_toArray, List.set_cons_zero, List.set_cons_succ]
        refine Hd.take 24 (some 36) (.bool true) rfl rfl (by kernel_rfl) (by kernel_rfl) (by kernel_rfl) (fun _ _ _ h => h) (by rfl) (by intro w hSw; (try dsimp only at hSw); go_simp) (by assumption) ?_
        try simp only [Act.put, List.setIfInBounds_toArray, List.set_cons_zero, List.set_cons_succ]
        refine wpAnyH_done (by kernel_rfl) ?_ _
        go_wp2
        go_ret
        exact ⟨Seg.ret_bool Z.out, (R0.out.next B8.out).bel⟩
      | true =>
        rw [hl] at LC
        obtain ⟨f, o1, o2, o3, o4, o5, o6, o7⟩ := Of.ok_all hl
        have LE : Hid (∀ wx, Below wi.heap.size wi wx → Calls Try.prog 59 #[.slice AS r.segs.length cS] wx fun e w' => e = .returned (.int .i64 (lastE 0 (flatB r.segs))) ∧ Below wx.heap.size wx w') := fun wx bx => by
          obtain ⟨hv', e1, hs'⟩ := LA2.out.below (bx.mono hbi)
          have : hv' = .slice AS r.segs.length cS := by simp only [LogW.logVal, Value.agg.injEq, Array.mk.injEq, List.cons.injEq, and_true] at e1; exact e1.2.2.2.symm
          rw [this] at hs'
          exact Eo.lastEpoch_any _ r.segs f wx lo b (Nat.le_trans hbi bx.size) VF.out.1.1 VF.out.1.2 o1 (by rw [Of.flat_count]; exact o7) hs'
        have KL := Seg.hid hl
        clear hl o1 o2 o3 o4 o5 o6 o7
        cases hm : inR r.start r.mark r.next with
        | false =>
          have Z : Hid (false = t) := by show _ = _; rw [← HD'.out]; simp [reps, repOk, hm]
          have HM := Seg.hid hm
          clear hm
          refine wp_region_held_drew (S := (fun w' => w'.cell? ⟨wr.heap.size, 0, none⟩ = some (.int .i64 r.start) ∧ w'.cell? ⟨wr.heap.size, 1, none⟩ = some (.int .i64 r.next) ∧ w'.cell? ⟨wr.heap.size, 2, none⟩ = some (.int .i64 r.roll) ∧ w'.cell? ⟨wr.heap.size, 3, none⟩ = some (.slice AS r.segs.length cS) ∧ w'.cell? ⟨wr.heap.size, 4, none⟩ = some (.int .i64 r.mark) ∧ w'.cell? ⟨w.heap.size, 2, none⟩ = some (.int .i64 p.epoch))) (by kernel_rfl) (ST.out _ (Below.refl _ _).drew) (fun hHeld => ?_)
          refine Hd.take 0 (some 12) (.pointer (some ⟨wr.heap.size, 0, none⟩)) rfl rfl (by kernel_rfl) (by kernel_rfl) (by kernel_rfl) (fun _ _ _ h => h) (by rfl) (by intro w hSw; (try dsimp only at hSw); go_simp) (by assumption) ?_
          try simp only [Act.put, List.setIfInBounds_toArray, List.set_cons_zero, List.set_cons_succ]
          refine Hd.take 1 (some 13) (.agg #[.int .i64 r.start, .int .i64 r.next, .int .i64 r.roll, .slice AS r.segs.length cS]) rfl rfl (by kernel_rfl) (by kernel_rfl) (by kernel_rfl) (fun _ _ _ h => h) (by rfl) (by intro w hSw; (try dsimp only at hSw); go_simp) (by assumption) ?_
          try simp only [Act.put, List.setIfInBounds_toArray, List.set_cons_zero, List.set_cons_succ]
          refine wpAnyH_ready (rs := [2]) (by kernel_rfl) (by simp) ?_
          refine AllReadyH.cons (o := { dst := some 14, op := Op.call { callee := Callee.value (Operand.func 44), args := #[Operand.tmp 13], argTypes := #[43] }, type := 4, pos := "l05_replica.go:70", after := #[{ on := 1, ground := Ground.data }], guard := none }) rfl (fun K hK => ?_) AllReadyH.nil
          (go_simp; go_at_call 44; refine (LC.out wi.drew (Below.refl _ _).drew).mono ?_; rintro e w8 ⟨rfl, b8⟩; have B8 : Hid (Below wi.heap.size wi w8) := ⟨b8.os, b8.tape, b8.output, b8.size, b8.block⟩; clear b8; try (go_wp2_with fail))
          refine hK.out _ _ (ST.out _ B8.out) (fun hHeld => ?_)
          clear hK K
          try simp only [Act.put, List.setIfInBounds_toArray, List.set_cons_zero, List.set_cons_succ]
          refine Hd.take 3 (some 15) (.bool false) rfl rfl (by kernel_rfl) (by kernel_rfl) (by kernel_rfl) (fun _ _ _ h => h) (by rfl) (by intro w hSw; (try dsimp only at hSw); go_simp) (by assumption) ?_
          try simp only [Act.put, List.setIfInBounds_toArray, List.set_cons_zero, List.set_cons_succ]
          refine Hd.take 4 (some 16) (.bool false) rfl rfl (by kernel_rfl) (by kernel_rfl) (by kernel_rfl) (fun _ _ _ h => h) (by rfl) (by intro w hSw; (try dsimp only at hSw); go_simp) (by assumption) ?_
          try simp only [Act.put, List.setIfInBounds_toArray, List.set_cons_zero, List.set_cons_succ]
          refine Hd.take 5 (some 17) (.pointer (some ⟨wr.heap.size, 4, none⟩)) rfl rfl (by kernel_rfl) (by kernel_rfl) (by kernel_rfl) (fun _ _ _ h => h) (by rfl) (by intro w hSw; (try dsimp only at hSw); go_simp) (by assumption) ?_
          try simp only [Act.put, List.setIfInBounds_toArray, List.set_cons_zero, List.set_cons_succ]
          refine Hd.take 6 (some 18) (.int .i64 r.mark) rfl rfl (by kernel_rfl) (by kernel_rfl) (by kernel_rfl) (fun _ _ _ h => h) (by rfl) (by intro w hSw; (try dsimp only at hSw); go_simp) (by assumption) ?_
          try simp only [Act.put, List.setIfInBounds_toArray, List.set_cons_zero, List.set_cons_succ]
          refine Hd.take 7 (some 19) (.pointer (some ⟨wr.heap.size, 0, none⟩)) rfl rfl (by kernel_rfl) (by kernel_rfl) (by kernel_rfl) (fun _ _ _ h => h) (by rfl) (by intro w hSw; (try dsimp only at hSw); go_simp) (by assumption) ?_
          try simp only [Act.put, List.setIfInBounds_toArray, List.set_cons_zero, List.set_cons_succ]
          refine Hd.take 8 (some 20) (.pointer (some ⟨wr.heap.size, 0, none⟩)) rfl rfl (by kernel_rfl) (by kernel_rfl) (by kernel_rfl) (fun _ _ _ h => h) (by rfl) (by intro w hSw; (try dsimp only at hSw); go_simp) (by assumption) ?_
          try simp only [Act.put, List.setIfInBounds_toArray, List.set_cons_zero, List.set_cons_succ]
          refine Hd.take 9 (some 21) (.int .i64 r.start) rfl rfl (by kernel_rfl) (by kernel_rfl) (by kernel_rfl) (fun _ _ _ h => h) (by rfl) (by intro w hSw; (try dsimp only at hSw); go_simp) (by assumption) ?_
          try simp only [Act.put, List.setIfInBounds_toArray, List.set_cons_zero, List.set_cons_succ]
          refine Hd.take 10 (some 22) (.pointer (some ⟨wr.heap.size, 0, none⟩)) rfl rfl (by kernel_rfl) (by kernel_rfl) (by kernel_rfl) (fun _ _ _ h => h) (by rfl) (by intro w hSw; (try dsimp only at hSw); go_simp) (by assumption) ?_
          try simp only [Act.put, List.setIfInBounds_toArray, List.set_cons_zero, List.set_cons_succ]
          refine Hd.take 11 (some 23) (.pointer (some ⟨wr.heap.size, 1, none⟩)) rfl rfl (by kernel_rfl) (by kernel_rfl) (by kernel_rfl) (fun _ _ _ h => h) (by rfl) (by intro w hSw; (try dsimp only at hSw); go_simp) (by assumption) ?_
          try simp only [Act.put, List.setIfInBounds_toArray, List.set_cons_zero, List.set_cons_succ]
          refine Hd.take 12 (some 24) (.int .i64 r.next) rfl rfl (by kernel_rfl) (by kernel_rfl) (by kernel_rfl) (fun _ _ _ h => h) (by rfl) (by intro w hSw; (try dsimp only at hSw); go_simp) (by assumption) ?_
          try simp only [Act.put, List.setIfInBounds_toArray, List.set_cons_zero, List.set_cons_succ]
          refine wpAnyH_ready (rs := [13]) (by kernel_rfl) (by simp) ?_
          refine AllReadyH.cons (o := { dst := some 25, op := Op.call { callee := Callee.value (Operand.func 39), args := #[Operand.tmp 18, Operand.tmp 21, Operand.tmp 24], argTypes := #[3, 3, 3] }, type := 4, pos := "l05_replica.go:70", after := #[{ on := 6, ground := Ground.data }, { on := 9, ground := Ground.data }, { on := 12, ground := Ground.data }, { on := 4, ground := Ground.chain }, { on := 4, ground := Ground.guard }], guard := some (4, false) }) rfl (fun K hK => ?_) AllReadyH.nil
          (go_simp; go_at_call 39; refine (InB.within_b _ _ _ false HM.out _).mono ?_; rintro e w9 ⟨rfl, rfl⟩; try (go_wp2_with fail))
          refine hK.out _ _ (ST.out _ B8.out) (fun hHeld => ?_)
          clear hK K
          try simp only [Act.put, List.setIfInBounds_toArray, List.set_cons_zero, List.set_cons_succ]
          refine Hd.take 14 (some 26) (.bool true) rfl rfl (by kernel_rfl) (by kernel_rfl) (by kernel_rfl) (fun _ _ _ h => h) (by rfl) (by intro w hSw; (try dsimp only at hSw); go_simp) (by assumption) ?_
          try simp only [Act.put, List.setIfInBounds_toArray, List.set_cons_zero, List.set_cons_succ]
          refine Hd.take 15 (some 27) (.bool true) rfl rfl (by kernel_rfl) (by kernel_rfl) (by kernel_rfl) (fun _ _ _ h => h) (by rfl) (by intro w hSw; (try dsimp only at hSw); go_simp) (by assumption) ?_
          try simp only [Act.put, List.setIfInBounds_toArray, List.set_cons_zero, List.set_cons_succ]
          refine Hd.take 16 (some 28) (.bool true) rfl rfl (by kernel_rfl) (by kernel_rfl) (by kernel_rfl) (fun _ _ _ h => h) (by rfl) (by intro w hSw; (try dsimp only at hSw); go_simp) (by assumption) ?_
          try simp only [Act.put, List.setIfInBounds_toArray, List.set_cons_zero, List.set_cons_succ]
          refine Hd.skip 17 (some 29) rfl rfl (by kernel_rfl) (by kernel_rfl) (by kernel_rfl) (fun _ _ _ h => h) (by rfl) (by assumption) ?_
          try simp only [Act.put, List.setIfInBounds_toArray, List.set_cons_zero, List.set_cons_succ]
          refine Hd.skip 18 (some 30) rfl rfl (by kernel_rfl) (by kernel_rfl) (by kernel_rfl) (fun _ _ _ h => h) (by rfl) (by assumption) ?_
          try simp only [Act.put, List.setIfInBounds_toArray, List.set_cons_zero, List.set_cons_succ]
          refine Hd.skip 19 (some 31) rfl rfl (by kernel_rfl) (by kernel_rfl) (by kernel_rfl) (fun _ _ _ h => h) (by rfl) (by assumption) ?_
          try simp only [Act.put, List.setIfInBounds_toArray, List.set_cons_zero, List.set_cons_succ]
          refine Hd.skip 20 (some 32) rfl rfl (by kernel_rfl) (by kernel_rfl) (by kernel_rfl) (fun _ _ _ h => h) (by rfl) (by assumption) ?_
          try simp only [Act.put, List.setIfInBounds_toArray, List.set_cons_zero, List.set_cons_succ]
          refine Hd.skip 21 (some 33) rfl rfl (by kernel_rfl) (by kernel_rfl) (by kernel_rfl) (fun _ _ _ h => h) (by rfl) (by assumption) ?_
          try simp only [Act.put, List.setIfInBounds_toArray, List.set_cons_zero, List.set_cons_succ]
          refine Hd.skip 22 (some 34) rfl rfl (by kernel_rfl) (by kernel_rfl) (by kernel_rfl) (fun _ _ _ h => h) (by rfl) (by assumption) ?_
          try simp only [Act.put, List.setIfInBounds_toArray, List.set_cons_zero, List.set_cons_succ]
          refine Hd.skip 23 (some 35) rfl rfl (by kernel_rfl) (by kernel_rfl) (by kernel_rfl) (fun _ _ _ h => h) (by rfl) (by assumption) ?_
          try simp only [Act.put, List.setIfInBounds_toArray, List.set_cons_zero, List.set_cons_succ]
          refine Hd.take 24 (some 36) (.bool true) rfl rfl (by kernel_rfl) (by kernel_rfl) (by kernel_rfl) (fun _ _ _ h => h) (by rfl) (by intro w hSw; (try dsimp only at hSw); go_simp) (by assumption) ?_
          try simp only [Act.put, List.setIfInBounds_toArray, List.set_cons_zero, List.set_cons_succ]
          refine wpAnyH_done (by kernel_rfl) ?_ _
          go_wp2
          go_ret
          exact ⟨Seg.ret_bool Z.out, (R0.out.next B8.out).bel⟩
        | true =>
          have HM := Seg.hid hm
          clear hm
          obtain ⟨ee, hee⟩ : ∃ ee, lastE 0 (flatB r.segs) = ee := ⟨_, rfl⟩
          rw [hee] at LE
          have HEE := Seg.hid hee
          clear hee
          go_region_held3 (fun w' => w'.cell? ⟨wr.heap.size, 0, none⟩ = some (.int .i64 r.start) ∧ w'.cell? ⟨wr.heap.size, 1, none⟩ = some (.int .i64 r.next) ∧ w'.cell? ⟨wr.heap.size, 2, none⟩ = some (.int .i64 r.roll) ∧ w'.cell? ⟨wr.heap.size, 3, none⟩ = some (.slice AS r.segs.length cS) ∧ w'.cell? ⟨wr.heap.size, 4, none⟩ = some (.int .i64 r.mark) ∧ w'.cell? ⟨w.heap.size, 2, none⟩ = some (.int .i64 p.epoch)) (first | exact ST.out _ B10.out | exact ST.out _ B8.out | exact ST.out _ (Below.refl _ _).drew | exact ST.out _ (Below.refl _ _) | go_keep)
            (first | (go_at_call 44; refine (LC.out wi.drew (Below.refl _ _).drew).mono ?_; rintro e w8 ⟨rfl, b8⟩; have B8 : Hid (Below wi.heap.size wi w8) := ⟨b8.os, b8.tape, b8.output, b8.size, b8.block⟩; clear b8) | (go_at_call 39; refine (InB.within_b _ _ _ true HM.out _).mono ?_; rintro e w9 ⟨rfl, rfl⟩) | (go_at_call 59; refine (LE.out w8 B8.out).mono ?_; rintro e w10 ⟨rfl, b10⟩; have B10 := Seg.hid (chain B8.out b10); clear b10))
          by_cases hgt : p.epoch < ee
          · have Z : Hid (false = t) := by show _ = _; rw [← HD'.out]; simp [reps, repOk, HEE.out, show ¬ ee ≤ p.epoch by omega]
            have hg2 : decide (p.epoch < ee) = true := decide_eq_true hgt
            go_wp2
            go_ret
            exact ⟨Seg.ret_bool Z.out, (R0.out.next B10.out).bel⟩
          · have HE : Hid (reps p.epoch (p.reps.drop (k + 1)) = t) := by show _ = _; rw [← HD'.out]; simp [reps, repOk, KL.out, HM.out, HEE.out, show ee ≤ p.epoch by omega]
            have hg2 : decide (p.epoch < ee) = false := decide_eq_false hgt
            go_wp2
            go_roundw
            case rel => exact ⟨k + 1, by omega, by go_num, HE.out, (R0.out.next B10.out).rp, (R0.out.next B10.out).bel⟩
            case measure => simp [intOf]; omega
    · have hk' : k = p.reps.length := by omega
      have Z : Hid (true = t) := by
        show _ = _
        have := HR.out.1
        rw [List.drop_eq_nil_of_le (by omega)] at this
        rw [← this]; rfl
      subst hk'
      go_wp2
      go_ret
      exact ⟨Seg.ret_bool Z.out, HR.out.2.bel⟩
set_option maxHeartbeats 800000 in
theorem insy_any (v : Value) (p : Prt) (t : Bool) (w : World) (lo b : Nat) (hv : PrtAt w (seg lo b) v p) (hb : b ≤ w.heap.size) (hn : 1 ≤ p.reps.length ∧ p.reps.length ≤ 5) (ht : insy p = t) :
    Calls Try.prog 41 #[v] w fun e w' => e = .returned (.bool t) ∧ Below w.heap.size w w' := by
  have hS : ∀ g, seg lo b g → g < w.heap.size := fun g hg => Nat.lt_of_lt_of_le hg.2 hb
  obtain ⟨A0, c0, A3, c3, A4, c4, rfl⟩ := form hv
  have HI := Seg.hid (parts hv).2.1
  have HT := Seg.hid ht
  have e1 : IntKind.i64.wrap ((p.reps.length : Int) - 1) = (p.reps.length : Int) - 1 := by rw [IntKind.wrap_i64] <;> omega
  clear hv ht
  go_enter Try.func41, Try.ntmps41
  by_cases hz : p.insync.length = 0
  · have Z : Hid (false = t) := by show _ = _; rw [← HT.out]; simp [insy, hz]
    have h0 : ¬ (0 : Int) < (p.insync.length : Int) := by omega
    have h1 : ¬ 0 < p.insync.length := by omega
    clear hz
    go_wp2
    go_ret
    exact ⟨Seg.ret_bool (by first | exact Z.out | (rw [← Z.out]; simp; omega)), below1 _ _⟩
  · have Z : Hid (asc ((p.reps.length : Int) - 1) (-1) p.insync = t) := by show _ = _; rw [← HT.out]; simp [insy, show 0 < p.insync.length by omega]
    have h0 : (0 : Int) < (p.insync.length : Int) := by omega
    have h1 : 0 < p.insync.length := by omega
    clear hz
    go_wp2_with fail
    refine (asc_any _ p.insync _ t (w.alloc _) (seg lo b) (HI.out.below keepsI (below1 w _) hS) (by omega) Z.out).mono ?_
    rintro e w1 ⟨rfl, rfl⟩
    go_wp2
    go_ret
    exact ⟨rfl, below1 _ _⟩
set_option maxHeartbeats 800000 in
theorem known_any (v : Value) (p : Prt) (t : Bool) (w : World) (lo b : Nat) (hv : PrtAt w (seg lo b) v p) (hb : b ≤ w.heap.size) (ht : known p = t) :
    Calls Try.prog 43 #[v] w fun e w' => e = .returned (.bool t) ∧ Below w.heap.size w w' := by
  have hS : ∀ g, seg lo b g → g < w.heap.size := fun g hg => Nat.lt_of_lt_of_le hg.2 hb
  obtain ⟨A0, c0, A3, c3, A4, c4, rfl⟩ := form hv
  have HI := Seg.hid (parts hv).2.2
  have HT := Seg.hid ht
  clear hv ht
  go_enter Try.func43, Try.ntmps43
  go_wp2_with fail
  refine (all_any _ p.known _ _ t (w.alloc _) (seg lo b) (HI.out.below keepsI (below1 w _) hS) HT.out).mono ?_
  rintro e w1 ⟨rfl, rfl⟩
  go_wp2
  go_ret
  exact ⟨rfl, below1 _ _⟩
set_option maxHeartbeats 1600000 in
theorem lead_any (v : Value) (p : Prt) (t : Bool) (w : World) (lo b : Nat) (hv : PrtAt w (seg lo b) v p) (hb : b ≤ w.heap.size) (hn : 1 ≤ p.reps.length ∧ p.reps.length ≤ 5) (ht : lead p = t) :
    Calls Try.prog 42 #[v] w fun e w' => e = .returned (.bool t) ∧ Below w.heap.size w w' := by
  have hS : ∀ g, seg lo b g → g < w.heap.size := fun g hg => Nat.lt_of_lt_of_le hg.2 hb
  obtain ⟨A0, c0, A3, c3, A4, c4, rfl⟩ := form hv
  obtain ⟨A0', c0', ga, oa, Fa, g0, OA, n0⟩ := opn ((parts hv).1.below keepsRpl (below1 w (.cells #[.slice A0 p.reps.length c0, .int .i64 p.leader, .int .i64 p.epoch, .slice A3 p.insync.length c3, .slice A4 p.known.length c4, .int .i64 p.least] 31 (0, 0))) hS) (fun g hg => by rw [hsz]; have := hS g hg; omega)
  simp only [Value.slice.injEq, true_and] at g0
  obtain ⟨rfl, rfl⟩ := g0
  have HA := Seg.hid OA
  have HI := Seg.hid (parts hv).2.1
  have HT := Seg.hid ht
  have e1 : IntKind.i64.wrap ((p.reps.length : Int) - 1) = (p.reps.length : Int) - 1 := by rw [IntKind.wrap_i64] <;> omega
  clear hv ht OA
  go_enter Try.func42, Try.ntmps42
  by_cases hl : p.leader = -1
  · have Z : Hid (true = t) := by show _ = _; rw [← HT.out]; simp [lead, hl]
    have h2 : (p.leader == -1) = true := by simp [hl]
    clear hl
    go_wp2
    go_ret
    exact ⟨Seg.ret_bool Z.out, below1 _ _⟩
  have HT2 : Hid ((inR 0 p.leader ((p.reps.length : Int) - 1) && ((p.reps.getD p.leader.toNat default).up && has p.leader p.insync)) = t) := by show _ = _; rw [← HT.out]; simp [lead, hl]
  have h2 : (p.leader == -1) = false := by simpa using hl
  clear hl HT
  cases hr : inR 0 p.leader ((p.reps.length : Int) - 1) with
  | false =>
    have Z : Hid (false = t) := by show _ = _; rw [← HT2.out, hr]; rfl
    go_wp2_with fail
    refine (InB.within_b _ _ _ false hr _).mono ?_
    rintro e w1 ⟨rfl, rfl⟩
    clear hr
    go_wp2
    go_ret
    exact ⟨Seg.ret_bool Z.out, below1 _ _⟩
  | true =>
    obtain ⟨m, hm⟩ : ∃ m : Nat, p.leader = (m : Int) := ⟨p.leader.toNat, by simp [inR] at hr; omega⟩
    have hmn : m < p.reps.length := by simp [inR] at hr; omega
    have HT3 : Hid (((p.reps.getD m default).up && has p.leader p.insync) = t) := by
      show _ = _
      rw [← HT2.out, hr, Bool.true_and]
      rw [show p.leader.toNat = m by rw [hm]; simp]
    obtain ⟨ea, hc, hga⟩ := HA.out.addr.resolve_left (by omega)
    obtain ⟨AS, cS, ⟨d0, d1, d2, d3, d4, d5⟩, _⟩ := rpl_cells (i := m) (fun j hj => HA.out.cells m hmn j hj) (HA.out.el m hmn)
    have h0 : (0 : Int) ≤ (m : Int) := by omega
    have h1 : (m : Int) < (p.reps.length : Int) := by omega
    have HRR := Seg.hid hr
    clear hr HT2 d0 d1 d2 d3 d4
    generalize p.reps.getD m default = r at *
    generalize p.leader = ld at *
    subst hm
    subst ea
    go_wp2_with fail
    refine (InB.within_b _ _ _ true HRR.out _).mono ?_
    rintro e w1 ⟨rfl, rfl⟩
    cases hu : r.up with
    | false =>
      have Z : Hid (false = t) := by show _ = _; rw [← HT3.out, hu]; rfl
      rw [hu] at d5
      clear hu
      go_wp2
      go_ret
      exact ⟨Seg.ret_bool Z.out, below1 _ _⟩
    | true =>
      have Z : Hid (has (m : Int) p.insync = t) := by show _ = _; rw [← HT3.out, hu]; rfl
      rw [hu] at d5
      clear hu
      go_wp2_with fail
      refine (contains_any _ p.insync _ t (w.alloc _) (seg lo b) (HI.out.below keepsI (below1 w _) hS) (fun g hg => by rw [hsz]; have := hS g hg; omega) Z.out).mono ?_
      rintro e w1 ⟨rfl, rfl⟩
      go_wp2
      go_ret
      exact ⟨rfl, below1 _ _⟩
end Go.Proofs.Ytggjinjadllapaa.PoI
