/- PartOk of the model. -/
import Derived.Deep.RegionHeld3
import Derived.Test.YticihnoekffelaaJS35
namespace Go.Proofs.Yticihnoekffelaa.PoS
set_option maxRecDepth 8000
open Go.RowKit
open Ls Asc PoP
open Recs (hsz below1 below2 chain chainD Bat)
open SegW (Sg)
open LogW (Lg LogAt)
open Bats (BatsAt)
open LgP (logOk)
open BfP (flatB)
open EoP (lastE)
open PoI (Sr)
open PoI
set_option linter.unusedVariables false
set_option maxHeartbeats 12800000 in
theorem spec_any (v : Value) (p : Prt) (w : World) (lo b : Nat) (hv : PrtAt w (seg lo b) v p) (hb : b ≤ w.heap.size) (hf : szPrt p ≤ 1048576) (hfi : FinePrt p) :
    Calls Try.prog 36 #[v] w fun e w' => e = .returned (.bool (PoP.part p)) ∧ Below w.heap.size w w' := by
  have hS : ∀ g, seg lo b g → g < w.heap.size := fun g hg => Nat.lt_of_lt_of_le hg.2 hb
  obtain ⟨A0, c0, A3, c3, A4, c4, rfl⟩ := form hv
  obtain ⟨A0', c0', ga, oa, Fa, g0, OA, n0⟩ := opn (parts hv).1 hS
  simp only [Value.slice.injEq, true_and] at g0
  obtain ⟨rfl, rfl⟩ := g0
  obtain ⟨A3', c3', gi, oi, Fi, g3, OI, n3⟩ := opn (parts hv).2.1 hS
  simp only [Value.slice.injEq, true_and] at g3
  obtain ⟨rfl, rfl⟩ := g3
  obtain ⟨A4', c4', gk, ok, Fk, g4, OK, n4⟩ := opn (parts hv).2.2 hS
  simp only [Value.slice.injEq, true_and] at g4
  obtain ⟨rfl, rfl⟩ := g4
  have HA := Seg.hid OA; have HI := Seg.hid OI; have HK := Seg.hid OK
  have HIN := Seg.hid (parts hv).2.1
  have L0 : Hid (∀ i, i < p.reps.length → szLg (lg (p.reps.getD i default)) ≤ 1048576) := fun i hi => by
    have := szL_one (l := 1048576) szRpl (show szL szRpl p.reps ≤ 1048576 by unfold szPrt at hf; omega) hi
    exact this
  have LW : Hid (∀ i, i < p.reps.length → ∀ j, j < (p.reps.getD i default).segs.length → I64 ((p.reps.getD i default).segs.getD j default).base) := fun i hi j hj => ((hfi.1.2 i hi).2.2.2.1.2 j hj).1
  clear hv OA OI OK hf hfi
  go_enter Try.func36, Try.ntmps36
  have no : ∀ (w' : World), PoP.part p = false → Below w.heap.size w w' → (Ending.returned (.bool false) = .returned (.bool (PoP.part p)) ∧ Below w.heap.size w w') := fun w' h b => ⟨by rw [h], b⟩
  have NO := Seg.hid no
  clear no
  go_wp2_with fail
  cases h1 : inR 1 p.reps.length 5 with
  | false =>
    refine (InB.l1In_b _ _ _ false h1 _).mono ?_
    rintro e w1 ⟨rfl, rfl⟩
    have Z : Hid (PoP.part p = false) := by show _ = _; simp [PoP.part, PoP.front, h1]
    clear h1
    go_wp2
    go_ret
    exact NO.out _ Z.out (below1 _ _)
  | true =>
  refine (InB.l1In_b _ _ _ true h1 _).mono ?_
  rintro e w1 ⟨rfl, rfl⟩
  have K1 := Seg.hid h1
  have hn5 : 1 ≤ p.reps.length ∧ p.reps.length ≤ 5 := by simp [inR] at h1; omega
  have e1 : IntKind.i64.wrap ((p.reps.length : Int) - 1) = (p.reps.length : Int) - 1 := by rw [IntKind.wrap_i64] <;> omega
  clear h1
  go_wp2_with fail
  cases h2 : inR (-1) p.leader ((p.reps.length : Int) - 1) with
  | false =>
    refine (InB.l1In_b _ _ _ false h2 _).mono ?_
    rintro e w1 ⟨rfl, rfl⟩
    have Z : Hid (PoP.part p = false) := by
      show _ = _
      have hl : lead p = false := by
        simp only [inR, Bool.and_eq_false_iff, decide_eq_false_iff_not] at h2
        have h3 : ¬ p.leader = -1 := by omega
        have h4 : inR 0 p.leader ((p.reps.length : Int) - 1) = false := by simp only [inR, Bool.and_eq_false_iff, decide_eq_false_iff_not]; omega
        simp [lead, h3, h4]
      simp [PoP.part, hl]
    clear h2
    go_wp2
    go_ret
    exact NO.out _ Z.out (below1 _ _)
  | true =>
  refine (InB.l1In_b _ _ _ true h2 _).mono ?_
  rintro e w1 ⟨rfl, rfl⟩
  have K2 : Hid (-1 ≤ p.leader ∧ p.leader ≤ (p.reps.length : Int) - 1) := by show _ ∧ _; simpa [inR] using h2
  clear h2
  go_wp2_with fail
  cases h3 : inR 0 p.epoch 1000000 with
  | false =>
    refine (InB.l1In_b _ _ _ false h3 _).mono ?_
    rintro e w1 ⟨rfl, rfl⟩
    have Z : Hid (PoP.part p = false) := by show _ = _; simp [PoP.part, PoP.front, h3]
    clear h3
    go_wp2
    go_ret
    exact NO.out _ Z.out (below1 _ _)
  | true =>
  refine (InB.l1In_b _ _ _ true h3 _).mono ?_
  rintro e w1 ⟨rfl, rfl⟩
  have K3 := Seg.hid h3
  clear h3
  go_wp2_with fail
  cases h4 : inR 1 p.least 5 with
  | false =>
    refine (InB.l1In_b _ _ _ false h4 _).mono ?_
    rintro e w1 ⟨rfl, rfl⟩
    have Z : Hid (PoP.part p = false) := by show _ = _; simp [PoP.part, PoP.front, h4]
    clear h4
    go_wp2
    go_ret
    exact NO.out _ Z.out (below1 _ _)
  | true =>
  refine (InB.l1In_b _ _ _ true h4 _).mono ?_
  rintro e w1 ⟨rfl, rfl⟩
  have KF : Hid (PoP.front p = true) := by show _ = _; simp [PoP.front, K1.out, K3.out, h4]
  clear h4 K1 K3
  by_cases h5 : p.known.length = p.reps.length
  case neg =>
    have Z : Hid (PoP.part p = false) := by
      show _ = _
      have : known p = false := by simp [known, nums]; intro _ h; omega
      simp [PoP.part, this]
    have h6 : ((p.known.length : Int) != (p.reps.length : Int)) = true := by simp; omega
    clear h5
    go_wp2
    go_ret
    exact NO.out _ Z.out (below1 _ _)
  have h6 : ((p.known.length : Int) != (p.reps.length : Int)) = false := by simp [h5]
  have K5 := Seg.hid h5
  clear h5
  by_cases h7 : p.insync.length = 0
  case pos =>
    have Z : Hid (PoP.part p = false) := by
      show _ = _
      have : insy p = false := by simp [insy, h7]
      simp [PoP.part, this]
    have h8 : ((p.insync.length : Int) == 0) = true := by simp [h7]
    clear h7
    go_wp2
    go_ret
    exact NO.out _ Z.out (below1 _ _)
  have h8 : ((p.insync.length : Int) == 0) = false := by simp; intro h; exact h7 (by rw [h]; rfl)
  have K7 : Hid (insy p = asc ((p.reps.length : Int) - 1) (-1) p.insync) := by show _ = _; simp [insy, show 0 < p.insync.length by omega]
  have KN : Hid (known p = allIn 1000000000 p.known) := by show _ = _; simp [known, nums, K5.out]
  clear h7
  go_upto_region 4 with fail
  have S0 : Hid (Sr w (w.alloc (.cells #[.slice A0 p.reps.length c0, .int .i64 p.leader, .int .i64 p.epoch, .slice A3 p.insync.length c3, .slice A4 p.known.length c4, .int .i64 p.least] 44 (0, 0))) p A0 A3 A4 c0 c3 c4) := ⟨heap_alloc_new _ _, below1 _ _⟩
  generalize w.alloc (.cells #[.slice A0 p.reps.length c0, .int .i64 p.leader, .int .i64 p.epoch, .slice A3 p.insync.length c3, .slice A4 p.known.length c4, .int .i64 p.least] 44 (0, 0)) = w2 at *
  go_wp2_with fail
  go_loopw [4] (fun i wr => ∃ (k : Nat), k ≤ p.reps.length ∧ i = .int .i64 k ∧ Hid (reps p.epoch (p.reps.drop k) = reps p.epoch p.reps ∧ allIn 1000000000 (p.known.drop k) = allIn 1000000000 p.known ∧ Sr w wr p A0 A3 A4 c0 c3 c4)) (fun i _ => p.reps.length - (intOf i).toNat)
  case atStart => exact ⟨0, Nat.zero_le _, rfl, rfl, rfl, S0.out⟩
  case round =>
    clear S0
    obtain ⟨k, hk, rfl, HR⟩ := hrel
    by_cases hlt : k < p.reps.length
    · obtain ⟨ea, hc, hga⟩ := HA.out.addr.resolve_left (by omega)
      obtain ⟨ek, hck, hgk⟩ := HK.out.addr.resolve_left (by rw [K5.out]; omega)
      have hkk : k < p.known.length := by rw [K5.out]; exact hlt
      have CL := cells_later HA.out.cells HR.out.2.2.bel hga
      have EL : ERpl wr (seg lo b) (Fa k) (p.reps.getD k default) := keepsRpl _ _ _ _ _ _ (HA.out.el k hlt) (fun g hg => HR.out.2.2.bel.block g (hS g hg)) (fun _ _ => rfl)
      obtain ⟨AS, cS, ⟨d0, d1, d2, d3, d4, d5⟩, LA⟩ := rpl_cells (i := k) (fun j hj => CL k hlt j hj) EL
      have LA' := Seg.hid LA
      have VF := Seg.hid (OldL.few_log (L0.out k hlt))
      have VW := Seg.hid (LW.out k hlt)
      have KX := Seg.hid (int_cell HK.out.cells HK.out.el k hkk)
      have HD := HR.out.1
      rw [drop_cons hlt] at HD
      have HD' := Seg.hid HD
      have HG := HR.out.2.1
      rw [drop_cons hkk] at HG
      have HG' := Seg.hid HG
      have h0 : (0 : Int) ≤ (k : Int) := by omega
      have h1 : (k : Int) < (p.reps.length : Int) := by omega
      have h1k : (k : Int) < (p.known.length : Int) := by omega
      have h2 : (k : Int) < (p.known.length : Int) := by omega
      have hlw : w.heap.size < wr.heap.size := (Array.getElem?_eq_some_iff.1 HR.out.2.2.rp).1
      have hbr : b ≤ wr.heap.size := Nat.le_trans hb HR.out.2.2.bel.size
      obtain ⟨m0, m1, m2, m3, m4⟩ := Sr.cells HR.out.2.2
      clear CL EL LA HD HG
      generalize p.reps.getD k default = r at *
      generalize p.known.getD k default = kn at *
      have ZR : Hid (repOk p.epoch r = false → PoP.part p = false) := fun h => by simp [PoP.part, ← HD'.out, reps, h]
      have ZK : Hid (inR 0 kn 1000000000 = false → PoP.part p = false) := fun h => by simp [PoP.part, KN.out, ← HG'.out, allIn, h]
      subst ea
      subst ek
      go_upto_region 8 with fail
      have R0 : Hid (Rr w (wr.alloc (.cells #[.int .i64 r.start, .int .i64 r.next, .int .i64 r.roll, .slice AS r.segs.length cS, .int .i64 r.mark, .bool r.up] 69 (0, 0))) w.heap.size wr.heap.size r p (some ⟨ga, oa, none⟩) A3 (some ⟨gk, ok, none⟩) AS c0 c3 c4 cS) := ⟨heap_alloc_new _ _, ((below1 wr _).block w.heap.size hlw).trans HR.out.2.2.rp, chain HR.out.2.2.bel (below1 wr _)⟩
      have LA2 : Hid (LogAt (wr.alloc (.cells #[.int .i64 r.start, .int .i64 r.next, .int .i64 r.roll, .slice AS r.segs.length cS, .int .i64 r.mark, .bool r.up] 69 (0, 0))) lo b (.agg #[.int .i64 r.start, .int .i64 r.next, .int .i64 r.roll, .slice AS r.segs.length cS]) (lg r)) := LA'.out.below ((below1 wr _).mono hbr)
      have hbi : b ≤ (wr.alloc (.cells #[.int .i64 r.start, .int .i64 r.next, .int .i64 r.roll, .slice AS r.segs.length cS, .int .i64 r.mark, .bool r.up] 69 (0, 0))).heap.size := by rw [hsz]; omega
      have KC : Hid (∀ wx, Below (wr.alloc (.cells #[.int .i64 r.start, .int .i64 r.next, .int .i64 r.roll, .slice AS r.segs.length cS, .int .i64 r.mark, .bool r.up] 69 (0, 0))).heap.size (wr.alloc (.cells #[.int .i64 r.start, .int .i64 r.next, .int .i64 r.roll, .slice AS r.segs.length cS, .int .i64 r.mark, .bool r.up] 69 (0, 0))) wx → wx.cell? ⟨gk, ok + k, none⟩ = some (.int .i64 kn)) := fun wx bx => by
        rw [(chain (chain HR.out.2.2.bel (below1 wr _)) bx).cell (p := ⟨gk, ok + k, none⟩) hgk]
        exact KX.out
      generalize wr.alloc (.cells #[.int .i64 r.start, .int .i64 r.next, .int .i64 r.roll, .slice AS r.segs.length cS, .int .i64 r.mark, .bool r.up] 69 (0, 0)) = wi at *
      clear d0 d1 d2 d3 d4 d5 LA' HR m0 m1 m2 m3 m4 KX
      have LC : Hid (∀ wx, Below wi.heap.size wi wx → Calls Try.prog 22 #[.agg #[.int .i64 r.start, .int .i64 r.next, .int .i64 r.roll, .slice AS r.segs.length cS]] wx fun e w' => e = .returned (.bool (logOk (lg r))) ∧ Below wx.heap.size wx w') := fun wx bx => LgS.spec_any _ (lg r) wx lo b (LA2.out.below (bx.mono hbi)) (Nat.le_trans hbi bx.size) VF.out VW.out
      obtain ⟨s0, s1, s2, s3, s4, s5⟩ := R0.out.cells
      obtain ⟨u0, u2, u4⟩ := R0.out.cellp
      have ST : Hid (∀ wx, Below wi.heap.size wi wx → (fun w' => w'.cell? ⟨wr.heap.size, 0, none⟩ = some (.int .i64 r.start) ∧ w'.cell? ⟨wr.heap.size, 1, none⟩ = some (.int .i64 r.next) ∧ w'.cell? ⟨wr.heap.size, 2, none⟩ = some (.int .i64 r.roll) ∧ w'.cell? ⟨wr.heap.size, 3, none⟩ = some (.slice AS r.segs.length cS) ∧ w'.cell? ⟨wr.heap.size, 4, none⟩ = some (.int .i64 r.mark) ∧ w'.cell? ⟨w.heap.size, 2, none⟩ = some (.int .i64 p.epoch) ∧ w'.cell? ⟨w.heap.size, 4, none⟩ = some (.slice (some ⟨gk, ok, none⟩) p.known.length c4) ∧ w'.cell? ⟨gk, ok + k, none⟩ = some (.int .i64 kn)) wx) := fun wx bx => by
        obtain ⟨s0, s1, s2, s3, s4, s5⟩ := (R0.out.next bx).cells
        obtain ⟨u0, u2, u4⟩ := (R0.out.next bx).cellp
        exact ⟨s0, s1, s2, s3, s4, u2, u4, KC.out wx bx⟩
      cases hl : logOk (lg r) with
      | false =>
        rw [hl] at LC
        have Z := Seg.hid (ZR.out (by simp [repOk, hl]))
        clear hl
        refine wp_region_held_drew (S := (fun w' => w'.cell? ⟨wr.heap.size, 0, none⟩ = some (.int .i64 r.start) ∧ w'.cell? ⟨wr.heap.size, 1, none⟩ = some (.int .i64 r.next) ∧ w'.cell? ⟨wr.heap.size, 2, none⟩ = some (.int .i64 r.roll) ∧ w'.cell? ⟨wr.heap.size, 3, none⟩ = some (.slice AS r.segs.length cS) ∧ w'.cell? ⟨wr.heap.size, 4, none⟩ = some (.int .i64 r.mark) ∧ w'.cell? ⟨w.heap.size, 2, none⟩ = some (.int .i64 p.epoch) ∧ w'.cell? ⟨w.heap.size, 4, none⟩ = some (.slice (some ⟨gk, ok, none⟩) p.known.length c4) ∧ w'.cell? ⟨gk, ok + k, none⟩ = some (.int .i64 kn))) (by kernel_rfl) (ST.out _ (Below.refl _ _).drew) (fun hHeld => ?_)
        refine Hd.take 0 (some 56) (.pointer (some ⟨wr.heap.size, 0, none⟩)) rfl rfl (by kernel_rfl) (by kernel_rfl) (by kernel_rfl) (fun _ _ _ h => h) (by rfl) (by intro w hSw; (try dsimp only at hSw); go_simp) (by assumption) ?_
        try simp only [Act.put, List.setIfInBounds_toArray, List.set_cons_zero, List.set_cons_succ]
        refine Hd.take 1 (some 57) (.agg #[.int .i64 r.start, .int .i64 r.next, .int .i64 r.roll, .slice AS r.segs.length cS]) rfl rfl (by kernel_rfl) (by kernel_rfl) (by kernel_rfl) (fun _ _ _ h => h) (by rfl) (by intro w hSw; (try dsimp only at hSw); go_simp) (by assumption) ?_
        try simp only [Act.put, List.setIfInBounds_toArray, List.set_cons_zero, List.set_cons_succ]
        refine wpAnyH_ready (rs := [2]) (by kernel_rfl) (by simp) ?_
        refine AllReadyH.cons (o := { dst := some 58, op := Op.call { callee := Callee.value (Operand.func 22), args := #[Operand.tmp 57], argTypes := #[28] }, type := 4, pos := "l05_replica.go:30", after := #[{ on := 1, ground := Ground.data }], guard := none }) rfl (fun K hK => ?_) AllReadyH.nil
        (go_simp; go_at_call 22; refine (LC.out wi.drew (Below.refl _ _).drew).mono ?_; rintro e w8 ⟨rfl, b8⟩; have B8 : Hid (Below wi.heap.size wi w8) := ⟨b8.os, b8.tape, b8.output, b8.size, b8.block⟩; clear b8; try (go_wp2_with fail))
        refine hK.out _ _ (ST.out _ B8.out) (fun hHeld => ?_)
        clear hK K
        try simp only [Act.put, List.setIfInBounds_toArray, List.set_cons_zero, List.set_cons_succ]
        refine Hd.take 3 (some 59) (.bool true) rfl rfl (by kernel_rfl) (by kernel_rfl) (by kernel_rfl) (fun _ _ _ h => h) (by rfl) (by intro w hSw; (try dsimp only at hSw); go_simp) (by assumption) ?_
        try simp only [Act.put, List.setIfInBounds_toArray, List.set_cons_zero, List.set_cons_succ]
        refine Hd.take 4 (some 60) (.bool true) rfl rfl (by kernel_rfl) (by kernel_rfl) (by kernel_rfl) (fun _ _ _ h => h) (by rfl) (by intro w hSw; (try dsimp only at hSw); go_simp) (by assumption) ?_
        try simp only [Act.put, List.setIfInBounds_toArray, List.set_cons_zero, List.set_cons_succ]
        refine Hd.skip 5 (some 61) rfl rfl (by kernel_rfl) (by kernel_rfl) (by kernel_rfl) (fun _ _ _ h => h) (by rfl) (by assumption) ?_
        try simp only [Act.put, List.setIfInBounds_toArray, List.set_cons_zero, List.set_cons_succ]
        refine Hd.skip 6 (some 62) rfl rfl (by kernel_rfl) (by kernel_rfl) (by kernel_rfl) (fun _ _ _ h => h) (by rfl) (by assumption) ?_
        try simp only [Act.put, List.setIfInBounds_toArray, List.set_cons_zero, List.set_cons_succ]
        refine Hd.skip 7 (some 63) rfl rfl (by kernel_rfl) (by kernel_rfl) (by kernel_rfl) (fun _ _ _ h => h) (by rfl) (by assumption) ?_
        try simp only [Act.put, List.setIfInBounds_toArray, List.set_cons_zero, List.set_cons_succ]
        refine Hd.skip 8 (some 64) rfl rfl (by kernel_rfl) (by kernel_rfl) (by kernel_rfl) (fun _ _ _ h => h) (by rfl) (by assumption) ?_
        try simp only [Act.put, List.setIfInBounds_toArray, List.set_cons_zero, List.set_cons_succ]
        refine Hd.skip 9 (some 65) rfl rfl (by kernel_rfl) (by kernel_rfl) (by kernel_rfl) (fun _ _ _ h => h) (by rfl) (by assumption) ?_
        try simp only [Act.put, List.setIfInBounds_toArray, List.set_cons_zero, List.set_cons_succ]
        refine Hd.skip 10 (some 66) rfl rfl (by kernel_rfl) (by kernel_rfl) (by kernel_rfl) (fun _ _ _ h => h) (by rfl) (by assumption) ?_
        try simp only [Act.put, List.setIfInBounds_toArray, List.set_cons_zero, List.set_cons_succ]
        refine Hd.skip 11 (some 67) rfl rfl (by kernel_rfl) (by kernel_rfl) (by kernel_rfl) (fun _ _ _ h => h) (by rfl) (by assumption) ?_
        try simp only [Act.put, List.setIfInBounds_toArray, List.set_cons_zero, List.set_cons_succ]
        refine Hd.skip 12 (some 68) rfl rfl (by kernel_rfl) (by kernel_rfl) (by kernel_rfl) (fun _ _ _ h => h) (by rfl) (by assumption) ?_
        try simp only [Act.put, List.setIfInBounds_toArray, List.set_cons_zero, List.set_cons_succ]
        refine Hd.skip 13 (some 69) rfl rfl (by kernel_rfl) (by kernel_rfl) (by kernel_rfl) (fun _ _ _ h => h) (by rfl) (by assumption) ?_
        try simp only [Act.put, List.setIfInBounds_toArray, List.set_cons_zero, List.set_cons_succ]
        refine Hd.skip 14 (some 70) rfl rfl (by kernel_rfl) (by kernel_rfl) (by kernel_rfl) (fun _ _ _ h => h) (by rfl) (by assumption) ?_
        try simp only [Act.put, List.setIfInBounds_toArray, List.set_cons_zero, List.set_cons_succ]
        refine Hd.take 15 (some 71) (.bool true) rfl rfl (by kernel_rfl) (by kernel_rfl) (by kernel_rfl) (fun _ _ _ h => h) (by rfl) (by intro w hSw; (try dsimp only at hSw); go_simp) (by assumption) ?_
        try simp only [Act.put, List.setIfInBounds_toArray, List.set_cons_zero, List.set_cons_succ]
        refine Hd.take 16 (some 72) (.bool true) rfl rfl (by kernel_rfl) (by kernel_rfl) (by kernel_rfl) (fun _ _ _ h => h) (by rfl) (by intro w hSw; (try dsimp only at hSw); go_simp) (by assumption) ?_
        try simp only [Act.put, List.setIfInBounds_toArray, List.set_cons_zero, List.set_cons_succ]
        refine Hd.skip 17 (some 73) rfl rfl (by kernel_rfl) (by kernel_rfl) (by kernel_rfl) (fun _ _ _ h => h) (by rfl) (by assumption) ?_
        try simp only [Act.put, List.setIfInBounds_toArray, List.set_cons_zero, List.set_cons_succ]
        refine Hd.skip 18 (some 74) rfl rfl (by kernel_rfl) (by kernel_rfl) (by kernel_rfl) (fun _ _ _ h => h) (by rfl) (by assumption) ?_
        try simp only [Act.put, List.setIfInBounds_toArray, List.set_cons_zero, List.set_cons_succ]
        refine Hd.skip 19 (some 75) rfl rfl (by kernel_rfl) (by kernel_rfl) (by kernel_rfl) (fun _ _ _ h => h) (by rfl) (by assumption) ?_
        try simp only [Act.put, List.setIfInBounds_toArray, List.set_cons_zero, List.set_cons_succ]
        refine Hd.skip 20 (some 76) rfl rfl (by kernel_rfl) (by kernel_rfl) (by kernel_rfl) (fun _ _ _ h => h) (by rfl) (by assumption) ?_
        try simp only [Act.put, List.setIfInBounds_toArray, List.set_cons_zero, List.set_cons_succ]
        refine Hd.skip 21 (some 77) rfl rfl (by kernel_rfl) (by kernel_rfl) (by kernel_rfl) (fun _ _ _ h => h) (by rfl) (by assumption) ?_
        try simp only [Act.put, List.setIfInBounds_toArray, List.set_cons_zero, List.set_cons_succ]
        refine Hd.skip 22 (some 78) rfl rfl (by kernel_rfl) (by kernel_rfl) (by kernel_rfl) (fun _ _ _ h => h) (by rfl) (by assumption) ?_
        try simp only [Act.put, List.setIfInBounds_toArray, List.set_cons_zero, List.set_cons_succ]
        refine Hd.take 23 (some 79) (.bool true) rfl rfl (by kernel_rfl) (by kernel_rfl) (by kernel_rfl) (fun _ _ _ h => h) (by rfl) (by intro w hSw; (try dsimp only at hSw); go_simp) (by assumption) ?_
        try simp only [Act.put, List.setIfInBounds_toArray, List.set_cons_zero, List.set_cons_succ]
        refine Hd.take 24 (some 80) (.bool true) rfl rfl (by kernel_rfl) (by kernel_rfl) (by kernel_rfl) (fun _ _ _ h => h) (by rfl) (by intro w hSw; (try dsimp only at hSw); go_simp) (by assumption) ?_
        try simp only [Act.put, List.setIfInBounds_toArray, List.set_cons_zero, List.set_cons_succ]
        refine Hd.skip 25 (some 81) rfl rfl (by kernel_rfl) (by kernel_rfl) (by kernel_rfl) (fun _ _ _ h => h) (by rfl) (by assumption) ?_
        try simp only [Act.put, List.setIfInBounds_toArray, List.set_cons_zero, List.set_cons_succ]
        refine Hd.skip 26 (some 82) rfl rfl (by kernel_rfl) (by kernel_rfl) (by kernel_rfl) (fun _ _ _ h => h) (by rfl) (by assumption) ?_
        try simp only [Act.put, List.setIfInBounds_toArray, List.set_cons_zero, List.set_cons_succ]
        refine Hd.skip 27 (some 83) rfl rfl (by kernel_rfl) (by kernel_rfl) (by kernel_rfl) (fun _ _ _ h => h) (by rfl) (by assumption) ?_
        try simp only [Act.put, List.setIfInBounds_toArray, List.set_cons_zero, List.set_cons_succ]
        refine Hd.skip 28 (some 84) rfl rfl (by kernel_rfl) (by kernel_rfl) (by kernel_rfl) (fun _ _ _ h => h) (by rfl) (by assumption) ?_
        try simp only [Act.put, List.setIfInBounds_toArray, List.set_cons_zero, List.set_cons_succ]
        refine Hd.skip 29 (some 85) rfl rfl (by kernel_rfl) (by kernel_rfl) (by kernel_rfl) (fun _ _ _ h => h) (by rfl) (by assumption) ?_
        try simp only [Act.put, List.setIfInBounds_toArray, List.set_cons_zero, List.set_cons_succ]
        refine Hd.skip 30 (some 86) rfl rfl (by kernel_rfl) (by kernel_rfl) (by kernel_rfl) (fun _ _ _ h => h) (by rfl) (by assumption) ?_
        try simp only [Act.put, List.setIfInBounds_toArray, List.set_cons_zero, List.set_cons_succ]
        refine Hd.skip 31 (some 87) rfl rfl (by kernel_rfl) (by kernel_rfl) (by kernel_rfl) (fun _ _ _ h => h) (by rfl) (by assumption) ?_
        try simp only [Act.put, List.setIfInBounds_toArray, List.set_cons_zero, List.set_cons_succ]
        refine Hd.take 32 (some 88) (.bool true) rfl rfl (by kernel_rfl) (by kernel_rfl) (by kernel_rfl) (fun _ _ _ h => h) (by rfl) (by intro w hSw; (try dsimp only at hSw); go_simp) (by assumption) ?_
        try simp only [Act.put, List.setIfInBounds_toArray, List.set_cons_zero, List.set_cons_succ]
        refine wpAnyH_done (by kernel_rfl) ?_ _
        all_goals
          go_wp2
          go_ret
          exact NO.out _ Z.out (R0.out.next B8.out).bel
      | true =>
        rw [hl] at LC
        obtain ⟨f, o1, o2, o3, o4, o5, o6, o7⟩ := Of.ok_all hl
        have LE : Hid (∀ wx, Below wi.heap.size wi wx → Calls Try.prog 64 #[.agg #[.int .i64 r.start, .int .i64 r.next, .int .i64 r.roll, .slice AS r.segs.length cS]] wx fun e w' => e = .returned (.int .i64 (lastE 0 (flatB r.segs))) ∧ Below wx.heap.size wx w') := fun wx bx => epoch_any _ (lg r) wx lo b (LA2.out.below (bx.mono hbi)) (Nat.le_trans hbi bx.size) VF.out.1.1 (by rw [Of.flat_count]; exact Nat.le_trans o7 (by omega))
        have KL := Seg.hid hl
        clear hl o1 o2 o3 o4 o5 o6 o7
        cases hm : inR r.start r.mark r.next with
        | false =>
          have Z := Seg.hid (ZR.out (by simp [repOk, hm]))
          have HM := Seg.hid hm
          clear hm
          refine wp_region_held_drew (S := (fun w' => w'.cell? ⟨wr.heap.size, 0, none⟩ = some (.int .i64 r.start) ∧ w'.cell? ⟨wr.heap.size, 1, none⟩ = some (.int .i64 r.next) ∧ w'.cell? ⟨wr.heap.size, 2, none⟩ = some (.int .i64 r.roll) ∧ w'.cell? ⟨wr.heap.size, 3, none⟩ = some (.slice AS r.segs.length cS) ∧ w'.cell? ⟨wr.heap.size, 4, none⟩ = some (.int .i64 r.mark) ∧ w'.cell? ⟨w.heap.size, 2, none⟩ = some (.int .i64 p.epoch) ∧ w'.cell? ⟨w.heap.size, 4, none⟩ = some (.slice (some ⟨gk, ok, none⟩) p.known.length c4) ∧ w'.cell? ⟨gk, ok + k, none⟩ = some (.int .i64 kn))) (by kernel_rfl) (ST.out _ (Below.refl _ _).drew) (fun hHeld => ?_)
          refine Hd.take 0 (some 56) (.pointer (some ⟨wr.heap.size, 0, none⟩)) rfl rfl (by kernel_rfl) (by kernel_rfl) (by kernel_rfl) (fun _ _ _ h => h) (by rfl) (by intro w hSw; (try dsimp only at hSw); go_simp) (by assumption) ?_
          try simp only [Act.put, List.setIfInBounds_toArray, List.set_cons_zero, List.set_cons_succ]
          refine Hd.take 1 (some 57) (.agg #[.int .i64 r.start, .int .i64 r.next, .int .i64 r.roll, .slice AS r.segs.length cS]) rfl rfl (by kernel_rfl) (by kernel_rfl) (by kernel_rfl) (fun _ _ _ h => h) (by rfl) (by intro w hSw; (try dsimp only at hSw); go_simp) (by assumption) ?_
          try simp only [Act.put, List.setIfInBounds_toArray, List.set_cons_zero, List.set_cons_succ]
          refine wpAnyH_ready (rs := [2]) (by kernel_rfl) (by simp) ?_
          refine AllReadyH.cons (o := { dst := some 58, op := Op.call { callee := Callee.value (Operand.func 22), args := #[Operand.tmp 57], argTypes := #[28] }, type := 4, pos := "l05_replica.go:30", after := #[{ on := 1, ground := Ground.data }], guard := none }) rfl (fun K hK => ?_) AllReadyH.nil
          (go_simp; go_at_call 22; refine (LC.out wi.drew (Below.refl _ _).drew).mono ?_; rintro e w8 ⟨rfl, b8⟩; have B8 : Hid (Below wi.heap.size wi w8) := ⟨b8.os, b8.tape, b8.output, b8.size, b8.block⟩; clear b8; try (go_wp2_with fail))
          refine hK.out _ _ (ST.out _ B8.out) (fun hHeld => ?_)
          clear hK K
          try simp only [Act.put, List.setIfInBounds_toArray, List.set_cons_zero, List.set_cons_succ]
          refine Hd.take 3 (some 59) (.bool false) rfl rfl (by kernel_rfl) (by kernel_rfl) (by kernel_rfl) (fun _ _ _ h => h) (by rfl) (by intro w hSw; (try dsimp only at hSw); go_simp) (by assumption) ?_
          try simp only [Act.put, List.setIfInBounds_toArray, List.set_cons_zero, List.set_cons_succ]
          refine Hd.take 4 (some 60) (.bool false) rfl rfl (by kernel_rfl) (by kernel_rfl) (by kernel_rfl) (fun _ _ _ h => h) (by rfl) (by intro w hSw; (try dsimp only at hSw); go_simp) (by assumption) ?_
          try simp only [Act.put, List.setIfInBounds_toArray, List.set_cons_zero, List.set_cons_succ]
          refine Hd.take 5 (some 61) (.pointer (some ⟨wr.heap.size, 4, none⟩)) rfl rfl (by kernel_rfl) (by kernel_rfl) (by kernel_rfl) (fun _ _ _ h => h) (by rfl) (by intro w hSw; (try dsimp only at hSw); go_simp) (by assumption) ?_
          try simp only [Act.put, List.setIfInBounds_toArray, List.set_cons_zero, List.set_cons_succ]
          refine Hd.take 6 (some 62) (.int .i64 r.mark) rfl rfl (by kernel_rfl) (by kernel_rfl) (by kernel_rfl) (fun _ _ _ h => h) (by rfl) (by intro w hSw; (try dsimp only at hSw); go_simp) (by assumption) ?_
          try simp only [Act.put, List.setIfInBounds_toArray, List.set_cons_zero, List.set_cons_succ]
          refine Hd.take 7 (some 63) (.pointer (some ⟨wr.heap.size, 0, none⟩)) rfl rfl (by kernel_rfl) (by kernel_rfl) (by kernel_rfl) (fun _ _ _ h => h) (by rfl) (by intro w hSw; (try dsimp only at hSw); go_simp) (by assumption) ?_
          try simp only [Act.put, List.setIfInBounds_toArray, List.set_cons_zero, List.set_cons_succ]
          refine Hd.take 8 (some 64) (.pointer (some ⟨wr.heap.size, 0, none⟩)) rfl rfl (by kernel_rfl) (by kernel_rfl) (by kernel_rfl) (fun _ _ _ h => h) (by rfl) (by intro w hSw; (try dsimp only at hSw); go_simp) (by assumption) ?_
          try simp only [Act.put, List.setIfInBounds_toArray, List.set_cons_zero, List.set_cons_succ]
          refine Hd.take 9 (some 65) (.int .i64 r.start) rfl rfl (by kernel_rfl) (by kernel_rfl) (by kernel_rfl) (fun _ _ _ h => h) (by rfl) (by intro w hSw; (try dsimp only at hSw); go_simp) (by assumption) ?_
          try simp only [Act.put, List.setIfInBounds_toArray, List.set_cons_zero, List.set_cons_succ]
          refine Hd.take 10 (some 66) (.pointer (some ⟨wr.heap.size, 0, none⟩)) rfl rfl (by kernel_rfl) (by kernel_rfl) (by kernel_rfl) (fun _ _ _ h => h) (by rfl) (by intro w hSw; (try dsimp only at hSw); go_simp) (by assumption) ?_
          try simp only [Act.put, List.setIfInBounds_toArray, List.set_cons_zero, List.set_cons_succ]
          refine Hd.take 11 (some 67) (.pointer (some ⟨wr.heap.size, 1, none⟩)) rfl rfl (by kernel_rfl) (by kernel_rfl) (by kernel_rfl) (fun _ _ _ h => h) (by rfl) (by intro w hSw; (try dsimp only at hSw); go_simp) (by assumption) ?_
          try simp only [Act.put, List.setIfInBounds_toArray, List.set_cons_zero, List.set_cons_succ]
          refine Hd.take 12 (some 68) (.int .i64 r.next) rfl rfl (by kernel_rfl) (by kernel_rfl) (by kernel_rfl) (fun _ _ _ h => h) (by rfl) (by intro w hSw; (try dsimp only at hSw); go_simp) (by assumption) ?_
          try simp only [Act.put, List.setIfInBounds_toArray, List.set_cons_zero, List.set_cons_succ]
          refine wpAnyH_ready (rs := [13]) (by kernel_rfl) (by simp) ?_
          refine AllReadyH.cons (o := { dst := some 69, op := Op.call { callee := Callee.value (Operand.func 23), args := #[Operand.tmp 62, Operand.tmp 65, Operand.tmp 68], argTypes := #[3, 3, 3] }, type := 4, pos := "l05_replica.go:30", after := #[{ on := 6, ground := Ground.data }, { on := 9, ground := Ground.data }, { on := 12, ground := Ground.data }, { on := 4, ground := Ground.chain }, { on := 4, ground := Ground.guard }], guard := some (4, false) }) rfl (fun K hK => ?_) AllReadyH.nil
          (go_simp; go_at_call 23; refine (InB.l1In_b _ _ _ false HM.out _).mono ?_; rintro e w9 ⟨rfl, rfl⟩; try (go_wp2_with fail))
          refine hK.out _ _ (ST.out _ B8.out) (fun hHeld => ?_)
          clear hK K
          try simp only [Act.put, List.setIfInBounds_toArray, List.set_cons_zero, List.set_cons_succ]
          refine Hd.take 14 (some 70) (.bool true) rfl rfl (by kernel_rfl) (by kernel_rfl) (by kernel_rfl) (fun _ _ _ h => h) (by rfl) (by intro w hSw; (try dsimp only at hSw); go_simp) (by assumption) ?_
          try simp only [Act.put, List.setIfInBounds_toArray, List.set_cons_zero, List.set_cons_succ]
          refine Hd.take 15 (some 71) (.bool true) rfl rfl (by kernel_rfl) (by kernel_rfl) (by kernel_rfl) (fun _ _ _ h => h) (by rfl) (by intro w hSw; (try dsimp only at hSw); go_simp) (by assumption) ?_
          try simp only [Act.put, List.setIfInBounds_toArray, List.set_cons_zero, List.set_cons_succ]
          refine Hd.take 16 (some 72) (.bool true) rfl rfl (by kernel_rfl) (by kernel_rfl) (by kernel_rfl) (fun _ _ _ h => h) (by rfl) (by intro w hSw; (try dsimp only at hSw); go_simp) (by assumption) ?_
          try simp only [Act.put, List.setIfInBounds_toArray, List.set_cons_zero, List.set_cons_succ]
          refine Hd.skip 17 (some 73) rfl rfl (by kernel_rfl) (by kernel_rfl) (by kernel_rfl) (fun _ _ _ h => h) (by rfl) (by assumption) ?_
          try simp only [Act.put, List.setIfInBounds_toArray, List.set_cons_zero, List.set_cons_succ]
          refine Hd.skip 18 (some 74) rfl rfl (by kernel_rfl) (by kernel_rfl) (by kernel_rfl) (fun _ _ _ h => h) (by rfl) (by assumption) ?_
          try simp only [Act.put, List.setIfInBounds_toArray, List.set_cons_zero, List.set_cons_succ]
          refine Hd.skip 19 (some 75) rfl rfl (by kernel_rfl) (by kernel_rfl) (by kernel_rfl) (fun _ _ _ h => h) (by rfl) (by assumption) ?_
          try simp only [Act.put, List.setIfInBounds_toArray, List.set_cons_zero, List.set_cons_succ]
          refine Hd.skip 20 (some 76) rfl rfl (by kernel_rfl) (by kernel_rfl) (by kernel_rfl) (fun _ _ _ h => h) (by rfl) (by assumption) ?_
          try simp only [Act.put, List.setIfInBounds_toArray, List.set_cons_zero, List.set_cons_succ]
          refine Hd.skip 21 (some 77) rfl rfl (by kernel_rfl) (by kernel_rfl) (by kernel_rfl) (fun _ _ _ h => h) (by rfl) (by assumption) ?_
          try simp only [Act.put, List.setIfInBounds_toArray, List.set_cons_zero, List.set_cons_succ]
          refine Hd.skip 22 (some 78) rfl rfl (by kernel_rfl) (by kernel_rfl) (by kernel_rfl) (fun _ _ _ h => h) (by rfl) (by assumption) ?_
          try simp only [Act.put, List.setIfInBounds_toArray, List.set_cons_zero, List.set_cons_succ]
          refine Hd.take 23 (some 79) (.bool true) rfl rfl (by kernel_rfl) (by kernel_rfl) (by kernel_rfl) (fun _ _ _ h => h) (by rfl) (by intro w hSw; (try dsimp only at hSw); go_simp) (by assumption) ?_
          try simp only [Act.put, List.setIfInBounds_toArray, List.set_cons_zero, List.set_cons_succ]
          refine Hd.take 24 (some 80) (.bool true) rfl rfl (by kernel_rfl) (by kernel_rfl) (by kernel_rfl) (fun _ _ _ h => h) (by rfl) (by intro w hSw; (try dsimp only at hSw); go_simp) (by assumption) ?_
          try simp only [Act.put, List.setIfInBounds_toArray, List.set_cons_zero, List.set_cons_succ]
          refine Hd.skip 25 (some 81) rfl rfl (by kernel_rfl) (by kernel_rfl) (by kernel_rfl) (fun _ _ _ h => h) (by rfl) (by assumption) ?_
          try simp only [Act.put, List.setIfInBounds_toArray, List.set_cons_zero, List.set_cons_succ]
          refine Hd.skip 26 (some 82) rfl rfl (by kernel_rfl) (by kernel_rfl) (by kernel_rfl) (fun _ _ _ h => h) (by rfl) (by assumption) ?_
          try simp only [Act.put, List.setIfInBounds_toArray, List.set_cons_zero, List.set_cons_succ]
          refine Hd.skip 27 (some 83) rfl rfl (by kernel_rfl) (by kernel_rfl) (by kernel_rfl) (fun _ _ _ h => h) (by rfl) (by assumption) ?_
          try simp only [Act.put, List.setIfInBounds_toArray, List.set_cons_zero, List.set_cons_succ]
          refine Hd.skip 28 (some 84) rfl rfl (by kernel_rfl) (by kernel_rfl) (by kernel_rfl) (fun _ _ _ h => h) (by rfl) (by assumption) ?_
          try simp only [Act.put, List.setIfInBounds_toArray, List.set_cons_zero, List.set_cons_succ]
          refine Hd.skip 29 (some 85) rfl rfl (by kernel_rfl) (by kernel_rfl) (by kernel_rfl) (fun _ _ _ h => h) (by rfl) (by assumption) ?_
          try simp only [Act.put, List.setIfInBounds_toArray, List.set_cons_zero, List.set_cons_succ]
          refine Hd.skip 30 (some 86) rfl rfl (by kernel_rfl) (by kernel_rfl) (by kernel_rfl) (fun _ _ _ h => h) (by rfl) (by assumption) ?_
          try simp only [Act.put, List.setIfInBounds_toArray, List.set_cons_zero, List.set_cons_succ]
          refine Hd.skip 31 (some 87) rfl rfl (by kernel_rfl) (by kernel_rfl) (by kernel_rfl) (fun _ _ _ h => h) (by rfl) (by assumption) ?_
          try simp only [Act.put, List.setIfInBounds_toArray, List.set_cons_zero, List.set_cons_succ]
          refine Hd.take 32 (some 88) (.bool true) rfl rfl (by kernel_rfl) (by kernel_rfl) (by kernel_rfl) (fun _ _ _ h => h) (by rfl) (by intro w hSw; (try dsimp only at hSw); go_simp) (by assumption) ?_
          try simp only [Act.put, List.setIfInBounds_toArray, List.set_cons_zero, List.set_cons_succ]
          refine wpAnyH_done (by kernel_rfl) ?_ _
          all_goals
            go_wp2
            go_ret
            exact NO.out _ Z.out (R0.out.next B8.out).bel
        | true =>
          have HM := Seg.hid hm
          clear hm
          obtain ⟨ee, hee⟩ : ∃ ee, lastE 0 (flatB r.segs) = ee := ⟨_, rfl⟩
          rw [hee] at LE
          have HEE := Seg.hid hee
          clear hee
          by_cases hgt : p.epoch < ee
          · have Z := Seg.hid (ZR.out (by simp [repOk, HEE.out, show ¬ ee ≤ p.epoch by omega]))
            have hg2 : decide (p.epoch < ee) = true := decide_eq_true hgt
            refine wp_region_held_drew (S := (fun w' => w'.cell? ⟨wr.heap.size, 0, none⟩ = some (.int .i64 r.start) ∧ w'.cell? ⟨wr.heap.size, 1, none⟩ = some (.int .i64 r.next) ∧ w'.cell? ⟨wr.heap.size, 2, none⟩ = some (.int .i64 r.roll) ∧ w'.cell? ⟨wr.heap.size, 3, none⟩ = some (.slice AS r.segs.length cS) ∧ w'.cell? ⟨wr.heap.size, 4, none⟩ = some (.int .i64 r.mark) ∧ w'.cell? ⟨w.heap.size, 2, none⟩ = some (.int .i64 p.epoch) ∧ w'.cell? ⟨w.heap.size, 4, none⟩ = some (.slice (some ⟨gk, ok, none⟩) p.known.length c4) ∧ w'.cell? ⟨gk, ok + k, none⟩ = some (.int .i64 kn))) (by kernel_rfl) (ST.out _ (Below.refl _ _).drew) (fun hHeld => ?_)
            refine Hd.take 0 (some 56) (.pointer (some ⟨wr.heap.size, 0, none⟩)) rfl rfl (by kernel_rfl) (by kernel_rfl) (by kernel_rfl) (fun _ _ _ h => h) (by rfl) (by intro w hSw; (try dsimp only at hSw); go_simp) (by assumption) ?_
            try simp only [Act.put, List.setIfInBounds_toArray, List.set_cons_zero, List.set_cons_succ]
            refine Hd.take 1 (some 57) (.agg #[.int .i64 r.start, .int .i64 r.next, .int .i64 r.roll, .slice AS r.segs.length cS]) rfl rfl (by kernel_rfl) (by kernel_rfl) (by kernel_rfl) (fun _ _ _ h => h) (by rfl) (by intro w hSw; (try dsimp only at hSw); go_simp) (by assumption) ?_
            try simp only [Act.put, List.setIfInBounds_toArray, List.set_cons_zero, List.set_cons_succ]
            refine wpAnyH_ready (rs := [2]) (by kernel_rfl) (by simp) ?_
            refine AllReadyH.cons (o := { dst := some 58, op := Op.call { callee := Callee.value (Operand.func 22), args := #[Operand.tmp 57], argTypes := #[28] }, type := 4, pos := "l05_replica.go:30", after := #[{ on := 1, ground := Ground.data }], guard := none }) rfl (fun K hK => ?_) AllReadyH.nil
            (go_simp; go_at_call 22; refine (LC.out wi.drew (Below.refl _ _).drew).mono ?_; rintro e w8 ⟨rfl, b8⟩; have B8 : Hid (Below wi.heap.size wi w8) := ⟨b8.os, b8.tape, b8.output, b8.size, b8.block⟩; clear b8; try (go_wp2_with fail))
            refine hK.out _ _ (ST.out _ B8.out) (fun hHeld => ?_)
            clear hK K
            try simp only [Act.put, List.setIfInBounds_toArray, List.set_cons_zero, List.set_cons_succ]
            refine Hd.take 3 (some 59) (.bool false) rfl rfl (by kernel_rfl) (by kernel_rfl) (by kernel_rfl) (fun _ _ _ h => h) (by rfl) (by intro w hSw; (try dsimp only at hSw); go_simp) (by assumption) ?_
            try simp only [Act.put, List.setIfInBounds_toArray, List.set_cons_zero, List.set_cons_succ]
            refine Hd.take 4 (some 60) (.bool false) rfl rfl (by kernel_rfl) (by kernel_rfl) (by kernel_rfl) (fun _ _ _ h => h) (by rfl) (by intro w hSw; (try dsimp only at hSw); go_simp) (by assumption) ?_
            try simp only [Act.put, List.setIfInBounds_toArray, List.set_cons_zero, List.set_cons_succ]
            refine Hd.take 5 (some 61) (.pointer (some ⟨wr.heap.size, 4, none⟩)) rfl rfl (by kernel_rfl) (by kernel_rfl) (by kernel_rfl) (fun _ _ _ h => h) (by rfl) (by intro w hSw; (try dsimp only at hSw); go_simp) (by assumption) ?_
            try simp only [Act.put, List.setIfInBounds_toArray, List.set_cons_zero, List.set_cons_succ]
            refine Hd.take 6 (some 62) (.int .i64 r.mark) rfl rfl (by kernel_rfl) (by kernel_rfl) (by kernel_rfl) (fun _ _ _ h => h) (by rfl) (by intro w hSw; (try dsimp only at hSw); go_simp) (by assumption) ?_
            try simp only [Act.put, List.setIfInBounds_toArray, List.set_cons_zero, List.set_cons_succ]
            refine Hd.take 7 (some 63) (.pointer (some ⟨wr.heap.size, 0, none⟩)) rfl rfl (by kernel_rfl) (by kernel_rfl) (by kernel_rfl) (fun _ _ _ h => h) (by rfl) (by intro w hSw; (try dsimp only at hSw); go_simp) (by assumption) ?_
            try simp only [Act.put, List.setIfInBounds_toArray, List.set_cons_zero, List.set_cons_succ]
            refine Hd.take 8 (some 64) (.pointer (some ⟨wr.heap.size, 0, none⟩)) rfl rfl (by kernel_rfl) (by kernel_rfl) (by kernel_rfl) (fun _ _ _ h => h) (by rfl) (by intro w hSw; (try dsimp only at hSw); go_simp) (by assumption) ?_
            try simp only [Act.put, List.setIfInBounds_toArray, List.set_cons_zero, List.set_cons_succ]
            refine Hd.take 9 (some 65) (.int .i64 r.start) rfl rfl (by kernel_rfl) (by kernel_rfl) (by kernel_rfl) (fun _ _ _ h => h) (by rfl) (by intro w hSw; (try dsimp only at hSw); go_simp) (by assumption) ?_
            try simp only [Act.put, List.setIfInBounds_toArray, List.set_cons_zero, List.set_cons_succ]
            refine Hd.take 10 (some 66) (.pointer (some ⟨wr.heap.size, 0, none⟩)) rfl rfl (by kernel_rfl) (by kernel_rfl) (by kernel_rfl) (fun _ _ _ h => h) (by rfl) (by intro w hSw; (try dsimp only at hSw); go_simp) (by assumption) ?_
            try simp only [Act.put, List.setIfInBounds_toArray, List.set_cons_zero, List.set_cons_succ]
            refine Hd.take 11 (some 67) (.pointer (some ⟨wr.heap.size, 1, none⟩)) rfl rfl (by kernel_rfl) (by kernel_rfl) (by kernel_rfl) (fun _ _ _ h => h) (by rfl) (by intro w hSw; (try dsimp only at hSw); go_simp) (by assumption) ?_
            try simp only [Act.put, List.setIfInBounds_toArray, List.set_cons_zero, List.set_cons_succ]
            refine Hd.take 12 (some 68) (.int .i64 r.next) rfl rfl (by kernel_rfl) (by kernel_rfl) (by kernel_rfl) (fun _ _ _ h => h) (by rfl) (by intro w hSw; (try dsimp only at hSw); go_simp) (by assumption) ?_
            try simp only [Act.put, List.setIfInBounds_toArray, List.set_cons_zero, List.set_cons_succ]
            refine wpAnyH_ready (rs := [13]) (by kernel_rfl) (by simp) ?_
            refine AllReadyH.cons (o := { dst := some 69, op := Op.call { callee := Callee.value (Operand.func 23), args := #[Operand.tmp 62, Operand.tmp 65, Operand.tmp 68], argTypes := #[3, 3, 3] }, type := 4, pos := "l05_replica.go:30", after := #[{ on := 6, ground := Ground.data }, { on := 9, ground := Ground.data }, { on := 12, ground := Ground.data }, { on := 4, ground := Ground.chain }, { on := 4, ground := Ground.guard }], guard := some (4, false) }) rfl (fun K hK => ?_) AllReadyH.nil
            (go_simp; go_at_call 23; refine (InB.l1In_b _ _ _ true HM.out _).mono ?_; rintro e w9 ⟨rfl, rfl⟩; try (go_wp2_with fail))
            refine hK.out _ _ (ST.out _ B8.out) (fun hHeld => ?_)
            clear hK K
            try simp only [Act.put, List.setIfInBounds_toArray, List.set_cons_zero, List.set_cons_succ]
            refine Hd.take 14 (some 70) (.bool false) rfl rfl (by kernel_rfl) (by kernel_rfl) (by kernel_rfl) (fun _ _ _ h => h) (by rfl) (by intro w hSw; (try dsimp only at hSw); go_simp) (by assumption) ?_
            try simp only [Act.put, List.setIfInBounds_toArray, List.set_cons_zero, List.set_cons_succ]
            refine Hd.take 15 (some 71) (.bool false) rfl rfl (by kernel_rfl) (by kernel_rfl) (by kernel_rfl) (fun _ _ _ h => h) (by rfl) (by intro w hSw; (try dsimp only at hSw); go_simp) (by assumption) ?_
            try simp only [Act.put, List.setIfInBounds_toArray, List.set_cons_zero, List.set_cons_succ]
            refine Hd.take 16 (some 72) (.bool false) rfl rfl (by kernel_rfl) (by kernel_rfl) (by kernel_rfl) (fun _ _ _ h => h) (by rfl) (by intro w hSw; (try dsimp only at hSw); go_simp) (by assumption) ?_
            try simp only [Act.put, List.setIfInBounds_toArray, List.set_cons_zero, List.set_cons_succ]
            refine Hd.take 17 (some 73) (.pointer (some ⟨wr.heap.size, 0, none⟩)) rfl rfl (by kernel_rfl) (by kernel_rfl) (by kernel_rfl) (fun _ _ _ h => h) (by rfl) (by intro w hSw; (try dsimp only at hSw); go_simp) (by assumption) ?_
            try simp only [Act.put, List.setIfInBounds_toArray, List.set_cons_zero, List.set_cons_succ]
            refine Hd.take 18 (some 74) (.agg #[.int .i64 r.start, .int .i64 r.next, .int .i64 r.roll, .slice AS r.segs.length cS]) rfl rfl (by kernel_rfl) (by kernel_rfl) (by kernel_rfl) (fun _ _ _ h => h) (by rfl) (by intro w hSw; (try dsimp only at hSw); go_simp) (by assumption) ?_
            try simp only [Act.put, List.setIfInBounds_toArray, List.set_cons_zero, List.set_cons_succ]
            refine Hd.take 20 (some 76) (.pointer (some ⟨w.heap.size, 2, none⟩)) rfl rfl (by kernel_rfl) (by kernel_rfl) (by kernel_rfl) (fun _ _ _ h => h) (by rfl) (by intro w hSw; (try dsimp only at hSw); go_simp) (by assumption) ?_
            try simp only [Act.put, List.setIfInBounds_toArray, List.set_cons_zero, List.set_cons_succ]
            refine Hd.take 21 (some 77) (.int .i64 p.epoch) rfl rfl (by kernel_rfl) (by kernel_rfl) (by kernel_rfl) (fun _ _ _ h => h) (by rfl) (by intro w hSw; (try dsimp only at hSw); go_simp) (by assumption) ?_
            try simp only [Act.put, List.setIfInBounds_toArray, List.set_cons_zero, List.set_cons_succ]
            refine wpAnyH_ready (rs := [19]) (by kernel_rfl) (by simp) ?_
            refine AllReadyH.cons (o := { dst := some 75, op := Op.call { callee := Callee.value (Operand.func 64), args := #[Operand.tmp 74], argTypes := #[28] }, type := 3, pos := "l05_replica.go:30", after := #[{ on := 18, ground := Ground.data }, { on := 16, ground := Ground.chain }, { on := 16, ground := Ground.guard }], guard := some (16, false) }) rfl (fun K hK => ?_) AllReadyH.nil
            (go_simp; go_at_call 64; refine (LE.out w8 B8.out).mono ?_; rintro e w10 ⟨rfl, b10⟩; have B10 := Seg.hid (chain B8.out b10); clear b10; try (go_wp2_with fail))
            refine hK.out _ _ (ST.out _ B10.out) (fun hHeld => ?_)
            clear hK K
            try simp only [Act.put, List.setIfInBounds_toArray, List.set_cons_zero, List.set_cons_succ]
            refine Hd.take 22 (some 78) (.bool true) rfl rfl (by kernel_rfl) (by kernel_rfl) (by kernel_rfl) (fun _ _ _ h => h) (by rfl) (by intro w hSw; (try dsimp only at hSw); go_simp) (by assumption) ?_
            try simp only [Act.put, List.setIfInBounds_toArray, List.set_cons_zero, List.set_cons_succ]
            refine Hd.take 23 (some 79) (.bool true) rfl rfl (by kernel_rfl) (by kernel_rfl) (by kernel_rfl) (fun _ _ _ h => h) (by rfl) (by intro w hSw; (try dsimp only at hSw); go_simp) (by assumption) ?_
            try simp only [Act.put, List.setIfInBounds_toArray, List.set_cons_zero, List.set_cons_succ]
            refine Hd.take 24 (some 80) (.bool true) rfl rfl (by kernel_rfl) (by kernel_rfl) (by kernel_rfl) (fun _ _ _ h => h) (by rfl) (by intro w hSw; (try dsimp only at hSw); go_simp) (by assumption) ?_
            try simp only [Act.put, List.setIfInBounds_toArray, List.set_cons_zero, List.set_cons_succ]
            refine Hd.skip 25 (some 81) rfl rfl (by kernel_rfl) (by kernel_rfl) (by kernel_rfl) (fun _ _ _ h => h) (by rfl) (by assumption) ?_
            try simp only [Act.put, List.setIfInBounds_toArray, List.set_cons_zero, List.set_cons_succ]
            refine Hd.skip 26 (some 82) rfl rfl (by kernel_rfl) (by kernel_rfl) (by kernel_rfl) (fun _ _ _ h => h) (by rfl) (by assumption) ?_
            try simp only [Act.put, List.setIfInBounds_toArray, List.set_cons_zero, List.set_cons_succ]
            refine Hd.skip 27 (some 83) rfl rfl (by kernel_rfl) (by kernel_rfl) (by kernel_rfl) (fun _ _ _ h => h) (by rfl) (by assumption) ?_
            try simp only [Act.put, List.setIfInBounds_toArray, List.set_cons_zero, List.set_cons_succ]
            refine Hd.skip 28 (some 84) rfl rfl (by kernel_rfl) (by kernel_rfl) (by kernel_rfl) (fun _ _ _ h => h) (by rfl) (by assumption) ?_
            try simp only [Act.put, List.setIfInBounds_toArray, List.set_cons_zero, List.set_cons_succ]
            refine Hd.skip 29 (some 85) rfl rfl (by kernel_rfl) (by kernel_rfl) (by kernel_rfl) (fun _ _ _ h => h) (by rfl) (by assumption) ?_
            try simp only [Act.put, List.setIfInBounds_toArray, List.set_cons_zero, List.set_cons_succ]
            refine Hd.skip 30 (some 86) rfl rfl (by kernel_rfl) (by kernel_rfl) (by kernel_rfl) (fun _ _ _ h => h) (by rfl) (by assumption) ?_
            try simp only [Act.put, List.setIfInBounds_toArray, List.set_cons_zero, List.set_cons_succ]
            refine Hd.skip 31 (some 87) rfl rfl (by kernel_rfl) (by kernel_rfl) (by kernel_rfl) (fun _ _ _ h => h) (by rfl) (by assumption) ?_
            try simp only [Act.put, List.setIfInBounds_toArray, List.set_cons_zero, List.set_cons_succ]
            refine Hd.take 32 (some 88) (.bool true) rfl rfl (by kernel_rfl) (by kernel_rfl) (by kernel_rfl) (fun _ _ _ h => h) (by rfl) (by intro w hSw; (try dsimp only at hSw); go_simp) (by assumption) ?_
            try simp only [Act.put, List.setIfInBounds_toArray, List.set_cons_zero, List.set_cons_succ]
            refine wpAnyH_done (by kernel_rfl) ?_ _
            all_goals
              go_wp2
              go_ret
              exact NO.out _ Z.out (R0.out.next B10.out).bel
          · have HE : Hid (reps p.epoch (p.reps.drop (k + 1)) = reps p.epoch p.reps) := by show _ = _; rw [← HD'.out]; simp [reps, repOk, KL.out, HM.out, HEE.out, show ee ≤ p.epoch by omega]
            have hg2 : decide (p.epoch < ee) = false := decide_eq_false hgt
            cases hkn : inR 0 kn 1000000000 with
            | false =>
              have Z := Seg.hid (ZK.out hkn)
              have HK2 := Seg.hid hkn
              clear hkn
              refine wp_region_held_drew (S := (fun w' => w'.cell? ⟨wr.heap.size, 0, none⟩ = some (.int .i64 r.start) ∧ w'.cell? ⟨wr.heap.size, 1, none⟩ = some (.int .i64 r.next) ∧ w'.cell? ⟨wr.heap.size, 2, none⟩ = some (.int .i64 r.roll) ∧ w'.cell? ⟨wr.heap.size, 3, none⟩ = some (.slice AS r.segs.length cS) ∧ w'.cell? ⟨wr.heap.size, 4, none⟩ = some (.int .i64 r.mark) ∧ w'.cell? ⟨w.heap.size, 2, none⟩ = some (.int .i64 p.epoch) ∧ w'.cell? ⟨w.heap.size, 4, none⟩ = some (.slice (some ⟨gk, ok, none⟩) p.known.length c4) ∧ w'.cell? ⟨gk, ok + k, none⟩ = some (.int .i64 kn))) (by kernel_rfl) (ST.out _ (Below.refl _ _).drew) (fun hHeld => ?_)
              refine Hd.take 0 (some 56) (.pointer (some ⟨wr.heap.size, 0, none⟩)) rfl rfl (by kernel_rfl) (by kernel_rfl) (by kernel_rfl) (fun _ _ _ h => h) (by rfl) (by intro w hSw; (try dsimp only at hSw); go_simp) (by assumption) ?_
              try simp only [Act.put, List.setIfInBounds_toArray, List.set_cons_zero, List.set_cons_succ]
              refine Hd.take 1 (some 57) (.agg #[.int .i64 r.start, .int .i64 r.next, .int .i64 r.roll, .slice AS r.segs.length cS]) rfl rfl (by kernel_rfl) (by kernel_rfl) (by kernel_rfl) (fun _ _ _ h => h) (by rfl) (by intro w hSw; (try dsimp only at hSw); go_simp) (by assumption) ?_
              try simp only [Act.put, List.setIfInBounds_toArray, List.set_cons_zero, List.set_cons_succ]
              refine wpAnyH_ready (rs := [2]) (by kernel_rfl) (by simp) ?_
              refine AllReadyH.cons (o := { dst := some 58, op := Op.call { callee := Callee.value (Operand.func 22), args := #[Operand.tmp 57], argTypes := #[28] }, type := 4, pos := "l05_replica.go:30", after := #[{ on := 1, ground := Ground.data }], guard := none }) rfl (fun K hK => ?_) AllReadyH.nil
              (go_simp; go_at_call 22; refine (LC.out wi.drew (Below.refl _ _).drew).mono ?_; rintro e w8 ⟨rfl, b8⟩; have B8 : Hid (Below wi.heap.size wi w8) := ⟨b8.os, b8.tape, b8.output, b8.size, b8.block⟩; clear b8; try (go_wp2_with fail))
              refine hK.out _ _ (ST.out _ B8.out) (fun hHeld => ?_)
              clear hK K
              try simp only [Act.put, List.setIfInBounds_toArray, List.set_cons_zero, List.set_cons_succ]
              refine Hd.take 3 (some 59) (.bool false) rfl rfl (by kernel_rfl) (by kernel_rfl) (by kernel_rfl) (fun _ _ _ h => h) (by rfl) (by intro w hSw; (try dsimp only at hSw); go_simp) (by assumption) ?_
              try simp only [Act.put, List.setIfInBounds_toArray, List.set_cons_zero, List.set_cons_succ]
              refine Hd.take 4 (some 60) (.bool false) rfl rfl (by kernel_rfl) (by kernel_rfl) (by kernel_rfl) (fun _ _ _ h => h) (by rfl) (by intro w hSw; (try dsimp only at hSw); go_simp) (by assumption) ?_
              try simp only [Act.put, List.setIfInBounds_toArray, List.set_cons_zero, List.set_cons_succ]
              refine Hd.take 5 (some 61) (.pointer (some ⟨wr.heap.size, 4, none⟩)) rfl rfl (by kernel_rfl) (by kernel_rfl) (by kernel_rfl) (fun _ _ _ h => h) (by rfl) (by intro w hSw; (try dsimp only at hSw); go_simp) (by assumption) ?_
              try simp only [Act.put, List.setIfInBounds_toArray, List.set_cons_zero, List.set_cons_succ]
              refine Hd.take 6 (some 62) (.int .i64 r.mark) rfl rfl (by kernel_rfl) (by kernel_rfl) (by kernel_rfl) (fun _ _ _ h => h) (by rfl) (by intro w hSw; (try dsimp only at hSw); go_simp) (by assumption) ?_
              try simp only [Act.put, List.setIfInBounds_toArray, List.set_cons_zero, List.set_cons_succ]
              refine Hd.take 7 (some 63) (.pointer (some ⟨wr.heap.size, 0, none⟩)) rfl rfl (by kernel_rfl) (by kernel_rfl) (by kernel_rfl) (fun _ _ _ h => h) (by rfl) (by intro w hSw; (try dsimp only at hSw); go_simp) (by assumption) ?_
              try simp only [Act.put, List.setIfInBounds_toArray, List.set_cons_zero, List.set_cons_succ]
              refine Hd.take 8 (some 64) (.pointer (some ⟨wr.heap.size, 0, none⟩)) rfl rfl (by kernel_rfl) (by kernel_rfl) (by kernel_rfl) (fun _ _ _ h => h) (by rfl) (by intro w hSw; (try dsimp only at hSw); go_simp) (by assumption) ?_
              try simp only [Act.put, List.setIfInBounds_toArray, List.set_cons_zero, List.set_cons_succ]
              refine Hd.take 9 (some 65) (.int .i64 r.start) rfl rfl (by kernel_rfl) (by kernel_rfl) (by kernel_rfl) (fun _ _ _ h => h) (by rfl) (by intro w hSw; (try dsimp only at hSw); go_simp) (by assumption) ?_
              try simp only [Act.put, List.setIfInBounds_toArray, List.set_cons_zero, List.set_cons_succ]
              refine Hd.take 10 (some 66) (.pointer (some ⟨wr.heap.size, 0, none⟩)) rfl rfl (by kernel_rfl) (by kernel_rfl) (by kernel_rfl) (fun _ _ _ h => h) (by rfl) (by intro w hSw; (try dsimp only at hSw); go_simp) (by assumption) ?_
              try simp only [Act.put, List.setIfInBounds_toArray, List.set_cons_zero, List.set_cons_succ]
              refine Hd.take 11 (some 67) (.pointer (some ⟨wr.heap.size, 1, none⟩)) rfl rfl (by kernel_rfl) (by kernel_rfl) (by kernel_rfl) (fun _ _ _ h => h) (by rfl) (by intro w hSw; (try dsimp only at hSw); go_simp) (by assumption) ?_
              try simp only [Act.put, List.setIfInBounds_toArray, List.set_cons_zero, List.set_cons_succ]
              refine Hd.take 12 (some 68) (.int .i64 r.next) rfl rfl (by kernel_rfl) (by kernel_rfl) (by kernel_rfl) (fun _ _ _ h => h) (by rfl) (by intro w hSw; (try dsimp only at hSw); go_simp) (by assumption) ?_
              try simp only [Act.put, List.setIfInBounds_toArray, List.set_cons_zero, List.set_cons_succ]
              refine wpAnyH_ready (rs := [13]) (by kernel_rfl) (by simp) ?_
              refine AllReadyH.cons (o := { dst := some 69, op := Op.call { callee := Callee.value (Operand.func 23), args := #[Operand.tmp 62, Operand.tmp 65, Operand.tmp 68], argTypes := #[3, 3, 3] }, type := 4, pos := "l05_replica.go:30", after := #[{ on := 6, ground := Ground.data }, { on := 9, ground := Ground.data }, { on := 12, ground := Ground.data }, { on := 4, ground := Ground.chain }, { on := 4, ground := Ground.guard }], guard := some (4, false) }) rfl (fun K hK => ?_) AllReadyH.nil
              (go_simp; go_at_call 23; refine (InB.l1In_b _ _ _ true HM.out _).mono ?_; rintro e w9 ⟨rfl, rfl⟩; try (go_wp2_with fail))
              refine hK.out _ _ (ST.out _ B8.out) (fun hHeld => ?_)
              clear hK K
              try simp only [Act.put, List.setIfInBounds_toArray, List.set_cons_zero, List.set_cons_succ]
              refine Hd.take 14 (some 70) (.bool false) rfl rfl (by kernel_rfl) (by kernel_rfl) (by kernel_rfl) (fun _ _ _ h => h) (by rfl) (by intro w hSw; (try dsimp only at hSw); go_simp) (by assumption) ?_
              try simp only [Act.put, List.setIfInBounds_toArray, List.set_cons_zero, List.set_cons_succ]
              refine Hd.take 15 (some 71) (.bool false) rfl rfl (by kernel_rfl) (by kernel_rfl) (by kernel_rfl) (fun _ _ _ h => h) (by rfl) (by intro w hSw; (try dsimp only at hSw); go_simp) (by assumption) ?_
              try simp only [Act.put, List.setIfInBounds_toArray, List.set_cons_zero, List.set_cons_succ]
              refine Hd.take 16 (some 72) (.bool false) rfl rfl (by kernel_rfl) (by kernel_rfl) (by kernel_rfl) (fun _ _ _ h => h) (by rfl) (by intro w hSw; (try dsimp only at hSw); go_simp) (by assumption) ?_
              try simp only [Act.put, List.setIfInBounds_toArray, List.set_cons_zero, List.set_cons_succ]
              refine Hd.take 17 (some 73) (.pointer (some ⟨wr.heap.size, 0, none⟩)) rfl rfl (by kernel_rfl) (by kernel_rfl) (by kernel_rfl) (fun _ _ _ h => h) (by rfl) (by intro w hSw; (try dsimp only at hSw); go_simp) (by assumption) ?_
              try simp only [Act.put, List.setIfInBounds_toArray, List.set_cons_zero, List.set_cons_succ]
              refine Hd.take 18 (some 74) (.agg #[.int .i64 r.start, .int .i64 r.next, .int .i64 r.roll, .slice AS r.segs.length cS]) rfl rfl (by kernel_rfl) (by kernel_rfl) (by kernel_rfl) (fun _ _ _ h => h) (by rfl) (by intro w hSw; (try dsimp only at hSw); go_simp) (by assumption) ?_
              try simp only [Act.put, List.setIfInBounds_toArray, List.set_cons_zero, List.set_cons_succ]
              refine Hd.take 20 (some 76) (.pointer (some ⟨w.heap.size, 2, none⟩)) rfl rfl (by kernel_rfl) (by kernel_rfl) (by kernel_rfl) (fun _ _ _ h => h) (by rfl) (by intro w hSw; (try dsimp only at hSw); go_simp) (by assumption) ?_
              try simp only [Act.put, List.setIfInBounds_toArray, List.set_cons_zero, List.set_cons_succ]
              refine Hd.take 21 (some 77) (.int .i64 p.epoch) rfl rfl (by kernel_rfl) (by kernel_rfl) (by kernel_rfl) (fun _ _ _ h => h) (by rfl) (by intro w hSw; (try dsimp only at hSw); go_simp) (by assumption) ?_
              try simp only [Act.put, List.setIfInBounds_toArray, List.set_cons_zero, List.set_cons_succ]
              refine wpAnyH_ready (rs := [19]) (by kernel_rfl) (by simp) ?_
              refine AllReadyH.cons (o := { dst := some 75, op := Op.call { callee := Callee.value (Operand.func 64), args := #[Operand.tmp 74], argTypes := #[28] }, type := 3, pos := "l05_replica.go:30", after := #[{ on := 18, ground := Ground.data }, { on := 16, ground := Ground.chain }, { on := 16, ground := Ground.guard }], guard := some (16, false) }) rfl (fun K hK => ?_) AllReadyH.nil
              (go_simp; go_at_call 64; refine (LE.out w8 B8.out).mono ?_; rintro e w10 ⟨rfl, b10⟩; have B10 := Seg.hid (chain B8.out b10); clear b10; try (go_wp2_with fail))
              refine hK.out _ _ (ST.out _ B10.out) (fun hHeld => ?_)
              clear hK K
              try simp only [Act.put, List.setIfInBounds_toArray, List.set_cons_zero, List.set_cons_succ]
              refine Hd.take 22 (some 78) (.bool false) rfl rfl (by kernel_rfl) (by kernel_rfl) (by kernel_rfl) (fun _ _ _ h => h) (by rfl) (by intro w hSw; (try dsimp only at hSw); go_simp) (by assumption) ?_
              try simp only [Act.put, List.setIfInBounds_toArray, List.set_cons_zero, List.set_cons_succ]
              refine Hd.take 23 (some 79) (.bool false) rfl rfl (by kernel_rfl) (by kernel_rfl) (by kernel_rfl) (fun _ _ _ h => h) (by rfl) (by intro w hSw; (try dsimp only at hSw); go_simp) (by assumption) ?_
              try simp only [Act.put, List.setIfInBounds_toArray, List.set_cons_zero, List.set_cons_succ]
              refine Hd.take 24 (some 80) (.bool false) rfl rfl (by kernel_rfl) (by kernel_rfl) (by kernel_rfl) (fun _ _ _ h => h) (by rfl) (by intro w hSw; (try dsimp only at hSw); go_simp) (by assumption) ?_
              try simp only [Act.put, List.setIfInBounds_toArray, List.set_cons_zero, List.set_cons_succ]
              refine Hd.take 25 (some 81) (.pointer (some ⟨w.heap.size, 4, none⟩)) rfl rfl (by kernel_rfl) (by kernel_rfl) (by kernel_rfl) (fun _ _ _ h => h) (by rfl) (by intro w hSw; (try dsimp only at hSw); go_simp) (by assumption) ?_
              try simp only [Act.put, List.setIfInBounds_toArray, List.set_cons_zero, List.set_cons_succ]
              refine Hd.take 26 (some 82) (.slice (some ⟨gk, ok, none⟩) p.known.length c4) rfl rfl (by kernel_rfl) (by kernel_rfl) (by kernel_rfl) (fun _ _ _ h => h) (by rfl) (by intro w hSw; (try dsimp only at hSw); go_simp) (by assumption) ?_
              try simp only [Act.put, List.setIfInBounds_toArray, List.set_cons_zero, List.set_cons_succ]
              refine Hd.take 27 (some 83) (.int .i64 k) rfl rfl (by kernel_rfl) (by kernel_rfl) (by kernel_rfl) (fun _ _ _ h => h) (by rfl) (by intro w hSw; (try dsimp only at hSw); go_simp) (by assumption) ?_
              try simp only [Act.put, List.setIfInBounds_toArray, List.set_cons_zero, List.set_cons_succ]
              refine Hd.take 28 (some 84) (.pointer (some ⟨gk, ok + k, none⟩)) rfl rfl (by kernel_rfl) (by kernel_rfl) (by kernel_rfl) (fun _ _ _ h => h) (by rfl) (by intro w hSw; (try dsimp only at hSw); go_simp) (by assumption) ?_
              try simp only [Act.put, List.setIfInBounds_toArray, List.set_cons_zero, List.set_cons_succ]
              refine Hd.take 29 (some 85) (.int .i64 kn) rfl rfl (by kernel_rfl) (by kernel_rfl) (by kernel_rfl) (fun _ _ _ h => h) (by rfl) (by intro w hSw; (try dsimp only at hSw); go_simp) (by assumption) ?_
              try simp only [Act.put, List.setIfInBounds_toArray, List.set_cons_zero, List.set_cons_succ]
              refine wpAnyH_ready (rs := [30]) (by kernel_rfl) (by simp) ?_
              refine AllReadyH.cons (o := { dst := some 86, op := Op.call { callee := Callee.value (Operand.func 23), args := #[Operand.tmp 85, Operand.const (Value.int IntKind.i64 0), Operand.const (Value.int IntKind.i64 1000000000)], argTypes := #[3, 3, 3] }, type := 4, pos := "l05_replica.go:30", after := #[{ on := 29, ground := Ground.data }, { on := 24, ground := Ground.chain }, { on := 24, ground := Ground.guard }], guard := some (24, false) }) rfl (fun K hK => ?_) AllReadyH.nil
              (go_simp; go_at_call 23; refine (InB.l1In_b _ _ _ false HK2.out _).mono ?_; rintro e w11 ⟨rfl, rfl⟩; try (go_wp2_with fail))
              refine hK.out _ _ (ST.out _ B10.out) (fun hHeld => ?_)
              clear hK K
              try simp only [Act.put, List.setIfInBounds_toArray, List.set_cons_zero, List.set_cons_succ]
              refine Hd.take 31 (some 87) (.bool true) rfl rfl (by kernel_rfl) (by kernel_rfl) (by kernel_rfl) (fun _ _ _ h => h) (by rfl) (by intro w hSw; (try dsimp only at hSw); go_simp) (by assumption) ?_
              try simp only [Act.put, List.setIfInBounds_toArray, List.set_cons_zero, List.set_cons_succ]
              refine Hd.take 32 (some 88) (.bool true) rfl rfl (by kernel_rfl) (by kernel_rfl) (by kernel_rfl) (fun _ _ _ h => h) (by rfl) (by intro w hSw; (try dsimp only at hSw); go_simp) (by assumption) ?_
              try simp only [Act.put, List.setIfInBounds_toArray, List.set_cons_zero, List.set_cons_succ]
              refine wpAnyH_done (by kernel_rfl) ?_ _
              all_goals
                go_wp2
                go_ret
                exact NO.out _ Z.out (R0.out.next B10.out).bel
            | true =>
              have HH : Hid (allIn 1000000000 (p.known.drop (k + 1)) = allIn 1000000000 p.known) := by show _ = _; rw [← HG'.out]; simp [allIn, hkn]
              have HK2 := Seg.hid hkn
              clear hkn
              refine wp_region_held_drew (S := (fun w' => w'.cell? ⟨wr.heap.size, 0, none⟩ = some (.int .i64 r.start) ∧ w'.cell? ⟨wr.heap.size, 1, none⟩ = some (.int .i64 r.next) ∧ w'.cell? ⟨wr.heap.size, 2, none⟩ = some (.int .i64 r.roll) ∧ w'.cell? ⟨wr.heap.size, 3, none⟩ = some (.slice AS r.segs.length cS) ∧ w'.cell? ⟨wr.heap.size, 4, none⟩ = some (.int .i64 r.mark) ∧ w'.cell? ⟨w.heap.size, 2, none⟩ = some (.int .i64 p.epoch) ∧ w'.cell? ⟨w.heap.size, 4, none⟩ = some (.slice (some ⟨gk, ok, none⟩) p.known.length c4) ∧ w'.cell? ⟨gk, ok + k, none⟩ = some (.int .i64 kn))) (by kernel_rfl) (ST.out _ (Below.refl _ _).drew) (fun hHeld => ?_)
              refine Hd.take 0 (some 56) (.pointer (some ⟨wr.heap.size, 0, none⟩)) rfl rfl (by kernel_rfl) (by kernel_rfl) (by kernel_rfl) (fun _ _ _ h => h) (by rfl) (by intro w hSw; (try dsimp only at hSw); go_simp) (by assumption) ?_
              try simp only [Act.put, List.setIfInBounds_toArray, List.set_cons_zero, List.set_cons_succ]
              refine Hd.take 1 (some 57) (.agg #[.int .i64 r.start, .int .i64 r.next, .int .i64 r.roll, .slice AS r.segs.length cS]) rfl rfl (by kernel_rfl) (by kernel_rfl) (by kernel_rfl) (fun _ _ _ h => h) (by rfl) (by intro w hSw; (try dsimp only at hSw); go_simp) (by assumption) ?_
              try simp only [Act.put, List.setIfInBounds_toArray, List.set_cons_zero, List.set_cons_succ]
              refine wpAnyH_ready (rs := [2]) (by kernel_rfl) (by simp) ?_
              refine AllReadyH.cons (o := { dst := some 58, op := Op.call { callee := Callee.value (Operand.func 22), args := #[Operand.tmp 57], argTypes := #[28] }, type := 4, pos := "l05_replica.go:30", after := #[{ on := 1, ground := Ground.data }], guard := none }) rfl (fun K hK => ?_) AllReadyH.nil
              (go_simp; go_at_call 22; refine (LC.out wi.drew (Below.refl _ _).drew).mono ?_; rintro e w8 ⟨rfl, b8⟩; have B8 : Hid (Below wi.heap.size wi w8) := ⟨b8.os, b8.tape, b8.output, b8.size, b8.block⟩; clear b8; try (go_wp2_with fail))
              refine hK.out _ _ (ST.out _ B8.out) (fun hHeld => ?_)
              clear hK K
              try simp only [Act.put, List.setIfInBounds_toArray, List.set_cons_zero, List.set_cons_succ]
              refine Hd.take 3 (some 59) (.bool false) rfl rfl (by kernel_rfl) (by kernel_rfl) (by kernel_rfl) (fun _ _ _ h => h) (by rfl) (by intro w hSw; (try dsimp only at hSw); go_simp) (by assumption) ?_
              try simp only [Act.put, List.setIfInBounds_toArray, List.set_cons_zero, List.set_cons_succ]
              refine Hd.take 4 (some 60) (.bool false) rfl rfl (by kernel_rfl) (by kernel_rfl) (by kernel_rfl) (fun _ _ _ h => h) (by rfl) (by intro w hSw; (try dsimp only at hSw); go_simp) (by assumption) ?_
              try simp only [Act.put, List.setIfInBounds_toArray, List.set_cons_zero, List.set_cons_succ]
              refine Hd.take 5 (some 61) (.pointer (some ⟨wr.heap.size, 4, none⟩)) rfl rfl (by kernel_rfl) (by kernel_rfl) (by kernel_rfl) (fun _ _ _ h => h) (by rfl) (by intro w hSw; (try dsimp only at hSw); go_simp) (by assumption) ?_
              try simp only [Act.put, List.setIfInBounds_toArray, List.set_cons_zero, List.set_cons_succ]
              refine Hd.take 6 (some 62) (.int .i64 r.mark) rfl rfl (by kernel_rfl) (by kernel_rfl) (by kernel_rfl) (fun _ _ _ h => h) (by rfl) (by intro w hSw; (try dsimp only at hSw); go_simp) (by assumption) ?_
              try simp only [Act.put, List.setIfInBounds_toArray, List.set_cons_zero, List.set_cons_succ]
              refine Hd.take 7 (some 63) (.pointer (some ⟨wr.heap.size, 0, none⟩)) rfl rfl (by kernel_rfl) (by kernel_rfl) (by kernel_rfl) (fun _ _ _ h => h) (by rfl) (by intro w hSw; (try dsimp only at hSw); go_simp) (by assumption) ?_
              try simp only [Act.put, List.setIfInBounds_toArray, List.set_cons_zero, List.set_cons_succ]
              refine Hd.take 8 (some 64) (.pointer (some ⟨wr.heap.size, 0, none⟩)) rfl rfl (by kernel_rfl) (by kernel_rfl) (by kernel_rfl) (fun _ _ _ h => h) (by rfl) (by intro w hSw; (try dsimp only at hSw); go_simp) (by assumption) ?_
              try simp only [Act.put, List.setIfInBounds_toArray, List.set_cons_zero, List.set_cons_succ]
              refine Hd.take 9 (some 65) (.int .i64 r.start) rfl rfl (by kernel_rfl) (by kernel_rfl) (by kernel_rfl) (fun _ _ _ h => h) (by rfl) (by intro w hSw; (try dsimp only at hSw); go_simp) (by assumption) ?_
              try simp only [Act.put, List.setIfInBounds_toArray, List.set_cons_zero, List.set_cons_succ]
              refine Hd.take 10 (some 66) (.pointer (some ⟨wr.heap.size, 0, none⟩)) rfl rfl (by kernel_rfl) (by kernel_rfl) (by kernel_rfl) (fun _ _ _ h => h) (by rfl) (by intro w hSw; (try dsimp only at hSw); go_simp) (by assumption) ?_
              try simp only [Act.put, List.setIfInBounds_toArray, List.set_cons_zero, List.set_cons_succ]
              refine Hd.take 11 (some 67) (.pointer (some ⟨wr.heap.size, 1, none⟩)) rfl rfl (by kernel_rfl) (by kernel_rfl) (by kernel_rfl) (fun _ _ _ h => h) (by rfl) (by intro w hSw; (try dsimp only at hSw); go_simp) (by assumption) ?_
              try simp only [Act.put, List.setIfInBounds_toArray, List.set_cons_zero, List.set_cons_succ]
              refine Hd.take 12 (some 68) (.int .i64 r.next) rfl rfl (by kernel_rfl) (by kernel_rfl) (by kernel_rfl) (fun _ _ _ h => h) (by rfl) (by intro w hSw; (try dsimp only at hSw); go_simp) (by assumption) ?_
              try simp only [Act.put, List.setIfInBounds_toArray, List.set_cons_zero, List.set_cons_succ]
              refine wpAnyH_ready (rs := [13]) (by kernel_rfl) (by simp) ?_
              refine AllReadyH.cons (o := { dst := some 69, op := Op.call { callee := Callee.value (Operand.func 23), args := #[Operand.tmp 62, Operand.tmp 65, Operand.tmp 68], argTypes := #[3, 3, 3] }, type := 4, pos := "l05_replica.go:30", after := #[{ on := 6, ground := Ground.data }, { on := 9, ground := Ground.data }, { on := 12, ground := Ground.data }, { on := 4, ground := Ground.chain }, { on := 4, ground := Ground.guard }], guard := some (4, false) }) rfl (fun K hK => ?_) AllReadyH.nil
              (go_simp; go_at_call 23; refine (InB.l1In_b _ _ _ true HM.out _).mono ?_; rintro e w9 ⟨rfl, rfl⟩; try (go_wp2_with fail))
              refine hK.out _ _ (ST.out _ B8.out) (fun hHeld => ?_)
              clear hK K
              try simp only [Act.put, List.setIfInBounds_toArray, List.set_cons_zero, List.set_cons_succ]
              refine Hd.take 14 (some 70) (.bool false) rfl rfl (by kernel_rfl) (by kernel_rfl) (by kernel_rfl) (fun _ _ _ h => h) (by rfl) (by intro w hSw; (try dsimp only at hSw); go_simp) (by assumption) ?_
              try simp only [Act.put, List.setIfInBounds_toArray, List.set_cons_zero, List.set_cons_succ]
              refine Hd.take 15 (some 71) (.bool false) rfl rfl (by kernel_rfl) (by kernel_rfl) (by kernel_rfl) (fun _ _ _ h => h) (by rfl) (by intro w hSw; (try dsimp only at hSw); go_simp) (by assumption) ?_
              try simp only [Act.put, List.setIfInBounds_toArray, List.set_cons_zero, List.set_cons_succ]
              refine Hd.take 16 (some 72) (.bool false) rfl rfl (by kernel_rfl) (by kernel_rfl) (by kernel_rfl) (fun _ _ _ h => h) (by rfl) (by intro w hSw; (try dsimp only at hSw); go_simp) (by assumption) ?_
              try simp only [Act.put, List.setIfInBounds_toArray, List.set_cons_zero, List.set_cons_succ]
              refine Hd.take 17 (some 73) (.pointer (some ⟨wr.heap.size, 0, none⟩)) rfl rfl (by kernel_rfl) (by kernel_rfl) (by kernel_rfl) (fun _ _ _ h => h) (by rfl) (by intro w hSw; (try dsimp only at hSw); go_simp) (by assumption) ?_
              try simp only [Act.put, List.setIfInBounds_toArray, List.set_cons_zero, List.set_cons_succ]
              refine Hd.take 18 (some 74) (.agg #[.int .i64 r.start, .int .i64 r.next, .int .i64 r.roll, .slice AS r.segs.length cS]) rfl rfl (by kernel_rfl) (by kernel_rfl) (by kernel_rfl) (fun _ _ _ h => h) (by rfl) (by intro w hSw; (try dsimp only at hSw); go_simp) (by assumption) ?_
              try simp only [Act.put, List.setIfInBounds_toArray, List.set_cons_zero, List.set_cons_succ]
              refine Hd.take 20 (some 76) (.pointer (some ⟨w.heap.size, 2, none⟩)) rfl rfl (by kernel_rfl) (by kernel_rfl) (by kernel_rfl) (fun _ _ _ h => h) (by rfl) (by intro w hSw; (try dsimp only at hSw); go_simp) (by assumption) ?_
              try simp only [Act.put, List.setIfInBounds_toArray, List.set_cons_zero, List.set_cons_succ]
              refine Hd.take 21 (some 77) (.int .i64 p.epoch) rfl rfl (by kernel_rfl) (by kernel_rfl) (by kernel_rfl) (fun _ _ _ h => h) (by rfl) (by intro w hSw; (try dsimp only at hSw); go_simp) (by assumption) ?_
              try simp only [Act.put, List.setIfInBounds_toArray, List.set_cons_zero, List.set_cons_succ]
              refine wpAnyH_ready (rs := [19]) (by kernel_rfl) (by simp) ?_
              refine AllReadyH.cons (o := { dst := some 75, op := Op.call { callee := Callee.value (Operand.func 64), args := #[Operand.tmp 74], argTypes := #[28] }, type := 3, pos := "l05_replica.go:30", after := #[{ on := 18, ground := Ground.data }, { on := 16, ground := Ground.chain }, { on := 16, ground := Ground.guard }], guard := some (16, false) }) rfl (fun K hK => ?_) AllReadyH.nil
              (go_simp; go_at_call 64; refine (LE.out w8 B8.out).mono ?_; rintro e w10 ⟨rfl, b10⟩; have B10 := Seg.hid (chain B8.out b10); clear b10; try (go_wp2_with fail))
              refine hK.out _ _ (ST.out _ B10.out) (fun hHeld => ?_)
              clear hK K
              try simp only [Act.put, List.setIfInBounds_toArray, List.set_cons_zero, List.set_cons_succ]
              refine Hd.take 22 (some 78) (.bool false) rfl rfl (by kernel_rfl) (by kernel_rfl) (by kernel_rfl) (fun _ _ _ h => h) (by rfl) (by intro w hSw; (try dsimp only at hSw); go_simp) (by assumption) ?_
              try simp only [Act.put, List.setIfInBounds_toArray, List.set_cons_zero, List.set_cons_succ]
              refine Hd.take 23 (some 79) (.bool false) rfl rfl (by kernel_rfl) (by kernel_rfl) (by kernel_rfl) (fun _ _ _ h => h) (by rfl) (by intro w hSw; (try dsimp only at hSw); go_simp) (by assumption) ?_
              try simp only [Act.put, List.setIfInBounds_toArray, List.set_cons_zero, List.set_cons_succ]
              refine Hd.take 24 (some 80) (.bool false) rfl rfl (by kernel_rfl) (by kernel_rfl) (by kernel_rfl) (fun _ _ _ h => h) (by rfl) (by intro w hSw; (try dsimp only at hSw); go_simp) (by assumption) ?_
              try simp only [Act.put, List.setIfInBounds_toArray, List.set_cons_zero, List.set_cons_succ]
              refine Hd.take 25 (some 81) (.pointer (some ⟨w.heap.size, 4, none⟩)) rfl rfl (by kernel_rfl) (by kernel_rfl) (by kernel_rfl) (fun _ _ _ h => h) (by rfl) (by intro w hSw; (try dsimp only at hSw); go_simp) (by assumption) ?_
              try simp only [Act.put, List.setIfInBounds_toArray, List.set_cons_zero, List.set_cons_succ]
              refine Hd.take 26 (some 82) (.slice (some ⟨gk, ok, none⟩) p.known.length c4) rfl rfl (by kernel_rfl) (by kernel_rfl) (by kernel_rfl) (fun _ _ _ h => h) (by rfl) (by intro w hSw; (try dsimp only at hSw); go_simp) (by assumption) ?_
              try simp only [Act.put, List.setIfInBounds_toArray, List.set_cons_zero, List.set_cons_succ]
              refine Hd.take 27 (some 83) (.int .i64 k) rfl rfl (by kernel_rfl) (by kernel_rfl) (by kernel_rfl) (fun _ _ _ h => h) (by rfl) (by intro w hSw; (try dsimp only at hSw); go_simp) (by assumption) ?_
              try simp only [Act.put, List.setIfInBounds_toArray, List.set_cons_zero, List.set_cons_succ]
              refine Hd.take 28 (some 84) (.pointer (some ⟨gk, ok + k, none⟩)) rfl rfl (by kernel_rfl) (by kernel_rfl) (by kernel_rfl) (fun _ _ _ h => h) (by rfl) (by intro w hSw; (try dsimp only at hSw); go_simp) (by assumption) ?_
              try simp only [Act.put, List.setIfInBounds_toArray, List.set_cons_zero, List.set_cons_succ]
              refine Hd.take 29 (some 85) (.int .i64 kn) rfl rfl (by kernel_rfl) (by kernel_rfl) (by kernel_rfl) (fun _ _ _ h => h) (by rfl) (by intro w hSw; (try dsimp only at hSw); go_simp) (by assumption) ?_
              try simp only [Act.put, List.setIfInBounds_toArray, List.set_cons_zero, List.set_cons_succ]
              refine wpAnyH_ready (rs := [30]) (by kernel_rfl) (by simp) ?_
              refine AllReadyH.cons (o := { dst := some 86, op := Op.call { callee := Callee.value (Operand.func 23), args := #[Operand.tmp 85, Operand.const (Value.int IntKind.i64 0), Operand.const (Value.int IntKind.i64 1000000000)], argTypes := #[3, 3, 3] }, type := 4, pos := "l05_replica.go:30", after := #[{ on := 29, ground := Ground.data }, { on := 24, ground := Ground.chain }, { on := 24, ground := Ground.guard }], guard := some (24, false) }) rfl (fun K hK => ?_) AllReadyH.nil
              (go_simp; go_at_call 23; refine (InB.l1In_b _ _ _ true HK2.out _).mono ?_; rintro e w11 ⟨rfl, rfl⟩; try (go_wp2_with fail))
              refine hK.out _ _ (ST.out _ B10.out) (fun hHeld => ?_)
              clear hK K
              try simp only [Act.put, List.setIfInBounds_toArray, List.set_cons_zero, List.set_cons_succ]
              refine Hd.take 31 (some 87) (.bool false) rfl rfl (by kernel_rfl) (by kernel_rfl) (by kernel_rfl) (fun _ _ _ h => h) (by rfl) (by intro w hSw; (try dsimp only at hSw); go_simp) (by assumption) ?_
              try simp only [Act.put, List.setIfInBounds_toArray, List.set_cons_zero, List.set_cons_succ]
              refine Hd.take 32 (some 88) (.bool false) rfl rfl (by kernel_rfl) (by kernel_rfl) (by kernel_rfl) (fun _ _ _ h => h) (by rfl) (by intro w hSw; (try dsimp only at hSw); go_simp) (by assumption) ?_
              try simp only [Act.put, List.setIfInBounds_toArray, List.set_cons_zero, List.set_cons_succ]
              refine wpAnyH_done (by kernel_rfl) ?_ _
              all_goals
                go_wp2
                go_roundw
                case rel => exact ⟨k + 1, by omega, by go_num, HE.out, HH.out, (R0.out.next B10.out).rp, (R0.out.next B10.out).bel⟩
                case measure => simp [intOf]; omega
    · have hk' : k = p.reps.length := by omega
      have KR : Hid (reps p.epoch p.reps = true ∧ known p = true) := by
        have r1 := HR.out.1
        have r2 := HR.out.2.1
        rw [List.drop_eq_nil_of_le (by omega)] at r1
        rw [List.drop_eq_nil_of_le (by rw [K5.out]; omega)] at r2
        exact ⟨r1.symm, by rw [KN.out, ← r2]; rfl⟩
      have S1 := Seg.hid HR.out.2.2
      clear HR
      subst hk'
      have ZA : Hid (asc ((p.reps.length : Int) - 1) (-1) p.insync = false → PoP.part p = false) := fun h => by simp [PoP.part, K7.out, h]
      obtain ⟨wi, hwi⟩ : ∃ wi, wi = wr := ⟨wr, rfl⟩
      subst hwi
      go_wp2_with fail
      go_loopw [6] (fun i wx => ∃ (j : Nat), j ≤ p.insync.length ∧ i = .int .i64 j ∧ Hid (Qt wi wx) ∧ Hid (asc ((p.reps.length : Int) - 1) (pv p.insync j) (p.insync.drop j) = asc ((p.reps.length : Int) - 1) (-1) p.insync ∧ -1 ≤ pv p.insync j)) (fun i _ => p.insync.length - (intOf i).toNat)
      case atStart => exact ⟨0, Nat.zero_le _, rfl, ⟨rfl, rfl, rfl, rfl⟩, rfl, by simp [pv]⟩
      case round =>
        obtain ⟨j, hj, rfl, HW, HQ⟩ := hrel
        have S2 := Seg.hid (Sr.next S1.out (HW.out.bel _))
        obtain ⟨m0, m1, m2, m3, m4⟩ := Sr.cells S2.out
        by_cases hlj : j < p.insync.length
        · obtain ⟨ea3, hc3, hga3⟩ := HI.out.addr.resolve_left (by omega)
          have IC : ∀ i, i < p.insync.length → wr.cell? ⟨gi, oi + i, none⟩ = some (.int .i64 (p.insync.getD i default)) := fun i hi => by
            rw [HW.out.cell, S1.out.bel.cell (p := ⟨gi, oi + i, none⟩) hga3]
            exact int_cell HI.out.cells HI.out.el i hi
          have i1 := IC j hlj
          have HQ1 := HQ.out.1
          rw [drop_cons hlj] at HQ1
          have HQ2 := HQ.out.2
          have i2 : Hid (0 < j → wr.cell? ⟨gi, oi + (j - 1), none⟩ = some (.int .i64 (p.insync.getD (j - 1) default)) ∧ pv p.insync j = p.insync.getD (j - 1) default) := fun h => ⟨IC (j - 1) (by omega), by simp [pv, show ¬ j = 0 by omega]⟩
          have hpn : Hid (pv p.insync (j + 1) = p.insync.getD j default) := by show _ = _; simp [pv]
          have hp0 : Hid (j = 0 → pv p.insync j = -1) := fun h => by simp [pv, h]
          have k0 : (0 : Int) ≤ (j : Int) := by omega
          have k1 : (j : Int) < (p.insync.length : Int) := by omega
          clear IC
          generalize p.insync.getD j default = nj at *
          generalize pv p.insync j = pj at *
          have HQ1' := Seg.hid HQ1
          clear HQ1
          subst ea3
          have ZB : Hid (inR (pj + 1) nj ((p.reps.length : Int) - 1) = false → PoP.part p = false) := fun hb => ZA.out (by rw [← HQ1'.out]; simp only [asc, hb, Bool.false_and])
          cases hb2 : inR 0 nj ((p.reps.length : Int) - 1) with
          | false =>
            have Z := Seg.hid (ZB.out (by have hb' := hb2; simp only [inR, Bool.and_eq_false_iff, decide_eq_false_iff_not] at hb' ⊢; omega))
            have HBn := Seg.hid hb2
            clear hb2
            go_wp2_with fail
            go_quiet (first | (go_at_call 23; refine Calls.quiet_of_same (l1In_q _ _ _ _ HBn.out _)))
            go_wp2
            go_ret
            exact NO.out _ Z.out (Sr.drewN S2.out _).bel
          | true =>
            have hbb : 0 ≤ nj ∧ nj ≤ (p.reps.length : Int) - 1 := by simpa [inR] using hb2
            have HBn := Seg.hid hb2
            clear hb2
            by_cases hj0 : j = 0
            · have hpj := hp0.out hj0
              have HE : Hid (asc ((p.reps.length : Int) - 1) nj (p.insync.drop (j + 1)) = asc ((p.reps.length : Int) - 1) (-1) p.insync) := by
                show _ = _
                rw [← HQ1'.out]
                have : inR (pj + 1) nj ((p.reps.length : Int) - 1) = true := by rw [hpj]; exact HBn.out
                simp only [asc, this, Bool.true_and]
              have hgd : decide ((0 : Int) < (j : Int)) = false := decide_eq_false (by omega)
              have hgd2 : decide (0 < j) = false := decide_eq_false (by omega)
              clear hpj hj0
              go_wp2_with fail
              go_quiet (first | (go_at_call 23; refine Calls.quiet_of_same (l1In_q _ _ _ _ HBn.out _)))
              go_wp2
              go_roundw
              case rel => exact ⟨j + 1, by omega, by go_num, HW.out.drewN _, by rw [hpn.out]; exact HE.out, by rw [hpn.out]; omega⟩
              case measure => simp [intOf]; omega
            · obtain ⟨i3, hpj⟩ := i2.out (by omega)
              have HPJ := Seg.hid hpj
              clear hpj
              have w1 : IntKind.i64.wrap ((j : Int) - 1) = (j : Int) - 1 := by rw [IntKind.wrap_i64] <;> omega
              have k2 : (0 : Int) ≤ (j : Int) - 1 := by omega
              have k3 : (j : Int) - 1 < (p.insync.length : Int) := by omega
              have k4 : (0 : Int) < (j : Int) := by omega
              have k5 : 0 < j := by omega
              have k6 : (1 : Int) ≤ (j : Int) := by omega
              have k7 : 1 ≤ j := by omega
              generalize p.insync.getD (j - 1) default = mj at *
              by_cases hge : nj ≤ mj
              · have Z := Seg.hid (ZB.out (by rw [HPJ.out]; simp only [inR, Bool.and_eq_false_iff, decide_eq_false_iff_not]; omega))
                go_wp2_with fail
                go_quiet (first | (go_at_call 23; refine Calls.quiet_of_same (l1In_q _ _ _ _ HBn.out _)))
                go_wp2
                go_ret
                exact NO.out _ Z.out (Sr.drewN S2.out _).bel
              · have HE : Hid (asc ((p.reps.length : Int) - 1) nj (p.insync.drop (j + 1)) = asc ((p.reps.length : Int) - 1) (-1) p.insync) := by
                  show _ = _
                  rw [← HQ1'.out]
                  have : inR (pj + 1) nj ((p.reps.length : Int) - 1) = true := by rw [HPJ.out]; simp only [inR, Bool.and_eq_true, decide_eq_true_eq]; omega
                  simp only [asc, this, Bool.true_and]
                have hge2 : decide (nj ≤ mj) = false := decide_eq_false hge
                go_wp2_with fail
                go_quiet (first | (go_at_call 23; refine Calls.quiet_of_same (l1In_q _ _ _ _ HBn.out _)))
                go_wp2
                go_roundw
                case rel => exact ⟨j + 1, by omega, by go_num, HW.out.drewN _, by rw [hpn.out]; exact HE.out, by rw [hpn.out]; omega⟩
                case measure => simp [intOf]; omega
        · have hj' : j = p.insync.length := by omega
          have KP : Hid (PoP.part p = lead p) := by
            show _ = _
            have := HQ.out.1
            rw [List.drop_eq_nil_of_le (by omega)] at this
            have hi : insy p = true := by rw [K7.out, ← this]; rfl
            simp [PoP.part, KF.out, KR.out.1, KR.out.2, hi]
          subst hj'
          clear HQ
          by_cases hld : p.leader < 0
          · have Z : Hid (true = PoP.part p) := by
              show _ = _
              have h9 : p.leader = -1 := by have := K2.out; omega
              rw [KP.out]
              simp [lead, h9]
            have hd2 : decide (p.leader < 0) = true := decide_eq_true hld
            go_wp2
            go_ret
            exact ⟨Seg.ret_bool Z.out, S2.out.bel⟩
          · obtain ⟨m, hm⟩ : ∃ m : Nat, p.leader = (m : Int) := ⟨p.leader.toNat, by omega⟩
            have hmn : m < p.reps.length := by have := K2.out; omega
            have KP2 : Hid (PoP.part p = ((p.reps.getD m default).up && has p.leader p.insync)) := by
              show _ = _
              have h4 : inR 0 p.leader ((p.reps.length : Int) - 1) = true := by have := K2.out; simp only [inR, Bool.and_eq_true, decide_eq_true_eq]; omega
              have h5 : p.leader.toNat = m := by rw [hm]; simp
              rw [KP.out]
              unfold lead
              rw [if_neg (by omega), h4, h5, Bool.true_and]
            have hd2 : decide (p.leader < 0) = false := decide_eq_false hld
            obtain ⟨ea, hc, hga⟩ := HA.out.addr.resolve_left (by omega)
            have CL := cells_later HA.out.cells S2.out.bel hga
            have EL : ERpl wr (seg lo b) (Fa m) (p.reps.getD m default) := keepsRpl _ _ _ _ _ _ (HA.out.el m hmn) (fun g hg => S2.out.bel.block g (hS g hg)) (fun _ _ => rfl)
            obtain ⟨AS, cS, ⟨d0, d1, d2, d3, d4, d5⟩, _⟩ := rpl_cells (i := m) (fun j hj => CL m hmn j hj) EL
            have IN2 := Seg.hid (HIN.out.below keepsI S2.out.bel hS)
            have g0 : (0 : Int) ≤ (m : Int) := by omega
            have g1 : (m : Int) < (p.reps.length : Int) := by omega
            clear CL EL d0 d1 d2 d3 d4 KP hld
            rw [hm] at m1 hd2
            have HMM := Seg.hid hm
            clear hm
            generalize p.reps.getD m default = r at *
            subst ea
            cases hu : r.up with
            | false =>
              have Z : Hid (false = PoP.part p) := by show _ = _; rw [KP2.out, hu]; rfl
              rw [hu] at d5
              clear hu
              go_wp2
              go_ret
              exact ⟨Seg.ret_bool Z.out, S2.out.bel⟩
            | true =>
              have Z : Hid (has (m : Int) p.insync = PoP.part p) := by show _ = _; rw [KP2.out, hu, HMM.out]; rfl
              rw [hu] at d5
              clear hu
              go_wp2_with fail
              refine (has_any _ p.insync _ _ wr (seg lo b) IN2.out (fun g hg => Nat.lt_of_lt_of_le (hS g hg) S2.out.bel.size) Z.out).mono ?_
              rintro e w1 ⟨rfl, rfl⟩
              go_wp2
              go_ret
              exact ⟨rfl, S2.out.bel⟩
end Go.Proofs.Yticihnoekffelaa.PoS
