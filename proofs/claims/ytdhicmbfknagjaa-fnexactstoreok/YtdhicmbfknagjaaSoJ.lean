/- StoreOk of the program: its Txns, and all of it. -/
import Derived.Test.YtdhicmbfknagjaaSoI
import Derived.Deep.RegionHeld3
namespace Go.Proofs.Ytdhicmbfknagjaa.SoJ
set_option maxRecDepth 8000
open Go.RowKit
open Ls SoP SoI
open Recs (hsz below1 below2 chain chainD)
open SegW (Sg)
open LogW (Lg LogAt)
open LgP (logOk)
open Asc (asc)
open Lp (inR Opn opn drop_cons inR_true)
set_option linter.unusedVariables false
namespace Hd
variable {P : Program} {ops : Array Oper} {Q : Exit → Act → World → Prop} {md : Region.Mode} {S : World → Prop}
/-- An operation that its guard passes over may be taken first. -/
theorem skip (i : Nat) (d : Option Tmp) {oi : Oper} {fuel : Nat} {listed : Array Bool} {a : Act} {w : World} (hi : ops[i]? = some oi) (hd : oi.dst = d)
    (hs : Region.noSelect ops = true) (hf : Region.free md ops listed i = true) (hr : (Region.ready md ops listed).contains i = true)
    (hQ : ∀ c a w, Q (.panic c) (a.put d undef) w → Q (.panic c) a w) (hw : Region.wanted oi (yielded ops a.tmps) = false) (hS : S w)
    (h : wpAnyH P md ops Q S fuel (listed.setIfInBounds i true) (a.put d undef) w) : wpAnyH P md ops Q S (fuel + 1) listed a w := by
  subst hd; exact wpAnyH_take hi hs hf hr hQ (Or.inr ⟨hw, rfl⟩) hS h
theorem take (i : Nat) (d : Option Tmp) (v : Value) {oi : Oper} {fuel : Nat} {listed : Array Bool} {a : Act} {w : World} (hi : ops[i]? = some oi) (hd : oi.dst = d)
    (hs : Region.noSelect ops = true) (hf : Region.free md ops listed i = true) (hr : (Region.ready md ops listed).contains i = true)
    (hQ : ∀ c a w, Q (.panic c) (a.put d v) w → Q (.panic c) a w) (hw : Region.wanted oi (yielded ops a.tmps) = true) (hy : ∀ w, S w → (execOp a.eval oi).run P w = .ok (.value v) w) (hS : S w)
    (h : wpAnyH P md ops Q S fuel (listed.setIfInBounds i true) (a.put d v) w) : wpAnyH P md ops Q S (fuel + 1) listed a w := by
  subst hd; exact wpAnyH_take hi hs hf hr hQ (Or.inl ⟨hw, hy⟩) hS h
end Hd
set_option maxHeartbeats 6400000 in
theorem txns_any (u : Sto) (A0 A1 : Option Addr) (c0 c1 : Nat) (t : Bool) (w : World) (lo b : Nat) (hv : StoAt w (seg lo b) (.agg #[.slice A0 u.logs.length c0, .slice A1 u.txns.length c1, .int .i64 u.used]) u) (hb : b ≤ w.heap.size) (hf : szSto u ≤ 1048576) (hl : 1 ≤ u.logs.length ∧ u.logs.length ≤ 12) (hu : 0 ≤ u.used ∧ u.used ≤ 1000000000) (ht : txns u.logs.length u.used u.txns = t) :
    Calls Try.prog 42 #[.agg #[.slice A0 u.logs.length c0, .slice A1 u.txns.length c1, .int .i64 u.used]] w fun e w' => e = .returned (.bool t) ∧ Below w.heap.size w w' := by
  have hS : ∀ g, seg lo b g → g < w.heap.size := fun g hg => Nat.lt_of_lt_of_le hg.2 hb
  obtain ⟨A1', c1', ga, oa, Fa, g0, OA, n0⟩ := opn (parts hv).2 hS
  simp only [Value.slice.injEq, true_and] at g0
  obtain ⟨rfl, rfl⟩ := g0
  have HA := Seg.hid OA
  have hn : u.txns.length ≤ 1048576 := szL_len szTxn (l := 1048576) (by unfold szSto at hf; omega)
  have L0 : Hid (∀ i, i < u.txns.length → (u.txns.getD i default).name.size ≤ maxLen) := fun i hi => by
    have := szL_one (l := 1048576) szTxn (show szL szTxn u.txns ≤ 1048576 by unfold szSto at hf; omega) hi
    unfold szTxn at this
    unfold maxLen
    omega
  clear hv OA hf n0
  go_enter Try.func42, Try.ntmps42
  by_cases h20 : u.txns.length ≤ 20
  case neg =>
    have Z : Hid (false = t) := by show _ = _; rw [← ht]; simp [txns, h20]
    clear ht
    go_wp2
    go_ret
    exact ⟨Seg.ret_bool Z.out, below1 _ _⟩
  have HT : Hid (txs u.logs.length u.used u.txns 0 = t) := by show _ = _; rw [← ht]; simp [txns, h20]
  clear ht
  go_wp2_with fail
  have S0 : Hid (Sr w (w.alloc (.cells #[.slice A0 u.logs.length c0, .slice A1 u.txns.length c1, .int .i64 u.used] 31 (0, 0))) u A0 A1 c0 c1) := ⟨heap_alloc_new _ _, below1 _ _⟩
  go_loopw [12] (fun i wr => ∃ (k : Nat), k ≤ u.txns.length ∧ i = .int .i64 k ∧ Hid (txs u.logs.length u.used u.txns k = t ∧ Sr w wr u A0 A1 c0 c1)) (fun i _ => u.txns.length - (intOf i).toNat)
  case atStart => exact ⟨0, Nat.zero_le _, rfl, HT.out, S0.out⟩
  case round =>
    clear S0
    obtain ⟨k, hk, rfl, HR⟩ := hrel
    by_cases hlt : k < u.txns.length
    · obtain ⟨ea, hc, hga⟩ := HA.out.addr.resolve_left (by omega)
      have OL := HA.out.later keepsTxn hS HR.out.2.bel
      have OL' := Seg.hid OL
      obtain ⟨A4, c4, ⟨d0, d1, d2, d3, d4⟩, IP⟩ := txn_cells (i := k) (fun j hj => OL.cells k hlt j hj) (OL.el k hlt)
      have IP' := Seg.hid IP
      have NS := L0.out k hlt
      have HD := HR.out.1
      rw [txs_step hlt] at HD
      have HD' := Seg.hid HD
      have TX : Hid (tx u.logs.length u.used u.txns k = (txOk u.logs.length u.used (u.txns.getD k default) && !((u.txns.take k).any (clash (u.txns.getD k default))))) := rfl
      have h0 : (0 : Int) ≤ (k : Int) := by omega
      have hkc : ¬ c1 < k := by omega
      have hkc2 : k ≤ c1 := by omega
      have h1 : (k : Int) < (u.txns.length : Int) := by omega
      have hlw : w.heap.size < wr.heap.size := (Array.getElem?_eq_some_iff.1 HR.out.2.rp).1
      have hgr : ga < wr.heap.size := Nat.lt_of_lt_of_le hga HR.out.2.bel.size
      have hSr : ∀ g, seg lo b g → g < wr.heap.size := fun g hg => Nat.lt_of_lt_of_le (hS g hg) HR.out.2.bel.size
      clear OL IP HD
      generalize u.txns.getD k default = tk at *
      subst ea
      go_upto_region 6 with fail
      have R0 : Hid (Tr w (wr.alloc (.cells #[.string tk.name, .int .i64 tk.producer, .int .i64 tk.turn, .bool tk.opn, .slice A4 tk.parts.length c4] 72 (0, 0))) w.heap.size wr.heap.size tk u A0 (some ⟨ga, oa, none⟩) A4 c0 c1 c4) := ⟨heap_alloc_new _ _, ((below1 wr _).block w.heap.size hlw).trans HR.out.2.rp, chain HR.out.2.bel (below1 wr _)⟩
      have OI : Hid (Opn 5 ETxn (wr.alloc (.cells #[.string tk.name, .int .i64 tk.producer, .int .i64 tk.turn, .bool tk.opn, .slice A4 tk.parts.length c4] 72 (0, 0))) (seg lo b) (some ⟨ga, oa, none⟩) c1 u.txns ga oa Fa) := OL'.out.later keepsTxn hSr (below1 wr _)
      have II : Hid (IntsAt (wr.alloc (.cells #[.string tk.name, .int .i64 tk.producer, .int .i64 tk.turn, .bool tk.opn, .slice A4 tk.parts.length c4] 72 (0, 0))) (seg lo b) (.slice A4 tk.parts.length c4) tk.parts) := IP'.out.below keepsI (below1 wr _) hSr
      have SI : Hid (∀ g, seg lo b g → g < (wr.alloc (.cells #[.string tk.name, .int .i64 tk.producer, .int .i64 tk.turn, .bool tk.opn, .slice A4 tk.parts.length c4] 72 (0, 0))).heap.size) := fun g hg => by rw [hsz]; have := hSr g hg; omega
      generalize wr.alloc (.cells #[.string tk.name, .int .i64 tk.producer, .int .i64 tk.turn, .bool tk.opn, .slice A4 tk.parts.length c4] 72 (0, 0)) = wi at *
      clear d0 d1 d2 d3 d4 IP' HR OL'
      have TC : Hid (∀ wx, Below wi.heap.size wi wx → Calls Try.prog 77 #[.agg #[.slice A0 u.logs.length c0, .slice (some ⟨ga, oa, none⟩) u.txns.length c1, .int .i64 u.used], .agg #[.string tk.name, .int .i64 tk.producer, .int .i64 tk.turn, .bool tk.opn, .slice A4 tk.parts.length c4]] wx fun e w' => e = .returned (.bool (txOk u.logs.length u.used tk)) ∧ Below wx.heap.size wx w') := fun wx bx => txn_any u tk A0 (some ⟨ga, oa, none⟩) A4 c0 c1 c4 _ wx (seg lo b) (fun g hg => Nat.lt_of_lt_of_le (SI.out g hg) bx.size) (II.out.below keepsI bx SI.out) NS hl hu rfl
      have CC : Hid (∀ wx, Below wi.heap.size wi wx → Calls Try.prog 78 #[.slice (some ⟨ga, oa, none⟩) k c1, .func (.func 79) #[.agg #[.string tk.name, .int .i64 tk.producer, .int .i64 tk.turn, .bool tk.opn, .slice A4 tk.parts.length c4]] #[]] wx fun e w' => e = .returned (.bool ((u.txns.take k).any (clash tk))) ∧ Below wx.heap.size wx w') := fun wx bx => contains_any tk A4 c4 (some ⟨ga, oa, none⟩) c1 k u.txns ga oa Fa wx (seg lo b) (fun g hg => Nat.lt_of_lt_of_le (SI.out g hg) bx.size) (OI.out.later keepsTxn SI.out bx) hk hn
      obtain ⟨s0, s1, s2, s3, s4⟩ := R0.out.cells
      obtain ⟨u0, u1, u2⟩ := R0.out.cellp
      have ST : Hid (∀ wx, Below wi.heap.size wi wx → (wx.cell? ⟨wr.heap.size, 0, none⟩ = some (.string tk.name) ∧ wx.cell? ⟨wr.heap.size, 1, none⟩ = some (.int .i64 tk.producer) ∧ wx.cell? ⟨wr.heap.size, 2, none⟩ = some (.int .i64 tk.turn) ∧ wx.cell? ⟨wr.heap.size, 3, none⟩ = some (.bool tk.opn) ∧ wx.cell? ⟨wr.heap.size, 4, none⟩ = some (.slice A4 tk.parts.length c4) ∧ wx.cell? ⟨w.heap.size, 0, none⟩ = some (.slice A0 u.logs.length c0) ∧ wx.cell? ⟨w.heap.size, 1, none⟩ = some (.slice (some ⟨ga, oa, none⟩) u.txns.length c1) ∧ wx.cell? ⟨w.heap.size, 2, none⟩ = some (.int .i64 u.used))) := fun wx bx => by
        obtain ⟨s0, s1, s2, s3, s4⟩ := (R0.out.next bx).cells
        obtain ⟨u0, u1, u2⟩ := (R0.out.next bx).cellp
        exact ⟨s0, s1, s2, s3, s4, u0, u1, u2⟩
      cases hl1 : txOk u.logs.length u.used tk with
      | false =>
        rw [hl1] at TC
        have Z : Hid (false = t) := by show _ = _; rw [← HD'.out, TX.out]; simp [hl1]
        clear hl1
        refine wp_region_held_drew (S := (fun w' => w'.cell? ⟨wr.heap.size, 0, none⟩ = some (.string tk.name) ∧ w'.cell? ⟨wr.heap.size, 1, none⟩ = some (.int .i64 tk.producer) ∧ w'.cell? ⟨wr.heap.size, 2, none⟩ = some (.int .i64 tk.turn) ∧ w'.cell? ⟨wr.heap.size, 3, none⟩ = some (.bool tk.opn) ∧ w'.cell? ⟨wr.heap.size, 4, none⟩ = some (.slice A4 tk.parts.length c4) ∧ w'.cell? ⟨w.heap.size, 0, none⟩ = some (.slice A0 u.logs.length c0) ∧ w'.cell? ⟨w.heap.size, 1, none⟩ = some (.slice (some ⟨ga, oa, none⟩) u.txns.length c1) ∧ w'.cell? ⟨w.heap.size, 2, none⟩ = some (.int .i64 u.used))) (by kernel_rfl) (ST.out _ (Below.refl _ _).drew) (fun hHeld => ?_)
        refine Hd.take 0 (some 17) (.agg #[.slice A0 u.logs.length c0, .slice (some ⟨ga, oa, none⟩) u.txns.length c1, .int .i64 u.used]) rfl rfl (by kernel_rfl) (by kernel_rfl) (by kernel_rfl) (fun _ _ _ h => h) (by rfl) (by intro w hSw; (try dsimp only at hSw); go_simp) (by assumption) ?_
        try simp only [Act.put, List.setIfInBounds_toArray, List.set_cons_zero, List.set_cons_succ]
        refine Hd.take 1 (some 18) (.agg #[.string tk.name, .int .i64 tk.producer, .int .i64 tk.turn, .bool tk.opn, .slice A4 tk.parts.length c4]) rfl rfl (by kernel_rfl) (by kernel_rfl) (by kernel_rfl) (fun _ _ _ h => h) (by rfl) (by intro w hSw; (try dsimp only at hSw); go_simp) (by assumption) ?_
        try simp only [Act.put, List.setIfInBounds_toArray, List.set_cons_zero, List.set_cons_succ]
        refine wpAnyH_ready (rs := [2]) (by kernel_rfl) (by simp) ?_
        refine AllReadyH.cons (o := { dst := some 19, op := Op.call { callee := Callee.value (Operand.func 77), args := #[Operand.tmp 17, Operand.tmp 18], argTypes := #[31, 72] }, type := 4, pos := "l08_txn.go:178", after := #[{ on := 0, ground := Ground.data }, { on := 1, ground := Ground.data }], guard := none }) rfl (fun K hK => ?_) AllReadyH.nil
        (go_simp; go_at_call 77; refine (TC.out wi.drew (Below.refl _ _).drew).mono ?_; rintro e w8 ⟨rfl, b8⟩; have B8 : Hid (Below wi.heap.size wi w8) := ⟨b8.os, b8.tape, b8.output, b8.size, b8.block⟩; clear b8; try (go_wp2_with fail))
        refine hK.out _ _ (ST.out _ B8.out) (fun hHeld => ?_)
        clear hK K
        try simp only [Act.put, List.setIfInBounds_toArray, List.set_cons_zero, List.set_cons_succ]
        refine Hd.take 3 (some 20) (.bool true) rfl rfl (by kernel_rfl) (by kernel_rfl) (by kernel_rfl) (fun _ _ _ h => h) (by rfl) (by intro w hSw; (try dsimp only at hSw); go_simp) (by assumption) ?_
        try simp only [Act.put, List.setIfInBounds_toArray, List.set_cons_zero, List.set_cons_succ]
        refine Hd.take 4 (some 21) (.bool true) rfl rfl (by kernel_rfl) (by kernel_rfl) (by kernel_rfl) (fun _ _ _ h => h) (by rfl) (by intro w hSw; (try dsimp only at hSw); go_simp) (by assumption) ?_
        try simp only [Act.put, List.setIfInBounds_toArray, List.set_cons_zero, List.set_cons_succ]
        refine Hd.skip 5 (some 22) rfl rfl (by kernel_rfl) (by kernel_rfl) (by kernel_rfl) (fun _ _ _ h => h) (by rfl) (by assumption) ?_
        try simp only [Act.put, List.setIfInBounds_toArray, List.set_cons_zero, List.set_cons_succ]
        refine Hd.skip 6 (some 23) rfl rfl (by kernel_rfl) (by kernel_rfl) (by kernel_rfl) (fun _ _ _ h => h) (by rfl) (by assumption) ?_
        try simp only [Act.put, List.setIfInBounds_toArray, List.set_cons_zero, List.set_cons_succ]
        refine Hd.skip 7 (some 24) rfl rfl (by kernel_rfl) (by kernel_rfl) (by kernel_rfl) (fun _ _ _ h => h) (by rfl) (by assumption) ?_
        try simp only [Act.put, List.setIfInBounds_toArray, List.set_cons_zero, List.set_cons_succ]
        refine Hd.skip 8 (some 25) rfl rfl (by kernel_rfl) (by kernel_rfl) (by kernel_rfl) (fun _ _ _ h => h) (by rfl) (by assumption) ?_
        try simp only [Act.put, List.setIfInBounds_toArray, List.set_cons_zero, List.set_cons_succ]
        refine Hd.skip 9 (some 26) rfl rfl (by kernel_rfl) (by kernel_rfl) (by kernel_rfl) (fun _ _ _ h => h) (by rfl) (by assumption) ?_
        try simp only [Act.put, List.setIfInBounds_toArray, List.set_cons_zero, List.set_cons_succ]
        refine Hd.skip 10 (some 27) rfl rfl (by kernel_rfl) (by kernel_rfl) (by kernel_rfl) (fun _ _ _ h => h) (by rfl) (by assumption) ?_
        try simp only [Act.put, List.setIfInBounds_toArray, List.set_cons_zero, List.set_cons_succ]
        refine Hd.skip 11 (some 28) rfl rfl (by kernel_rfl) (by kernel_rfl) (by kernel_rfl) (fun _ _ _ h => h) (by rfl) (by assumption) ?_
        try simp only [Act.put, List.setIfInBounds_toArray, List.set_cons_zero, List.set_cons_succ]
        refine Hd.take 12 (some 29) (.bool true) rfl rfl (by kernel_rfl) (by kernel_rfl) (by kernel_rfl) (fun _ _ _ h => h) (by rfl) (by intro w hSw; (try dsimp only at hSw); go_simp) (by assumption) ?_
        try simp only [Act.put, List.setIfInBounds_toArray, List.set_cons_zero, List.set_cons_succ]
        refine wpAnyH_done (by kernel_rfl) ?_ _
        go_wp2
        go_ret
        exact ⟨Seg.ret_bool Z.out, chain R0.out.bel B8.out⟩
      | true =>
        rw [hl1] at TC
        cases hl2 : (u.txns.take k).any (clash tk) with
        | true =>
          rw [hl2] at CC
          have Z : Hid (false = t) := by show _ = _; rw [← HD'.out, TX.out]; simp [hl2]
          clear hl1 hl2
          refine wp_region_held_drew (S := (fun w' => w'.cell? ⟨wr.heap.size, 0, none⟩ = some (.string tk.name) ∧ w'.cell? ⟨wr.heap.size, 1, none⟩ = some (.int .i64 tk.producer) ∧ w'.cell? ⟨wr.heap.size, 2, none⟩ = some (.int .i64 tk.turn) ∧ w'.cell? ⟨wr.heap.size, 3, none⟩ = some (.bool tk.opn) ∧ w'.cell? ⟨wr.heap.size, 4, none⟩ = some (.slice A4 tk.parts.length c4) ∧ w'.cell? ⟨w.heap.size, 0, none⟩ = some (.slice A0 u.logs.length c0) ∧ w'.cell? ⟨w.heap.size, 1, none⟩ = some (.slice (some ⟨ga, oa, none⟩) u.txns.length c1) ∧ w'.cell? ⟨w.heap.size, 2, none⟩ = some (.int .i64 u.used))) (by kernel_rfl) (ST.out _ (Below.refl _ _).drew) (fun hHeld => ?_)
          refine Hd.take 0 (some 17) (.agg #[.slice A0 u.logs.length c0, .slice (some ⟨ga, oa, none⟩) u.txns.length c1, .int .i64 u.used]) rfl rfl (by kernel_rfl) (by kernel_rfl) (by kernel_rfl) (fun _ _ _ h => h) (by rfl) (by intro w hSw; (try dsimp only at hSw); go_simp) (by assumption) ?_
          try simp only [Act.put, List.setIfInBounds_toArray, List.set_cons_zero, List.set_cons_succ]
          refine Hd.take 1 (some 18) (.agg #[.string tk.name, .int .i64 tk.producer, .int .i64 tk.turn, .bool tk.opn, .slice A4 tk.parts.length c4]) rfl rfl (by kernel_rfl) (by kernel_rfl) (by kernel_rfl) (fun _ _ _ h => h) (by rfl) (by intro w hSw; (try dsimp only at hSw); go_simp) (by assumption) ?_
          try simp only [Act.put, List.setIfInBounds_toArray, List.set_cons_zero, List.set_cons_succ]
          refine wpAnyH_ready (rs := [2]) (by kernel_rfl) (by simp) ?_
          refine AllReadyH.cons (o := { dst := some 19, op := Op.call { callee := Callee.value (Operand.func 77), args := #[Operand.tmp 17, Operand.tmp 18], argTypes := #[31, 72] }, type := 4, pos := "l08_txn.go:178", after := #[{ on := 0, ground := Ground.data }, { on := 1, ground := Ground.data }], guard := none }) rfl (fun K hK => ?_) AllReadyH.nil
          (go_simp; go_at_call 77; refine (TC.out wi.drew (Below.refl _ _).drew).mono ?_; rintro e w8 ⟨rfl, b8⟩; have B8 : Hid (Below wi.heap.size wi w8) := ⟨b8.os, b8.tape, b8.output, b8.size, b8.block⟩; clear b8; try (go_wp2_with fail))
          refine hK.out _ _ (ST.out _ B8.out) (fun hHeld => ?_)
          clear hK K
          try simp only [Act.put, List.setIfInBounds_toArray, List.set_cons_zero, List.set_cons_succ]
          refine Hd.take 3 (some 20) (.bool false) rfl rfl (by kernel_rfl) (by kernel_rfl) (by kernel_rfl) (fun _ _ _ h => h) (by rfl) (by intro w hSw; (try dsimp only at hSw); go_simp) (by assumption) ?_
          try simp only [Act.put, List.setIfInBounds_toArray, List.set_cons_zero, List.set_cons_succ]
          refine Hd.take 4 (some 21) (.bool false) rfl rfl (by kernel_rfl) (by kernel_rfl) (by kernel_rfl) (fun _ _ _ h => h) (by rfl) (by intro w hSw; (try dsimp only at hSw); go_simp) (by assumption) ?_
          try simp only [Act.put, List.setIfInBounds_toArray, List.set_cons_zero, List.set_cons_succ]
          refine Hd.take 5 (some 22) (.pointer (some ⟨w.heap.size, 1, none⟩)) rfl rfl (by kernel_rfl) (by kernel_rfl) (by kernel_rfl) (fun _ _ _ h => h) (by rfl) (by intro w hSw; (try dsimp only at hSw); go_simp) (by assumption) ?_
          try simp only [Act.put, List.setIfInBounds_toArray, List.set_cons_zero, List.set_cons_succ]
          refine Hd.take 6 (some 23) (.slice (some ⟨ga, oa, none⟩) u.txns.length c1) rfl rfl (by kernel_rfl) (by kernel_rfl) (by kernel_rfl) (fun _ _ _ h => h) (by rfl) (by intro w hSw; (try dsimp only at hSw); go_simp) (by assumption) ?_
          try simp only [Act.put, List.setIfInBounds_toArray, List.set_cons_zero, List.set_cons_succ]
          refine Hd.take 7 (some 24) (.int .i64 k) rfl rfl (by kernel_rfl) (by kernel_rfl) (by kernel_rfl) (fun _ _ _ h => h) (by rfl) (by intro w hSw; (try dsimp only at hSw); go_simp) (by assumption) ?_
          try simp only [Act.put, List.setIfInBounds_toArray, List.set_cons_zero, List.set_cons_succ]
          refine Hd.take 8 (some 25) (.slice (some ⟨ga, oa, none⟩) k c1) rfl rfl (by kernel_rfl) (by kernel_rfl) (by kernel_rfl) (fun _ _ _ h => h) (by rfl) (by intro w hSw; (try dsimp only at hSw); go_simp) (by assumption) ?_
          try simp only [Act.put, List.setIfInBounds_toArray, List.set_cons_zero, List.set_cons_succ]
          refine Hd.take 9 (some 26) (.agg #[.string tk.name, .int .i64 tk.producer, .int .i64 tk.turn, .bool tk.opn, .slice A4 tk.parts.length c4]) rfl rfl (by kernel_rfl) (by kernel_rfl) (by kernel_rfl) (fun _ _ _ h => h) (by rfl) (by intro w hSw; (try dsimp only at hSw); go_simp) (by assumption) ?_
          try simp only [Act.put, List.setIfInBounds_toArray, List.set_cons_zero, List.set_cons_succ]
          refine Hd.take 10 (some 27) (.func (.func 79) #[.agg #[.string tk.name, .int .i64 tk.producer, .int .i64 tk.turn, .bool tk.opn, .slice A4 tk.parts.length c4]] #[]) rfl rfl (by kernel_rfl) (by kernel_rfl) (by kernel_rfl) (fun _ _ _ h => h) (by rfl) (by intro w hSw; (try dsimp only at hSw); go_simp) (by assumption) ?_
          try simp only [Act.put, List.setIfInBounds_toArray, List.set_cons_zero, List.set_cons_succ]
          refine wpAnyH_ready (rs := [11]) (by kernel_rfl) (by simp) ?_
          refine AllReadyH.cons (o := { dst := some 28, op := Op.call { callee := Callee.value (Operand.func 78), args := #[Operand.tmp 25, Operand.tmp 27], argTypes := #[29, 125] }, type := 4, pos := "l08_txn.go:178", after := #[{ on := 8, ground := Ground.data }, { on := 10, ground := Ground.data }, { on := 4, ground := Ground.chain }, { on := 4, ground := Ground.guard }], guard := some (4, false) }) rfl (fun K hK => ?_) AllReadyH.nil
          (go_simp; go_at_call 78; refine (CC.out w8 B8.out).mono ?_; rintro e w9 ⟨rfl, b9⟩; have B9 : Hid (Below wi.heap.size wi w9) := chain B8.out b9; clear b9; try (go_wp2_with fail))
          refine hK.out _ _ (ST.out _ B9.out) (fun hHeld => ?_)
          clear hK K
          try simp only [Act.put, List.setIfInBounds_toArray, List.set_cons_zero, List.set_cons_succ]
          refine Hd.take 12 (some 29) (.bool true) rfl rfl (by kernel_rfl) (by kernel_rfl) (by kernel_rfl) (fun _ _ _ h => h) (by rfl) (by intro w hSw; (try dsimp only at hSw); go_simp) (by assumption) ?_
          try simp only [Act.put, List.setIfInBounds_toArray, List.set_cons_zero, List.set_cons_succ]
          refine wpAnyH_done (by kernel_rfl) ?_ _
          go_wp2
          go_ret
          exact ⟨Seg.ret_bool Z.out, chain R0.out.bel B9.out⟩
        | false =>
          rw [hl2] at CC
          have Z : Hid (txs u.logs.length u.used u.txns (k + 1) = t) := by show _ = _; rw [← HD'.out, TX.out]; simp [hl1, hl2]
          clear hl1 hl2
          refine wp_region_held_drew (S := (fun w' => w'.cell? ⟨wr.heap.size, 0, none⟩ = some (.string tk.name) ∧ w'.cell? ⟨wr.heap.size, 1, none⟩ = some (.int .i64 tk.producer) ∧ w'.cell? ⟨wr.heap.size, 2, none⟩ = some (.int .i64 tk.turn) ∧ w'.cell? ⟨wr.heap.size, 3, none⟩ = some (.bool tk.opn) ∧ w'.cell? ⟨wr.heap.size, 4, none⟩ = some (.slice A4 tk.parts.length c4) ∧ w'.cell? ⟨w.heap.size, 0, none⟩ = some (.slice A0 u.logs.length c0) ∧ w'.cell? ⟨w.heap.size, 1, none⟩ = some (.slice (some ⟨ga, oa, none⟩) u.txns.length c1) ∧ w'.cell? ⟨w.heap.size, 2, none⟩ = some (.int .i64 u.used))) (by kernel_rfl) (ST.out _ (Below.refl _ _).drew) (fun hHeld => ?_)
          refine Hd.take 0 (some 17) (.agg #[.slice A0 u.logs.length c0, .slice (some ⟨ga, oa, none⟩) u.txns.length c1, .int .i64 u.used]) rfl rfl (by kernel_rfl) (by kernel_rfl) (by kernel_rfl) (fun _ _ _ h => h) (by rfl) (by intro w hSw; (try dsimp only at hSw); go_simp) (by assumption) ?_
          try simp only [Act.put, List.setIfInBounds_toArray, List.set_cons_zero, List.set_cons_succ]
          refine Hd.take 1 (some 18) (.agg #[.string tk.name, .int .i64 tk.producer, .int .i64 tk.turn, .bool tk.opn, .slice A4 tk.parts.length c4]) rfl rfl (by kernel_rfl) (by kernel_rfl) (by kernel_rfl) (fun _ _ _ h => h) (by rfl) (by intro w hSw; (try dsimp only at hSw); go_simp) (by assumption) ?_
          try simp only [Act.put, List.setIfInBounds_toArray, List.set_cons_zero, List.set_cons_succ]
          refine wpAnyH_ready (rs := [2]) (by kernel_rfl) (by simp) ?_
          refine AllReadyH.cons (o := { dst := some 19, op := Op.call { callee := Callee.value (Operand.func 77), args := #[Operand.tmp 17, Operand.tmp 18], argTypes := #[31, 72] }, type := 4, pos := "l08_txn.go:178", after := #[{ on := 0, ground := Ground.data }, { on := 1, ground := Ground.data }], guard := none }) rfl (fun K hK => ?_) AllReadyH.nil
          (go_simp; go_at_call 77; refine (TC.out wi.drew (Below.refl _ _).drew).mono ?_; rintro e w8 ⟨rfl, b8⟩; have B8 : Hid (Below wi.heap.size wi w8) := ⟨b8.os, b8.tape, b8.output, b8.size, b8.block⟩; clear b8; try (go_wp2_with fail))
          refine hK.out _ _ (ST.out _ B8.out) (fun hHeld => ?_)
          clear hK K
          try simp only [Act.put, List.setIfInBounds_toArray, List.set_cons_zero, List.set_cons_succ]
          refine Hd.take 3 (some 20) (.bool false) rfl rfl (by kernel_rfl) (by kernel_rfl) (by kernel_rfl) (fun _ _ _ h => h) (by rfl) (by intro w hSw; (try dsimp only at hSw); go_simp) (by assumption) ?_
          try simp only [Act.put, List.setIfInBounds_toArray, List.set_cons_zero, List.set_cons_succ]
          refine Hd.take 4 (some 21) (.bool false) rfl rfl (by kernel_rfl) (by kernel_rfl) (by kernel_rfl) (fun _ _ _ h => h) (by rfl) (by intro w hSw; (try dsimp only at hSw); go_simp) (by assumption) ?_
          try simp only [Act.put, List.setIfInBounds_toArray, List.set_cons_zero, List.set_cons_succ]
          refine Hd.take 5 (some 22) (.pointer (some ⟨w.heap.size, 1, none⟩)) rfl rfl (by kernel_rfl) (by kernel_rfl) (by kernel_rfl) (fun _ _ _ h => h) (by rfl) (by intro w hSw; (try dsimp only at hSw); go_simp) (by assumption) ?_
          try simp only [Act.put, List.setIfInBounds_toArray, List.set_cons_zero, List.set_cons_succ]
          refine Hd.take 6 (some 23) (.slice (some ⟨ga, oa, none⟩) u.txns.length c1) rfl rfl (by kernel_rfl) (by kernel_rfl) (by kernel_rfl) (fun _ _ _ h => h) (by rfl) (by intro w hSw; (try dsimp only at hSw); go_simp) (by assumption) ?_
          try simp only [Act.put, List.setIfInBounds_toArray, List.set_cons_zero, List.set_cons_succ]
          refine Hd.take 7 (some 24) (.int .i64 k) rfl rfl (by kernel_rfl) (by kernel_rfl) (by kernel_rfl) (fun _ _ _ h => h) (by rfl) (by intro w hSw; (try dsimp only at hSw); go_simp) (by assumption) ?_
          try simp only [Act.put, List.setIfInBounds_toArray, List.set_cons_zero, List.set_cons_succ]
          refine Hd.take 8 (some 25) (.slice (some ⟨ga, oa, none⟩) k c1) rfl rfl (by kernel_rfl) (by kernel_rfl) (by kernel_rfl) (fun _ _ _ h => h) (by rfl) (by intro w hSw; (try dsimp only at hSw); go_simp) (by assumption) ?_
          try simp only [Act.put, List.setIfInBounds_toArray, List.set_cons_zero, List.set_cons_succ]
          refine Hd.take 9 (some 26) (.agg #[.string tk.name, .int .i64 tk.producer, .int .i64 tk.turn, .bool tk.opn, .slice A4 tk.parts.length c4]) rfl rfl (by kernel_rfl) (by kernel_rfl) (by kernel_rfl) (fun _ _ _ h => h) (by rfl) (by intro w hSw; (try dsimp only at hSw); go_simp) (by assumption) ?_
          try simp only [Act.put, List.setIfInBounds_toArray, List.set_cons_zero, List.set_cons_succ]
          refine Hd.take 10 (some 27) (.func (.func 79) #[.agg #[.string tk.name, .int .i64 tk.producer, .int .i64 tk.turn, .bool tk.opn, .slice A4 tk.parts.length c4]] #[]) rfl rfl (by kernel_rfl) (by kernel_rfl) (by kernel_rfl) (fun _ _ _ h => h) (by rfl) (by intro w hSw; (try dsimp only at hSw); go_simp) (by assumption) ?_
          try simp only [Act.put, List.setIfInBounds_toArray, List.set_cons_zero, List.set_cons_succ]
          refine wpAnyH_ready (rs := [11]) (by kernel_rfl) (by simp) ?_
          refine AllReadyH.cons (o := { dst := some 28, op := Op.call { callee := Callee.value (Operand.func 78), args := #[Operand.tmp 25, Operand.tmp 27], argTypes := #[29, 125] }, type := 4, pos := "l08_txn.go:178", after := #[{ on := 8, ground := Ground.data }, { on := 10, ground := Ground.data }, { on := 4, ground := Ground.chain }, { on := 4, ground := Ground.guard }], guard := some (4, false) }) rfl (fun K hK => ?_) AllReadyH.nil
          (go_simp; go_at_call 78; refine (CC.out w8 B8.out).mono ?_; rintro e w9 ⟨rfl, b9⟩; have B9 : Hid (Below wi.heap.size wi w9) := chain B8.out b9; clear b9; try (go_wp2_with fail))
          refine hK.out _ _ (ST.out _ B9.out) (fun hHeld => ?_)
          clear hK K
          try simp only [Act.put, List.setIfInBounds_toArray, List.set_cons_zero, List.set_cons_succ]
          refine Hd.take 12 (some 29) (.bool false) rfl rfl (by kernel_rfl) (by kernel_rfl) (by kernel_rfl) (fun _ _ _ h => h) (by rfl) (by intro w hSw; (try dsimp only at hSw); go_simp) (by assumption) ?_
          try simp only [Act.put, List.setIfInBounds_toArray, List.set_cons_zero, List.set_cons_succ]
          refine wpAnyH_done (by kernel_rfl) ?_ _
          go_wp2
          go_roundw
          case rel => exact ⟨k + 1, by omega, by go_num, Z.out, (R0.out.next B9.out).rp, (R0.out.next B9.out).bel⟩
          case measure => simp [intOf]; omega
    · have HE := HR.out.1
      rw [txs_end (by omega)] at HE
      have HE' := Seg.hid HE
      clear HE
      go_wp2
      go_ret
      exact ⟨Seg.ret_bool HE'.out, HR.out.2.bel⟩
set_option maxHeartbeats 1600000 in
theorem impl_any (v : Value) (u : Sto) (w : World) (lo b : Nat) (hv : StoAt w (seg lo b) v u) (hb : b ≤ w.heap.size) (hf : szSto u ≤ 1048576) (hfi : FineSto u) :
    Calls Try.prog 10 #[v] w fun e w' => e = .returned (.bool (storeOk u)) ∧ Below w.heap.size w w' := by
  obtain ⟨A0, c0, A1, c1, rfl⟩ := form hv
  have HV := Seg.hid hv
  clear hv
  go_enter Try.func10, Try.ntmps10
  go_wp2_with fail
  cases h1 : logs u.logs with
  | false =>
    refine (logs_any _ u.logs false (w.alloc _) lo b ((parts HV.out).1.below keepsLg (below1 w _) (fun g hg => Nat.lt_of_lt_of_le hg.2 hb)) (by rw [hsz]; omega) (by unfold szSto at hf; omega) h1).mono ?_
    rintro e w1 ⟨rfl, b1⟩
    have B1 := Seg.hid (chain (below1 w _) b1)
    have Z : Hid (storeOk u = false) := by show _ = _; simp [storeOk, h1]
    clear b1 h1
    go_wp2
    go_ret
    exact ⟨Seg.ret_bool Z.out.symm, B1.out⟩
  | true =>
  refine (logs_any _ u.logs true (w.alloc _) lo b ((parts HV.out).1.below keepsLg (below1 w _) (fun g hg => Nat.lt_of_lt_of_le hg.2 hb)) (by rw [hsz]; omega) (by unfold szSto at hf; omega) h1).mono ?_
  rintro e w1 ⟨rfl, b1⟩
  have S1 : Hid (Sr w w1 u A0 A1 c0 c1) := Sr.next ⟨heap_alloc_new _ _, below1 w _⟩ b1
  have hl : 1 ≤ u.logs.length ∧ u.logs.length ≤ 12 := by simp [logs, inR] at h1; omega
  have H1 := Seg.hid h1
  clear b1 h1
  obtain ⟨u0, u1, u2⟩ := S1.out.cells
  go_wp2_with fail
  cases h2 : inR 0 u.used 1000000000 with
  | false =>
    refine (InB.within_b _ _ _ false h2 _).mono ?_
    rintro e wq ⟨rfl, rfl⟩
    have Z : Hid (storeOk u = false) := by show _ = _; simp [storeOk, h2]
    clear h2
    go_wp2
    go_ret
    exact ⟨Seg.ret_bool Z.out.symm, S1.out.bel⟩
  | true =>
  refine (InB.within_b _ _ _ true h2 _).mono ?_
  rintro e wq ⟨rfl, rfl⟩
  have hu := inR_true h2
  have Z : Hid (storeOk u = txns u.logs.length u.used u.txns) := by show _ = _; simp [storeOk, H1.out, h2]
  clear h2
  go_wp2_with fail
  refine (txns_any u A0 A1 c0 c1 _ w1 lo b (HV.out.below (S1.out.bel.mono hb) (fun g hg => hg.2)) (Nat.le_trans hb S1.out.bel.size) hf hl hu rfl).mono ?_
  rintro e w2 ⟨rfl, b2⟩
  have B2 := Seg.hid (chain S1.out.bel b2)
  clear b2
  go_wp2
  go_ret
  exact ⟨Seg.ret_bool Z.out.symm, B2.out⟩
end Go.Proofs.Ytdhicmbfknagjaa.SoJ
