/- WantsOk of the model. -/
import Derived.Test.YthohpaljkbnkeaaWsS
import Derived.Test.YthohpaljkbnkeaaWnP
import Derived.Test.YthohpaljkbnkeaaWnN
namespace Go.Proofs.Ythohpaljkbnkeaa.WnS
set_option maxRecDepth 8000
open Go.RowKit
open Ls Lp WnP WsS
open TpP (sl aheadO)
open Recs (hsz below1 below2 chain)
set_option linter.unusedVariables false
theorem take_any {l : List Wnt} {j k : Nat} {p : Wnt → Bool} (h : j < k) (hk : k ≤ l.length) (hp : p (l.getD j default) = true) : (l.take k).any p = true := by
  simp only [List.any_eq_true]
  refine ⟨l.getD j default, ?_, hp⟩
  have e : l.getD j default = (l.take k)[j]'(by rw [List.length_take]; omega) := by simp [show j < l.length by omega]
  rw [e]
  exact List.getElem_mem _
theorem take_next {l : List Wnt} {j : Nat} {p : Wnt → Bool} (h : j < l.length) (h1 : (l.take j).any p = false) (hp : p (l.getD j default) = false) : (l.take (j + 1)).any p = false := by
  have e : l.take (j + 1) = l.take j ++ [l.getD j default] := by
    rw [List.take_add_one, List.getElem?_eq_getElem h]
    simp [h]
  rw [e, List.any_append, h1]
  generalize l.getD j default = x at *
  simp [hp]
/-- What stands: a Want's copy in block pr. -/
structure Wr (w wx : World) (pr : Nat) (tk : Wnt) (A1 A2 : Option Addr) (c1 c2 : Nat) : Prop where
  rr : wx.heap[pr]? = some (.cells #[.string tk.name, .slice A1 tk.wants.length c1, .slice A2 tk.has.length c2] 73 (0, 0))
  bel : Below w.heap.size w wx
theorem Wr.next {w wx w' : World} {pr : Nat} {tk : Wnt} {A1 A2 : Option Addr} {c1 c2 : Nat} (h : Wr w wx pr tk A1 A2 c1 c2) (b : Below wx.heap.size wx w') : Wr w w' pr tk A1 A2 c1 c2 :=
  ⟨(b.block pr (Array.getElem?_eq_some_iff.1 h.rr).1).trans h.rr, chain h.bel b⟩
theorem Wr.cells {w wx : World} {pr : Nat} {tk : Wnt} {A1 A2 : Option Addr} {c1 c2 : Nat} (h : Wr w wx pr tk A1 A2 c1 c2) : wx.cell? ⟨pr, 0, none⟩ = some (.string tk.name) ∧ wx.cell? ⟨pr, 1, none⟩ = some (.slice A1 tk.wants.length c1) ∧ wx.cell? ⟨pr, 2, none⟩ = some (.slice A2 tk.has.length c2) :=
  ⟨cell_of_row wx _ 0 _ _ (0, 0) h.rr, cell_of_row wx _ 1 _ _ (0, 0) h.rr, cell_of_row wx _ 2 _ _ (0, 0) h.rr⟩
set_option maxHeartbeats 12800000 in
theorem spec_any (x : Value) (l : List Wnt) (w : World) (S : Nat → Prop) (hv : LAt 3 EWnt w S x l) (hS : ∀ g, S g → g < w.heap.size) (hf : szL szWnt l ≤ 1048576) :
    Calls Try.prog 17 #[x] w fun e w' => e = .returned (.bool (wants l)) ∧ Below w.heap.size w w' := by
  obtain ⟨A, c, g, o, F, rfl, OA, n3⟩ := opn hv hS
  have HA := Seg.hid OA
  have hn : l.length ≤ 1048576 := szL_len _ hf
  have HL : Hid (∀ i, i < l.length → szWnt (l.getD i default) ≤ 1048576) := fun i hi => szL_one _ hf hi
  have HLN : Hid (∀ i, i < l.length → (l.getD i default).has.length ≤ 1048576) := fun i hi => by
    have := HL.out i hi
    exact szL_len szSlt (l := 1048576) (by unfold szWnt at this; omega)
  clear hv OA hf n3
  go_enter Try.func17, Try.ntmps17
  by_cases h1 : l.length ≤ 30
  case neg =>
    have Z : Hid (wants l = false) := by show _ = _; simp [wants, h1]
    go_wp2
    go_ret
    exact ⟨Seg.ret_bool Z.out.symm, Below.refl _ _⟩
  have KS : Hid (wants l = wns l 0) := by show _ = _; simp [wants, h1]
  have no : ∀ (w' : World), wants l = false → Below w.heap.size w w' → (Ending.returned (.bool false) = .returned (.bool (wants l)) ∧ Below w.heap.size w w') := fun w' h b => ⟨by rw [h], b⟩
  have NO := Seg.hid no
  clear no
  go_wp2_with fail
  go_loopw [3] (fun i wr => ∃ (k : Nat), k ≤ l.length ∧ i = .int .i64 k ∧ Hid (wns l k = wants l ∧ Below w.heap.size w wr)) (fun i _ => l.length - (intOf i).toNat)
  case atStart => exact ⟨0, Nat.zero_le _, rfl, KS.out.symm, Below.refl _ _⟩
  case round =>
    clear KS
    obtain ⟨k, hk, rfl, HR⟩ := hrel
    by_cases hlt : k < l.length
    · obtain ⟨ea, hc, hga⟩ := HA.out.addr.resolve_left (by omega)
      have OL := HA.out.later keepsWnt hS HR.out.2
      obtain ⟨A1, c1, A2, c2, ⟨d0w, d1w, d2w⟩, SN, SH⟩ := wnt_cells (i := k) (fun j hj => HA.out.cells k hlt j hj) (HA.out.el k hlt)
      have d0 := (HR.out.2.cell (p := ⟨g, o + k * 3, none⟩) hga).trans d0w
      have d1 := (HR.out.2.cell (p := ⟨g, o + k * 3 + 1, none⟩) hga).trans d1w
      have d2 := (HR.out.2.cell (p := ⟨g, o + k * 3 + 2, none⟩) hga).trans d2w
      have PV : Hid (0 < k → wr.cell? ⟨g, o + (k - 1) * 3, none⟩ = some (.string (l.getD (k - 1) default).name) ∧ pvs l k = some (l.getD (k - 1) default)) := fun h => by
        obtain ⟨_, _, _, _, ⟨e0, _, _⟩, _⟩ := wnt_cells (i := k - 1) (fun j hj => OL.cells (k - 1) (by omega) j hj) (OL.el (k - 1) (by omega))
        exact ⟨e0, pvs_pos l h⟩
      have P0 : Hid (k = 0 → pvs l k = none) := fun h => by rw [h]; exact pvs_zero l
      have SNH := Seg.hid SN
      have SHH := Seg.hid SH
      have h0 : (0 : Int) ≤ (k : Int) := by omega
      have h1' : (k : Int) < (l.length : Int) := by omega
      have hgr : g < wr.heap.size := Nat.lt_of_lt_of_le hga HR.out.2.size
      have hSr : ∀ y, S y → y < wr.heap.size := fun y hy => Nat.lt_of_lt_of_le (hS y hy) HR.out.2.size
      have ZL := HL.out k hlt
      have NS : (l.getD k default).name.size ≤ maxLen := by unfold szWnt at ZL; unfold maxLen; omega
      have ZN1 : Hid (szL ByteArray.size (l.getD k default).wants ≤ 1048576) := by show _ ≤ _; unfold szWnt at ZL; omega
      have ZN2 : Hid (szL szSlt (l.getD k default).has ≤ 1048576) := by show _ ≤ _; unfold szWnt at ZL; omega
      have hhl : (l.getD k default).has.length ≤ 1048576 := HLN.out k hlt
      have HD := HR.out.1
      rw [wns_step hlt] at HD
      have HD' := Seg.hid HD
      have WX : Hid (wn l k = (okW (pvs l k) (l.getD k default) && !((l.take k).any fun m => meet m (l.getD k default)))) := rfl
      obtain ⟨A2', c2', gp, op, Fp, g4, OP, _⟩ := opn SH hS
      simp only [Value.slice.injEq, true_and] at g4
      obtain ⟨rfl, rfl⟩ := g4
      have OH : Hid (Opn 2 ESlt w S A2 c2 (l.getD k default).has gp op Fp) := OP
      clear HD OL SN SH OP ZL d0w d1w d2w
      generalize l.getD k default = tk at *
      generalize pvs l k = pk at *
      subst ea
      have ZW : Hid (okW pk tk = false → wants l = false) := fun h => by rw [← HD'.out, WX.out, h]; rfl
      have ZC : Hid ((l.take k).any (fun m => meet m tk) = true → wants l = false) := fun h => by rw [← HD'.out, WX.out, h]; simp
      have ZYY : Hid (okW pk tk = true → (l.take k).any (fun m => meet m tk) = false → wns l (k + 1) = wants l) := fun h h' => by rw [← HD'.out, WX.out, h, h']; rfl
      have R0 : Hid (Wr w (wr.alloc (.cells #[.string tk.name, .slice A1 tk.wants.length c1, .slice A2 tk.has.length c2] 73 (0, 0))) wr.heap.size tk A1 A2 c1 c2) := ⟨heap_alloc_new _ _, chain HR.out.2 (below1 wr _)⟩
      have BA : Hid (Below wr.heap.size wr (wr.alloc (.cells #[.string tk.name, .slice A1 tk.wants.length c1, .slice A2 tk.has.length c2] 73 (0, 0)))) := below1 wr _
      have PV2 : Hid (0 < k → (wr.alloc (.cells #[.string tk.name, .slice A1 tk.wants.length c1, .slice A2 tk.has.length c2] 73 (0, 0))).cell? ⟨g, o + (k - 1) * 3, none⟩ = some (.string (l.getD (k - 1) default).name) ∧ pk = some (l.getD (k - 1) default)) := fun h => ⟨((below1 wr _).cell (p := ⟨g, o + (k - 1) * 3, none⟩) hgr).trans (PV.out h).1, (PV.out h).2⟩
      have hgi : g < (wr.alloc (.cells #[.string tk.name, .slice A1 tk.wants.length c1, .slice A2 tk.has.length c2] 73 (0, 0))).heap.size := by rw [hsz]; omega
      go_upto_region 7 with fail
      generalize wr.alloc (.cells #[.string tk.name, .slice A1 tk.wants.length c1, .slice A2 tk.has.length c2] 73 (0, 0)) = wi at *
      clear d0 d1 d2 PV
      have NC : Hid (∀ wx, Below wi.heap.size wi wx → Calls Try.prog 43 #[.slice A1 tk.wants.length c1] wx fun e w' => e = .returned (.bool (names tk.wants)) ∧ Below wx.heap.size wx w') := fun wx bx => WnN.names_any _ tk.wants wx S (SNH.out.below keepsStr (chain R0.out.bel bx) hS) (fun y hy => Nat.lt_of_lt_of_le (hS y hy) (chain R0.out.bel bx).size) ZN1.out
      have SC : Hid (∀ wx, Below wi.heap.size wi wx → Calls Try.prog 44 #[.slice A2 tk.has.length c2] wx fun e w' => e = .returned (.bool (slots tk.has)) ∧ Below wx.heap.size wx w') := fun wx bx => WsS.slots_any _ tk.has wx S (SHH.out.below keepsSlt (chain R0.out.bel bx) hS) (fun y hy => Nat.lt_of_lt_of_le (hS y hy) (chain R0.out.bel bx).size) ZN2.out
      obtain ⟨p0, p1, p2⟩ := R0.out.cells
      have hpri : wr.heap.size < wi.heap.size := (Array.getElem?_eq_some_iff.1 R0.out.rr).1
      generalize wr.heap.size = pr at *
      cases b1 : Nm.nameOk tk.name with
      | false =>
        have Z := Seg.hid (ZW.out (by simp [okW, b1]))
        have KN := Seg.hid b1
        clear b1
        go_quiet (first | (go_at_call 9; refine Calls.quiet_of_same (Nm.spec_q _ _ KN.out _ NS)))
        go_wp2
        go_ret
        exact NO.out _ Z.out (chain R0.out.bel ((Qt.refl _).drewN _ |>.bel _))
      | true =>
      have KN := Seg.hid b1
      clear b1
      by_cases hk0 : k = 0
      · have hgd : decide ((0 : Int) < (k : Int)) = false := decide_eq_false (by omega)
        have hgd2 : decide (0 < k) = false := decide_eq_false (by omega)
        have hgd3 : ¬ 0 < k := by omega
        have HPV := Seg.hid (P0.out hk0)
        have ST : Hid (∀ wx, Below wi.heap.size wi wx → wx.cell? ⟨pr, 0, none⟩ = some (.string tk.name) ∧ wx.cell? ⟨pr, 1, none⟩ = some (.slice A1 tk.wants.length c1) ∧ wx.cell? ⟨pr, 2, none⟩ = some (.slice A2 tk.has.length c2)) := fun wx bx => ⟨(bx.cell (p := ⟨pr, 0, none⟩) hpri).trans p0, (bx.cell (p := ⟨pr, 1, none⟩) hpri).trans p1, (bx.cell (p := ⟨pr, 2, none⟩) hpri).trans p2⟩
        clear P0 PV2
        cases hnm : names tk.wants with
        | false =>
          have Z := Seg.hid (ZW.out (by simp [okW, hnm]))
          have HN := Seg.hid hnm
          clear hnm
          refine wp_region_held_drew (S := (fun w' => w'.cell? ⟨pr, 0, none⟩ = some (.string tk.name) ∧ w'.cell? ⟨pr, 1, none⟩ = some (.slice A1 tk.wants.length c1) ∧ w'.cell? ⟨pr, 2, none⟩ = some (.slice A2 tk.has.length c2))) (by kernel_rfl) (ST.out _ (Below.refl _ _).drew) (fun hHeld => ?_)
          refine Hd.take 0 (some 20) (.pointer (some ⟨pr, 0, none⟩)) rfl rfl (by kernel_rfl) (by kernel_rfl) (by kernel_rfl) (fun _ _ _ h => h) (by rfl) (by intro w hSw; (try dsimp only at hSw); go_simp) (by assumption) ?_
          try simp only [Act.put, List.setIfInBounds_toArray, List.set_cons_zero, List.set_cons_succ]
          refine Hd.take 1 (some 21) (.string tk.name) rfl rfl (by kernel_rfl) (by kernel_rfl) (by kernel_rfl) (fun _ _ _ h => h) (by rfl) (by intro w hSw; (try dsimp only at hSw); go_simp) (by assumption) ?_
          try simp only [Act.put, List.setIfInBounds_toArray, List.set_cons_zero, List.set_cons_succ]
          refine wpAnyH_ready (rs := [2]) (by kernel_rfl) (by simp) ?_
          refine AllReadyH.cons (o := { dst := some 22, op := Op.call { callee := Callee.value (Operand.func 9), args := #[Operand.tmp 21], argTypes := #[9] }, type := 4, pos := "l09_assign.go:73", after := #[{ on := 1, ground := Ground.data }], guard := none }) rfl (fun K hK => ?_) AllReadyH.nil
          (go_simp; go_at_call 9; refine (Nm.spec_q _ _ KN.out _ NS).mono ?_; rintro e w7 ⟨rfl, rfl⟩; try (go_wp2_with fail))
          refine hK.out _ _ (ST.out _ (Below.refl _ _).drew) (fun hHeld => ?_)
          clear hK K
          try simp only [Act.put, List.setIfInBounds_toArray, List.set_cons_zero, List.set_cons_succ]
          refine Hd.take 3 (some 23) (.bool false) rfl rfl (by kernel_rfl) (by kernel_rfl) (by kernel_rfl) (fun _ _ _ h => h) (by rfl) (by intro w hSw; (try dsimp only at hSw); go_simp) (by assumption) ?_
          try simp only [Act.put, List.setIfInBounds_toArray, List.set_cons_zero, List.set_cons_succ]
          refine Hd.take 4 (some 24) (.bool false) rfl rfl (by kernel_rfl) (by kernel_rfl) (by kernel_rfl) (fun _ _ _ h => h) (by rfl) (by intro w hSw; (try dsimp only at hSw); go_simp) (by assumption) ?_
          try simp only [Act.put, List.setIfInBounds_toArray, List.set_cons_zero, List.set_cons_succ]
          refine Hd.take 5 (some 25) (.int .i64 (k : Int)) rfl rfl (by kernel_rfl) (by kernel_rfl) (by kernel_rfl) (fun _ _ _ h => h) (by rfl) (by intro w hSw; (try dsimp only at hSw); go_simp) (by assumption) ?_
          try simp only [Act.put, List.setIfInBounds_toArray, List.set_cons_zero, List.set_cons_succ]
          refine Hd.take 6 (some 26) (.bool false) rfl rfl (by kernel_rfl) (by kernel_rfl) (by kernel_rfl) (fun _ _ _ h => h) (by rfl) (by intro w hSw; (try dsimp only at hSw); go_simp) (by assumption) ?_
          try simp only [Act.put, List.setIfInBounds_toArray, List.set_cons_zero, List.set_cons_succ]
          refine Hd.take 7 (some 27) (.bool false) rfl rfl (by kernel_rfl) (by kernel_rfl) (by kernel_rfl) (fun _ _ _ h => h) (by rfl) (by intro w hSw; (try dsimp only at hSw); go_simp) (by assumption) ?_
          try simp only [Act.put, List.setIfInBounds_toArray, List.set_cons_zero, List.set_cons_succ]
          refine Hd.skip 8 (some 28) rfl rfl (by kernel_rfl) (by kernel_rfl) (by kernel_rfl) (fun _ _ _ h => h) (by rfl) (by assumption) ?_
          try simp only [Act.put, List.setIfInBounds_toArray, List.set_cons_zero, List.set_cons_succ]
          refine Hd.skip 9 (some 29) rfl rfl (by kernel_rfl) (by kernel_rfl) (by kernel_rfl) (fun _ _ _ h => h) (by rfl) (by assumption) ?_
          try simp only [Act.put, List.setIfInBounds_toArray, List.set_cons_zero, List.set_cons_succ]
          refine Hd.skip 10 (some 30) rfl rfl (by kernel_rfl) (by kernel_rfl) (by kernel_rfl) (fun _ _ _ h => h) (by rfl) (by assumption) ?_
          try simp only [Act.put, List.setIfInBounds_toArray, List.set_cons_zero, List.set_cons_succ]
          refine Hd.skip 11 (some 31) rfl rfl (by kernel_rfl) (by kernel_rfl) (by kernel_rfl) (fun _ _ _ h => h) (by rfl) (by assumption) ?_
          try simp only [Act.put, List.setIfInBounds_toArray, List.set_cons_zero, List.set_cons_succ]
          refine Hd.skip 12 (some 32) rfl rfl (by kernel_rfl) (by kernel_rfl) (by kernel_rfl) (fun _ _ _ h => h) (by rfl) (by assumption) ?_
          try simp only [Act.put, List.setIfInBounds_toArray, List.set_cons_zero, List.set_cons_succ]
          refine Hd.skip 13 (some 33) rfl rfl (by kernel_rfl) (by kernel_rfl) (by kernel_rfl) (fun _ _ _ h => h) (by rfl) (by assumption) ?_
          try simp only [Act.put, List.setIfInBounds_toArray, List.set_cons_zero, List.set_cons_succ]
          refine Hd.skip 14 (some 34) rfl rfl (by kernel_rfl) (by kernel_rfl) (by kernel_rfl) (fun _ _ _ h => h) (by rfl) (by assumption) ?_
          try simp only [Act.put, List.setIfInBounds_toArray, List.set_cons_zero, List.set_cons_succ]
          refine Hd.skip 15 (some 35) rfl rfl (by kernel_rfl) (by kernel_rfl) (by kernel_rfl) (fun _ _ _ h => h) (by rfl) (by assumption) ?_
          try simp only [Act.put, List.setIfInBounds_toArray, List.set_cons_zero, List.set_cons_succ]
          refine Hd.skip 16 (some 36) rfl rfl (by kernel_rfl) (by kernel_rfl) (by kernel_rfl) (fun _ _ _ h => h) (by rfl) (by assumption) ?_
          try simp only [Act.put, List.setIfInBounds_toArray, List.set_cons_zero, List.set_cons_succ]
          refine Hd.take 17 (some 37) (.bool false) rfl rfl (by kernel_rfl) (by kernel_rfl) (by kernel_rfl) (fun _ _ _ h => h) (by rfl) (by intro w hSw; (try dsimp only at hSw); go_simp) (by assumption) ?_
          try simp only [Act.put, List.setIfInBounds_toArray, List.set_cons_zero, List.set_cons_succ]
          refine Hd.take 18 (some 38) (.bool false) rfl rfl (by kernel_rfl) (by kernel_rfl) (by kernel_rfl) (fun _ _ _ h => h) (by rfl) (by intro w hSw; (try dsimp only at hSw); go_simp) (by assumption) ?_
          try simp only [Act.put, List.setIfInBounds_toArray, List.set_cons_zero, List.set_cons_succ]
          refine Hd.take 19 (some 39) (.bool false) rfl rfl (by kernel_rfl) (by kernel_rfl) (by kernel_rfl) (fun _ _ _ h => h) (by rfl) (by intro w hSw; (try dsimp only at hSw); go_simp) (by assumption) ?_
          try simp only [Act.put, List.setIfInBounds_toArray, List.set_cons_zero, List.set_cons_succ]
          refine Hd.take 20 (some 40) (.pointer (some ⟨pr, 1, none⟩)) rfl rfl (by kernel_rfl) (by kernel_rfl) (by kernel_rfl) (fun _ _ _ h => h) (by rfl) (by intro w hSw; (try dsimp only at hSw); go_simp) (by assumption) ?_
          try simp only [Act.put, List.setIfInBounds_toArray, List.set_cons_zero, List.set_cons_succ]
          refine Hd.take 21 (some 41) (.slice A1 tk.wants.length c1) rfl rfl (by kernel_rfl) (by kernel_rfl) (by kernel_rfl) (fun _ _ _ h => h) (by rfl) (by intro w hSw; (try dsimp only at hSw); go_simp) (by assumption) ?_
          try simp only [Act.put, List.setIfInBounds_toArray, List.set_cons_zero, List.set_cons_succ]
          refine wpAnyH_ready (rs := [22]) (by kernel_rfl) (by simp) ?_
          refine AllReadyH.cons (o := { dst := some 42, op := Op.call { callee := Callee.value (Operand.func 43), args := #[Operand.tmp 41], argTypes := #[67] }, type := 4, pos := "l09_assign.go:73", after := #[{ on := 21, ground := Ground.data }, { on := 19, ground := Ground.chain }, { on := 19, ground := Ground.guard }], guard := some (19, false) }) rfl (fun K hK => ?_) AllReadyH.nil
          (go_simp; go_at_call 43; refine (NC.out wi.drew (Below.refl _ _).drew).mono ?_; rintro e w8 ⟨rfl, b8⟩; rw [HN.out]; have B8 : Hid (Below wi.heap.size wi w8) := ⟨b8.os, b8.tape, b8.output, b8.size, b8.block⟩; clear b8; try (go_wp2_with fail))
          refine hK.out _ _ (ST.out _ B8.out) (fun hHeld => ?_)
          clear hK K
          try simp only [Act.put, List.setIfInBounds_toArray, List.set_cons_zero, List.set_cons_succ]
          refine Hd.take 23 (some 43) (.bool true) rfl rfl (by kernel_rfl) (by kernel_rfl) (by kernel_rfl) (fun _ _ _ h => h) (by rfl) (by intro w hSw; (try dsimp only at hSw); go_simp) (by assumption) ?_
          try simp only [Act.put, List.setIfInBounds_toArray, List.set_cons_zero, List.set_cons_succ]
          refine Hd.take 24 (some 44) (.bool true) rfl rfl (by kernel_rfl) (by kernel_rfl) (by kernel_rfl) (fun _ _ _ h => h) (by rfl) (by intro w hSw; (try dsimp only at hSw); go_simp) (by assumption) ?_
          try simp only [Act.put, List.setIfInBounds_toArray, List.set_cons_zero, List.set_cons_succ]
          refine Hd.take 25 (some 45) (.bool true) rfl rfl (by kernel_rfl) (by kernel_rfl) (by kernel_rfl) (fun _ _ _ h => h) (by rfl) (by intro w hSw; (try dsimp only at hSw); go_simp) (by assumption) ?_
          try simp only [Act.put, List.setIfInBounds_toArray, List.set_cons_zero, List.set_cons_succ]
          refine Hd.skip 26 (some 46) rfl rfl (by kernel_rfl) (by kernel_rfl) (by kernel_rfl) (fun _ _ _ h => h) (by rfl) (by assumption) ?_
          try simp only [Act.put, List.setIfInBounds_toArray, List.set_cons_zero, List.set_cons_succ]
          refine Hd.skip 27 (some 47) rfl rfl (by kernel_rfl) (by kernel_rfl) (by kernel_rfl) (fun _ _ _ h => h) (by rfl) (by assumption) ?_
          try simp only [Act.put, List.setIfInBounds_toArray, List.set_cons_zero, List.set_cons_succ]
          refine Hd.skip 28 (some 48) rfl rfl (by kernel_rfl) (by kernel_rfl) (by kernel_rfl) (fun _ _ _ h => h) (by rfl) (by assumption) ?_
          try simp only [Act.put, List.setIfInBounds_toArray, List.set_cons_zero, List.set_cons_succ]
          refine Hd.skip 29 (some 49) rfl rfl (by kernel_rfl) (by kernel_rfl) (by kernel_rfl) (fun _ _ _ h => h) (by rfl) (by assumption) ?_
          try simp only [Act.put, List.setIfInBounds_toArray, List.set_cons_zero, List.set_cons_succ]
          refine Hd.take 30 (some 50) (.bool true) rfl rfl (by kernel_rfl) (by kernel_rfl) (by kernel_rfl) (fun _ _ _ h => h) (by rfl) (by intro w hSw; (try dsimp only at hSw); go_simp) (by assumption) ?_
          try simp only [Act.put, List.setIfInBounds_toArray, List.set_cons_zero, List.set_cons_succ]
          refine wpAnyH_done (by kernel_rfl) ?_ _
          go_wp2
          go_ret
          exact NO.out _ Z.out (chain R0.out.bel B8.out)
        | true =>
        have HN := Seg.hid hnm
        clear hnm
        cases hsl : slots tk.has with
        | false =>
          have Z := Seg.hid (ZW.out (by simp [okW, hsl]))
          have HSL := Seg.hid hsl
          clear hsl
          refine wp_region_held_drew (S := (fun w' => w'.cell? ⟨pr, 0, none⟩ = some (.string tk.name) ∧ w'.cell? ⟨pr, 1, none⟩ = some (.slice A1 tk.wants.length c1) ∧ w'.cell? ⟨pr, 2, none⟩ = some (.slice A2 tk.has.length c2))) (by kernel_rfl) (ST.out _ (Below.refl _ _).drew) (fun hHeld => ?_)
          refine Hd.take 0 (some 20) (.pointer (some ⟨pr, 0, none⟩)) rfl rfl (by kernel_rfl) (by kernel_rfl) (by kernel_rfl) (fun _ _ _ h => h) (by rfl) (by intro w hSw; (try dsimp only at hSw); go_simp) (by assumption) ?_
          try simp only [Act.put, List.setIfInBounds_toArray, List.set_cons_zero, List.set_cons_succ]
          refine Hd.take 1 (some 21) (.string tk.name) rfl rfl (by kernel_rfl) (by kernel_rfl) (by kernel_rfl) (fun _ _ _ h => h) (by rfl) (by intro w hSw; (try dsimp only at hSw); go_simp) (by assumption) ?_
          try simp only [Act.put, List.setIfInBounds_toArray, List.set_cons_zero, List.set_cons_succ]
          refine wpAnyH_ready (rs := [2]) (by kernel_rfl) (by simp) ?_
          refine AllReadyH.cons (o := { dst := some 22, op := Op.call { callee := Callee.value (Operand.func 9), args := #[Operand.tmp 21], argTypes := #[9] }, type := 4, pos := "l09_assign.go:73", after := #[{ on := 1, ground := Ground.data }], guard := none }) rfl (fun K hK => ?_) AllReadyH.nil
          (go_simp; go_at_call 9; refine (Nm.spec_q _ _ KN.out _ NS).mono ?_; rintro e w7 ⟨rfl, rfl⟩; try (go_wp2_with fail))
          refine hK.out _ _ (ST.out _ (Below.refl _ _).drew) (fun hHeld => ?_)
          clear hK K
          try simp only [Act.put, List.setIfInBounds_toArray, List.set_cons_zero, List.set_cons_succ]
          refine Hd.take 3 (some 23) (.bool false) rfl rfl (by kernel_rfl) (by kernel_rfl) (by kernel_rfl) (fun _ _ _ h => h) (by rfl) (by intro w hSw; (try dsimp only at hSw); go_simp) (by assumption) ?_
          try simp only [Act.put, List.setIfInBounds_toArray, List.set_cons_zero, List.set_cons_succ]
          refine Hd.take 4 (some 24) (.bool false) rfl rfl (by kernel_rfl) (by kernel_rfl) (by kernel_rfl) (fun _ _ _ h => h) (by rfl) (by intro w hSw; (try dsimp only at hSw); go_simp) (by assumption) ?_
          try simp only [Act.put, List.setIfInBounds_toArray, List.set_cons_zero, List.set_cons_succ]
          refine Hd.take 5 (some 25) (.int .i64 (k : Int)) rfl rfl (by kernel_rfl) (by kernel_rfl) (by kernel_rfl) (fun _ _ _ h => h) (by rfl) (by intro w hSw; (try dsimp only at hSw); go_simp) (by assumption) ?_
          try simp only [Act.put, List.setIfInBounds_toArray, List.set_cons_zero, List.set_cons_succ]
          refine Hd.take 6 (some 26) (.bool false) rfl rfl (by kernel_rfl) (by kernel_rfl) (by kernel_rfl) (fun _ _ _ h => h) (by rfl) (by intro w hSw; (try dsimp only at hSw); go_simp) (by assumption) ?_
          try simp only [Act.put, List.setIfInBounds_toArray, List.set_cons_zero, List.set_cons_succ]
          refine Hd.take 7 (some 27) (.bool false) rfl rfl (by kernel_rfl) (by kernel_rfl) (by kernel_rfl) (fun _ _ _ h => h) (by rfl) (by intro w hSw; (try dsimp only at hSw); go_simp) (by assumption) ?_
          try simp only [Act.put, List.setIfInBounds_toArray, List.set_cons_zero, List.set_cons_succ]
          refine Hd.skip 8 (some 28) rfl rfl (by kernel_rfl) (by kernel_rfl) (by kernel_rfl) (fun _ _ _ h => h) (by rfl) (by assumption) ?_
          try simp only [Act.put, List.setIfInBounds_toArray, List.set_cons_zero, List.set_cons_succ]
          refine Hd.skip 9 (some 29) rfl rfl (by kernel_rfl) (by kernel_rfl) (by kernel_rfl) (fun _ _ _ h => h) (by rfl) (by assumption) ?_
          try simp only [Act.put, List.setIfInBounds_toArray, List.set_cons_zero, List.set_cons_succ]
          refine Hd.skip 10 (some 30) rfl rfl (by kernel_rfl) (by kernel_rfl) (by kernel_rfl) (fun _ _ _ h => h) (by rfl) (by assumption) ?_
          try simp only [Act.put, List.setIfInBounds_toArray, List.set_cons_zero, List.set_cons_succ]
          refine Hd.skip 11 (some 31) rfl rfl (by kernel_rfl) (by kernel_rfl) (by kernel_rfl) (fun _ _ _ h => h) (by rfl) (by assumption) ?_
          try simp only [Act.put, List.setIfInBounds_toArray, List.set_cons_zero, List.set_cons_succ]
          refine Hd.skip 12 (some 32) rfl rfl (by kernel_rfl) (by kernel_rfl) (by kernel_rfl) (fun _ _ _ h => h) (by rfl) (by assumption) ?_
          try simp only [Act.put, List.setIfInBounds_toArray, List.set_cons_zero, List.set_cons_succ]
          refine Hd.skip 13 (some 33) rfl rfl (by kernel_rfl) (by kernel_rfl) (by kernel_rfl) (fun _ _ _ h => h) (by rfl) (by assumption) ?_
          try simp only [Act.put, List.setIfInBounds_toArray, List.set_cons_zero, List.set_cons_succ]
          refine Hd.skip 14 (some 34) rfl rfl (by kernel_rfl) (by kernel_rfl) (by kernel_rfl) (fun _ _ _ h => h) (by rfl) (by assumption) ?_
          try simp only [Act.put, List.setIfInBounds_toArray, List.set_cons_zero, List.set_cons_succ]
          refine Hd.skip 15 (some 35) rfl rfl (by kernel_rfl) (by kernel_rfl) (by kernel_rfl) (fun _ _ _ h => h) (by rfl) (by assumption) ?_
          try simp only [Act.put, List.setIfInBounds_toArray, List.set_cons_zero, List.set_cons_succ]
          refine Hd.skip 16 (some 36) rfl rfl (by kernel_rfl) (by kernel_rfl) (by kernel_rfl) (fun _ _ _ h => h) (by rfl) (by assumption) ?_
          try simp only [Act.put, List.setIfInBounds_toArray, List.set_cons_zero, List.set_cons_succ]
          refine Hd.take 17 (some 37) (.bool false) rfl rfl (by kernel_rfl) (by kernel_rfl) (by kernel_rfl) (fun _ _ _ h => h) (by rfl) (by intro w hSw; (try dsimp only at hSw); go_simp) (by assumption) ?_
          try simp only [Act.put, List.setIfInBounds_toArray, List.set_cons_zero, List.set_cons_succ]
          refine Hd.take 18 (some 38) (.bool false) rfl rfl (by kernel_rfl) (by kernel_rfl) (by kernel_rfl) (fun _ _ _ h => h) (by rfl) (by intro w hSw; (try dsimp only at hSw); go_simp) (by assumption) ?_
          try simp only [Act.put, List.setIfInBounds_toArray, List.set_cons_zero, List.set_cons_succ]
          refine Hd.take 19 (some 39) (.bool false) rfl rfl (by kernel_rfl) (by kernel_rfl) (by kernel_rfl) (fun _ _ _ h => h) (by rfl) (by intro w hSw; (try dsimp only at hSw); go_simp) (by assumption) ?_
          try simp only [Act.put, List.setIfInBounds_toArray, List.set_cons_zero, List.set_cons_succ]
          refine Hd.take 20 (some 40) (.pointer (some ⟨pr, 1, none⟩)) rfl rfl (by kernel_rfl) (by kernel_rfl) (by kernel_rfl) (fun _ _ _ h => h) (by rfl) (by intro w hSw; (try dsimp only at hSw); go_simp) (by assumption) ?_
          try simp only [Act.put, List.setIfInBounds_toArray, List.set_cons_zero, List.set_cons_succ]
          refine Hd.take 21 (some 41) (.slice A1 tk.wants.length c1) rfl rfl (by kernel_rfl) (by kernel_rfl) (by kernel_rfl) (fun _ _ _ h => h) (by rfl) (by intro w hSw; (try dsimp only at hSw); go_simp) (by assumption) ?_
          try simp only [Act.put, List.setIfInBounds_toArray, List.set_cons_zero, List.set_cons_succ]
          refine wpAnyH_ready (rs := [22]) (by kernel_rfl) (by simp) ?_
          refine AllReadyH.cons (o := { dst := some 42, op := Op.call { callee := Callee.value (Operand.func 43), args := #[Operand.tmp 41], argTypes := #[67] }, type := 4, pos := "l09_assign.go:73", after := #[{ on := 21, ground := Ground.data }, { on := 19, ground := Ground.chain }, { on := 19, ground := Ground.guard }], guard := some (19, false) }) rfl (fun K hK => ?_) AllReadyH.nil
          (go_simp; go_at_call 43; refine (NC.out wi.drew (Below.refl _ _).drew).mono ?_; rintro e w8 ⟨rfl, b8⟩; rw [HN.out]; have B8 : Hid (Below wi.heap.size wi w8) := ⟨b8.os, b8.tape, b8.output, b8.size, b8.block⟩; clear b8; try (go_wp2_with fail))
          refine hK.out _ _ (ST.out _ B8.out) (fun hHeld => ?_)
          clear hK K
          try simp only [Act.put, List.setIfInBounds_toArray, List.set_cons_zero, List.set_cons_succ]
          refine Hd.take 23 (some 43) (.bool false) rfl rfl (by kernel_rfl) (by kernel_rfl) (by kernel_rfl) (fun _ _ _ h => h) (by rfl) (by intro w hSw; (try dsimp only at hSw); go_simp) (by assumption) ?_
          try simp only [Act.put, List.setIfInBounds_toArray, List.set_cons_zero, List.set_cons_succ]
          refine Hd.take 24 (some 44) (.bool false) rfl rfl (by kernel_rfl) (by kernel_rfl) (by kernel_rfl) (fun _ _ _ h => h) (by rfl) (by intro w hSw; (try dsimp only at hSw); go_simp) (by assumption) ?_
          try simp only [Act.put, List.setIfInBounds_toArray, List.set_cons_zero, List.set_cons_succ]
          refine Hd.take 25 (some 45) (.bool false) rfl rfl (by kernel_rfl) (by kernel_rfl) (by kernel_rfl) (fun _ _ _ h => h) (by rfl) (by intro w hSw; (try dsimp only at hSw); go_simp) (by assumption) ?_
          try simp only [Act.put, List.setIfInBounds_toArray, List.set_cons_zero, List.set_cons_succ]
          refine Hd.take 26 (some 46) (.pointer (some ⟨pr, 2, none⟩)) rfl rfl (by kernel_rfl) (by kernel_rfl) (by kernel_rfl) (fun _ _ _ h => h) (by rfl) (by intro w hSw; (try dsimp only at hSw); go_simp) (by assumption) ?_
          try simp only [Act.put, List.setIfInBounds_toArray, List.set_cons_zero, List.set_cons_succ]
          refine Hd.take 27 (some 47) (.slice A2 tk.has.length c2) rfl rfl (by kernel_rfl) (by kernel_rfl) (by kernel_rfl) (fun _ _ _ h => h) (by rfl) (by intro w hSw; (try dsimp only at hSw); go_simp) (by assumption) ?_
          try simp only [Act.put, List.setIfInBounds_toArray, List.set_cons_zero, List.set_cons_succ]
          refine wpAnyH_ready (rs := [28]) (by kernel_rfl) (by simp) ?_
          refine AllReadyH.cons (o := { dst := some 48, op := Op.call { callee := Callee.value (Operand.func 44), args := #[Operand.tmp 47], argTypes := #[71] }, type := 4, pos := "l09_assign.go:73", after := #[{ on := 27, ground := Ground.data }, { on := 25, ground := Ground.chain }, { on := 25, ground := Ground.guard }], guard := some (25, false) }) rfl (fun K hK => ?_) AllReadyH.nil
          (go_simp; go_at_call 44; refine (SC.out w8 B8.out).mono ?_; rintro e w9 ⟨rfl, b9⟩; rw [HSL.out]; have B9 : Hid (Below wi.heap.size wi w9) := chain B8.out b9; clear b9; try (go_wp2_with fail))
          refine hK.out _ _ (ST.out _ B9.out) (fun hHeld => ?_)
          clear hK K
          try simp only [Act.put, List.setIfInBounds_toArray, List.set_cons_zero, List.set_cons_succ]
          refine Hd.take 29 (some 49) (.bool true) rfl rfl (by kernel_rfl) (by kernel_rfl) (by kernel_rfl) (fun _ _ _ h => h) (by rfl) (by intro w hSw; (try dsimp only at hSw); go_simp) (by assumption) ?_
          try simp only [Act.put, List.setIfInBounds_toArray, List.set_cons_zero, List.set_cons_succ]
          refine Hd.take 30 (some 50) (.bool true) rfl rfl (by kernel_rfl) (by kernel_rfl) (by kernel_rfl) (fun _ _ _ h => h) (by rfl) (by intro w hSw; (try dsimp only at hSw); go_simp) (by assumption) ?_
          try simp only [Act.put, List.setIfInBounds_toArray, List.set_cons_zero, List.set_cons_succ]
          refine wpAnyH_done (by kernel_rfl) ?_ _
          go_wp2
          go_ret
          exact NO.out _ Z.out (chain R0.out.bel B9.out)
        | true =>
        have HSL := Seg.hid hsl
        have ZY : Hid ((l.take k).any (fun m => meet m tk) = false → wns l (k + 1) = wants l) := fun h => ZYY.out (by rw [HPV.out]; simp [okW, KN.out, HN.out, hsl, aheadO]) h
        clear hsl
        refine wp_region_held_drew (S := (fun w' => w'.cell? ⟨pr, 0, none⟩ = some (.string tk.name) ∧ w'.cell? ⟨pr, 1, none⟩ = some (.slice A1 tk.wants.length c1) ∧ w'.cell? ⟨pr, 2, none⟩ = some (.slice A2 tk.has.length c2))) (by kernel_rfl) (ST.out _ (Below.refl _ _).drew) (fun hHeld => ?_)
        refine Hd.take 0 (some 20) (.pointer (some ⟨pr, 0, none⟩)) rfl rfl (by kernel_rfl) (by kernel_rfl) (by kernel_rfl) (fun _ _ _ h => h) (by rfl) (by intro w hSw; (try dsimp only at hSw); go_simp) (by assumption) ?_
        try simp only [Act.put, List.setIfInBounds_toArray, List.set_cons_zero, List.set_cons_succ]
        refine Hd.take 1 (some 21) (.string tk.name) rfl rfl (by kernel_rfl) (by kernel_rfl) (by kernel_rfl) (fun _ _ _ h => h) (by rfl) (by intro w hSw; (try dsimp only at hSw); go_simp) (by assumption) ?_
        try simp only [Act.put, List.setIfInBounds_toArray, List.set_cons_zero, List.set_cons_succ]
        refine wpAnyH_ready (rs := [2]) (by kernel_rfl) (by simp) ?_
        refine AllReadyH.cons (o := { dst := some 22, op := Op.call { callee := Callee.value (Operand.func 9), args := #[Operand.tmp 21], argTypes := #[9] }, type := 4, pos := "l09_assign.go:73", after := #[{ on := 1, ground := Ground.data }], guard := none }) rfl (fun K hK => ?_) AllReadyH.nil
        (go_simp; go_at_call 9; refine (Nm.spec_q _ _ KN.out _ NS).mono ?_; rintro e w7 ⟨rfl, rfl⟩; try (go_wp2_with fail))
        refine hK.out _ _ (ST.out _ (Below.refl _ _).drew) (fun hHeld => ?_)
        clear hK K
        try simp only [Act.put, List.setIfInBounds_toArray, List.set_cons_zero, List.set_cons_succ]
        refine Hd.take 3 (some 23) (.bool false) rfl rfl (by kernel_rfl) (by kernel_rfl) (by kernel_rfl) (fun _ _ _ h => h) (by rfl) (by intro w hSw; (try dsimp only at hSw); go_simp) (by assumption) ?_
        try simp only [Act.put, List.setIfInBounds_toArray, List.set_cons_zero, List.set_cons_succ]
        refine Hd.take 4 (some 24) (.bool false) rfl rfl (by kernel_rfl) (by kernel_rfl) (by kernel_rfl) (fun _ _ _ h => h) (by rfl) (by intro w hSw; (try dsimp only at hSw); go_simp) (by assumption) ?_
        try simp only [Act.put, List.setIfInBounds_toArray, List.set_cons_zero, List.set_cons_succ]
        refine Hd.take 5 (some 25) (.int .i64 (k : Int)) rfl rfl (by kernel_rfl) (by kernel_rfl) (by kernel_rfl) (fun _ _ _ h => h) (by rfl) (by intro w hSw; (try dsimp only at hSw); go_simp) (by assumption) ?_
        try simp only [Act.put, List.setIfInBounds_toArray, List.set_cons_zero, List.set_cons_succ]
        refine Hd.take 6 (some 26) (.bool false) rfl rfl (by kernel_rfl) (by kernel_rfl) (by kernel_rfl) (fun _ _ _ h => h) (by rfl) (by intro w hSw; (try dsimp only at hSw); go_simp) (by assumption) ?_
        try simp only [Act.put, List.setIfInBounds_toArray, List.set_cons_zero, List.set_cons_succ]
        refine Hd.take 7 (some 27) (.bool false) rfl rfl (by kernel_rfl) (by kernel_rfl) (by kernel_rfl) (fun _ _ _ h => h) (by rfl) (by intro w hSw; (try dsimp only at hSw); go_simp) (by assumption) ?_
        try simp only [Act.put, List.setIfInBounds_toArray, List.set_cons_zero, List.set_cons_succ]
        refine Hd.skip 8 (some 28) rfl rfl (by kernel_rfl) (by kernel_rfl) (by kernel_rfl) (fun _ _ _ h => h) (by rfl) (by assumption) ?_
        try simp only [Act.put, List.setIfInBounds_toArray, List.set_cons_zero, List.set_cons_succ]
        refine Hd.skip 9 (some 29) rfl rfl (by kernel_rfl) (by kernel_rfl) (by kernel_rfl) (fun _ _ _ h => h) (by rfl) (by assumption) ?_
        try simp only [Act.put, List.setIfInBounds_toArray, List.set_cons_zero, List.set_cons_succ]
        refine Hd.skip 10 (some 30) rfl rfl (by kernel_rfl) (by kernel_rfl) (by kernel_rfl) (fun _ _ _ h => h) (by rfl) (by assumption) ?_
        try simp only [Act.put, List.setIfInBounds_toArray, List.set_cons_zero, List.set_cons_succ]
        refine Hd.skip 11 (some 31) rfl rfl (by kernel_rfl) (by kernel_rfl) (by kernel_rfl) (fun _ _ _ h => h) (by rfl) (by assumption) ?_
        try simp only [Act.put, List.setIfInBounds_toArray, List.set_cons_zero, List.set_cons_succ]
        refine Hd.skip 12 (some 32) rfl rfl (by kernel_rfl) (by kernel_rfl) (by kernel_rfl) (fun _ _ _ h => h) (by rfl) (by assumption) ?_
        try simp only [Act.put, List.setIfInBounds_toArray, List.set_cons_zero, List.set_cons_succ]
        refine Hd.skip 13 (some 33) rfl rfl (by kernel_rfl) (by kernel_rfl) (by kernel_rfl) (fun _ _ _ h => h) (by rfl) (by assumption) ?_
        try simp only [Act.put, List.setIfInBounds_toArray, List.set_cons_zero, List.set_cons_succ]
        refine Hd.skip 14 (some 34) rfl rfl (by kernel_rfl) (by kernel_rfl) (by kernel_rfl) (fun _ _ _ h => h) (by rfl) (by assumption) ?_
        try simp only [Act.put, List.setIfInBounds_toArray, List.set_cons_zero, List.set_cons_succ]
        refine Hd.skip 15 (some 35) rfl rfl (by kernel_rfl) (by kernel_rfl) (by kernel_rfl) (fun _ _ _ h => h) (by rfl) (by assumption) ?_
        try simp only [Act.put, List.setIfInBounds_toArray, List.set_cons_zero, List.set_cons_succ]
        refine Hd.skip 16 (some 36) rfl rfl (by kernel_rfl) (by kernel_rfl) (by kernel_rfl) (fun _ _ _ h => h) (by rfl) (by assumption) ?_
        try simp only [Act.put, List.setIfInBounds_toArray, List.set_cons_zero, List.set_cons_succ]
        refine Hd.take 17 (some 37) (.bool false) rfl rfl (by kernel_rfl) (by kernel_rfl) (by kernel_rfl) (fun _ _ _ h => h) (by rfl) (by intro w hSw; (try dsimp only at hSw); go_simp) (by assumption) ?_
        try simp only [Act.put, List.setIfInBounds_toArray, List.set_cons_zero, List.set_cons_succ]
        refine Hd.take 18 (some 38) (.bool false) rfl rfl (by kernel_rfl) (by kernel_rfl) (by kernel_rfl) (fun _ _ _ h => h) (by rfl) (by intro w hSw; (try dsimp only at hSw); go_simp) (by assumption) ?_
        try simp only [Act.put, List.setIfInBounds_toArray, List.set_cons_zero, List.set_cons_succ]
        refine Hd.take 19 (some 39) (.bool false) rfl rfl (by kernel_rfl) (by kernel_rfl) (by kernel_rfl) (fun _ _ _ h => h) (by rfl) (by intro w hSw; (try dsimp only at hSw); go_simp) (by assumption) ?_
        try simp only [Act.put, List.setIfInBounds_toArray, List.set_cons_zero, List.set_cons_succ]
        refine Hd.take 20 (some 40) (.pointer (some ⟨pr, 1, none⟩)) rfl rfl (by kernel_rfl) (by kernel_rfl) (by kernel_rfl) (fun _ _ _ h => h) (by rfl) (by intro w hSw; (try dsimp only at hSw); go_simp) (by assumption) ?_
        try simp only [Act.put, List.setIfInBounds_toArray, List.set_cons_zero, List.set_cons_succ]
        refine Hd.take 21 (some 41) (.slice A1 tk.wants.length c1) rfl rfl (by kernel_rfl) (by kernel_rfl) (by kernel_rfl) (fun _ _ _ h => h) (by rfl) (by intro w hSw; (try dsimp only at hSw); go_simp) (by assumption) ?_
        try simp only [Act.put, List.setIfInBounds_toArray, List.set_cons_zero, List.set_cons_succ]
        refine wpAnyH_ready (rs := [22]) (by kernel_rfl) (by simp) ?_
        refine AllReadyH.cons (o := { dst := some 42, op := Op.call { callee := Callee.value (Operand.func 43), args := #[Operand.tmp 41], argTypes := #[67] }, type := 4, pos := "l09_assign.go:73", after := #[{ on := 21, ground := Ground.data }, { on := 19, ground := Ground.chain }, { on := 19, ground := Ground.guard }], guard := some (19, false) }) rfl (fun K hK => ?_) AllReadyH.nil
        (go_simp; go_at_call 43; refine (NC.out wi.drew (Below.refl _ _).drew).mono ?_; rintro e w8 ⟨rfl, b8⟩; rw [HN.out]; have B8 : Hid (Below wi.heap.size wi w8) := ⟨b8.os, b8.tape, b8.output, b8.size, b8.block⟩; clear b8; try (go_wp2_with fail))
        refine hK.out _ _ (ST.out _ B8.out) (fun hHeld => ?_)
        clear hK K
        try simp only [Act.put, List.setIfInBounds_toArray, List.set_cons_zero, List.set_cons_succ]
        refine Hd.take 23 (some 43) (.bool false) rfl rfl (by kernel_rfl) (by kernel_rfl) (by kernel_rfl) (fun _ _ _ h => h) (by rfl) (by intro w hSw; (try dsimp only at hSw); go_simp) (by assumption) ?_
        try simp only [Act.put, List.setIfInBounds_toArray, List.set_cons_zero, List.set_cons_succ]
        refine Hd.take 24 (some 44) (.bool false) rfl rfl (by kernel_rfl) (by kernel_rfl) (by kernel_rfl) (fun _ _ _ h => h) (by rfl) (by intro w hSw; (try dsimp only at hSw); go_simp) (by assumption) ?_
        try simp only [Act.put, List.setIfInBounds_toArray, List.set_cons_zero, List.set_cons_succ]
        refine Hd.take 25 (some 45) (.bool false) rfl rfl (by kernel_rfl) (by kernel_rfl) (by kernel_rfl) (fun _ _ _ h => h) (by rfl) (by intro w hSw; (try dsimp only at hSw); go_simp) (by assumption) ?_
        try simp only [Act.put, List.setIfInBounds_toArray, List.set_cons_zero, List.set_cons_succ]
        refine Hd.take 26 (some 46) (.pointer (some ⟨pr, 2, none⟩)) rfl rfl (by kernel_rfl) (by kernel_rfl) (by kernel_rfl) (fun _ _ _ h => h) (by rfl) (by intro w hSw; (try dsimp only at hSw); go_simp) (by assumption) ?_
        try simp only [Act.put, List.setIfInBounds_toArray, List.set_cons_zero, List.set_cons_succ]
        refine Hd.take 27 (some 47) (.slice A2 tk.has.length c2) rfl rfl (by kernel_rfl) (by kernel_rfl) (by kernel_rfl) (fun _ _ _ h => h) (by rfl) (by intro w hSw; (try dsimp only at hSw); go_simp) (by assumption) ?_
        try simp only [Act.put, List.setIfInBounds_toArray, List.set_cons_zero, List.set_cons_succ]
        refine wpAnyH_ready (rs := [28]) (by kernel_rfl) (by simp) ?_
        refine AllReadyH.cons (o := { dst := some 48, op := Op.call { callee := Callee.value (Operand.func 44), args := #[Operand.tmp 47], argTypes := #[71] }, type := 4, pos := "l09_assign.go:73", after := #[{ on := 27, ground := Ground.data }, { on := 25, ground := Ground.chain }, { on := 25, ground := Ground.guard }], guard := some (25, false) }) rfl (fun K hK => ?_) AllReadyH.nil
        (go_simp; go_at_call 44; refine (SC.out w8 B8.out).mono ?_; rintro e w9 ⟨rfl, b9⟩; rw [HSL.out]; have B9 : Hid (Below wi.heap.size wi w9) := chain B8.out b9; clear b9; try (go_wp2_with fail))
        refine hK.out _ _ (ST.out _ B9.out) (fun hHeld => ?_)
        clear hK K
        try simp only [Act.put, List.setIfInBounds_toArray, List.set_cons_zero, List.set_cons_succ]
        refine Hd.take 29 (some 49) (.bool false) rfl rfl (by kernel_rfl) (by kernel_rfl) (by kernel_rfl) (fun _ _ _ h => h) (by rfl) (by intro w hSw; (try dsimp only at hSw); go_simp) (by assumption) ?_
        try simp only [Act.put, List.setIfInBounds_toArray, List.set_cons_zero, List.set_cons_succ]
        refine Hd.take 30 (some 50) (.bool false) rfl rfl (by kernel_rfl) (by kernel_rfl) (by kernel_rfl) (fun _ _ _ h => h) (by rfl) (by intro w hSw; (try dsimp only at hSw); go_simp) (by assumption) ?_
        try simp only [Act.put, List.setIfInBounds_toArray, List.set_cons_zero, List.set_cons_succ]
        refine wpAnyH_done (by kernel_rfl) ?_ _
        have R1 := Seg.hid (R0.out.next B9.out)
        obtain ⟨wp, hwp⟩ : ∃ wp, wp = w9 := ⟨w9, rfl⟩
        subst hwp
        clear B8 B9
        go_wp2_with fail
        go_loopw [5] (fun i wx => ∃ (j : Nat), j ≤ k ∧ i = .int .i64 j ∧ Hid ((l.take j).any (fun m => meet m tk) = false ∧ Wr w wx pr tk A1 A2 c1 c2)) (fun i _ => k - (intOf i).toNat)
        case atStart => exact ⟨0, Nat.zero_le _, rfl, rfl, R1.out⟩
        case round =>
          clear R1
          obtain ⟨j, hj, rfl, HJ⟩ := hrel
          by_cases hlj : j < k
          · exact absurd hlj (by omega)
          · have hj' : k = j := by omega
            subst hj'
            have KL := Seg.hid (ZY.out HJ.out.1)
            go_wp2
            go_roundw
            case rel => exact ⟨k + 1, by omega, by go_num, KL.out, HJ.out.2.bel⟩
            case measure => simp [intOf]; omega
      · obtain ⟨e0, hpk⟩ := PV2.out (by omega)
        have w1 : IntKind.i64.wrap ((k : Int) - 1) = (k : Int) - 1 := by rw [IntKind.wrap_i64] <;> omega
        have k2 : (0 : Int) ≤ (k : Int) - 1 := by omega
        have k3 : (k : Int) - 1 < (l.length : Int) := by omega
        have k4 : (0 : Int) < (k : Int) := by omega
        have k5 : 0 < k := by omega
        have k6 : (1 : Int) ≤ (k : Int) := by omega
        have k7 : 1 ≤ k := by omega
        clear P0 PV2
        generalize l.getD (k - 1) default = pn at *
        have HPV := Seg.hid hpk
        clear hpk
        cases hge : Go.Op.bytesLess pn.name.toList tk.name.toList with
        | false =>
          have Z := Seg.hid (ZW.out (by rw [HPV.out]; simp [okW, aheadO, sl, hge]))
          go_quiet (first | (go_at_call 9; refine Calls.quiet_of_same (Nm.spec_q _ _ KN.out _ NS)))
          go_wp2
          go_ret
          exact NO.out _ Z.out (chain R0.out.bel ((Qt.refl _).drewN _ |>.bel _))
        | true =>
        have ST : Hid (∀ wx, Below wi.heap.size wi wx → wx.cell? ⟨pr, 0, none⟩ = some (.string tk.name) ∧ wx.cell? ⟨pr, 1, none⟩ = some (.slice A1 tk.wants.length c1) ∧ wx.cell? ⟨pr, 2, none⟩ = some (.slice A2 tk.has.length c2) ∧ wx.cell? ⟨g, o + (k - 1) * 3, none⟩ = some (.string pn.name)) := fun wx bx => ⟨(bx.cell (p := ⟨pr, 0, none⟩) hpri).trans p0, (bx.cell (p := ⟨pr, 1, none⟩) hpri).trans p1, (bx.cell (p := ⟨pr, 2, none⟩) hpri).trans p2, (bx.cell (p := ⟨g, o + (k - 1) * 3, none⟩) hgi).trans e0⟩
        cases hnm : names tk.wants with
        | false =>
          have Z := Seg.hid (ZW.out (by simp [okW, hnm]))
          have HN := Seg.hid hnm
          clear hnm
          refine wp_region_held_drew (S := (fun w' => w'.cell? ⟨pr, 0, none⟩ = some (.string tk.name) ∧ w'.cell? ⟨pr, 1, none⟩ = some (.slice A1 tk.wants.length c1) ∧ w'.cell? ⟨pr, 2, none⟩ = some (.slice A2 tk.has.length c2) ∧ w'.cell? ⟨g, o + (k - 1) * 3, none⟩ = some (.string pn.name))) (by kernel_rfl) (ST.out _ (Below.refl _ _).drew) (fun hHeld => ?_)
          refine Hd.take 0 (some 20) (.pointer (some ⟨pr, 0, none⟩)) rfl rfl (by kernel_rfl) (by kernel_rfl) (by kernel_rfl) (fun _ _ _ h => h) (by rfl) (by intro w hSw; (try dsimp only at hSw); go_simp) (by assumption) ?_
          try simp only [Act.put, List.setIfInBounds_toArray, List.set_cons_zero, List.set_cons_succ]
          refine Hd.take 1 (some 21) (.string tk.name) rfl rfl (by kernel_rfl) (by kernel_rfl) (by kernel_rfl) (fun _ _ _ h => h) (by rfl) (by intro w hSw; (try dsimp only at hSw); go_simp) (by assumption) ?_
          try simp only [Act.put, List.setIfInBounds_toArray, List.set_cons_zero, List.set_cons_succ]
          refine wpAnyH_ready (rs := [2]) (by kernel_rfl) (by simp) ?_
          refine AllReadyH.cons (o := { dst := some 22, op := Op.call { callee := Callee.value (Operand.func 9), args := #[Operand.tmp 21], argTypes := #[9] }, type := 4, pos := "l09_assign.go:73", after := #[{ on := 1, ground := Ground.data }], guard := none }) rfl (fun K hK => ?_) AllReadyH.nil
          (go_simp; go_at_call 9; refine (Nm.spec_q _ _ KN.out _ NS).mono ?_; rintro e w7 ⟨rfl, rfl⟩; try (go_wp2_with fail))
          refine hK.out _ _ (ST.out _ (Below.refl _ _).drew) (fun hHeld => ?_)
          clear hK K
          try simp only [Act.put, List.setIfInBounds_toArray, List.set_cons_zero, List.set_cons_succ]
          refine Hd.take 3 (some 23) (.bool false) rfl rfl (by kernel_rfl) (by kernel_rfl) (by kernel_rfl) (fun _ _ _ h => h) (by rfl) (by intro w hSw; (try dsimp only at hSw); go_simp) (by assumption) ?_
          try simp only [Act.put, List.setIfInBounds_toArray, List.set_cons_zero, List.set_cons_succ]
          refine Hd.take 4 (some 24) (.bool false) rfl rfl (by kernel_rfl) (by kernel_rfl) (by kernel_rfl) (fun _ _ _ h => h) (by rfl) (by intro w hSw; (try dsimp only at hSw); go_simp) (by assumption) ?_
          try simp only [Act.put, List.setIfInBounds_toArray, List.set_cons_zero, List.set_cons_succ]
          refine Hd.take 5 (some 25) (.int .i64 (k : Int)) rfl rfl (by kernel_rfl) (by kernel_rfl) (by kernel_rfl) (fun _ _ _ h => h) (by rfl) (by intro w hSw; (try dsimp only at hSw); go_simp) (by assumption) ?_
          try simp only [Act.put, List.setIfInBounds_toArray, List.set_cons_zero, List.set_cons_succ]
          refine Hd.take 6 (some 26) (.bool true) rfl rfl (by kernel_rfl) (by kernel_rfl) (by kernel_rfl) (fun _ _ _ h => h) (by rfl) (by intro w hSw; (try dsimp only at hSw); go_simp) (by assumption) ?_
          try simp only [Act.put, List.setIfInBounds_toArray, List.set_cons_zero, List.set_cons_succ]
          refine Hd.take 7 (some 27) (.bool true) rfl rfl (by kernel_rfl) (by kernel_rfl) (by kernel_rfl) (fun _ _ _ h => h) (by rfl) (by intro w hSw; (try dsimp only at hSw); go_simp) (by assumption) ?_
          try simp only [Act.put, List.setIfInBounds_toArray, List.set_cons_zero, List.set_cons_succ]
          refine Hd.take 8 (some 28) (.slice (some ⟨g, o, none⟩) l.length c) rfl rfl (by kernel_rfl) (by kernel_rfl) (by kernel_rfl) (fun _ _ _ h => h) (by rfl) (by intro w hSw; (try dsimp only at hSw); go_simp) (by assumption) ?_
          try simp only [Act.put, List.setIfInBounds_toArray, List.set_cons_zero, List.set_cons_succ]
          refine Hd.take 9 (some 29) (.int .i64 (k : Int)) rfl rfl (by kernel_rfl) (by kernel_rfl) (by kernel_rfl) (fun _ _ _ h => h) (by rfl) (by intro w hSw; (try dsimp only at hSw); go_simp) (by assumption) ?_
          try simp only [Act.put, List.setIfInBounds_toArray, List.set_cons_zero, List.set_cons_succ]
          refine Hd.take 10 (some 30) (.int .i64 ((k : Int) - 1)) rfl rfl (by kernel_rfl) (by kernel_rfl) (by kernel_rfl) (fun _ _ _ h => h) (by rfl) (by intro w hSw; (try dsimp only at hSw); go_simp) (by assumption) ?_
          try simp only [Act.put, List.setIfInBounds_toArray, List.set_cons_zero, List.set_cons_succ]
          refine Hd.take 11 (some 31) (.pointer (some ⟨g, o + (k - 1) * 3, none⟩)) rfl rfl (by kernel_rfl) (by kernel_rfl) (by kernel_rfl) (fun _ _ _ h => h) (by rfl) (by intro w hSw; (try dsimp only at hSw); go_simp) (by assumption) ?_
          try simp only [Act.put, List.setIfInBounds_toArray, List.set_cons_zero, List.set_cons_succ]
          refine Hd.take 12 (some 32) (.pointer (some ⟨g, o + (k - 1) * 3, none⟩)) rfl rfl (by kernel_rfl) (by kernel_rfl) (by kernel_rfl) (fun _ _ _ h => h) (by rfl) (by intro w hSw; (try dsimp only at hSw); go_simp) (by assumption) ?_
          try simp only [Act.put, List.setIfInBounds_toArray, List.set_cons_zero, List.set_cons_succ]
          refine Hd.take 13 (some 33) (.string pn.name) rfl rfl (by kernel_rfl) (by kernel_rfl) (by kernel_rfl) (fun _ _ _ h => h) (by rfl) (by intro w hSw; (try dsimp only at hSw); go_simp) (by assumption) ?_
          try simp only [Act.put, List.setIfInBounds_toArray, List.set_cons_zero, List.set_cons_succ]
          refine Hd.take 14 (some 34) (.pointer (some ⟨pr, 0, none⟩)) rfl rfl (by kernel_rfl) (by kernel_rfl) (by kernel_rfl) (fun _ _ _ h => h) (by rfl) (by intro w hSw; (try dsimp only at hSw); go_simp) (by assumption) ?_
          try simp only [Act.put, List.setIfInBounds_toArray, List.set_cons_zero, List.set_cons_succ]
          refine Hd.take 15 (some 35) (.string tk.name) rfl rfl (by kernel_rfl) (by kernel_rfl) (by kernel_rfl) (fun _ _ _ h => h) (by rfl) (by intro w hSw; (try dsimp only at hSw); go_simp) (by assumption) ?_
          try simp only [Act.put, List.setIfInBounds_toArray, List.set_cons_zero, List.set_cons_succ]
          refine Hd.take 16 (some 36) (.bool false) rfl rfl (by kernel_rfl) (by kernel_rfl) (by kernel_rfl) (fun _ _ _ h => h) (by rfl) (by intro w hSw; (try dsimp only at hSw); go_simp) (by assumption) ?_
          try simp only [Act.put, List.setIfInBounds_toArray, List.set_cons_zero, List.set_cons_succ]
          refine Hd.take 17 (some 37) (.bool false) rfl rfl (by kernel_rfl) (by kernel_rfl) (by kernel_rfl) (fun _ _ _ h => h) (by rfl) (by intro w hSw; (try dsimp only at hSw); go_simp) (by assumption) ?_
          try simp only [Act.put, List.setIfInBounds_toArray, List.set_cons_zero, List.set_cons_succ]
          refine Hd.take 18 (some 38) (.bool false) rfl rfl (by kernel_rfl) (by kernel_rfl) (by kernel_rfl) (fun _ _ _ h => h) (by rfl) (by intro w hSw; (try dsimp only at hSw); go_simp) (by assumption) ?_
          try simp only [Act.put, List.setIfInBounds_toArray, List.set_cons_zero, List.set_cons_succ]
          refine Hd.take 19 (some 39) (.bool false) rfl rfl (by kernel_rfl) (by kernel_rfl) (by kernel_rfl) (fun _ _ _ h => h) (by rfl) (by intro w hSw; (try dsimp only at hSw); go_simp) (by assumption) ?_
          try simp only [Act.put, List.setIfInBounds_toArray, List.set_cons_zero, List.set_cons_succ]
          refine Hd.take 20 (some 40) (.pointer (some ⟨pr, 1, none⟩)) rfl rfl (by kernel_rfl) (by kernel_rfl) (by kernel_rfl) (fun _ _ _ h => h) (by rfl) (by intro w hSw; (try dsimp only at hSw); go_simp) (by assumption) ?_
          try simp only [Act.put, List.setIfInBounds_toArray, List.set_cons_zero, List.set_cons_succ]
          refine Hd.take 21 (some 41) (.slice A1 tk.wants.length c1) rfl rfl (by kernel_rfl) (by kernel_rfl) (by kernel_rfl) (fun _ _ _ h => h) (by rfl) (by intro w hSw; (try dsimp only at hSw); go_simp) (by assumption) ?_
          try simp only [Act.put, List.setIfInBounds_toArray, List.set_cons_zero, List.set_cons_succ]
          refine wpAnyH_ready (rs := [22]) (by kernel_rfl) (by simp) ?_
          refine AllReadyH.cons (o := { dst := some 42, op := Op.call { callee := Callee.value (Operand.func 43), args := #[Operand.tmp 41], argTypes := #[67] }, type := 4, pos := "l09_assign.go:73", after := #[{ on := 21, ground := Ground.data }, { on := 19, ground := Ground.chain }, { on := 19, ground := Ground.guard }], guard := some (19, false) }) rfl (fun K hK => ?_) AllReadyH.nil
          (go_simp; go_at_call 43; refine (NC.out wi.drew (Below.refl _ _).drew).mono ?_; rintro e w8 ⟨rfl, b8⟩; rw [HN.out]; have B8 : Hid (Below wi.heap.size wi w8) := ⟨b8.os, b8.tape, b8.output, b8.size, b8.block⟩; clear b8; try (go_wp2_with fail))
          refine hK.out _ _ (ST.out _ B8.out) (fun hHeld => ?_)
          clear hK K
          try simp only [Act.put, List.setIfInBounds_toArray, List.set_cons_zero, List.set_cons_succ]
          refine Hd.take 23 (some 43) (.bool true) rfl rfl (by kernel_rfl) (by kernel_rfl) (by kernel_rfl) (fun _ _ _ h => h) (by rfl) (by intro w hSw; (try dsimp only at hSw); go_simp) (by assumption) ?_
          try simp only [Act.put, List.setIfInBounds_toArray, List.set_cons_zero, List.set_cons_succ]
          refine Hd.take 24 (some 44) (.bool true) rfl rfl (by kernel_rfl) (by kernel_rfl) (by kernel_rfl) (fun _ _ _ h => h) (by rfl) (by intro w hSw; (try dsimp only at hSw); go_simp) (by assumption) ?_
          try simp only [Act.put, List.setIfInBounds_toArray, List.set_cons_zero, List.set_cons_succ]
          refine Hd.take 25 (some 45) (.bool true) rfl rfl (by kernel_rfl) (by kernel_rfl) (by kernel_rfl) (fun _ _ _ h => h) (by rfl) (by intro w hSw; (try dsimp only at hSw); go_simp) (by assumption) ?_
          try simp only [Act.put, List.setIfInBounds_toArray, List.set_cons_zero, List.set_cons_succ]
          refine Hd.skip 26 (some 46) rfl rfl (by kernel_rfl) (by kernel_rfl) (by kernel_rfl) (fun _ _ _ h => h) (by rfl) (by assumption) ?_
          try simp only [Act.put, List.setIfInBounds_toArray, List.set_cons_zero, List.set_cons_succ]
          refine Hd.skip 27 (some 47) rfl rfl (by kernel_rfl) (by kernel_rfl) (by kernel_rfl) (fun _ _ _ h => h) (by rfl) (by assumption) ?_
          try simp only [Act.put, List.setIfInBounds_toArray, List.set_cons_zero, List.set_cons_succ]
          refine Hd.skip 28 (some 48) rfl rfl (by kernel_rfl) (by kernel_rfl) (by kernel_rfl) (fun _ _ _ h => h) (by rfl) (by assumption) ?_
          try simp only [Act.put, List.setIfInBounds_toArray, List.set_cons_zero, List.set_cons_succ]
          refine Hd.skip 29 (some 49) rfl rfl (by kernel_rfl) (by kernel_rfl) (by kernel_rfl) (fun _ _ _ h => h) (by rfl) (by assumption) ?_
          try simp only [Act.put, List.setIfInBounds_toArray, List.set_cons_zero, List.set_cons_succ]
          refine Hd.take 30 (some 50) (.bool true) rfl rfl (by kernel_rfl) (by kernel_rfl) (by kernel_rfl) (fun _ _ _ h => h) (by rfl) (by intro w hSw; (try dsimp only at hSw); go_simp) (by assumption) ?_
          try simp only [Act.put, List.setIfInBounds_toArray, List.set_cons_zero, List.set_cons_succ]
          refine wpAnyH_done (by kernel_rfl) ?_ _
          go_wp2
          go_ret
          exact NO.out _ Z.out (chain R0.out.bel B8.out)
        | true =>
        have HN := Seg.hid hnm
        clear hnm
        cases hsl : slots tk.has with
        | false =>
          have Z := Seg.hid (ZW.out (by simp [okW, hsl]))
          have HSL := Seg.hid hsl
          clear hsl
          refine wp_region_held_drew (S := (fun w' => w'.cell? ⟨pr, 0, none⟩ = some (.string tk.name) ∧ w'.cell? ⟨pr, 1, none⟩ = some (.slice A1 tk.wants.length c1) ∧ w'.cell? ⟨pr, 2, none⟩ = some (.slice A2 tk.has.length c2) ∧ w'.cell? ⟨g, o + (k - 1) * 3, none⟩ = some (.string pn.name))) (by kernel_rfl) (ST.out _ (Below.refl _ _).drew) (fun hHeld => ?_)
          refine Hd.take 0 (some 20) (.pointer (some ⟨pr, 0, none⟩)) rfl rfl (by kernel_rfl) (by kernel_rfl) (by kernel_rfl) (fun _ _ _ h => h) (by rfl) (by intro w hSw; (try dsimp only at hSw); go_simp) (by assumption) ?_
          try simp only [Act.put, List.setIfInBounds_toArray, List.set_cons_zero, List.set_cons_succ]
          refine Hd.take 1 (some 21) (.string tk.name) rfl rfl (by kernel_rfl) (by kernel_rfl) (by kernel_rfl) (fun _ _ _ h => h) (by rfl) (by intro w hSw; (try dsimp only at hSw); go_simp) (by assumption) ?_
          try simp only [Act.put, List.setIfInBounds_toArray, List.set_cons_zero, List.set_cons_succ]
          refine wpAnyH_ready (rs := [2]) (by kernel_rfl) (by simp) ?_
          refine AllReadyH.cons (o := { dst := some 22, op := Op.call { callee := Callee.value (Operand.func 9), args := #[Operand.tmp 21], argTypes := #[9] }, type := 4, pos := "l09_assign.go:73", after := #[{ on := 1, ground := Ground.data }], guard := none }) rfl (fun K hK => ?_) AllReadyH.nil
          (go_simp; go_at_call 9; refine (Nm.spec_q _ _ KN.out _ NS).mono ?_; rintro e w7 ⟨rfl, rfl⟩; try (go_wp2_with fail))
          refine hK.out _ _ (ST.out _ (Below.refl _ _).drew) (fun hHeld => ?_)
          clear hK K
          try simp only [Act.put, List.setIfInBounds_toArray, List.set_cons_zero, List.set_cons_succ]
          refine Hd.take 3 (some 23) (.bool false) rfl rfl (by kernel_rfl) (by kernel_rfl) (by kernel_rfl) (fun _ _ _ h => h) (by rfl) (by intro w hSw; (try dsimp only at hSw); go_simp) (by assumption) ?_
          try simp only [Act.put, List.setIfInBounds_toArray, List.set_cons_zero, List.set_cons_succ]
          refine Hd.take 4 (some 24) (.bool false) rfl rfl (by kernel_rfl) (by kernel_rfl) (by kernel_rfl) (fun _ _ _ h => h) (by rfl) (by intro w hSw; (try dsimp only at hSw); go_simp) (by assumption) ?_
          try simp only [Act.put, List.setIfInBounds_toArray, List.set_cons_zero, List.set_cons_succ]
          refine Hd.take 5 (some 25) (.int .i64 (k : Int)) rfl rfl (by kernel_rfl) (by kernel_rfl) (by kernel_rfl) (fun _ _ _ h => h) (by rfl) (by intro w hSw; (try dsimp only at hSw); go_simp) (by assumption) ?_
          try simp only [Act.put, List.setIfInBounds_toArray, List.set_cons_zero, List.set_cons_succ]
          refine Hd.take 6 (some 26) (.bool true) rfl rfl (by kernel_rfl) (by kernel_rfl) (by kernel_rfl) (fun _ _ _ h => h) (by rfl) (by intro w hSw; (try dsimp only at hSw); go_simp) (by assumption) ?_
          try simp only [Act.put, List.setIfInBounds_toArray, List.set_cons_zero, List.set_cons_succ]
          refine Hd.take 7 (some 27) (.bool true) rfl rfl (by kernel_rfl) (by kernel_rfl) (by kernel_rfl) (fun _ _ _ h => h) (by rfl) (by intro w hSw; (try dsimp only at hSw); go_simp) (by assumption) ?_
          try simp only [Act.put, List.setIfInBounds_toArray, List.set_cons_zero, List.set_cons_succ]
          refine Hd.take 8 (some 28) (.slice (some ⟨g, o, none⟩) l.length c) rfl rfl (by kernel_rfl) (by kernel_rfl) (by kernel_rfl) (fun _ _ _ h => h) (by rfl) (by intro w hSw; (try dsimp only at hSw); go_simp) (by assumption) ?_
          try simp only [Act.put, List.setIfInBounds_toArray, List.set_cons_zero, List.set_cons_succ]
          refine Hd.take 9 (some 29) (.int .i64 (k : Int)) rfl rfl (by kernel_rfl) (by kernel_rfl) (by kernel_rfl) (fun _ _ _ h => h) (by rfl) (by intro w hSw; (try dsimp only at hSw); go_simp) (by assumption) ?_
          try simp only [Act.put, List.setIfInBounds_toArray, List.set_cons_zero, List.set_cons_succ]
          refine Hd.take 10 (some 30) (.int .i64 ((k : Int) - 1)) rfl rfl (by kernel_rfl) (by kernel_rfl) (by kernel_rfl) (fun _ _ _ h => h) (by rfl) (by intro w hSw; (try dsimp only at hSw); go_simp) (by assumption) ?_
          try simp only [Act.put, List.setIfInBounds_toArray, List.set_cons_zero, List.set_cons_succ]
          refine Hd.take 11 (some 31) (.pointer (some ⟨g, o + (k - 1) * 3, none⟩)) rfl rfl (by kernel_rfl) (by kernel_rfl) (by kernel_rfl) (fun _ _ _ h => h) (by rfl) (by intro w hSw; (try dsimp only at hSw); go_simp) (by assumption) ?_
          try simp only [Act.put, List.setIfInBounds_toArray, List.set_cons_zero, List.set_cons_succ]
          refine Hd.take 12 (some 32) (.pointer (some ⟨g, o + (k - 1) * 3, none⟩)) rfl rfl (by kernel_rfl) (by kernel_rfl) (by kernel_rfl) (fun _ _ _ h => h) (by rfl) (by intro w hSw; (try dsimp only at hSw); go_simp) (by assumption) ?_
          try simp only [Act.put, List.setIfInBounds_toArray, List.set_cons_zero, List.set_cons_succ]
          refine Hd.take 13 (some 33) (.string pn.name) rfl rfl (by kernel_rfl) (by kernel_rfl) (by kernel_rfl) (fun _ _ _ h => h) (by rfl) (by intro w hSw; (try dsimp only at hSw); go_simp) (by assumption) ?_
          try simp only [Act.put, List.setIfInBounds_toArray, List.set_cons_zero, List.set_cons_succ]
          refine Hd.take 14 (some 34) (.pointer (some ⟨pr, 0, none⟩)) rfl rfl (by kernel_rfl) (by kernel_rfl) (by kernel_rfl) (fun _ _ _ h => h) (by rfl) (by intro w hSw; (try dsimp only at hSw); go_simp) (by assumption) ?_
          try simp only [Act.put, List.setIfInBounds_toArray, List.set_cons_zero, List.set_cons_succ]
          refine Hd.take 15 (some 35) (.string tk.name) rfl rfl (by kernel_rfl) (by kernel_rfl) (by kernel_rfl) (fun _ _ _ h => h) (by rfl) (by intro w hSw; (try dsimp only at hSw); go_simp) (by assumption) ?_
          try simp only [Act.put, List.setIfInBounds_toArray, List.set_cons_zero, List.set_cons_succ]
          refine Hd.take 16 (some 36) (.bool false) rfl rfl (by kernel_rfl) (by kernel_rfl) (by kernel_rfl) (fun _ _ _ h => h) (by rfl) (by intro w hSw; (try dsimp only at hSw); go_simp) (by assumption) ?_
          try simp only [Act.put, List.setIfInBounds_toArray, List.set_cons_zero, List.set_cons_succ]
          refine Hd.take 17 (some 37) (.bool false) rfl rfl (by kernel_rfl) (by kernel_rfl) (by kernel_rfl) (fun _ _ _ h => h) (by rfl) (by intro w hSw; (try dsimp only at hSw); go_simp) (by assumption) ?_
          try simp only [Act.put, List.setIfInBounds_toArray, List.set_cons_zero, List.set_cons_succ]
          refine Hd.take 18 (some 38) (.bool false) rfl rfl (by kernel_rfl) (by kernel_rfl) (by kernel_rfl) (fun _ _ _ h => h) (by rfl) (by intro w hSw; (try dsimp only at hSw); go_simp) (by assumption) ?_
          try simp only [Act.put, List.setIfInBounds_toArray, List.set_cons_zero, List.set_cons_succ]
          refine Hd.take 19 (some 39) (.bool false) rfl rfl (by kernel_rfl) (by kernel_rfl) (by kernel_rfl) (fun _ _ _ h => h) (by rfl) (by intro w hSw; (try dsimp only at hSw); go_simp) (by assumption) ?_
          try simp only [Act.put, List.setIfInBounds_toArray, List.set_cons_zero, List.set_cons_succ]
          refine Hd.take 20 (some 40) (.pointer (some ⟨pr, 1, none⟩)) rfl rfl (by kernel_rfl) (by kernel_rfl) (by kernel_rfl) (fun _ _ _ h => h) (by rfl) (by intro w hSw; (try dsimp only at hSw); go_simp) (by assumption) ?_
          try simp only [Act.put, List.setIfInBounds_toArray, List.set_cons_zero, List.set_cons_succ]
          refine Hd.take 21 (some 41) (.slice A1 tk.wants.length c1) rfl rfl (by kernel_rfl) (by kernel_rfl) (by kernel_rfl) (fun _ _ _ h => h) (by rfl) (by intro w hSw; (try dsimp only at hSw); go_simp) (by assumption) ?_
          try simp only [Act.put, List.setIfInBounds_toArray, List.set_cons_zero, List.set_cons_succ]
          refine wpAnyH_ready (rs := [22]) (by kernel_rfl) (by simp) ?_
          refine AllReadyH.cons (o := { dst := some 42, op := Op.call { callee := Callee.value (Operand.func 43), args := #[Operand.tmp 41], argTypes := #[67] }, type := 4, pos := "l09_assign.go:73", after := #[{ on := 21, ground := Ground.data }, { on := 19, ground := Ground.chain }, { on := 19, ground := Ground.guard }], guard := some (19, false) }) rfl (fun K hK => ?_) AllReadyH.nil
          (go_simp; go_at_call 43; refine (NC.out wi.drew (Below.refl _ _).drew).mono ?_; rintro e w8 ⟨rfl, b8⟩; rw [HN.out]; have B8 : Hid (Below wi.heap.size wi w8) := ⟨b8.os, b8.tape, b8.output, b8.size, b8.block⟩; clear b8; try (go_wp2_with fail))
          refine hK.out _ _ (ST.out _ B8.out) (fun hHeld => ?_)
          clear hK K
          try simp only [Act.put, List.setIfInBounds_toArray, List.set_cons_zero, List.set_cons_succ]
          refine Hd.take 23 (some 43) (.bool false) rfl rfl (by kernel_rfl) (by kernel_rfl) (by kernel_rfl) (fun _ _ _ h => h) (by rfl) (by intro w hSw; (try dsimp only at hSw); go_simp) (by assumption) ?_
          try simp only [Act.put, List.setIfInBounds_toArray, List.set_cons_zero, List.set_cons_succ]
          refine Hd.take 24 (some 44) (.bool false) rfl rfl (by kernel_rfl) (by kernel_rfl) (by kernel_rfl) (fun _ _ _ h => h) (by rfl) (by intro w hSw; (try dsimp only at hSw); go_simp) (by assumption) ?_
          try simp only [Act.put, List.setIfInBounds_toArray, List.set_cons_zero, List.set_cons_succ]
          refine Hd.take 25 (some 45) (.bool false) rfl rfl (by kernel_rfl) (by kernel_rfl) (by kernel_rfl) (fun _ _ _ h => h) (by rfl) (by intro w hSw; (try dsimp only at hSw); go_simp) (by assumption) ?_
          try simp only [Act.put, List.setIfInBounds_toArray, List.set_cons_zero, List.set_cons_succ]
          refine Hd.take 26 (some 46) (.pointer (some ⟨pr, 2, none⟩)) rfl rfl (by kernel_rfl) (by kernel_rfl) (by kernel_rfl) (fun _ _ _ h => h) (by rfl) (by intro w hSw; (try dsimp only at hSw); go_simp) (by assumption) ?_
          try simp only [Act.put, List.setIfInBounds_toArray, List.set_cons_zero, List.set_cons_succ]
          refine Hd.take 27 (some 47) (.slice A2 tk.has.length c2) rfl rfl (by kernel_rfl) (by kernel_rfl) (by kernel_rfl) (fun _ _ _ h => h) (by rfl) (by intro w hSw; (try dsimp only at hSw); go_simp) (by assumption) ?_
          try simp only [Act.put, List.setIfInBounds_toArray, List.set_cons_zero, List.set_cons_succ]
          refine wpAnyH_ready (rs := [28]) (by kernel_rfl) (by simp) ?_
          refine AllReadyH.cons (o := { dst := some 48, op := Op.call { callee := Callee.value (Operand.func 44), args := #[Operand.tmp 47], argTypes := #[71] }, type := 4, pos := "l09_assign.go:73", after := #[{ on := 27, ground := Ground.data }, { on := 25, ground := Ground.chain }, { on := 25, ground := Ground.guard }], guard := some (25, false) }) rfl (fun K hK => ?_) AllReadyH.nil
          (go_simp; go_at_call 44; refine (SC.out w8 B8.out).mono ?_; rintro e w9 ⟨rfl, b9⟩; rw [HSL.out]; have B9 : Hid (Below wi.heap.size wi w9) := chain B8.out b9; clear b9; try (go_wp2_with fail))
          refine hK.out _ _ (ST.out _ B9.out) (fun hHeld => ?_)
          clear hK K
          try simp only [Act.put, List.setIfInBounds_toArray, List.set_cons_zero, List.set_cons_succ]
          refine Hd.take 29 (some 49) (.bool true) rfl rfl (by kernel_rfl) (by kernel_rfl) (by kernel_rfl) (fun _ _ _ h => h) (by rfl) (by intro w hSw; (try dsimp only at hSw); go_simp) (by assumption) ?_
          try simp only [Act.put, List.setIfInBounds_toArray, List.set_cons_zero, List.set_cons_succ]
          refine Hd.take 30 (some 50) (.bool true) rfl rfl (by kernel_rfl) (by kernel_rfl) (by kernel_rfl) (fun _ _ _ h => h) (by rfl) (by intro w hSw; (try dsimp only at hSw); go_simp) (by assumption) ?_
          try simp only [Act.put, List.setIfInBounds_toArray, List.set_cons_zero, List.set_cons_succ]
          refine wpAnyH_done (by kernel_rfl) ?_ _
          go_wp2
          go_ret
          exact NO.out _ Z.out (chain R0.out.bel B9.out)
        | true =>
        have HSL := Seg.hid hsl
        have ZY : Hid ((l.take k).any (fun m => meet m tk) = false → wns l (k + 1) = wants l) := fun h => ZYY.out (by rw [HPV.out]; simp [okW, KN.out, HN.out, hsl, aheadO, sl, hge]) h
        clear hsl
        refine wp_region_held_drew (S := (fun w' => w'.cell? ⟨pr, 0, none⟩ = some (.string tk.name) ∧ w'.cell? ⟨pr, 1, none⟩ = some (.slice A1 tk.wants.length c1) ∧ w'.cell? ⟨pr, 2, none⟩ = some (.slice A2 tk.has.length c2) ∧ w'.cell? ⟨g, o + (k - 1) * 3, none⟩ = some (.string pn.name))) (by kernel_rfl) (ST.out _ (Below.refl _ _).drew) (fun hHeld => ?_)
        refine Hd.take 0 (some 20) (.pointer (some ⟨pr, 0, none⟩)) rfl rfl (by kernel_rfl) (by kernel_rfl) (by kernel_rfl) (fun _ _ _ h => h) (by rfl) (by intro w hSw; (try dsimp only at hSw); go_simp) (by assumption) ?_
        try simp only [Act.put, List.setIfInBounds_toArray, List.set_cons_zero, List.set_cons_succ]
        refine Hd.take 1 (some 21) (.string tk.name) rfl rfl (by kernel_rfl) (by kernel_rfl) (by kernel_rfl) (fun _ _ _ h => h) (by rfl) (by intro w hSw; (try dsimp only at hSw); go_simp) (by assumption) ?_
        try simp only [Act.put, List.setIfInBounds_toArray, List.set_cons_zero, List.set_cons_succ]
        refine wpAnyH_ready (rs := [2]) (by kernel_rfl) (by simp) ?_
        refine AllReadyH.cons (o := { dst := some 22, op := Op.call { callee := Callee.value (Operand.func 9), args := #[Operand.tmp 21], argTypes := #[9] }, type := 4, pos := "l09_assign.go:73", after := #[{ on := 1, ground := Ground.data }], guard := none }) rfl (fun K hK => ?_) AllReadyH.nil
        (go_simp; go_at_call 9; refine (Nm.spec_q _ _ KN.out _ NS).mono ?_; rintro e w7 ⟨rfl, rfl⟩; try (go_wp2_with fail))
        refine hK.out _ _ (ST.out _ (Below.refl _ _).drew) (fun hHeld => ?_)
        clear hK K
        try simp only [Act.put, List.setIfInBounds_toArray, List.set_cons_zero, List.set_cons_succ]
        refine Hd.take 3 (some 23) (.bool false) rfl rfl (by kernel_rfl) (by kernel_rfl) (by kernel_rfl) (fun _ _ _ h => h) (by rfl) (by intro w hSw; (try dsimp only at hSw); go_simp) (by assumption) ?_
        try simp only [Act.put, List.setIfInBounds_toArray, List.set_cons_zero, List.set_cons_succ]
        refine Hd.take 4 (some 24) (.bool false) rfl rfl (by kernel_rfl) (by kernel_rfl) (by kernel_rfl) (fun _ _ _ h => h) (by rfl) (by intro w hSw; (try dsimp only at hSw); go_simp) (by assumption) ?_
        try simp only [Act.put, List.setIfInBounds_toArray, List.set_cons_zero, List.set_cons_succ]
        refine Hd.take 5 (some 25) (.int .i64 (k : Int)) rfl rfl (by kernel_rfl) (by kernel_rfl) (by kernel_rfl) (fun _ _ _ h => h) (by rfl) (by intro w hSw; (try dsimp only at hSw); go_simp) (by assumption) ?_
        try simp only [Act.put, List.setIfInBounds_toArray, List.set_cons_zero, List.set_cons_succ]
        refine Hd.take 6 (some 26) (.bool true) rfl rfl (by kernel_rfl) (by kernel_rfl) (by kernel_rfl) (fun _ _ _ h => h) (by rfl) (by intro w hSw; (try dsimp only at hSw); go_simp) (by assumption) ?_
        try simp only [Act.put, List.setIfInBounds_toArray, List.set_cons_zero, List.set_cons_succ]
        refine Hd.take 7 (some 27) (.bool true) rfl rfl (by kernel_rfl) (by kernel_rfl) (by kernel_rfl) (fun _ _ _ h => h) (by rfl) (by intro w hSw; (try dsimp only at hSw); go_simp) (by assumption) ?_
        try simp only [Act.put, List.setIfInBounds_toArray, List.set_cons_zero, List.set_cons_succ]
        refine Hd.take 8 (some 28) (.slice (some ⟨g, o, none⟩) l.length c) rfl rfl (by kernel_rfl) (by kernel_rfl) (by kernel_rfl) (fun _ _ _ h => h) (by rfl) (by intro w hSw; (try dsimp only at hSw); go_simp) (by assumption) ?_
        try simp only [Act.put, List.setIfInBounds_toArray, List.set_cons_zero, List.set_cons_succ]
        refine Hd.take 9 (some 29) (.int .i64 (k : Int)) rfl rfl (by kernel_rfl) (by kernel_rfl) (by kernel_rfl) (fun _ _ _ h => h) (by rfl) (by intro w hSw; (try dsimp only at hSw); go_simp) (by assumption) ?_
        try simp only [Act.put, List.setIfInBounds_toArray, List.set_cons_zero, List.set_cons_succ]
        refine Hd.take 10 (some 30) (.int .i64 ((k : Int) - 1)) rfl rfl (by kernel_rfl) (by kernel_rfl) (by kernel_rfl) (fun _ _ _ h => h) (by rfl) (by intro w hSw; (try dsimp only at hSw); go_simp) (by assumption) ?_
        try simp only [Act.put, List.setIfInBounds_toArray, List.set_cons_zero, List.set_cons_succ]
        refine Hd.take 11 (some 31) (.pointer (some ⟨g, o + (k - 1) * 3, none⟩)) rfl rfl (by kernel_rfl) (by kernel_rfl) (by kernel_rfl) (fun _ _ _ h => h) (by rfl) (by intro w hSw; (try dsimp only at hSw); go_simp) (by assumption) ?_
        try simp only [Act.put, List.setIfInBounds_toArray, List.set_cons_zero, List.set_cons_succ]
        refine Hd.take 12 (some 32) (.pointer (some ⟨g, o + (k - 1) * 3, none⟩)) rfl rfl (by kernel_rfl) (by kernel_rfl) (by kernel_rfl) (fun _ _ _ h => h) (by rfl) (by intro w hSw; (try dsimp only at hSw); go_simp) (by assumption) ?_
        try simp only [Act.put, List.setIfInBounds_toArray, List.set_cons_zero, List.set_cons_succ]
        refine Hd.take 13 (some 33) (.string pn.name) rfl rfl (by kernel_rfl) (by kernel_rfl) (by kernel_rfl) (fun _ _ _ h => h) (by rfl) (by intro w hSw; (try dsimp only at hSw); go_simp) (by assumption) ?_
        try simp only [Act.put, List.setIfInBounds_toArray, List.set_cons_zero, List.set_cons_succ]
        refine Hd.take 14 (some 34) (.pointer (some ⟨pr, 0, none⟩)) rfl rfl (by kernel_rfl) (by kernel_rfl) (by kernel_rfl) (fun _ _ _ h => h) (by rfl) (by intro w hSw; (try dsimp only at hSw); go_simp) (by assumption) ?_
        try simp only [Act.put, List.setIfInBounds_toArray, List.set_cons_zero, List.set_cons_succ]
        refine Hd.take 15 (some 35) (.string tk.name) rfl rfl (by kernel_rfl) (by kernel_rfl) (by kernel_rfl) (fun _ _ _ h => h) (by rfl) (by intro w hSw; (try dsimp only at hSw); go_simp) (by assumption) ?_
        try simp only [Act.put, List.setIfInBounds_toArray, List.set_cons_zero, List.set_cons_succ]
        refine Hd.take 16 (some 36) (.bool false) rfl rfl (by kernel_rfl) (by kernel_rfl) (by kernel_rfl) (fun _ _ _ h => h) (by rfl) (by intro w hSw; (try dsimp only at hSw); go_simp) (by assumption) ?_
        try simp only [Act.put, List.setIfInBounds_toArray, List.set_cons_zero, List.set_cons_succ]
        refine Hd.take 17 (some 37) (.bool false) rfl rfl (by kernel_rfl) (by kernel_rfl) (by kernel_rfl) (fun _ _ _ h => h) (by rfl) (by intro w hSw; (try dsimp only at hSw); go_simp) (by assumption) ?_
        try simp only [Act.put, List.setIfInBounds_toArray, List.set_cons_zero, List.set_cons_succ]
        refine Hd.take 18 (some 38) (.bool false) rfl rfl (by kernel_rfl) (by kernel_rfl) (by kernel_rfl) (fun _ _ _ h => h) (by rfl) (by intro w hSw; (try dsimp only at hSw); go_simp) (by assumption) ?_
        try simp only [Act.put, List.setIfInBounds_toArray, List.set_cons_zero, List.set_cons_succ]
        refine Hd.take 19 (some 39) (.bool false) rfl rfl (by kernel_rfl) (by kernel_rfl) (by kernel_rfl) (fun _ _ _ h => h) (by rfl) (by intro w hSw; (try dsimp only at hSw); go_simp) (by assumption) ?_
        try simp only [Act.put, List.setIfInBounds_toArray, List.set_cons_zero, List.set_cons_succ]
        refine Hd.take 20 (some 40) (.pointer (some ⟨pr, 1, none⟩)) rfl rfl (by kernel_rfl) (by kernel_rfl) (by kernel_rfl) (fun _ _ _ h => h) (by rfl) (by intro w hSw; (try dsimp only at hSw); go_simp) (by assumption) ?_
        try simp only [Act.put, List.setIfInBounds_toArray, List.set_cons_zero, List.set_cons_succ]
        refine Hd.take 21 (some 41) (.slice A1 tk.wants.length c1) rfl rfl (by kernel_rfl) (by kernel_rfl) (by kernel_rfl) (fun _ _ _ h => h) (by rfl) (by intro w hSw; (try dsimp only at hSw); go_simp) (by assumption) ?_
        try simp only [Act.put, List.setIfInBounds_toArray, List.set_cons_zero, List.set_cons_succ]
        refine wpAnyH_ready (rs := [22]) (by kernel_rfl) (by simp) ?_
        refine AllReadyH.cons (o := { dst := some 42, op := Op.call { callee := Callee.value (Operand.func 43), args := #[Operand.tmp 41], argTypes := #[67] }, type := 4, pos := "l09_assign.go:73", after := #[{ on := 21, ground := Ground.data }, { on := 19, ground := Ground.chain }, { on := 19, ground := Ground.guard }], guard := some (19, false) }) rfl (fun K hK => ?_) AllReadyH.nil
        (go_simp; go_at_call 43; refine (NC.out wi.drew (Below.refl _ _).drew).mono ?_; rintro e w8 ⟨rfl, b8⟩; rw [HN.out]; have B8 : Hid (Below wi.heap.size wi w8) := ⟨b8.os, b8.tape, b8.output, b8.size, b8.block⟩; clear b8; try (go_wp2_with fail))
        refine hK.out _ _ (ST.out _ B8.out) (fun hHeld => ?_)
        clear hK K
        try simp only [Act.put, List.setIfInBounds_toArray, List.set_cons_zero, List.set_cons_succ]
        refine Hd.take 23 (some 43) (.bool false) rfl rfl (by kernel_rfl) (by kernel_rfl) (by kernel_rfl) (fun _ _ _ h => h) (by rfl) (by intro w hSw; (try dsimp only at hSw); go_simp) (by assumption) ?_
        try simp only [Act.put, List.setIfInBounds_toArray, List.set_cons_zero, List.set_cons_succ]
        refine Hd.take 24 (some 44) (.bool false) rfl rfl (by kernel_rfl) (by kernel_rfl) (by kernel_rfl) (fun _ _ _ h => h) (by rfl) (by intro w hSw; (try dsimp only at hSw); go_simp) (by assumption) ?_
        try simp only [Act.put, List.setIfInBounds_toArray, List.set_cons_zero, List.set_cons_succ]
        refine Hd.take 25 (some 45) (.bool false) rfl rfl (by kernel_rfl) (by kernel_rfl) (by kernel_rfl) (fun _ _ _ h => h) (by rfl) (by intro w hSw; (try dsimp only at hSw); go_simp) (by assumption) ?_
        try simp only [Act.put, List.setIfInBounds_toArray, List.set_cons_zero, List.set_cons_succ]
        refine Hd.take 26 (some 46) (.pointer (some ⟨pr, 2, none⟩)) rfl rfl (by kernel_rfl) (by kernel_rfl) (by kernel_rfl) (fun _ _ _ h => h) (by rfl) (by intro w hSw; (try dsimp only at hSw); go_simp) (by assumption) ?_
        try simp only [Act.put, List.setIfInBounds_toArray, List.set_cons_zero, List.set_cons_succ]
        refine Hd.take 27 (some 47) (.slice A2 tk.has.length c2) rfl rfl (by kernel_rfl) (by kernel_rfl) (by kernel_rfl) (fun _ _ _ h => h) (by rfl) (by intro w hSw; (try dsimp only at hSw); go_simp) (by assumption) ?_
        try simp only [Act.put, List.setIfInBounds_toArray, List.set_cons_zero, List.set_cons_succ]
        refine wpAnyH_ready (rs := [28]) (by kernel_rfl) (by simp) ?_
        refine AllReadyH.cons (o := { dst := some 48, op := Op.call { callee := Callee.value (Operand.func 44), args := #[Operand.tmp 47], argTypes := #[71] }, type := 4, pos := "l09_assign.go:73", after := #[{ on := 27, ground := Ground.data }, { on := 25, ground := Ground.chain }, { on := 25, ground := Ground.guard }], guard := some (25, false) }) rfl (fun K hK => ?_) AllReadyH.nil
        (go_simp; go_at_call 44; refine (SC.out w8 B8.out).mono ?_; rintro e w9 ⟨rfl, b9⟩; rw [HSL.out]; have B9 : Hid (Below wi.heap.size wi w9) := chain B8.out b9; clear b9; try (go_wp2_with fail))
        refine hK.out _ _ (ST.out _ B9.out) (fun hHeld => ?_)
        clear hK K
        try simp only [Act.put, List.setIfInBounds_toArray, List.set_cons_zero, List.set_cons_succ]
        refine Hd.take 29 (some 49) (.bool false) rfl rfl (by kernel_rfl) (by kernel_rfl) (by kernel_rfl) (fun _ _ _ h => h) (by rfl) (by intro w hSw; (try dsimp only at hSw); go_simp) (by assumption) ?_
        try simp only [Act.put, List.setIfInBounds_toArray, List.set_cons_zero, List.set_cons_succ]
        refine Hd.take 30 (some 50) (.bool false) rfl rfl (by kernel_rfl) (by kernel_rfl) (by kernel_rfl) (fun _ _ _ h => h) (by rfl) (by intro w hSw; (try dsimp only at hSw); go_simp) (by assumption) ?_
        try simp only [Act.put, List.setIfInBounds_toArray, List.set_cons_zero, List.set_cons_succ]
        refine wpAnyH_done (by kernel_rfl) ?_ _
        have R1 := Seg.hid (R0.out.next B9.out)
        obtain ⟨wp, hwp⟩ : ∃ wp, wp = w9 := ⟨w9, rfl⟩
        subst hwp
        clear B8 B9
        go_wp2_with fail
        go_loopw [5] (fun i wx => ∃ (j : Nat), j ≤ k ∧ i = .int .i64 j ∧ Hid ((l.take j).any (fun m => meet m tk) = false ∧ Wr w wx pr tk A1 A2 c1 c2)) (fun i _ => k - (intOf i).toNat)
        case atStart => exact ⟨0, Nat.zero_le _, rfl, rfl, R1.out⟩
        case round =>
          clear R1
          obtain ⟨j, hj, rfl, HJ⟩ := hrel
          by_cases hlj : j < k
          · have hjl : j < l.length := by omega
            have OJ := HA.out.later keepsWnt hS HJ.out.2.bel
            obtain ⟨E1, f1, E2, f2, ⟨m0, m1, m2⟩, _, ME⟩ := wnt_cells (i := j) (fun q hq => OJ.cells j hjl q hq) (OJ.el j hjl)
            have M2 := Seg.hid m2
            have ZD : Hid (meet (l.getD j default) tk = true → wants l = false) := fun h => ZC.out (take_any hlj hk h)
            have ZN : Hid (meet (l.getD j default) tk = false → (l.take (j + 1)).any (fun m => meet m tk) = false) := fun h => take_next hjl HJ.out.1 h
            have LJ := HLN.out j hjl
            obtain ⟨E2', f2', gm, om, Fm, gq, OM, _⟩ := opn ME (fun g hg => Nat.lt_of_lt_of_le (hS g hg) HJ.out.2.bel.size)
            simp only [Value.slice.injEq, true_and] at gq
            obtain ⟨rfl, rfl⟩ := gq
            have OM' := Seg.hid OM
            clear OJ ME OM m0 m1 m2
            generalize l.getD j default = mj at *
            have j0 : (0 : Int) ≤ (j : Int) := by omega
            have j1 : (j : Int) < (k : Int) := by omega
            have j2 : (j : Int) < (l.length : Int) := by omega
            have hgj : g < wr.heap.size := Nat.lt_of_lt_of_le hga HJ.out.2.bel.size
            obtain ⟨p0, p1, p2⟩ := HJ.out.2.cells
            obtain ⟨wq, hwq⟩ : ∃ wq, wq = wr := ⟨wr, rfl⟩
            subst hwq
            go_wp2_with fail
            clear p0 p1 p2
            go_loopw [6] (fun i wx => ∃ (q : Nat), q ≤ tk.has.length ∧ i = .int .i64 q ∧ Hid ((tk.has.take q).any (isIn mj.has) = false ∧ Wr w wx pr tk A1 A2 c1 c2 ∧ Below wq.heap.size wq wx)) (fun i _ => tk.has.length - (intOf i).toNat)
            case atStart => exact ⟨0, Nat.zero_le _, rfl, rfl, HJ.out.2, Below.refl _ _⟩
            case round =>
              obtain ⟨q, hq, rfl, HQ⟩ := hrel
              obtain ⟨p0, p1, p2⟩ := HQ.out.2.1.cells
              have hprq : pr < wr.heap.size := (Array.getElem?_eq_some_iff.1 HQ.out.2.1.rr).1
              by_cases hlq : q < tk.has.length
              · obtain ⟨ea2, hc2, hgp⟩ := OH.out.addr.resolve_left (by omega)
                have OQ := OH.out.later keepsSlt hS HQ.out.2.1.bel
                obtain ⟨x0, x1⟩ := slt_cells (i := q) (fun z hz => OQ.cells q hlq z hz) (OQ.el q hlq)
                have mm : wr.cell? ⟨g, o + j * 3 + 2, none⟩ = some (.slice E2 mj.has.length f2) := (HQ.out.2.2.cell (p := ⟨g, o + j * 3 + 2, none⟩) hgj).trans M2.out
                have q0 : (0 : Int) ≤ (q : Int) := by omega
                have q1 : (q : Int) < (tk.has.length : Int) := by omega
                have hgr2 : g < wr.heap.size := Nat.lt_of_lt_of_le hgj HQ.out.2.2.size
                have hgp2 : gp < wr.heap.size := Nat.lt_of_lt_of_le hgp HQ.out.2.1.bel.size
                have TQ : Hid (tk.has.take (q + 1) = tk.has.take q ++ [tk.has.getD q default]) := by show _ = _; rw [List.take_add_one, List.getElem?_eq_getElem hlq]; simp [hlq]
                have MT : Hid (isIn mj.has (tk.has.getD q default) = true → meet mj tk = true) := fun h => by
                  unfold meet
                  simp only [List.any_eq_true]
                  refine ⟨tk.has.getD q default, ?_, h⟩
                  have e : tk.has.getD q default = tk.has[q] := by simp [hlq]
                  rw [e]; exact List.getElem_mem _
                clear OQ
                generalize tk.has.getD q default = sq at *
                subst ea2
                have IN : Hid (∀ wx, Below wr.heap.size wr wx → Calls Try.prog 45 #[.slice E2 mj.has.length f2, .agg #[.string sq.topic, .int .i64 sq.part]] wx fun e w' => e = .returned (.bool (isIn mj.has sq)) ∧ Below wx.heap.size wx w') := fun wx bx => WsA.in_any E2 f2 mj.has sq gm om Fm wx S (fun y hy => Nat.lt_of_lt_of_le (Nat.lt_of_lt_of_le (hS y hy) HQ.out.2.1.bel.size) bx.size) (OM'.out.later keepsSlt (fun y hy => Nat.lt_of_lt_of_le (hS y hy) HJ.out.2.bel.size) (chain HQ.out.2.2 bx)) LJ
                have ST5 : Hid (∀ wx, Below wr.heap.size wr wx → wx.cell? ⟨g, o + j * 3 + 2, none⟩ = some (.slice E2 mj.has.length f2) ∧ wx.cell? ⟨pr, 2, none⟩ = some (.slice (some ⟨gp, op, none⟩) tk.has.length c2) ∧ wx.cell? ⟨gp, op + q * 2, none⟩ = some (.string sq.topic) ∧ wx.cell? ⟨gp, op + q * 2 + 1, none⟩ = some (.int .i64 sq.part)) := fun wx bx => ⟨(bx.cell (p := ⟨g, o + j * 3 + 2, none⟩) hgr2).trans mm, (bx.cell (p := ⟨pr, 2, none⟩) hprq).trans p2, (bx.cell (p := ⟨gp, op + q * 2, none⟩) hgp2).trans x0, (bx.cell (p := ⟨gp, op + q * 2 + 1, none⟩) hgp2).trans x1⟩
                go_wp2_with fail
                clear x0 x1 mm p0 p1 p2
                cases hge : isIn mj.has sq with
                | true =>
                  have Z := Seg.hid (ZD.out (MT.out hge))
                  have HG := Seg.hid hge
                  clear hge
                  refine wp_region_held_drew (S := (fun w' => w'.cell? ⟨g, o + j * 3 + 2, none⟩ = some (.slice E2 mj.has.length f2) ∧ w'.cell? ⟨pr, 2, none⟩ = some (.slice (some ⟨gp, op, none⟩) tk.has.length c2) ∧ w'.cell? ⟨gp, op + q * 2, none⟩ = some (.string sq.topic) ∧ w'.cell? ⟨gp, op + q * 2 + 1, none⟩ = some (.int .i64 sq.part))) (by kernel_rfl) (ST5.out _ (Below.refl _ _).drew) (fun hHeld => ?_)
                  refine Hd.take 0 (some 63) (.slice (some ⟨g, o, none⟩) l.length c) rfl rfl (by kernel_rfl) (by kernel_rfl) (by kernel_rfl) (fun _ _ _ h => h) (by rfl) (by intro w hSw; (try dsimp only at hSw); go_simp) (by assumption) ?_
                  try simp only [Act.put, List.setIfInBounds_toArray, List.set_cons_zero, List.set_cons_succ]
                  refine Hd.take 1 (some 64) (.int .i64 (j : Int)) rfl rfl (by kernel_rfl) (by kernel_rfl) (by kernel_rfl) (fun _ _ _ h => h) (by rfl) (by intro w hSw; (try dsimp only at hSw); go_simp) (by assumption) ?_
                  try simp only [Act.put, List.setIfInBounds_toArray, List.set_cons_zero, List.set_cons_succ]
                  refine Hd.take 2 (some 65) (.pointer (some ⟨g, o + j * 3, none⟩)) rfl rfl (by kernel_rfl) (by kernel_rfl) (by kernel_rfl) (fun _ _ _ h => h) (by rfl) (by intro w hSw; (try dsimp only at hSw); go_simp) (by assumption) ?_
                  try simp only [Act.put, List.setIfInBounds_toArray, List.set_cons_zero, List.set_cons_succ]
                  refine Hd.take 3 (some 66) (.pointer (some ⟨g, o + j * 3 + 2, none⟩)) rfl rfl (by kernel_rfl) (by kernel_rfl) (by kernel_rfl) (fun _ _ _ h => h) (by rfl) (by intro w hSw; (try dsimp only at hSw); go_simp) (by assumption) ?_
                  try simp only [Act.put, List.setIfInBounds_toArray, List.set_cons_zero, List.set_cons_succ]
                  refine Hd.take 4 (some 67) (.slice E2 mj.has.length f2) rfl rfl (by kernel_rfl) (by kernel_rfl) (by kernel_rfl) (fun _ _ _ h => h) (by rfl) (by intro w hSw; (try dsimp only at hSw); go_simp) (by assumption) ?_
                  try simp only [Act.put, List.setIfInBounds_toArray, List.set_cons_zero, List.set_cons_succ]
                  refine Hd.take 5 (some 68) (.pointer (some ⟨pr, 2, none⟩)) rfl rfl (by kernel_rfl) (by kernel_rfl) (by kernel_rfl) (fun _ _ _ h => h) (by rfl) (by intro w hSw; (try dsimp only at hSw); go_simp) (by assumption) ?_
                  try simp only [Act.put, List.setIfInBounds_toArray, List.set_cons_zero, List.set_cons_succ]
                  refine Hd.take 6 (some 69) (.slice (some ⟨gp, op, none⟩) tk.has.length c2) rfl rfl (by kernel_rfl) (by kernel_rfl) (by kernel_rfl) (fun _ _ _ h => h) (by rfl) (by intro w hSw; (try dsimp only at hSw); go_simp) (by assumption) ?_
                  try simp only [Act.put, List.setIfInBounds_toArray, List.set_cons_zero, List.set_cons_succ]
                  refine Hd.take 7 (some 70) (.int .i64 (q : Int)) rfl rfl (by kernel_rfl) (by kernel_rfl) (by kernel_rfl) (fun _ _ _ h => h) (by rfl) (by intro w hSw; (try dsimp only at hSw); go_simp) (by assumption) ?_
                  try simp only [Act.put, List.setIfInBounds_toArray, List.set_cons_zero, List.set_cons_succ]
                  refine Hd.take 8 (some 71) (.pointer (some ⟨gp, op + q * 2, none⟩)) rfl rfl (by kernel_rfl) (by kernel_rfl) (by kernel_rfl) (fun _ _ _ h => h) (by rfl) (by intro w hSw; (try dsimp only at hSw); go_simp) (by assumption) ?_
                  try simp only [Act.put, List.setIfInBounds_toArray, List.set_cons_zero, List.set_cons_succ]
                  refine Hd.take 9 (some 72) (.agg #[.string sq.topic, .int .i64 sq.part]) rfl rfl (by kernel_rfl) (by kernel_rfl) (by kernel_rfl) (fun _ _ _ h => h) (by rfl) (by intro w hSw; (try dsimp only at hSw); go_simp) (by assumption) ?_
                  try simp only [Act.put, List.setIfInBounds_toArray, List.set_cons_zero, List.set_cons_succ]
                  refine wpAnyH_ready (rs := [10]) (by kernel_rfl) (by simp) ?_
                  refine AllReadyH.cons (o := { dst := some 73, op := Op.call { callee := Callee.value (Operand.func 45), args := #[Operand.tmp 67, Operand.tmp 72], argTypes := #[71, 78] }, type := 4, pos := "l09_assign.go:78", after := #[{ on := 4, ground := Ground.data }, { on := 9, ground := Ground.data }], guard := none }) rfl (fun K hK => ?_) AllReadyH.nil
                  (go_simp; go_at_call 45; refine (IN.out wr.drew (Below.refl _ _).drew).mono ?_; rintro e w8 ⟨rfl, b8⟩; rw [HG.out]; have B8 : Hid (Below wr.heap.size wr w8) := ⟨b8.os, b8.tape, b8.output, b8.size, b8.block⟩; clear b8; try (go_wp2_with fail))
                  refine hK.out _ _ (ST5.out _ B8.out) (fun hHeld => ?_)
                  clear hK K
                  try simp only [Act.put, List.setIfInBounds_toArray, List.set_cons_zero, List.set_cons_succ]
                  refine wpAnyH_done (by kernel_rfl) ?_ _
                  go_wp2
                  go_ret
                  exact NO.out _ Z.out (chain HQ.out.2.1.bel B8.out)
                | false =>
                  have ZQ : Hid ((tk.has.take (q + 1)).any (isIn mj.has) = false) := by show _ = _; rw [TQ.out, List.any_append, HQ.out.1]; simp [hge]
                  have HG := Seg.hid hge
                  clear hge
                  refine wp_region_held_drew (S := (fun w' => w'.cell? ⟨g, o + j * 3 + 2, none⟩ = some (.slice E2 mj.has.length f2) ∧ w'.cell? ⟨pr, 2, none⟩ = some (.slice (some ⟨gp, op, none⟩) tk.has.length c2) ∧ w'.cell? ⟨gp, op + q * 2, none⟩ = some (.string sq.topic) ∧ w'.cell? ⟨gp, op + q * 2 + 1, none⟩ = some (.int .i64 sq.part))) (by kernel_rfl) (ST5.out _ (Below.refl _ _).drew) (fun hHeld => ?_)
                  refine Hd.take 0 (some 63) (.slice (some ⟨g, o, none⟩) l.length c) rfl rfl (by kernel_rfl) (by kernel_rfl) (by kernel_rfl) (fun _ _ _ h => h) (by rfl) (by intro w hSw; (try dsimp only at hSw); go_simp) (by assumption) ?_
                  try simp only [Act.put, List.setIfInBounds_toArray, List.set_cons_zero, List.set_cons_succ]
                  refine Hd.take 1 (some 64) (.int .i64 (j : Int)) rfl rfl (by kernel_rfl) (by kernel_rfl) (by kernel_rfl) (fun _ _ _ h => h) (by rfl) (by intro w hSw; (try dsimp only at hSw); go_simp) (by assumption) ?_
                  try simp only [Act.put, List.setIfInBounds_toArray, List.set_cons_zero, List.set_cons_succ]
                  refine Hd.take 2 (some 65) (.pointer (some ⟨g, o + j * 3, none⟩)) rfl rfl (by kernel_rfl) (by kernel_rfl) (by kernel_rfl) (fun _ _ _ h => h) (by rfl) (by intro w hSw; (try dsimp only at hSw); go_simp) (by assumption) ?_
                  try simp only [Act.put, List.setIfInBounds_toArray, List.set_cons_zero, List.set_cons_succ]
                  refine Hd.take 3 (some 66) (.pointer (some ⟨g, o + j * 3 + 2, none⟩)) rfl rfl (by kernel_rfl) (by kernel_rfl) (by kernel_rfl) (fun _ _ _ h => h) (by rfl) (by intro w hSw; (try dsimp only at hSw); go_simp) (by assumption) ?_
                  try simp only [Act.put, List.setIfInBounds_toArray, List.set_cons_zero, List.set_cons_succ]
                  refine Hd.take 4 (some 67) (.slice E2 mj.has.length f2) rfl rfl (by kernel_rfl) (by kernel_rfl) (by kernel_rfl) (fun _ _ _ h => h) (by rfl) (by intro w hSw; (try dsimp only at hSw); go_simp) (by assumption) ?_
                  try simp only [Act.put, List.setIfInBounds_toArray, List.set_cons_zero, List.set_cons_succ]
                  refine Hd.take 5 (some 68) (.pointer (some ⟨pr, 2, none⟩)) rfl rfl (by kernel_rfl) (by kernel_rfl) (by kernel_rfl) (fun _ _ _ h => h) (by rfl) (by intro w hSw; (try dsimp only at hSw); go_simp) (by assumption) ?_
                  try simp only [Act.put, List.setIfInBounds_toArray, List.set_cons_zero, List.set_cons_succ]
                  refine Hd.take 6 (some 69) (.slice (some ⟨gp, op, none⟩) tk.has.length c2) rfl rfl (by kernel_rfl) (by kernel_rfl) (by kernel_rfl) (fun _ _ _ h => h) (by rfl) (by intro w hSw; (try dsimp only at hSw); go_simp) (by assumption) ?_
                  try simp only [Act.put, List.setIfInBounds_toArray, List.set_cons_zero, List.set_cons_succ]
                  refine Hd.take 7 (some 70) (.int .i64 (q : Int)) rfl rfl (by kernel_rfl) (by kernel_rfl) (by kernel_rfl) (fun _ _ _ h => h) (by rfl) (by intro w hSw; (try dsimp only at hSw); go_simp) (by assumption) ?_
                  try simp only [Act.put, List.setIfInBounds_toArray, List.set_cons_zero, List.set_cons_succ]
                  refine Hd.take 8 (some 71) (.pointer (some ⟨gp, op + q * 2, none⟩)) rfl rfl (by kernel_rfl) (by kernel_rfl) (by kernel_rfl) (fun _ _ _ h => h) (by rfl) (by intro w hSw; (try dsimp only at hSw); go_simp) (by assumption) ?_
                  try simp only [Act.put, List.setIfInBounds_toArray, List.set_cons_zero, List.set_cons_succ]
                  refine Hd.take 9 (some 72) (.agg #[.string sq.topic, .int .i64 sq.part]) rfl rfl (by kernel_rfl) (by kernel_rfl) (by kernel_rfl) (fun _ _ _ h => h) (by rfl) (by intro w hSw; (try dsimp only at hSw); go_simp) (by assumption) ?_
                  try simp only [Act.put, List.setIfInBounds_toArray, List.set_cons_zero, List.set_cons_succ]
                  refine wpAnyH_ready (rs := [10]) (by kernel_rfl) (by simp) ?_
                  refine AllReadyH.cons (o := { dst := some 73, op := Op.call { callee := Callee.value (Operand.func 45), args := #[Operand.tmp 67, Operand.tmp 72], argTypes := #[71, 78] }, type := 4, pos := "l09_assign.go:78", after := #[{ on := 4, ground := Ground.data }, { on := 9, ground := Ground.data }], guard := none }) rfl (fun K hK => ?_) AllReadyH.nil
                  (go_simp; go_at_call 45; refine (IN.out wr.drew (Below.refl _ _).drew).mono ?_; rintro e w8 ⟨rfl, b8⟩; rw [HG.out]; have B8 : Hid (Below wr.heap.size wr w8) := ⟨b8.os, b8.tape, b8.output, b8.size, b8.block⟩; clear b8; try (go_wp2_with fail))
                  refine hK.out _ _ (ST5.out _ B8.out) (fun hHeld => ?_)
                  clear hK K
                  try simp only [Act.put, List.setIfInBounds_toArray, List.set_cons_zero, List.set_cons_succ]
                  refine wpAnyH_done (by kernel_rfl) ?_ _
                  go_wp2
                  go_roundw
                  case rel => exact ⟨q + 1, by omega, by go_num, ZQ.out, HQ.out.2.1.next B8.out, chain HQ.out.2.2 B8.out⟩
                  case measure => simp [intOf]; omega
              · have ZM := Seg.hid (ZN.out (by unfold meet; have := HQ.out.1; rw [List.take_of_length_le (by omega)] at this; exact this))
                go_wp2
                go_roundw
                case rel => exact ⟨j + 1, by omega, by go_num, ZM.out, HQ.out.2.1⟩
                case measure => simp [intOf]; omega
          · have hj' : k = j := by omega
            subst hj'
            have KL := Seg.hid (ZY.out HJ.out.1)
            go_wp2
            go_roundw
            case rel => exact ⟨k + 1, by omega, by go_num, KL.out, HJ.out.2.bel⟩
            case measure => simp [intOf]; omega
    · have HE := HR.out.1
      rw [wns_end (by omega)] at HE
      have HE' := Seg.hid HE
      clear HE
      go_wp2
      go_ret
      exact ⟨Seg.ret_bool HE'.out, HR.out.2⟩
end Go.Proofs.Ythohpaljkbnkeaa.WnS
