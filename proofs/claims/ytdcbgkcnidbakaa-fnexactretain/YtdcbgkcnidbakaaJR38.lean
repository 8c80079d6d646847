/- The program's countGone; A whole slice, or nothing, appended onto nil or a row of the call's own; a row's cells as what is appended. -/
import Derived.Maps.AppendAt
import Derived.Deep.AppendLies
import Derived.Test.YtdcbgkcnidbakaaJR28
import Derived.Test.YtdcbgkcnidbakaaJR33
namespace Go.Proofs.Ytdcbgkcnidbakaa.Re
set_option maxRecDepth 8000
open Go.RowKit
open Recs (hsz Row below1 below2 BatAt RecsAt batVal Bat Rec chain chainD)
open Bats SegW Segs Zs ReP
set_option linter.unusedVariables false
theorem infoI : (Try.prog.info? 3).map (fun i => (i.zero, i.size, i.bytes)) = some (some (.int .i64 0), 1, 8) := by kernel_rfl
/-- How far the sizes are laid: j of them. -/
structure SZ (w wr : World) (ss : List Sg) (j : Nat) (F : Nat → Value) : Prop where
  own : wr.ownsRow w.heap.size 3 1 (.slice (some ⟨w.heap.size, 0, none⟩) ss.length ss.length) ss.length ((List.range ss.length).map F)
  done : ∀ k, k < j → F k = .int .i64 (sizes (ss.getD k default).bats)
  int : ∀ k, k < ss.length → ∃ q, F k = .int .i64 q
  bel : Below w.heap.size w wr
theorem SZ.cell {w wr : World} {ss : List Sg} {j k : Nat} {F : Nat → Value} (h : SZ w wr ss j F) (hk : k < ss.length) : wr.cell? ⟨w.heap.size, k, none⟩ = some (F k) := by
  rw [World.ownsRow.cellAt h.own k (by omega)]
  simp [hk]
theorem SZ.later {w wr w' : World} {ss : List Sg} {j : Nat} {F : Nat → Value} (h : SZ w wr ss j F) (b : Below wr.heap.size wr w') : SZ w w' ss j F :=
  ⟨h.own.kept ⟨b.os, b.tape, b.output, b.size, fun k hk _ => b.block k hk⟩ (row := none) (.inr (by simp [Value.ownBlock])), h.done, h.int, chain h.bel b⟩
theorem SZ.put {w wr : World} {ss : List Sg} {j : Nat} {F : Nat → Value} (h : SZ w wr ss j F) (hj : j < ss.length) : SZ w (wr.setCell ⟨w.heap.size, j, none⟩ (.int .i64 (sizes (ss.getD j default).bats))) ss (j + 1) (fun k => if k = j then .int .i64 (sizes (ss.getD j default).bats) else F k) := by
  refine ⟨?_, fun k hk => ?_, fun k hk => ?_, h.bel.setCell (p := ⟨w.heap.size, j, none⟩) (Nat.le_refl _) _⟩
  · have := (World.ownsRow.stored h.own j (.int .i64 (sizes (ss.getD j default).bats))).1
    have he : ((List.range ss.length).map F).set j (.int .i64 (sizes (ss.getD j default).bats)) = (List.range ss.length).map (fun k => if k = j then .int .i64 (sizes (ss.getD j default).bats) else F k) := List.ext_getElem (by simp) fun i h1 h2 => by
      by_cases hi : i = j
      · subst hi; simp
      · rw [List.getElem_set_ne (by omega)]; simp [hi]
    rw [he] at this
    exact this
  · by_cases e : k = j
    · rw [if_pos e, e]
    · rw [if_neg e]; exact h.done k (by omega)
  · by_cases e : k = j
    · exact ⟨_, if_pos e⟩
    · obtain ⟨q, hq⟩ := h.int k hk
      exact ⟨q, by rw [if_neg e]; exact hq⟩
set_option maxHeartbeats 3200000 in
theorem countGone_core (ss : List Sg) (y x : Int) (A : Option Addr) (c : Nat) (w : World) (lo b : Nat) (hb : b ≤ w.heap.size) (hl : ss.length ≤ 60) (hf : ∀ i, i < ss.length → FewS (ss.getD i default)) (hok : ∀ i, i < ss.length → ∀ k, k < (ss.getD i default).bats.length → BOk.batOk ((ss.getD i default).bats.getD k default) = true) (hv : SegsAt w lo b (.slice A ss.length c) ss) :
    Calls Try.prog 17 #[.slice A ss.length c, .int .i64 y, .int .i64 x] w fun e w' => e = .returned (.int .i64 (gone y x ss)) ∧ Below w.heap.size w w' := by
  obtain ⟨i0, hi, hz0, hz1, hz2⟩ := info_parts infoI
  have HF := Seg.hid hf; have HOK := Seg.hid hok
  have TL := Seg.hid (tsz_le (fun i hi => ⟨(hf i hi).1, hok i hi⟩))
  have TT : tsz ss ≤ 6291456000000 := by
    have := TL.out ss.length (Nat.le_refl _)
    rw [List.take_length] at this
    omega
  obtain ⟨H, ⟨_, A', c', hsl, hrow⟩, hh⟩ := hv
  simp only [Value.slice.injEq] at hsl
  obtain ⟨rfl, _, rfl⟩ := hsl
  have HROW := Seg.hid hrow; have HH := Seg.hid hh
  clear hrow hh hf hok
  go_enter Try.func17, Try.ntmps17
  go_wp2_with (at_make; (refine wpList_make_full _ rfl (.tmp 13) (.tmp 13) 63 rfl w.heap.size 3 i0 _ 1 Try.underlying63 hi hz0 hz1 .i64 .i64 _ _ ss.length rfl rfl rfl rfl (by rw [hz2]; omega) (by unfold maxLen; omega) (Nat.le_refl _) ?_; intro w1 hown1 hgr1; have OW1 := Seg.hid hown1; have B1 := Seg.hid ((Below.refl w.heap.size w).grown hgr1 (Nat.le_refl _) (fun k hk => by cases hk)); clear hown1 hgr1))
  have C0 : Hid (SZ w w1 ss 0 (fun _ => .int .i64 0)) := by
    refine ⟨?_, fun k hk => absurd hk (by omega), fun k _ => ⟨0, rfl⟩, B1.out⟩
    have e : (madeCells (Value.int .i64 0).cells (ss.length * 1)).toList = (List.range ss.length).map (fun _ => Value.int .i64 0) := by
      refine List.ext_getElem (by simp [madeCells, Value.cells]) fun i h1 h2 => by simp [madeCells, Value.cells, Nat.mod_one]
    have := OW1.out
    rw [e] at this
    exact this
  go_wp2_with fail
  go_loopw [8, 17] (fun lv i wr => ∃ (j a : Nat) (F : Nat → Value), j ≤ ss.length ∧ i = .int .i64 j ∧ lv = .int .i64 a ∧ a ≤ 6291456000000 ∧ Hid (a = tsz (ss.take j) ∧ SZ w wr ss j F)) (fun _ i _ => ss.length - (intOf i).toNat)
  case atStart => exact ⟨0, 0, _, Nat.zero_le _, rfl, rfl, by omega, rfl, C0.out⟩
  case round =>
    clear C0 OW1 B1
    obtain ⟨j, a, F, hj, rfl, rfl, ha, HW⟩ := hrel
    by_cases hlt : j < ss.length
    · have h0 : (0 : Int) ≤ (j : Int) := by omega
      have h1 : (j : Int) < (ss.length : Int) := by omega
      obtain ⟨g, o, rfl, hg, hc, hcell, _⟩ := HROW.out.resolve_left (by omega)
      have hgw : g < w.heap.size := by omega
      obtain ⟨e0, e1⟩ := Segs.six (fun i hi q hq => by rw [HW.out.2.bel.cell (p := ⟨g, o + i * 2 + q, none⟩) hgw]; exact hcell i hi q hq) j hlt
      have BT : Hid (∀ wx, Below wr.heap.size wr wx → BatsAt wx lo b (H j) (ss.getD j default).bats) := fun wx bx => (HH.out j hlt).below ((chain HW.out.2.bel bx).mono hb)
      have hz := HW.out.2.bel.size
      have SN : Hid (tsz (ss.take (j + 1)) = a + sizes (ss.getD j default).bats) := by show _ = _; rw [tsz_take hlt, ← HW.out.1]
      have WC := Seg.hid HW.out.2
      have hle : a + sizes (ss.getD j default).bats ≤ 6291456000000 := by
        have := tsz_parts ss (j + 1)
        rw [SN.out] at this
        omega
      have FS := Seg.hid (HF.out j hlt).1
      have OK := Seg.hid (HOK.out j hlt)
      obtain ⟨_, ⟨_, Ah, ch, hHj, _⟩, _⟩ := HH.out j hlt
      have PUT : Hid (∀ wx, Below wr.heap.size wr wx → SZ w (wx.setCell ⟨w.heap.size, j, none⟩ (.int .i64 (sizes (ss.getD j default).bats))) ss (j + 1) (fun k => if k = j then .int .i64 (sizes (ss.getD j default).bats) else F k) ∧ wx.cell? ⟨w.heap.size, j, none⟩ = some (F j) ∧ wx.frozen? ⟨w.heap.size, j, none⟩ = false ∧ w.heap.size < wx.heap.size) := fun wx bx => ⟨(WC.out.later bx).put hlt, (WC.out.later bx).cell hlt, World.ownsRow.frozenAt (WC.out.later bx).own j, (World.ownsRow.lt (WC.out.later bx).own w.heap.size rfl).2⟩
      obtain ⟨qv, hqv⟩ := HW.out.2.int j hlt
      have QV := Seg.hid hqv
      clear hcell HW hqv
      generalize ss.getD j default = tj at *
      rw [hHj] at e1 BT
      clear hHj
      go_wp2_with fail
      refine (batchSizes_any _ tj.bats (wr.alloc _) lo b (by rw [hsz]; omega) FS.out OK.out (BT.out _ (below1 wr _))).mono ?_
      rintro e w8 ⟨rfl, b8⟩
      have B8 := Seg.hid (chain (below1 wr _) b8)
      have P8 := Seg.hid (PUT.out w8 B8.out)
      obtain ⟨_, p1, p2, p3⟩ := P8.out
      rw [QV.out] at p1
      clear b8 e0 e1
      generalize sizes tj.bats = z at *
      have p4 := World.cell?_setCell_same' w8 ⟨w.heap.size, j, none⟩ (.int .i64 (z : Int)) (by rw [p1]; rfl)
      have z1 : (a : Int) + (z : Int) ≤ 6291456000000 := by omega
      go_wp2_with fail
      go_roundw
      case rel => exact ⟨j + 1, a + z, _, by omega, by go_num, by rw [Int.natCast_add], hle, SN.out.symm, P8.out.1⟩
      case measure => simp [intOf]; omega
    · have WC : Hid (SZ w wr ss ss.length F) := by have := HW.out.2; rw [show j = ss.length by omega] at this; exact this
      have AE : Hid (a = tsz ss) := by have := HW.out.1; rw [show j = ss.length by omega, List.take_length] at this; exact this
      have hjl : j = ss.length := by omega
      clear HW
      subst hjl
      have nw : IntKind.i64.wrap ((ss.length : Int) - 1) = (ss.length : Int) - 1 := by rw [IntKind.wrap_i64]; omega
      go_wp2_with fail
      obtain ⟨wo, hwo⟩ : ∃ wo, wo = wr := ⟨wr, rfl⟩
      subst hwo
      go_loopw [8, 38] (fun lv i wk => ∃ (k a2 : Nat), (k < ss.length ∨ k = 0) ∧ i = .int .i64 k ∧ lv = .int .i64 a2 ∧ a2 ≤ 6291456000000 ∧ Hid (a2 = tsz (ss.drop k) ∧ (∀ m, m < k → stay y x ss m = false) ∧ Below wo.heap.size wo wk)) (fun _ i _ => ss.length - (intOf i).toNat)
      case atStart => exact ⟨0, a, .inr rfl, rfl, rfl, ha, by rw [List.drop_zero]; exact AE.out, fun m hm => absurd hm (by omega), Below.refl _ _⟩
      case round =>
        obtain ⟨k, a2, hk, rfl, rfl, ha2, HK⟩ := hrel
        have BR := Seg.hid (chain WC.out.bel HK.out.2.2)
        by_cases hkl : k + 1 < ss.length
        · have h0 : (0 : Int) ≤ (k : Int) := by omega
          have h1 : (k : Int) < (ss.length : Int) := by omega
          have h2 : (k : Int) < (ss.length : Int) - 1 := by omega
          have hk0 : k < ss.length := by omega
          have p1 := (WC.out.later HK.out.2.2).cell hk0
          rw [WC.out.done k hk0] at p1
          have p3 := (World.ownsRow.lt (WC.out.later HK.out.2.2).own w.heap.size rfl).2
          obtain ⟨g, o, rfl, hg, hc, hcell, _⟩ := HROW.out.resolve_left (by omega)
          have hgw : g < w.heap.size := by omega
          obtain ⟨e0, e1⟩ := Segs.six (fun i hi q hq => by rw [BR.out.cell (p := ⟨g, o + i * 2 + q, none⟩) hgw]; exact hcell i hi q hq) k hk0
          have TD : Hid (a2 = sizes (ss.getD k default).bats + tsz (ss.drop (k + 1))) := by show _ = _; rw [HK.out.1]; exact tsz_drop hk0
          have BT : Hid (BatsAt wr lo b (H k) (ss.getD k default).bats) := (HH.out k hk0).below (BR.out.mono hb)
          have FS := Seg.hid (HF.out k hk0)
          have NX : Hid (stay y x ss k = false → ∀ m, m < k + 1 → stay y x ss m = false) := fun hn m hm => by
            by_cases e : m = k
            · rw [e]; exact hn
            · exact HK.out.2.1 m (by omega)
          have FD : Hid (stay y x ss k = true → gone y x ss = k) := gone_found hkl HK.out.2.1
          have ST : Hid (stay y x ss k = (decide ((tsz (ss.drop (k + 1)) : Int) < y) && !(old x (ss.getD k default).bats))) := rfl
          have BK := Seg.hid HK.out.2.2
          obtain ⟨_, ⟨_, Ah, ch, hHj, _⟩, _⟩ := HH.out k hk0
          rw [hHj] at e1 BT
          clear hcell HK hHj
          generalize ss.getD k default = tk at *
          generalize sizes tk.bats = z at *
          obtain ⟨a3, hA3⟩ : ∃ a3, tsz (ss.drop (k + 1)) = a3 := ⟨_, rfl⟩
          rw [hA3] at TD ST
          have A3E := Seg.hid hA3
          clear hA3
          have hs3 : (a2 : Int) - (z : Int) = (a3 : Int) := by have := TD.out; omega
          have z1 : (z : Int) ≤ 6291456000000 := by have := TD.out; omega
          have ha3 : a3 ≤ 6291456000000 := by have := TD.out; omega
          have hz := BR.out.size
          go_upto_region 13 with fail
          try rw [hs3]
          clear hs3
          have hgr : g < wr.heap.size := by omega
          by_cases hlt3 : (a3 : Int) < y
          · have hd : decide ((a3 : Int) < y) = true := decide_eq_true hlt3
            go_wp2_with fail
            refine (allBelow_any _ tk.bats x wr lo b (by omega) FS.out.1 (fun i hi => (FS.out.2 i hi).1) BT.out).mono ?_
            rintro e w8 ⟨rfl, b8⟩
            have B8 := Seg.hid (chain BR.out b8)
            have BK8 := Seg.hid (chain BK.out b8)
            clear b8
            cases ho : old x tk.bats with
            | false =>
              have HE := Seg.hid (FD.out (by rw [ST.out, hd, ho]; rfl))
              clear ho
              go_wp2_with fail
              go_ret
              exact ⟨by rw [HE.out]; rfl, B8.out⟩
            | true =>
              have NK := Seg.hid (NX.out (by rw [ST.out, hd, ho]; rfl))
              clear ho
              go_wp2_with fail
              go_roundw
              case rel => exact ⟨k + 1, a3, .inl hkl, by go_num, rfl, ha3, A3E.out.symm, NK.out, BK8.out⟩
              case measure => simp [intOf]; omega
          · have hd : decide ((a3 : Int) < y) = false := decide_eq_false hlt3
            have NK := Seg.hid (NX.out (by rw [ST.out, hd]; rfl))
            go_wp2_with fail
            go_roundw
            case rel => exact ⟨k + 1, a3, .inl hkl, by go_num, rfl, ha3, A3E.out.symm, NK.out, BK.out⟩
            case measure => simp [intOf]; omega
        · have HE : Hid (gone y x ss = ss.length - 1) := gone_end (fun m hm => HK.out.2.1 m (by omega))
          have h2 : ¬ (k : Int) < (ss.length : Int) - 1 := by omega
          clear HK
          go_wp2_with fail
          all_goals
            go_ret
            refine ⟨?_, BR.out⟩
            rw [HE.out]
            refine congrArg Ending.returned (congrArg (Value.int .i64) ?_)
            omega
theorem countGone_any (v : Value) (ss : List Sg) (y x : Int) (w : World) (lo b : Nat) (hb : b ≤ w.heap.size) (hl : ss.length ≤ 60) (hf : ∀ i, i < ss.length → FewS (ss.getD i default)) (hok : ∀ i, i < ss.length → ∀ k, k < (ss.getD i default).bats.length → BOk.batOk ((ss.getD i default).bats.getD k default) = true) (hv : SegsAt w lo b v ss) :
    Calls Try.prog 17 #[v, .int .i64 y, .int .i64 x] w fun e w' => e = .returned (.int .i64 (gone y x ss)) ∧ Below w.heap.size w w' := by
  obtain ⟨_, ⟨_, A, c, rfl, _⟩, _⟩ := id hv
  exact countGone_core ss y x A c w lo b hb hl hf hok hv
end Go.Proofs.Ytdcbgkcnidbakaa.Re
namespace Go.Proofs.Ytdcbgkcnidbakaa.Ft
set_option maxRecDepth 8000
open Go.RowKit
open Recs
set_option linter.unusedVariables false
section
variable {P : Program} (w : World)
theorem run_append_all (base : Nat) (t ty e : TypeId) (i : TypeInfo) (z : Value) (size bytes : Nat) (ht : P.underlying t = some (.slice e)) (hi : P.info? e = some i) (hz : i.zero = some z)
    (hsize : i.size = size) (hby : i.bytes = bytes) (hzs : z.cells.size = size) (hsz : 0 < size)
    (v : Value) (n : Nat) (xs : List Value) (hown : w.ownsRow base e size v n xs)
    (A : Option Addr) (m c : Nat) (news : List Value) (hl : news.length = m * size) (hnews : m ≠ 0 → ∃ ad, A = some ad ∧ ∀ j u, news[j]? = some u → w.cell? (ad.add j) = some u) (h1 : ∀ u ∈ news, u.oneCell' = true)
    (h63 : n + m ≤ maxLen) (hbytes : (n + m) * bytes ≤ 140737488355328) (hbase : base ≤ w.heap.size) :
    ∃ v' w', (Builtin.append_ #[t, t] ty #[v, .slice A m c]).run P w = .ok v' w' ∧ w'.ownsRow base e size v' (n + m) (xs ++ news) ∧ w.grownBy w' v.ownBlock ∧ (v'.ownBlock = v.ownBlock ∨ v'.ownBlock = some w.heap.size) := by
  by_cases hm : m = 0
  · subst hm
    have hn : news = [] := List.eq_nil_of_length_eq_zero (by simpa using hl)
    subst hn
    cases A with
    | some ad =>
      obtain ⟨v', w', a1, a2, a3, a4, a5⟩ := run_append_own_at (P := P) w base t ty e i z size bytes ht hi hz hsize hby hzs hsz v n xs hown ad 0 c [] (by simp) (by simp) (by simp) h63 hbytes hbase
      exact ⟨v', w', a1, a2, a3, a5⟩
    | none =>
      refine ⟨v, w, ?_, by simpa using hown, ⟨rfl, rfl, rfl, Nat.le_refl _, fun _ _ _ => rfl⟩, .inl rfl⟩
      subst hsize
      rcases hown.2 with ⟨rfl, rfl⟩ | ⟨g, cap, cur, rfl, hbg, hg, hnc, hcm, hcs, htake⟩
      · simp [Builtin.append_, run_underlying ht, sizeOf, typeInfo, hi, Builtin.lenOf, Builtin.firstCells]
      · simp [Builtin.append_, run_underlying ht, sizeOf, typeInfo, hi, Builtin.lenOf, Builtin.firstCells, loadCells, hnc, storeCells]
  · obtain ⟨ad, rfl, hc⟩ := hnews hm
    obtain ⟨v', w', a1, a2, a3, a4, a5⟩ := run_append_own_at (P := P) w base t ty e i z size bytes ht hi hz hsize hby hzs hsz v n xs hown ad m c news hl hc h1 h63 hbytes hbase
    exact ⟨v', w', a1, a2, a3, a5⟩
theorem wp_append_all {o : Oper} {a : Act} {K : Act → World → Prop} {Q : Exit → Act → World → Prop} (s x : Operand) (t : TypeId)
    (ho : o.op = .call { callee := .builtin .append, args := #[s, x], argTypes := #[t, t] })
    (base : Nat) (e : TypeId) (i : TypeInfo) (z : Value) (size bytes : Nat) (ht : P.underlying t = some (.slice e)) (hi : P.info? e = some i) (hz : i.zero = some z)
    (hsize : i.size = size) (hby : i.bytes = bytes) (hzs : z.cells.size = size) (hsz : 0 < size)
    (v : Value) (n : Nat) (xs : List Value) (hs : a.eval s = v) (hown : w.ownsRow base e size v n xs)
    (A : Option Addr) (m c : Nat) (news : List Value) (hx : a.eval x = .slice A m c) (hl : news.length = m * size) (hnews : m ≠ 0 → ∃ ad, A = some ad ∧ ∀ j u, news[j]? = some u → w.cell? (ad.add j) = some u) (h1 : ∀ u ∈ news, u.oneCell' = true)
    (h63 : n + m ≤ maxLen) (hbytes : (n + m) * bytes ≤ 140737488355328) (hbase : base ≤ w.heap.size)
    (h : ∀ v' w', w'.ownsRow base e size v' (n + m) (xs ++ news) → w.grownBy w' v.ownBlock → (v'.ownBlock = v.ownBlock ∨ v'.ownBlock = some w.heap.size) → K (a.put o.dst v') w') : o.wp P a w K Q := by
  obtain ⟨v', w', hr, h2, h3, h4⟩ := run_append_all (P := P) w base t o.type e i z size bytes ht hi hz hsize hby hzs hsz v n xs hown A m c news hl hnews h1 h63 hbytes hbase
  unfold Oper.wp execOp
  simp only [ho, resolve, invoke, builtin, Sem.run_bind, Sem.run_pure, Result.andThen_ok, List.map_toArray, List.map_cons, List.map_nil, hs, hx, hr]
  exact h v' w' h2 h3 h4
theorem wpList_append_all {ops : Array Oper} {rest : List Oper} {o : Oper} {a : Act} {Q : Exit → Act → World → Prop} (hgd : o.guard = none) (s x : Operand) (t : TypeId)
    (ho : o.op = .call { callee := .builtin .append, args := #[s, x], argTypes := #[t, t] })
    (base : Nat) (e : TypeId) (i : TypeInfo) (z : Value) (size bytes : Nat) (ht : P.underlying t = some (.slice e)) (hi : P.info? e = some i) (hz : i.zero = some z)
    (hsize : i.size = size) (hby : i.bytes = bytes) (hzs : z.cells.size = size) (hsz : 0 < size)
    (v : Value) (n : Nat) (xs : List Value) (hs : a.eval s = v) (hown : w.ownsRow base e size v n xs)
    (A : Option Addr) (m c : Nat) (news : List Value) (hx : a.eval x = .slice A m c) (hl : news.length = m * size) (hnews : m ≠ 0 → ∃ ad, A = some ad ∧ ∀ j u, news[j]? = some u → w.cell? (ad.add j) = some u) (h1 : ∀ u ∈ news, u.oneCell' = true)
    (h63 : n + m ≤ maxLen) (hbytes : (n + m) * bytes ≤ 140737488355328) (hbase : base ≤ w.heap.size)
    (h : ∀ v' w', w'.ownsRow base e size v' (n + m) (xs ++ news) → w.grownBy w' v.ownBlock → (v'.ownBlock = v.ownBlock ∨ v'.ownBlock = some w.heap.size) → wpList P ops Q rest (a.put o.dst v') w') : wpList P ops Q (o :: rest) a w :=
  wpList_plain hgd fun _ hK => wp_append_all w s x t ho base e i z size bytes ht hi hz hsize hby hzs hsz v n xs hs hown A m c news hx hl hnews h1 h63 hbytes hbase fun v' w' h2 h3 h4 => hK _ _ (h v' w' h2 h3 h4)
theorem step_append_all {ops : Array Oper} {o : Oper} {a : Act} {K : Act → World → Prop} {Q : Exit → Act → World → Prop} {E : Prop} (hgd : o.guard = none) (s x : Operand) (t : TypeId)
    (ho : o.op = .call { callee := .builtin .append, args := #[s, x], argTypes := #[t, t] })
    (base : Nat) (e : TypeId) (i : TypeInfo) (z : Value) (size bytes : Nat) (ht : P.underlying t = some (.slice e)) (hi : P.info? e = some i) (hz : i.zero = some z)
    (hsize : i.size = size) (hby : i.bytes = bytes) (hzs : z.cells.size = size) (hsz : 0 < size)
    (v : Value) (n : Nat) (xs : List Value) (hs : a.eval s = v) (hown : w.ownsRow base e size v n xs)
    (A : Option Addr) (m c : Nat) (news : List Value) (hx : a.eval x = .slice A m c) (hl : news.length = m * size) (hnews : m ≠ 0 → ∃ ad, A = some ad ∧ ∀ j u, news[j]? = some u → w.cell? (ad.add j) = some u) (h1 : ∀ u ∈ news, u.oneCell' = true)
    (h63 : n + m ≤ maxLen) (hbytes : (n + m) * bytes ≤ 140737488355328) (hbase : base ≤ w.heap.size)
    (h : ∀ v' w', w'.ownsRow base e size v' (n + m) (xs ++ news) → w.grownBy w' v.ownBlock → (v'.ownBlock = v.ownBlock ∨ v'.ownBlock = some w.heap.size) → K (a.put o.dst v') w') :
    if Region.wanted o (yielded ops a.tmps) = true then Oper.wp P o a w K Q else E := by
  have hw : Region.wanted o (yielded ops a.tmps) = true := by simp [Region.wanted, hgd]
  rw [if_pos hw]
  exact wp_append_all w s x t ho base e i z size bytes ht hi hz hsize hby hzs hsz v n xs hs hown A m c news hx hl hnews h1 h63 hbytes hbase h
end
/-- The cells of a row, one behind the other. -/
def flat (s n : Nat) (f : Nat → Nat → Value) : List Value := (List.range (n * s)).map fun q => f (q / s) (q % s)
theorem flat_len (s n : Nat) (f : Nat → Nat → Value) : (flat s n f).length = n * s := by simp [flat]
theorem flat_news {w : World} {lo b s n : Nat} {A : Option Addr} {c : Nat} {f : Nat → Nat → Value} (hs : 0 < s) (h : Row w lo b s (.slice A n c) n f) : n ≠ 0 → ∃ ad, A = some ad ∧ ∀ j u, (flat s n f)[j]? = some u → w.cell? (ad.add j) = some u := fun hn => by
  obtain ⟨_, A', c', h1, h2⟩ := h
  simp only [Value.slice.injEq] at h1
  obtain ⟨rfl, _, rfl⟩ := h1
  obtain ⟨g, o, rfl, _, _, h6, _⟩ := h2.resolve_left hn
  refine ⟨_, rfl, fun j u hj => ?_⟩
  have hlt := (List.getElem?_eq_some_iff.1 hj).1
  rw [flat_len] at hlt
  have hi : j / s < n := Nat.div_lt_of_lt_mul (by rw [Nat.mul_comm]; exact hlt)
  have := h6 (j / s) hi (j % s) (Nat.mod_lt _ hs)
  have hadd : (⟨g, o, none⟩ : Addr).add j = ⟨g, o + j, none⟩ := by unfold Addr.add; split <;> simp_all
  rw [hadd, show o + j = o + j / s * s + j % s by have := Nat.div_add_mod j s; rw [Nat.mul_comm] at this; omega, this]
  simp only [flat, List.getElem?_map, List.getElem?_range hlt, Option.map_some] at hj
  exact hj
theorem flat_cell (s n : Nat) (f : Nat → Nat → Value) (i j : Nat) (hi : i < n) (hj : j < s) : (flat s n f).getD (i * s + j) default = f i j := by
  have hlt : i * s + j < n * s := by
    have : (i + 1) * s ≤ n * s := Nat.mul_le_mul_right s hi
    rw [Nat.succ_mul] at this
    omega
  unfold flat
  rw [List.getD_eq_getElem?_getD, List.getElem?_map, List.getElem?_range hlt]
  simp only [Option.map_some, Option.getD_some]
  rw [show i * s + j = j + s * i by rw [Nat.mul_comm]; omega, Nat.add_mul_div_left _ _ (by omega), Nat.div_eq_of_lt hj, Nat.zero_add, Nat.add_mul_mod_self_left, Nat.mod_eq_of_lt hj]
end Go.Proofs.Ytdcbgkcnidbakaa.Ft
