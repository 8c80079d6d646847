/- The list that Resolve makes: one value more; what the loops keep; The model's l12Find and Matches. -/
import Derived.Deep.RegionHeld3
import Derived.Deep.RegionLaw
import Derived.BigQuiet
import Derived.Test.YtdhicmbfknagjaaJRO23
import Derived.Test.YtdhicmbfknagjaaJRO22
namespace Go.Proofs.Ytdhicmbfknagjaa.RvL
set_option maxRecDepth 8000
open Go.RowKit
open Ls Lp VkP VkR RvP ClI
open Recs
set_option linter.unusedVariables false
/-- The fields up to the k-th are resolved; the places lie in block gm. -/
structure Rn (w4 wr : World) (base : Nat) (fs : List Fld) (us : List Vlu) (ms : List Int) (gm : Nat) (k : Nat) (v : Value) : Prop where
  le : k ≤ fs.length
  ls : ∃ F P, Ow.LGr 84 5 Ow.EOVlu wr base v (outL fs us ms k) F P
  ne : v.ownBlock ≠ some gm
  mh : wr.heap[gm]? = w4.heap[gm]?
  bel : Below base w4 wr
theorem nx {w4 wr w2 w9 : World} {base gm k g9 cap9 : Nat} {fs : List Fld} {us : List Vlu} {ms : List Int} {v : Value} {F : Nat → Value} {P : Nat → Nat → Prop} {u : Vlu} {A : Option Addr} {c : Nat} (hk : k < fs.length) (LG : Ow.LGr 84 5 Ow.EOVlu wr base v (outL fs us ms k) F P) (ne : v.ownBlock ≠ some gm) (mk : wr.heap[gm]? = w4.heap[gm]?) (bel : Below base w4 wr)
    (hgm : gm < wr.heap.size) (hbase : base ≤ wr.heap.size) (hb : Below wr.heap.size wr w2) (hi : Ow.ItmsOwn w2 (seg wr.heap.size w2.heap.size) (.slice A u.items.length c) u.items) (hu : outAt fs us ms k = u)
    (hown : w9.ownsRow base 84 5 (.slice (some ⟨g9, 0, none⟩) ((outL fs us ms k).length + 1) cap9) ((outL fs us ms k).length + 1) ((List.range ((outL fs us ms k).length * 5)).map F ++ (vrow u A c).toList)) (gr : w2.grownBy w9 v.ownBlock) (hg : v.ownBlock = some g9 ∨ g9 = w2.heap.size) :
    Rn w4 w9 base fs us ms gm (k + 1) (.slice (some ⟨g9, 0, none⟩) ((outL fs us ms k).length + 1) cap9) := by
  have hs := hb.size
  refine ⟨hk, ?_, ?_, ?_, ?_⟩
  · rw [outL_next, hu]
    exact push LG hbase hb hi hown gr hg
  · intro e
    simp only [Value.ownBlock, Option.some.injEq] at e
    rcases hg with hg | hg
    · exact ne (by rw [hg, e])
    · omega
  · rw [gr.block gm (by omega) (fun e => ne e.symm), hb.block gm hgm, mk]
  · exact (bel.trans (hb.mono hbase)).grown gr (by omega) (fun x hx => (World.ownsRow.lt LG.own x hx).1)
theorem own_in {T : Type} [Inhabited T] {nf : Nat} {E : Elt T} {w : World} {S : Nat → Prop} {v : Value} {us : List T} {g o n c : Nat} (h : LAt nf E w S v us) (e : v = .slice (some ⟨g, o, none⟩) n c) (hz : 0 < us.length) : S g := by
  obtain ⟨_, A, c1, h1, h2⟩ := h
  obtain ⟨g1, o1, F, ea, hg, _⟩ := h2.resolve_left (by omega)
  rw [h1, ea] at e
  cases e
  exact hg
theorem start {w4 : World} {base gm : Nat} {fs : List Fld} {us : List Vlu} {ms : List Int} {t : Nat} (h : w4.ownsRow base 84 5 (.slice (some ⟨base, 0, none⟩) 0 0) 0 []) (hne : base ≠ gm) : Rn w4 w4 base fs us ms gm 0 (.slice (some ⟨base, 0, none⟩) 0 0) :=
  ⟨Nat.zero_le _, Ow.LGrow.empty h, fun e => hne (by simpa [Value.ownBlock] using e), rfl, Below.refl _ _⟩
end Go.Proofs.Ytdhicmbfknagjaa.RvL
namespace Go.Proofs.Ytdhicmbfknagjaa.MaS
set_option maxRecDepth 8000
open Go.RowKit
open Ls Lp VkP VkR ScP ScM ScN ScI ScS MaP MaI CrP
open Recs (hsz below1 below2 below3 chain chainD)
set_option linter.unusedVariables false
set_option maxHeartbeats 1600000 in
theorem find_any (x : Value) (s : Sch) (n : ByteArray) (w : World) (S : Nat → Prop) (hx : SchAt w S x s) (hS : ∀ g, S g → g < w.heap.size) (hf : szSch s ≤ 1048576) :
    Calls Try.prog 47 #[x, .string n] w fun e w' => e = .returned (.int .i64 (fnd s.fields n)) ∧ Below w.heap.size w w' := by
  obtain ⟨A0, c0, rfl, hl⟩ := formS hx
  obtain ⟨A, c, g, o, F, e, OP, hn⟩ := opn hl hS
  cases e
  have HO := Seg.hid OP
  have h20 : s.fields.length ≤ 1048576 := szL_len _ (sz_fields hf)
  clear hx hl OP hf
  go_enter Try.func47, Try.ntmps47
  go_wp2
  go_loop [5] (fun i => ∃ k : Nat, k ≤ s.fields.length ∧ i = .int .i64 k ∧ Hid (∀ y, y < k → ((s.fields.getD y default).name.toList == n.toList) = false)) (fun i => s.fields.length - (intOf i).toNat)
  case atStart => exact ⟨0, Nat.zero_le _, rfl, (fun y hy => absurd hy (by omega) : ∀ y, y < 0 → ((s.fields.getD y default).name.toList == n.toList) = false)⟩
  case round =>
    obtain ⟨k, hk, rfl, HG⟩ := hrel
    by_cases hlt : k < s.fields.length
    · obtain ⟨ea, hc, hgw⟩ := HO.out.addr.resolve_left (by omega)
      subst ea
      obtain ⟨A', c', B', d', hfl, d0, d1, d2, d3, d4, d5, d6, d7, d8, d9, d10⟩ := fld_at HO.out hS (below1 w (.cells (srow s (some ⟨g, o, none⟩) c0) 43 (0, 0))) hlt
      clear hfl d1 d2 d3 d4 d5 d6 d7 d8 d9 d10
      have h0 : (0 : Int) ≤ (k : Int) := by omega
      have h1 : (k : Int) < (s.fields.length : Int) := by omega
      have AT := Seg.hid (fun he => fnd_at (n := n) hlt HG.out he)
      have NX : Hid (((s.fields.getD k default).name.toList == n.toList) = false → ∀ y, y < k + 1 → ((s.fields.getD y default).name.toList == n.toList) = false) := fun h y hy => by
        rcases Nat.lt_or_ge y k with h' | h'
        · exact HG.out y h'
        · obtain rfl : y = k := by omega
          exact h
      obtain ⟨b, hb⟩ : ∃ b, ((s.fields.getD k default).name.toList == n.toList) = b := ⟨_, rfl⟩
      have HB := Seg.hid hb
      clear HG
      generalize s.fields.getD k default = f at *
      cases b with
      | true =>
        have RF : Hid (fnd s.fields n = k) := AT.out HB.out
        go_wp2
        go_ret
        exact ⟨by rw [RF.out]; rfl, below1 _ _⟩
      | false =>
        have RF := Seg.hid (NX.out HB.out)
        go_wp2
        go_round
        case rel => exact ⟨k + 1, by omega, by go_num, RF.out⟩
        case measure => simp [intOf]; omega
    · obtain rfl : k = s.fields.length := by omega
      have RF : Hid (fnd s.fields n = -1) := fnd_no HG.out
      go_wp2
      go_ret
      exact ⟨by rw [RF.out]; rfl, below1 _ _⟩
theorem plc_cons (ws : List Fld) (n : ByteArray) (ns : List ByteArray) : plc ws (n :: ns) = if 0 ≤ fnd ws n then fnd ws n else plc ws ns := rfl
set_option maxHeartbeats 6400000 in
theorem spec_any (x y : Value) (r s : Sch) (w : World) (S : Nat → Prop) (hx : SchAt w S x r) (hy : SchAt w S y s) (hS : ∀ g, S g → g < w.heap.size) (hfr : szSch r ≤ 1048576) (hfs : szSch s ≤ 1048576) :
    Calls Try.prog 13 #[x, y] w fun e w' => ∃ v, e = .returned v ∧ IRow w' w.heap.size v (matchL r s) ∧ Below w.heap.size w w' := by
  have HX := Seg.hid hx
  have HY := Seg.hid hy
  obtain ⟨A0, c0, rfl, hl⟩ := formS hx
  obtain ⟨A, c, g, o, F, e, OP, hn⟩ := opn hl hS
  cases e
  obtain ⟨A2, c2, rfl, -⟩ := formS hy
  have HO := Seg.hid OP
  have HZ := Seg.hid (sz_fields hfr)
  clear hx hy hl OP
  have C1 : Hid (∀ wx, Below w.heap.size w wx → Calls Try.prog 46 #[.agg (srow r A0 c0)] wx fun e w' => e = .returned (.bool (sok r)) ∧ Below wx.heap.size wx w') := fun wx b => ScS.first_any _ r wx S (HX.out.below b hS) (fun g hg => Nat.lt_of_lt_of_le (hS g hg) b.size) hfr
  have C2 : Hid (∀ wx, Below w.heap.size w wx → Calls Try.prog 46 #[.agg (srow s A2 c2)] wx fun e w' => e = .returned (.bool (sok s)) ∧ Below wx.heap.size wx w') := fun wx b => ScS.first_any _ s wx S (HY.out.below b hS) (fun g hg => Nat.lt_of_lt_of_le (hS g hg) b.size) hfs
  have C3 : Hid (∀ n wx, Below w.heap.size w wx → Calls Try.prog 47 #[.agg (srow s A2 c2), .string n] wx fun e w' => e = .returned (.int .i64 (fnd s.fields n)) ∧ Below wx.heap.size wx w') := fun n wx b => find_any _ s n wx S (HY.out.below b hS) (fun g hg => Nat.lt_of_lt_of_le (hS g hg) b.size) hfs
  obtain ⟨i0, hi, hz0, hz1, hz2⟩ := info_parts infoI
  go_enter Try.func13, Try.ntmps13
  go_upto_region 2 with fail
  obtain ⟨w1, hw1⟩ : ∃ w1, ((w.alloc (.cells (srow r A0 c0) 43 (0, 0))).alloc (.cells (srow s A2 c2) 43 (0, 0))).alloc (.cells #[] 3 (0, 0)) = w1 := ⟨_, rfl⟩
  have B1 : Hid (Below w.heap.size w w1) := by show Below _ _ _; rw [← hw1]; exact below3 _ _ _ _
  have P1 : Hid (w1.heap[w.heap.size]? = some (.cells (srow r A0 c0) 43 (0, 0))) := by show _ = _; rw [← hw1]; exact at3z w _ _ _
  have P2 : Hid (w1.heap[w.heap.size + 1]? = some (.cells (srow s A2 c2) 43 (0, 0))) := by show _ = _; rw [← hw1]; exact Recs.at3 w _ _ _
  have O1 : Hid (IRow w1 (w.heap.size + 2) (.slice (some ⟨w.heap.size + 1 + 1, 0, none⟩) 0 0) []) := by
    have hg : w1.heap[w.heap.size + 1 + 1]? = some (.cells #[] 3 (0, 0)) := by rw [← hw1]; exact Cells.at3' w _ _ _
    exact ⟨rfl, .inr ⟨w.heap.size + 1 + 1, 0, #[], rfl, by omega, hg, by simp, by unfold maxLen; omega, rfl, rfl⟩⟩
  have s1 : w.heap.size + 1 < w1.heap.size := (Array.getElem?_eq_some_iff.1 P2.out).1
  have a0 : w1.cell? ⟨w.heap.size, 0, none⟩ = some (.string r.name) := cell_of_row w1 _ 0 _ _ (0, 0) P1.out
  have a1 : w1.cell? ⟨w.heap.size, 1, none⟩ = some (.slice A0 r.fields.length c0) := cell_of_row w1 _ 1 _ _ (0, 0) P1.out
  try rw [hw1]
  clear hw1
  have EMP : Hid (∀ wx, Below w1.heap.size w1 wx → (sok r && sok s) = false → (IRow wx w.heap.size (.slice (some ⟨w.heap.size + 1 + 1, 0, none⟩) 0 0) (matchL r s) ∧ Below w.heap.size w wx)) := fun wx b h => by
    refine ⟨?_, chain B1.out b⟩
    rw [matchL, h, if_neg (by simp)]
    have hr := IRow.keep O1.out (w' := wx) (fun x _ hx => b.block x hx)
    refine ⟨hr.1, ?_⟩
    rcases hr.2 with ⟨h1, h2⟩ | ⟨g, cap, cur, h1, hb', hg, q⟩
    · exact .inl ⟨h1, h2⟩
    · exact .inr ⟨g, cap, cur, h1, by omega, hg, q⟩
  go_wp2_with fail
  refine (C1.out _ B1.out).mono ?_
  rintro e w2 ⟨rfl, b2⟩
  have N2 := Seg.hid b2
  have s2 := b2.size
  clear b2 a0 a1
  have a2 : w2.cell? ⟨w.heap.size + 1, 0, none⟩ = some (.string s.name) := cell_of_row w2 _ 0 _ _ (0, 0) ((N2.out.block _ s1).trans P2.out)
  have a3 : w2.cell? ⟨w.heap.size + 1, 1, none⟩ = some (.slice A2 s.fields.length c2) := cell_of_row w2 _ 1 _ _ (0, 0) ((N2.out.block _ s1).trans P2.out)
  cases h1 : sok r with
  | false =>
    have E := Seg.hid (EMP.out w2 N2.out (by rw [h1]; rfl))
    clear h1 EMP
    go_wp2
    go_ret
    exact ⟨_, rfl, E.out.1, E.out.2⟩
  | true =>
  go_wp2_with fail
  refine (C2.out _ (chain B1.out N2.out)).mono ?_
  rintro e w3 ⟨rfl, b3⟩
  have N3 := Seg.hid (chain N2.out b3)
  have s3 := b3.size
  clear b3 a2 a3
  cases h2 : sok s with
  | false =>
    have E := Seg.hid (EMP.out w3 N3.out (by rw [h2]; simp))
    clear h1 h2 EMP
    go_wp2
    go_ret
    exact ⟨_, rfl, E.out.1, E.out.2⟩
  | true =>
    have R : Hid (matchL r s = mtch r s) := by show _ = _; rw [matchL, h1, h2]; rfl
    have h20 := (sok_dst h1).2.1
    have FA := Seg.hid (sok_dst h1).2.2
    clear h1 h2 EMP
    have B3 := Seg.hid (chain B1.out N3.out)
    have O3 : Hid (IRow w3 (w.heap.size + 2) (.slice (some ⟨w.heap.size + 1 + 1, 0, none⟩) 0 0) ((r.fields.take 0).map fun f => plc s.fields (nms f))) := IRow.keep O1.out (fun x _ hx => N3.out.block x hx)
    have Q1 : Hid (w3.heap[w.heap.size]? = some (.cells (srow r A0 c0) 43 (0, 0))) := (N3.out.block _ (by omega)).trans P1.out
    have Q2 : Hid (w3.heap[w.heap.size + 1]? = some (.cells (srow s A2 c2) 43 (0, 0))) := (N3.out.block _ s1).trans P2.out
    clear N2 N3 P1 P2 O1
    go_wp2
    go_loopw [5, 6] (fun vn i wr => ∃ (k : Nat), k ≤ r.fields.length ∧ i = .int .i64 k ∧ Hid (Below w.heap.size w wr ∧ wr.heap[w.heap.size]? = some (.cells (srow r A0 c0) 43 (0, 0)) ∧ wr.heap[w.heap.size + 1]? = some (.cells (srow s A2 c2) 43 (0, 0)) ∧ IRow wr (w.heap.size + 2) vn ((r.fields.take k).map fun f => plc s.fields (nms f)))) (fun _ i _ => r.fields.length - (intOf i).toNat)
    case atStart => exact ⟨0, Nat.zero_le _, rfl, B3.out, Q1.out, Q2.out, O3.out⟩
    case round =>
      clear B3 Q1 Q2 O3
      obtain ⟨k, hk, rfl, HG⟩ := hrel
      obtain ⟨v, hv3⟩ : ∃ v, v = u5 := ⟨_, rfl⟩
      rw [← hv3] at HG ⊢
      clear hv3
      obtain ⟨wO, hE⟩ : ∃ x, x = wr := ⟨_, rfl⟩
      subst hE
      have p0 : wO.cell? ⟨w.heap.size, 1, none⟩ = some (.slice A0 r.fields.length c0) := cell_of_row wO _ 1 _ _ (0, 0) HG.out.2.1
      have hz : w.heap.size + 1 < wO.heap.size := (Array.getElem?_eq_some_iff.1 HG.out.2.2.1).1
      by_cases hlt : k < r.fields.length
      · obtain ⟨ea, hc, hgw⟩ := HO.out.addr.resolve_left (by omega)
        subst ea
        obtain ⟨A', c', B', d', hfl, d0, d1, d2, d3, d4, d5, d6, d7, d8, d9, d10⟩ := fld_at HO.out hS HG.out.1 hlt
        have h0 : (0 : Int) ≤ (k : Int) := by omega
        have h1 : (k : Int) < (r.fields.length : Int) := by omega
        have SF : Hid (szFld (r.fields.getD k default) ≤ 1048576) := szL_one szFld HZ.out hlt
        have W4 : Hid ((r.fields.getD k default).was.length ≤ 4) := by
          show _ ≤ _
          have := List.all_eq_true.1 FA.out (r.fields.getD k default) (by rw [List.getD_eq_getElem?_getD, List.getElem?_eq_getElem hlt, Option.getD_some]; exact List.getElem_mem hlt)
          simp [fA] at this
          simpa using this.1.2
        have MT := Seg.hid (map_take (fun f => plc s.fields (nms f)) hlt)
        have LK : Hid (((r.fields.take k).map fun f => plc s.fields (nms f)).length = k) := by show _ = _; rw [List.length_map, List.length_take]; omega
        have HFL := Seg.hid hfl
        have BW := Seg.hid HG.out.1
        have PW := Seg.hid HG.out.2.1
        have QW := Seg.hid HG.out.2.2.1
        have OW := Seg.hid HG.out.2.2.2
        have LV : Hid (∀ x, v.ownBlock = some x → w.heap.size + 2 ≤ x ∧ x < wO.heap.size) := fun x hx => World.ownsRow.lt OW.out x hx
        clear HG hfl
        generalize r.fields.getD k default = f at *
        generalize (r.fields.take k).map (fun f => plc s.fields (nms f)) = ns at *
        have PC : Hid (plc s.fields (nms f) = if 0 ≤ fnd s.fields f.name then fnd s.fields f.name else plc s.fields f.was) := rfl
        obtain ⟨w5, hw5⟩ : ∃ w5, wO.alloc (.cells #[.string f.name, .int .i64 f.kind, .bool f.lst, .bool f.may, .slice A' f.was.length c', .bool f.fixd, .int .i64 f.vk, .int .i64 f.vn, .string f.vt, .bool f.vl, .slice B' f.vi.length d'] 86 (0, 0)) = w5 := ⟨_, rfl⟩
        have T5 : Hid (w5.heap[wO.heap.size]? = some (.cells (frow f A' c' B' d') 86 (0, 0))) := by show _ = _; rw [← hw5]; exact heap_alloc_new _ _
        have N5 : Hid (Below wO.heap.size wO w5) := by show Below _ _ _; rw [← hw5]; exact below1 _ _
        have s5 : wO.heap.size < w5.heap.size := (Array.getElem?_eq_some_iff.1 T5.out).1
        go_upto_region 8 with fail
        try rw [hw5]
        clear hw5 d0 d1 d2 d3 d4 d5 d6 d7 d8 d9 d10 p0
        have e0 : w5.cell? ⟨w.heap.size + 1, 0, none⟩ = some (.string s.name) := cell_of_row w5 _ 0 _ _ (0, 0) ((N5.out.block _ hz).trans QW.out)
        have e1 : w5.cell? ⟨w.heap.size + 1, 1, none⟩ = some (.slice A2 s.fields.length c2) := cell_of_row w5 _ 1 _ _ (0, 0) ((N5.out.block _ hz).trans QW.out)
        have e2 : w5.cell? ⟨wO.heap.size, 0, none⟩ = some (.string f.name) := cell_of_row w5 _ 0 _ _ (0, 0) T5.out
        go_wp2_with fail
        refine (C3.out _ _ (chain BW.out N5.out)).mono ?_
        rintro e w6 ⟨rfl, b6⟩
        have N6 := Seg.hid (chain N5.out b6)
        have T6 : Hid (w6.heap[wO.heap.size]? = some (.cells (frow f A' c' B' d') 86 (0, 0))) := (b6.block _ s5).trans T5.out
        have s6 : wO.heap.size < w6.heap.size := by have := b6.size; omega
        clear b6 e0 e1 e2 N5 T5
        -- the names that it had
        obtain ⟨A9, c9, B9, d9, e9, hw9, -⟩ := form HFL.out
        simp only [frow, Value.agg.injEq, Array.mk.injEq, List.cons.injEq, Value.slice.injEq, true_and, and_true] at e9
        have eA : A' = A9 := e9.1.1
        have ec : c' = c9 := e9.1.2
        rw [← eA, ← ec] at hw9
        clear e9 eA ec A9 c9 B9 d9
        obtain ⟨An, cn, gn, on, Fn, ew, OP, hnn⟩ := opn hw9 (fun g hg => Nat.lt_of_lt_of_le (hS g hg) BW.out.size)
        cases ew
        have HP := Seg.hid OP
        clear hw9 OP
        go_wp2
        go_loopw [8, 9] (fun va i wr => ∃ (j : Nat) (a : Int), j ≤ f.was.length ∧ va = .int .i64 a ∧ i = .int .i64 j ∧ Hid (Below w6.heap.size w6 wr ∧ -1 ≤ a ∧ (if 0 ≤ a then a else plc s.fields (f.was.drop j)) = plc s.fields (nms f))) (fun _ i _ => f.was.length - (intOf i).toNat)
        case atStart => exact ⟨0, _, Nat.zero_le _, rfl, rfl, Below.refl _ _, (fnd_few _ _).1, by rw [PC.out]; rfl⟩
        case round =>
          obtain ⟨j, a, hj, rfl, rfl, HI⟩ := hrel
          have N7 := Seg.hid (chain N6.out HI.out.1)
          have s7 : wO.heap.size < wr.heap.size := Nat.lt_of_lt_of_le s6 HI.out.1.size
          have z7 : w.heap.size + 1 < wr.heap.size := by omega
          have t4 : wr.cell? ⟨wO.heap.size, 4, none⟩ = some (.slice A' f.was.length c') := cell_of_row wr _ 4 _ _ (0, 0) ((HI.out.1.block _ s6).trans T6.out)
          have ha1 := HI.out.2.1
          have EQ := Seg.hid HI.out.2.2
          by_cases hja : j < f.was.length ∧ a < 0
          · obtain ⟨hjl, han⟩ := hja
            obtain ⟨ea, hc9, hgn⟩ := HP.out.addr.resolve_left (by omega)
            subst ea
            have t0 := strs_cell HP.out (N7.out.block _ hgn) hjl
            have t1 : wr.cell? ⟨w.heap.size + 1, 0, none⟩ = some (.string s.name) := cell_of_row wr _ 0 _ _ (0, 0) ((N7.out.block _ hz).trans QW.out)
            have t2 : wr.cell? ⟨w.heap.size + 1, 1, none⟩ = some (.slice A2 s.fields.length c2) := cell_of_row wr _ 1 _ _ (0, 0) ((N7.out.block _ hz).trans QW.out)
            have j0 : (0 : Int) ≤ (j : Int) := by omega
            have j1 : (j : Int) < (f.was.length : Int) := by omega
            have g7 : gn < wr.heap.size := by omega
            have ST := Seg.hid (plc_step (ws := s.fields) hjl)
            generalize f.was.getD j default = nj at *
            have CF := Seg.hid (fun wx b => C3.out nj wx b)
            have NE : Hid ((if 0 ≤ fnd s.fields nj then fnd s.fields nj else plc s.fields (f.was.drop (j + 1))) = plc s.fields (nms f)) := by show _ = _; have h := EQ.out; rw [if_neg (show ¬ 0 ≤ a by omega), ST.out] at h; exact h
            have FE := Seg.hid (fnd_few s.fields nj).1
            have BA := Seg.hid (chain BW.out N7.out)
            have BH := Seg.hid HI.out.1
            clear HI
            generalize fnd s.fields nj = q at *
            go_wp2_with fail
            go_region_held3 (fun w' => w'.cell? ⟨w.heap.size + 1, 0, none⟩ = some (.string s.name) ∧ w'.cell? ⟨w.heap.size + 1, 1, none⟩ = some (.slice A2 s.fields.length c2) ∧ w'.cell? ⟨wO.heap.size, 4, none⟩ = some (.slice (some ⟨gn, on, none⟩) f.was.length c') ∧ w'.cell? ⟨gn, on + j, none⟩ = some (.string nj)) (first | exact ⟨t1, t2, t4, t0⟩ | exact ⟨y1, y2, y4, y0⟩ | go_keep) (first | (go_at_call 47; refine (CF.out _ BA.out.drew).mono ?_; rintro e w8 ⟨rfl, b8⟩; have B8 : Hid (Below wr.heap.size wr w8) := ⟨b8.os, b8.tape, b8.output, b8.size, b8.block⟩; clear b8; have y1 := (B8.out.cell (p := ⟨w.heap.size + 1, 0, none⟩) z7).trans t1; have y2 := (B8.out.cell (p := ⟨w.heap.size + 1, 1, none⟩) z7).trans t2; have y4 := (B8.out.cell (p := ⟨wO.heap.size, 4, none⟩) s7).trans t4; have y0 := (B8.out.cell (p := ⟨gn, on + j, none⟩) g7).trans t0))
            go_wp2
            go_roundw
            case rel => exact ⟨j + 1, q, by omega, rfl, by go_num, chain BH.out B8.out, FE.out, NE.out⟩
            case measure => simp [intOf]; omega
          · have RA : Hid (a = plc s.fields (nms f)) := by
              show _ = _
              rw [← EQ.out]
              by_cases h : 0 ≤ a
              · rw [if_pos h]
              · rw [if_neg h, show j = f.was.length by omega]
                simp [plc]
                omega
            have OWK : Hid (IRow wr (w.heap.size + 2) v ns) := OW.out.keep (fun x _ hx => N7.out.block x hx)
            have NX : Hid (∀ (w9 : World) (v9 : Value) (ob : Obj), w9.ownsRow (w.heap.size + 2) 3 1 v9 (ns.length + 1) (ns.map (Value.int .i64) ++ [Value.int .i64 a]) → (wr.alloc ob).grownBy w9 v.ownBlock → (Below w.heap.size w w9 ∧ w9.heap[w.heap.size]? = some (.cells (srow r (some ⟨g, o, none⟩) c0) 43 (0, 0)) ∧ w9.heap[w.heap.size + 1]? = some (.cells (srow s A2 c2) 43 (0, 0)) ∧ IRow w9 (w.heap.size + 2) v9 ((r.fields.take (k + 1)).map fun f => plc s.fields (nms f)))) := fun w9 v9 ob ho hg => by
              have b9 : Below w.heap.size w w9 := ((chain BW.out N7.out).alloc (by omega) ob).grown hg (by rw [hsz]; omega) (fun x hx => by have := (LV.out x hx).1; omega)
              refine ⟨b9, ?_, ?_, by rw [MT.out]; rw [← RA.out]; exact irow_put ho⟩
              · rw [hg.block w.heap.size (by rw [hsz]; omega) (fun h => by have := (LV.out _ h.symm).1; omega), (below1 wr ob).block _ (by omega), N7.out.block _ (by omega), PW.out]
              · rw [hg.block (w.heap.size + 1) (by rw [hsz]; omega) (fun h => by have := (LV.out _ h.symm).1; omega), (below1 wr ob).block _ (by omega), N7.out.block _ hz, QW.out]
            clear HI EQ
            by_cases hjl : j < f.was.length
            · have han : ¬ a < 0 := fun h => hja ⟨hjl, h⟩
              have j1 : (j : Int) < (f.was.length : Int) := by omega
              go_wp2_with (at_builtin; refine AppW.wpList_append_all _ rfl _ _ 39 rfl (w.heap.size + 2) 3 i0 _ 1 8 Try.underlying39 hi hz0 hz1 hz2 rfl (by decide) v ns.length (ns.map (Value.int .i64)) rfl (OWK.out.alloc _) (some ⟨wr.heap.size, 0, none⟩) 1 1 [.int .i64 a] rfl (by rfl) (fun _ => ⟨_, rfl, World.news_of_block (cs := #[.int .i64 a]) (heap_alloc_new _ _)⟩) (by simp [Value.oneCell']) (by have := LK.out; unfold maxLen; omega) (by have := LK.out; omega) (by rw [hsz]; omega) ?_; intro v9 w9 own9 gr9 vb9; have N9 := Seg.hid (NX.out _ _ _ own9 gr9); clear own9 gr9 vb9)
              go_roundw
              case rel => exact ⟨k + 1, by omega, by go_num, N9.out⟩
              case measure => simp [intOf]; omega
            · have j1 : ¬ (j : Int) < (f.was.length : Int) := by omega
              go_wp2_with (at_builtin; refine AppW.wpList_append_all _ rfl _ _ 39 rfl (w.heap.size + 2) 3 i0 _ 1 8 Try.underlying39 hi hz0 hz1 hz2 rfl (by decide) v ns.length (ns.map (Value.int .i64)) rfl (OWK.out.alloc _) (some ⟨wr.heap.size, 0, none⟩) 1 1 [.int .i64 a] rfl (by rfl) (fun _ => ⟨_, rfl, World.news_of_block (cs := #[.int .i64 a]) (heap_alloc_new _ _)⟩) (by simp [Value.oneCell']) (by have := LK.out; unfold maxLen; omega) (by have := LK.out; omega) (by rw [hsz]; omega) ?_; intro v9 w9 own9 gr9 vb9; have N9 := Seg.hid (NX.out _ _ _ own9 gr9); clear own9 gr9 vb9)
              go_roundw
              case rel => exact ⟨k + 1, by omega, by go_num, N9.out⟩
              case measure => simp [intOf]; omega
      · obtain rfl : k = r.fields.length := by omega
        have RF : Hid (IRow wO w.heap.size v (matchL r s)) := by
          have h := HG.out.2.2.2
          rw [List.take_length] at h
          show IRow _ _ _ _
          rw [R.out]
          refine ⟨h.1, ?_⟩
          rcases h.2 with ⟨h1, h2⟩ | ⟨g, cap, cur, h1, hb', hg, q⟩
          · exact .inl ⟨h1, h2⟩
          · exact .inr ⟨g, cap, cur, h1, by omega, hg, q⟩
        go_wp2
        go_ret
        exact ⟨_, rfl, RF.out, HG.out.1⟩
end Go.Proofs.Ytdhicmbfknagjaa.MaS
