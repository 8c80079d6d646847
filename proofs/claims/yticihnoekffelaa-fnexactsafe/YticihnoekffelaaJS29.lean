/- PartOk of the program, whole; A list that grows, with the sets of its blocks told; Logs in the call's variables: what is read of them, and of two blocks at the front. -/
import Derived.Deep.MidRow
import Derived.Deep.RegionLaw
import Derived.Test.YticihnoekffelaaJS28
import Derived.Test.YticihnoekffelaaJS15
import Derived.Test.YticihnoekffelaaJS05
import Derived.Test.YticihnoekffelaaJS14
namespace Go.Proofs.Yticihnoekffelaa.PoI
set_option maxRecDepth 8000
open Go.RowKit
open Ls Asc PoP
open Recs (hsz below1 below2 chain chainD Bat)
set_option linter.unusedVariables false
theorem six {w : World} {g ty : Nat} {a b c d e f : Value} (h : w.heap[g]? = some (.cells #[a, b, c, d, e, f] ty (0, 0))) : w.cell? ⟨g, 0, none⟩ = some a ∧ w.cell? ⟨g, 1, none⟩ = some b ∧ w.cell? ⟨g, 2, none⟩ = some c ∧ w.cell? ⟨g, 3, none⟩ = some d ∧ w.cell? ⟨g, 4, none⟩ = some e ∧ w.cell? ⟨g, 5, none⟩ = some f :=
  ⟨cell_of_row w g 0 _ _ (0, 0) h, cell_of_row w g 1 _ _ (0, 0) h, cell_of_row w g 2 _ _ (0, 0) h, cell_of_row w g 3 _ _ (0, 0) h, cell_of_row w g 4 _ _ (0, 0) h, cell_of_row w g 5 _ _ (0, 0) h⟩
set_option maxHeartbeats 1600000 in
theorem impl_any (v : Value) (p : Prt) (w : World) (lo b : Nat) (hv : PrtAt w (seg lo b) v p) (hb : b ≤ w.heap.size) (hf : szPrt p ≤ 1048576) :
    Calls Try.prog 41 #[v] w fun e w' => e = .returned (.bool (PoP.part p)) ∧ Below w.heap.size w w' := by
  have hS : ∀ g, seg lo b g → g < w.heap.size := fun g hg => Nat.lt_of_lt_of_le hg.2 hb
  have HV := Seg.hid hv
  obtain ⟨A0, c0, A3, c3, A4, c4, rfl⟩ := form hv
  have HF := Seg.hid hf
  clear hv hf
  go_enter Try.func41, Try.ntmps41
  have no : ∀ (w' : World), PoP.part p = false → Below w.heap.size w w' → (Ending.returned (.bool false) = .returned (.bool (PoP.part p)) ∧ Below w.heap.size w w') := fun w' h b => ⟨by rw [h], b⟩
  have NO := Seg.hid no
  clear no
  go_wp2_with fail
  cases h1 : inR 1 p.reps.length 5 with
  | false =>
    refine (InB.within_b _ _ _ false h1 _).mono ?_
    rintro e w1 ⟨rfl, rfl⟩
    have Z : Hid (PoP.part p = false) := by show _ = _; simp [PoP.part, PoP.front, h1]
    clear h1
    go_wp2
    go_ret
    exact NO.out _ Z.out (below1 _ _)
  | true =>
  refine (InB.within_b _ _ _ true h1 _).mono ?_
  rintro e w1 ⟨rfl, rfl⟩
  have K1 := Seg.hid h1
  have hn5 : 1 ≤ p.reps.length ∧ p.reps.length ≤ 5 := by simp [inR] at h1; omega
  clear h1
  go_wp2_with fail
  cases h2 : inR 1 p.least 5 with
  | false =>
    refine (InB.within_b _ _ _ false h2 _).mono ?_
    rintro e w1 ⟨rfl, rfl⟩
    have Z : Hid (PoP.part p = false) := by show _ = _; simp [PoP.part, PoP.front, h2]
    clear h2
    go_wp2
    go_ret
    exact NO.out _ Z.out (below1 _ _)
  | true =>
  refine (InB.within_b _ _ _ true h2 _).mono ?_
  rintro e w1 ⟨rfl, rfl⟩
  have K2 := Seg.hid h2
  clear h2
  go_wp2_with fail
  cases h3 : inR 0 p.epoch 1000000 with
  | false =>
    refine (InB.within_b _ _ _ false h3 _).mono ?_
    rintro e w1 ⟨rfl, rfl⟩
    have Z : Hid (PoP.part p = false) := by show _ = _; simp [PoP.part, PoP.front, h3]
    clear h3
    go_wp2
    go_ret
    exact NO.out _ Z.out (below1 _ _)
  | true =>
  refine (InB.within_b _ _ _ true h3 _).mono ?_
  rintro e w1 ⟨rfl, rfl⟩
  have KP : Hid (PoP.part p = (reps p.epoch p.reps && (insy p && (lead p && known p)))) := by show _ = _; simp [PoP.part, PoP.front, K1.out, K2.out, h3]
  clear h3 K1 K2
  go_upto_region 3 with fail
  have S0 : Hid (Sr w (w.alloc (.cells #[.slice A0 p.reps.length c0, .int .i64 p.leader, .int .i64 p.epoch, .slice A3 p.insync.length c3, .slice A4 p.known.length c4, .int .i64 p.least] 44 (0, 0))) p A0 A3 A4 c0 c3 c4) := ⟨heap_alloc_new _ _, below1 _ _⟩
  have Q0 : Hid (∀ wx, Below w.heap.size w wx → PrtAt wx (seg lo b) (.agg #[.slice A0 p.reps.length c0, .int .i64 p.leader, .int .i64 p.epoch, .slice A3 p.insync.length c3, .slice A4 p.known.length c4, .int .i64 p.least]) p ∧ b ≤ wx.heap.size) := fun wx bx => ⟨HV.out.below bx hS, Nat.le_trans hb bx.size⟩
  have NX : Hid (∀ (wx w' : World), Sr w wx p A0 A3 A4 c0 c3 c4 → Below wx.heap.size wx w' → Sr w w' p A0 A3 A4 c0 c3 c4) := fun wx w' h b => ⟨(b.block _ (Array.getElem?_eq_some_iff.1 h.rp).1).trans h.rp, chain h.bel b⟩
  generalize w.alloc (.cells #[.slice A0 p.reps.length c0, .int .i64 p.leader, .int .i64 p.epoch, .slice A3 p.insync.length c3, .slice A4 p.known.length c4, .int .i64 p.least] 44 (0, 0)) = w2 at *
  go_wp2_with (refine wpList_load_row rfl 44 _ rfl w.heap.size rfl _ _ _ _ S0.out.rp Try.underlying44 rfl infoPrt ?_)
  refine (reps_any _ p _ w2 lo b (Q0.out w2 S0.out.bel).1 (Q0.out w2 S0.out.bel).2 HF.out hn5.2 rfl).mono ?_
  rintro e w3 ⟨rfl, b3⟩
  have S3 := Seg.hid (NX.out _ _ S0.out b3)
  clear b3
  cases g1 : reps p.epoch p.reps with
  | false =>
    have Z : Hid (PoP.part p = false) := by show _ = _; rw [KP.out, g1]; rfl
    clear g1
    go_wp2
    go_ret
    exact NO.out _ Z.out S3.out.bel
  | true =>
  have K3 := Seg.hid g1
  clear g1
  obtain ⟨x0, x1, x2, x3, x4, x5⟩ := six S3.out.rp
  go_wp2_with fail
  refine (insy_any _ p _ w3 lo b (Q0.out w3 S3.out.bel).1 (Q0.out w3 S3.out.bel).2 hn5 rfl).mono ?_
  rintro e w4 ⟨rfl, b4⟩
  have S4 := Seg.hid (NX.out _ _ S3.out b4)
  clear b4 x0 x1 x2 x3 x4 x5
  cases g2 : insy p with
  | false =>
    have Z : Hid (PoP.part p = false) := by show _ = _; rw [KP.out, g2]; simp
    clear g2
    go_wp2
    go_ret
    exact NO.out _ Z.out S4.out.bel
  | true =>
  have K4 := Seg.hid g2
  clear g2
  obtain ⟨x0, x1, x2, x3, x4, x5⟩ := six S4.out.rp
  go_wp2_with fail
  refine (lead_any _ p _ w4 lo b (Q0.out w4 S4.out.bel).1 (Q0.out w4 S4.out.bel).2 hn5 rfl).mono ?_
  rintro e w5 ⟨rfl, b5⟩
  have S5 := Seg.hid (NX.out _ _ S4.out b5)
  clear b5 x0 x1 x2 x3 x4 x5
  cases g3 : lead p with
  | false =>
    have Z : Hid (PoP.part p = false) := by show _ = _; rw [KP.out, g3]; simp
    clear g3
    go_wp2
    go_ret
    exact NO.out _ Z.out S5.out.bel
  | true =>
  have Z : Hid (known p = PoP.part p) := by show _ = _; rw [KP.out, K3.out, K4.out, g3]; rfl
  clear g3
  obtain ⟨x0, x1, x2, x3, x4, x5⟩ := six S5.out.rp
  go_wp2_with fail
  refine (known_any _ p _ w5 lo b (Q0.out w5 S5.out.bel).1 (Q0.out w5 S5.out.bel).2 Z.out).mono ?_
  rintro e w6 ⟨rfl, b6⟩
  have S6 := Seg.hid (NX.out _ _ S5.out b6)
  clear b6 x0 x1 x2 x3 x4 x5
  go_wp2
  go_ret
  exact ⟨rfl, S6.out.bel⟩
end Go.Proofs.Yticihnoekffelaa.PoI
namespace Go.Proofs.Yticihnoekffelaa.Ft
set_option maxRecDepth 8000
open Go.RowKit
open Recs
set_option linter.unusedVariables false
section
variable {T : Type} [Inhabited T] {ty nf : Nat} {EO : World → (Nat → Prop) → (Nat → Value) → T → Prop}
theorem LGr.push_own (hE : Keeps nf EO) {wr w2 w3 : World} {base g cap : Nat} {v : Value} {us : List T} {F : Nat → Value} {P : Nat → Nat → Prop} {Q : Nat → Prop} {t : T} {news : List Value} (h : LGr ty nf EO wr base v us F P) (hbase : base ≤ wr.heap.size) (hs : wr.heap.size ≤ w2.heap.size) (hk : ∀ x, base ≤ x → x < wr.heap.size → w2.heap[x]? = wr.heap[x]?)
    (he : EO w2 Q (fun q => news.getD q default) t) (hQ : ∀ x, Q x → wr.heap.size ≤ x ∧ x < w2.heap.size) (hl : news.length = nf) (hown : w3.ownsRow base ty nf (.slice (some ⟨g, 0, none⟩) (us.length + 1) cap) (us.length + 1) ((List.range (us.length * nf)).map F ++ news)) (gr : w2.grownBy w3 v.ownBlock) (hg : v.ownBlock = some g ∨ g = w2.heap.size) (hn : us.length + 1 ≤ 1048576) :
    LOwn ty nf EO w3 (fun x => (∃ i, i < us.length ∧ P i x) ∨ v.ownBlock = some x ∨ Q x ∨ x = w2.heap.size) (.slice (some ⟨g, 0, none⟩) (us.length + 1) cap) (us ++ [t]) := by
  have h2 := h.keep hE hs hk
  have hvb : ∀ x, v.ownBlock = some x → base ≤ x ∧ x < wr.heap.size := fun x hx => World.ownsRow.lt h.own x hx
  have gs := gr.size
  have hlt : g < w3.heap.size := (World.ownsRow.lt hown g rfl).2
  have hlen : (us ++ [t]).length = us.length + 1 := by simp
  refine ⟨by rw [hlen]; exact hn, some ⟨g, 0, none⟩, cap, by rw [hlen], .inr ⟨g, fun q => if q < us.length * nf then F q else news.getD (q - us.length * nf) default, fun i => if i = us.length then Q else P i, rfl, ?_, fun i hi x hx => ?_, ?_, rfl, fun i hi => ?_, fun i hi x hx => ?_, fun i j hi hj hij x hx hx' => ?_⟩⟩
  · rcases hg with hg | hg
    · exact .inr (.inl hg)
    · exact .inr (.inr (.inr hg))
  · rw [hlen] at hi
    by_cases e : i = us.length
    · rw [if_pos e] at hx
      exact .inr (.inr (.inl hx))
    · rw [if_neg e] at hx
      exact .inl ⟨i, by omega, hx⟩
  · rw [hlen]
    show w3.ownsRow g ty nf _ _ _
    rw [← map_push F us.length nf news hl]
    refine ⟨hown.1, ?_⟩
    rcases hown.2 with ⟨h1, h3⟩ | ⟨g', cap', cur, h1, h3, h4, h5⟩
    · omega
    · have h1' := h1
      simp only [Value.slice.injEq, Option.some.injEq, Addr.mk.injEq, and_true, true_and] at h1'
      obtain ⟨rfl, rfl⟩ := h1'
      exact .inr ⟨g, cap, cur, rfl, Nat.le_refl _, h4, h5⟩
  · by_cases e : i = us.length
    · subst e
      rw [if_pos rfl, getD_app_last]
      refine hE _ _ _ _ _ _ he gs (fun x hx => gr.block x (hQ x hx).2 (fun e => ?_)) (fun q hq => ?_)
      · have a1 := hvb x e.symm
        have a2 := hQ x hx
        omega
      · rw [if_neg (by omega), Nat.add_sub_cancel_left]
    · have hi' : i < us.length := by rw [hlen] at hi; omega
      rw [if_neg e, getD_app_left hi']
      refine hE _ _ _ _ _ _ (h2.el i hi') gs (fun x hx => gr.block x (h2.apart i hi' x hx).2.1 (fun e => (h2.apart i hi' x hx).2.2 e.symm)) (fun q hq => ?_)
      have : (i + 1) * nf ≤ us.length * nf := Nat.mul_le_mul_right nf (by omega)
      rw [Nat.succ_mul] at this
      rw [if_pos (by omega)]
  · by_cases e : i = us.length
    · subst e
      rw [if_pos rfl] at hx
      have a1 := hQ x hx
      refine ⟨fun e => ?_, by omega⟩
      rcases hg with hg | hg
      · have := hvb g hg; omega
      · omega
    · have hi' : i < us.length := by rw [hlen] at hi; omega
      rw [if_neg e] at hx
      have a1 := h2.apart i hi' x hx
      refine ⟨fun e => ?_, by omega⟩
      rcases hg with hg | hg
      · exact a1.2.2 (by rw [hg, e])
      · omega
  · rw [hlen] at hi hj
    by_cases e : i = us.length
    · subst e
      rw [if_pos rfl] at hx
      rw [if_neg (Ne.symm hij)] at hx'
      have a1 := hQ x hx
      have a2 := h.apart j (by omega) x hx'
      omega
    · rw [if_neg e] at hx
      by_cases e2 : j = us.length
      · subst e2
        rw [if_pos rfl] at hx'
        have a1 := hQ x hx'
        have a2 := h.apart i (by omega) x hx
        omega
      · rw [if_neg e2] at hx'
        exact h.disj i j (by omega) (by omega) hij x hx hx'
end
end Go.Proofs.Yticihnoekffelaa.Ft
namespace Go.Proofs.Yticihnoekffelaa.Ft
set_option maxRecDepth 8000
open Go.RowKit
open Recs
open Bats SegW Segs LogW
set_option linter.unusedVariables false
theorem results_row_tmp {P : Program} {fn : Func} {p u : Tmp} {ty : TypeId} (h : fn.results = #[.cell p ty, .tmp u]) (tmps : Array Value) (w : World) (g : Nat) (t : TypeId) (cs : Array Value) (fr : Nat × Nat) (d : TypeDesc)
    (x : Value) (hp : tmps.getD p undef = .pointer (some ⟨g, 0, none⟩)) (hx : tmps.getD u undef = x) (hg : w.heap[g]? = some (.cells cs t fr))
    (hu : P.underlying ty = some d) (hd : (match d with | .struct _ | .array _ _ => true | _ => false) = true) (hi : (P.info? ty).map (·.size) = some cs.size) :
    (results fn tmps).run P w = .ok (.tuple #[.agg cs, x]) w := by
  subst hx
  have hp' : tmps[p]?.getD undef = .pointer (some ⟨g, 0, none⟩) := by simpa using hp
  rw [results_cell_tmp h]
  simp [hp', asAddr, run_loadVar_row w g t ty cs fr d hg hu hd hi, Result.andThen]
theorem step_store_mid {P : Program} {ops : Array Oper} {op : Oper} {a : Act} {w : World} {K : Act → World → Prop} {Q : Exit → Act → World → Prop} {E : Prop} (hgd : op.guard = none) (ty : TypeId) (x y : Operand) (ho : op.op = .store ty x y) (b o : Nat) (cells : Array Value)
    (hx : a.eval x = .pointer (some ⟨b, o, none⟩)) (hy : a.eval y = .agg cells) (ht : w.there b o cells.size) (hi : (P.info? ty).map (·.size) = some cells.size) (h1 : cells.all (·.oneCell') = true) (h : K (a.put op.dst undef) (w.setCells b o cells.toList)) :
    if Region.wanted op (yielded ops a.tmps) = true then Oper.wp P op a w K Q else E := by
  have hw : Region.wanted op (yielded ops a.tmps) = true := by simp [Region.wanted, hgd]
  rw [if_pos hw]
  exact wp_store_mid ty x y ho b o cells hx hy ht hi h1 h
/-- Two blocks at the front: the log, and what is answered. -/
theorem at2 (w : World) (a b : Obj) : ((w.alloc a).alloc b).heap[w.heap.size + 1]? = some b := by
  have := heap_alloc_new (w.alloc a) b
  rw [hsz] at this
  exact this
theorem at1 (w : World) (a b : Obj) : ((w.alloc a).alloc b).heap[w.heap.size]? = some a := (heap_alloc_old _ _ (by rw [hsz]; omega)).trans (heap_alloc_new _ _)
theorem four {w : World} {g ty : Nat} {t : Lg} {v : Value} (h : w.heap[g]? = some (.cells (logArr t v) ty (0, 0))) : w.cell? ⟨g, 0, none⟩ = some (.int .i64 t.start) ∧ w.cell? ⟨g, 1, none⟩ = some (.int .i64 t.next) ∧ w.cell? ⟨g, 2, none⟩ = some (.int .i64 t.roll) ∧ w.cell? ⟨g, 3, none⟩ = some v :=
  ⟨cell_of_row w g 0 _ _ (0, 0) h, cell_of_row w g 1 _ _ (0, 0) h, cell_of_row w g 2 _ _ (0, 0) h, cell_of_row w g 3 _ _ (0, 0) h⟩
end Go.Proofs.Yticihnoekffelaa.Ft
