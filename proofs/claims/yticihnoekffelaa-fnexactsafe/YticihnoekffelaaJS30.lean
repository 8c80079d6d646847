/- The program's cut of a Segment. -/
import Derived.Laws.BitsLemmas
import Derived.Test.YticihnoekffelaaJS18
import Derived.Test.YticihnoekffelaaJS29
namespace Go.Proofs.Yticihnoekffelaa.Ft
set_option maxRecDepth 8000
open Go.RowKit
open Recs
open Bats SegW Segs LogW SrP CtP
set_option linter.unusedVariables false
theorem bats_take {w : World} {lo b c k : Nat} {A : Option Addr} {ts : List Bat} (h : BatsAt w lo b (.slice A ts.length c) ts) (hk : k ≤ ts.length) : BatsAt w lo b (.slice A k c) (ts.take k) := by
  obtain ⟨H, h1, h2⟩ := h
  have hl : (ts.take k).length = k := by rw [List.length_take]; omega
  refine ⟨H, ?_, fun i hi => ?_⟩
  · rw [hl]
    exact row_eqf (row_take h1 hk) fun i hi j hj => by simp only [batsCells, getD_take ts k i hi]
  · rw [hl] at hi
    rw [getD_take ts k i hi]
    exact h2 i (by omega)
theorem recs_take {w : World} {lo b c k : Nat} {A : Option Addr} {rs : List Rec} (h : RecsAt w lo b (.slice A rs.length c) rs) (hk : k ≤ rs.length) : RecsAt w lo b (.slice A k c) (rs.take k) := by
  obtain ⟨H, h1, h2⟩ := h
  have hl : (rs.take k).length = k := by rw [List.length_take]; omega
  refine ⟨H, ?_, fun i hi => ?_⟩
  · rw [hl]
    exact row_eqf (row_take h1 hk) fun i hi j hj => by simp only [recCells, getD_take rs k i hi]
  · rw [hl] at hi
    rw [getD_take rs k i hi]
    exact h2 i (by omega)
theorem few_take {s : Sg} (h : FewS s) (k : Nat) : FewS ⟨s.base, s.bats.take k⟩ := by
  refine ⟨by show (s.bats.take k).length ≤ _; rw [List.length_take]; have := h.1; omega, fun i hi => ?_⟩
  have hi' : i < (s.bats.take k).length := hi
  rw [List.length_take] at hi'
  show FewB ((s.bats.take k).getD i default)
  rw [getD_take _ _ _ (by omega)]
  exact h.2 i (by omega)
/-- The variable 'out' behind the copy: its block OB is none of its list's. -/
structure CO (w1 w2 : World) (OB : Nat) (sb : Int) (v : Value) (us : List Bat) : Prop where
  grow : ∃ F P base, LGr 58 7 EB w2 base v us F P ∧ w1.heap.size ≤ base ∧ base ≤ w2.heap.size ∧ v.ownBlock ≠ some OB ∧ ∀ i, i < us.length → ¬ P i OB
  out : w2.heap[OB]? = some (.cells (segArr ⟨sb, []⟩ v) 55 (0, 0))
  lo : w1.heap.size ≤ OB
  hi : OB < w2.heap.size
  bel : Below w1.heap.size w1 w2
theorem CO.ahead {w1 wc : World} {sb : Int} {v : Value} {us : List Bat} (o : Obj) (h : LGrow 58 7 EB wc (w1.heap.size + 1 + 3) v us) (b : Below (w1.heap.size + 1) (w1.alloc o) wc) (hs : w1.heap.size + 1 + 3 ≤ wc.heap.size) (hr : (wc.setCells w1.heap.size 0 [.int .i64 sb, v]).heap[w1.heap.size]? = some (.cells (segArr ⟨sb, []⟩ v) 55 (0, 0))) : CO w1 (wc.setCells w1.heap.size 0 [.int .i64 sb, v]) w1.heap.size sb v us := by
  obtain ⟨F, P, hG⟩ := h
  have hv : ∀ x, v.ownBlock = some x → w1.heap.size + 1 + 3 ≤ x := fun x hx => (World.ownsRow.lt hG.own x hx).1
  have hz := Cells.size_setCells (g := w1.heap.size) [.int .i64 sb, v] (o := 0) wc
  have b0 : Below w1.heap.size w1 wc := (below1 w1 o).trans (b.mono (by omega))
  exact ⟨⟨F, P, _, hG.keep keepsB (by rw [hz]; exact Nat.le_refl _) (fun g hg _ => Cells.heap_setCells_other _ _ (by omega)), by omega, by rw [hz]; omega, fun e => by have := hv _ e; omega, fun i hi hp => by have := hG.apart i hi _ hp; omega⟩, hr, Nat.le_refl _, by rw [hz]; omega, Cells.below_setCells (Nat.le_refl _) _ _ _ _ b0⟩
theorem CO.after {w1 wc : World} {sb : Int} {v : Value} {us : List Bat} (h : LGrow 58 7 EB wc (w1.heap.size + 3) v us) (b : Below w1.heap.size w1 wc) (hs : w1.heap.size + 3 ≤ wc.heap.size) : CO w1 (wc.alloc (.cells #[.int .i64 sb, v] 55 (0, 0))) wc.heap.size sb v us := by
  obtain ⟨F, P, hG⟩ := h
  have hv : ∀ x, v.ownBlock = some x → x < wc.heap.size := fun x hx => (World.ownsRow.lt hG.own x hx).2
  refine ⟨⟨F, P, _, hG.keep keepsB (by rw [hsz]; omega) (fun g _ hg => heap_alloc_old _ _ hg), by omega, by rw [hsz]; omega, fun e => by have := hv _ e; omega, fun i hi hp => by have := hG.apart i hi _ hp; omega⟩, heap_alloc_new _ _, by omega, by rw [hsz]; omega, chain b (below1 wc _)⟩
/-- Behind append of one more Batch to 'out': w9; the variable's block OB is written last. -/
structure AfterC (w w9 : World) (OB : Nat) (sb : Int) (v nv : Value) (us : List Bat) : Prop where
  c1 : w9.cell? ⟨OB, 1, none⟩ = some v
  f1 : w9.frozen? ⟨OB, 1, none⟩ = false
  d0 : (w9.setCell ⟨OB, 1, none⟩ nv).cell? ⟨OB, 0, none⟩ = some (.int .i64 sb)
  d1 : (w9.setCell ⟨OB, 1, none⟩ nv).cell? ⟨OB, 1, none⟩ = some nv
  r0 : (w9.setCell ⟨OB, 1, none⟩ nv).cell? ⟨w.heap.size + 1, 0, none⟩ = some (.int .i64 0)
  r1 : (w9.setCell ⟨OB, 1, none⟩ nv).cell? ⟨w.heap.size + 1, 1, none⟩ = some (.slice none 0 0)
  y0 : (w9.setCell ⟨OB, 1, none⟩ nv).frozen? ⟨w.heap.size + 1, 0, none⟩ = false
  y1 : (w9.setCell ⟨OB, 1, none⟩ nv).frozen? ⟨w.heap.size + 1, 1, none⟩ = false
  row : ((w9.setCell ⟨OB, 1, none⟩ nv).setCells (w.heap.size + 1) 0 [.int .i64 sb, nv]).heap[w.heap.size + 1]? = some (.cells (segArr ⟨sb, []⟩ nv) 55 (0, 0))
  own : OwnB ((w9.setCell ⟨OB, 1, none⟩ nv).setCells (w.heap.size + 1) 0 [.int .i64 sb, nv]) (seg w.heap.size ((w9.setCell ⟨OB, 1, none⟩ nv).setCells (w.heap.size + 1) 0 [.int .i64 sb, nv]).heap.size) nv us
  bel : Below w.heap.size w ((w9.setCell ⟨OB, 1, none⟩ nv).setCells (w.heap.size + 1) 0 [.int .i64 sb, nv])
theorem afterC {w w1 w2 w8 w9 : World} {OB : Nat} {sb : Int} {v : Value} {us : List Bat} {F : Nat → Value} {P : Nat → Nat → Prop} {base : Nat} {t : Bat} {rv : Value} {o : Obj} {g cap : Nat} (hG : LGr 58 7 EB w2 base v us F P) (g1 : w1.heap.size ≤ base) (g2 : base ≤ w2.heap.size) (g3 : v.ownBlock ≠ some OB) (g4 : ∀ i, i < us.length → ¬ P i OB) (D : CO w1 w2 OB sb v us) (hw : w.heap.size + 2 ≤ w1.heap.size) (B1 : Below w.heap.size w w1)
    (Z2 : w2.heap[w.heap.size + 1]? = some (.cells (segArr ⟨0, []⟩ (.slice none 0 0)) 55 (0, 0))) (b8 : Below w2.heap.size w2 w8) (ho : OwnR w8 (seg (w2.heap.size + 1) w8.heap.size) rv t.recs) (hn : us.length + 1 ≤ 1048576)
    (hown : w9.ownsRow base 58 7 (.slice (some ⟨g, 0, none⟩) (us.length + 1) cap) (us.length + 1) ((List.range (us.length * 7)).map F ++ (BatW.batArr t rv).toList)) (gr : (w8.alloc o).grownBy w9 v.ownBlock) (hg : v.ownBlock = some g ∨ g = w8.heap.size + 1) :
    AfterC w w9 OB sb v (.slice (some ⟨g, 0, none⟩) (us.length + 1) cap) (us ++ [t]) := by
  have hlo := D.lo
  have hhi := D.hi
  have s8 := b8.size
  have gs := gr.size
  rw [hsz] at gs
  have hvb : ∀ y, v.ownBlock = some y → base ≤ y ∧ y < w2.heap.size := fun y hy => World.ownsRow.lt hG.own y hy
  have k9 : ∀ y, y < w2.heap.size → v.ownBlock ≠ some y → w9.heap[y]? = w2.heap[y]? := fun y hy hne => by
    rw [gr.block y (by rw [hsz]; omega) (fun e => hne e.symm), heap_alloc_old _ _ (by omega), b8.block y hy]
  have O9 := (k9 OB hhi g3).trans D.out
  have R9 := (k9 (w.heap.size + 1) (by omega) (fun e => by have := hvb _ e; omega)).trans Z2
  have O10 := heap_setCell_same w9 OB 1 _ _ (.slice (some ⟨g, 0, none⟩) (us.length + 1) cap) O9
  have R10 := (heap_setCell_other w9 ⟨OB, 1, none⟩ (w.heap.size + 1) (.slice (some ⟨g, 0, none⟩) (us.length + 1) cap) (by show w.heap.size + 1 ≠ OB; omega)).trans R9
  have L9 := LGr.push_own keepsB (w2 := w8.alloc o) (w3 := w9) (g := g) (cap := cap) (Q := seg (w2.heap.size + 1) w8.heap.size) (t := t) (news := (BatW.batArr t rv).toList) hG g2 (by rw [hsz]; omega) (fun y _ hy => by rw [heap_alloc_old _ _ (by omega), b8.block y hy]) (bat_el (LOwn.keep keepsR ho (by rw [hsz]; omega) (fun y hy => heap_alloc_old _ _ hy.2))) (fun y hy => by rw [hsz]; obtain ⟨y1, y2⟩ := hy; exact ⟨by omega, by omega⟩) rfl hown gr (by rw [hsz]; exact hg) hn
  have B9 : Below w.heap.size w w9 := ⟨gr.os.trans (b8.os.trans (D.bel.os.trans B1.os)), gr.tape.trans (b8.tape.trans (D.bel.tape.trans B1.tape)), gr.output.trans (b8.output.trans (D.bel.output.trans B1.output)), by have := D.bel.size; omega, fun y hy => (k9 y (by have := D.bel.size; omega) (fun e => by have := hvb _ e; omega)).trans ((D.bel.block y (by omega)).trans (B1.block y hy))⟩
  have hz := Cells.size_setCells (g := w.heap.size + 1) [.int .i64 sb, .slice (some ⟨g, 0, none⟩) (us.length + 1) cap] (o := 0) (w9.setCell ⟨OB, 1, none⟩ (.slice (some ⟨g, 0, none⟩) (us.length + 1) cap))
  refine ⟨cell_of_row w9 OB 1 _ _ (0, 0) O9, frozen_of_row w9 OB 1 _ _ O9, cell_of_row _ OB 0 _ _ (0, 0) O10, cell_of_row _ OB 1 _ _ (0, 0) O10, cell_of_row _ (w.heap.size + 1) 0 _ _ (0, 0) R10, cell_of_row _ (w.heap.size + 1) 1 _ _ (0, 0) R10, frozen_of_row _ (w.heap.size + 1) 0 _ _ R10, frozen_of_row _ (w.heap.size + 1) 1 _ _ R10, Cells.whole (vs := segArr ⟨sb, []⟩ (.slice (some ⟨g, 0, none⟩) (us.length + 1) cap)) R10 rfl, ?_, Cells.below_setCells (by omega) _ _ _ _ (B9.setCell (p := ⟨OB, 1, none⟩) (by show w.heap.size ≤ OB; omega) _)⟩
  have hS : ∀ y, ((∃ i, i < us.length ∧ P i y) ∨ v.ownBlock = some y ∨ seg (w2.heap.size + 1) w8.heap.size y ∨ y = (w8.alloc o).heap.size) → w1.heap.size ≤ y ∧ y ≠ OB := fun y hy => by
    rcases hy with ⟨i, hi, hp⟩ | hy | hy | hy
    · have := hG.apart i hi y hp
      exact ⟨by omega, fun e => g4 i hi (e ▸ hp)⟩
    · have := hvb y hy
      exact ⟨by omega, fun e => g3 (e ▸ hy)⟩
    · obtain ⟨y1, y2⟩ := hy
      have := D.bel.size
      exact ⟨by omega, by omega⟩
    · rw [hsz] at hy
      have := D.bel.size
      exact ⟨by omega, by omega⟩
  have hlt : ∀ y, ((∃ i, i < us.length ∧ P i y) ∨ v.ownBlock = some y ∨ seg (w2.heap.size + 1) w8.heap.size y ∨ y = (w8.alloc o).heap.size) → (∃ q, True) := fun _ _ => ⟨0, trivial⟩
  have L11 := LOwn.keep keepsB L9 (w' := (w9.setCell ⟨OB, 1, none⟩ (.slice (some ⟨g, 0, none⟩) (us.length + 1) cap)).setCells (w.heap.size + 1) 0 [.int .i64 sb, .slice (some ⟨g, 0, none⟩) (us.length + 1) cap]) (by rw [hz]; simp) (fun y hy => by
    have := hS y hy
    rw [Cells.heap_setCells_other _ _ (by omega), heap_setCell_other _ _ _ _ (by show y ≠ OB; exact this.2)])
  obtain ⟨h0, A', c', e1, e2⟩ := L11
  refine ⟨h0, A', c', e1, e2.imp id ?_⟩
  rintro ⟨g', F', P', a1, a2, a3, a4⟩
  have hsz' : ((w9.setCell ⟨OB, 1, none⟩ (.slice (some ⟨g, 0, none⟩) (us.length + 1) cap)).setCells (w.heap.size + 1) 0 [.int .i64 sb, .slice (some ⟨g, 0, none⟩) (us.length + 1) cap]).heap.size = w9.heap.size := by rw [hz]; simp
  exact ⟨g', F', P', a1, ⟨by have := (hS g' a2).1; omega, a4.mine.lt⟩, fun i hi y hy => ⟨by have := (hS y (a3 i hi y hy)).1; omega, (a4.apart i hi y hy).2⟩, a4⟩
set_option maxHeartbeats 3200000 in
theorem cutSegment_core (s : Sg) (x f e f' e' : Int) (A : Option Addr) (c : Nat) (w : World) (lo b : Nat) (hb : b ≤ w.heap.size) (hf : FewS s) (hv : BatsAt w lo b (.slice A s.bats.length c) s.bats) (hok : LgP.bats f e s.bats = some (f', e')) (hx0 : 0 ≤ x) (hx1 : x ≤ 1000000000) :
    Calls Try.prog 30 #[segVal s (.slice A s.bats.length c), .int .i64 x] w fun e w' => ∃ bv, e = .returned (segVal ⟨s.base, cutBs x s.bats⟩ bv) ∧ OwnB w' (seg w.heap.size w'.heap.size) bv (cutBs x s.bats) ∧ Below w.heap.size w w' := by
  obtain ⟨i0, hi, hz0, hz1, hz2⟩ := info_parts infoB
  have HV := Seg.hid hv; have HF := Seg.hid hf
  have BO := Seg.hid (bats_ok _ _ _ _ _ hok)
  have BM : Hid (∀ i j, i ≤ j → j < s.bats.length → pB x (s.bats.getD i default) = true → pB x (s.bats.getD j default) = true) := fun i j h1 h2 h3 => by
    have := bats_mono _ _ _ _ _ hok i j h1 h2
    simp only [pB, decide_eq_true_eq] at h3 ⊢
    omega
  have FD : Hid (∀ r, Fnd (fun i => pB x (s.bats.getD i default)) s.bats.length r → cutBs x s.bats = s.bats.take r ++ (if r < s.bats.length ∧ (s.bats.getD r default).base < x then [cutB x (s.bats.getD r default)] else [])) := fun r h => cutBs_found x _ _ _ _ _ hok r h
  clear hv hf hok
  unfold segVal
  go_enter Try.func30, Try.ntmps30
  go_wp2_with fail
  refine (SrW.batchAt_any _ x s.bats ((w.alloc _).alloc _) lo b (HV.out.below ((below2 w _ _).mono hb)) (by rw [hsz, hsz]; omega) BO.out BM.out HF.out.1).mono ?_
  rintro e w1 ⟨r, rfl, hF, b1⟩
  have CUT := Seg.hid (FD.out r hF)
  have RY := Seg.hid hF.yes
  have hrn := hF.le
  have B1 := Seg.hid (chain (below2 w _ _) b1)
  have T1 : Hid (w1.heap[w.heap.size]? = some (.cells (segArr s (.slice A s.bats.length c)) 55 (0, 0))) := (b1.block w.heap.size (by rw [hsz, hsz]; omega)).trans ((heap_alloc_old _ _ (by rw [hsz]; omega)).trans (heap_alloc_new _ _))
  have Z1 : Hid (w1.heap[w.heap.size + 1]? = some (.cells (segArr ⟨0, []⟩ (.slice none 0 0)) 55 (0, 0))) := (b1.block (w.heap.size + 1) (by rw [hsz, hsz]; omega)).trans (at2 w _ _)
  have s1 := b1.size
  rw [hsz, hsz] at s1
  clear hF b1 FD
  obtain ⟨p0, p1⟩ : w1.cell? ⟨w.heap.size, 0, none⟩ = some (.int .i64 s.base) ∧ w1.cell? ⟨w.heap.size, 1, none⟩ = some (.slice A s.bats.length c) := ⟨cell_of_row w1 w.heap.size 0 _ _ (0, 0) T1.out, cell_of_row w1 w.heap.size 1 _ _ (0, 0) T1.out⟩
  have hw1 : w.heap.size < w1.heap.size := by omega
  have r0 : (0 : Int) ≤ (r : Int) := by omega
  have r1 : (r : Int) ≤ (s.bats.length : Int) := by omega
  have hrc : r ≤ c := by
    obtain ⟨_, ⟨_, A', c', hsl, hrow⟩, _⟩ := HV.out
    simp only [Value.slice.injEq] at hsl
    obtain ⟨rfl, _, rfl⟩ := hsl
    rcases hrow with h | ⟨_, _, _, _, h, _⟩ <;> omega
  have r2 : (r : Int) ≤ (c : Int) := by omega
  have CALL : Hid (∀ wx, Below w1.heap.size w1 wx → Calls Try.prog 59 #[.agg #[.int .i64 s.base, .slice A r c]] wx fun e w' => ∃ bv, e = .returned (segVal ⟨s.base, s.bats.take r⟩ bv) ∧ LGrow 58 7 EB w' (wx.heap.size + 3) bv (s.bats.take r) ∧ Below wx.heap.size wx w' ∧ wx.heap.size + 3 ≤ w'.heap.size) := fun wx bx => copySegment_grow _ ⟨s.base, s.bats.take r⟩ wx lo b ⟨_, rfl, (bats_take HV.out hrn).below ((chain B1.out bx).mono hb)⟩ (Nat.le_trans hb (Nat.le_trans B1.out.size bx.size)) (few_take HF.out r)
  have hul : (s.bats.take r).length = r := by rw [List.length_take]; omega
  go_wp2_with fail
  rename_i K aK
  have J : ∀ (OB : Nat) (w2 : World) (A2 : Option Addr) (c2 : Nat) (u12 u13 u14 u15 u16 u17 u18 u19 : Value), CO w1 w2 OB s.base (.slice A2 r c2) (s.bats.take r) → K ⟨#[.agg #[.int .i64 s.base, .slice A s.bats.length c], .int .i64 x, .pointer (some ⟨w.heap.size, 0, none⟩), undef, .pointer (some ⟨w.heap.size + 1, 0, none⟩), .int .i64 r, .pointer (some ⟨OB, 0, none⟩), undef, .pointer (some ⟨w.heap.size, 1, none⟩), .slice A s.bats.length c, .int .i64 x, .int .i64 r, u12, u13, u14, u15, u16, u17, u18, u19, undef, undef, undef, undef, undef, undef, undef, undef, undef, undef, undef, undef, undef, undef, undef, undef, undef, undef, undef, undef, undef, undef, undef, undef, undef, undef, undef, undef, undef, undef, undef, undef, undef, undef, undef, undef, undef], []⟩ w2 := by
    intro OB w2 A2 c2 u12 u13 u14 u15 u16 u17 u18 u19 D
    refine aK _ _ ?_
    have T2 := Seg.hid ((D.bel.block w.heap.size (by omega)).trans T1.out)
    have Z2 := Seg.hid ((D.bel.block (w.heap.size + 1) (by omega)).trans Z1.out)
    have B2 := Seg.hid (chain B1.out D.bel)
    have hOB := D.lo
    have hOBh := D.hi
    have DD := Seg.hid D
    obtain ⟨o0, o1⟩ : w2.cell? ⟨OB, 0, none⟩ = some (.int .i64 s.base) ∧ w2.cell? ⟨OB, 1, none⟩ = some (.slice A2 r c2) := ⟨cell_of_row w2 OB 0 _ _ (0, 0) D.out, cell_of_row w2 OB 1 _ _ (0, 0) D.out⟩
    obtain ⟨m0, m1⟩ : w2.cell? ⟨w.heap.size, 0, none⟩ = some (.int .i64 s.base) ∧ w2.cell? ⟨w.heap.size, 1, none⟩ = some (.slice A s.bats.length c) := ⟨cell_of_row w2 w.heap.size 0 _ _ (0, 0) T2.out, cell_of_row w2 w.heap.size 1 _ _ (0, 0) T2.out⟩
    have NOM : Hid (cutBs x s.bats = s.bats.take r → w2.there (w.heap.size + 1) 0 (segArr ⟨s.base, []⟩ (.slice A2 r c2)).size ∧ (w2.setCells (w.heap.size + 1) 0 (segArr ⟨s.base, []⟩ (.slice A2 r c2)).toList).heap[w.heap.size + 1]? = some (.cells (segArr ⟨s.base, []⟩ (.slice A2 r c2)) 55 (0, 0)) ∧ Below w.heap.size w (w2.setCells (w.heap.size + 1) 0 (segArr ⟨s.base, []⟩ (.slice A2 r c2)).toList) ∧ OwnB (w2.setCells (w.heap.size + 1) 0 (segArr ⟨s.base, []⟩ (.slice A2 r c2)).toList) (seg w.heap.size (w2.setCells (w.heap.size + 1) 0 (segArr ⟨s.base, []⟩ (.slice A2 r c2)).toList).heap.size) (.slice A2 r c2) (cutBs x s.bats)) := fun he => by
      have TH := Cells.there_of Z2.out
      refine ⟨TH, Cells.whole (vs := segArr ⟨s.base, []⟩ (.slice A2 r c2)) Z2.out rfl, Cells.below_setCells (by omega) _ _ _ _ B2.out, ?_⟩
      obtain ⟨F, P, base, hG, g1, g2, g3, g4⟩ := DD.out.grow
      rw [he]
      refine (LOwn.keep keepsB (LGrow.own ⟨F, P, hG⟩ (by rw [hul]; have := HF.out.1; omega)) (by rw [Cells.size_setCells]; exact Nat.le_refl _) (fun g h1 => ?_)).mono (fun y hy => ?_)
      · have := h1.1
        exact Cells.heap_setCells_other _ _ (by omega)
      · obtain ⟨x1, x2⟩ := hy
        refine ⟨by omega, ?_⟩
        rw [Cells.size_setCells]
        exact x2
    clear D
    have hbl := HF.out.1
    have n0 : w2.cell? ⟨w.heap.size + 1, 0, none⟩ = some (.int .i64 0) := cell_of_row w2 (w.heap.size + 1) 0 _ _ (0, 0) Z2.out
    have n1 : w2.cell? ⟨w.heap.size + 1, 1, none⟩ = some (.slice none 0 0) := cell_of_row w2 (w.heap.size + 1) 1 _ _ (0, 0) Z2.out
    have f0 := frozen_of_row w2 (w.heap.size + 1) 0 _ _ Z2.out
    have f1 := frozen_of_row w2 (w.heap.size + 1) 1 _ _ Z2.out
    by_cases hrn2 : r = s.bats.length
    · have CE : Hid (cutBs x s.bats = s.bats.take r) := by show _ = _; rw [CUT.out, if_neg (by omega), List.append_nil]
      have NQ := Seg.hid (NOM.out CE.out)
      have H5 := Seg.hid NQ.out.1
      have H4 := Seg.hid NQ.out.2.1
      have q2 : ((r : Int) == (s.bats.length : Int)) = true := by rw [hrn2]; simp
      have q3 : decide ((r : Int) = (s.bats.length : Int)) = true := by rw [hrn2]; simp
      clear NOM CUT hrn2
      go_wp2_with fail
      exact bodyPost_ret (v := segVal ⟨s.base, cutBs x s.bats⟩ (.slice A2 r c2)) (results_cell_row rfl _ _ (w.heap.size + 1) _ (segArr ⟨s.base, []⟩ (.slice A2 r c2)) _ _ rfl H4.out Try.underlying55 rfl infoN) rfl ⟨_, rfl, NQ.out.2.2.2, NQ.out.2.2.1⟩
    · have hlt : r < s.bats.length := by omega
      have q1 : (r : Int) < (s.bats.length : Int) := by omega
      have q2 : ((r : Int) == (s.bats.length : Int)) = false := beq_false_of_ne (by omega)
      have q3 : decide ((r : Int) = (s.bats.length : Int)) = false := decide_eq_false (by omega)
      obtain ⟨H, ⟨_, A', c', hsl, hrow⟩, hh⟩ := HV.out
      simp only [Value.slice.injEq] at hsl
      obtain ⟨rfl, _, rfl⟩ := hsl
      obtain ⟨g, o, rfl, hg, hc, hcell, _⟩ := hrow.resolve_left (by omega)
      have hgw : g < w.heap.size := by omega
      obtain ⟨e0, e1, e2, e3, e4, e5, e6⟩ := Bats.six (fun i hi q hq => by rw [B2.out.cell (p := ⟨g, o + i * 7 + q, none⟩) hgw]; exact hcell i hi q hq) r hlt
      have RT := Seg.hid ((hh r hlt).below (B2.out.mono hb))
      obtain ⟨_, ⟨_, Ah, ch, hHj, hrow3⟩, _⟩ := hh r hlt
      have hch : (s.bats.getD r default).recs.length ≤ ch ∨ (s.bats.getD r default).recs.length = 0 := by rcases hrow3 with h | ⟨_, _, _, _, h, _⟩ <;> omega
      have TE := Seg.hid (RY.out hlt)
      have OK := Seg.hid (LgP.okLen (BO.out r hlt))
      have FB := Seg.hid (HF.out.2 r hlt)
      rw [hHj] at e6 RT
      clear hcell hrow hh hHj hrow3
      generalize s.bats.getD r default = t at *
      by_cases hbx : x ≤ t.base
      · have CE : Hid (cutBs x s.bats = s.bats.take r) := by show _ = _; rw [CUT.out, if_neg (by omega), List.append_nil]
        have NQ := Seg.hid (NOM.out CE.out)
        have H5 := Seg.hid NQ.out.1
        have H4 := Seg.hid NQ.out.2.1
        clear NOM CUT
        go_wp2_with fail
        exact bodyPost_ret (v := segVal ⟨s.base, cutBs x s.bats⟩ (.slice A2 r c2)) (results_cell_row rfl _ _ (w.heap.size + 1) _ (segArr ⟨s.base, []⟩ (.slice A2 r c2)) _ _ rfl H4.out Try.underlying55 rfl infoN) rfl ⟨_, rfl, NQ.out.2.2.2, NQ.out.2.2.1⟩
      · have hxb : t.base < x := by omega
        have CE : Hid (cutBs x s.bats = s.bats.take r ++ [cutB x t]) := by show _ = _; rw [CUT.out, if_pos ⟨hlt, hxb⟩]
        have hbb := OK.out
        have ht0 : 0 ≤ t.base := by omega
        have ht1 : t.base ≤ 1000000000 := by omega
        have hte : x < t.base + t.recs.length := of_decide_eq_true TE.out
        have k0 : 0 ≤ x - t.base := by omega
        have k1 : x - t.base ≤ (ch : Int) := by omega
        clear NOM CUT hbb
        obtain ⟨T', hT'⟩ : ∃ T', T' = cutB x t := ⟨_, rfl⟩
        have hT2 : T' = ⟨t.base, t.epoch, t.producer, t.turn, t.seq, t.flags, t.recs.take (x - t.base).toNat⟩ := by rw [hT']; exact if_pos hte
        have BW : Hid (Below w2.heap.size w2 (w2.alloc (.cells #[.int .i64 t.base, .int .i64 t.epoch, .int .i64 t.producer, .int .i64 t.turn, .int .i64 t.seq, .int .i64 t.flags, .slice Ah (x - t.base).toNat ch] 58 (0, 0)))) := below1 w2 _
        have zW : (w2.alloc (.cells #[.int .i64 t.base, .int .i64 t.epoch, .int .i64 t.producer, .int .i64 t.turn, .int .i64 t.seq, .int .i64 t.flags, .slice Ah (x - t.base).toNat ch] 58 (0, 0))).heap.size = w2.heap.size + 1 := hsz _ _
        have CBC : Hid (Calls Try.prog 61 #[.agg #[.int .i64 t.base, .int .i64 t.epoch, .int .i64 t.producer, .int .i64 t.turn, .int .i64 t.seq, .int .i64 t.flags, .slice Ah (x - t.base).toNat ch]] (w2.alloc (.cells #[.int .i64 t.base, .int .i64 t.epoch, .int .i64 t.producer, .int .i64 t.turn, .int .i64 t.seq, .int .i64 t.flags, .slice Ah (x - t.base).toNat ch] 58 (0, 0))).drew fun e w' => ∃ rv, e = .returned (batVal T' rv) ∧ OwnR w' (seg (w2.heap.size + 1) w'.heap.size) rv T'.recs ∧ Below w2.heap.size w2 w') := by
          refine (copyBatch_any _ T' (w2.alloc (.cells #[.int .i64 t.base, .int .i64 t.epoch, .int .i64 t.producer, .int .i64 t.turn, .int .i64 t.seq, .int .i64 t.flags, .slice Ah (x - t.base).toNat ch] 58 (0, 0))).drew lo b ?_ (by show b ≤ (w2.alloc (.cells #[.int .i64 t.base, .int .i64 t.epoch, .int .i64 t.producer, .int .i64 t.turn, .int .i64 t.seq, .int .i64 t.flags, .slice Ah (x - t.base).toNat ch] 58 (0, 0))).heap.size; rw [zW]; have := B2.out.size; omega) ?_).mono fun e w' ⟨rv, a1, a2, a3⟩ => ⟨rv, a1, ?_, ?_⟩
          · rw [hT2]
            exact ⟨_, rfl, (recs_take RT.out (by omega)).below ((BW.out.drew).mono (by have := B2.out.size; omega))⟩
          · rw [hT2]
            refine ⟨by show (t.recs.take _).length ≤ _; rw [List.length_take]; have := FB.out.1; omega, fun i hi => ?_⟩
            have hi' : i < (t.recs.take (x - t.base).toNat).length := hi
            rw [List.length_take] at hi'
            show FewR ((t.recs.take _).getD i default)
            rw [getD_take _ _ _ (by omega)]
            exact FB.out.2 i (by omega)
          · have e1 : (w2.alloc (.cells #[.int .i64 t.base, .int .i64 t.epoch, .int .i64 t.producer, .int .i64 t.turn, .int .i64 t.seq, .int .i64 t.flags, .slice Ah (x - t.base).toNat ch] 58 (0, 0))).drew.heap.size = w2.heap.size + 1 := zW
            rw [e1] at a2
            exact a2
          · exact BW.out.drew.trans (a3.mono (by show w2.heap.size ≤ (w2.alloc (.cells #[.int .i64 t.base, .int .i64 t.epoch, .int .i64 t.producer, .int .i64 t.turn, .int .i64 t.seq, .int .i64 t.flags, .slice Ah (x - t.base).toNat ch] 58 (0, 0))).heap.size; rw [zW]; omega))
        obtain ⟨F, P, base, hG, g1, g2, g3, g4⟩ := DD.out.grow
        have NX : Hid (∀ w8 rv8, Below w2.heap.size w2 w8 → OwnR w8 (seg (w2.heap.size + 1) w8.heap.size) rv8 T'.recs → ∀ g9 cap9 w9 o9, w9.ownsRow base 58 7 (.slice (some ⟨g9, 0, none⟩) (r + 1) cap9) (r + 1) ((List.range (r * 7)).map F ++ (BatW.batArr T' rv8).toList) → (w8.alloc o9).grownBy w9 (Value.slice A2 r c2).ownBlock → ((Value.slice A2 r c2).ownBlock = some g9 ∨ g9 = w8.heap.size + 1) → AfterC w w9 OB s.base (.slice A2 r c2) (.slice (some ⟨g9, 0, none⟩) (r + 1) cap9) (s.bats.take r ++ [T'])) := fun w8 rv8 b8 ho g9 cap9 w9 o9 a1 a2 a3 => by
          have := afterC (t := T') (rv := rv8) (o := o9) (g := g9) (cap := cap9) hG g1 g2 g3 g4 DD.out (by omega) B1.out Z2.out b8 ho (by rw [hul]; omega) (by rw [hul]; exact a1) a2 a3
          rw [hul] at this
          exact this
        have OWN : Hid (∀ w8 o9, Below w2.heap.size w2 w8 → (w8.alloc o9).ownsRow base 58 7 (.slice A2 r c2) r ((List.range (r * 7)).map F) ∧ base ≤ (w8.alloc o9).heap.size) := fun w8 o9 b8 => by
          have := World.ownsRow.alloc (own_keep hG.own (fun y _ hy => b8.block y hy)) o9
          rw [hul] at this
          exact ⟨this, by rw [hsz]; have := b8.size; omega⟩
        have OUT : Hid (∀ w8, Below w2.heap.size w2 w8 → w8.cell? ⟨OB, 1, none⟩ = some (.slice A2 r c2)) := fun w8 b8 => (b8.cell (p := ⟨OB, 1, none⟩) hOBh).trans o1
        have CE2 : Hid (cutBs x s.bats = s.bats.take r ++ [T']) := by show _ = _; rw [hT']; exact CE.out
        have LRr : Hid ((w2.alloc (.cells #[.int .i64 t.base, .int .i64 t.epoch, .int .i64 t.producer, .int .i64 t.turn, .int .i64 t.seq, .int .i64 t.flags, .slice Ah (x - t.base).toNat ch] 58 (0, 0))).heap[w2.heap.size]? = some (.cells (BatW.batArr t (.slice Ah (x - t.base).toNat ch)) 58 (0, 0))) := heap_alloc_new _ _
        obtain ⟨v0, v1, v2, v3, v4, v5, v6⟩ := seven LRr.out
        have hl63 : Hid (r + 1 ≤ maxLen) := by show _ ≤ _; unfold maxLen; omega
        have hby : Hid ((r + 1) * 72 ≤ 140737488355328) := by show _ ≤ _; omega
        clear hG g1 g2 g3 g4 hT2 CE BW RT FB TE OK HV BO BM HF hT'
        go_wp2_with fail
        clear e0 e1 e2 e3 e4 e5 e6 m0 m1
        go_region_law
          ((first | (go_simp; go_at_call 61; refine CBC.out.mono ?_; rintro e w8 ⟨rv8, rfl, ow8, b8⟩; obtain ⟨A8, c8, hA8⟩ := LOwn.form ow8; subst hA8; have BB8 := Seg.hid b8; have NX8 := Seg.hid (NX.out w8 _ b8 ow8); have K8 := OUT.out w8 b8; have hl8 : OB < w8.heap.size := Nat.lt_of_lt_of_le hOBh b8.size; clear ow8 b8; unfold batVal) | (refine step_append_lies _ (by rfl) _ _ _ (by rfl) base 58 i0 _ 7 72 Try.underlying40 hi hz0 hz1 hz2 rfl (by decide) (.slice A2 r c2) r ((List.range (r * 7)).map F) (by rfl) (OWN.out w8 _ BB8.out).1 ⟨w8.heap.size, 0, none⟩ 1 1 (BatW.batArr T' (.slice A8 T'.recs.length c8)).toList (by rfl) (by rfl) (World.news_of_block (cs := BatW.batArr T' (.slice A8 T'.recs.length c8)) (heap_alloc_new w8 _)) (by simp [BatW.batArr, Value.oneCell']) (by decide) hl63.out hby.out (OWN.out w8 _ BB8.out).2 (w8.heap.size + 1) (hsz w8 _) ?_; intro g9 cap9 w9 hown9 gr9 hat9 hlt9; have AC := Seg.hid (NX8.out g9 cap9 w9 _ hown9 gr9 hat9); have q6 := AC.out.c1; have p6 := AC.out.f1; clear hown9 gr9 hat9 hlt9)))
        all_goals
          have a0 := AC.out.d0; have a1 := AC.out.d1; have a2 := AC.out.r0; have a3 := AC.out.r1; have a4 := AC.out.y0; have a5 := AC.out.y1
          clear v0 v1 v2 v3 v4 v5 v6 q6 p6 K8 n0 n1 f0 f1 o0 o1
          go_wp2_with fail
          exact bodyPost_ret (v := segVal ⟨s.base, cutBs x s.bats⟩ (.slice (some ⟨g9, 0, none⟩) (r + 1) cap9)) (results_cell_row rfl _ _ (w.heap.size + 1) _ (segArr ⟨s.base, []⟩ (.slice (some ⟨g9, 0, none⟩) (r + 1) cap9)) _ _ rfl AC.out.row Try.underlying55 rfl infoN) rfl ⟨_, rfl, by rw [CE2.out]; exact AC.out.own, AC.out.bel⟩
  clear aK
  go_region_with (first | (go_at_call 59; refine (CALL.out w1.drew (Below.refl _ _).drew).mono ?_; rintro e wc ⟨bv, rfl, hG, bc, hsc⟩; obtain ⟨A2, c2, hA2⟩ := LGrow.form hG; rw [hul] at hA2; subst hA2; have HGc := Seg.hid hG; have Bc : Hid (Below w1.heap.size w1 wc) := ⟨bc.os, bc.tape, bc.output, bc.size, bc.block⟩; have HSc := Seg.hid hsc; clear hG bc hsc; unfold segVal) | (go_at_call 59; refine (CALL.out (w1.drew.alloc _) ((below1 w1 _).drew)).mono ?_; rintro e wc ⟨bv, rfl, hG, bc, hsc⟩; obtain ⟨A2, c2, hA2⟩ := LGrow.form hG; rw [hul] at hA2; subst hA2; rw [hsz] at hG bc hsc; have HGd := Seg.hid hG; have Bd : Hid (Below (w1.heap.size + 1) (w1.alloc (.cells #[.int .i64 0, .slice none 0 0] 55 (0, 0))) wc) := ⟨bc.os, bc.tape, bc.output, bc.size, bc.block⟩; have HSd := Seg.hid hsc; have V : Hid (wc.heap[w1.heap.size]? = some (.cells (segArr ⟨0, []⟩ (.slice none 0 0)) 55 (0, 0))) := (Bd.out.block w1.heap.size (by omega)).trans (heap_alloc_new _ _); have k0 : wc.cell? ⟨w1.heap.size, 0, none⟩ = some (.int .i64 0) := cell_of_row wc w1.heap.size 0 _ _ (0, 0) V.out; have k1 : wc.cell? ⟨w1.heap.size, 1, none⟩ = some (.slice none 0 0) := cell_of_row wc w1.heap.size 1 _ _ (0, 0) V.out; have y0 := frozen_of_row wc w1.heap.size 0 _ _ V.out; have y1 := frozen_of_row wc w1.heap.size 1 _ _ V.out; clear hG bc hsc; unfold segVal))
  all_goals
    first | exact J _ _ A2 c2 _ _ _ _ _ _ _ _ (CO.after HGc.out Bc.out HSc.out) | exact J _ _ A2 c2 _ _ _ _ _ _ _ _ (CO.ahead (.cells #[.int .i64 0, .slice none 0 0] 55 (0, 0)) HGd.out Bd.out HSd.out (Cells.whole (vs := segArr ⟨s.base, []⟩ (.slice A2 r c2)) V.out rfl))
theorem cutSegment_any (v : Value) (s : Sg) (x f e f' e' : Int) (w : World) (lo b : Nat) (hv : SegAt w lo b v s) (hb : b ≤ w.heap.size) (hf : FewS s) (hok : LgP.bats f e s.bats = some (f', e')) (hx0 : 0 ≤ x) (hx1 : x ≤ 1000000000) :
    Calls Try.prog 30 #[v, .int .i64 x] w fun e w' => ∃ bv, e = .returned (segVal ⟨s.base, cutBs x s.bats⟩ bv) ∧ OwnB w' (seg w.heap.size w'.heap.size) bv (cutBs x s.bats) ∧ Below w.heap.size w w' := by
  obtain ⟨bv, rfl, hs⟩ := hv
  obtain ⟨_, ⟨_, A, c, rfl, _⟩, _⟩ := id hs
  exact cutSegment_core s x f e f' e' A c w lo b hb hf hs hok hx0 hx1
end Go.Proofs.Yticihnoekffelaa.Ft
