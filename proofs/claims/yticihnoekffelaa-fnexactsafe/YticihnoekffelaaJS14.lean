/- Heads, Records and Batches in lists of the call's own, by the set of their blocks; the law's copier of a list of Batches; Segments in lists of the call's own; the law's copiers of Segments and of a Log; Parts of lists in memory; the parts of a right log. -/
import Derived.Test.YticihnoekffelaaJS13
import Derived.Test.YticihnoekffelaaJS04
import Derived.Test.YticihnoekffelaaJS05
import Derived.Test.YticihnoekffelaaJS10
namespace Go.Proofs.Yticihnoekffelaa.Ft
set_option maxRecDepth 8000
open Go.RowKit
open Recs
open ToO (MineC HOwn ROwn)
open Bats (BatsAt batsCells)
open SegW
set_option linter.unusedVariables false

def EH (w : World) (S : Nat → Prop) (f : Nat → Value) (h : Hd) : Prop := f 0 = .string h.key ∧ f 1 = .string h.val
def OwnH (w : World) (S : Nat → Prop) (v : Value) (hs : List Hd) : Prop := LOwn 116 2 EH w S v hs
def ER (w : World) (S : Nat → Prop) (f : Nat → Value) (r : Rec) : Prop := (f 0 = .int .i64 r.time ∧ f 1 = .bool r.keyed ∧ f 2 = .string r.key ∧ f 3 = .bool r.gone ∧ f 4 = .string r.val) ∧ OwnH w S (f 5) r.heads
def OwnR (w : World) (S : Nat → Prop) (v : Value) (rs : List Rec) : Prop := LOwn 88 6 ER w S v rs
def EB (w : World) (S : Nat → Prop) (f : Nat → Value) (t : Bat) : Prop := (f 0 = .int .i64 t.base ∧ f 1 = .int .i64 t.epoch ∧ f 2 = .int .i64 t.producer ∧ f 3 = .int .i64 t.turn ∧ f 4 = .int .i64 t.seq ∧ f 5 = .int .i64 t.flags) ∧ OwnR w S (f 6) t.recs
def OwnB (w : World) (S : Nat → Prop) (v : Value) (ts : List Bat) : Prop := LOwn 58 7 EB w S v ts
theorem keepsH : Keeps 2 EH := fun w w' S f f' t h hs hk hf => by
  obtain ⟨h0, h1⟩ := h
  exact ⟨by rw [hf 0 (by omega)]; exact h0, by rw [hf 1 (by omega)]; exact h1⟩
theorem keepsR : Keeps 6 ER := fun w w' S f f' t h hs hk hf => by
  obtain ⟨⟨h0, h1, h2, h3, h4⟩, h5⟩ := h
  refine ⟨⟨by rw [hf 0 (by omega)]; exact h0, by rw [hf 1 (by omega)]; exact h1, by rw [hf 2 (by omega)]; exact h2, by rw [hf 3 (by omega)]; exact h3, by rw [hf 4 (by omega)]; exact h4⟩, ?_⟩
  rw [hf 5 (by omega)]
  exact LOwn.keep keepsH h5 hs hk
theorem keepsB : Keeps 7 EB := fun w w' S f f' t h hs hk hf => by
  obtain ⟨⟨h0, h1, h2, h3, h4, h5⟩, h6⟩ := h
  refine ⟨⟨by rw [hf 0 (by omega)]; exact h0, by rw [hf 1 (by omega)]; exact h1, by rw [hf 2 (by omega)]; exact h2, by rw [hf 3 (by omega)]; exact h3, by rw [hf 4 (by omega)]; exact h4, by rw [hf 5 (by omega)]; exact h5⟩, ?_⟩
  rw [hf 6 (by omega)]
  exact LOwn.keep keepsR h6 hs hk
/-- The set of all blocks from lo on, below b. -/
def seg (lo b : Nat) (x : Nat) : Prop := lo ≤ x ∧ x < b
theorem rows_eq {w : World} {lo b s n g c ty : Nat} {F : Nat → Value} {f : Nat → Nat → Value} (h : Row w lo b s (.slice (some ⟨g, 0, none⟩) n c) n f) (hM : MineC w ty s g n c F) (i : Nat) (hi : i < n) (j : Nat) (hj : j < s) : F (i * s + j) = f i j := by
  obtain ⟨hn, A, c', h1, h2⟩ := h
  obtain ⟨g', o, h3, h4, h5, h6, h7⟩ := h2.resolve_left (by omega)
  simp only [Value.slice.injEq] at h1
  obtain ⟨rfl, _, rfl⟩ := h1
  simp only [Option.some.injEq, Addr.mk.injEq] at h3
  obtain ⟨rfl, rfl, _⟩ := h3
  have hq : i * s + j < n * s := by
    have : (i + 1) * s ≤ n * s := Nat.mul_le_mul_right s hi
    rw [Nat.succ_mul] at this
    omega
  have a1 := hM.cell (i * s + j) hq
  have a2 := h6 i hi j hj
  rw [Nat.zero_add, a1] at a2
  exact Option.some.inj a2
theorem own_heads {w : World} {lo b lo' b' : Nat} {v : Value} {hs : List Hd} (h : Heads w lo b v hs) (ho : HOwn w lo' b' v hs.length) : OwnH w (seg lo' b') v hs := by
  obtain ⟨h0, A, c, rfl, h2⟩ := ho
  refine ⟨h0, A, c, rfl, h2.imp id ?_⟩
  rintro ⟨g, F, rfl, h3, h4, h5⟩
  refine ⟨g, F, fun _ _ => False, rfl, ⟨h3, h4⟩, fun _ _ _ hx => hx.elim, h5, rfl, fun i hi => ⟨?_, ?_⟩, fun _ _ _ hx => hx.elim, fun _ _ _ _ _ _ hx => hx.elim⟩
  · exact rows_eq h h5 i hi 0 (by omega)
  · exact rows_eq h h5 i hi 1 (by omega)
theorem own_recs {w : World} {lo b lo' hi : Nat} {v : Value} {rs : List Rec} (h : RecsAt w lo b v rs) (ho : ROwn w lo' hi v rs.length (fun i => (rs.getD i default).heads.length)) : OwnR w (seg lo' hi) v rs := by
  obtain ⟨H, hr, hh⟩ := h
  refine ⟨ho.le, ?_⟩
  rcases ho.own with ⟨A, c, rfl, h2⟩ | ⟨g, c, F, m, rfl, h1, h2, h3, h4, h5, h6⟩
  · exact ⟨A, c, by rw [h2], .inl h2⟩
  have wl := ToO.win_le h4
  have hm0 := wl 0 rs.length (by omega) (Nat.le_refl _)
  refine ⟨_, c, rfl, .inr ⟨g, F, fun i => seg (m i) (m (i + 1)), rfl, ⟨h1, by omega⟩, fun i hi x hx => ?_, h2, rfl, fun i hi => ⟨⟨?_, ?_, ?_, ?_, ?_⟩, ?_⟩, fun i hi x hx => ?_, fun i j hi hj hij x hx hx' => ?_⟩⟩
  · have a1 := wl 0 i (by omega) (by omega)
    have a2 := wl (i + 1) rs.length (by omega) (Nat.le_refl _)
    obtain ⟨x1, x2⟩ := hx
    exact ⟨by omega, by omega⟩
  · exact rows_eq hr h2 i hi 0 (by omega)
  · exact rows_eq hr h2 i hi 1 (by omega)
  · exact rows_eq hr h2 i hi 2 (by omega)
  · exact rows_eq hr h2 i hi 3 (by omega)
  · exact rows_eq hr h2 i hi 4 (by omega)
  · have e : F (i * 6 + 5) = H i := rows_eq hr h2 i hi 5 (by omega)
    have hh' := hh i hi
    rw [← e] at hh'
    exact own_heads hh' (h6 i hi)
  · have a1 := wl 0 i (by omega) (by omega)
    have a2 := wl (i + 1) rs.length (by omega) (Nat.le_refl _)
    have := ho.hi_le
    obtain ⟨x1, x2⟩ := hx
    exact ⟨by omega, by omega⟩
  · obtain ⟨x1, x2⟩ := hx
    obtain ⟨y1, y2⟩ := hx'
    by_cases hc : i < j
    · have := wl (i + 1) j (by omega) (by omega); omega
    · have := wl (j + 1) i (by omega) (by omega); omega
theorem row_of {T : Type} [Inhabited T] {EO : World → (Nat → Prop) → (Nat → Value) → T → Prop} {w : World} {ty s : Nat} {S : Nat → Prop} {v : Value} {us : List T} (h : LOwn ty s EO w S v us) {lo b : Nat} (hS : ∀ x, S x → lo ≤ x ∧ x < b) :
    ∃ (F : Nat → Value) (P : Nat → Nat → Prop), Row w lo b s v us.length (fun i j => F (i * s + j)) ∧ ∀ i, i < us.length → EO w (P i) (fun q => F (i * s + q)) (us.getD i default) ∧ ∀ x, P i x → lo ≤ x ∧ x < b := by
  obtain ⟨h0, A, c, rfl, h2⟩ := h
  by_cases hz : us.length = 0
  · exact ⟨fun _ => default, fun _ _ => False, ⟨by omega, A, c, rfl, .inl hz⟩, fun i hi => absurd hi (by omega)⟩
  obtain ⟨g, F, P, rfl, h3, h4, h5⟩ := h2.resolve_left hz
  refine ⟨F, P, ⟨by omega, _, c, rfl, .inr ⟨g, 0, rfl, (hS g h3).2, h5.mine.le, fun i hi j hj => ?_, (hS g h3).1⟩⟩, fun i hi => ⟨h5.el i hi, fun x hx => hS x (h4 i hi x hx)⟩⟩
  have hq : i * s + j < us.length * s := by
    have : (i + 1) * s ≤ us.length * s := Nat.mul_le_mul_right s hi
    rw [Nat.succ_mul] at this
    omega
  rw [Nat.zero_add]
  exact h5.mine.cell _ hq
theorem row_eqf {w : World} {lo b s n : Nat} {v : Value} {f f' : Nat → Nat → Value} (h : Row w lo b s v n f) (he : ∀ i, i < n → ∀ j, j < s → f i j = f' i j) : Row w lo b s v n f' := by
  obtain ⟨h0, A, c, h1, h2⟩ := h
  refine ⟨h0, A, c, h1, h2.imp id ?_⟩
  rintro ⟨g, o, h3, h4, h5, h6, h7⟩
  exact ⟨g, o, h3, h4, h5, fun i hi j hj => by rw [h6 i hi j hj, he i hi j hj], h7⟩
theorem heads_of {w : World} {S : Nat → Prop} {v : Value} {hs : List Hd} {lo b : Nat} (h : OwnH w S v hs) (hS : ∀ x, S x → lo ≤ x ∧ x < b) : Heads w lo b v hs := by
  obtain ⟨F, P, hr, he⟩ := row_of h hS
  exact row_eqf hr fun i hi j hj => by
    obtain ⟨⟨e0, e1⟩, _⟩ := he i hi
    match j, hj with
    | 0, _ => exact e0
    | 1, _ => exact e1
theorem recs_of {w : World} {S : Nat → Prop} {v : Value} {rs : List Rec} {lo b : Nat} (h : OwnR w S v rs) (hS : ∀ x, S x → lo ≤ x ∧ x < b) : RecsAt w lo b v rs := by
  obtain ⟨F, P, hr, he⟩ := row_of h hS
  refine ⟨fun i => F (i * 6 + 5), row_eqf hr fun i hi j hj => ?_, fun i hi => heads_of (he i hi).1.2 (he i hi).2⟩
  obtain ⟨⟨⟨e0, e1, e2, e3, e4⟩, _⟩, _⟩ := he i hi
  match j, hj with
  | 0, _ => exact e0
  | 1, _ => exact e1
  | 2, _ => exact e2
  | 3, _ => exact e3
  | 4, _ => exact e4
  | 5, _ => rfl
theorem bats_of {w : World} {S : Nat → Prop} {v : Value} {ts : List Bat} {lo b : Nat} (h : OwnB w S v ts) (hS : ∀ x, S x → lo ≤ x ∧ x < b) : BatsAt w lo b v ts := by
  obtain ⟨F, P, hr, he⟩ := row_of h hS
  refine ⟨fun i => F (i * 7 + 6), row_eqf hr fun i hi j hj => ?_, fun i hi => recs_of (he i hi).1.2 (he i hi).2⟩
  obtain ⟨⟨⟨e0, e1, e2, e3, e4, e5⟩, _⟩, _⟩ := he i hi
  match j, hj with
  | 0, _ => exact e0
  | 1, _ => exact e1
  | 2, _ => exact e2
  | 3, _ => exact e3
  | 4, _ => exact e4
  | 5, _ => exact e5
  | 6, _ => rfl

/-- A row of one's own that is filled one by one: m elements stand. -/
structure LPart {T : Type} [Inhabited T] (ty nf : Nat) (EO : World → (Nat → Prop) → (Nat → Value) → T → Prop) (w wr : World) (n : Nat) (F : Nat → Value) (P : Nat → Nat → Prop) (us : List T) (m : Nat) : Prop where
  mine : Mine wr ty nf w.heap.size n F
  bel : Below w.heap.size w wr
  el : ∀ i, i < m → EO wr (P i) (fun q => F (i * nf + q)) (us.getD i default)
  apart : ∀ i, i < m → ∀ x, P i x → w.heap.size < x ∧ x < wr.heap.size
  disj : ∀ i j, i < m → j < m → i ≠ j → ∀ x, P i x → ¬ P j x
theorem LPart.push {T : Type} [Inhabited T] {ty nf : Nat} {EO : World → (Nat → Prop) → (Nat → Value) → T → Prop} (hE : Keeps nf EO) {w wr w1 : World} {n m : Nat} {F : Nat → Value} {P : Nat → Nat → Prop} {us : List T} {Q : Nat → Prop} {vs : List Value} (h : LPart ty nf EO w wr n F P us m) (hv : vs.length = nf) (b1 : Below wr.heap.size wr w1)
    (hQ : ∀ x, Q x → wr.heap.size ≤ x ∧ x < w1.heap.size) (he : EO (w1.setCells w.heap.size (m * nf) vs) Q (fun q => Own.upd F (m * nf) vs (m * nf + q)) (us.getD m default)) :
    LPart ty nf EO w (w1.setCells w.heap.size (m * nf) vs) n (Own.upd F (m * nf) vs) (fun i => if i = m then Q else P i) us (m + 1) := by
  have hlt := h.mine.lt
  have keep : ∀ g, g ≠ w.heap.size → (w1.setCells w.heap.size (m * nf) vs).heap[g]? = w1.heap[g]? := fun g hg => Cells.heap_setCells_other _ _ hg
  have hsize := Cells.size_setCells (g := w.heap.size) vs (o := m * nf) w1
  have b1s := b1.size
  refine ⟨Own.mine_setCells _ _ _ _ (h.mine.below b1 hlt), Cells.below_setCells (Nat.le_refl _) _ _ _ _ (chain h.bel b1), fun i hi => ?_, fun i hi x hx => ?_, fun i j hi hj hij x hx hx' => ?_⟩
  · by_cases e : i = m
    · subst e
      rw [if_pos rfl]
      exact he
    · rw [if_neg e]
      refine hE _ _ _ _ _ _ (h.el i (by omega)) (by rw [hsize]; exact b1s) (fun g hg => ?_) (fun q hq => ?_)
      · have := h.apart i (by omega) g hg
        exact (keep g (by omega)).trans (b1.block g (by omega))
      · refine Own.upd_out (.inl ?_)
        have : (i + 1) * nf ≤ m * nf := Nat.mul_le_mul_right nf (by omega)
        rw [Nat.succ_mul] at this
        omega
  · rw [hsize]
    by_cases e : i = m
    · subst e
      rw [if_pos rfl] at hx
      have := hQ x hx
      exact ⟨by omega, by omega⟩
    · rw [if_neg e] at hx
      have := h.apart i (by omega) x hx
      exact ⟨by omega, by omega⟩
  · by_cases e : i = m
    · subst e
      rw [if_pos rfl] at hx
      rw [if_neg (Ne.symm hij)] at hx'
      have a1 := hQ x hx
      have a2 := h.apart j (by omega) x hx'
      omega
    · rw [if_neg e] at hx
      by_cases e2 : j = m
      · subst e2
        rw [if_pos rfl] at hx'
        have a1 := hQ x hx'
        have a2 := h.apart i (by omega) x hx
        omega
      · rw [if_neg e2] at hx'
        exact h.disj i j (by omega) (by omega) hij x hx hx'
theorem LPart.own {T : Type} [Inhabited T] {ty nf : Nat} {EO : World → (Nat → Prop) → (Nat → Value) → T → Prop} {w wr : World} {F : Nat → Value} {P : Nat → Nat → Prop} {us : List T} (h : LPart ty nf EO w wr us.length F P us us.length) (hn : us.length ≤ 1048576) : LOwn ty nf EO wr (seg w.heap.size wr.heap.size) (.slice (some ⟨w.heap.size, 0, none⟩) us.length us.length) us :=
  ⟨hn, _, _, rfl, .inr ⟨w.heap.size, F, P, rfl, ⟨Nat.le_refl _, h.mine.lt⟩, fun i hi x hx => ⟨by have := h.apart i hi x hx; omega, (h.apart i hi x hx).2⟩, h.mine, rfl, h.el, fun i hi x hx => ⟨by have := h.apart i hi x hx; omega, (h.apart i hi x hx).2⟩, h.disj⟩⟩

set_option maxHeartbeats 800000 in
theorem toBatchS_core (g o n c b lo : Nat) (ts : List Bat) (H : Nat → Value) (w : World) (hn : n ≤ 1048576) (hc : n ≤ c) (hg : g < w.heap.size) (hb : b ≤ w.heap.size)
    (hf : ∀ i, i < n → FewB (ts.getD i default)) (hh : ∀ i, i < n → RecsAt w lo b (H i) (ts.getD i default).recs)
    (ha : ∀ i, i < n → ∀ j, j < 7 → w.cell? ⟨g, o + i * 7 + j, none⟩ = some (batsCells ts H i j)) :
    Calls Try.prog 79 #[.slice (some ⟨g, o, none⟩) n c] w fun e w' => ∃ F P, e = .returned (.slice (some ⟨w.heap.size, 0, none⟩) n n) ∧ LPart 58 7 EB w w' n F P ts n := by
  obtain ⟨i0, hi, hz0, hz1, hz2⟩ := info_parts Bats.info6
  have HA := Seg.hid ha; have HK := Seg.hid hf; have HH := Seg.hid hh
  clear ha hf hh
  go_enter Try.func79, Try.ntmps79
  go_wp2_with (at_make; refine wpList_make_full _ rfl _ _ 40 rfl w.heap.size 58 i0 _ 7 Try.underlying40 hi hz0 hz1 .i64 .i64 _ _ n rfl rfl rfl rfl (by rw [hz2]; omega) (by unfold maxLen; omega) (Nat.le_refl _) ?_; intro w1 hown hgr)
  have hb1 := (Below.refl w.heap.size w).grown hgr (Nat.le_refl _) (fun k hk => by cases hk)
  have HM := Seg.hid (Mine.of_made hown hown.1)
  have HB := Seg.hid hb1
  clear hown hgr hb1 hi hz0 hz1 hz2
  go_loopw [4] (fun i wr => ∃ (j : Nat) (F : Nat → Value) (P : Nat → Nat → Prop), j ≤ n ∧ i = .int .i64 j ∧ LPart 58 7 EB w wr n F P ts j) (fun i _ => n - (intOf i).toNat)
  case atStart => exact ⟨0, _, fun _ _ => False, Nat.zero_le _, rfl, HM.out, HB.out, fun i hi => absurd hi (by omega), fun i hi => absurd hi (by omega), fun i j hi => absurd hi (by omega)⟩
  case round =>
    clear HM HB
    obtain ⟨j, F, P, hj, rfl, HR⟩ := hrel
    by_cases hlt : j < n
    · obtain ⟨c0, c1, c2, c3, c4, c5, c6⟩ := Bats.six (Bats.six' HA.out HR.bel hg) j hlt
      have RA : Hid (BatAt wr lo b (.agg #[.int .i64 (ts.getD j default).base, .int .i64 (ts.getD j default).epoch, .int .i64 (ts.getD j default).producer, .int .i64 (ts.getD j default).turn, .int .i64 (ts.getD j default).seq, .int .i64 (ts.getD j default).flags, H j]) (ts.getD j default)) := ⟨_, rfl, (HH.out j hlt).below (HR.bel.mono hb)⟩
      have FW := Seg.hid (HK.out j hlt)
      have hbr : b ≤ wr.heap.size := Nat.le_trans hb HR.bel.size
      have ST : Hid (∀ w1 hv, Below wr.heap.size wr w1 → OwnR w1 (seg wr.heap.size w1.heap.size) hv (ts.getD j default).recs → LPart 58 7 EB w (w1.setCells w.heap.size (j * 7) (BatW.batArr (ts.getD j default) hv).toList) n (Own.upd F (j * 7) (BatW.batArr (ts.getD j default) hv).toList) (fun i => if i = j then seg wr.heap.size w1.heap.size else P i) ts (j + 1)) := fun w1 hv b1 ho => by
        have hcell : ∀ q, q < 7 → Own.upd F (j * 7) (BatW.batArr (ts.getD j default) hv).toList (j * 7 + q) = (BatW.batArr (ts.getD j default) hv).toList.getD q default := fun q hq => Own.upd_in (by simp [BatW.batArr]; omega)
        refine LPart.push keepsB HR (by simp [BatW.batArr]) b1 (fun x hx => hx) ⟨⟨?_, ?_, ?_, ?_, ?_, ?_⟩, ?_⟩
        · show Own.upd _ _ _ _ = _; rw [hcell 0 (by omega)]; rfl
        · show Own.upd _ _ _ _ = _; rw [hcell 1 (by omega)]; rfl
        · show Own.upd _ _ _ _ = _; rw [hcell 2 (by omega)]; rfl
        · show Own.upd _ _ _ _ = _; rw [hcell 3 (by omega)]; rfl
        · show Own.upd _ _ _ _ = _; rw [hcell 4 (by omega)]; rfl
        · show Own.upd _ _ _ _ = _; rw [hcell 5 (by omega)]; rfl
        · show OwnR _ _ (Own.upd _ _ _ _) _
          rw [hcell 6 (by omega)]
          show OwnR _ _ hv _
          have hl := HR.mine.lt
          exact LOwn.keep keepsR ho (by rw [Cells.size_setCells]; exact Nat.le_refl _) (fun g hg => Cells.heap_setCells_other _ _ (by have := hg.1; omega))
      have HM := Seg.hid HR.mine
      have h0 : (0 : Int) ≤ (j : Int) := by omega
      have h1 : (j : Int) < (n : Int) := by omega
      clear HR
      generalize ts.getD j default = rj at *
      go_wp2_with fail
      refine (ToO.toBatch_own _ rj wr lo b RA.out hbr FW.out).mono ?_
      rintro e w1 ⟨hv1, rfl, hh1, ho1, b1⟩
      have S1 := Seg.hid (ST.out w1 hv1 b1 (own_recs hh1 ho1))
      have M1 := Seg.hid (Own.mine_there (o := j * 7) (m := 7) (HM.out.below b1 HM.out.lt) (by omega))
      obtain ⟨_, ⟨_, A1, k1, rfl, _⟩, _⟩ := hh1
      clear b1 ho1
      have M2 : Hid (w1.there w.heap.size (j * 7) (BatW.batArr rj (.slice A1 rj.recs.length k1)).size) := M1.out
      clear M1
      rw [show batVal rj (.slice A1 rj.recs.length k1) = .agg (BatW.batArr rj (.slice A1 rj.recs.length k1)) from rfl]
      go_wp2_with (refine wpList_store_mid rfl 58 _ _ rfl w.heap.size (j * 7) (BatW.batArr rj (.slice A1 rj.recs.length k1)) rfl rfl ?ht BatW.info40 (BatW.batArr_one _ _ rfl) ?_; case ht => exact M2.out)
      go_roundw
      case rel => exact ⟨j + 1, _, _, by omega, by go_num, S1.out⟩
      case measure => simp [intOf]; omega
    · have : j = n := by omega
      subst this
      go_wp2
      go_ret
      exact ⟨F, P, rfl, HR⟩

theorem toBatchS_own (v : Value) (ts : List Bat) (w : World) (lo b : Nat) (hv : BatsAt w lo b v ts) (hb : b ≤ w.heap.size) (hl : ts.length ≤ 1048576) (hf : ∀ i, i < ts.length → FewB (ts.getD i default)) :
    Calls Try.prog 79 #[v] w fun e w' => ∃ v', e = .returned v' ∧ OwnB w' (seg w.heap.size w'.heap.size) v' ts ∧ Below w.heap.size w w' := by
  obtain ⟨H, ⟨hn, A, c, rfl, h⟩, hh⟩ := hv
  by_cases hz : ts.length = 0
  · have : ts = [] := List.length_eq_zero_iff.1 hz
    subst this
    refine (Bats.toBatchS_none A c w).mono fun e w' ⟨v', a1, ⟨A', c', a2⟩, a3⟩ => ⟨v', a1, ?_, a3⟩
    rw [a2]
    exact LOwn.nil _ _ _ _
  obtain ⟨g, o, rfl, hg, hc, hcell, _⟩ := h.resolve_left hz
  exact (toBatchS_core g o ts.length c b lo ts H w hl hc (by omega) hb hf hh hcell).mono fun e w' ⟨F, P, a1, a2⟩ => ⟨_, a1, a2.own hl, a2.bel⟩

set_option maxHeartbeats 400000 in
theorem toSegment_own (v : Value) (t : Sg) (w : World) (lo b : Nat) (hv : SegAt w lo b v t) (hb : b ≤ w.heap.size) (hf : FewS t) :
    Calls Try.prog 52 #[v] w fun e w' => ∃ bv, e = .returned (segVal t bv) ∧ OwnB w' (seg w.heap.size w'.heap.size) bv t.bats ∧ Below w.heap.size w w' := by
  obtain ⟨hv, rfl, hh⟩ := hv
  have HH := Seg.hid hh
  obtain ⟨H, ⟨hn, A, c, hve, _⟩, _⟩ := id hh
  clear hh
  unfold segVal
  subst hve
  go_enter Try.func52, Try.ntmps52
  go_wp2_with fail
  refine (toBatchS_own _ t.bats (((w.alloc _).alloc _).alloc _) lo b (HH.out.below ((below3 w _ _ _).mono hb)) (by rw [hsz, hsz, hsz]; omega) hf.1 hf.2).mono ?_
  rintro e w1 ⟨v', rfl, hh1, b1⟩
  have B1 := Seg.hid (chain (below3 w _ _ _) b1)
  have T1 := (b1.block (w.heap.size + 1) (by rw [hsz, hsz, hsz]; omega)).trans (at3 w _ _ _)
  have T2 := (b1.block (w.heap.size + 1 + 1) (by rw [hsz, hsz, hsz]; omega)).trans (Cells.at3' w _ _ _)
  have HH1 := Seg.hid hh1
  obtain ⟨A', c', hve⟩ := LOwn.form hh1
  clear hh1 b1
  subst hve
  have cN := cell_of_row w1 (w.heap.size + 1 + 1) 1 _ _ _ T2
  have zN := frozen_of_row w1 (w.heap.size + 1 + 1) 1 _ _ T2
  have H3 : Hid ((w1.setCell ⟨w.heap.size + 1 + 1, 1, none⟩ (.slice A' t.bats.length c')).heap[w.heap.size + 1 + 1]? = some (.cells (segArr t (.slice A' t.bats.length c')) 55 (0, 0))) := heap_setCell_same w1 (w.heap.size + 1 + 1) 1 _ _ (.slice A' t.bats.length c') T2
  have T4 := (heap_setCell_other w1 ⟨w.heap.size + 1 + 1, 1, none⟩ (w.heap.size + 1) (.slice A' t.bats.length c') (by simp)).trans T1
  have H5 := Seg.hid (Cells.there_of T4)
  have H4 := Seg.hid (Cells.whole (vs := segArr t (.slice A' t.bats.length c')) T4 rfl)
  have B2 := Seg.hid (Cells.below_setCells (g := w.heap.size + 1) (by omega) (segArr t (.slice A' t.bats.length c')).toList 0 _ _ (B1.out.setCell (p := ⟨w.heap.size + 1 + 1, 1, none⟩) (by simp; omega) (.slice A' t.bats.length c')))
  have HF : Hid (OwnB ((w1.setCell ⟨w.heap.size + 1 + 1, 1, none⟩ (.slice A' t.bats.length c')).setCells (w.heap.size + 1) 0 (segArr t (.slice A' t.bats.length c')).toList) (seg w.heap.size ((w1.setCell ⟨w.heap.size + 1 + 1, 1, none⟩ (.slice A' t.bats.length c')).setCells (w.heap.size + 1) 0 (segArr t (.slice A' t.bats.length c')).toList).heap.size) (.slice A' t.bats.length c') t.bats) := by
    refine (LOwn.keep keepsB HH1.out (by rw [Cells.size_setCells]; simp) (fun g h1 => ?_)).mono (fun x hx => ?_)
    · have := h1.1
      rw [hsz, hsz, hsz] at this
      rw [Cells.heap_setCells_other _ _ (by omega), heap_setCell_other _ _ _ _ (by show _ ≠ w.heap.size + 1 + 1; omega)]
    · obtain ⟨x1, x2⟩ := hx
      rw [hsz, hsz, hsz] at x1
      refine ⟨by omega, ?_⟩
      rw [Cells.size_setCells]
      simpa using x2
  clear T1 T2 T4
  simp at cN
  go_wp2_with (first | (refine wpList_load_row rfl 55 _ rfl (w.heap.size + 1 + 1) rfl _ _ _ _ H3.out Try.underlying55 rfl infoN ?_) | (refine wpList_store_mid rfl 55 _ _ rfl (w.heap.size + 1) 0 (segArr t (.slice A' t.bats.length c')) rfl rfl H5.out infoN (segArr_one _ _ rfl) ?_))
  exact bodyPost_ret (v := segVal t (.slice A' t.bats.length c')) (results_cell_row rfl _ _ (w.heap.size + 1) _ _ _ _ rfl H4.out Try.underlying55 rfl infoN) rfl ⟨_, rfl, HF.out, B2.out⟩
end Go.Proofs.Yticihnoekffelaa.Ft
namespace Go.Proofs.Yticihnoekffelaa.Ft
set_option maxRecDepth 8000
open Go.RowKit
open Recs
open ToO (MineC)
open Bats (BatsAt)
open SegW
open Segs (SegsAt segsCells)
open LogW
set_option linter.unusedVariables false
def ES (w : World) (S : Nat → Prop) (f : Nat → Value) (t : Sg) : Prop := f 0 = .int .i64 t.base ∧ OwnB w S (f 1) t.bats
def OwnS (w : World) (S : Nat → Prop) (v : Value) (ts : List Sg) : Prop := LOwn 55 2 ES w S v ts
theorem keepsS : Keeps 2 ES := fun w w' S f f' t h hs hk hf => by
  obtain ⟨h0, h1⟩ := h
  refine ⟨by rw [hf 0 (by omega)]; exact h0, ?_⟩
  rw [hf 1 (by omega)]
  exact LOwn.keep keepsB h1 hs hk
theorem segs_of {w : World} {S : Nat → Prop} {v : Value} {ts : List Sg} {lo b : Nat} (h : OwnS w S v ts) (hS : ∀ x, S x → lo ≤ x ∧ x < b) : SegsAt w lo b v ts := by
  obtain ⟨F, P, hr, he⟩ := row_of h hS
  refine ⟨fun i => F (i * 2 + 1), row_eqf hr fun i hi j hj => ?_, fun i hi => bats_of (he i hi).1.2 (he i hi).2⟩
  obtain ⟨⟨e0, _⟩, _⟩ := he i hi
  match j, hj with
  | 0, _ => exact e0
  | 1, _ => rfl

set_option maxHeartbeats 800000 in
theorem toSegmentS_core (g o n c b lo : Nat) (ts : List Sg) (H : Nat → Value) (w : World) (hn : n ≤ 1048576) (hc : n ≤ c) (hg : g < w.heap.size) (hb : b ≤ w.heap.size)
    (hf : ∀ i, i < n → FewS (ts.getD i default)) (hh : ∀ i, i < n → BatsAt w lo b (H i) (ts.getD i default).bats)
    (ha : ∀ i, i < n → ∀ j, j < 2 → w.cell? ⟨g, o + i * 2 + j, none⟩ = some (segsCells ts H i j)) :
    Calls Try.prog 25 #[.slice (some ⟨g, o, none⟩) n c] w fun e w' => ∃ F P, e = .returned (.slice (some ⟨w.heap.size, 0, none⟩) n n) ∧ LPart 55 2 ES w w' n F P ts n := by
  obtain ⟨i0, hi, hz0, hz1, hz2⟩ := info_parts Segs.info6
  have HA := Seg.hid ha; have HK := Seg.hid hf; have HH := Seg.hid hh
  clear ha hf hh
  go_enter Try.func25, Try.ntmps25
  go_wp2_with (at_make; refine wpList_make_full _ rfl _ _ 26 rfl w.heap.size 55 i0 _ 2 Try.underlying26 hi hz0 hz1 .i64 .i64 _ _ n rfl rfl rfl rfl (by rw [hz2]; omega) (by unfold maxLen; omega) (Nat.le_refl _) ?_; intro w1 hown hgr)
  have hb1 := (Below.refl w.heap.size w).grown hgr (Nat.le_refl _) (fun k hk => by cases hk)
  have HM := Seg.hid (Mine.of_made hown hown.1)
  have HB := Seg.hid hb1
  clear hown hgr hb1 hi hz0 hz1 hz2
  go_loopw [4] (fun i wr => ∃ (j : Nat) (F : Nat → Value) (P : Nat → Nat → Prop), j ≤ n ∧ i = .int .i64 j ∧ LPart 55 2 ES w wr n F P ts j) (fun i _ => n - (intOf i).toNat)
  case atStart => exact ⟨0, _, fun _ _ => False, Nat.zero_le _, rfl, HM.out, HB.out, fun i hi => absurd hi (by omega), fun i hi => absurd hi (by omega), fun i j hi => absurd hi (by omega)⟩
  case round =>
    clear HM HB
    obtain ⟨j, F, P, hj, rfl, HR⟩ := hrel
    by_cases hlt : j < n
    · obtain ⟨c0, c1⟩ := Segs.six (Segs.six' HA.out HR.bel hg) j hlt
      have RA : Hid (SegAt wr lo b (.agg #[.int .i64 (ts.getD j default).base, H j]) (ts.getD j default)) := ⟨_, rfl, (HH.out j hlt).below (HR.bel.mono hb)⟩
      have FW := Seg.hid (HK.out j hlt)
      have hbr : b ≤ wr.heap.size := Nat.le_trans hb HR.bel.size
      have ST : Hid (∀ w1 hv, Below wr.heap.size wr w1 → OwnB w1 (seg wr.heap.size w1.heap.size) hv (ts.getD j default).bats → LPart 55 2 ES w (w1.setCells w.heap.size (j * 2) (segArr (ts.getD j default) hv).toList) n (Own.upd F (j * 2) (segArr (ts.getD j default) hv).toList) (fun i => if i = j then seg wr.heap.size w1.heap.size else P i) ts (j + 1)) := fun w1 hv b1 ho => by
        have hcell : ∀ q, q < 2 → Own.upd F (j * 2) (segArr (ts.getD j default) hv).toList (j * 2 + q) = (segArr (ts.getD j default) hv).toList.getD q default := fun q hq => Own.upd_in (by simp [segArr]; omega)
        refine LPart.push keepsS HR (by simp [segArr]) b1 (fun x hx => hx) ⟨?_, ?_⟩
        · show Own.upd _ _ _ _ = _; rw [hcell 0 (by omega)]; rfl
        · show OwnB _ _ (Own.upd _ _ _ _) _
          rw [hcell 1 (by omega)]
          show OwnB _ _ hv _
          have hl := HR.mine.lt
          exact LOwn.keep keepsB ho (by rw [Cells.size_setCells]; exact Nat.le_refl _) (fun g hg => Cells.heap_setCells_other _ _ (by have := hg.1; omega))
      have HM := Seg.hid HR.mine
      have h0 : (0 : Int) ≤ (j : Int) := by omega
      have h1 : (j : Int) < (n : Int) := by omega
      clear HR
      generalize ts.getD j default = rj at *
      go_wp2_with fail
      refine (toSegment_own _ rj wr lo b RA.out hbr FW.out).mono ?_
      rintro e w1 ⟨hv1, rfl, ho1, b1⟩
      have S1 := Seg.hid (ST.out w1 hv1 b1 ho1)
      have M1 := Seg.hid (Own.mine_there (o := j * 2) (m := 2) (HM.out.below b1 HM.out.lt) (by omega))
      obtain ⟨A1, k1, rfl⟩ := LOwn.form ho1
      clear b1 ho1
      have M2 : Hid (w1.there w.heap.size (j * 2) (segArr rj (.slice A1 rj.bats.length k1)).size) := M1.out
      clear M1
      rw [show segVal rj (.slice A1 rj.bats.length k1) = .agg (segArr rj (.slice A1 rj.bats.length k1)) from rfl]
      go_wp2_with (refine wpList_store_mid rfl 55 _ _ rfl w.heap.size (j * 2) (segArr rj (.slice A1 rj.bats.length k1)) rfl rfl ?ht infoN (segArr_one _ _ rfl) ?_; case ht => exact M2.out)
      go_roundw
      case rel => exact ⟨j + 1, _, _, by omega, by go_num, S1.out⟩
      case measure => simp [intOf]; omega
    · have : j = n := by omega
      subst this
      go_wp2
      go_ret
      exact ⟨F, P, rfl, HR⟩

theorem toSegmentS_own (v : Value) (ts : List Sg) (w : World) (lo b : Nat) (hv : SegsAt w lo b v ts) (hb : b ≤ w.heap.size) (hl : ts.length ≤ 1048576) (hf : ∀ i, i < ts.length → FewS (ts.getD i default)) :
    Calls Try.prog 25 #[v] w fun e w' => ∃ v', e = .returned v' ∧ OwnS w' (seg w.heap.size w'.heap.size) v' ts ∧ Below w.heap.size w w' := by
  obtain ⟨H, ⟨hn, A, c, rfl, h⟩, hh⟩ := hv
  by_cases hz : ts.length = 0
  · have : ts = [] := List.length_eq_zero_iff.1 hz
    subst this
    refine (Segs.toSegmentS_none A c w).mono fun e w' ⟨v', a1, ⟨A', c', a2⟩, a3⟩ => ⟨v', a1, ?_, a3⟩
    rw [a2]
    exact LOwn.nil _ _ _ _
  obtain ⟨g, o, rfl, hg, hc, hcell, _⟩ := h.resolve_left hz
  exact (toSegmentS_core g o ts.length c b lo ts H w hl hc (by omega) hb hf hh hcell).mono fun e w' ⟨F, P, a1, a2⟩ => ⟨_, a1, a2.own hl, a2.bel⟩

set_option maxHeartbeats 400000 in
theorem toLog_own (v : Value) (t : Lg) (w : World) (lo b : Nat) (hv : LogAt w lo b v t) (hb : b ≤ w.heap.size) (hf : FewL t) :
    Calls Try.prog 7 #[v] w fun e w' => ∃ sv, e = .returned (logVal t sv) ∧ OwnS w' (seg w.heap.size w'.heap.size) sv t.segs ∧ Below w.heap.size w w' := by
  obtain ⟨hv, rfl, hh⟩ := hv
  have HH := Seg.hid hh
  obtain ⟨H, ⟨hn, A, c, hve, _⟩, _⟩ := id hh
  clear hh
  unfold logVal
  subst hve
  go_enter Try.func7, Try.ntmps7
  go_wp2_with fail
  refine (toSegmentS_own _ t.segs (((w.alloc _).alloc _).alloc _) lo b (HH.out.below ((below3 w _ _ _).mono hb)) (by rw [hsz, hsz, hsz]; omega) hf.1.1 hf.1.2).mono ?_
  rintro e w1 ⟨v', rfl, hh1, b1⟩
  have B1 := Seg.hid (chain (below3 w _ _ _) b1)
  have T1 := (b1.block (w.heap.size + 1) (by rw [hsz, hsz, hsz]; omega)).trans (at3 w _ _ _)
  have T2 := (b1.block (w.heap.size + 1 + 1) (by rw [hsz, hsz, hsz]; omega)).trans (Cells.at3' w _ _ _)
  have HH1 := Seg.hid hh1
  obtain ⟨A', c', hve⟩ := LOwn.form hh1
  clear hh1 b1
  subst hve
  have cN := cell_of_row w1 (w.heap.size + 1 + 1) 3 _ _ _ T2
  have zN := frozen_of_row w1 (w.heap.size + 1 + 1) 3 _ _ T2
  have H3 : Hid ((w1.setCell ⟨w.heap.size + 1 + 1, 3, none⟩ (.slice A' t.segs.length c')).heap[w.heap.size + 1 + 1]? = some (.cells (logArr t (.slice A' t.segs.length c')) 28 (0, 0))) := heap_setCell_same w1 (w.heap.size + 1 + 1) 3 _ _ (.slice A' t.segs.length c') T2
  have T4 := (heap_setCell_other w1 ⟨w.heap.size + 1 + 1, 3, none⟩ (w.heap.size + 1) (.slice A' t.segs.length c') (by simp)).trans T1
  have H5 := Seg.hid (Cells.there_of T4)
  have H4 := Seg.hid (Cells.whole (vs := logArr t (.slice A' t.segs.length c')) T4 rfl)
  have B2 := Seg.hid (Cells.below_setCells (g := w.heap.size + 1) (by omega) (logArr t (.slice A' t.segs.length c')).toList 0 _ _ (B1.out.setCell (p := ⟨w.heap.size + 1 + 1, 3, none⟩) (by simp; omega) (.slice A' t.segs.length c')))
  have HF : Hid (OwnS ((w1.setCell ⟨w.heap.size + 1 + 1, 3, none⟩ (.slice A' t.segs.length c')).setCells (w.heap.size + 1) 0 (logArr t (.slice A' t.segs.length c')).toList) (seg w.heap.size ((w1.setCell ⟨w.heap.size + 1 + 1, 3, none⟩ (.slice A' t.segs.length c')).setCells (w.heap.size + 1) 0 (logArr t (.slice A' t.segs.length c')).toList).heap.size) (.slice A' t.segs.length c') t.segs) := by
    refine (LOwn.keep keepsS HH1.out (by rw [Cells.size_setCells]; simp) (fun g h1 => ?_)).mono (fun x hx => ?_)
    · have := h1.1
      rw [hsz, hsz, hsz] at this
      rw [Cells.heap_setCells_other _ _ (by omega), heap_setCell_other _ _ _ _ (by show _ ≠ w.heap.size + 1 + 1; omega)]
    · obtain ⟨x1, x2⟩ := hx
      rw [hsz, hsz, hsz] at x1
      refine ⟨by omega, ?_⟩
      rw [Cells.size_setCells]
      simpa using x2
  clear T1 T2 T4
  simp at cN
  go_wp2_with (first | (refine wpList_load_row rfl 28 _ rfl (w.heap.size + 1 + 1) rfl _ _ _ _ H3.out Try.underlying28 rfl LogW.infoN ?_) | (refine wpList_store_mid rfl 28 _ _ rfl (w.heap.size + 1) 0 (logArr t (.slice A' t.segs.length c')) rfl rfl H5.out LogW.infoN (LogW.logArr_one _ _ rfl) ?_))
  exact bodyPost_ret (v := logVal t (.slice A' t.segs.length c')) (results_cell_row rfl _ _ (w.heap.size + 1) _ _ _ _ rfl H4.out Try.underlying28 rfl LogW.infoN) rfl ⟨_, rfl, HF.out, B2.out⟩
end Go.Proofs.Yticihnoekffelaa.Ft
namespace Go.Proofs.Yticihnoekffelaa.Ft
set_option maxRecDepth 8000
open Go.RowKit
open Recs
open Bats SegW Segs LogW
open LgP (logOk inR)
set_option linter.unusedVariables false
theorem row_drop {w : World} {lo b s n c k g o : Nat} {f : Nat → Nat → Value} (h : Row w lo b s (.slice (some ⟨g, o, none⟩) n c) n f) (hk : k < n) : Row w lo b s (.slice (some ⟨g, o + k * s, none⟩) (n - k) (c - k)) (n - k) (fun i j => f (k + i) j) := by
  obtain ⟨h0, A, c', h1, h2⟩ := h
  simp only [Value.slice.injEq] at h1
  obtain ⟨rfl, _, rfl⟩ := h1
  obtain ⟨g', o', h3, h4, h5, h6, h7⟩ := h2.resolve_left (by omega)
  simp only [Option.some.injEq, Addr.mk.injEq] at h3
  obtain ⟨rfl, rfl, _⟩ := h3
  refine ⟨by omega, _, _, rfl, .inr ⟨g, o + k * s, rfl, h4, by omega, fun i hi j hj => ?_, h7⟩⟩
  rw [show o + k * s + i * s + j = o + (k + i) * s + j by rw [Nat.add_mul]; omega]
  exact h6 (k + i) (by omega) j hj
theorem row_take {w : World} {lo b s n c k : Nat} {A : Option Addr} {f : Nat → Nat → Value} (h : Row w lo b s (.slice A n c) n f) (hk : k ≤ n) : Row w lo b s (.slice A k c) k f := by
  obtain ⟨h0, A', c', h1, h2⟩ := h
  simp only [Value.slice.injEq] at h1
  obtain ⟨rfl, _, rfl⟩ := h1
  refine ⟨by omega, _, _, rfl, ?_⟩
  by_cases hz : k = 0
  · exact .inl hz
  obtain ⟨g', o', h3, h4, h5, h6, h7⟩ := h2.resolve_left (by omega)
  exact .inr ⟨g', o', h3, h4, by omega, fun i hi j hj => h6 i (by omega) j hj, h7⟩
theorem getD_drop {T : Type} [Inhabited T] (l : List T) (k i : Nat) : (l.drop k).getD i default = l.getD (k + i) default := by
  rw [List.getD_eq_getElem?_getD, List.getElem?_drop, ← List.getD_eq_getElem?_getD]
theorem getD_take {T : Type} [Inhabited T] (l : List T) (k i : Nat) (h : i < k) : (l.take k).getD i default = l.getD i default := by
  rw [List.getD_eq_getElem?_getD, List.getElem?_take_of_lt h, ← List.getD_eq_getElem?_getD]
theorem segs_drop {w : World} {lo b c k g o : Nat} {ss : List Sg} (h : SegsAt w lo b (.slice (some ⟨g, o, none⟩) ss.length c) ss) (hk : k < ss.length) : SegsAt w lo b (.slice (some ⟨g, o + k * 2, none⟩) (ss.length - k) (c - k)) (ss.drop k) := by
  obtain ⟨H, h1, h2⟩ := h
  refine ⟨fun i => H (k + i), ?_, fun i hi => ?_⟩
  · rw [List.length_drop]
    exact row_eqf (row_drop h1 hk) fun i hi j hj => by simp only [segsCells, getD_drop]
  · rw [getD_drop]
    rw [List.length_drop] at hi
    exact h2 (k + i) (by omega)
theorem segs_nil {w : World} {lo b : Nat} {A : Option Addr} {c : Nat} : SegsAt w lo b (.slice A 0 c) [] := ⟨fun _ => default, ⟨by simp, A, c, rfl, .inl rfl⟩, fun i hi => absurd hi (by simp)⟩
theorem segs_take {w : World} {lo b c k : Nat} {A : Option Addr} {ss : List Sg} (h : SegsAt w lo b (.slice A ss.length c) ss) (hk : k ≤ ss.length) : SegsAt w lo b (.slice A k c) (ss.take k) := by
  obtain ⟨H, h1, h2⟩ := h
  have hl : (ss.take k).length = k := by rw [List.length_take]; omega
  refine ⟨H, ?_, fun i hi => ?_⟩
  · rw [hl]
    exact row_eqf (row_take h1 hk) fun i hi j hj => by simp only [segsCells, getD_take ss k i hi]
  · rw [hl] at hi
    rw [getD_take ss k i hi]
    exact h2 i (by omega)
theorem ok_parts {l : Lg} (h : logOk l = true) : ∃ f, LgP.segs 0 0 l.segs = some f ∧ f ≤ l.next ∧ l.segs.length ≤ 60 ∧ 0 ≤ l.start ∧ l.start ≤ l.next ∧ l.next ≤ 1000000000 := by
  unfold LgP.logOk LgP.bounds LgP.counts LgP.stands at h
  simp only [Bool.and_eq_true, decide_eq_true_eq, inR] at h
  obtain ⟨⟨⟨a1, a2⟩, ⟨a3, a4⟩, a5⟩, ⟨a6, a7⟩, a8⟩ := h
  cases hs : LgP.segs 0 0 l.segs with
  | none => rw [hs] at a8; cases a8
  | some f =>
    rw [hs] at a8
    exact ⟨f, rfl, by simpa using a8, a6, a3, a4, a2⟩
theorem addOff (g o k : Nat) : (⟨g, o, none⟩ : Addr).add k = ⟨g, o + k, none⟩ := by unfold Addr.add; split <;> simp_all
theorem okAllB : ∀ (l : List Bat) (f e f' e' : Int), LgP.bats f e l = some (f', e') → ∀ i, i < l.length → BOk.batOk (l.getD i default) = true
  | [], _, _, _, _, _, i, hi => by simp at hi
  | b :: t, f, e, f', e', h, i, hi => by
    unfold LgP.bats at h
    split at h
    · rename_i hc
      match i with
      | 0 => exact hc.1
      | i + 1 =>
        rw [List.getD_cons_succ]
        exact okAllB t _ _ _ _ h i (by simpa using hi)
    · cases h
theorem okAllS' : ∀ (ss : List Sg) (f e f' : Int), LgP.segs f e ss = some f' → ∀ i, i < ss.length → ∀ k, k < (ss.getD i default).bats.length → BOk.batOk ((ss.getD i default).bats.getD k default) = true
  | [], _, _, _, _, i, hi, _, _ => by simp at hi
  | s :: t, f, e, f', h, i, hi, k, hk => by
    unfold LgP.segs at h
    split at h
    · cases hb : LgP.bats s.base e s.bats with
      | none => rw [hb] at h; cases h
      | some p =>
        rw [hb] at h
        match i with
        | 0 => exact okAllB _ _ _ p.1 p.2 hb k (by simpa using hk)
        | i + 1 =>
          rw [List.getD_cons_succ] at hk ⊢
          exact okAllS' t _ _ _ h i (by simpa using hi) k hk
    · cases h
theorem okAllS {ss : List Sg} {f : Int} (h : LgP.segs 0 0 ss = some f) : ∀ i, i < ss.length → ∀ k, k < (ss.getD i default).bats.length → BOk.batOk ((ss.getD i default).bats.getD k default) = true := okAllS' ss 0 0 f h
end Go.Proofs.Yticihnoekffelaa.Ft
