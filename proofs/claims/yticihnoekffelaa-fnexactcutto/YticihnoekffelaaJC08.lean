/- Heads, Records and Batches in lists of the call's own, by the set of their blocks; the law's copier of a list of Batches; The law's marks on lists of Heads, Records, Batches of the call's own. -/
import Derived.Test.YticihnoekffelaaJC06
import Derived.Test.YticihnoekffelaaJC07
namespace Go.Proofs.Yticihnoekffelaa.Ft
set_option maxRecDepth 8000
open Go.RowKit
open Recs
open ToO (MineC HOwn ROwn)
open Bats (BatsAt batsCells)
open SegW
set_option linter.unusedVariables false

def EH (w : World) (S : Nat → Prop) (f : Nat → Value) (h : Hd) : Prop := f 0 = .string h.key ∧ f 1 = .string h.val
def OwnH (w : World) (S : Nat → Prop) (v : Value) (hs : List Hd) : Prop := LOwn 116 2 EH w S v hs
def ER (w : World) (S : Nat → Prop) (f : Nat → Value) (r : Rec) : Prop := (f 0 = .int .i64 r.time ∧ f 1 = .bool r.keyed ∧ f 2 = .string r.key ∧ f 3 = .bool r.gone ∧ f 4 = .string r.val) ∧ OwnH w S (f 5) r.heads
def OwnR (w : World) (S : Nat → Prop) (v : Value) (rs : List Rec) : Prop := LOwn 88 6 ER w S v rs
def EB (w : World) (S : Nat → Prop) (f : Nat → Value) (t : Bat) : Prop := (f 0 = .int .i64 t.base ∧ f 1 = .int .i64 t.epoch ∧ f 2 = .int .i64 t.producer ∧ f 3 = .int .i64 t.turn ∧ f 4 = .int .i64 t.seq ∧ f 5 = .int .i64 t.flags) ∧ OwnR w S (f 6) t.recs
def OwnB (w : World) (S : Nat → Prop) (v : Value) (ts : List Bat) : Prop := LOwn 58 7 EB w S v ts
theorem keepsH : Keeps 2 EH := fun w w' S f f' t h hs hk hf => by
  obtain ⟨h0, h1⟩ := h
  exact ⟨by rw [hf 0 (by omega)]; exact h0, by rw [hf 1 (by omega)]; exact h1⟩
theorem keepsR : Keeps 6 ER := fun w w' S f f' t h hs hk hf => by
  obtain ⟨⟨h0, h1, h2, h3, h4⟩, h5⟩ := h
  refine ⟨⟨by rw [hf 0 (by omega)]; exact h0, by rw [hf 1 (by omega)]; exact h1, by rw [hf 2 (by omega)]; exact h2, by rw [hf 3 (by omega)]; exact h3, by rw [hf 4 (by omega)]; exact h4⟩, ?_⟩
  rw [hf 5 (by omega)]
  exact LOwn.keep keepsH h5 hs hk
theorem keepsB : Keeps 7 EB := fun w w' S f f' t h hs hk hf => by
  obtain ⟨⟨h0, h1, h2, h3, h4, h5⟩, h6⟩ := h
  refine ⟨⟨by rw [hf 0 (by omega)]; exact h0, by rw [hf 1 (by omega)]; exact h1, by rw [hf 2 (by omega)]; exact h2, by rw [hf 3 (by omega)]; exact h3, by rw [hf 4 (by omega)]; exact h4, by rw [hf 5 (by omega)]; exact h5⟩, ?_⟩
  rw [hf 6 (by omega)]
  exact LOwn.keep keepsR h6 hs hk
/-- The set of all blocks from lo on, below b. -/
def seg (lo b : Nat) (x : Nat) : Prop := lo ≤ x ∧ x < b
theorem rows_eq {w : World} {lo b s n g c ty : Nat} {F : Nat → Value} {f : Nat → Nat → Value} (h : Row w lo b s (.slice (some ⟨g, 0, none⟩) n c) n f) (hM : MineC w ty s g n c F) (i : Nat) (hi : i < n) (j : Nat) (hj : j < s) : F (i * s + j) = f i j := by
  obtain ⟨hn, A, c', h1, h2⟩ := h
  obtain ⟨g', o, h3, h4, h5, h6, h7⟩ := h2.resolve_left (by omega)
  simp only [Value.slice.injEq] at h1
  obtain ⟨rfl, _, rfl⟩ := h1
  simp only [Option.some.injEq, Addr.mk.injEq] at h3
  obtain ⟨rfl, rfl, _⟩ := h3
  have hq : i * s + j < n * s := by
    have : (i + 1) * s ≤ n * s := Nat.mul_le_mul_right s hi
    rw [Nat.succ_mul] at this
    omega
  have a1 := hM.cell (i * s + j) hq
  have a2 := h6 i hi j hj
  rw [Nat.zero_add, a1] at a2
  exact Option.some.inj a2
theorem own_heads {w : World} {lo b lo' b' : Nat} {v : Value} {hs : List Hd} (h : Heads w lo b v hs) (ho : HOwn w lo' b' v hs.length) : OwnH w (seg lo' b') v hs := by
  obtain ⟨h0, A, c, rfl, h2⟩ := ho
  refine ⟨h0, A, c, rfl, h2.imp id ?_⟩
  rintro ⟨g, F, rfl, h3, h4, h5⟩
  refine ⟨g, F, fun _ _ => False, rfl, ⟨h3, h4⟩, fun _ _ _ hx => hx.elim, h5, rfl, fun i hi => ⟨?_, ?_⟩, fun _ _ _ hx => hx.elim, fun _ _ _ _ _ _ hx => hx.elim⟩
  · exact rows_eq h h5 i hi 0 (by omega)
  · exact rows_eq h h5 i hi 1 (by omega)
theorem own_recs {w : World} {lo b lo' hi : Nat} {v : Value} {rs : List Rec} (h : RecsAt w lo b v rs) (ho : ROwn w lo' hi v rs.length (fun i => (rs.getD i default).heads.length)) : OwnR w (seg lo' hi) v rs := by
  obtain ⟨H, hr, hh⟩ := h
  refine ⟨ho.le, ?_⟩
  rcases ho.own with ⟨A, c, rfl, h2⟩ | ⟨g, c, F, m, rfl, h1, h2, h3, h4, h5, h6⟩
  · exact ⟨A, c, by rw [h2], .inl h2⟩
  have wl := ToO.win_le h4
  have hm0 := wl 0 rs.length (by omega) (Nat.le_refl _)
  refine ⟨_, c, rfl, .inr ⟨g, F, fun i => seg (m i) (m (i + 1)), rfl, ⟨h1, by omega⟩, fun i hi x hx => ?_, h2, rfl, fun i hi => ⟨⟨?_, ?_, ?_, ?_, ?_⟩, ?_⟩, fun i hi x hx => ?_, fun i j hi hj hij x hx hx' => ?_⟩⟩
  · have a1 := wl 0 i (by omega) (by omega)
    have a2 := wl (i + 1) rs.length (by omega) (Nat.le_refl _)
    obtain ⟨x1, x2⟩ := hx
    exact ⟨by omega, by omega⟩
  · exact rows_eq hr h2 i hi 0 (by omega)
  · exact rows_eq hr h2 i hi 1 (by omega)
  · exact rows_eq hr h2 i hi 2 (by omega)
  · exact rows_eq hr h2 i hi 3 (by omega)
  · exact rows_eq hr h2 i hi 4 (by omega)
  · have e : F (i * 6 + 5) = H i := rows_eq hr h2 i hi 5 (by omega)
    have hh' := hh i hi
    rw [← e] at hh'
    exact own_heads hh' (h6 i hi)
  · have a1 := wl 0 i (by omega) (by omega)
    have a2 := wl (i + 1) rs.length (by omega) (Nat.le_refl _)
    have := ho.hi_le
    obtain ⟨x1, x2⟩ := hx
    exact ⟨by omega, by omega⟩
  · obtain ⟨x1, x2⟩ := hx
    obtain ⟨y1, y2⟩ := hx'
    by_cases hc : i < j
    · have := wl (i + 1) j (by omega) (by omega); omega
    · have := wl (j + 1) i (by omega) (by omega); omega
theorem row_of {T : Type} [Inhabited T] {EO : World → (Nat → Prop) → (Nat → Value) → T → Prop} {w : World} {ty s : Nat} {S : Nat → Prop} {v : Value} {us : List T} (h : LOwn ty s EO w S v us) {lo b : Nat} (hS : ∀ x, S x → lo ≤ x ∧ x < b) :
    ∃ (F : Nat → Value) (P : Nat → Nat → Prop), Row w lo b s v us.length (fun i j => F (i * s + j)) ∧ ∀ i, i < us.length → EO w (P i) (fun q => F (i * s + q)) (us.getD i default) ∧ ∀ x, P i x → lo ≤ x ∧ x < b := by
  obtain ⟨h0, A, c, rfl, h2⟩ := h
  by_cases hz : us.length = 0
  · exact ⟨fun _ => default, fun _ _ => False, ⟨by omega, A, c, rfl, .inl hz⟩, fun i hi => absurd hi (by omega)⟩
  obtain ⟨g, F, P, rfl, h3, h4, h5⟩ := h2.resolve_left hz
  refine ⟨F, P, ⟨by omega, _, c, rfl, .inr ⟨g, 0, rfl, (hS g h3).2, h5.mine.le, fun i hi j hj => ?_, (hS g h3).1⟩⟩, fun i hi => ⟨h5.el i hi, fun x hx => hS x (h4 i hi x hx)⟩⟩
  have hq : i * s + j < us.length * s := by
    have : (i + 1) * s ≤ us.length * s := Nat.mul_le_mul_right s hi
    rw [Nat.succ_mul] at this
    omega
  rw [Nat.zero_add]
  exact h5.mine.cell _ hq
theorem row_eqf {w : World} {lo b s n : Nat} {v : Value} {f f' : Nat → Nat → Value} (h : Row w lo b s v n f) (he : ∀ i, i < n → ∀ j, j < s → f i j = f' i j) : Row w lo b s v n f' := by
  obtain ⟨h0, A, c, h1, h2⟩ := h
  refine ⟨h0, A, c, h1, h2.imp id ?_⟩
  rintro ⟨g, o, h3, h4, h5, h6, h7⟩
  exact ⟨g, o, h3, h4, h5, fun i hi j hj => by rw [h6 i hi j hj, he i hi j hj], h7⟩
theorem heads_of {w : World} {S : Nat → Prop} {v : Value} {hs : List Hd} {lo b : Nat} (h : OwnH w S v hs) (hS : ∀ x, S x → lo ≤ x ∧ x < b) : Heads w lo b v hs := by
  obtain ⟨F, P, hr, he⟩ := row_of h hS
  exact row_eqf hr fun i hi j hj => by
    obtain ⟨⟨e0, e1⟩, _⟩ := he i hi
    match j, hj with
    | 0, _ => exact e0
    | 1, _ => exact e1
theorem recs_of {w : World} {S : Nat → Prop} {v : Value} {rs : List Rec} {lo b : Nat} (h : OwnR w S v rs) (hS : ∀ x, S x → lo ≤ x ∧ x < b) : RecsAt w lo b v rs := by
  obtain ⟨F, P, hr, he⟩ := row_of h hS
  refine ⟨fun i => F (i * 6 + 5), row_eqf hr fun i hi j hj => ?_, fun i hi => heads_of (he i hi).1.2 (he i hi).2⟩
  obtain ⟨⟨⟨e0, e1, e2, e3, e4⟩, _⟩, _⟩ := he i hi
  match j, hj with
  | 0, _ => exact e0
  | 1, _ => exact e1
  | 2, _ => exact e2
  | 3, _ => exact e3
  | 4, _ => exact e4
  | 5, _ => rfl
theorem bats_of {w : World} {S : Nat → Prop} {v : Value} {ts : List Bat} {lo b : Nat} (h : OwnB w S v ts) (hS : ∀ x, S x → lo ≤ x ∧ x < b) : BatsAt w lo b v ts := by
  obtain ⟨F, P, hr, he⟩ := row_of h hS
  refine ⟨fun i => F (i * 7 + 6), row_eqf hr fun i hi j hj => ?_, fun i hi => recs_of (he i hi).1.2 (he i hi).2⟩
  obtain ⟨⟨⟨e0, e1, e2, e3, e4, e5⟩, _⟩, _⟩ := he i hi
  match j, hj with
  | 0, _ => exact e0
  | 1, _ => exact e1
  | 2, _ => exact e2
  | 3, _ => exact e3
  | 4, _ => exact e4
  | 5, _ => exact e5
  | 6, _ => rfl

/-- A row of one's own that is filled one by one: m elements stand. -/
structure LPart {T : Type} [Inhabited T] (ty nf : Nat) (EO : World → (Nat → Prop) → (Nat → Value) → T → Prop) (w wr : World) (n : Nat) (F : Nat → Value) (P : Nat → Nat → Prop) (us : List T) (m : Nat) : Prop where
  mine : Mine wr ty nf w.heap.size n F
  bel : Below w.heap.size w wr
  el : ∀ i, i < m → EO wr (P i) (fun q => F (i * nf + q)) (us.getD i default)
  apart : ∀ i, i < m → ∀ x, P i x → w.heap.size < x ∧ x < wr.heap.size
  disj : ∀ i j, i < m → j < m → i ≠ j → ∀ x, P i x → ¬ P j x
theorem LPart.push {T : Type} [Inhabited T] {ty nf : Nat} {EO : World → (Nat → Prop) → (Nat → Value) → T → Prop} (hE : Keeps nf EO) {w wr w1 : World} {n m : Nat} {F : Nat → Value} {P : Nat → Nat → Prop} {us : List T} {Q : Nat → Prop} {vs : List Value} (h : LPart ty nf EO w wr n F P us m) (hv : vs.length = nf) (b1 : Below wr.heap.size wr w1)
    (hQ : ∀ x, Q x → wr.heap.size ≤ x ∧ x < w1.heap.size) (he : EO (w1.setCells w.heap.size (m * nf) vs) Q (fun q => Own.upd F (m * nf) vs (m * nf + q)) (us.getD m default)) :
    LPart ty nf EO w (w1.setCells w.heap.size (m * nf) vs) n (Own.upd F (m * nf) vs) (fun i => if i = m then Q else P i) us (m + 1) := by
  have hlt := h.mine.lt
  have keep : ∀ g, g ≠ w.heap.size → (w1.setCells w.heap.size (m * nf) vs).heap[g]? = w1.heap[g]? := fun g hg => Cells.heap_setCells_other _ _ hg
  have hsize := Cells.size_setCells (g := w.heap.size) vs (o := m * nf) w1
  have b1s := b1.size
  refine ⟨Own.mine_setCells _ _ _ _ (h.mine.below b1 hlt), Cells.below_setCells (Nat.le_refl _) _ _ _ _ (chain h.bel b1), fun i hi => ?_, fun i hi x hx => ?_, fun i j hi hj hij x hx hx' => ?_⟩
  · by_cases e : i = m
    · subst e
      rw [if_pos rfl]
      exact he
    · rw [if_neg e]
      refine hE _ _ _ _ _ _ (h.el i (by omega)) (by rw [hsize]; exact b1s) (fun g hg => ?_) (fun q hq => ?_)
      · have := h.apart i (by omega) g hg
        exact (keep g (by omega)).trans (b1.block g (by omega))
      · refine Own.upd_out (.inl ?_)
        have : (i + 1) * nf ≤ m * nf := Nat.mul_le_mul_right nf (by omega)
        rw [Nat.succ_mul] at this
        omega
  · rw [hsize]
    by_cases e : i = m
    · subst e
      rw [if_pos rfl] at hx
      have := hQ x hx
      exact ⟨by omega, by omega⟩
    · rw [if_neg e] at hx
      have := h.apart i (by omega) x hx
      exact ⟨by omega, by omega⟩
  · by_cases e : i = m
    · subst e
      rw [if_pos rfl] at hx
      rw [if_neg (Ne.symm hij)] at hx'
      have a1 := hQ x hx
      have a2 := h.apart j (by omega) x hx'
      omega
    · rw [if_neg e] at hx
      by_cases e2 : j = m
      · subst e2
        rw [if_pos rfl] at hx'
        have a1 := hQ x hx'
        have a2 := h.apart i (by omega) x hx
        omega
      · rw [if_neg e2] at hx'
        exact h.disj i j (by omega) (by omega) hij x hx hx'
theorem LPart.own {T : Type} [Inhabited T] {ty nf : Nat} {EO : World → (Nat → Prop) → (Nat → Value) → T → Prop} {w wr : World} {F : Nat → Value} {P : Nat → Nat → Prop} {us : List T} (h : LPart ty nf EO w wr us.length F P us us.length) (hn : us.length ≤ 1048576) : LOwn ty nf EO wr (seg w.heap.size wr.heap.size) (.slice (some ⟨w.heap.size, 0, none⟩) us.length us.length) us :=
  ⟨hn, _, _, rfl, .inr ⟨w.heap.size, F, P, rfl, ⟨Nat.le_refl _, h.mine.lt⟩, fun i hi x hx => ⟨by have := h.apart i hi x hx; omega, (h.apart i hi x hx).2⟩, h.mine, rfl, h.el, fun i hi x hx => ⟨by have := h.apart i hi x hx; omega, (h.apart i hi x hx).2⟩, h.disj⟩⟩

set_option maxHeartbeats 800000 in
theorem toBatchS_core (g o n c b lo : Nat) (ts : List Bat) (H : Nat → Value) (w : World) (hn : n ≤ 1048576) (hc : n ≤ c) (hg : g < w.heap.size) (hb : b ≤ w.heap.size)
    (hf : ∀ i, i < n → FewB (ts.getD i default)) (hh : ∀ i, i < n → RecsAt w lo b (H i) (ts.getD i default).recs)
    (ha : ∀ i, i < n → ∀ j, j < 7 → w.cell? ⟨g, o + i * 7 + j, none⟩ = some (batsCells ts H i j)) :
    Calls Try.prog 79 #[.slice (some ⟨g, o, none⟩) n c] w fun e w' => ∃ F P, e = .returned (.slice (some ⟨w.heap.size, 0, none⟩) n n) ∧ LPart 58 7 EB w w' n F P ts n := by
  obtain ⟨i0, hi, hz0, hz1, hz2⟩ := info_parts Bats.info6
  have HA := Seg.hid ha; have HK := Seg.hid hf; have HH := Seg.hid hh
  clear ha hf hh
  go_enter Try.func79, Try.ntmps79
  go_wp2_with (at_make; refine wpList_make_full _ rfl _ _ 40 rfl w.heap.size 58 i0 _ 7 Try.underlying40 hi hz0 hz1 .i64 .i64 _ _ n rfl rfl rfl rfl (by rw [hz2]; omega) (by unfold maxLen; omega) (Nat.le_refl _) ?_; intro w1 hown hgr)
  have hb1 := (Below.refl w.heap.size w).grown hgr (Nat.le_refl _) (fun k hk => by cases hk)
  have HM := Seg.hid (Mine.of_made hown hown.1)
  have HB := Seg.hid hb1
  clear hown hgr hb1 hi hz0 hz1 hz2
  go_loopw [4] (fun i wr => ∃ (j : Nat) (F : Nat → Value) (P : Nat → Nat → Prop), j ≤ n ∧ i = .int .i64 j ∧ LPart 58 7 EB w wr n F P ts j) (fun i _ => n - (intOf i).toNat)
  case atStart => exact ⟨0, _, fun _ _ => False, Nat.zero_le _, rfl, HM.out, HB.out, fun i hi => absurd hi (by omega), fun i hi => absurd hi (by omega), fun i j hi => absurd hi (by omega)⟩
  case round =>
    clear HM HB
    obtain ⟨j, F, P, hj, rfl, HR⟩ := hrel
    by_cases hlt : j < n
    · obtain ⟨c0, c1, c2, c3, c4, c5, c6⟩ := Bats.six (Bats.six' HA.out HR.bel hg) j hlt
      have RA : Hid (BatAt wr lo b (.agg #[.int .i64 (ts.getD j default).base, .int .i64 (ts.getD j default).epoch, .int .i64 (ts.getD j default).producer, .int .i64 (ts.getD j default).turn, .int .i64 (ts.getD j default).seq, .int .i64 (ts.getD j default).flags, H j]) (ts.getD j default)) := ⟨_, rfl, (HH.out j hlt).below (HR.bel.mono hb)⟩
      have FW := Seg.hid (HK.out j hlt)
      have hbr : b ≤ wr.heap.size := Nat.le_trans hb HR.bel.size
      have ST : Hid (∀ w1 hv, Below wr.heap.size wr w1 → OwnR w1 (seg wr.heap.size w1.heap.size) hv (ts.getD j default).recs → LPart 58 7 EB w (w1.setCells w.heap.size (j * 7) (BatW.batArr (ts.getD j default) hv).toList) n (Own.upd F (j * 7) (BatW.batArr (ts.getD j default) hv).toList) (fun i => if i = j then seg wr.heap.size w1.heap.size else P i) ts (j + 1)) := fun w1 hv b1 ho => by
        have hcell : ∀ q, q < 7 → Own.upd F (j * 7) (BatW.batArr (ts.getD j default) hv).toList (j * 7 + q) = (BatW.batArr (ts.getD j default) hv).toList.getD q default := fun q hq => Own.upd_in (by simp [BatW.batArr]; omega)
        refine LPart.push keepsB HR (by simp [BatW.batArr]) b1 (fun x hx => hx) ⟨⟨?_, ?_, ?_, ?_, ?_, ?_⟩, ?_⟩
        · show Own.upd _ _ _ _ = _; rw [hcell 0 (by omega)]; rfl
        · show Own.upd _ _ _ _ = _; rw [hcell 1 (by omega)]; rfl
        · show Own.upd _ _ _ _ = _; rw [hcell 2 (by omega)]; rfl
        · show Own.upd _ _ _ _ = _; rw [hcell 3 (by omega)]; rfl
        · show Own.upd _ _ _ _ = _; rw [hcell 4 (by omega)]; rfl
        · show Own.upd _ _ _ _ = _; rw [hcell 5 (by omega)]; rfl
        · show OwnR _ _ (Own.upd _ _ _ _) _
          rw [hcell 6 (by omega)]
          show OwnR _ _ hv _
          have hl := HR.mine.lt
          exact LOwn.keep keepsR ho (by rw [Cells.size_setCells]; exact Nat.le_refl _) (fun g hg => Cells.heap_setCells_other _ _ (by have := hg.1; omega))
      have HM := Seg.hid HR.mine
      have h0 : (0 : Int) ≤ (j : Int) := by omega
      have h1 : (j : Int) < (n : Int) := by omega
      clear HR
      generalize ts.getD j default = rj at *
      go_wp2_with fail
      refine (ToO.toBatch_own _ rj wr lo b RA.out hbr FW.out).mono ?_
      rintro e w1 ⟨hv1, rfl, hh1, ho1, b1⟩
      have S1 := Seg.hid (ST.out w1 hv1 b1 (own_recs hh1 ho1))
      have M1 := Seg.hid (Own.mine_there (o := j * 7) (m := 7) (HM.out.below b1 HM.out.lt) (by omega))
      obtain ⟨_, ⟨_, A1, k1, rfl, _⟩, _⟩ := hh1
      clear b1 ho1
      have M2 : Hid (w1.there w.heap.size (j * 7) (BatW.batArr rj (.slice A1 rj.recs.length k1)).size) := M1.out
      clear M1
      rw [show batVal rj (.slice A1 rj.recs.length k1) = .agg (BatW.batArr rj (.slice A1 rj.recs.length k1)) from rfl]
      go_wp2_with (refine wpList_store_mid rfl 58 _ _ rfl w.heap.size (j * 7) (BatW.batArr rj (.slice A1 rj.recs.length k1)) rfl rfl ?ht BatW.info40 (BatW.batArr_one _ _ rfl) ?_; case ht => exact M2.out)
      go_roundw
      case rel => exact ⟨j + 1, _, _, by omega, by go_num, S1.out⟩
      case measure => simp [intOf]; omega
    · have : j = n := by omega
      subst this
      go_wp2
      go_ret
      exact ⟨F, P, rfl, HR⟩

theorem toBatchS_own (v : Value) (ts : List Bat) (w : World) (lo b : Nat) (hv : BatsAt w lo b v ts) (hb : b ≤ w.heap.size) (hl : ts.length ≤ 1048576) (hf : ∀ i, i < ts.length → FewB (ts.getD i default)) :
    Calls Try.prog 79 #[v] w fun e w' => ∃ v', e = .returned v' ∧ OwnB w' (seg w.heap.size w'.heap.size) v' ts ∧ Below w.heap.size w w' := by
  obtain ⟨H, ⟨hn, A, c, rfl, h⟩, hh⟩ := hv
  by_cases hz : ts.length = 0
  · have : ts = [] := List.length_eq_zero_iff.1 hz
    subst this
    refine (Bats.toBatchS_none A c w).mono fun e w' ⟨v', a1, ⟨A', c', a2⟩, a3⟩ => ⟨v', a1, ?_, a3⟩
    rw [a2]
    exact LOwn.nil _ _ _ _
  obtain ⟨g, o, rfl, hg, hc, hcell, _⟩ := h.resolve_left hz
  exact (toBatchS_core g o ts.length c b lo ts H w hl hc (by omega) hb hf hh hcell).mono fun e w' ⟨F, P, a1, a2⟩ => ⟨_, a1, a2.own hl, a2.bel⟩

set_option maxHeartbeats 400000 in
theorem toSegment_own (v : Value) (t : Sg) (w : World) (lo b : Nat) (hv : SegAt w lo b v t) (hb : b ≤ w.heap.size) (hf : FewS t) :
    Calls Try.prog 52 #[v] w fun e w' => ∃ bv, e = .returned (segVal t bv) ∧ OwnB w' (seg w.heap.size w'.heap.size) bv t.bats ∧ Below w.heap.size w w' := by
  obtain ⟨hv, rfl, hh⟩ := hv
  have HH := Seg.hid hh
  obtain ⟨H, ⟨hn, A, c, hve, _⟩, _⟩ := id hh
  clear hh
  unfold segVal
  subst hve
  go_enter Try.func52, Try.ntmps52
  go_wp2_with fail
  refine (toBatchS_own _ t.bats (((w.alloc _).alloc _).alloc _) lo b (HH.out.below ((below3 w _ _ _).mono hb)) (by rw [hsz, hsz, hsz]; omega) hf.1 hf.2).mono ?_
  rintro e w1 ⟨v', rfl, hh1, b1⟩
  have B1 := Seg.hid (chain (below3 w _ _ _) b1)
  have T1 := (b1.block (w.heap.size + 1) (by rw [hsz, hsz, hsz]; omega)).trans (at3 w _ _ _)
  have T2 := (b1.block (w.heap.size + 1 + 1) (by rw [hsz, hsz, hsz]; omega)).trans (Cells.at3' w _ _ _)
  have HH1 := Seg.hid hh1
  obtain ⟨A', c', hve⟩ := LOwn.form hh1
  clear hh1 b1
  subst hve
  have cN := cell_of_row w1 (w.heap.size + 1 + 1) 1 _ _ _ T2
  have zN := frozen_of_row w1 (w.heap.size + 1 + 1) 1 _ _ T2
  have H3 : Hid ((w1.setCell ⟨w.heap.size + 1 + 1, 1, none⟩ (.slice A' t.bats.length c')).heap[w.heap.size + 1 + 1]? = some (.cells (segArr t (.slice A' t.bats.length c')) 55 (0, 0))) := heap_setCell_same w1 (w.heap.size + 1 + 1) 1 _ _ (.slice A' t.bats.length c') T2
  have T4 := (heap_setCell_other w1 ⟨w.heap.size + 1 + 1, 1, none⟩ (w.heap.size + 1) (.slice A' t.bats.length c') (by simp)).trans T1
  have H5 := Seg.hid (Cells.there_of T4)
  have H4 := Seg.hid (Cells.whole (vs := segArr t (.slice A' t.bats.length c')) T4 rfl)
  have B2 := Seg.hid (Cells.below_setCells (g := w.heap.size + 1) (by omega) (segArr t (.slice A' t.bats.length c')).toList 0 _ _ (B1.out.setCell (p := ⟨w.heap.size + 1 + 1, 1, none⟩) (by simp; omega) (.slice A' t.bats.length c')))
  have HF : Hid (OwnB ((w1.setCell ⟨w.heap.size + 1 + 1, 1, none⟩ (.slice A' t.bats.length c')).setCells (w.heap.size + 1) 0 (segArr t (.slice A' t.bats.length c')).toList) (seg w.heap.size ((w1.setCell ⟨w.heap.size + 1 + 1, 1, none⟩ (.slice A' t.bats.length c')).setCells (w.heap.size + 1) 0 (segArr t (.slice A' t.bats.length c')).toList).heap.size) (.slice A' t.bats.length c') t.bats) := by
    refine (LOwn.keep keepsB HH1.out (by rw [Cells.size_setCells]; simp) (fun g h1 => ?_)).mono (fun x hx => ?_)
    · have := h1.1
      rw [hsz, hsz, hsz] at this
      rw [Cells.heap_setCells_other _ _ (by omega), heap_setCell_other _ _ _ _ (by show _ ≠ w.heap.size + 1 + 1; omega)]
    · obtain ⟨x1, x2⟩ := hx
      rw [hsz, hsz, hsz] at x1
      refine ⟨by omega, ?_⟩
      rw [Cells.size_setCells]
      simpa using x2
  clear T1 T2 T4
  simp at cN
  go_wp2_with (first | (refine wpList_load_row rfl 55 _ rfl (w.heap.size + 1 + 1) rfl _ _ _ _ H3.out Try.underlying55 rfl infoN ?_) | (refine wpList_store_mid rfl 55 _ _ rfl (w.heap.size + 1) 0 (segArr t (.slice A' t.bats.length c')) rfl rfl H5.out infoN (segArr_one _ _ rfl) ?_))
  exact bodyPost_ret (v := segVal t (.slice A' t.bats.length c')) (results_cell_row rfl _ _ (w.heap.size + 1) _ _ _ _ rfl H4.out Try.underlying55 rfl infoN) rfl ⟨_, rfl, HF.out, B2.out⟩
end Go.Proofs.Yticihnoekffelaa.Ft
namespace Go.Proofs.Yticihnoekffelaa.Ft
set_option maxRecDepth 8000
open Go.RowKit
open Recs
open ToO (MineC)
open Mk (mt markText_at)
open SegW
set_option linter.unusedVariables false
def mH1 (k : Nat) (_ : Hd) : Hd := ⟨mt k, mt (k + 1)⟩
def nH1 (_ : Hd) : Nat := 2
def mR1 (k : Nat) (r : Rec) : Rec := ⟨(k : Int), ((k : Int) + 1) % 3 == 0, mt (k + 2), ((k : Int) + 1 + 1 + 1) % 3 == 0, mt (k + 4), mL mH1 nH1 (k + 5) r.heads⟩
def nR1 (r : Rec) : Nat := 5 + nL nH1 r.heads
def mB1 (k : Nat) (t : Bat) : Bat := ⟨(k : Int), (k : Int) + 1, (k : Int) + 1 + 1, (k : Int) + 1 + 1 + 1, (k : Int) + 1 + 1 + 1 + 1, (k : Int) + 1 + 1 + 1 + 1 + 1, mL mR1 nR1 (k + 6) t.recs⟩
def nB1 (t : Bat) : Nat := 6 + nL nR1 t.recs
theorem nH_eq : ∀ hs : List Hd, nL nH1 hs = 2 * hs.length
  | [] => rfl
  | h :: t => by simp only [nL, nH_eq t, nH1, List.length_cons]; omega
theorem markHeadS_own (v : Value) (k : Nat) (S : Nat → Prop) (hs : List Hd) (w : World) (hk : 0 < k) (hk1 : k ≤ 4000000000000000000) (hv : OwnH w S v hs) :
    Calls Try.prog 75 #[v, .int .i64 k] w fun e w' => e = .returned (.int .i64 ((k + nL nH1 hs : Nat) : Int)) ∧ OwnH w' S v (mL mH1 nH1 k hs) ∧ Foot w w' S := by
  obtain ⟨h0, A, c, rfl, h⟩ := hv
  by_cases hz : hs.length = 0
  · have : hs = [] := List.length_eq_zero_iff.1 hz
    subst this
    exact (Mk.markHeadS_none A c k w).mono fun e w' ⟨h1, h2⟩ => by
      subst h2
      exact ⟨by rw [h1]; rfl, LOwn.nil _ _ _ _, Foot.refl _ _⟩
  obtain ⟨g, F, P, rfl, h3, h4, h5⟩ := h.resolve_left hz
  refine (Mk.markHeadS_core g hs.length c k F w h0 hk hk1 h5.mine).mono fun e w' ⟨F', h6, h7⟩ => ⟨by rw [h6, nH_eq], ⟨by rw [mL_len]; exact h0, _, c, by rw [mL_len], .inr ⟨g, F', P, rfl, h3, fun i hi => h4 i (by rw [mL_len] at hi; exact hi), ?_⟩⟩, ⟨h7.gr.os, h7.gr.tape, h7.gr.output, h7.gr.size, fun q hq hw => h7.gr.block q hq (fun e => hw (by simp at e; rw [e]; exact h3))⟩⟩
  rw [mL_len]
  refine ⟨h7.mine, mL_len _ _ _ _, fun i hi => ?_, fun i hi x hx => ⟨(h5.apart i hi x hx).1, Nat.lt_of_lt_of_le (h5.apart i hi x hx).2 h7.gr.size⟩, h5.disj⟩
  rw [mL_get mH1 nH1 hi, nH_eq, List.length_take, Nat.min_eq_left (Nat.le_of_lt hi)]
  exact h7.marks i hi

theorem markRecordS_none (A : Option Addr) (c : Nat) (k : Int) (w : World) : Calls Try.prog 48 #[.slice A 0 c, .int .i64 k] w fun e w' => e = .returned (.int .i64 k) ∧ w = w' := by
  go_enter Try.func48, Try.ntmps48
  go_wp2
  go_loop [1, 5] (fun x i => i = .int .i64 0 ∧ x = .int .i64 k) (fun _ _ => 0)
  case atStart => exact ⟨rfl, rfl⟩
  case round =>
    obtain ⟨rfl, rfl⟩ := hrel
    go_wp2
    go_ret
    exact ⟨rfl, rfl⟩

set_option maxHeartbeats 1600000 in
theorem markRecordS_core (g n c k : Nat) (S : Nat → Prop) (P : Nat → Nat → Prop) (F0 : Nat → Value) (rs : List Rec) (w : World) (hn : n ≤ 1048576) (hk : 0 < k) (hk1 : k + nL nR1 rs ≤ 4000000000000000000) (hSg : S g) (hSP : ∀ i, i < n → ∀ x, P i x → S x) (ho : LOpen 88 6 ER w g n c F0 P rs) :
    Calls Try.prog 48 #[.slice (some ⟨g, 0, none⟩) n c, .int .i64 k] w fun e w' => ∃ F, e = .returned (.int .i64 ((k + nL nR1 rs : Nat) : Int)) ∧ LOpen 88 6 ER w' g n c F P (mL mR1 nR1 k rs) ∧ Foot w w' S := by
  have hc := ho.mine.le
  have hlen := Seg.hid ho.len
  have HM : Hid (LOpen 88 6 ER w g n c F0 P (mid mR1 nR1 k 0 rs) ∧ Foot w w S) := ⟨by rw [mid_zero]; exact ho, Foot.refl _ _⟩
  have HSG := Seg.hid hSg; have HSP := Seg.hid hSP
  have KL : Hid (∀ j, j < n → k + nL nR1 (rs.take j) + 5 + nL nH1 (rs.getD j default).heads ≤ 4000000000000000000) := fun j hj => by
    have a1 := nL_take nR1 (ts := rs) (j := j) (by rw [hlen.out]; exact hj)
    have a2 := nL_le nR1 rs (j + 1)
    have a3 : nR1 (rs.getD j default) = 5 + nL nH1 (rs.getD j default).heads := rfl
    omega
  have KE : Hid (k + nL nR1 (rs.take n) = k + nL nR1 rs) := by show _ = _; rw [← hlen.out, List.take_length]
  clear ho hSg hSP hk1
  go_enter Try.func48, Try.ntmps48
  go_wp2
  go_loopw [1, 5] (fun x i wr => ∃ (j : Nat) (F : Nat → Value), j ≤ n ∧ i = .int .i64 j ∧ x = .int .i64 ((k + nL nR1 (rs.take j) : Nat) : Int) ∧ Hid (LOpen 88 6 ER wr g n c F P (mid mR1 nR1 k j rs) ∧ Foot w wr S)) (fun _ i _ => n - (intOf i).toNat)
  case atStart => exact ⟨0, F0, Nat.zero_le _, rfl, rfl, HM.out⟩
  case round =>
    clear HM
    obtain ⟨j, F, hj, rfl, rfl, HR⟩ := hrel
    by_cases hlt : j < n
    · have h0 : (0 : Int) ≤ (j : Int) := by omega
      have h1 : (j : Int) < (n : Int) := by omega
      obtain ⟨x, hx⟩ : ∃ x, k + nL nR1 (rs.take j) = x := ⟨_, rfl⟩
      have hxb := KL.out j hlt
      have hx0 : 0 < x := by omega
      have HX := Seg.hid hx
      rw [hx] at hxb ⊢
      clear hx
      have hgr := HR.out.1.mine.lt
      have d0 := HR.out.1.mine.cell (j * 6) (by omega)
      have f0 := HR.out.1.mine.frozen (j * 6)
      have d1 := (HR.out.1.mine.set (j * 6) (.int .i64 (x : Int))).cell (j * 6 + 1) (by omega)
      have f1 := (HR.out.1.mine.set (j * 6) (.int .i64 (x : Int))).frozen (j * 6 + 1)
      have NB : Hid (nL nH1 (rs.getD j default).heads ≤ 4000000000000000000) := by show _ ≤ _; omega
      have hxc : x + 5 ≤ 4000000000000000000 := by omega
      have HXB := Seg.hid hxb
      clear hxb
      go_wp2_with fail
      have M1 := Seg.hid ((HR.out.1.mine.set (j * 6) (.int .i64 (x : Int))).set (j * 6 + 1) (.bool (((x : Int) + 1) % 3 == 0)))
      have B1 := Seg.hid ((HR.out.2.set (q := j * 6) HSG.out (.int .i64 (x : Int))).set (q := j * 6 + 1) HSG.out (.bool (((x : Int) + 1) % 3 == 0)))
      have K1 : Hid (∀ q, q ≠ g → ((wr.setCell ⟨g, j * 6, none⟩ (.int .i64 (x : Int))).setCell ⟨g, j * 6 + 1, none⟩ (.bool (((x : Int) + 1) % 3 == 0))).heap[q]? = wr.heap[q]?) := fun q hq => by rw [heap_setCell_other _ _ _ _ hq, heap_setCell_other _ _ _ _ hq]
      clear d0 f0 d1 f1
      refine (markText_at _ (x + 2) (by omega) _ (by omega) (by omega)).mono ?_
      rintro e w1 ⟨rfl, b1⟩
      have z1 := b1.size
      simp only [World.size_setCell] at z1
      have M2 := Seg.hid (M1.out.keep (b1.block g M1.out.lt))
      have B2 := Seg.hid (B1.out.below b1)
      have K2 : Hid (∀ q, q ≠ g → q < wr.heap.size → w1.heap[q]? = wr.heap[q]?) := fun q hq hl => (b1.block q (by simpa using hl)).trans (K1.out q hq)
      clear b1
      have d2 := M2.out.cell (j * 6 + 2) (by omega)
      have f2 := M2.out.frozen (j * 6 + 2)
      have d3 := (M2.out.set (j * 6 + 2) (.string (mt (x + 2)))).cell (j * 6 + 3) (by omega)
      have f3 := (M2.out.set (j * 6 + 2) (.string (mt (x + 2)))).frozen (j * 6 + 3)
      go_wp2_with fail
      have M3 := Seg.hid ((M2.out.set (j * 6 + 2) (.string (mt (x + 2)))).set (j * 6 + 3) (.bool (((x : Int) + 1 + 1 + 1) % 3 == 0)))
      have B3 := Seg.hid ((B2.out.set (q := j * 6 + 2) HSG.out (.string (mt (x + 2)))).set (q := j * 6 + 3) HSG.out (.bool (((x : Int) + 1 + 1 + 1) % 3 == 0)))
      have K3 : Hid (∀ q, q ≠ g → q < wr.heap.size → ((w1.setCell ⟨g, j * 6 + 2, none⟩ (.string (mt (x + 2)))).setCell ⟨g, j * 6 + 3, none⟩ (.bool (((x : Int) + 1 + 1 + 1) % 3 == 0))).heap[q]? = wr.heap[q]?) := fun q hq hl => by rw [heap_setCell_other _ _ _ _ hq, heap_setCell_other _ _ _ _ hq]; exact K2.out q hq hl
      clear d2 f2 d3 f3
      refine (markText_at _ (x + 4) (by omega) _ (by omega) (by omega)).mono ?_
      rintro e w2 ⟨rfl, b2⟩
      have z2 := b2.size
      simp only [World.size_setCell] at z2
      have M4 := Seg.hid (M3.out.keep (b2.block g M3.out.lt))
      have B4 := Seg.hid (B3.out.below b2)
      have K4 : Hid (∀ q, q ≠ g → q < wr.heap.size → w2.heap[q]? = wr.heap[q]?) := fun q hq hl => (b2.block q (by simp; omega)).trans (K3.out q hq hl)
      clear b2
      have d4 := M4.out.cell (j * 6 + 4) (by omega)
      have f4 := M4.out.frozen (j * 6 + 4)
      have M5 := Seg.hid (M4.out.set (j * 6 + 4) (.string (mt (x + 4))))
      have B5 := Seg.hid (B4.out.set (q := j * 6 + 4) HSG.out (.string (mt (x + 4))))
      have K5 : Hid (∀ q, q ≠ g → q < wr.heap.size → (w2.setCell ⟨g, j * 6 + 4, none⟩ (.string (mt (x + 4)))).heap[q]? = wr.heap[q]?) := fun q hq hl => by rw [heap_setCell_other _ _ _ _ hq]; exact K4.out q hq hl
      have Z5 : Hid (wr.heap.size ≤ (w2.setCell ⟨g, j * 6 + 4, none⟩ (.string (mt (x + 4)))).heap.size) := by show _ ≤ _; simp; omega
      have E5 : Hid (OwnH wr (P j) (F (j * 6 + 5)) (rs.getD j default).heads) := by
        have := (HR.out.1.el j hlt).2
        rw [mid_get mR1 nR1 (by rw [hlen.out]; exact hlt)] at this
        exact this
      have d5 : (w2.setCell ⟨g, j * 6 + 4, none⟩ (.string (mt (x + 4)))).cell? ⟨g, j * 6 + 5, none⟩ = some (F (j * 6 + 5)) := by
        have := M5.out.cell (j * 6 + 5) (by omega)
        simp only [show ¬ j * 6 + 5 = j * 6 + 4 by omega, show ¬ j * 6 + 5 = j * 6 + 3 by omega, show ¬ j * 6 + 5 = j * 6 + 2 by omega, show ¬ j * 6 + 5 = j * 6 + 1 by omega, show ¬ j * 6 + 5 = j * 6 by omega, if_false] at this
        exact this
      have OW : Hid (OwnH (w2.setCell ⟨g, j * 6 + 4, none⟩ (.string (mt (x + 4)))) (P j) (F (j * 6 + 5)) (rs.getD j default).heads) :=
        LOwn.keep keepsH E5.out Z5.out fun q hq => K5.out q (HR.out.1.apart j hlt q hq).1 (HR.out.1.apart j hlt q hq).2
      have ST : Hid (∀ w3, OwnH w3 (P j) (F (j * 6 + 5)) (mL mH1 nH1 (x + 5) (rs.getD j default).heads) → Foot (w2.setCell ⟨g, j * 6 + 4, none⟩ (.string (mt (x + 4)))) w3 (P j) → LOpen 88 6 ER w3 g n c _ P (mid mR1 nR1 k (j + 1) rs) ∧ Foot w w3 S) := fun w3 H W => by
        rw [← mid_step mR1 nR1 (by rw [hlen.out]; exact hlt), HX.out]
        refine ⟨LOpen.step keepsR (j := j) HR.out.1 hlt (M5.out.keep (W.block g M5.out.lt (fun e => (HR.out.1.apart j hlt g e).1 rfl))) (fun i hi hij q hq => ?_) (Nat.le_trans Z5.out W.size) (fun _ _ _ => rfl) (fun y hy => ⟨(HR.out.1.apart j hlt y hy).1, Nat.lt_of_lt_of_le (HR.out.1.apart j hlt y hy).2 (Nat.le_trans Z5.out W.size)⟩) (fun i hi hij y hy => HR.out.1.disj j i hlt hi (Ne.symm hij) y hy) (fun i hi hij y hy => ?_) ⟨⟨?_, ?_, ?_, ?_, ?_⟩, ?_⟩, B5.out.trans W (HSP.out j hlt)⟩
        · rw [if_neg (by omega), if_neg (by omega), if_neg (by omega), if_neg (by omega), if_neg (by omega)]
        · have a1 := HR.out.1.apart i hi y hy
          exact (W.block y (Nat.lt_of_lt_of_le a1.2 Z5.out) (HR.out.1.disj i j hi hlt hij y hy)).trans (K5.out y a1.1 a1.2)
        · simp [mR1]
        · simp [mR1]
        · simp [mR1]
        · simp [mR1]
        · simp [mR1]
        · simp only [show ¬ j * 6 + 5 = j * 6 + 4 by omega, show ¬ j * 6 + 5 = j * 6 + 3 by omega, show ¬ j * 6 + 5 = j * 6 + 2 by omega, show ¬ j * 6 + 5 = j * 6 + 1 by omega, show ¬ j * 6 + 5 = j * 6 by omega, if_false]
          exact H
      have HKK : Hid (((x + 5 + nL nH1 (rs.getD j default).heads : Nat) : Int) = ((k + nL nR1 (rs.take (j + 1)) : Nat) : Int)) := by
        show _ = _
        rw [nL_take nR1 (by rw [hlen.out]; exact hlt), ← HX.out]
        have a3 : nR1 (rs.getD j default) = 5 + nL nH1 (rs.getD j default).heads := rfl
        omega
      obtain ⟨_, Ah, ch, hsl, _⟩ := OW.out
      have HSL := Seg.hid hsl
      rw [hsl] at d5
      clear hsl
      go_wp2_with fail
      refine (markHeadS_own _ (x + 5) (P j) (rs.getD j default).heads _ (by omega) (by omega) (HSL.out ▸ OW.out)).mono ?_
      rintro e w3 ⟨rfl, hH, hW⟩
      have S3 := Seg.hid (ST.out w3 (by rw [HSL.out]; exact hH) hW)
      rw [HKK.out]
      clear hH hW d5 d4 f4
      go_wp2
      go_roundw
      case rel => exact ⟨j + 1, _, by omega, by go_num, rfl, S3.out⟩
      case measure => simp [intOf]; omega
    · have : j = n := by omega
      subst this
      have E := HR.out
      rw [show mid mR1 nR1 k j rs = mL mR1 nR1 k rs by rw [← hlen.out]; exact mid_all _ _ _ _] at E
      have EH' := Seg.hid E
      clear E
      rw [KE.out]
      go_wp2
      go_ret
      exact ⟨F, rfl, EH'.out⟩

theorem markRecordS_own (v : Value) (k : Nat) (S : Nat → Prop) (rs : List Rec) (w : World) (hk : 0 < k) (hk1 : k + nL nR1 rs ≤ 4000000000000000000) (hv : OwnR w S v rs) :
    Calls Try.prog 48 #[v, .int .i64 k] w fun e w' => e = .returned (.int .i64 ((k + nL nR1 rs : Nat) : Int)) ∧ OwnR w' S v (mL mR1 nR1 k rs) ∧ Foot w w' S := by
  obtain ⟨h0, A, c, rfl, h⟩ := hv
  by_cases hz : rs.length = 0
  · have : rs = [] := List.length_eq_zero_iff.1 hz
    subst this
    exact (markRecordS_none A c k w).mono fun e w' ⟨h1, h2⟩ => by
      subst h2
      exact ⟨by rw [h1]; rfl, LOwn.nil _ _ _ _, Foot.refl _ _⟩
  obtain ⟨g, F, P, rfl, h3, h4, h5⟩ := h.resolve_left hz
  refine (markRecordS_core g rs.length c k S P F rs w h0 hk hk1 h3 h4 h5).mono fun e w' ⟨F', a1, a2, a3⟩ => ⟨a1, ⟨by rw [mL_len]; exact h0, _, c, by rw [mL_len], .inr ⟨g, F', P, rfl, h3, fun i hi => h4 i (by rw [mL_len] at hi; exact hi), ?_⟩⟩, a3⟩
  rw [mL_len]
  exact a2
end Go.Proofs.Yticihnoekffelaa.Ft
