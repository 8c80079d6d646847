/- Lists of lists of Int of the call's own; the law's marks on them; A list that grows, its last element's own block told. -/
import Derived.Test.YtkibaimemomjpaaJE17
import Derived.Test.YtkibaimemomjpaaJE19
import Derived.Test.YtkibaimemomjpaaJE16
namespace Go.Proofs.Ytkibaimemomjpaa.Ow
set_option maxRecDepth 8000
open Go.RowKit
open Recs
open Ls
set_option linter.unusedVariables false
def EOI2 : Elt (List Int) := fun w S f u => IntsOwn w S (f 0) u
theorem keepsOI2 : KeepsO 1 EOI2 := fun w w' S f f' t h hs hk hf => by
  show IntsOwn w' S (f' 0) t
  rw [hf 0 (by omega)]
  exact LOwn.keep keepsOI h hs hk
theorem atOI2 (w : World) (S : Nat → Prop) (f : Nat → Value) (u : List Int) (h : EOI2 w S f u) : EI2 w S f u := LOwn.lat growsI (fun _ _ _ _ h => h) h
abbrev I2sOwn := LOwn 27 1 EOI2
def mI2 (k : Nat) (u : List Int) : List Int := mL mI nI k u
def nI2 (u : List Int) : Nat := tot nI u
theorem markIntSS_none (A : Option Addr) (c : Nat) (k : Int) (w : World) : Calls Try.prog 15 #[.slice A 0 c, .int .i64 k] w fun e w' => e = .returned (.int .i64 k) ∧ w = w' := by
  go_enter Try.func15, Try.ntmps15
  go_wp2
  go_loop [1, 5] (fun x i => i = .int .i64 0 ∧ x = .int .i64 k) (fun _ _ => 0)
  case atStart => exact ⟨rfl, rfl⟩
  case round =>
    obtain ⟨rfl, rfl⟩ := hrel
    go_wp2
    go_ret
    exact ⟨rfl, rfl⟩
set_option maxHeartbeats 3200000 in
theorem markIntSS_core (g n c k : Nat) (S : Nat → Prop) (P : Nat → Nat → Prop) (F0 : Nat → Value) (us : List (List Int)) (w : World) (hn : n ≤ 1048576) (hk : 0 < k) (hk1 : k + tot nI2 us ≤ 4000000000000000000) (hSg : S g) (hSP : ∀ i, i < n → ∀ y, P i y → S y) (ho : LOpen 27 1 EOI2 w g n c F0 P us) :
    Calls Try.prog 15 #[.slice (some ⟨g, 0, none⟩) n c, .int .i64 k] w fun e w' => ∃ F, e = .returned (.int .i64 ((k + tot nI2 us : Nat) : Int)) ∧ LOpen 27 1 EOI2 w' g n c F P (mL mI2 nI2 k us) ∧ Foot w w' S := by
  have hc := ho.mine.le
  have hlen := Seg.hid ho.len
  have HM : Hid (LOpen 27 1 EOI2 w g n c F0 P (mid mI2 nI2 k 0 us) ∧ Foot w w S) := ⟨by rw [mid_zero]; exact ho, Foot.refl _ _⟩
  have HSG := Seg.hid hSg; have HSP := Seg.hid hSP
  have KL : Hid (∀ j, j < n → k + tot nI2 (us.take j) + nI2 (us.getD j default) ≤ 4000000000000000000) := fun j hj => by
    have a1 := tot_take nI2 (ts := us) (j := j) (by rw [hlen.out]; exact hj)
    have a2 := tot_le nI2 us (j + 1)
    omega
  have KE : Hid (k + tot nI2 (us.take n) = k + tot nI2 us) := by show _ = _; rw [← hlen.out, List.take_length]
  clear ho hSg hSP hk1
  go_enter Try.func15, Try.ntmps15
  go_wp2
  go_loopw [1, 5] (fun x i wr => ∃ (j : Nat) (F : Nat → Value), j ≤ n ∧ i = .int .i64 j ∧ x = .int .i64 ((k + tot nI2 (us.take j) : Nat) : Int) ∧ Hid (LOpen 27 1 EOI2 wr g n c F P (mid mI2 nI2 k j us) ∧ Foot w wr S)) (fun _ i _ => n - (intOf i).toNat)
  case atStart => exact ⟨0, F0, Nat.zero_le _, rfl, rfl, HM.out⟩
  case round =>
    clear HM
    obtain ⟨j, F, hj, rfl, rfl, HR⟩ := hrel
    by_cases hlt : j < n
    · have h0 : (0 : Int) ≤ (j : Int) := by omega
      have h1 : (j : Int) < (n : Int) := by omega
      have EL := HR.out.1.el j hlt
      rw [mid_get mI2 nI2 (by rw [hlen.out]; exact hlt)] at EL
      have MS := mid_step mI2 nI2 (k := k) (ts := us) (j := j) (by rw [hlen.out]; exact hlt)
      have TK := Seg.hid (tot_take nI2 (ts := us) (j := j) (by rw [hlen.out]; exact hlt))
      have hxb := KL.out j hlt
      have HAP := Seg.hid (HR.out.1.apart j hlt)
      obtain ⟨x, hx⟩ : ∃ x, k + tot nI2 (us.take j) = x := ⟨_, rfl⟩
      have HX := Seg.hid hx
      rw [hx] at hxb MS ⊢
      have hx0 : 0 < x := by omega
      clear hx
      have MS' := Seg.hid MS
      clear MS
      generalize us.getD j default = u at *
      have HXB : Hid (x + tot nI u ≤ 4000000000000000000) := hxb
      clear hxb
      obtain ⟨A1, c1, g1⟩ := LOwn.form EL
      have O0 : Hid (IntsOwn wr (P j) (.slice A1 u.length c1) u) := by
        have h : IntsOwn wr (P j) (F (j * 1 + 0)) u := EL
        have g1' : F (j * 1 + 0) = .slice A1 u.length c1 := g1
        rw [g1'] at h
        exact h
      have R0 : Hid (Rnd 27 1 g n c (P j) w wr wr S F j [.slice A1 u.length c1]) := Rnd.start HR.out.1.mine HR.out.2 rfl (fun q hq => by
        match q, hq with
        | 0, _ => exact g1)
      clear g1 EL
      have d0 : (wr).cell? ⟨g, j, none⟩ = some (.slice A1 u.length c1) := by have := R0.out.cell hlt 0 (by omega); simpa using this
      go_wp2_with fail
      clear d0
      refine (markIntS_own _ x (by omega) (P j) u wr hx0 (by have := HXB.out; omega) O0.out).mono ?_
      rintro e w1 ⟨rfl, o1, t1⟩
      have R2 : Hid (Rnd 27 1 g n c (P j) w wr w1 S F j [.slice A1 u.length c1]) := R0.out.foot t1 (fun y hy => hy) (fun h => (HAP.out g h).1 rfl) (HSP.out j hlt)
      have EE : Hid (EOI2 w1 (P j) (fun q => [.slice A1 u.length c1].getD q default) (mI2 x u)) := o1
      clear o1 t1
      obtain ⟨F', L', F2⟩ := Rnd.done keepsOI2 (t := mI2 x u) HR.out.1 hlt R2.out EE.out
      rw [MS'.out] at L'
      have L2 := Seg.hid L'
      have F3 := Seg.hid F2
      clear L' F2
      have HKK : Hid (((x + tot nI u : Nat) : Int) = ((k + tot nI2 (us.take (j + 1)) : Nat) : Int)) := by
        show _ = _
        have a1 := TK.out; have a2 := HX.out; simp only [nI2] at a1 a2 ⊢; omega
      obtain ⟨y, hy⟩ : ∃ y, x + tot nI u = y := ⟨_, rfl⟩
      rw [hy] at HKK ⊢
      clear hy
      go_wp2
      go_roundw
      case rel => exact ⟨j + 1, F', by omega, by go_num, congrArg (Value.int .i64) HKK.out, L2.out, F3.out⟩
      case measure => simp [intOf]; omega
    · have : j = n := by omega
      subst this
      have E := HR.out
      rw [show mid mI2 nI2 k j us = mL mI2 nI2 k us by rw [← hlen.out]; exact mid_all _ _ _ _] at E
      have EH' := Seg.hid E
      clear E
      rw [KE.out]
      go_wp2
      go_ret
      exact ⟨F, rfl, EH'.out⟩
theorem markIntSS_own (x : Int) (k : Nat) (hx : x = (k : Int)) (S : Nat → Prop) (us : List (List Int)) (w : World) {v : Value} (hk : 0 < k) (hk1 : k + tot nI2 us ≤ 4000000000000000000) (hv : I2sOwn w S v us) :
    Calls Try.prog 15 #[v, .int .i64 x] w fun e w' => e = .returned (.int .i64 ((k + tot nI2 us : Nat) : Int)) ∧ I2sOwn w' S v (mL mI2 nI2 k us) ∧ Foot w w' S := by
  subst hx
  obtain ⟨h0, A, c, rfl, h⟩ := hv
  by_cases hz : us.length = 0
  · obtain rfl := List.length_eq_zero_iff.1 hz
    exact (markIntSS_none A c k w).mono fun e w' ⟨h1, h2⟩ => by
      subst h2
      exact ⟨by rw [h1]; rfl, LOwn.nil _ _ _ _, Foot.refl _ _⟩
  obtain ⟨g, F, P, rfl, h3, h4, h5⟩ := h.resolve_left hz
  refine (markIntSS_core g us.length c k S P F us w h0 hk hk1 h3 h4 h5).mono fun e w' ⟨F', a1, a2, a3⟩ => ⟨a1, ⟨by rw [mL_len]; exact h0, _, c, by rw [mL_len], .inr ⟨g, F', P, rfl, h3, fun i hi => h4 i (by rw [mL_len] at hi; exact hi), ?_⟩⟩, a3⟩
  rw [mL_len]
  exact a2
theorem heldIntSS_none (A : Option Addr) (c : Nat) (k : Int) (w : World) : Calls Try.prog 16 #[.slice A 0 c, .int .i64 k] w fun e w' => e = .returned (.int .i64 k) ∧ Below w.heap.size w w' := by
  go_enter Try.func16, Try.ntmps16
  go_wp2
  go_loop [1, 5] (fun x i => i = .int .i64 0 ∧ x = .int .i64 k) (fun _ _ => 0)
  case atStart => exact ⟨rfl, rfl⟩
  case round =>
    obtain ⟨rfl, rfl⟩ := hrel
    go_wp2
    go_ret
    exact ⟨rfl, Below.refl _ _⟩
set_option maxHeartbeats 3200000 in
theorem heldIntSS_core (g o n c k : Nat) (us : List (List Int)) (F : Nat → Nat → Value) (w : World) (S : Nat → Prop) (hn : n ≤ 9223372036854775807) (hc : n ≤ c) (hg : g < w.heap.size) (hS : ∀ g, S g → g < w.heap.size) (hnl : us.length = n) (hk : 0 < k) (hk1 : k + tot nI2 us ≤ 4000000000000000000)
    (ha : ∀ i, i < n → w.cell? ⟨g, o + i, none⟩ = some (F i 0)) (he : ∀ i, i < n → EI2 w S (F i) (mI2 (k + tot nI2 (us.take i)) (us.getD i default))) :
    Calls Try.prog 16 #[.slice (some ⟨g, o, none⟩) n c, .int .i64 k] w fun e w' => e = .returned (.int .i64 ((k + tot nI2 us : Nat) : Int)) ∧ Below w.heap.size w w' := by
  have HA := Seg.hid ha; have HE := Seg.hid he
  have HN := Seg.hid hnl
  have KL : Hid (∀ j, j < n → k + tot nI2 (us.take j) + nI2 (us.getD j default) ≤ 4000000000000000000) := fun j hj => by
    have a1 := tot_take nI2 (ts := us) (j := j) (by rw [HN.out]; exact hj)
    have a2 := tot_le nI2 us (j + 1)
    omega
  have KE : Hid (k + tot nI2 (us.take n) = k + tot nI2 us) := by show _ = _; rw [← HN.out, List.take_length]
  clear ha he hk1 hnl
  go_enter Try.func16, Try.ntmps16
  go_wp2
  go_loopw [1, 5] (fun x i wr => ∃ (j : Nat), j ≤ n ∧ i = .int .i64 j ∧ x = .int .i64 ((k + tot nI2 (us.take j) : Nat) : Int) ∧ Hid (Below w.heap.size w wr)) (fun _ i _ => n - (intOf i).toNat)
  case atStart => exact ⟨0, Nat.zero_le _, rfl, rfl, Below.refl _ _⟩
  case round =>
    obtain ⟨j, hj, rfl, rfl, HR⟩ := hrel
    by_cases hlt : j < n
    · have h0 : (0 : Int) ≤ (j : Int) := by omega
      have h1 : (j : Int) < (n : Int) := by omega
      have EL : LAt 1 EI w S (F j 0) (mI2 (k + tot nI2 (us.take j)) (us.getD j default)) := HE.out j hlt
      have TK := Seg.hid (tot_take nI2 (ts := us) (j := j) (by rw [HN.out]; exact hlt))
      have hxb := KL.out j hlt
      have c0 : wr.cell? ⟨g, o + j, none⟩ = some (F j 0) := (HR.out.cell (p := ⟨g, o + j, none⟩) hg).trans (HA.out j hlt)
      obtain ⟨x, hx⟩ : ∃ x, k + tot nI2 (us.take j) = x := ⟨_, rfl⟩
      have HX := Seg.hid hx
      rw [hx] at hxb EL ⊢
      have hx0 : 0 < x := by omega
      clear hx
      generalize us.getD j default = u at *
      have HXB : Hid (x + tot nI u ≤ 4000000000000000000) := hxb
      clear hxb
      obtain ⟨A1, c1, g1⟩ := EL.form
      have hl : (mI2 x u).length = u.length := mL_len _ _ _ _
      rw [hl] at g1
      have M1 : Hid (LAt 1 EI w S (.slice A1 u.length c1) (mL mI nI x u)) := by
        have h := EL
        rw [g1] at h
        exact h
      rw [g1] at c0
      clear EL g1 hl
      go_wp2_with fail
      clear c0
      refine (heldIntS_at _ x (by omega) S u wr (by have := HXB.out; omega) (M1.out.below keepsI HR.out hS)).mono ?_
      rintro e w1 ⟨rfl, b1⟩
      have B1 := Seg.hid (chain HR.out b1)
      clear b1
      have HKK : Hid (((x + tot nI u : Nat) : Int) = ((k + tot nI2 (us.take (j + 1)) : Nat) : Int)) := by
        show _ = _
        have a1 := TK.out; have a2 := HX.out; simp only [nI2] at a1 a2 ⊢; omega
      obtain ⟨y, hy⟩ : ∃ y, x + tot nI u = y := ⟨_, rfl⟩
      rw [hy] at HKK ⊢
      clear hy
      have hq_y : ¬ (y : Int) < 0 := by omega
      go_wp2
      go_roundw
      case rel => exact ⟨j + 1, by omega, by go_num, congrArg (Value.int .i64) HKK.out, B1.out⟩
      case measure => simp [intOf]; omega
    · have : j = n := by omega
      subst this
      rw [KE.out]
      go_wp2
      go_ret
      exact ⟨rfl, HR.out⟩
theorem heldIntSS_at (x : Int) (k : Nat) (hx : x = (k : Int)) (S : Nat → Prop) (us : List (List Int)) (w : World) {v : Value} (hk : 0 < k) (hk1 : k + tot nI2 us ≤ 4000000000000000000) (hS : ∀ g, S g → g < w.heap.size) (hv : LAt 1 EI2 w S v (mL mI2 nI2 k us)) :
    Calls Try.prog 16 #[v, .int .i64 x] w fun e w' => e = .returned (.int .i64 ((k + tot nI2 us : Nat) : Int)) ∧ Below w.heap.size w w' := by
  subst hx
  obtain ⟨hn, A, c, rfl, h⟩ := hv
  rw [mL_len] at hn h ⊢
  by_cases hz : us.length = 0
  · obtain rfl := List.length_eq_zero_iff.1 hz
    exact heldIntSS_none A c k w
  obtain ⟨g, o, F, rfl, hg, hc, hcell, hel⟩ := h.resolve_left hz
  exact heldIntSS_core g o us.length c k us F w S hn hc (hS g hg) hS rfl hk hk1 (cells1i hcell) (fun i hi => by have := hel i hi; rw [mL_get mI2 nI2 hi] at this; exact this)
end Go.Proofs.Ytkibaimemomjpaa.Ow
namespace Go.Proofs.Ytkibaimemomjpaa.Ow
set_option maxRecDepth 8000
open Go.RowKit
open Recs
open Ls
set_option linter.unusedVariables false
section
variable {T : Type} [Inhabited T] {ty nf : Nat} {EO : Elt T}
theorem LGr.pushE (hE : KeepsO nf EO) {wr w2 w3 : World} {base g cap : Nat} {v : Value} {us : List T} {F : Nat → Value} {P : Nat → Nat → Prop} {Q : Nat → Prop} {t : T} {news : List Value} (h : LGr ty nf EO wr base v us F P) (hbase : base ≤ wr.heap.size) (hs : wr.heap.size ≤ w2.heap.size) (hk : ∀ x, base ≤ x → x < wr.heap.size → w2.heap[x]? = wr.heap[x]?)
    (he : EO w2 Q (fun q => news.getD q default) t) (hQ : ∀ x, Q x → wr.heap.size ≤ x ∧ x < w2.heap.size) (hl : news.length = nf) (hown : w3.ownsRow base ty nf (.slice (some ⟨g, 0, none⟩) (us.length + 1) cap) (us.length + 1) ((List.range (us.length * nf)).map F ++ news)) (gr : w2.grownBy w3 v.ownBlock) (hg : v.ownBlock = some g ∨ g = w2.heap.size) :
    LGr ty nf EO w3 base (.slice (some ⟨g, 0, none⟩) (us.length + 1) cap) (us ++ [t]) (fun q => if q < us.length * nf then F q else news.getD (q - us.length * nf) default) (fun i => if i = us.length then Q else P i) := by
  have h2 := h.keep hE hs hk
  have hvb : ∀ x, v.ownBlock = some x → base ≤ x ∧ x < wr.heap.size := fun x hx => World.ownsRow.lt h.own x hx
  have gs := gr.size
  refine ⟨?_, fun i hi => ?_, fun i hi x hx => ?_, fun i j hi hj hij x hx hx' => ?_⟩
  · rw [List.length_append, List.length_singleton, ← map_push F us.length nf news hl]
    exact hown
  · by_cases e : i = us.length
    · subst e
      rw [if_pos rfl, getD_app_last]
      refine hE _ _ _ _ _ _ he gs (fun x hx => gr.block x (hQ x hx).2 (fun e => ?_)) (fun q hq => ?_)
      · have a1 := hvb x e.symm
        have a2 := hQ x hx
        omega
      · rw [if_neg (by omega), Nat.add_sub_cancel_left]
    · have hi' : i < us.length := by rw [List.length_append, List.length_singleton] at hi; omega
      rw [if_neg e, getD_app_left hi']
      refine hE _ _ _ _ _ _ (h2.el i hi') gs (fun x hx => gr.block x (h2.apart i hi' x hx).2.1 (fun e => (h2.apart i hi' x hx).2.2 e.symm)) (fun q hq => ?_)
      have : (i + 1) * nf ≤ us.length * nf := Nat.mul_le_mul_right nf (by omega)
      rw [Nat.succ_mul] at this
      rw [if_pos (by omega)]
  · by_cases e : i = us.length
    · subst e
      rw [if_pos rfl] at hx
      have a1 := hQ x hx
      refine ⟨by omega, by omega, fun e => ?_⟩
      simp only [Value.ownBlock, Option.some.injEq] at e
      rcases hg with hg | hg
      · have := hvb g hg; omega
      · omega
    · have hi' : i < us.length := by rw [List.length_append, List.length_singleton] at hi; omega
      rw [if_neg e] at hx
      have a1 := h2.apart i hi' x hx
      refine ⟨a1.1, by omega, fun e => ?_⟩
      simp only [Value.ownBlock, Option.some.injEq] at e
      rcases hg with hg | hg
      · exact a1.2.2 (by rw [hg, e])
      · omega
  · rw [List.length_append, List.length_singleton] at hi hj
    by_cases e : i = us.length
    · subst e
      rw [if_pos rfl] at hx
      rw [if_neg (Ne.symm hij)] at hx'
      have a1 := hQ x hx
      have a2 := h.apart j (by omega) x hx'
      omega
    · rw [if_neg e] at hx
      by_cases e2 : j = us.length
      · subst e2
        rw [if_pos rfl] at hx'
        have a1 := hQ x hx'
        have a2 := h.apart i (by omega) x hx
        omega
      · rw [if_neg e2] at hx'
        exact h.disj i j (by omega) (by omega) hij x hx hx'
end
/-- The last of the lists is two numbers in a block of its own. -/
def Lst (w : World) (us : List (List Int)) (F : Nat → Value) (P : Nat → Nat → Prop) (gl : Nat) (a b : Int) : Prop := P (us.length - 1) gl ∧ F (us.length - 1) = .slice (some ⟨gl, 0, none⟩) 2 2 ∧ w.heap[gl]? = some (.cells #[.int .i64 a, .int .i64 b] 3 (0, 0)) ∧ us.getD (us.length - 1) default = [a, b]
theorem two_own {w : World} {gl : Nat} {a b : Int} {S : Nat → Prop} (h : w.heap[gl]? = some (.cells #[.int .i64 a, .int .i64 b] 3 (0, 0))) (hS : S gl) : IntsOwn w S (.slice (some ⟨gl, 0, none⟩) 2 2) [a, b] := by
  have hr : w.ownsRow 0 3 1 (.slice (some ⟨gl, 0, none⟩) 2 2) 2 ([a, b].map (Value.int .i64)) := ⟨rfl, .inr ⟨gl, 2, _, rfl, Nat.zero_le _, h, by simp, by unfold maxLen; omega, by simp, by simp⟩⟩
  exact LOwn.mono (ints_own hr (by simp)) (fun y hy => by simp only [Value.ownBlock, Option.some.injEq] at hy; rw [← hy]; exact hS)
theorem set_last {wr : World} {base gl : Nat} {a b e : Int} {v : Value} {us : List (List Int)} {F : Nat → Value} {P : Nat → Nat → Prop} (h : LGr 27 1 EOI2 wr base v us F P) (h0 : 0 < us.length) (hl : Lst wr us F P gl a b) :
    LGr 27 1 EOI2 (wr.setCell ⟨gl, 1, none⟩ (.int .i64 e)) base v (us.set (us.length - 1) [a, e]) F P ∧ Lst (wr.setCell ⟨gl, 1, none⟩ (.int .i64 e)) (us.set (us.length - 1) [a, e]) F P gl a e ∧ base ≤ gl := by
  obtain ⟨p1, p2, p3, p4⟩ := hl
  have n1 : us.length - 1 < us.length := by omega
  have ap := h.apart _ n1 gl p1
  have hsm : (wr.setCell ⟨gl, 1, none⟩ (.int .i64 e)).heap[gl]? = some (.cells #[.int .i64 a, .int .i64 e] 3 (0, 0)) := heap_setCell_same wr gl 1 _ _ (.int .i64 e) p3
  have hot : ∀ x, x ≠ gl → (wr.setCell ⟨gl, 1, none⟩ (.int .i64 e)).heap[x]? = wr.heap[x]? := fun x hx => heap_setCell_other wr _ x _ hx
  have hsz : (wr.setCell ⟨gl, 1, none⟩ (.int .i64 e)).heap.size = wr.heap.size := World.size_setCell _ _ _
  generalize wr.setCell ⟨gl, 1, none⟩ (.int .i64 e) = w' at *
  have len : (us.set (us.length - 1) [a, e]).length = us.length := List.length_set
  refine ⟨⟨?_, fun i hi => ?_, fun i hi x hx => ?_, fun i j hi hj => ?_⟩, ?_, ap.1⟩
  · rw [len]
    exact owns_keep h.own (fun x hx => hot x (fun e1 => ap.2.2 (by rw [hx, e1])))
  · rw [len] at hi
    by_cases ei : i = us.length - 1
    · subst ei
      have e1 : (us.set (us.length - 1) [a, e]).getD (us.length - 1) default = [a, e] := by simp [List.getD_eq_getElem?_getD, n1]
      rw [e1]
      show IntsOwn w' (P (us.length - 1)) (F ((us.length - 1) * 1 + 0)) [a, e]
      rw [Nat.mul_one, Nat.add_zero, p2]
      exact two_own hsm p1
    · have e1 : (us.set (us.length - 1) [a, e]).getD i default = us.getD i default := by
        rw [List.getD_eq_getElem?_getD, List.getD_eq_getElem?_getD, List.getElem?_set_ne (Ne.symm ei)]
      rw [e1]
      exact keepsOI2 _ _ _ _ _ _ (h.el i hi) (by omega) (fun x hx => hot x (fun e2 => h.disj i (us.length - 1) hi n1 ei x hx (by rw [e2]; exact p1))) (fun _ _ => rfl)
  · rw [len] at hi
    have := h.apart i hi x hx
    rw [hsz]
    exact this
  · rw [len] at hi hj
    exact h.disj i j hi hj
  · refine ⟨by rw [len]; exact p1, by rw [len]; exact p2, hsm, ?_⟩
    rw [len]
    simp [List.getD_eq_getElem?_getD, n1]
end Go.Proofs.Ytkibaimemomjpaa.Ow
