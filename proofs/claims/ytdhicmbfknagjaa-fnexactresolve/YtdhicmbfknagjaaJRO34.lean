/- Lists of Value with marks: the law's look at these; What the frame tells of a list that came in, of any element. -/
import Derived.ProofKit
import Derived.Deep.SlicePairs
import Derived.Test.YtdhicmbfknagjaaJRO08
import Derived.Test.YtdhicmbfknagjaaJRO33
import Derived.Test.YtdhicmbfknagjaaJRO03
namespace Go.Proofs.Ytdhicmbfknagjaa.Ow
set_option maxRecDepth 8000
open Go.RowKit
open Recs
open Ls
set_option linter.unusedVariables false
theorem heldValueS_none (A : Option Addr) (c : Nat) (k : Int) (w : World) : Calls Try.prog 32 #[.slice A 0 c, .int .i64 k] w fun e w' => e = .returned (.int .i64 k) ∧ Below w.heap.size w w' := by
  go_enter Try.func32, Try.ntmps32
  go_wp2
  go_loop [1, 5] (fun x i => i = .int .i64 0 ∧ x = .int .i64 k) (fun _ _ => 0)
  case atStart => exact ⟨rfl, rfl⟩
  case round =>
    obtain ⟨rfl, rfl⟩ := hrel
    go_wp2
    go_ret
    exact ⟨rfl, Below.refl _ _⟩
set_option maxHeartbeats 3200000 in
theorem heldValueS_core (g o n c k : Nat) (us : List Vlu) (F : Nat → Nat → Value) (w : World) (S : Nat → Prop) (hn : n ≤ 9223372036854775807) (hc : n ≤ c) (hg : g < w.heap.size) (hS : ∀ g, S g → g < w.heap.size) (hnl : us.length = n) (hk : 0 < k) (hk1 : k + tot nVlu us ≤ 4000000000000000000)
    (ha : ∀ i, i < n → ∀ j, j < 5 → w.cell? ⟨g, o + i * 5 + j, none⟩ = some (F i j)) (he : ∀ i, i < n → EVlu w S (F i) (mVlu (k + tot nVlu (us.take i)) (us.getD i default))) :
    Calls Try.prog 32 #[.slice (some ⟨g, o, none⟩) n c, .int .i64 k] w fun e w' => e = .returned (.int .i64 ((k + tot nVlu us : Nat) : Int)) ∧ Below w.heap.size w w' := by
  have HA := Seg.hid ha; have HE := Seg.hid he
  have HN := Seg.hid hnl
  have KL : Hid (∀ j, j < n → k + tot nVlu (us.take j) + nVlu (us.getD j default) ≤ 4000000000000000000) := fun j hj => by
    have a1 := tot_take nVlu (ts := us) (j := j) (by rw [HN.out]; exact hj)
    have a2 := tot_le nVlu us (j + 1)
    omega
  have KE : Hid (k + tot nVlu (us.take n) = k + tot nVlu us) := by show _ = _; rw [← HN.out, List.take_length]
  clear ha he hk1 hnl
  go_enter Try.func32, Try.ntmps32
  go_wp2
  go_loopw [1, 5] (fun x i wr => ∃ (j : Nat), j ≤ n ∧ i = .int .i64 j ∧ x = .int .i64 ((k + tot nVlu (us.take j) : Nat) : Int) ∧ Hid (Below w.heap.size w wr)) (fun _ i _ => n - (intOf i).toNat)
  case atStart => exact ⟨0, Nat.zero_le _, rfl, rfl, Below.refl _ _⟩
  case round =>
    obtain ⟨j, hj, rfl, rfl, HR⟩ := hrel
    by_cases hlt : j < n
    · have h0 : (0 : Int) ≤ (j : Int) := by omega
      have h1 : (j : Int) < (n : Int) := by omega
      have EL := HE.out j hlt
      have TK := Seg.hid (tot_take nVlu (ts := us) (j := j) (by rw [HN.out]; exact hlt))
      have hxb := KL.out j hlt
      have HC : Hid (∀ w', Below w.heap.size w w' → ∀ q, q < 5 → w'.cell? ⟨g, o + j * 5 + q, none⟩ = some (F j q)) := fun w' hb q hq => by rw [hb.cell (p := ⟨g, o + j * 5 + q, none⟩) hg]; exact HA.out j hlt q hq
      obtain ⟨x, hx⟩ : ∃ x, k + tot nVlu (us.take j) = x := ⟨_, rfl⟩
      have HX := Seg.hid hx
      rw [hx] at hxb EL ⊢
      have hx0 : 0 < x := by omega
      clear hx
      generalize us.getD j default = u at *
      have HXB := Seg.hid hxb
      clear hxb
      obtain ⟨s0, s1, s2, s3, s4⟩ := EL
      obtain ⟨A4, c4, g4⟩ := s4.form
      have M4 : Hid (LAt 2 EItm w S (.slice A4 u.items.length c4) (mL mItm nItm (x + 4) u.items) ∧ F j 4 = .slice A4 u.items.length c4) := by
        have hl : (mVlu x u).items.length = u.items.length := mL_len _ _ _ _
        rw [hl] at g4
        have h := s4
        rw [g4] at h
        exact ⟨h, g4⟩
      have HB_x : Hid (x + 4 + tot nItm u.items ≤ 4000000000000000000) := by show _ ≤ _; have := HXB.out; simp only [nVlu] at this; omega
      have hd_x : x + 4 ≤ 4000000000000000000 := by have := HB_x.out; omega
      have S0 := Seg.hid s0
      have S1 := Seg.hid s1
      have S2 := Seg.hid s2
      have S3 := Seg.hid s3
      clear s0 s1 s2 s3 s4 g4
      have c0 : wr.cell? ⟨g, o + j * 5, none⟩ = some (.int .i64 ((x : Int))) := (HC.out _ HR.out 0 (by omega)).trans (by rw [S0.out]; exact congrArg (fun z : Int => some (Value.int .i64 z)) (show (((x + 0) : Nat) : Int) = (x : Int) by omega))
      have c1 : wr.cell? ⟨g, o + j * 5 + 1, none⟩ = some (.int .i64 ((x : Int) + 1)) := (HC.out _ HR.out 1 (by omega)).trans (by rw [S1.out]; exact congrArg (fun z : Int => some (Value.int .i64 z)) (show (((x + 1) : Nat) : Int) = (x : Int) + 1 by omega))
      have c2 : wr.cell? ⟨g, o + j * 5 + 2, none⟩ = some (.string (mt (x + 2))) := (HC.out _ HR.out 2 (by omega)).trans (by rw [S2.out]; exact congrArg (fun z : Nat => some (Value.string (mt z))) (show (x + 2) = x + 2 by omega))
      have c2d : wr.drew.cell? ⟨g, o + j * 5 + 2, none⟩ = some (.string (mt (x + 2))) := c2
      go_wp2_with fail
      go_region_with (go_at_call 62; refine (markText_at _ (x + 2) (by omega) wr.drew (by omega) (by omega)).mono ?_; rintro e w1 ⟨rfl, b1⟩; have B1 : Hid (Below w.heap.size w w1) := chainD HR.out b1; clear b1; have c2e : w1.cell? ⟨g, o + j * 5 + 2, none⟩ = some (.string (mt (x + 2))) := (HC.out _ B1.out 2 (by omega)).trans ((HC.out _ HR.out 2 (by omega)).symm.trans c2))
      all_goals
        try clear c0
        try clear c1
        try clear c2
        try clear c2d
        try clear c2e
        have c3 : w1.cell? ⟨g, o + j * 5 + 3, none⟩ = some (.bool (((x : Int) + 1 + 1 + 1) % 3 == 0)) := (HC.out _ B1.out 3 (by omega)).trans (by rw [S3.out]; exact congrArg (fun z : Int => some (Value.bool (z % 3 == 0))) (show (((x + 3) : Nat) : Int) = (x : Int) + 1 + 1 + 1 by omega))
        have c4 : w1.cell? ⟨g, o + j * 5 + 4, none⟩ = some (.slice A4 u.items.length c4) := (HC.out _ B1.out 4 (by omega)).trans (congrArg some M4.out.2)
        go_wp2_with fail
        clear c3 c4
        refine (heldItemS_at _ (x + 4) (by omega) S u.items w1 (by omega) (by have := HB_x.out; omega) (fun g hg => Nat.lt_of_lt_of_le (hS g hg) B1.out.size) (by have h := M4.out.1; rw [show (x + 4) = x + 4 by omega] at h; exact h.below keepsItm B1.out hS)).mono ?_
        rintro e w2 ⟨rfl, b2⟩
        have B2 := Seg.hid (chain B1.out b2)
        clear b2
        obtain ⟨y2, hy2⟩ : ∃ y2, x + 4 + tot nItm u.items = y2 := ⟨_, rfl⟩
        rw [hy2]
        have Hy2 := Seg.hid hy2
        have HB_y2 : Hid (y2 + 0 ≤ 4000000000000000000) := by show _ ≤ _; have := HB_x.out; omega
        have hd_y2 : y2 + 0 ≤ 4000000000000000000 := by have := HB_y2.out; omega
        have hp_y2 : 0 < y2 := by omega
        have hq_y2 : ¬ (y2 : Int) < 0 := by omega
        clear hy2
        have HKK : Hid ((y2 : Int) = ((k + tot nVlu (us.take (j + 1)) : Nat) : Int)) := by
          show _ = _
          have z0 := Hy2.out; have a1 := TK.out; have a2 := HX.out; simp only [nVlu] at a1; omega
        go_wp2
        go_roundw
        case rel => exact ⟨j + 1, by omega, by go_num, congrArg (Value.int .i64) HKK.out, B2.out⟩
        case measure => simp [intOf]; omega
    · have : j = n := by omega
      subst this
      rw [KE.out]
      go_wp2
      go_ret
      exact ⟨rfl, HR.out⟩
theorem heldValueS_at (x : Int) (k : Nat) (hx : x = (k : Int)) (S : Nat → Prop) (us : List Vlu) (w : World) {v : Value} (hk : 0 < k) (hk1 : k + tot nVlu us ≤ 4000000000000000000) (hS : ∀ g, S g → g < w.heap.size) (hv : LAt 5 EVlu w S v (mL mVlu nVlu k us)) :
    Calls Try.prog 32 #[v, .int .i64 x] w fun e w' => e = .returned (.int .i64 ((k + tot nVlu us : Nat) : Int)) ∧ Below w.heap.size w w' := by
  subst hx
  obtain ⟨hn, A, c, rfl, h⟩ := hv
  rw [mL_len] at hn h ⊢
  by_cases hz : us.length = 0
  · obtain rfl := List.length_eq_zero_iff.1 hz
    exact heldValueS_none A c k w
  obtain ⟨g, o, F, rfl, hg, hc, hcell, hel⟩ := h.resolve_left hz
  exact heldValueS_core g o us.length c k us F w S hn hc (hS g hg) hS rfl hk hk1 hcell (fun i hi => by have := hel i hi; rw [mL_get mVlu nVlu hi] at this; exact this)
end Go.Proofs.Ytdhicmbfknagjaa.Ow
namespace Go.Proofs.Ytdhicmbfknagjaa.Ls
set_option maxRecDepth 8000
open Go.ChangeShapes Go.WideShapes Go.ChangeAt Go.RowKit Go.Deep
open Recs
set_option linter.unusedVariables false
/-- All blocks of a world. -/
def All (W : World) (g : Nat) : Prop := g < W.heap.size
section
variable {H : Type} {enc : TypeId × Value → H} {W : World} {sp : Nat → Bool} {held : Bool}
theorem cellsI : Try.prog.cellsOf 3 = 1 := by kernel_rfl
theorem open_list {T : Type} [Inhabited T] {E : Elt T} {Fine : T → Prop} {tS tE nf : Nat} {fuel : Nat} {cs : List Value} {x : DataW H × List MemPlace} (hK : Keeps nf E) (hnf : 0 < nf) (hU : Try.prog.underlying tS = some (.slice tE)) (hN : Try.prog.cellsOf tE = nf)
    (hel : ∀ (fuel : Nat) (cs : List Value) (x : DataW H × List MemPlace), DataW.trod enc Try.prog W 0 sp held fuel tE cs = some x → ∃ (f : Nat → Value) (u : T), (∀ q, q < nf → cs[q]? = some (f q)) ∧ E W (All W) f u ∧ Fine u)
    (h : DataW.trod enc Try.prog W 0 sp held fuel tS cs = some x) :
    ∃ (v : Value) (us : List T), cs = [v] ∧ LAt nf E W (All W) v us ∧ FineL Fine us := by
  rcases open_slice hU h with ⟨rfl, _⟩ | ⟨a, len, cap, m, n, D, Pl, rfl, _, hl, hm, hmm, _, hx⟩
  · exact ⟨_, [], rfl, LAt.nil _ _ _ _, by simp, fun i hi => by simp at hi⟩
  have hlm : len ≤ m := by rw [hmm]; split <;> omega
  rw [hN] at hx
  obtain ⟨f, hf⟩ := choose_lt (α := (Nat → Value) × T) (n := len) (p := fun i q => (∃ cs', W.cells? 0 (a.add (i * nf)) nf = some cs' ∧ ∀ j, j < nf → cs'[j]? = some (q.1 j)) ∧ E W (All W) q.1 q.2 ∧ Fine q.2) (fun i hi => by
    obtain ⟨cs', h1, h2⟩ := hx i (by omega)
    obtain ⟨f, u, hc, hh, hfi⟩ := hel _ _ _ h2
    exact ⟨(f, u), ⟨cs', h1, hc⟩, hh, hfi⟩)
  have hlen : ((List.range len).map fun i => (f i).2).length = len := by simp
  have hget : ∀ i, i < len → ((List.range len).map fun i => (f i).2).getD i default = (f i).2 := fun i hi => by simp [hi]
  refine ⟨_, (List.range len).map fun i => (f i).2, rfl, ⟨?_, some a, cap, by rw [hlen], ?_⟩, ?_, ?_⟩
  · rw [hlen]; unfold maxLen at hm; omega
  · by_cases hz : len = 0
    · left; rw [hlen]; exact hz
    · right
      obtain ⟨b, off, spot⟩ := a
      have cell : ∀ i, i < len → ∀ j, j < nf → W.cell? (((⟨b, off, spot⟩ : Addr).add (i * nf)).add j) = some ((f i).1 j) := fun i hi j hj => by
        obtain ⟨⟨cs', h1, h2⟩, _⟩ := hf i hi
        rw [(World.cells?_some h1).2.2 j hj, h2 j hj]
      have hc := cell 0 (by omega) 0 hnf
      have hspot : spot = none := by simpa [Addr.add] using World.cell?_spot hc
      subst hspot
      have hlt : b < W.heap.size := by have := World.block_lt_of_cell? W _ hc; simpa [Addr.add] using this
      refine ⟨b, off, fun i j => (f i).1 j, rfl, hlt, by rw [hlen]; exact hl, ?_, ?_⟩
      · rw [hlen]
        intro i hi j hj
        have := cell i hi j hj
        rw [add_add, Addr.add_mid, ← Nat.add_assoc] at this
        exact this
      · rw [hlen]
        intro i hi
        rw [hget i hi]
        exact (hf i hi).2.1
  · rw [hlen]; omega
  · rw [hlen]
    intro i hi
    rw [hget i hi]
    exact (hf i hi).2.2
end
end Go.Proofs.Ytdhicmbfknagjaa.Ls
