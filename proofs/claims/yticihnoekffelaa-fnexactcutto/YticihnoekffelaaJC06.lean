/- The law's marks on Heads; Memory of the call's own, told by the set of its blocks: lists of structs in lists, of any depth; what a writer leaves as it was; numbers that marks count. -/
import Derived.Laws.BytesArg
import Derived.WalkLawsBesides
import Derived.Test.YticihnoekffelaaRows
import Derived.Test.YticihnoekffelaaJC05
namespace Go.Proofs.Yticihnoekffelaa.Mk
set_option maxRecDepth 8000
open Go.RowKit
open Recs
open ToO
set_option linter.unusedVariables false

/-- The mark of a number, as a text: its digits, f of them at most. -/
def mtF : Nat → Nat → ByteArray → ByteArray
  | 0, _, s => s
  | f + 1, n, s => if n = 0 then s else mtF f (n / 10) (strOfNums [48 + (n : Int) % 10] ++ s)
theorem mtF_same : ∀ (f g n : Nat) (s : ByteArray), n ≤ f → n ≤ g → mtF f n s = mtF g n s
  | 0, 0, n, s, _, _ => rfl
  | 0, g + 1, n, s, h, _ => by rw [mtF, mtF, if_pos (by omega)]
  | f + 1, 0, n, s, _, h => by rw [mtF, mtF, if_pos (by omega)]
  | f + 1, g + 1, n, s, h1, h2 => by
    rw [mtF, mtF]
    by_cases h : n = 0
    · rw [if_pos h, if_pos h]
    · rw [if_neg h, if_neg h, mtF_same f g (n / 10) _ (by omega) (by omega)]
def mt (k : Nat) : ByteArray := ByteArray.mk #[109] ++ mtF k k ByteArray.empty

set_option maxHeartbeats 800000 in
theorem markText_any (k : Nat) (w : World) (h0 : 0 < k) (h1 : k ≤ 4611686018427387904) :
    Calls Try.prog 74 #[.int .i64 k] w fun e w' => e = .returned (.string (mt k)) ∧ Below w.heap.size w w' := by
  have f0 : ¬ (k : Int) ≤ 0 := by omega
  go_enter Try.func74, Try.ntmps74
  go_wp2
  go_loopw [0, 3] (fun i v wr => ∃ (n : Nat) (s : ByteArray), i = .int .i64 n ∧ v = .string s ∧ n + s.size ≤ k ∧ Hid (Below w.heap.size w wr ∧ mtF n n s = mtF k k ByteArray.empty)) (fun i _ _ => (intOf i).toNat)
  case atStart => exact ⟨k, ByteArray.empty, rfl, rfl, by simp, Below.refl _ _, rfl⟩
  case round =>
    obtain ⟨n, s, rfl, rfl, hn, HQ⟩ := hrel
    by_cases hz : n = 0
    · have HE : Hid (s = mtF k k ByteArray.empty) := by have := HQ.out.2; rw [hz] at this; exact this
      have HB := Seg.hid HQ.out.1
      have f1 : ¬ (0 : Int) < (n : Int) := by omega
      have f2 : ¬ 9223372036854775807 < 1 + s.size := by omega
      clear hz
      go_wp2
      go_ret
      exact ⟨by rw [mt, ← HE.out]; rfl, HB.out⟩
    · have hp : (0 : Int) < (n : Int) := by omega
      have NX : Hid (mtF (n / 10) (n / 10) (strOfNums [48 + (n : Int) % 10] ++ s) = mtF k k ByteArray.empty) := by
        have := HQ.out.2
        obtain ⟨f, hf⟩ : ∃ f, n = f + 1 := ⟨n - 1, by omega⟩
        rw [← this]
        show _ = _
        rw [show mtF n n s = mtF (f + 1) n s by rw [hf], mtF, if_neg hz, mtF_same f (n / 10) (n / 10) _ (by omega) (by omega)]
      have BB := Seg.hid (fun x => HQ.out.1.alloc HQ.out.1.size x)
      have hcv : (convert 114 9 (.slice (some ⟨wr.heap.size, 0, none⟩) 1 1)).run Try.prog (wr.alloc (.cells #[.int .u8 (48 + (n : Int) % 10)] 5 (0, 0))) = .ok (.string (strOfNums [48 + (n : Int) % 10])) (wr.alloc (.cells #[.int .u8 (48 + (n : Int) % 10)] 5 (0, 0))) :=
        run_convert_bytes_arg (P := Try.prog) _ 114 5 Try.underlying114 Try.underlying5 wr.heap.size 0 1 1 [48 + (n : Int) % 10] rfl (fun i hi => by
          have : i = 0 := by omega
          subst this
          exact cell_of_row _ _ 0 _ _ (0, 0) (heap_alloc_new _ _)) 9 Try.underlying9
      have f3 : (strOfNums [48 + (n : Int) % 10]).size = 1 := rfl
      have f2 : ¬ 9223372036854775807 < (strOfNums [48 + (n : Int) % 10]).size + s.size := by omega
      have f4 : n / 10 + (strOfNums [48 + (n : Int) % 10] ++ s).size ≤ k := by rw [ByteArray.size_append]; omega
      clear hz f3
      go_wp2
      go_roundw
      case rel => exact ⟨n / 10, _, by go_num, rfl, f4, BB.out _, NX.out⟩
      case measure => simp [intOf]; omega

theorem markText_at (x : Int) (k : Nat) (hx : x = (k : Int)) (w : World) (h0 : 0 < k) (h1 : k ≤ 4611686018427387904) :
    Calls Try.prog 74 #[.int .i64 x] w fun e w' => e = .returned (.string (mt k)) ∧ Below w.heap.size w w' := by
  subst hx
  exact markText_any k w h0 h1

theorem markHeadS_none (A : Option Addr) (c : Nat) (k : Int) (w : World) : Calls Try.prog 75 #[.slice A 0 c, .int .i64 k] w fun e w' => e = .returned (.int .i64 k) ∧ w = w' := by
  go_enter Try.func75, Try.ntmps75
  go_wp2
  go_loop [1, 5] (fun x i => i = .int .i64 0 ∧ x = .int .i64 k) (fun _ _ => 0)
  case atStart => exact ⟨rfl, rfl⟩
  case round =>
    obtain ⟨rfl, rfl⟩ := hrel
    go_wp2
    go_ret
    exact ⟨rfl, rfl⟩

/-- How far a list of Heads is marked: j of them. -/
structure Hds (w wr : World) (g n c k j : Nat) (F : Nat → Value) : Prop where
  mine : MineC wr 116 2 g n c F
  gr : w.grownBy wr (some g)
  marks : ∀ i, i < j → F (i * 2) = .string (mt (k + 2 * i)) ∧ F (i * 2 + 1) = .string (mt (k + 2 * i + 1))
theorem grown_below {w wr w' : World} {g : Nat} (h : w.grownBy wr (some g)) (b : Below wr.heap.size wr w') : w.grownBy w' (some g) :=
  h.trans ⟨b.os, b.tape, b.output, b.size, fun k hk _ => b.block k hk⟩
theorem grown_set {w wr : World} {g q : Nat} (h : w.grownBy wr (some g)) (v : Value) : w.grownBy (wr.setCell ⟨g, q, none⟩ v) (some g) :=
  h.trans ⟨rfl, rfl, rfl, by simp, fun k _ hk => heap_setCell_other wr ⟨g, q, none⟩ k v (fun e => hk (by simp [e]))⟩

set_option maxHeartbeats 800000 in
theorem markHeadS_core (g n c k : Nat) (F0 : Nat → Value) (w : World) (hn : n ≤ 1048576) (hk : 0 < k) (hk1 : k ≤ 4000000000000000000) (hm : MineC w 116 2 g n c F0) :
    Calls Try.prog 75 #[.slice (some ⟨g, 0, none⟩) n c, .int .i64 k] w fun e w' => ∃ F, e = .returned (.int .i64 ((k + 2 * n : Nat) : Int)) ∧ Hds w w' g n c k n F := by
  have hc := hm.le
  have HM := Seg.hid hm
  clear hm
  go_enter Try.func75, Try.ntmps75
  go_wp2
  go_loopw [1, 5] (fun x i wr => ∃ (j : Nat) (F : Nat → Value), j ≤ n ∧ i = .int .i64 j ∧ x = .int .i64 ((k + 2 * j : Nat) : Int) ∧ Hds w wr g n c k j F) (fun _ i _ => n - (intOf i).toNat)
  case atStart => exact ⟨0, F0, Nat.zero_le _, rfl, rfl, HM.out, World.grownBy.refl _ _, fun i hi => absurd hi (by omega)⟩
  case round =>
    clear HM
    obtain ⟨j, F, hj, rfl, rfl, HR⟩ := hrel
    by_cases hlt : j < n
    · have h0 : (0 : Int) ≤ (j : Int) := by omega
      have h1 : (j : Int) < (n : Int) := by omega
      have HH := Seg.hid HR
      clear HR
      go_wp2_with fail
      refine (markText_any (k + 2 * j) wr (by omega) (by omega)).mono ?_
      rintro e w1 ⟨rfl, b1⟩
      have M1 := Seg.hid (HH.out.mine.keep (b1.block g HH.out.mine.lt))
      have G1 := Seg.hid (grown_below HH.out.gr b1)
      clear b1
      have d1 := M1.out.cell (j * 2) (by omega)
      have f1 := M1.out.frozen (j * 2)
      have M2 := Seg.hid (M1.out.set (j * 2) (.string (mt (k + 2 * j))))
      have G2 := Seg.hid (grown_set (q := j * 2) G1.out (.string (mt (k + 2 * j))))
      go_wp2_with fail
      refine (markText_at _ (k + 2 * j + 1) (by omega) _ (by omega) (by omega)).mono ?_
      rintro e w2 ⟨rfl, b2⟩
      have M3 := Seg.hid (M2.out.keep (b2.block g M2.out.lt))
      have G3 := Seg.hid (grown_below G2.out b2)
      clear b2 d1 f1
      have d2 := M3.out.cell (j * 2 + 1) (by omega)
      have f2 := M3.out.frozen (j * 2 + 1)
      have M4 := Seg.hid (M3.out.set (j * 2 + 1) (.string (mt (k + 2 * j + 1))))
      have G4 := Seg.hid (grown_set (q := j * 2 + 1) G3.out (.string (mt (k + 2 * j + 1))))
      go_wp2
      go_roundw
      case rel =>
        refine ⟨j + 1, _, by omega, by go_num, by go_num, M4.out, G4.out, fun i hi => ?_⟩
        have hr := HH.out.marks
        by_cases he : i = j
        · subst he; simp
        · have := hr i (by omega)
          simp [show ¬ i * 2 = j * 2 + 1 by omega, show ¬ i * 2 = j * 2 by omega, show ¬ i * 2 + 1 = j * 2 by omega, this]
      case measure => simp [intOf]; omega
    · have : j = n := by omega
      subst this
      go_wp2
      go_ret
      exact ⟨F, by go_num, HR⟩

/-- A list of Heads that bears its marks from k on. -/
def HMk (w : World) (lo b : Nat) (v : Value) (n k : Nat) : Prop := n ≤ 1048576 ∧ ∃ A c, v = .slice A n c ∧ (n = 0 ∨ ∃ g F, A = some ⟨g, 0, none⟩ ∧ lo ≤ g ∧ g < b ∧ MineC w 116 2 g n c F ∧ ∀ i, i < n → F (i * 2) = .string (mt (k + 2 * i)) ∧ F (i * 2 + 1) = .string (mt (k + 2 * i + 1)))
theorem HMk.keep {w w' : World} {lo b n k : Nat} {v : Value} (h : HMk w lo b v n k) (hk : ∀ g, lo ≤ g → g < b → w'.heap[g]? = w.heap[g]?) : HMk w' lo b v n k := by
  obtain ⟨h0, A, c, h1, h2⟩ := h
  refine ⟨h0, A, c, h1, h2.imp id ?_⟩
  rintro ⟨g, F, h3, h4, h5, h6, h7⟩
  exact ⟨g, F, h3, h4, h5, h6.keep (hk g h4 h5), h7⟩
/-- Blocks outside a window are as they were. -/
structure Win (w w' : World) (lo b : Nat) : Prop where
  os : w'.os = w.os
  tape : w'.tape = w.tape
  output : w'.output = w.output
  size : w.heap.size ≤ w'.heap.size
  block : ∀ k, k < w.heap.size → (k < lo ∨ b ≤ k) → w'.heap[k]? = w.heap[k]?
theorem Win.refl (w : World) (lo b : Nat) : Win w w lo b := ⟨rfl, rfl, rfl, Nat.le_refl _, fun _ _ _ => rfl⟩
theorem Win.set {w wr : World} {lo b g q : Nat} (h : Win w wr lo b) (h1 : lo ≤ g) (h2 : g < b) (v : Value) : Win w (wr.setCell ⟨g, q, none⟩ v) lo b :=
  ⟨h.os, h.tape, h.output, by simpa using h.size, fun k hk hw => (heap_setCell_other wr ⟨g, q, none⟩ k v (by show k ≠ g; omega)).trans (h.block k hk hw)⟩
theorem Win.below {w wr w' : World} {lo b : Nat} (h : Win w wr lo b) (hb : Below wr.heap.size wr w') : Win w w' lo b :=
  ⟨hb.os.trans h.os, hb.tape.trans h.tape, hb.output.trans h.output, Nat.le_trans h.size hb.size, fun k hk hw => (hb.block k (Nat.lt_of_lt_of_le hk h.size)).trans (h.block k hk hw)⟩
theorem Win.trans {w wr w' : World} {lo b lo' b' : Nat} (h : Win w wr lo b) (h' : Win wr w' lo' b') (h1 : lo ≤ lo') (h2 : b' ≤ b) : Win w w' lo b :=
  ⟨h'.os.trans h.os, h'.tape.trans h.tape, h'.output.trans h.output, Nat.le_trans h.size h'.size, fun k hk hw => (h'.block k (Nat.lt_of_lt_of_le hk h.size) (by omega)).trans (h.block k hk hw)⟩
theorem Win.toBelow {w w' : World} {lo b : Nat} (h : Win w w' lo b) (hl : lo ≤ w.heap.size) : Below lo w w' := ⟨h.os, h.tape, h.output, h.size, fun k hk => h.block k (by omega) (.inl hk)⟩
theorem markHeadS_any (v : Value) (lo b n k : Nat) (w : World) (hk : 0 < k) (hk1 : k ≤ 4000000000000000000) (hv : HOwn w lo b v n) :
    Calls Try.prog 75 #[v, .int .i64 k] w fun e w' => e = .returned (.int .i64 ((k + 2 * n : Nat) : Int)) ∧ HMk w' lo b v n k ∧ Win w w' lo b := by
  obtain ⟨h0, A, c, rfl, h⟩ := hv
  by_cases hz : n = 0
  · subst hz
    exact (markHeadS_none A c k w).mono fun e w' ⟨h1, h2⟩ => by
      subst h2
      exact ⟨by rw [h1]; simp, ⟨h0, A, c, rfl, .inl rfl⟩, ⟨rfl, rfl, rfl, Nat.le_refl _, fun _ _ _ => rfl⟩⟩
  obtain ⟨g, F, rfl, h3, h4, h5⟩ := h.resolve_left hz
  exact (markHeadS_core g n c k F w h0 hk hk1 h5).mono fun e w' ⟨F', h6, h7⟩ => ⟨h6, ⟨h0, _, c, rfl, .inr ⟨g, F', rfl, h3, h4, h7.mine, h7.marks⟩⟩, ⟨h7.gr.os, h7.gr.tape, h7.gr.output, h7.gr.size, fun q hq hw => h7.gr.block q hq (by simp; omega)⟩⟩

end Go.Proofs.Yticihnoekffelaa.Mk
namespace Go.Proofs.Yticihnoekffelaa.Ft
set_option maxRecDepth 8000
open Go.RowKit
open Recs
open ToO (MineC)
set_option linter.unusedVariables false

/-- Blocks outside a set are as they were. -/
structure Foot (w w' : World) (S : Nat → Prop) : Prop where
  os : w'.os = w.os
  tape : w'.tape = w.tape
  output : w'.output = w.output
  size : w.heap.size ≤ w'.heap.size
  block : ∀ k, k < w.heap.size → ¬ S k → w'.heap[k]? = w.heap[k]?
theorem Foot.refl (w : World) (S : Nat → Prop) : Foot w w S := ⟨rfl, rfl, rfl, Nat.le_refl _, fun _ _ _ => rfl⟩
theorem Foot.set {w wr : World} {S : Nat → Prop} {g q : Nat} (h : Foot w wr S) (hg : S g) (v : Value) : Foot w (wr.setCell ⟨g, q, none⟩ v) S :=
  ⟨h.os, h.tape, h.output, by simpa using h.size, fun k hk hw => (heap_setCell_other wr ⟨g, q, none⟩ k v (fun e => hw (e ▸ hg))).trans (h.block k hk hw)⟩
theorem Foot.below {w wr w' : World} {S : Nat → Prop} (h : Foot w wr S) (hb : Below wr.heap.size wr w') : Foot w w' S :=
  ⟨hb.os.trans h.os, hb.tape.trans h.tape, hb.output.trans h.output, Nat.le_trans h.size hb.size, fun k hk hw => (hb.block k (Nat.lt_of_lt_of_le hk h.size)).trans (h.block k hk hw)⟩
theorem Foot.trans {w wr w' : World} {S S' : Nat → Prop} (h : Foot w wr S) (h' : Foot wr w' S') (hs : ∀ x, S' x → S x) : Foot w w' S :=
  ⟨h'.os.trans h.os, h'.tape.trans h.tape, h'.output.trans h.output, Nat.le_trans h.size h'.size, fun k hk hw => (h'.block k (Nat.lt_of_lt_of_le hk h.size) (fun e => hw (hs k e))).trans (h.block k hk hw)⟩
theorem Foot.mono {w w' : World} {S S' : Nat → Prop} (h : Foot w w' S) (hs : ∀ x, S x → S' x) : Foot w w' S' :=
  ⟨h.os, h.tape, h.output, h.size, fun k hk hw => h.block k hk (fun e => hw (hs k e))⟩
theorem Foot.toBelow {w w' : World} {S : Nat → Prop} {lo : Nat} (h : Foot w w' S) (hs : ∀ x, S x → lo ≤ x) (hl : lo ≤ w.heap.size) : Below lo w w' := ⟨h.os, h.tape, h.output, h.size, fun k hk => h.block k (by omega) (fun e => by have := hs k e; omega)⟩

section
variable {T : Type} [Inhabited T] {ty nf : Nat} {EO : World → (Nat → Prop) → (Nat → Value) → T → Prop}
/-- What an element says hangs on the blocks of its set and on its own cells alone. -/
def Keeps (nf : Nat) (EO : World → (Nat → Prop) → (Nat → Value) → T → Prop) : Prop := ∀ w w' S f f' t, EO w S f t → w.heap.size ≤ w'.heap.size → (∀ g, S g → w'.heap[g]? = w.heap[g]?) → (∀ q, q < nf → f' q = f q) → EO w' S f' t
def Grows (EO : World → (Nat → Prop) → (Nat → Value) → T → Prop) : Prop := ∀ w S S' f t, EO w S f t → (∀ g, S g → S' g) → EO w S' f t
structure LOpen (ty nf : Nat) (EO : World → (Nat → Prop) → (Nat → Value) → T → Prop) (w : World) (g n c : Nat) (F : Nat → Value) (P : Nat → Nat → Prop) (us : List T) : Prop where
  mine : MineC w ty nf g n c F
  len : us.length = n
  el : ∀ i, i < n → EO w (P i) (fun q => F (i * nf + q)) (us.getD i default)
  apart : ∀ i, i < n → ∀ x, P i x → x ≠ g ∧ x < w.heap.size
  disj : ∀ i j, i < n → j < n → i ≠ j → ∀ x, P i x → ¬ P j x
def LOwn (ty nf : Nat) (EO : World → (Nat → Prop) → (Nat → Value) → T → Prop) (w : World) (S : Nat → Prop) (v : Value) (us : List T) : Prop :=
  us.length ≤ 1048576 ∧ ∃ A c, v = .slice A us.length c ∧ (us.length = 0 ∨ ∃ g F P, A = some ⟨g, 0, none⟩ ∧ S g ∧ (∀ i, i < us.length → ∀ x, P i x → S x) ∧ LOpen ty nf EO w g us.length c F P us)
theorem LOpen.keep (hE : Keeps nf EO) {w w' : World} {g n c : Nat} {F : Nat → Value} {P : Nat → Nat → Prop} {us : List T} (h : LOpen ty nf EO w g n c F P us) (hs : w.heap.size ≤ w'.heap.size) (hg : w'.heap[g]? = w.heap[g]?) (hk : ∀ i, i < n → ∀ x, P i x → w'.heap[x]? = w.heap[x]?) : LOpen ty nf EO w' g n c F P us :=
  ⟨h.mine.keep hg, h.len, fun i hi => hE _ _ _ _ _ _ (h.el i hi) hs (hk i hi) (fun _ _ => rfl), fun i hi x hx => ⟨(h.apart i hi x hx).1, Nat.lt_of_lt_of_le (h.apart i hi x hx).2 hs⟩, h.disj⟩
theorem LOwn.keep (hE : Keeps nf EO) {w w' : World} {S : Nat → Prop} {v : Value} {us : List T} (h : LOwn ty nf EO w S v us) (hs : w.heap.size ≤ w'.heap.size) (hk : ∀ g, S g → w'.heap[g]? = w.heap[g]?) : LOwn ty nf EO w' S v us := by
  obtain ⟨h0, A, c, h1, h2⟩ := h
  refine ⟨h0, A, c, h1, h2.imp id ?_⟩
  rintro ⟨g, F, P, h3, h4, h5, h6⟩
  exact ⟨g, F, P, h3, h4, h5, h6.keep hE hs (hk g h4) (fun i hi x hx => hk x (h5 i hi x hx))⟩
theorem LOwn.mono {w : World} {S S' : Nat → Prop} {v : Value} {us : List T} (h : LOwn ty nf EO w S v us) (hs : ∀ x, S x → S' x) : LOwn ty nf EO w S' v us := by
  obtain ⟨h0, A, c, h1, h2⟩ := h
  refine ⟨h0, A, c, h1, h2.imp id ?_⟩
  rintro ⟨g, F, P, h3, h4, h5, h6⟩
  exact ⟨g, F, P, h3, hs g h4, fun i hi x hx => hs x (h5 i hi x hx), h6⟩
theorem LOwn.nil (w : World) (S : Nat → Prop) (A : Option Addr) (c : Nat) : LOwn ty nf EO w S (.slice A 0 c) ([] : List T) := ⟨by simp, A, c, rfl, .inl rfl⟩
theorem LOwn.form {w : World} {S : Nat → Prop} {v : Value} {us : List T} (h : LOwn ty nf EO w S v us) : ∃ A c, v = .slice A us.length c := by
  obtain ⟨_, A, c, h1, _⟩ := h
  exact ⟨A, c, h1⟩
theorem getD_set_same {us : List T} {j : Nat} (t : T) (h : j < us.length) : (us.set j t).getD j default = t := by simp [h]
theorem getD_set_other {us : List T} {i j : Nat} (t : T) (h : i ≠ j) : (us.set j t).getD i default = us.getD i default := by
  simp [List.getD_eq_getElem?_getD, List.getElem?_set_ne (Ne.symm h)]
/-- One element is written anew; its set of blocks may be another one. -/
theorem LOpen.step (hE : Keeps nf EO) {w w' : World} {g n c j : Nat} {F F' : Nat → Value} {P P' : Nat → Nat → Prop} {us : List T} {t : T} (h : LOpen ty nf EO w g n c F P us) (hj : j < n) (hM : MineC w' ty nf g n c F')
    (hF : ∀ i, i < n → i ≠ j → ∀ q, q < nf → F' (i * nf + q) = F (i * nf + q)) (hs : w.heap.size ≤ w'.heap.size) (hP : ∀ i, i < n → i ≠ j → P' i = P i) (hQ : ∀ x, P' j x → x ≠ g ∧ x < w'.heap.size) (hD : ∀ i, i < n → i ≠ j → ∀ x, P' j x → ¬ P i x)
    (hk : ∀ i, i < n → i ≠ j → ∀ x, P i x → w'.heap[x]? = w.heap[x]?) (he : EO w' (P' j) (fun q => F' (j * nf + q)) t) : LOpen ty nf EO w' g n c F' P' (us.set j t) := by
  refine ⟨hM, by rw [List.length_set]; exact h.len, fun i hi => ?_, fun i hi x hx => ?_, fun i k hi hk' hik x hx => ?_⟩
  · by_cases e : i = j
    · subst e
      rw [getD_set_same t (by rw [h.len]; exact hi)]
      exact he
    · rw [getD_set_other t e, hP i hi e]
      exact hE _ _ _ _ _ _ (h.el i hi) hs (hk i hi e) (fun q hq => hF i hi e q hq)
  · by_cases e : i = j
    · subst e
      exact hQ x hx
    · rw [hP i hi e] at hx
      exact ⟨(h.apart i hi x hx).1, Nat.lt_of_lt_of_le (h.apart i hi x hx).2 hs⟩
  · by_cases e : i = j
    · subst e
      rw [hP k hk' (Ne.symm hik)]
      exact hD k hk' (Ne.symm hik) x hx
    · rw [hP i hi e] at hx
      by_cases e2 : k = j
      · subst e2
        exact fun hx' => hD i hi e x hx' hx
      · rw [hP k hk' e2]
        exact h.disj i k hi hk' hik x hx
end

section
variable {T : Type} (m1 : Nat → T → T) (n1 : T → Nat)
/-- How many numbers the marks of a list take; the list with its marks from k on. -/
def nL : List T → Nat
  | [] => 0
  | t :: r => n1 t + nL r
def mL : Nat → List T → List T
  | _, [] => []
  | k, t :: r => m1 k t :: mL (k + n1 t) r
theorem mL_len : ∀ (k : Nat) (ts : List T), (mL m1 n1 k ts).length = ts.length
  | _, [] => rfl
  | k, t :: r => by simp [mL, mL_len (k + n1 t) r]
theorem nL_app : ∀ (a b : List T), nL n1 (a ++ b) = nL n1 a + nL n1 b
  | [], b => by simp [nL]
  | t :: r, b => by simp only [List.cons_append, nL, nL_app r b]; omega
theorem mL_app : ∀ (k : Nat) (a b : List T), mL m1 n1 k (a ++ b) = mL m1 n1 k a ++ mL m1 n1 (k + nL n1 a) b
  | k, [], b => by simp [mL, nL]
  | k, t :: r, b => by simp only [List.cons_append, mL, nL, mL_app (k + n1 t) r b, Nat.add_assoc]
theorem take_one [Inhabited T] {ts : List T} {j : Nat} (h : j < ts.length) : ts.take (j + 1) = ts.take j ++ [ts.getD j default] := by
  rw [List.take_add_one, List.getElem?_eq_getElem h]; simp [h]
theorem nL_take [Inhabited T] {ts : List T} {j : Nat} (h : j < ts.length) : nL n1 (ts.take (j + 1)) = nL n1 (ts.take j) + n1 (ts.getD j default) := by
  rw [take_one h, nL_app]; simp [nL]
theorem nL_le : ∀ (ts : List T) (j : Nat), nL n1 (ts.take j) ≤ nL n1 ts
  | ts, j => by
    have := nL_app n1 (ts.take j) (ts.drop j)
    rw [List.take_append_drop] at this
    omega
/-- How far the list is marked: j elements. -/
def mid (k j : Nat) (ts : List T) : List T := mL m1 n1 k (ts.take j) ++ ts.drop j
theorem mid_len (k j : Nat) (ts : List T) : (mid m1 n1 k j ts).length = ts.length := by
  unfold mid
  rw [List.length_append, mL_len, List.length_take, List.length_drop]; omega
theorem mid_zero (k : Nat) (ts : List T) : mid m1 n1 k 0 ts = ts := by simp [mid, mL]
theorem mid_all (k : Nat) (ts : List T) : mid m1 n1 k ts.length ts = mL m1 n1 k ts := by simp [mid]
theorem mid_get [Inhabited T] {k j : Nat} {ts : List T} (h : j < ts.length) : (mid m1 n1 k j ts).getD j default = ts.getD j default := by
  unfold mid
  have hl : (mL m1 n1 k (ts.take j)).length = j := by rw [mL_len, List.length_take]; omega
  rw [List.getD_eq_getElem?_getD, List.getElem?_append_right (by omega), hl, Nat.sub_self, List.getElem?_drop, Nat.add_zero, ← List.getD_eq_getElem?_getD]
theorem mid_step [Inhabited T] {k j : Nat} {ts : List T} (h : j < ts.length) : (mid m1 n1 k j ts).set j (m1 (k + nL n1 (ts.take j)) (ts.getD j default)) = mid m1 n1 k (j + 1) ts := by
  unfold mid
  have hl : (mL m1 n1 k (ts.take j)).length = j := by rw [mL_len, List.length_take]; omega
  rw [List.set_append_right _ _ (by omega), hl, Nat.sub_self, take_one h, mL_app, List.append_assoc]
  congr 1
  rw [List.drop_eq_getElem_cons h, List.set_cons_zero]
  rfl
theorem mL_get [Inhabited T] {k j : Nat} {ts : List T} (h : j < ts.length) : (mL m1 n1 k ts).getD j default = m1 (k + nL n1 (ts.take j)) (ts.getD j default) := by
  have e : ts = ts.take j ++ (ts.getD j default :: ts.drop (j + 1)) := by
    conv => lhs; rw [← List.take_append_drop j ts, List.drop_eq_getElem_cons h]
    simp [h]
  have hl : (mL m1 n1 k (ts.take j)).length = j := by rw [mL_len, List.length_take]; omega
  have : mL m1 n1 k ts = mL m1 n1 k (ts.take j) ++ mL m1 n1 (k + nL n1 (ts.take j)) (ts.getD j default :: ts.drop (j + 1)) := by rw [← mL_app, ← e]
  rw [this, List.getD_eq_getElem?_getD, List.getElem?_append_right (by omega), hl, Nat.sub_self]
  simp [mL]
end
end Go.Proofs.Yticihnoekffelaa.Ft
