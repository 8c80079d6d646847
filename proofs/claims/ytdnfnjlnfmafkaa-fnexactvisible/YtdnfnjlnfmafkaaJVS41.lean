/- The law's marks on Heads; The law's marks on lists of Heads, Records, Batches of the call's own; The law's marks on lists of Batches of the call's own (written by gen_mark.py). -/
import Derived.Laws.BytesArg
import Derived.WalkLawsBesides
import Derived.Test.YtdnfnjlnfmafkaaRows
import Derived.Test.YtdnfnjlnfmafkaaJVS14
namespace Go.Proofs.Ytdnfnjlnfmafkaa.Mk
set_option maxRecDepth 8000
open Go.RowKit
open Recs
open ToO
set_option linter.unusedVariables false

/-- The mark of a number, as a text: its digits, f of them at most. -/
def mtF : Nat → Nat → ByteArray → ByteArray
  | 0, _, s => s
  | f + 1, n, s => if n = 0 then s else mtF f (n / 10) (strOfNums [48 + (n : Int) % 10] ++ s)
theorem mtF_same : ∀ (f g n : Nat) (s : ByteArray), n ≤ f → n ≤ g → mtF f n s = mtF g n s
  | 0, 0, n, s, _, _ => rfl
  | 0, g + 1, n, s, h, _ => by rw [mtF, mtF, if_pos (by omega)]
  | f + 1, 0, n, s, _, h => by rw [mtF, mtF, if_pos (by omega)]
  | f + 1, g + 1, n, s, h1, h2 => by
    rw [mtF, mtF]
    by_cases h : n = 0
    · rw [if_pos h, if_pos h]
    · rw [if_neg h, if_neg h, mtF_same f g (n / 10) _ (by omega) (by omega)]
def mt (k : Nat) : ByteArray := ByteArray.mk #[109] ++ mtF k k ByteArray.empty

set_option maxHeartbeats 800000 in
theorem markText_any (k : Nat) (w : World) (h0 : 0 < k) (h1 : k ≤ 4611686018427387904) :
    Calls Try.prog 29 #[.int .i64 k] w fun e w' => e = .returned (.string (mt k)) ∧ Below w.heap.size w w' := by
  have f0 : ¬ (k : Int) ≤ 0 := by omega
  go_enter Try.func29, Try.ntmps29
  go_wp2
  go_loopw [0, 3] (fun i v wr => ∃ (n : Nat) (s : ByteArray), i = .int .i64 n ∧ v = .string s ∧ n + s.size ≤ k ∧ Hid (Below w.heap.size w wr ∧ mtF n n s = mtF k k ByteArray.empty)) (fun i _ _ => (intOf i).toNat)
  case atStart => exact ⟨k, ByteArray.empty, rfl, rfl, by simp, Below.refl _ _, rfl⟩
  case round =>
    obtain ⟨n, s, rfl, rfl, hn, HQ⟩ := hrel
    by_cases hz : n = 0
    · have HE : Hid (s = mtF k k ByteArray.empty) := by have := HQ.out.2; rw [hz] at this; exact this
      have HB := Seg.hid HQ.out.1
      have f1 : ¬ (0 : Int) < (n : Int) := by omega
      have f2 : ¬ 9223372036854775807 < 1 + s.size := by omega
      clear hz
      go_wp2
      go_ret
      exact ⟨by rw [mt, ← HE.out]; rfl, HB.out⟩
    · have hp : (0 : Int) < (n : Int) := by omega
      have NX : Hid (mtF (n / 10) (n / 10) (strOfNums [48 + (n : Int) % 10] ++ s) = mtF k k ByteArray.empty) := by
        have := HQ.out.2
        obtain ⟨f, hf⟩ : ∃ f, n = f + 1 := ⟨n - 1, by omega⟩
        rw [← this]
        show _ = _
        rw [show mtF n n s = mtF (f + 1) n s by rw [hf], mtF, if_neg hz, mtF_same f (n / 10) (n / 10) _ (by omega) (by omega)]
      have BB := Seg.hid (fun x => HQ.out.1.alloc HQ.out.1.size x)
      have hcv : (convert 92 9 (.slice (some ⟨wr.heap.size, 0, none⟩) 1 1)).run Try.prog (wr.alloc (.cells #[.int .u8 (48 + (n : Int) % 10)] 5 (0, 0))) = .ok (.string (strOfNums [48 + (n : Int) % 10])) (wr.alloc (.cells #[.int .u8 (48 + (n : Int) % 10)] 5 (0, 0))) :=
        run_convert_bytes_arg (P := Try.prog) _ 92 5 Try.underlying92 Try.underlying5 wr.heap.size 0 1 1 [48 + (n : Int) % 10] rfl (fun i hi => by
          have : i = 0 := by omega
          subst this
          exact cell_of_row _ _ 0 _ _ (0, 0) (heap_alloc_new _ _)) 9 Try.underlying9
      have f3 : (strOfNums [48 + (n : Int) % 10]).size = 1 := rfl
      have f2 : ¬ 9223372036854775807 < (strOfNums [48 + (n : Int) % 10]).size + s.size := by omega
      have f4 : n / 10 + (strOfNums [48 + (n : Int) % 10] ++ s).size ≤ k := by rw [ByteArray.size_append]; omega
      clear hz f3
      go_wp2
      go_roundw
      case rel => exact ⟨n / 10, _, by go_num, rfl, f4, BB.out _, NX.out⟩
      case measure => simp [intOf]; omega

theorem markText_at (x : Int) (k : Nat) (hx : x = (k : Int)) (w : World) (h0 : 0 < k) (h1 : k ≤ 4611686018427387904) :
    Calls Try.prog 29 #[.int .i64 x] w fun e w' => e = .returned (.string (mt k)) ∧ Below w.heap.size w w' := by
  subst hx
  exact markText_any k w h0 h1

theorem markHeadS_none (A : Option Addr) (c : Nat) (k : Int) (w : World) : Calls Try.prog 30 #[.slice A 0 c, .int .i64 k] w fun e w' => e = .returned (.int .i64 k) ∧ w = w' := by
  go_enter Try.func30, Try.ntmps30
  go_wp2
  go_loop [1, 5] (fun x i => i = .int .i64 0 ∧ x = .int .i64 k) (fun _ _ => 0)
  case atStart => exact ⟨rfl, rfl⟩
  case round =>
    obtain ⟨rfl, rfl⟩ := hrel
    go_wp2
    go_ret
    exact ⟨rfl, rfl⟩

/-- How far a list of Heads is marked: j of them. -/
structure Hds (w wr : World) (g n c k j : Nat) (F : Nat → Value) : Prop where
  mine : MineC wr 94 2 g n c F
  gr : w.grownBy wr (some g)
  marks : ∀ i, i < j → F (i * 2) = .string (mt (k + 2 * i)) ∧ F (i * 2 + 1) = .string (mt (k + 2 * i + 1))
theorem grown_below {w wr w' : World} {g : Nat} (h : w.grownBy wr (some g)) (b : Below wr.heap.size wr w') : w.grownBy w' (some g) :=
  h.trans ⟨b.os, b.tape, b.output, b.size, fun k hk _ => b.block k hk⟩
theorem grown_set {w wr : World} {g q : Nat} (h : w.grownBy wr (some g)) (v : Value) : w.grownBy (wr.setCell ⟨g, q, none⟩ v) (some g) :=
  h.trans ⟨rfl, rfl, rfl, by simp, fun k _ hk => heap_setCell_other wr ⟨g, q, none⟩ k v (fun e => hk (by simp [e]))⟩

set_option maxHeartbeats 800000 in
theorem markHeadS_core (g n c k : Nat) (F0 : Nat → Value) (w : World) (hn : n ≤ 1048576) (hk : 0 < k) (hk1 : k ≤ 4000000000000000000) (hm : MineC w 94 2 g n c F0) :
    Calls Try.prog 30 #[.slice (some ⟨g, 0, none⟩) n c, .int .i64 k] w fun e w' => ∃ F, e = .returned (.int .i64 ((k + 2 * n : Nat) : Int)) ∧ Hds w w' g n c k n F := by
  have hc := hm.le
  have HM := Seg.hid hm
  clear hm
  go_enter Try.func30, Try.ntmps30
  go_wp2
  go_loopw [1, 5] (fun x i wr => ∃ (j : Nat) (F : Nat → Value), j ≤ n ∧ i = .int .i64 j ∧ x = .int .i64 ((k + 2 * j : Nat) : Int) ∧ Hds w wr g n c k j F) (fun _ i _ => n - (intOf i).toNat)
  case atStart => exact ⟨0, F0, Nat.zero_le _, rfl, rfl, HM.out, World.grownBy.refl _ _, fun i hi => absurd hi (by omega)⟩
  case round =>
    clear HM
    obtain ⟨j, F, hj, rfl, rfl, HR⟩ := hrel
    by_cases hlt : j < n
    · have h0 : (0 : Int) ≤ (j : Int) := by omega
      have h1 : (j : Int) < (n : Int) := by omega
      have HH := Seg.hid HR
      clear HR
      go_wp2_with fail
      refine (markText_any (k + 2 * j) wr (by omega) (by omega)).mono ?_
      rintro e w1 ⟨rfl, b1⟩
      have M1 := Seg.hid (HH.out.mine.keep (b1.block g HH.out.mine.lt))
      have G1 := Seg.hid (grown_below HH.out.gr b1)
      clear b1
      have d1 := M1.out.cell (j * 2) (by omega)
      have f1 := M1.out.frozen (j * 2)
      have M2 := Seg.hid (M1.out.set (j * 2) (.string (mt (k + 2 * j))))
      have G2 := Seg.hid (grown_set (q := j * 2) G1.out (.string (mt (k + 2 * j))))
      go_wp2_with fail
      refine (markText_at _ (k + 2 * j + 1) (by omega) _ (by omega) (by omega)).mono ?_
      rintro e w2 ⟨rfl, b2⟩
      have M3 := Seg.hid (M2.out.keep (b2.block g M2.out.lt))
      have G3 := Seg.hid (grown_below G2.out b2)
      clear b2 d1 f1
      have d2 := M3.out.cell (j * 2 + 1) (by omega)
      have f2 := M3.out.frozen (j * 2 + 1)
      have M4 := Seg.hid (M3.out.set (j * 2 + 1) (.string (mt (k + 2 * j + 1))))
      have G4 := Seg.hid (grown_set (q := j * 2 + 1) G3.out (.string (mt (k + 2 * j + 1))))
      go_wp2
      go_roundw
      case rel =>
        refine ⟨j + 1, _, by omega, by go_num, by go_num, M4.out, G4.out, fun i hi => ?_⟩
        have hr := HH.out.marks
        by_cases he : i = j
        · subst he; simp
        · have := hr i (by omega)
          simp [show ¬ i * 2 = j * 2 + 1 by omega, show ¬ i * 2 = j * 2 by omega, show ¬ i * 2 + 1 = j * 2 by omega, this]
      case measure => simp [intOf]; omega
    · have : j = n := by omega
      subst this
      go_wp2
      go_ret
      exact ⟨F, by go_num, HR⟩

/-- A list of Heads that bears its marks from k on. -/
def HMk (w : World) (lo b : Nat) (v : Value) (n k : Nat) : Prop := n ≤ 1048576 ∧ ∃ A c, v = .slice A n c ∧ (n = 0 ∨ ∃ g F, A = some ⟨g, 0, none⟩ ∧ lo ≤ g ∧ g < b ∧ MineC w 94 2 g n c F ∧ ∀ i, i < n → F (i * 2) = .string (mt (k + 2 * i)) ∧ F (i * 2 + 1) = .string (mt (k + 2 * i + 1)))
theorem HMk.keep {w w' : World} {lo b n k : Nat} {v : Value} (h : HMk w lo b v n k) (hk : ∀ g, lo ≤ g → g < b → w'.heap[g]? = w.heap[g]?) : HMk w' lo b v n k := by
  obtain ⟨h0, A, c, h1, h2⟩ := h
  refine ⟨h0, A, c, h1, h2.imp id ?_⟩
  rintro ⟨g, F, h3, h4, h5, h6, h7⟩
  exact ⟨g, F, h3, h4, h5, h6.keep (hk g h4 h5), h7⟩
/-- Blocks outside a window are as they were. -/
structure Win (w w' : World) (lo b : Nat) : Prop where
  os : w'.os = w.os
  tape : w'.tape = w.tape
  output : w'.output = w.output
  size : w.heap.size ≤ w'.heap.size
  block : ∀ k, k < w.heap.size → (k < lo ∨ b ≤ k) → w'.heap[k]? = w.heap[k]?
theorem Win.refl (w : World) (lo b : Nat) : Win w w lo b := ⟨rfl, rfl, rfl, Nat.le_refl _, fun _ _ _ => rfl⟩
theorem Win.set {w wr : World} {lo b g q : Nat} (h : Win w wr lo b) (h1 : lo ≤ g) (h2 : g < b) (v : Value) : Win w (wr.setCell ⟨g, q, none⟩ v) lo b :=
  ⟨h.os, h.tape, h.output, by simpa using h.size, fun k hk hw => (heap_setCell_other wr ⟨g, q, none⟩ k v (by show k ≠ g; omega)).trans (h.block k hk hw)⟩
theorem Win.below {w wr w' : World} {lo b : Nat} (h : Win w wr lo b) (hb : Below wr.heap.size wr w') : Win w w' lo b :=
  ⟨hb.os.trans h.os, hb.tape.trans h.tape, hb.output.trans h.output, Nat.le_trans h.size hb.size, fun k hk hw => (hb.block k (Nat.lt_of_lt_of_le hk h.size)).trans (h.block k hk hw)⟩
theorem Win.trans {w wr w' : World} {lo b lo' b' : Nat} (h : Win w wr lo b) (h' : Win wr w' lo' b') (h1 : lo ≤ lo') (h2 : b' ≤ b) : Win w w' lo b :=
  ⟨h'.os.trans h.os, h'.tape.trans h.tape, h'.output.trans h.output, Nat.le_trans h.size h'.size, fun k hk hw => (h'.block k (Nat.lt_of_lt_of_le hk h.size) (by omega)).trans (h.block k hk hw)⟩
theorem Win.toBelow {w w' : World} {lo b : Nat} (h : Win w w' lo b) (hl : lo ≤ w.heap.size) : Below lo w w' := ⟨h.os, h.tape, h.output, h.size, fun k hk => h.block k (by omega) (.inl hk)⟩
theorem markHeadS_any (v : Value) (lo b n k : Nat) (w : World) (hk : 0 < k) (hk1 : k ≤ 4000000000000000000) (hv : HOwn w lo b v n) :
    Calls Try.prog 30 #[v, .int .i64 k] w fun e w' => e = .returned (.int .i64 ((k + 2 * n : Nat) : Int)) ∧ HMk w' lo b v n k ∧ Win w w' lo b := by
  obtain ⟨h0, A, c, rfl, h⟩ := hv
  by_cases hz : n = 0
  · subst hz
    exact (markHeadS_none A c k w).mono fun e w' ⟨h1, h2⟩ => by
      subst h2
      exact ⟨by rw [h1]; simp, ⟨h0, A, c, rfl, .inl rfl⟩, ⟨rfl, rfl, rfl, Nat.le_refl _, fun _ _ _ => rfl⟩⟩
  obtain ⟨g, F, rfl, h3, h4, h5⟩ := h.resolve_left hz
  exact (markHeadS_core g n c k F w h0 hk hk1 h5).mono fun e w' ⟨F', h6, h7⟩ => ⟨h6, ⟨h0, _, c, rfl, .inr ⟨g, F', rfl, h3, h4, h7.mine, h7.marks⟩⟩, ⟨h7.gr.os, h7.gr.tape, h7.gr.output, h7.gr.size, fun q hq hw => h7.gr.block q hq (by simp; omega)⟩⟩

end Go.Proofs.Ytdnfnjlnfmafkaa.Mk
namespace Go.Proofs.Ytdnfnjlnfmafkaa.Ft
set_option maxRecDepth 8000
open Go.RowKit
open Recs
open ToO (MineC)
open Mk (mt markText_at)
open SegW
set_option linter.unusedVariables false
def mH1 (k : Nat) (_ : Hd) : Hd := ⟨mt k, mt (k + 1)⟩
def nH1 (_ : Hd) : Nat := 2
def mR1 (k : Nat) (r : Rec) : Rec := ⟨(k : Int), ((k : Int) + 1) % 3 == 0, mt (k + 2), ((k : Int) + 1 + 1 + 1) % 3 == 0, mt (k + 4), mL mH1 nH1 (k + 5) r.heads⟩
def nR1 (r : Rec) : Nat := 5 + nL nH1 r.heads
def mB1 (k : Nat) (t : Bat) : Bat := ⟨(k : Int), (k : Int) + 1, (k : Int) + 1 + 1, (k : Int) + 1 + 1 + 1, (k : Int) + 1 + 1 + 1 + 1, (k : Int) + 1 + 1 + 1 + 1 + 1, mL mR1 nR1 (k + 6) t.recs⟩
def nB1 (t : Bat) : Nat := 6 + nL nR1 t.recs
theorem nH_eq : ∀ hs : List Hd, nL nH1 hs = 2 * hs.length
  | [] => rfl
  | h :: t => by simp only [nL, nH_eq t, nH1, List.length_cons]; omega
theorem markHeadS_own (v : Value) (k : Nat) (S : Nat → Prop) (hs : List Hd) (w : World) (hk : 0 < k) (hk1 : k ≤ 4000000000000000000) (hv : OwnH w S v hs) :
    Calls Try.prog 30 #[v, .int .i64 k] w fun e w' => e = .returned (.int .i64 ((k + nL nH1 hs : Nat) : Int)) ∧ OwnH w' S v (mL mH1 nH1 k hs) ∧ Foot w w' S := by
  obtain ⟨h0, A, c, rfl, h⟩ := hv
  by_cases hz : hs.length = 0
  · have : hs = [] := List.length_eq_zero_iff.1 hz
    subst this
    exact (Mk.markHeadS_none A c k w).mono fun e w' ⟨h1, h2⟩ => by
      subst h2
      exact ⟨by rw [h1]; rfl, LOwn.nil _ _ _ _, Foot.refl _ _⟩
  obtain ⟨g, F, P, rfl, h3, h4, h5⟩ := h.resolve_left hz
  refine (Mk.markHeadS_core g hs.length c k F w h0 hk hk1 h5.mine).mono fun e w' ⟨F', h6, h7⟩ => ⟨by rw [h6, nH_eq], ⟨by rw [mL_len]; exact h0, _, c, by rw [mL_len], .inr ⟨g, F', P, rfl, h3, fun i hi => h4 i (by rw [mL_len] at hi; exact hi), ?_⟩⟩, ⟨h7.gr.os, h7.gr.tape, h7.gr.output, h7.gr.size, fun q hq hw => h7.gr.block q hq (fun e => hw (by simp at e; rw [e]; exact h3))⟩⟩
  rw [mL_len]
  refine ⟨h7.mine, mL_len _ _ _ _, fun i hi => ?_, fun i hi x hx => ⟨(h5.apart i hi x hx).1, Nat.lt_of_lt_of_le (h5.apart i hi x hx).2 h7.gr.size⟩, h5.disj⟩
  rw [mL_get mH1 nH1 hi, nH_eq, List.length_take, Nat.min_eq_left (Nat.le_of_lt hi)]
  exact h7.marks i hi

theorem markRecordS_none (A : Option Addr) (c : Nat) (k : Int) (w : World) : Calls Try.prog 67 #[.slice A 0 c, .int .i64 k] w fun e w' => e = .returned (.int .i64 k) ∧ w = w' := by
  go_enter Try.func67, Try.ntmps67
  go_wp2
  go_loop [1, 5] (fun x i => i = .int .i64 0 ∧ x = .int .i64 k) (fun _ _ => 0)
  case atStart => exact ⟨rfl, rfl⟩
  case round =>
    obtain ⟨rfl, rfl⟩ := hrel
    go_wp2
    go_ret
    exact ⟨rfl, rfl⟩

set_option maxHeartbeats 1600000 in
theorem markRecordS_core (g n c k : Nat) (S : Nat → Prop) (P : Nat → Nat → Prop) (F0 : Nat → Value) (rs : List Rec) (w : World) (hn : n ≤ 1048576) (hk : 0 < k) (hk1 : k + nL nR1 rs ≤ 4000000000000000000) (hSg : S g) (hSP : ∀ i, i < n → ∀ x, P i x → S x) (ho : LOpen 53 6 ER w g n c F0 P rs) :
    Calls Try.prog 67 #[.slice (some ⟨g, 0, none⟩) n c, .int .i64 k] w fun e w' => ∃ F, e = .returned (.int .i64 ((k + nL nR1 rs : Nat) : Int)) ∧ LOpen 53 6 ER w' g n c F P (mL mR1 nR1 k rs) ∧ Foot w w' S := by
  have hc := ho.mine.le
  have hlen := Seg.hid ho.len
  have HM : Hid (LOpen 53 6 ER w g n c F0 P (mid mR1 nR1 k 0 rs) ∧ Foot w w S) := ⟨by rw [mid_zero]; exact ho, Foot.refl _ _⟩
  have HSG := Seg.hid hSg; have HSP := Seg.hid hSP
  have KL : Hid (∀ j, j < n → k + nL nR1 (rs.take j) + 5 + nL nH1 (rs.getD j default).heads ≤ 4000000000000000000) := fun j hj => by
    have a1 := nL_take nR1 (ts := rs) (j := j) (by rw [hlen.out]; exact hj)
    have a2 := nL_le nR1 rs (j + 1)
    have a3 : nR1 (rs.getD j default) = 5 + nL nH1 (rs.getD j default).heads := rfl
    omega
  have KE : Hid (k + nL nR1 (rs.take n) = k + nL nR1 rs) := by show _ = _; rw [← hlen.out, List.take_length]
  clear ho hSg hSP hk1
  go_enter Try.func67, Try.ntmps67
  go_wp2
  go_loopw [1, 5] (fun x i wr => ∃ (j : Nat) (F : Nat → Value), j ≤ n ∧ i = .int .i64 j ∧ x = .int .i64 ((k + nL nR1 (rs.take j) : Nat) : Int) ∧ Hid (LOpen 53 6 ER wr g n c F P (mid mR1 nR1 k j rs) ∧ Foot w wr S)) (fun _ i _ => n - (intOf i).toNat)
  case atStart => exact ⟨0, F0, Nat.zero_le _, rfl, rfl, HM.out⟩
  case round =>
    clear HM
    obtain ⟨j, F, hj, rfl, rfl, HR⟩ := hrel
    by_cases hlt : j < n
    · have h0 : (0 : Int) ≤ (j : Int) := by omega
      have h1 : (j : Int) < (n : Int) := by omega
      obtain ⟨x, hx⟩ : ∃ x, k + nL nR1 (rs.take j) = x := ⟨_, rfl⟩
      have hxb := KL.out j hlt
      have hx0 : 0 < x := by omega
      have HX := Seg.hid hx
      rw [hx] at hxb ⊢
      clear hx
      have hgr := HR.out.1.mine.lt
      have d0 := HR.out.1.mine.cell (j * 6) (by omega)
      have f0 := HR.out.1.mine.frozen (j * 6)
      have d1 := (HR.out.1.mine.set (j * 6) (.int .i64 (x : Int))).cell (j * 6 + 1) (by omega)
      have f1 := (HR.out.1.mine.set (j * 6) (.int .i64 (x : Int))).frozen (j * 6 + 1)
      have NB : Hid (nL nH1 (rs.getD j default).heads ≤ 4000000000000000000) := by show _ ≤ _; omega
      have hxc : x + 5 ≤ 4000000000000000000 := by omega
      have HXB := Seg.hid hxb
      clear hxb
      go_wp2_with fail
      have M1 := Seg.hid ((HR.out.1.mine.set (j * 6) (.int .i64 (x : Int))).set (j * 6 + 1) (.bool (((x : Int) + 1) % 3 == 0)))
      have B1 := Seg.hid ((HR.out.2.set (q := j * 6) HSG.out (.int .i64 (x : Int))).set (q := j * 6 + 1) HSG.out (.bool (((x : Int) + 1) % 3 == 0)))
      have K1 : Hid (∀ q, q ≠ g → ((wr.setCell ⟨g, j * 6, none⟩ (.int .i64 (x : Int))).setCell ⟨g, j * 6 + 1, none⟩ (.bool (((x : Int) + 1) % 3 == 0))).heap[q]? = wr.heap[q]?) := fun q hq => by rw [heap_setCell_other _ _ _ _ hq, heap_setCell_other _ _ _ _ hq]
      clear d0 f0 d1 f1
      refine (markText_at _ (x + 2) (by omega) _ (by omega) (by omega)).mono ?_
      rintro e w1 ⟨rfl, b1⟩
      have z1 := b1.size
      simp only [World.size_setCell] at z1
      have M2 := Seg.hid (M1.out.keep (b1.block g M1.out.lt))
      have B2 := Seg.hid (B1.out.below b1)
      have K2 : Hid (∀ q, q ≠ g → q < wr.heap.size → w1.heap[q]? = wr.heap[q]?) := fun q hq hl => (b1.block q (by simpa using hl)).trans (K1.out q hq)
      clear b1
      have d2 := M2.out.cell (j * 6 + 2) (by omega)
      have f2 := M2.out.frozen (j * 6 + 2)
      have d3 := (M2.out.set (j * 6 + 2) (.string (mt (x + 2)))).cell (j * 6 + 3) (by omega)
      have f3 := (M2.out.set (j * 6 + 2) (.string (mt (x + 2)))).frozen (j * 6 + 3)
      go_wp2_with fail
      have M3 := Seg.hid ((M2.out.set (j * 6 + 2) (.string (mt (x + 2)))).set (j * 6 + 3) (.bool (((x : Int) + 1 + 1 + 1) % 3 == 0)))
      have B3 := Seg.hid ((B2.out.set (q := j * 6 + 2) HSG.out (.string (mt (x + 2)))).set (q := j * 6 + 3) HSG.out (.bool (((x : Int) + 1 + 1 + 1) % 3 == 0)))
      have K3 : Hid (∀ q, q ≠ g → q < wr.heap.size → ((w1.setCell ⟨g, j * 6 + 2, none⟩ (.string (mt (x + 2)))).setCell ⟨g, j * 6 + 3, none⟩ (.bool (((x : Int) + 1 + 1 + 1) % 3 == 0))).heap[q]? = wr.heap[q]?) := fun q hq hl => by rw [heap_setCell_other _ _ _ _ hq, heap_setCell_other _ _ _ _ hq]; exact K2.out q hq hl
      clear d2 f2 d3 f3
      refine (markText_at _ (x + 4) (by omega) _ (by omega) (by omega)).mono ?_
      rintro e w2 ⟨rfl, b2⟩
      have z2 := b2.size
      simp only [World.size_setCell] at z2
      have M4 := Seg.hid (M3.out.keep (b2.block g M3.out.lt))
      have B4 := Seg.hid (B3.out.below b2)
      have K4 : Hid (∀ q, q ≠ g → q < wr.heap.size → w2.heap[q]? = wr.heap[q]?) := fun q hq hl => (b2.block q (by simp; omega)).trans (K3.out q hq hl)
      clear b2
      have d4 := M4.out.cell (j * 6 + 4) (by omega)
      have f4 := M4.out.frozen (j * 6 + 4)
      have M5 := Seg.hid (M4.out.set (j * 6 + 4) (.string (mt (x + 4))))
      have B5 := Seg.hid (B4.out.set (q := j * 6 + 4) HSG.out (.string (mt (x + 4))))
      have K5 : Hid (∀ q, q ≠ g → q < wr.heap.size → (w2.setCell ⟨g, j * 6 + 4, none⟩ (.string (mt (x + 4)))).heap[q]? = wr.heap[q]?) := fun q hq hl => by rw [heap_setCell_other _ _ _ _ hq]; exact K4.out q hq hl
      have Z5 : Hid (wr.heap.size ≤ (w2.setCell ⟨g, j * 6 + 4, none⟩ (.string (mt (x + 4)))).heap.size) := by show _ ≤ _; simp; omega
      have E5 : Hid (OwnH wr (P j) (F (j * 6 + 5)) (rs.getD j default).heads) := by
        have := (HR.out.1.el j hlt).2
        rw [mid_get mR1 nR1 (by rw [hlen.out]; exact hlt)] at this
        exact this
      have d5 : (w2.setCell ⟨g, j * 6 + 4, none⟩ (.string (mt (x + 4)))).cell? ⟨g, j * 6 + 5, none⟩ = some (F (j * 6 + 5)) := by
        have := M5.out.cell (j * 6 + 5) (by omega)
        simp only [show ¬ j * 6 + 5 = j * 6 + 4 by omega, show ¬ j * 6 + 5 = j * 6 + 3 by omega, show ¬ j * 6 + 5 = j * 6 + 2 by omega, show ¬ j * 6 + 5 = j * 6 + 1 by omega, show ¬ j * 6 + 5 = j * 6 by omega, if_false] at this
        exact this
      have OW : Hid (OwnH (w2.setCell ⟨g, j * 6 + 4, none⟩ (.string (mt (x + 4)))) (P j) (F (j * 6 + 5)) (rs.getD j default).heads) :=
        LOwn.keep keepsH E5.out Z5.out fun q hq => K5.out q (HR.out.1.apart j hlt q hq).1 (HR.out.1.apart j hlt q hq).2
      have ST : Hid (∀ w3, OwnH w3 (P j) (F (j * 6 + 5)) (mL mH1 nH1 (x + 5) (rs.getD j default).heads) → Foot (w2.setCell ⟨g, j * 6 + 4, none⟩ (.string (mt (x + 4)))) w3 (P j) → LOpen 53 6 ER w3 g n c _ P (mid mR1 nR1 k (j + 1) rs) ∧ Foot w w3 S) := fun w3 H W => by
        rw [← mid_step mR1 nR1 (by rw [hlen.out]; exact hlt), HX.out]
        refine ⟨LOpen.step keepsR (j := j) HR.out.1 hlt (M5.out.keep (W.block g M5.out.lt (fun e => (HR.out.1.apart j hlt g e).1 rfl))) (fun i hi hij q hq => ?_) (Nat.le_trans Z5.out W.size) (fun _ _ _ => rfl) (fun y hy => ⟨(HR.out.1.apart j hlt y hy).1, Nat.lt_of_lt_of_le (HR.out.1.apart j hlt y hy).2 (Nat.le_trans Z5.out W.size)⟩) (fun i hi hij y hy => HR.out.1.disj j i hlt hi (Ne.symm hij) y hy) (fun i hi hij y hy => ?_) ⟨⟨?_, ?_, ?_, ?_, ?_⟩, ?_⟩, B5.out.trans W (HSP.out j hlt)⟩
        · rw [if_neg (by omega), if_neg (by omega), if_neg (by omega), if_neg (by omega), if_neg (by omega)]
        · have a1 := HR.out.1.apart i hi y hy
          exact (W.block y (Nat.lt_of_lt_of_le a1.2 Z5.out) (HR.out.1.disj i j hi hlt hij y hy)).trans (K5.out y a1.1 a1.2)
        · simp [mR1]
        · simp [mR1]
        · simp [mR1]
        · simp [mR1]
        · simp [mR1]
        · simp only [show ¬ j * 6 + 5 = j * 6 + 4 by omega, show ¬ j * 6 + 5 = j * 6 + 3 by omega, show ¬ j * 6 + 5 = j * 6 + 2 by omega, show ¬ j * 6 + 5 = j * 6 + 1 by omega, show ¬ j * 6 + 5 = j * 6 by omega, if_false]
          exact H
      have HKK : Hid (((x + 5 + nL nH1 (rs.getD j default).heads : Nat) : Int) = ((k + nL nR1 (rs.take (j + 1)) : Nat) : Int)) := by
        show _ = _
        rw [nL_take nR1 (by rw [hlen.out]; exact hlt), ← HX.out]
        have a3 : nR1 (rs.getD j default) = 5 + nL nH1 (rs.getD j default).heads := rfl
        omega
      obtain ⟨_, Ah, ch, hsl, _⟩ := OW.out
      have HSL := Seg.hid hsl
      rw [hsl] at d5
      clear hsl
      go_wp2_with fail
      refine (markHeadS_own _ (x + 5) (P j) (rs.getD j default).heads _ (by omega) (by omega) (HSL.out ▸ OW.out)).mono ?_
      rintro e w3 ⟨rfl, hH, hW⟩
      have S3 := Seg.hid (ST.out w3 (by rw [HSL.out]; exact hH) hW)
      rw [HKK.out]
      clear hH hW d5 d4 f4
      go_wp2
      go_roundw
      case rel => exact ⟨j + 1, _, by omega, by go_num, rfl, S3.out⟩
      case measure => simp [intOf]; omega
    · have : j = n := by omega
      subst this
      have E := HR.out
      rw [show mid mR1 nR1 k j rs = mL mR1 nR1 k rs by rw [← hlen.out]; exact mid_all _ _ _ _] at E
      have EH' := Seg.hid E
      clear E
      rw [KE.out]
      go_wp2
      go_ret
      exact ⟨F, rfl, EH'.out⟩

theorem markRecordS_own (v : Value) (k : Nat) (S : Nat → Prop) (rs : List Rec) (w : World) (hk : 0 < k) (hk1 : k + nL nR1 rs ≤ 4000000000000000000) (hv : OwnR w S v rs) :
    Calls Try.prog 67 #[v, .int .i64 k] w fun e w' => e = .returned (.int .i64 ((k + nL nR1 rs : Nat) : Int)) ∧ OwnR w' S v (mL mR1 nR1 k rs) ∧ Foot w w' S := by
  obtain ⟨h0, A, c, rfl, h⟩ := hv
  by_cases hz : rs.length = 0
  · have : rs = [] := List.length_eq_zero_iff.1 hz
    subst this
    exact (markRecordS_none A c k w).mono fun e w' ⟨h1, h2⟩ => by
      subst h2
      exact ⟨by rw [h1]; rfl, LOwn.nil _ _ _ _, Foot.refl _ _⟩
  obtain ⟨g, F, P, rfl, h3, h4, h5⟩ := h.resolve_left hz
  refine (markRecordS_core g rs.length c k S P F rs w h0 hk hk1 h3 h4 h5).mono fun e w' ⟨F', a1, a2, a3⟩ => ⟨a1, ⟨by rw [mL_len]; exact h0, _, c, by rw [mL_len], .inr ⟨g, F', P, rfl, h3, fun i hi => h4 i (by rw [mL_len] at hi; exact hi), ?_⟩⟩, a3⟩
  rw [mL_len]
  exact a2
end Go.Proofs.Ytdnfnjlnfmafkaa.Ft
namespace Go.Proofs.Ytdnfnjlnfmafkaa.Ft
set_option maxRecDepth 8000
open Go.RowKit
open Recs
open ToO (MineC)
open Mk (mt markText_at)
open SegW
set_option linter.unusedVariables false
theorem markRecordS_at (y : Int) (k : Nat) (hy : y = (k : Int)) (S : Nat → Prop) (ts : List Rec) (w : World) {v : Value} (hk : 0 < k) (hk1 : k + nL nR1 ts ≤ 4000000000000000000) (hv : OwnR w S v ts) :
    Calls Try.prog 67 #[v, .int .i64 y] w fun e w' => e = .returned (.int .i64 ((k + nL nR1 ts : Nat) : Int)) ∧ OwnR w' S v (mL mR1 nR1 k ts) ∧ Foot w w' S := by
  subst hy
  exact markRecordS_own v k S ts w hk hk1 hv
theorem markBatchS_none (A : Option Addr) (c : Nat) (k : Int) (w : World) : Calls Try.prog 52 #[.slice A 0 c, .int .i64 k] w fun e w' => e = .returned (.int .i64 k) ∧ w = w' := by
  go_enter Try.func52, Try.ntmps52
  go_wp2
  go_loop [1, 5] (fun x i => i = .int .i64 0 ∧ x = .int .i64 k) (fun _ _ => 0)
  case atStart => exact ⟨rfl, rfl⟩
  case round =>
    obtain ⟨rfl, rfl⟩ := hrel
    go_wp2
    go_ret
    exact ⟨rfl, rfl⟩

set_option maxHeartbeats 1600000 in
theorem markBatchS_core (g n c k : Nat) (S : Nat → Prop) (P : Nat → Nat → Prop) (F0 : Nat → Value) (ts : List Bat) (w : World) (hn : n ≤ 1048576) (hk : 0 < k) (hk1 : k + nL nB1 ts ≤ 4000000000000000000) (hSg : S g) (hSP : ∀ i, i < n → ∀ x, P i x → S x) (ho : LOpen 48 7 EB w g n c F0 P ts) :
    Calls Try.prog 52 #[.slice (some ⟨g, 0, none⟩) n c, .int .i64 k] w fun e w' => ∃ F, e = .returned (.int .i64 ((k + nL nB1 ts : Nat) : Int)) ∧ LOpen 48 7 EB w' g n c F P (mL mB1 nB1 k ts) ∧ Foot w w' S := by
  have hc := ho.mine.le
  have hlen := Seg.hid ho.len
  have HM : Hid (LOpen 48 7 EB w g n c F0 P (mid mB1 nB1 k 0 ts) ∧ Foot w w S) := ⟨by rw [mid_zero]; exact ho, Foot.refl _ _⟩
  have HSG := Seg.hid hSg; have HSP := Seg.hid hSP
  have KL : Hid (∀ j, j < n → k + nL nB1 (ts.take j) + 6 + nL nR1 (ts.getD j default).recs ≤ 4000000000000000000) := fun j hj => by
    have a1 := nL_take nB1 (ts := ts) (j := j) (by rw [hlen.out]; exact hj)
    have a2 := nL_le nB1 ts (j + 1)
    have a3 : nB1 (ts.getD j default) = 6 + nL nR1 (ts.getD j default).recs := rfl
    omega
  have KE : Hid (k + nL nB1 (ts.take n) = k + nL nB1 ts) := by show _ = _; rw [← hlen.out, List.take_length]
  clear ho hSg hSP hk1
  go_enter Try.func52, Try.ntmps52
  go_wp2
  go_loopw [1, 5] (fun x i wr => ∃ (j : Nat) (F : Nat → Value), j ≤ n ∧ i = .int .i64 j ∧ x = .int .i64 ((k + nL nB1 (ts.take j) : Nat) : Int) ∧ Hid (LOpen 48 7 EB wr g n c F P (mid mB1 nB1 k j ts) ∧ Foot w wr S)) (fun _ i _ => n - (intOf i).toNat)
  case atStart => exact ⟨0, F0, Nat.zero_le _, rfl, rfl, HM.out⟩
  case round =>
    clear HM
    obtain ⟨j, F, hj, rfl, rfl, HR⟩ := hrel
    by_cases hlt : j < n
    · have h0 : (0 : Int) ≤ (j : Int) := by omega
      have h1 : (j : Int) < (n : Int) := by omega
      obtain ⟨x, hx⟩ : ∃ x, k + nL nB1 (ts.take j) = x := ⟨_, rfl⟩
      have hxb := KL.out j hlt
      have hx0 : 0 < x := by omega
      have HX := Seg.hid hx
      rw [hx] at hxb ⊢
      clear hx
      have hgr := HR.out.1.mine.lt
      have hxc : x + 6 ≤ 4000000000000000000 := by omega
      have HXB := Seg.hid hxb
      clear hxb
      have d0 := (HR.out.1.mine).cell (j * 7) (by omega)
      have f0 := (HR.out.1.mine).frozen (j * 7)
      have d1 := ((HR.out.1.mine).set (j * 7) (.int .i64 ((x : Int)))).cell (j * 7 + 1) (by omega)
      have f1 := ((HR.out.1.mine).set (j * 7) (.int .i64 ((x : Int)))).frozen (j * 7 + 1)
      have d2 := (((HR.out.1.mine).set (j * 7) (.int .i64 ((x : Int)))).set (j * 7 + 1) (.int .i64 ((x : Int) + 1))).cell (j * 7 + 2) (by omega)
      have f2 := (((HR.out.1.mine).set (j * 7) (.int .i64 ((x : Int)))).set (j * 7 + 1) (.int .i64 ((x : Int) + 1))).frozen (j * 7 + 2)
      have d3 := ((((HR.out.1.mine).set (j * 7) (.int .i64 ((x : Int)))).set (j * 7 + 1) (.int .i64 ((x : Int) + 1))).set (j * 7 + 2) (.int .i64 ((x : Int) + 1 + 1))).cell (j * 7 + 3) (by omega)
      have f3 := ((((HR.out.1.mine).set (j * 7) (.int .i64 ((x : Int)))).set (j * 7 + 1) (.int .i64 ((x : Int) + 1))).set (j * 7 + 2) (.int .i64 ((x : Int) + 1 + 1))).frozen (j * 7 + 3)
      have d4 := (((((HR.out.1.mine).set (j * 7) (.int .i64 ((x : Int)))).set (j * 7 + 1) (.int .i64 ((x : Int) + 1))).set (j * 7 + 2) (.int .i64 ((x : Int) + 1 + 1))).set (j * 7 + 3) (.int .i64 ((x : Int) + 1 + 1 + 1))).cell (j * 7 + 4) (by omega)
      have f4 := (((((HR.out.1.mine).set (j * 7) (.int .i64 ((x : Int)))).set (j * 7 + 1) (.int .i64 ((x : Int) + 1))).set (j * 7 + 2) (.int .i64 ((x : Int) + 1 + 1))).set (j * 7 + 3) (.int .i64 ((x : Int) + 1 + 1 + 1))).frozen (j * 7 + 4)
      have d5 := ((((((HR.out.1.mine).set (j * 7) (.int .i64 ((x : Int)))).set (j * 7 + 1) (.int .i64 ((x : Int) + 1))).set (j * 7 + 2) (.int .i64 ((x : Int) + 1 + 1))).set (j * 7 + 3) (.int .i64 ((x : Int) + 1 + 1 + 1))).set (j * 7 + 4) (.int .i64 ((x : Int) + 1 + 1 + 1 + 1))).cell (j * 7 + 5) (by omega)
      have f5 := ((((((HR.out.1.mine).set (j * 7) (.int .i64 ((x : Int)))).set (j * 7 + 1) (.int .i64 ((x : Int) + 1))).set (j * 7 + 2) (.int .i64 ((x : Int) + 1 + 1))).set (j * 7 + 3) (.int .i64 ((x : Int) + 1 + 1 + 1))).set (j * 7 + 4) (.int .i64 ((x : Int) + 1 + 1 + 1 + 1))).frozen (j * 7 + 5)
      have M5 := Seg.hid (((((((HR.out.1.mine).set (j * 7) (.int .i64 ((x : Int)))).set (j * 7 + 1) (.int .i64 ((x : Int) + 1))).set (j * 7 + 2) (.int .i64 ((x : Int) + 1 + 1))).set (j * 7 + 3) (.int .i64 ((x : Int) + 1 + 1 + 1))).set (j * 7 + 4) (.int .i64 ((x : Int) + 1 + 1 + 1 + 1))).set (j * 7 + 5) (.int .i64 ((x : Int) + 1 + 1 + 1 + 1 + 1)))
      have B5 := Seg.hid (((((((HR.out.2).set (q := j * 7) HSG.out (.int .i64 ((x : Int)))).set (q := j * 7 + 1) HSG.out (.int .i64 ((x : Int) + 1))).set (q := j * 7 + 2) HSG.out (.int .i64 ((x : Int) + 1 + 1))).set (q := j * 7 + 3) HSG.out (.int .i64 ((x : Int) + 1 + 1 + 1))).set (q := j * 7 + 4) HSG.out (.int .i64 ((x : Int) + 1 + 1 + 1 + 1))).set (q := j * 7 + 5) HSG.out (.int .i64 ((x : Int) + 1 + 1 + 1 + 1 + 1)))
      have K5 : Hid (∀ q, q ≠ g → ((((((wr.setCell ⟨g, j * 7, none⟩ (.int .i64 ((x : Int)))).setCell ⟨g, j * 7 + 1, none⟩ (.int .i64 ((x : Int) + 1))).setCell ⟨g, j * 7 + 2, none⟩ (.int .i64 ((x : Int) + 1 + 1))).setCell ⟨g, j * 7 + 3, none⟩ (.int .i64 ((x : Int) + 1 + 1 + 1))).setCell ⟨g, j * 7 + 4, none⟩ (.int .i64 ((x : Int) + 1 + 1 + 1 + 1))).setCell ⟨g, j * 7 + 5, none⟩ (.int .i64 ((x : Int) + 1 + 1 + 1 + 1 + 1))).heap[q]? = wr.heap[q]?) := fun q hq => by rw [heap_setCell_other _ _ _ _ hq, heap_setCell_other _ _ _ _ hq, heap_setCell_other _ _ _ _ hq, heap_setCell_other _ _ _ _ hq, heap_setCell_other _ _ _ _ hq, heap_setCell_other _ _ _ _ hq]
      have Z5 : Hid (wr.heap.size ≤ ((((((wr.setCell ⟨g, j * 7, none⟩ (.int .i64 ((x : Int)))).setCell ⟨g, j * 7 + 1, none⟩ (.int .i64 ((x : Int) + 1))).setCell ⟨g, j * 7 + 2, none⟩ (.int .i64 ((x : Int) + 1 + 1))).setCell ⟨g, j * 7 + 3, none⟩ (.int .i64 ((x : Int) + 1 + 1 + 1))).setCell ⟨g, j * 7 + 4, none⟩ (.int .i64 ((x : Int) + 1 + 1 + 1 + 1))).setCell ⟨g, j * 7 + 5, none⟩ (.int .i64 ((x : Int) + 1 + 1 + 1 + 1 + 1))).heap.size) := by show _ ≤ _; simp
      have E5 : Hid (OwnR wr (P j) (F (j * 7 + 6)) (ts.getD j default).recs) := by
        have := (HR.out.1.el j hlt).2
        rw [mid_get mB1 nB1 (by rw [hlen.out]; exact hlt)] at this
        exact this
      have d6 : ((((((wr.setCell ⟨g, j * 7, none⟩ (.int .i64 ((x : Int)))).setCell ⟨g, j * 7 + 1, none⟩ (.int .i64 ((x : Int) + 1))).setCell ⟨g, j * 7 + 2, none⟩ (.int .i64 ((x : Int) + 1 + 1))).setCell ⟨g, j * 7 + 3, none⟩ (.int .i64 ((x : Int) + 1 + 1 + 1))).setCell ⟨g, j * 7 + 4, none⟩ (.int .i64 ((x : Int) + 1 + 1 + 1 + 1))).setCell ⟨g, j * 7 + 5, none⟩ (.int .i64 ((x : Int) + 1 + 1 + 1 + 1 + 1))).cell? ⟨g, j * 7 + 6, none⟩ = some (F (j * 7 + 6)) := by
        have := M5.out.cell (j * 7 + 6) (by omega)
        simp only [show ¬ j * 7 + 6 = j * 7 + 5 by omega, show ¬ j * 7 + 6 = j * 7 + 4 by omega, show ¬ j * 7 + 6 = j * 7 + 3 by omega, show ¬ j * 7 + 6 = j * 7 + 2 by omega, show ¬ j * 7 + 6 = j * 7 + 1 by omega, show ¬ j * 7 + 6 = j * 7 by omega, if_false] at this
        exact this
      have OW : Hid (OwnR ((((((wr.setCell ⟨g, j * 7, none⟩ (.int .i64 ((x : Int)))).setCell ⟨g, j * 7 + 1, none⟩ (.int .i64 ((x : Int) + 1))).setCell ⟨g, j * 7 + 2, none⟩ (.int .i64 ((x : Int) + 1 + 1))).setCell ⟨g, j * 7 + 3, none⟩ (.int .i64 ((x : Int) + 1 + 1 + 1))).setCell ⟨g, j * 7 + 4, none⟩ (.int .i64 ((x : Int) + 1 + 1 + 1 + 1))).setCell ⟨g, j * 7 + 5, none⟩ (.int .i64 ((x : Int) + 1 + 1 + 1 + 1 + 1))) (P j) (F (j * 7 + 6)) (ts.getD j default).recs) :=
        LOwn.keep keepsR E5.out Z5.out fun q hq => K5.out q (HR.out.1.apart j hlt q hq).1
      have ST : Hid (∀ w3, OwnR w3 (P j) (F (j * 7 + 6)) (mL mR1 nR1 (x + 6) (ts.getD j default).recs) → Foot ((((((wr.setCell ⟨g, j * 7, none⟩ (.int .i64 ((x : Int)))).setCell ⟨g, j * 7 + 1, none⟩ (.int .i64 ((x : Int) + 1))).setCell ⟨g, j * 7 + 2, none⟩ (.int .i64 ((x : Int) + 1 + 1))).setCell ⟨g, j * 7 + 3, none⟩ (.int .i64 ((x : Int) + 1 + 1 + 1))).setCell ⟨g, j * 7 + 4, none⟩ (.int .i64 ((x : Int) + 1 + 1 + 1 + 1))).setCell ⟨g, j * 7 + 5, none⟩ (.int .i64 ((x : Int) + 1 + 1 + 1 + 1 + 1))) w3 (P j) → LOpen 48 7 EB w3 g n c _ P (mid mB1 nB1 k (j + 1) ts) ∧ Foot w w3 S) := fun w3 H W => by
        rw [← mid_step mB1 nB1 (by rw [hlen.out]; exact hlt), HX.out]
        refine ⟨LOpen.step keepsB (j := j) HR.out.1 hlt (M5.out.keep (W.block g M5.out.lt (fun e => (HR.out.1.apart j hlt g e).1 rfl))) (fun i hi hij q hq => ?_) (Nat.le_trans Z5.out W.size) (fun _ _ _ => rfl) (fun y hy => ⟨(HR.out.1.apart j hlt y hy).1, Nat.lt_of_lt_of_le (HR.out.1.apart j hlt y hy).2 (Nat.le_trans Z5.out W.size)⟩) (fun i hi hij y hy => HR.out.1.disj j i hlt hi (Ne.symm hij) y hy) (fun i hi hij y hy => ?_) ⟨⟨?_, ?_, ?_, ?_, ?_, ?_⟩, ?_⟩, B5.out.trans W (HSP.out j hlt)⟩
        · rw [if_neg (by omega), if_neg (by omega), if_neg (by omega), if_neg (by omega), if_neg (by omega), if_neg (by omega)]
        · have a1 := HR.out.1.apart i hi y hy
          exact (W.block y (Nat.lt_of_lt_of_le a1.2 Z5.out) (HR.out.1.disj i j hi hlt hij y hy)).trans (K5.out y a1.1)
        · simp [mB1]
        · simp [mB1]
        · simp [mB1]
        · simp [mB1]
        · simp [mB1]
        · simp [mB1]
        · simp only [show ¬ j * 7 + 6 = j * 7 + 5 by omega, show ¬ j * 7 + 6 = j * 7 + 4 by omega, show ¬ j * 7 + 6 = j * 7 + 3 by omega, show ¬ j * 7 + 6 = j * 7 + 2 by omega, show ¬ j * 7 + 6 = j * 7 + 1 by omega, show ¬ j * 7 + 6 = j * 7 by omega, if_false]
          exact H
      have HKK : Hid (((x + 6 + nL nR1 (ts.getD j default).recs : Nat) : Int) = ((k + nL nB1 (ts.take (j + 1)) : Nat) : Int)) := by
        show _ = _
        rw [nL_take nB1 (by rw [hlen.out]; exact hlt), ← HX.out]
        have a3 : nB1 (ts.getD j default) = 6 + nL nR1 (ts.getD j default).recs := rfl
        omega
      have IB : Hid (x + 6 + nL nR1 (ts.getD j default).recs ≤ 4000000000000000000) := HXB.out
      obtain ⟨_, Ah, ch, hsl, _⟩ := OW.out
      have HSL := Seg.hid hsl
      rw [hsl] at d6
      clear hsl
      go_wp2_with fail
      refine (markRecordS_at _ (x + 6) (by omega) (P j) (ts.getD j default).recs _ (by omega) IB.out (HSL.out ▸ OW.out)).mono ?_
      rintro e w3 ⟨rfl, hH, hW⟩
      have S3 := Seg.hid (ST.out w3 (by rw [HSL.out]; exact hH) hW)
      rw [HKK.out]
      clear hH hW d0 d1 d2 d3 d4 d5 d6 f0 f1 f2 f3 f4 f5
      go_wp2
      go_roundw
      case rel => exact ⟨j + 1, _, by omega, by go_num, rfl, S3.out⟩
      case measure => simp [intOf]; omega
    · have : j = n := by omega
      subst this
      have E := HR.out
      rw [show mid mB1 nB1 k j ts = mL mB1 nB1 k ts by rw [← hlen.out]; exact mid_all _ _ _ _] at E
      have EH' := Seg.hid E
      clear E
      rw [KE.out]
      go_wp2
      go_ret
      exact ⟨F, rfl, EH'.out⟩

theorem markBatchS_own (v : Value) (k : Nat) (S : Nat → Prop) (ts : List Bat) (w : World) (hk : 0 < k) (hk1 : k + nL nB1 ts ≤ 4000000000000000000) (hv : OwnB w S v ts) :
    Calls Try.prog 52 #[v, .int .i64 k] w fun e w' => e = .returned (.int .i64 ((k + nL nB1 ts : Nat) : Int)) ∧ OwnB w' S v (mL mB1 nB1 k ts) ∧ Foot w w' S := by
  obtain ⟨h0, A, c, rfl, h⟩ := hv
  by_cases hz : ts.length = 0
  · have : ts = [] := List.length_eq_zero_iff.1 hz
    subst this
    exact (markBatchS_none A c k w).mono fun e w' ⟨h1, h2⟩ => by
      subst h2
      exact ⟨by rw [h1]; rfl, LOwn.nil _ _ _ _, Foot.refl _ _⟩
  obtain ⟨g, F, P, rfl, h3, h4, h5⟩ := h.resolve_left hz
  refine (markBatchS_core g ts.length c k S P F ts w h0 hk hk1 h3 h4 h5).mono fun e w' ⟨F', a1, a2, a3⟩ => ⟨a1, ⟨by rw [mL_len]; exact h0, _, c, by rw [mL_len], .inr ⟨g, F', P, rfl, h3, fun i hi => h4 i (by rw [mL_len] at hi; exact hi), ?_⟩⟩, a3⟩
  rw [mL_len]
  exact a2
theorem markBatchS_at (y : Int) (k : Nat) (hy : y = (k : Int)) (S : Nat → Prop) (ts : List Bat) (w : World) {v : Value} (hk : 0 < k) (hk1 : k + nL nB1 ts ≤ 4000000000000000000) (hv : OwnB w S v ts) :
    Calls Try.prog 52 #[v, .int .i64 y] w fun e w' => e = .returned (.int .i64 ((k + nL nB1 ts : Nat) : Int)) ∧ OwnB w' S v (mL mB1 nB1 k ts) ∧ Foot w w' S := by
  subst hy
  exact markBatchS_own v k S ts w hk hk1 hv
end Go.Proofs.Ytdnfnjlnfmafkaa.Ft
