/- The law's marks: of a text; of a list of numbers; the look at these; Lists of Gone: likeness. -/
import Derived.Laws.BytesArg
import Derived.WalkLawsBesides
import Derived.Test.YtidggillganafaaJS21
import Derived.Test.YtidggillganafaaJS18
namespace Go.Proofs.Ytidggillganafaa.Ow
set_option maxRecDepth 8000
open Go.RowKit
open Recs
open Ls
set_option linter.unusedVariables false
/-- The mark of a number, as a text: its digits, f of them at most. -/
def mtF : Nat → Nat → ByteArray → ByteArray
  | 0, _, s => s
  | f + 1, n, s => if n = 0 then s else mtF f (n / 10) (strOfNums [48 + (n : Int) % 10] ++ s)
theorem mtF_same : ∀ (f g n : Nat) (s : ByteArray), n ≤ f → n ≤ g → mtF f n s = mtF g n s
  | 0, 0, n, s, _, _ => rfl
  | 0, g + 1, n, s, h, _ => by rw [mtF, mtF, if_pos (by omega)]
  | f + 1, 0, n, s, _, h => by rw [mtF, mtF, if_pos (by omega)]
  | f + 1, g + 1, n, s, h1, h2 => by
    rw [mtF, mtF]
    by_cases h : n = 0
    · rw [if_pos h, if_pos h]
    · rw [if_neg h, if_neg h, mtF_same f g (n / 10) _ (by omega) (by omega)]
def mt (k : Nat) : ByteArray := ByteArray.mk #[109] ++ mtF k k ByteArray.empty

set_option maxHeartbeats 800000 in
theorem markText_any (k : Nat) (w : World) (h0 : 0 < k) (h1 : k ≤ 4611686018427387904) :
    Calls Try.prog 63 #[.int .i64 k] w fun e w' => e = .returned (.string (mt k)) ∧ Below w.heap.size w w' := by
  have f0 : ¬ (k : Int) ≤ 0 := by omega
  go_enter Try.func63, Try.ntmps63
  go_wp2
  go_loopw [0, 3] (fun i v wr => ∃ (n : Nat) (s : ByteArray), i = .int .i64 n ∧ v = .string s ∧ n + s.size ≤ k ∧ Hid (Below w.heap.size w wr ∧ mtF n n s = mtF k k ByteArray.empty)) (fun i _ _ => (intOf i).toNat)
  case atStart => exact ⟨k, ByteArray.empty, rfl, rfl, by simp, Below.refl _ _, rfl⟩
  case round =>
    obtain ⟨n, s, rfl, rfl, hn, HQ⟩ := hrel
    by_cases hz : n = 0
    · have HE : Hid (s = mtF k k ByteArray.empty) := by have := HQ.out.2; rw [hz] at this; exact this
      have HB := Seg.hid HQ.out.1
      have f1 : ¬ (0 : Int) < (n : Int) := by omega
      have f2 : ¬ 9223372036854775807 < 1 + s.size := by omega
      clear hz
      go_wp2
      go_ret
      exact ⟨by rw [mt, ← HE.out]; rfl, HB.out⟩
    · have hp : (0 : Int) < (n : Int) := by omega
      have NX : Hid (mtF (n / 10) (n / 10) (strOfNums [48 + (n : Int) % 10] ++ s) = mtF k k ByteArray.empty) := by
        have := HQ.out.2
        obtain ⟨f, hf⟩ : ∃ f, n = f + 1 := ⟨n - 1, by omega⟩
        rw [← this]
        show _ = _
        rw [show mtF n n s = mtF (f + 1) n s by rw [hf], mtF, if_neg hz, mtF_same f (n / 10) (n / 10) _ (by omega) (by omega)]
      have BB := Seg.hid (fun x => HQ.out.1.alloc HQ.out.1.size x)
      have hcv : (convert 104 9 (.slice (some ⟨wr.heap.size, 0, none⟩) 1 1)).run Try.prog (wr.alloc (.cells #[.int .u8 (48 + (n : Int) % 10)] 5 (0, 0))) = .ok (.string (strOfNums [48 + (n : Int) % 10])) (wr.alloc (.cells #[.int .u8 (48 + (n : Int) % 10)] 5 (0, 0))) :=
        run_convert_bytes_arg (P := Try.prog) _ 104 5 Try.underlying104 Try.underlying5 wr.heap.size 0 1 1 [48 + (n : Int) % 10] rfl (fun i hi => by
          have : i = 0 := by omega
          subst this
          exact cell_of_row _ _ 0 _ _ (0, 0) (heap_alloc_new _ _)) 9 Try.underlying9
      have f3 : (strOfNums [48 + (n : Int) % 10]).size = 1 := rfl
      have f2 : ¬ 9223372036854775807 < (strOfNums [48 + (n : Int) % 10]).size + s.size := by omega
      have f4 : n / 10 + (strOfNums [48 + (n : Int) % 10] ++ s).size ≤ k := by rw [ByteArray.size_append]; omega
      clear hz f3
      go_wp2
      go_roundw
      case rel => exact ⟨n / 10, _, by go_num, rfl, f4, BB.out _, NX.out⟩
      case measure => simp [intOf]; omega
theorem markText_at (x : Int) (k : Nat) (hx : x = (k : Int)) (w : World) (h0 : 0 < k) (h1 : k ≤ 4611686018427387904) :
    Calls Try.prog 63 #[.int .i64 x] w fun e w' => e = .returned (.string (mt k)) ∧ Below w.heap.size w w' := by
  subst hx
  exact markText_any k w h0 h1
end Go.Proofs.Ytidggillganafaa.Ow
namespace Go.Proofs.Ytidggillganafaa.Ls
set_option maxRecDepth 8000
open Go.RowKit
open Recs
set_option linter.unusedVariables false
theorem eqGoneS_none (A A' : Option Addr) (c c' : Nat) (w : World) :
    Calls Try.prog 12 #[.slice A 0 c, .slice A' 0 c'] w fun e w' => e = .returned (.bool true) ∧ Below w.heap.size w w' := by
  go_enter Try.func12, Try.ntmps12
  go_wp2
  go_loop [5] (fun i => i = .int .i64 0) (fun _ => 0)
  case atStart => rfl
  case round =>
    subst hrel
    go_wp2
    go_ret
    exact ⟨rfl, Below.refl _ _⟩
set_option maxHeartbeats 1600000 in
theorem eqGoneS_core (g o g' o' n c c' : Nat) (us : List Gon) (F F' : Nat → Nat → Value) (w : World) (S S' : Nat → Prop) (hn : n ≤ 9223372036854775807) (hc : n ≤ c) (hc' : n ≤ c') (hg : g < w.heap.size) (hg' : g' < w.heap.size) (hS : ∀ g, S g → g < w.heap.size) (hS' : ∀ g, S' g → g < w.heap.size)
    (he : ∀ i, i < n → EGon w S (F i) (us.getD i default)) (he' : ∀ i, i < n → EGon w S' (F' i) (us.getD i default))
    (ha : ∀ i, i < n → ∀ j, j < 3 → w.cell? ⟨g, o + i * 3 + j, none⟩ = some (F i j)) (ha' : ∀ i, i < n → ∀ j, j < 3 → w.cell? ⟨g', o' + i * 3 + j, none⟩ = some (F' i j)) :
    Calls Try.prog 12 #[.slice (some ⟨g, o, none⟩) n c, .slice (some ⟨g', o', none⟩) n c'] w fun e w' => e = .returned (.bool true) ∧ Below w.heap.size w w' := by
  have HA := Seg.hid ha; have HA' := Seg.hid ha'; have HH := Seg.hid he; have HH' := Seg.hid he'
  clear ha ha' he he'
  go_enter Try.func12, Try.ntmps12
  go_wp2
  go_loopw [5] (fun i wr => ∃ (k : Nat), k ≤ n ∧ i = .int .i64 k ∧ Hid (Below w.heap.size w wr)) (fun i _ => n - (intOf i).toNat)
  case atStart => exact ⟨0, Nat.zero_le _, rfl, Below.refl _ _⟩
  case round =>
    obtain ⟨k, hk, rfl, HB⟩ := hrel
    by_cases hlt2 : k < n
    · have CL := cells_later HA.out HB.out hg
      have CL' := cells_later HA'.out HB.out hg'
      have c0 : wr.cell? ⟨g, o + k * 3, none⟩ = some (F k 0) := CL k ‹k < n› 0 (by omega)
      have c1 : wr.cell? ⟨g, o + k * 3 + 1, none⟩ = some (F k 1) := CL k ‹k < n› 1 (by omega)
      have c2 : wr.cell? ⟨g, o + k * 3 + 2, none⟩ = some (F k 2) := CL k ‹k < n› 2 (by omega)
      have d0 : wr.cell? ⟨g', o' + k * 3, none⟩ = some (F' k 0) := CL' k ‹k < n› 0 (by omega)
      have d1 : wr.cell? ⟨g', o' + k * 3 + 1, none⟩ = some (F' k 1) := CL' k ‹k < n› 1 (by omega)
      have d2 : wr.cell? ⟨g', o' + k * 3 + 2, none⟩ = some (F' k 2) := CL' k ‹k < n› 2 (by omega)
      clear CL CL'
      have RA : Hid (GonAt wr.drew S (.agg (arrGon (F k))) (us.getD k default)) := ⟨_, rfl, keepsGon _ _ _ _ _ _ (HH.out k hlt2) (fun g hg => HB.out.drew.block g (hS g hg)) (fun _ _ => rfl)⟩
      have RB : Hid (GonAt wr.drew S' (.agg (arrGon (F' k))) (us.getD k default)) := ⟨_, rfl, keepsGon _ _ _ _ _ _ (HH'.out k hlt2) (fun g hg => HB.out.drew.block g (hS' g hg)) (fun _ _ => rfl)⟩
      have hbr : Hid (∀ g, S g → g < wr.drew.heap.size) := fun g hg => Nat.lt_of_lt_of_le (hS g hg) HB.out.size
      have hbr' : Hid (∀ g, S' g → g < wr.drew.heap.size) := fun g hg => Nat.lt_of_lt_of_le (hS' g hg) HB.out.size
      have h0 : (0 : Int) ≤ (k : Int) := by omega
      have h1 : (k : Int) < (n : Int) := by omega
      generalize us.getD k default = uk at *
      go_wp2_with fail
      go_region_with (go_at_call 25; refine (eqGone_any _ _ uk wr.drew S S' RA.out RB.out hbr.out hbr'.out).mono ?_; rintro e w1 ⟨rfl, b1⟩; have B1 : Hid (Below w.heap.size w w1) := chainD HB.out b1; clear b1)
      all_goals
        go_wp2
        go_roundw
        case rel => exact ⟨k + 1, by omega, by go_num, B1.out⟩
        case measure => simp [intOf]; omega
    · have : k = n := by omega
      subst this
      go_wp2
      go_ret
      exact ⟨rfl, HB.out⟩
theorem eqGoneS_any (v v' : Value) (us : List Gon) (w : World) (S S' : Nat → Prop) (hv : LAt 3 EGon w S v us) (hv' : LAt 3 EGon w S' v' us) (hS : ∀ g, S g → g < w.heap.size) (hS' : ∀ g, S' g → g < w.heap.size) :
    Calls Try.prog 12 #[v, v'] w fun e w' => e = .returned (.bool true) ∧ Below w.heap.size w w' := by
  obtain ⟨hn, A, c, rfl, h⟩ := hv
  obtain ⟨_, A', c', rfl, h'⟩ := hv'
  by_cases hz : us.length = 0
  · rw [hz]
    exact eqGoneS_none A A' c c' w
  obtain ⟨g, o, F, rfl, hg, hc, hcell, hel⟩ := h.resolve_left hz
  obtain ⟨g', o', F', rfl, hg', hc', hcell', hel'⟩ := h'.resolve_left hz
  exact eqGoneS_core g o g' o' us.length c c' us F F' w S S' hn hc hc' (hS g hg) (hS' g' hg') hS hS' hel hel' hcell hcell'
end Go.Proofs.Ytidggillganafaa.Ls
