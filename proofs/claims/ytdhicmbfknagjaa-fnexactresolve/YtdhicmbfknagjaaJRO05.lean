/- The law's marks: of a text; of a list of numbers; the look at these; Item: how it lies in memory; what the law's measure and copier answer. -/
import Derived.Laws.BytesArg
import Derived.WalkLawsBesides
import Derived.Test.YtdhicmbfknagjaaJRO03
namespace Go.Proofs.Ytdhicmbfknagjaa.Ow
set_option maxRecDepth 8000
open Go.RowKit
open Recs
open Ls
set_option linter.unusedVariables false
/-- The mark of a number, as a text: its digits, f of them at most. -/
def mtF : Nat → Nat → ByteArray → ByteArray
  | 0, _, s => s
  | f + 1, n, s => if n = 0 then s else mtF f (n / 10) (strOfNums [48 + (n : Int) % 10] ++ s)
theorem mtF_same : ∀ (f g n : Nat) (s : ByteArray), n ≤ f → n ≤ g → mtF f n s = mtF g n s
  | 0, 0, n, s, _, _ => rfl
  | 0, g + 1, n, s, h, _ => by rw [mtF, mtF, if_pos (by omega)]
  | f + 1, 0, n, s, _, h => by rw [mtF, mtF, if_pos (by omega)]
  | f + 1, g + 1, n, s, h1, h2 => by
    rw [mtF, mtF]
    by_cases h : n = 0
    · rw [if_pos h, if_pos h]
    · rw [if_neg h, if_neg h, mtF_same f g (n / 10) _ (by omega) (by omega)]
def mt (k : Nat) : ByteArray := ByteArray.mk #[109] ++ mtF k k ByteArray.empty

set_option maxHeartbeats 800000 in
theorem markText_any (k : Nat) (w : World) (h0 : 0 < k) (h1 : k ≤ 4611686018427387904) :
    Calls Try.prog 62 #[.int .i64 k] w fun e w' => e = .returned (.string (mt k)) ∧ Below w.heap.size w w' := by
  have f0 : ¬ (k : Int) ≤ 0 := by omega
  go_enter Try.func62, Try.ntmps62
  go_wp2
  go_loopw [0, 3] (fun i v wr => ∃ (n : Nat) (s : ByteArray), i = .int .i64 n ∧ v = .string s ∧ n + s.size ≤ k ∧ Hid (Below w.heap.size w wr ∧ mtF n n s = mtF k k ByteArray.empty)) (fun i _ _ => (intOf i).toNat)
  case atStart => exact ⟨k, ByteArray.empty, rfl, rfl, by simp, Below.refl _ _, rfl⟩
  case round =>
    obtain ⟨n, s, rfl, rfl, hn, HQ⟩ := hrel
    by_cases hz : n = 0
    · have HE : Hid (s = mtF k k ByteArray.empty) := by have := HQ.out.2; rw [hz] at this; exact this
      have HB := Seg.hid HQ.out.1
      have f1 : ¬ (0 : Int) < (n : Int) := by omega
      have f2 : ¬ 9223372036854775807 < 1 + s.size := by omega
      clear hz
      go_wp2
      go_ret
      exact ⟨by rw [mt, ← HE.out]; rfl, HB.out⟩
    · have hp : (0 : Int) < (n : Int) := by omega
      have NX : Hid (mtF (n / 10) (n / 10) (strOfNums [48 + (n : Int) % 10] ++ s) = mtF k k ByteArray.empty) := by
        have := HQ.out.2
        obtain ⟨f, hf⟩ : ∃ f, n = f + 1 := ⟨n - 1, by omega⟩
        rw [← this]
        show _ = _
        rw [show mtF n n s = mtF (f + 1) n s by rw [hf], mtF, if_neg hz, mtF_same f (n / 10) (n / 10) _ (by omega) (by omega)]
      have BB := Seg.hid (fun x => HQ.out.1.alloc HQ.out.1.size x)
      have hcv : (convert 52 9 (.slice (some ⟨wr.heap.size, 0, none⟩) 1 1)).run Try.prog (wr.alloc (.cells #[.int .u8 (48 + (n : Int) % 10)] 5 (0, 0))) = .ok (.string (strOfNums [48 + (n : Int) % 10])) (wr.alloc (.cells #[.int .u8 (48 + (n : Int) % 10)] 5 (0, 0))) :=
        run_convert_bytes_arg (P := Try.prog) _ 52 5 Try.underlying52 Try.underlying5 wr.heap.size 0 1 1 [48 + (n : Int) % 10] rfl (fun i hi => by
          have : i = 0 := by omega
          subst this
          exact cell_of_row _ _ 0 _ _ (0, 0) (heap_alloc_new _ _)) 9 Try.underlying9
      have f3 : (strOfNums [48 + (n : Int) % 10]).size = 1 := rfl
      have f2 : ¬ 9223372036854775807 < (strOfNums [48 + (n : Int) % 10]).size + s.size := by omega
      have f4 : n / 10 + (strOfNums [48 + (n : Int) % 10] ++ s).size ≤ k := by rw [ByteArray.size_append]; omega
      clear hz f3
      go_wp2
      go_roundw
      case rel => exact ⟨n / 10, _, by go_num, rfl, f4, BB.out _, NX.out⟩
      case measure => simp [intOf]; omega
theorem markText_at (x : Int) (k : Nat) (hx : x = (k : Int)) (w : World) (h0 : 0 < k) (h1 : k ≤ 4611686018427387904) :
    Calls Try.prog 62 #[.int .i64 x] w fun e w' => e = .returned (.string (mt k)) ∧ Below w.heap.size w w' := by
  subst hx
  exact markText_any k w h0 h1
end Go.Proofs.Ytdhicmbfknagjaa.Ow
namespace Go.Proofs.Ytdhicmbfknagjaa.Ls
set_option maxRecDepth 8000
open Go.RowKit
open Recs
set_option linter.unusedVariables false
structure Itm where
  num : Int
  text : ByteArray
  deriving Inhabited
def EItm : Elt Itm := fun w S f u => f 0 = .int .i64 u.num ∧ f 1 = .string u.text
theorem keepsItm : Keeps 2 EItm := fun w w' S f f' t h hk hf => by
  obtain ⟨h0, h1⟩ := h
  exact ⟨by rw [hf 0 (by omega)]; exact h0, by rw [hf 1 (by omega)]; exact h1⟩
theorem growsItm : Grows EItm := fun w S S' f t h hs => by
  obtain ⟨h0, h1⟩ := h
  exact ⟨h0, h1⟩
def arrItm (f : Nat → Value) : Array Value := #[f 0, f 1]
theorem oneItm {w : World} {S : Nat → Prop} {f : Nat → Value} {u : Itm} (h : EItm w S f u) : (arrItm f).all (·.oneCell') = true := by
  obtain ⟨h0, h1⟩ := h
  have o0 : (f 0).oneCell' = true := by rw [h0]; rfl
  have o1 : (f 1).oneCell' = true := by rw [h1]; rfl
  simp [arrItm, o0, o1]
def ItmAt (w : World) (S : Nat → Prop) (v : Value) (u : Itm) : Prop := ∃ f, v = .agg (arrItm f) ∧ EItm w S f u
abbrev ItmsAt := LAt 2 EItm
theorem ItmAt.keep {w w' : World} {S : Nat → Prop} {v : Value} {u : Itm} (h : ItmAt w S v u) (hk : ∀ g, S g → w'.heap[g]? = w.heap[g]?) : ItmAt w' S v u := by
  obtain ⟨f, h1, h2⟩ := h
  exact ⟨f, h1, keepsItm _ _ _ _ _ _ h2 hk (fun _ _ => rfl)⟩
theorem ItmAt.mono {w : World} {S S' : Nat → Prop} {v : Value} {u : Itm} (h : ItmAt w S v u) (hs : ∀ g, S g → S' g) : ItmAt w S' v u := by
  obtain ⟨f, h1, h2⟩ := h
  exact ⟨f, h1, growsItm _ _ _ _ _ h2 hs⟩
theorem ItmAt.below {w w' : World} {B : Nat} {S : Nat → Prop} {v : Value} {u : Itm} (h : ItmAt w S v u) (hb : Below B w w') (hs : ∀ g, S g → g < B) : ItmAt w' S v u := h.keep fun g hg => hb.block g (hs g hg)
def szItm (u : Itm) : Nat := u.text.size
def FineItm (u : Itm) : Prop := I64 u.num ∧ u.text.size ≤ maxLen
theorem infoItm : (Try.prog.info? 99).map (·.size) = some 2 := by kernel_rfl
theorem infoLItm : (Try.prog.info? 175).map (·.size) = some 2 := by kernel_rfl
theorem infoZItm : (Try.prog.info? 99).map (fun i => (i.zero, i.size, i.bytes)) = some (some (.agg #[.int .i64 0, .string ByteArray.empty]), 2, 24) := by kernel_rfl
set_option maxHeartbeats 800000 in
theorem szItem_any (v : Value) (u : Itm) (l : Int) (w : World) (S : Nat → Prop) (h3 : -1 ≤ l) (h4 : l ≤ 1048576) (hv : ItmAt w S v u) (hS : ∀ g, S g → g < w.heap.size) (hf : FineItm u) :
    Calls Try.prog 122 #[v, .int .i64 l] w fun e w' => ∃ q, e = .returned (.int .i64 q) ∧ -1 ≤ q ∧ q ≤ l ∧ Lf l (szItm u) q ∧ Below w.heap.size w w' := by
  obtain ⟨f, rfl, y0, y1⟩ := hv
  try simp only [arrItm]
  rw [show f 0 = _ from y0]
  clear y0
  rw [show f 1 = _ from y1]
  clear y1
  obtain ⟨z0, z1⟩ := hf
  unfold maxLen at z1
  clear z0
  go_enter Try.func122, Try.ntmps122
  by_cases k1 : l - (u.text.size : Int) < 0
  · go_wp2
    go_ret
    exact ⟨_, rfl, by omega, by omega, by simp only [szItm]; exact ⟨fun _ => by omega, fun _ => by omega⟩, below1 _ _⟩
  go_wp2
  go_ret
  exact ⟨_, rfl, by omega, by omega, by simp only [szItm]; exact ⟨fun _ => by omega, fun _ => by omega⟩, below1 _ _⟩
set_option maxHeartbeats 1600000 in
theorem toItem_any (v : Value) (u : Itm) (w : World) (S : Nat → Prop) (hv : ItmAt w S v u) (hS : ∀ g, S g → g < w.heap.size) (hf : szItm u ≤ 1048576) :
    Calls Try.prog 123 #[v] w fun e w' => ∃ v', e = .returned v' ∧ ItmAt w' (seg w.heap.size w'.heap.size) v' u ∧ Below w.heap.size w w' := by
  obtain ⟨f, rfl, y0, y1⟩ := hv
  try simp only [arrItm]
  rw [show f 0 = _ from y0]
  clear y0
  rw [show f 1 = _ from y1]
  clear y1
  go_enter Try.func123, Try.ntmps123
  go_wp2
  exact bodyPost_ret (v := .agg #[.int .i64 u.num, .string u.text]) (results_cell_row rfl _ _ (w.heap.size + 1) _ _ _ _ rfl (at3 _ _ _ _) Try.underlying99 rfl infoItm) rfl ⟨_, rfl, ⟨fun q => if q = 0 then .int .i64 u.num else .string u.text, rfl, rfl, rfl⟩, below3 _ _ _ _⟩
set_option maxHeartbeats 1600000 in
theorem eqItem_any (v v' : Value) (u : Itm) (w : World) (S S' : Nat → Prop) (hv : ItmAt w S v u) (hv' : ItmAt w S' v' u) (hS : ∀ g, S g → g < w.heap.size) (hS' : ∀ g, S' g → g < w.heap.size) :
    Calls Try.prog 125 #[v, v'] w fun e w' => e = .returned (.bool true) ∧ Below w.heap.size w w' := by
  obtain ⟨f, rfl, y0, y1⟩ := hv
  obtain ⟨f', rfl, y0', y1'⟩ := hv'
  try simp only [arrItm]
  rw [show f 0 = _ from y0]
  clear y0
  rw [show f 1 = _ from y1]
  clear y1
  try simp only [arrItm]
  rw [show f' 0 = _ from y0']
  clear y0'
  rw [show f' 1 = _ from y1']
  clear y1'
  go_enter Try.func125, Try.ntmps125
  go_wp2
  go_ret
  exact ⟨rfl, below2 _ _ _⟩
end Go.Proofs.Ytdhicmbfknagjaa.Ls
