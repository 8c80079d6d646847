/- A name, in a region that draws; What the frame tells of a list that came in, of any element. -/
import Derived.ProofKit
import Derived.Deep.SlicePairs
import Derived.Test.YtkohhcjpjloaaaaJW05
import Derived.Test.YtkohhcjpjloaaaaJW04
namespace Go.Proofs.Ytkohhcjpjloaaaa.Nm
set_option maxRecDepth 8000
open Go.RowKit
theorem spec_q (s : ByteArray) (b : Bool) (hb : nameOk s = b) (w : World) (hs : s.size ≤ maxLen) : Calls Try.prog 36 #[.string s] w fun e w' => e = .returned (.bool b) ∧ w' = w :=
  (spec_any s w hs).mono fun e w' ⟨h1, h2⟩ => ⟨by rw [h1, hb], h2.symm⟩
theorem impl_q (s : ByteArray) (b : Bool) (hb : nameOk s = b) (w : World) (hs : s.size ≤ maxLen) : Calls Try.prog 25 #[.string s] w fun e w' => e = .returned (.bool b) ∧ w = w' :=
  (impl_any s w hs).mono fun e w' ⟨h1, h2⟩ => ⟨by rw [h1, hb], h2⟩
end Go.Proofs.Ytkohhcjpjloaaaa.Nm
namespace Go.Proofs.Ytkohhcjpjloaaaa.Ls
set_option maxRecDepth 8000
open Go.ChangeShapes Go.WideShapes Go.ChangeAt Go.RowKit Go.Deep
open Recs
set_option linter.unusedVariables false
/-- All blocks of a world. -/
def All (W : World) (g : Nat) : Prop := g < W.heap.size
section
variable {H : Type} {enc : TypeId × Value → H} {W : World} {sp : Nat → Bool} {held : Bool}
theorem cellsI : Try.prog.cellsOf 3 = 1 := by kernel_rfl
theorem open_list {T : Type} [Inhabited T] {E : Elt T} {Fine : T → Prop} {tS tE nf : Nat} {fuel : Nat} {cs : List Value} {x : DataW H × List MemPlace} (hK : Keeps nf E) (hnf : 0 < nf) (hU : Try.prog.underlying tS = some (.slice tE)) (hN : Try.prog.cellsOf tE = nf)
    (hel : ∀ (fuel : Nat) (cs : List Value) (x : DataW H × List MemPlace), DataW.trod enc Try.prog W 0 sp held fuel tE cs = some x → ∃ (f : Nat → Value) (u : T), (∀ q, q < nf → cs[q]? = some (f q)) ∧ E W (All W) f u ∧ Fine u)
    (h : DataW.trod enc Try.prog W 0 sp held fuel tS cs = some x) :
    ∃ (v : Value) (us : List T), cs = [v] ∧ LAt nf E W (All W) v us ∧ FineL Fine us := by
  rcases open_slice hU h with ⟨rfl, _⟩ | ⟨a, len, cap, m, n, D, Pl, rfl, _, hl, hm, hmm, _, hx⟩
  · exact ⟨_, [], rfl, LAt.nil _ _ _ _, by simp, fun i hi => by simp at hi⟩
  have hlm : len ≤ m := by rw [hmm]; split <;> omega
  rw [hN] at hx
  obtain ⟨f, hf⟩ := choose_lt (α := (Nat → Value) × T) (n := len) (p := fun i q => (∃ cs', W.cells? 0 (a.add (i * nf)) nf = some cs' ∧ ∀ j, j < nf → cs'[j]? = some (q.1 j)) ∧ E W (All W) q.1 q.2 ∧ Fine q.2) (fun i hi => by
    obtain ⟨cs', h1, h2⟩ := hx i (by omega)
    obtain ⟨f, u, hc, hh, hfi⟩ := hel _ _ _ h2
    exact ⟨(f, u), ⟨cs', h1, hc⟩, hh, hfi⟩)
  have hlen : ((List.range len).map fun i => (f i).2).length = len := by simp
  have hget : ∀ i, i < len → ((List.range len).map fun i => (f i).2).getD i default = (f i).2 := fun i hi => by simp [hi]
  refine ⟨_, (List.range len).map fun i => (f i).2, rfl, ⟨?_, some a, cap, by rw [hlen], ?_⟩, ?_, ?_⟩
  · rw [hlen]; unfold maxLen at hm; omega
  · by_cases hz : len = 0
    · left; rw [hlen]; exact hz
    · right
      obtain ⟨b, off, spot⟩ := a
      have cell : ∀ i, i < len → ∀ j, j < nf → W.cell? (((⟨b, off, spot⟩ : Addr).add (i * nf)).add j) = some ((f i).1 j) := fun i hi j hj => by
        obtain ⟨⟨cs', h1, h2⟩, _⟩ := hf i hi
        rw [(World.cells?_some h1).2.2 j hj, h2 j hj]
      have hc := cell 0 (by omega) 0 hnf
      have hspot : spot = none := by simpa [Addr.add] using World.cell?_spot hc
      subst hspot
      have hlt : b < W.heap.size := by have := World.block_lt_of_cell? W _ hc; simpa [Addr.add] using this
      refine ⟨b, off, fun i j => (f i).1 j, rfl, hlt, by rw [hlen]; exact hl, ?_, ?_⟩
      · rw [hlen]
        intro i hi j hj
        have := cell i hi j hj
        rw [add_add, Addr.add_mid, ← Nat.add_assoc] at this
        exact this
      · rw [hlen]
        intro i hi
        rw [hget i hi]
        exact (hf i hi).2.1
  · rw [hlen]; omega
  · rw [hlen]
    intro i hi
    rw [hget i hi]
    exact (hf i hi).2.2
end
end Go.Proofs.Ytkohhcjpjloaaaa.Ls
