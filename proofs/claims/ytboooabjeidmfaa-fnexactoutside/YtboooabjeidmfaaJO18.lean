/- What a query sees of sources: plain; How long the lists of a right query are, and the columns that it names: plain. -/
import Derived.Test.YtboooabjeidmfaaJO14
import Derived.Test.YtboooabjeidmfaaJO17
namespace Go.Proofs.Ytboooabjeidmfaa.YvP
set_option maxRecDepth 8000
open Go.RowKit
open Ls Lp QyP QsP QtP QuP YcP YsP YtP QsI XqP
set_option linter.unusedVariables false
def jnB (on : ByteArray) (a b : List ByteArray) : Bool := hasT a on && cOk (jnL on a b)
def jnR (on : ByteArray) (a b : List ByteArray) : List ByteArray := if hasT a on = true then jnL on a b else []
def hd (l : List ByteArray) (n : ByteArray) : Bool := (l.getD 0 default).toList == n.toList
def bsR (q : Qry) (l : List Src) : Src := if em q.jn = true then srcR l q.lk else srcR l q.jn
def bsB (q : Qry) (l : List Src) : Bool := if em q.jn = true then (srcB l q.lk true && hd (srcR l q.lk).cols q.on) else (srcB l q.jn false && hasT (srcR l q.jn).cols q.on)
theorem b_some {l : List Src} {n : ByteArray} {t : Bool} (h : srcB l n t = true) : srcR l n ∈ l := by
  unfold srcB at h
  unfold srcR
  unfold srcF at *
  cases hf : l.find? (fun s => s.name.toList == n.toList) with
  | none => rw [hf] at h; cases h
  | some s => exact List.mem_of_find?_eq_some hf
theorem b_ok {l : List Src} {n : ByteArray} {t : Bool} (hl : srcsOk l = true) (h : srcB l n t = true) : srcOk (srcR l n) = true := by
  have hm := b_some h
  simp only [srcsOk, Bool.and_eq_true] at hl
  exact List.all_eq_true.1 hl.2.1 _ hm
theorem ok_cols {s : Src} (h : srcOk s = true) : 0 < s.cols.length ∧ s.cols.length ≤ 12 := by
  simp only [srcOk, Bool.and_eq_true] at h
  have := inR_true h.2.1
  omega
/-- The columns that a query sees (or none), and whether it sees. -/
def seB (q : Qry) (l : List Src) : Bool := srcB l q.fr false && ((em q.jn && em q.lk) || (bsB q l && jnB q.on (srcR l q.fr).cols (bsR q l).cols))
def seR (q : Qry) (l : List Src) : List ByteArray := if srcB l q.fr false = true then (if (em q.jn && em q.lk) = true then (srcR l q.fr).cols else if bsB q l = true then jnR q.on (srcR l q.fr).cols (bsR q l).cols else []) else []
def colsQ (q : Qry) : List ByteArray := (colsL q.wh ++ q.gps) ++ q.gets.flatMap (fun g => colsL g.steps)
def inside (q : Qry) (l : List Src) : List ByteArray := if (qOk q && srcsOk l) = true then (if (seB q l && allT (seR q l) (colsQ q)) = true then seR q l else []) else []
end Go.Proofs.Ytboooabjeidmfaa.YvP
namespace Go.Proofs.Ytboooabjeidmfaa.YzP
set_option maxRecDepth 8000
open Go.RowKit
open Ls Lp QyP QsP QtP QuP YcP YsP YtP QsI XsP XqP YvP
set_option linter.unusedVariables false
theorem st_len {l : List Stp} (h : stepsOk l = true) : l.length ≤ 60 := by
  simp only [stepsOk, Bool.and_eq_true, decide_eq_true_eq] at h
  exact h.1
theorem gt_len {gr : Bool} {g : Gqt} (h : gtP gr g = true) : g.steps.length ≤ 60 := by
  simp only [gtP, Bool.and_eq_true] at h
  have := h.2.2.2
  split at this
  · have := of_decide_eq_true this; omega
  · exact st_len this
theorem q_len {q : Qry} (h : qOk q = true) : q.wh.length ≤ 60 ∧ q.gps.length ≤ 12 ∧ q.gets.length ≤ 8 ∧ ∀ g ∈ q.gets, g.steps.length ≤ 60 := by
  simp only [qOk, Bool.and_eq_true] at h
  obtain ⟨-, -, h3, -, h5, h6, h7⟩ := h
  refine ⟨?_, ?_, ?_, fun g hg => gt_len (List.all_eq_true.1 h7 g hg)⟩
  · rcases Bool.or_eq_true _ _ ▸ h5 with h | h
    · have := of_decide_eq_true h; omega
    · exact st_len h
  · simp only [cOk, Bool.and_eq_true, decide_eq_true_eq] at h3
    exact h3.1
  · have := inR_true h6; omega
def gcL (gs : List Gqt) : List ByteArray := gs.flatMap (fun g => colsL g.steps)
theorem cols_q (q : Qry) : colsQ q = (colsL q.wh ++ q.gps) ++ gcL q.gets := rfl
theorem gc_next {gs : List Gqt} {k : Nat} (h : k < gs.length) : gcL (gs.take (k + 1)) = gcL (gs.take k) ++ colsL (gs.getD k default).steps := by
  unfold gcL
  rw [List.take_succ_eq_append_getElem h, List.flatMap_append]
  simp [h]
theorem colsL_len (l : List Stp) : (colsL l).length ≤ l.length := by
  have := cols_len l l.length
  rwa [List.take_length] at this
theorem gc_len : ∀ (gs : List Gqt), (∀ g ∈ gs, g.steps.length ≤ 60) → (gcL gs).length ≤ 60 * gs.length
  | [], _ => by simp [gcL]
  | g :: gs, h => by
    have h1 := gc_len gs (fun x hx => h x (List.mem_cons_of_mem _ hx))
    have h2 := h g List.mem_cons_self
    have h3 := colsL_len g.steps
    unfold gcL at *
    simp only [List.flatMap_cons, List.length_append, List.length_cons]
    omega
theorem getD_mem {gs : List Gqt} {k : Nat} (h : k < gs.length) : gs.getD k default ∈ gs := by
  simp [h]
theorem gc_take {gs : List Gqt} (h : ∀ g ∈ gs, g.steps.length ≤ 60) (h8 : gs.length ≤ 8) (k : Nat) : (gcL (gs.take k)).length ≤ 480 := by
  have := gc_len (gs.take k) (fun g hg => h g (List.mem_of_mem_take hg))
  rw [List.length_take] at this
  omega
end Go.Proofs.Ytboooabjeidmfaa.YzP
