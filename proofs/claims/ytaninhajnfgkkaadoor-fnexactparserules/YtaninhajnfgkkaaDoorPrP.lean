/- Rules out of their text, on plain data; a row of Rules of the call's own. -/
import Derived.Test.YtaninhajnfgkkaaDoorRuP
import Derived.Test.YtaninhajnfgkkaaDoorTxP
import Derived.Test.YtaninhajnfgkkaaDoorORul
namespace Go.Proofs.YtaninhajnfgkkaaDoor.PrP
set_option maxRecDepth 8000
open Go.RowKit
open Ls Lp RuP TxP
open Recs (hsz below1 below2 chain)
set_option linter.unusedVariables false
/-- The place of a word in a list, from i on; 0: it is not there. -/
def placeF (w : List UInt8) : List ByteArray → Nat → Int
  | [], _ => 0
  | x :: r, i => if x.toList = w then (i : Int) else placeF w r (i + 1)
def place (L : List ByteArray) (w : List UInt8) : Int := placeF w (L.drop 1) 1
theorem place_step {L : List ByteArray} {w : List UInt8} {k : Nat} (h : k < L.length) : placeF w (L.drop k) k = if (L.getD k ⟨#[]⟩).toList = w then (k : Int) else placeF w (L.drop (k + 1)) (k + 1) := by
  rw [List.drop_eq_getElem_cons h]
  simp [placeF, h]
def wd (ws : List (List UInt8)) (i : Nat) : List UInt8 := ws.getD i []
def star (l : List UInt8) : Bool := decide (0 < l.length) && (l.getLast? == some 42)
def mk (ws : List (List UInt8)) : Rul :=
  { deny := wd ws 0 == [100, 101, 110, 121], who := bsOf (wd ws 1), may := place mayL (wd ws 2), on := place onL (wd ws 3),
    name := if star (wd ws 4) = true then bsOf (wd ws 4).dropLast else bsOf (wd ws 4), begins := star (wd ws 4) }
def wsOk (ws : List (List UInt8)) : Bool := decide (ws.length = 5) && ((wd ws 0 == [97, 108, 108, 111, 119]) || (wd ws 0 == [100, 101, 110, 121]))
def wsOf (ln : List UInt8) : List (List UInt8) := cutF 32 ln.dropLast []
def lnOk (ln : List UInt8) (i : Nat) : Bool := (ln.getLast? == some 10) && (decide (i < 100) && (wsOk (wsOf ln) && okR (mk (wsOf ln))))
def parseF : List (List UInt8) → Nat → List Rul → List Rul × Int
  | [], _, out => (out, 0)
  | ln :: r, i, out => if lnOk ln i = true then parseF r (i + 1) (out ++ [mk (wsOf ln)]) else ([], ((i + 1 : Nat) : Int))
def parse (t : ByteArray) : List Rul × Int := if 4000 < t.size then ([], 1) else parseF (linF t.toList []) 0 []
theorem parse_step {ls : List (List UInt8)} {k : Nat} (h : k < ls.length) (out : List Rul) : parseF (ls.drop k) k out = if lnOk (ls.getD k []) k = true then parseF (ls.drop (k + 1)) (k + 1) (out ++ [mk (wsOf (ls.getD k []))]) else ([], ((k + 1 : Nat) : Int)) := by
  rw [List.drop_eq_getElem_cons h]
  simp [parseF, h]
theorem parse_end {ls : List (List UInt8)} {k : Nat} (h : ls.length ≤ k) (out : List Rul) : parseF (ls.drop k) k out = (out, 0) := by
  rw [List.drop_eq_nil_of_le h]; rfl
/-- A line is not empty. -/
theorem lin_ne : ∀ (l acc : List UInt8), ∀ x ∈ linF l acc, x ≠ []
  | [], acc, x, h => by
    rw [linF] at h
    split at h
    · cases h
    · rename_i ha
      obtain rfl := List.mem_singleton.1 h
      exact ha
  | b :: r, acc, x, h => by
    rw [linF] at h
    split at h
    · rcases List.mem_cons.1 h with rfl | h
      · simp
      · exact lin_ne r [] x h
    · exact lin_ne r (acc ++ [b]) x h
/-- No line is longer than all of it. -/
theorem lin_le : ∀ (l acc : List UInt8), ∀ x ∈ linF l acc, x.length ≤ acc.length + l.length
  | [], acc, x, h => by
    rw [linF] at h
    split at h
    · cases h
    · obtain rfl := List.mem_singleton.1 h
      simp
  | b :: r, acc, x, h => by
    rw [linF] at h
    split at h
    · rcases List.mem_cons.1 h with rfl | h
      · simp
      · have := lin_le r [] x h
        simp only [List.length_nil, List.length_cons] at this ⊢
        omega
    · have := lin_le r (acc ++ [b]) x h
      simp only [List.length_append, List.length_cons, List.length_nil] at this ⊢
      omega
theorem cut_le (c : UInt8) : ∀ (l acc : List UInt8), ∀ x ∈ cutF c l acc, x.length ≤ acc.length + l.length
  | [], acc, x, h => by
    rw [cutF] at h
    obtain rfl := List.mem_singleton.1 h
    simp
  | b :: r, acc, x, h => by
    rw [cutF] at h
    split at h
    · rcases List.mem_cons.1 h with rfl | h
      · simp
      · have := cut_le c r [] x h
        simp only [List.length_nil, List.length_cons] at this ⊢
        omega
    · have := cut_le c r (acc ++ [b]) x h
      simp only [List.length_append, List.length_cons, List.length_nil] at this ⊢
      omega
def rcells (l : List Rul) : List Value := l.flatMap fun r => (rrow r).toList
theorem rcells_len : ∀ l : List Rul, (rcells l).length = l.length * 6
  | [] => rfl
  | a :: r => by
    have h := rcells_len r
    have e : rcells (a :: r) = (rrow a).toList ++ rcells r := rfl
    rw [e, List.length_append, h]
    simp only [List.length_cons]
    show 6 + _ = _
    omega
theorem rcells_app (l : List Rul) (a : Rul) : rcells (l ++ [a]) = rcells l ++ (rrow a).toList := by simp [rcells]
theorem rcells_get {l : List Rul} {i j : Nat} (hi : i < l.length) (hj : j < 6) : (rcells l)[i * 6 + j]? = some ((rrow (l.getD i default)).toList.getD j default) := by
  induction l generalizing i with
  | nil => exact absurd hi (by simp)
  | cons a r ih =>
    have e : rcells (a :: r) = (rrow a).toList ++ rcells r := rfl
    have h6 : (rrow a).toList.length = 6 := rfl
    rw [e]
    cases i with
    | zero =>
      rw [List.getElem?_append_left (by rw [h6]; omega)]
      rw [show 0 * 6 + j = j by omega]
      match j, hj with
      | 0, _ => rfl
      | 1, _ => rfl
      | 2, _ => rfl
      | 3, _ => rfl
      | 4, _ => rfl
      | 5, _ => rfl
    | succ i =>
      rw [List.getElem?_append_right (by rw [h6]; omega), h6, show (i + 1) * 6 + j - 6 = i * 6 + j by omega]
      rw [ih (by simpa using hi)]
      rfl
abbrev RRow (w : World) (base : Nat) (v : Value) (us : List Rul) : Prop := w.ownsRow base 33 6 v us.length (rcells us)
theorem rkeep {w w' : World} {base : Nat} {v : Value} {us : List Rul} (h : RRow w base v us) (hk : ∀ g, base ≤ g → g < w.heap.size → w'.heap[g]? = w.heap[g]?) : RRow w' base v us := by
  refine ⟨h.1, ?_⟩
  rcases h.2 with hn | ⟨g', cap, cur, h1, hbs, hgg, rest⟩
  · exact .inl hn
  · exact .inr ⟨g', cap, cur, h1, hbs, by rw [hk g' hbs (Array.getElem?_eq_some_iff.1 hgg).1]; exact hgg, rest⟩
theorem rnew (w : World) (base : Nat) (hb : base ≤ w.heap.size) : RRow (w.alloc (.cells #[] 33 (0, 0))) base (.slice (some ⟨w.heap.size, 0, none⟩) 0 0) [] := ⟨rfl, .inr ⟨w.heap.size, 0, #[], rfl, hb, heap_alloc_new _ _, Nat.le_refl _, Nat.zero_le _, rfl, rfl⟩⟩
end Go.Proofs.YtaninhajnfgkkaaDoor.PrP
