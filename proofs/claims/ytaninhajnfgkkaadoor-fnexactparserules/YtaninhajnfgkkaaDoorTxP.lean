/- Texts cut into pieces, on plain data; rows of texts of the call's own. -/
import Derived.Test.YtaninhajnfgkkaaDoorLsTD
import Derived.Test.YtaninhajnfgkkaaDoorLsP
import Derived.Deep.AppendLies
namespace Go.Proofs.YtaninhajnfgkkaaDoor.TxP
set_option maxRecDepth 8000
open Go.RowKit
open Ls Lp
open Recs (hsz below1 below2 chain)
set_option linter.unusedVariables false
def bsOf (l : List UInt8) : ByteArray := ⟨l.toArray⟩
theorem toList_data (t : ByteArray) : t.toList = t.data.toList := ByteArray.toList_eq t
theorem bs_toList (l : List UInt8) : (bsOf l).toList = l := by rw [toList_data]; rfl
theorem extract_eq (t : ByteArray) (a b : Nat) : t.extract a b = bsOf ((t.toList.drop a).take (b - a)) := by
  apply ByteArray.ext
  apply Array.ext'
  rw [toList_data]
  simp [bsOf, ByteArray.data_extract, Array.toList_extract, List.extract]
theorem size_list (t : ByteArray) : t.toList.length = t.size := by rw [toList_data]; rfl
theorem get_list (t : ByteArray) {k : Nat} (h : k < t.size) : t.toList.drop k = t[k] :: t.toList.drop (k + 1) := by
  have h' : k < t.toList.length := by rw [size_list]; exact h
  rw [List.drop_eq_getElem_cons h']
  congr 1
  simp only [toList_data]
  rfl
/-- The pieces between bytes that are c; acc: what the first one has so far. -/
def cutF (c : UInt8) : List UInt8 → List UInt8 → List (List UInt8)
  | [], acc => [acc]
  | b :: r, acc => if b = c then acc :: cutF c r [] else cutF c r (acc ++ [b])
/-- The lines, each with its end if it has one. -/
def linF : List UInt8 → List UInt8 → List (List UInt8)
  | [], acc => if acc = [] then [] else [acc]
  | b :: r, acc => if b = 10 then (acc ++ [b]) :: linF r [] else linF r (acc ++ [b])
theorem take_more (l : List UInt8) {m k : Nat} (b : UInt8) (r : List UInt8) (hm : m ≤ k) (h : l.drop k = b :: r) : (l.drop m).take (k + 1 - m) = (l.drop m).take (k - m) ++ [b] := by
  have e : (l.drop m).drop (k - m) = b :: r := by rw [List.drop_drop, show m + (k - m) = k by omega]; exact h
  rw [show k + 1 - m = (k - m) + 1 by omega, List.take_add_one]
  have : (l.drop m)[k - m]? = some b := by
    have := congrArg List.head? e
    rw [List.head?_drop] at this
    simpa using this
  rw [this]
  rfl
abbrev TRow (w : World) (base : Nat) (v : Value) (us : List (List UInt8)) : Prop := w.ownsRow base 9 1 v us.length (us.map fun u => Value.string (bsOf u))
theorem tkeep {w w' : World} {base : Nat} {v : Value} {us : List (List UInt8)} (h : TRow w base v us) (hk : ∀ g, base ≤ g → g < w.heap.size → w'.heap[g]? = w.heap[g]?) : TRow w' base v us := by
  refine ⟨h.1, ?_⟩
  rcases h.2 with hn | ⟨g', cap, cur, h1, hbs, hgg, rest⟩
  · exact .inl hn
  · exact .inr ⟨g', cap, cur, h1, hbs, by rw [hk g' hbs (Array.getElem?_eq_some_iff.1 hgg).1]; exact hgg, rest⟩
theorem tnew (w : World) : TRow (w.alloc (.cells #[] 9 (0, 0))) w.heap.size (.slice (some ⟨w.heap.size, 0, none⟩) 0 0) [] := ⟨rfl, .inr ⟨w.heap.size, 0, #[], rfl, Nat.le_refl _, heap_alloc_new _ _, Nat.le_refl _, Nat.zero_le _, rfl, rfl⟩⟩
theorem strs_of {w : World} {base : Nat} {v : Value} {us : List (List UInt8)} (hn : us.length ≤ 9223372036854775807) (ho : TRow w base v us) : LAt 1 EStr w (seg base w.heap.size) v (us.map bsOf) := by
  refine ⟨by simpa using hn, ?_⟩
  rw [List.length_map]
  rcases ho.2 with ⟨h1, h2⟩ | ⟨g, cap, cur, h1, h2, h3, h4, h5, h6, h7⟩
  · exact ⟨none, 0, by rw [h1, h2], .inl h2⟩
  · refine ⟨_, cap, h1, .inr ⟨g, 0, fun i _ => .string (bsOf (us.getD i default)), rfl, ⟨h2, (Array.getElem?_eq_some_iff.1 h3).1⟩, h4, fun i hi j hj => ?_, fun i hi => ?_⟩⟩
    · obtain rfl : j = 0 := by omega
      have e : cur[i]? = some (.string (bsOf (us.getD i default))) := by
        have h8 : (cur.toList.take (us.length * 1))[i]? = (us.map fun u => Value.string (bsOf u))[i]? := by rw [h7]
        rw [List.getElem?_take_of_lt (by omega)] at h8
        simpa [hi] using h8
      rw [show 0 + i * 1 + 0 = i by omega]
      simp [World.cell?, h3, e]
    · show Value.string _ = Value.string _
      simp [hi]
/-- A row of texts, opened where it has some. -/
structure Txs (w : World) (g : Nat) (us : List (List UInt8)) : Prop where
  row : us.length = 0 ∨ ∃ cur, w.heap[g]? = some (.cells cur 9 (0, 0))
  lt : us.length = 0 ∨ g < w.heap.size
  cell : ∀ i, i < us.length → w.cell? ⟨g, i, none⟩ = some (.string (bsOf (us.getD i [])))
theorem Txs.keep {w w' : World} {g : Nat} {us : List (List UInt8)} (h : Txs w g us) (hk : w'.heap[g]? = w.heap[g]?) : Txs w' g us := by
  refine ⟨h.row.imp id fun ⟨cur, hc⟩ => ⟨cur, by rw [hk]; exact hc⟩, ?_, fun i hi => by rw [World.cell?_of_block (w := w) (a := ⟨g, i, none⟩) hk]; exact h.cell i hi⟩
  rcases h.row with h0 | ⟨cur, hc⟩
  · exact .inl h0
  · exact .inr (Array.getElem?_eq_some_iff.1 (hk.trans hc)).1
theorem topen {w : World} {base : Nat} {v : Value} {us : List (List UInt8)} (h : TRow w base v us) : ∃ A c g, v = .slice A us.length c ∧ (us.length = 0 ∨ (A = some ⟨g, 0, none⟩ ∧ us.length ≤ c ∧ base ≤ g)) ∧ Txs w g us := by
  rcases h.2 with ⟨h1, h2⟩ | ⟨g, cap, cur, h1, h2, h3, h4, h5, h6, h7⟩
  · exact ⟨none, 0, 0, by rw [h1, h2], .inl h2, .inl h2, .inl h2, fun i hi => absurd hi (by omega)⟩
  · refine ⟨_, cap, g, h1, .inr ⟨rfl, h4, h2⟩, .inr ⟨cur, h3⟩, .inr (Array.getElem?_eq_some_iff.1 h3).1, fun i hi => ?_⟩
    have e : cur[i]? = some (.string (bsOf (us.getD i []))) := by
      have h8 : (cur.toList.take (us.length * 1))[i]? = (us.map fun u => Value.string (bsOf u))[i]? := by rw [h7]
      rw [List.getElem?_take_of_lt (by omega)] at h8
      simpa [hi] using h8
    simp [World.cell?, h3, e]
theorem infoZT : (Tryd.prog.info? 9).map (fun i => (i.zero, i.size, i.bytes)) = some (some (.string ByteArray.empty), 1, 16) := by kernel_rfl
end Go.Proofs.YtaninhajnfgkkaaDoor.TxP
