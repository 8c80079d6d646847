/- The columns of what comes out: plain; Results: a struct's cell and one number, flag or list. -/
import Derived.Laws.ResultCell
import Derived.Test.YtboooabjeidmfaaJO18
import Derived.Test.YtboooabjeidmfaaJO01
namespace Go.Proofs.Ytboooabjeidmfaa.OuP
set_option maxRecDepth 8000
open Go.RowKit
open Ls Lp QyP QsP QtP QuP YcP YsP YtP QsI XsP XqP YvP YzP
set_option linter.unusedVariables false
def sT : ByteArray := ⟨#[115, 116, 97, 114, 116]⟩
def eT : ByteArray := ⟨#[101, 110, 100]⟩
def headL (q : Qry) : List ByteArray := if q.win = 0 then q.gps else q.gps ++ [sT, eT]
def outL (q : Qry) : List ByteArray := headL q ++ q.gets.map Gqt.nm
def outside (q : Qry) (l : List Src) : List ByteArray := if (inside q l).length = 0 then [] else if diff (outL q) = true then outL q else []
theorem nm_next {gs : List Gqt} {k : Nat} (h : k < gs.length) : (gs.take (k + 1)).map Gqt.nm = (gs.take k).map Gqt.nm ++ [(gs.getD k default).nm] := by
  rw [List.take_succ_eq_append_getElem h, List.map_append]
  simp [h]
theorem in_ok {q : Qry} {l : List Src} (h : ¬ (inside q l).length = 0) : qOk q = true := by
  unfold inside at h
  split at h
  · next h1 => simp only [Bool.and_eq_true] at h1; exact h1.1
  · simp at h
theorem head_len {q : Qry} (h : qOk q = true) : (headL q).length ≤ 14 := by
  have := (q_len h).2.1
  unfold headL
  split
  · omega
  · simp; omega
theorem out_len {q : Qry} (h : qOk q = true) : (outL q).length ≤ 22 := by
  have h1 := head_len h
  have h2 := (q_len h).2.2.1
  unfold outL
  rw [List.length_append, List.length_map]
  omega
theorem out_few (q : Qry) (l : List Src) : (outside q l).length ≤ 22 := by
  unfold outside
  split
  · simp
  · next h =>
    split
    · exact out_len (in_ok h)
    · simp
theorem mem_sz {q : Qry} (hz : szQry q ≤ 1048576) : ∀ n ∈ outL q, n.size ≤ 1048576 := by
  intro n hn
  unfold outL headL at hn
  have hg : ∀ m ∈ q.gps, m.size ≤ 1048576 := fun m hm => by
    obtain ⟨k, hk, rfl⟩ := List.mem_iff_getElem.1 hm
    have := szL_one ByteArray.size (sz_gps hz) hk
    simpa [hk] using this
  rcases List.mem_append.1 hn with h | h
  · split at h
    · exact hg n h
    · rcases List.mem_append.1 h with h | h
      · exact hg n h
      · simp only [List.mem_cons, List.not_mem_nil, or_false] at h
        rcases h with rfl | rfl <;> decide
  · obtain ⟨g, hgm, rfl⟩ := List.mem_map.1 h
    obtain ⟨k, hk, rfl⟩ := List.mem_iff_getElem.1 hgm
    have h1 := szL_one szGqt (sz_gets hz) hk
    have e : q.gets.getD k default = q.gets[k] := by simp [hk]
    rw [e] at h1
    unfold szGqt at h1
    omega
theorem mem_getD {ns : List ByteArray} {k : Nat} (h : k < ns.length) : ns.getD k default ∈ ns := by simp [h]
end Go.Proofs.Ytboooabjeidmfaa.OuP
namespace Go.Proofs.Ytboooabjeidmfaa.R2
set_option maxRecDepth 8000
open Go.RowKit
theorem results_row_tmp {P : Program} {fn : Func} {p u : Tmp} {ty : TypeId} (h : fn.results = #[.cell p ty, .tmp u]) (tmps : Array Value) (w : World) (g : Nat) (t : TypeId) (cs : Array Value) (fr : Nat × Nat) (d : TypeDesc)
    (x : Value) (hp : tmps.getD p undef = .pointer (some ⟨g, 0, none⟩)) (hx : tmps.getD u undef = x) (hg : w.heap[g]? = some (.cells cs t fr))
    (hu : P.underlying ty = some d) (hd : (match d with | .struct _ | .array _ _ => true | _ => false) = true) (hi : (P.info? ty).map (·.size) = some cs.size) :
    (results fn tmps).run P w = .ok (.tuple #[.agg cs, x]) w := by
  subst hx
  have hp' : tmps[p]?.getD undef = .pointer (some ⟨g, 0, none⟩) := by simpa using hp
  rw [results_cell_tmp h]
  simp [hp', asAddr, run_loadVar_row w g t ty cs fr d hg hu hd hi, Result.andThen]
end Go.Proofs.Ytboooabjeidmfaa.R2
