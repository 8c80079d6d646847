/- What may be read, on plain data. -/
import Derived.Test.YthohpaljkbnkeaaMaI
namespace Go.Proofs.Ythohpaljkbnkeaa.CrP
set_option maxRecDepth 8000
open Go.RowKit
open Ls Lp VkP VkR ScP ScS MaP MaI
set_option linter.unusedVariables false
def takes (f g : Fld) : Bool := (f.lst == g.lst) && (!g.may || f.may) && (decide (f.kind = g.kind) || (decide (f.kind = 3) && decide (g.kind = 2)))
def one (ws : List Fld) (f : Fld) : Bool := if plc ws (nms f) = -1 then f.fixd || f.may else takes f (ws.getD (plc ws (nms f)).toNat default)
def crd (r s : Sch) : Bool := (r.name.toList == s.name.toList) && r.fields.all (one s.fields)
def canR (r s : Sch) : Bool := sok r && sok s && crd r s
theorem ints_row {w : World} {B : Nat} {v : Value} {ns : List Int} (h : IRow w B v ns) (hl : ns.length ≤ 1048577) : IntsAt w (seg B w.heap.size) v ns := by
  refine ⟨by omega, ?_⟩
  rcases h.2 with ⟨rfl, h0⟩ | ⟨g, cap, cur, rfl, hb, hg, hnc, hcm, hcs, htake⟩
  · exact ⟨none, 0, by rw [h0], .inl h0⟩
  · refine ⟨_, cap, rfl, .inr ⟨g, 0, fun i _ => .int .i64 (ns.getD i default), rfl, ⟨hb, (Array.getElem?_eq_some_iff.1 hg).1⟩, hnc, fun i hi j hj => ?_, fun i hi => rfl⟩⟩
    obtain rfl : j = 0 := by omega
    have hc : cur.toList[i]? = some (.int .i64 (ns.getD i default)) := by
      have h2 : (cur.toList.take (ns.length * 1))[i]? = (ns.map (Value.int .i64))[i]? := by rw [htake]
      rw [List.getElem?_take_of_lt (by omega)] at h2
      rw [h2]
      simp [hi]
    have hc2 : cur[i]? = some (.int .i64 (ns.getD i default)) := by simpa using hc
    show w.cell? ⟨g, 0 + i * 1 + 0, none⟩ = _
    rw [show 0 + i * 1 + 0 = i by omega]
    simp [World.cell?, hg, hc2]
theorem int_cell {w w' : World} {S : Nat → Prop} {A : Option Addr} {c : Nat} {us : List Int} {g o : Nat} {F : Nat → Nat → Value} (h : Opn 1 EI w S A c us g o F) (hb : w'.heap[g]? = w.heap[g]?) {k : Nat} (hk : k < us.length) : w'.cell? ⟨g, o + k, none⟩ = some (.int .i64 (us.getD k default)) := by
  have e : F k 0 = .int .i64 (us.getD k default) := h.el k hk
  have c := h.cells k hk 0 (by omega)
  rw [e] at c
  rw [World.cell?_of_block (w := w) (a := ⟨g, o + k, none⟩) hb]
  simpa using c
theorem mtch_at {r s : Sch} {k : Nat} (h : k < r.fields.length) : (mtch r s).getD k default = plc s.fields (nms (r.fields.getD k default)) := by
  unfold mtch
  simp [h]
theorem mtch_len (r s : Sch) : (mtch r s).length = r.fields.length := by simp [mtch]
/-- No two fields of a right reader read the same. -/
theorem plc_apart {fs ws : List Fld} (h : dst [] (allN fs) = true) {i k : Nat} (hk : k < i) (hi : i < fs.length) (hp : plc ws (nms (fs.getD i default)) ≠ -1) : plc ws (nms (fs.getD k default)) ≠ plc ws (nms (fs.getD i default)) := fun e => by
  rcases plc_range ws (nms (fs.getD i default)) with h1 | ⟨h1, h2, h3⟩
  · exact hp h1
  · rcases plc_range ws (nms (fs.getD k default)) with g1 | ⟨g1, g2, g3⟩
    · rw [g1] at e; omega
    · rw [e] at g3
      unfold hs at h3
      rw [List.any_eq_true] at h3
      obtain ⟨m, hm, hme⟩ := h3
      have := apart h hk hi hm
      rw [beq_iff_eq] at hme
      unfold hs at this g3
      rw [← hme] at g3
      rw [this] at g3
      simp at g3
end Go.Proofs.Ythohpaljkbnkeaa.CrP
