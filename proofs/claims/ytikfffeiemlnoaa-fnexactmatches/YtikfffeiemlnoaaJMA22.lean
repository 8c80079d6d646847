/- What may be read, on plain data; The program's Matches. -/
import Derived.Test.YtikfffeiemlnoaaJMA21
namespace Go.Proofs.Ytikfffeiemlnoaa.CrP
set_option maxRecDepth 8000
open Go.RowKit
open Ls Lp VkP VkR ScP ScS MaP MaI
set_option linter.unusedVariables false
def takes (f g : Fld) : Bool := (f.lst == g.lst) && (!g.may || f.may) && (decide (f.kind = g.kind) || (decide (f.kind = 3) && decide (g.kind = 2)))
def one (ws : List Fld) (f : Fld) : Bool := if plc ws (nms f) = -1 then f.fixd || f.may else takes f (ws.getD (plc ws (nms f)).toNat default)
def crd (r s : Sch) : Bool := (r.name.toList == s.name.toList) && r.fields.all (one s.fields)
def canR (r s : Sch) : Bool := sok r && sok s && crd r s
theorem ints_row {w : World} {B : Nat} {v : Value} {ns : List Int} (h : IRow w B v ns) (hl : ns.length ≤ 1048577) : IntsAt w (seg B w.heap.size) v ns := by
  refine ⟨by omega, ?_⟩
  rcases h.2 with ⟨rfl, h0⟩ | ⟨g, cap, cur, rfl, hb, hg, hnc, hcm, hcs, htake⟩
  · exact ⟨none, 0, by rw [h0], .inl h0⟩
  · refine ⟨_, cap, rfl, .inr ⟨g, 0, fun i _ => .int .i64 (ns.getD i default), rfl, ⟨hb, (Array.getElem?_eq_some_iff.1 hg).1⟩, hnc, fun i hi j hj => ?_, fun i hi => rfl⟩⟩
    obtain rfl : j = 0 := by omega
    have hc : cur.toList[i]? = some (.int .i64 (ns.getD i default)) := by
      have h2 : (cur.toList.take (ns.length * 1))[i]? = (ns.map (Value.int .i64))[i]? := by rw [htake]
      rw [List.getElem?_take_of_lt (by omega)] at h2
      rw [h2]
      simp [hi]
    have hc2 : cur[i]? = some (.int .i64 (ns.getD i default)) := by simpa using hc
    show w.cell? ⟨g, 0 + i * 1 + 0, none⟩ = _
    rw [show 0 + i * 1 + 0 = i by omega]
    simp [World.cell?, hg, hc2]
theorem int_cell {w w' : World} {S : Nat → Prop} {A : Option Addr} {c : Nat} {us : List Int} {g o : Nat} {F : Nat → Nat → Value} (h : Opn 1 EI w S A c us g o F) (hb : w'.heap[g]? = w.heap[g]?) {k : Nat} (hk : k < us.length) : w'.cell? ⟨g, o + k, none⟩ = some (.int .i64 (us.getD k default)) := by
  have e : F k 0 = .int .i64 (us.getD k default) := h.el k hk
  have c := h.cells k hk 0 (by omega)
  rw [e] at c
  rw [World.cell?_of_block (w := w) (a := ⟨g, o + k, none⟩) hb]
  simpa using c
theorem mtch_at {r s : Sch} {k : Nat} (h : k < r.fields.length) : (mtch r s).getD k default = plc s.fields (nms (r.fields.getD k default)) := by
  unfold mtch
  simp [h]
theorem mtch_len (r s : Sch) : (mtch r s).length = r.fields.length := by simp [mtch]
/-- No two fields of a right reader read the same. -/
theorem plc_apart {fs ws : List Fld} (h : dst [] (allN fs) = true) {i k : Nat} (hk : k < i) (hi : i < fs.length) (hp : plc ws (nms (fs.getD i default)) ≠ -1) : plc ws (nms (fs.getD k default)) ≠ plc ws (nms (fs.getD i default)) := fun e => by
  rcases plc_range ws (nms (fs.getD i default)) with h1 | ⟨h1, h2, h3⟩
  · exact hp h1
  · rcases plc_range ws (nms (fs.getD k default)) with g1 | ⟨g1, g2, g3⟩
    · rw [g1] at e; omega
    · rw [e] at g3
      unfold hs at h3
      rw [List.any_eq_true] at h3
      obtain ⟨m, hm, hme⟩ := h3
      have := apart h hk hi hm
      rw [beq_iff_eq] at hme
      unfold hs at this g3
      rw [← hme] at g3
      rw [this] at g3
      simp at g3
end Go.Proofs.Ytikfffeiemlnoaa.CrP
namespace Go.Proofs.Ytikfffeiemlnoaa.MaJ
set_option maxRecDepth 8000
open Go.RowKit
open Ls Lp VkP VkR ScP ScM ScN ScI ScS MaP MaI CrP
open Recs (hsz below1 below2 below3 chain chainD)
set_option linter.unusedVariables false
theorem irow_nil {w : World} {B : Nat} (hB : B ≤ w.heap.size) : IRow (w.alloc (.cells #[] 3 (0, 0))) B (.slice (some ⟨w.heap.size, 0, none⟩) 0 0) [] :=
  ⟨rfl, .inr ⟨w.heap.size, 0, #[], rfl, hB, heap_alloc_new _ _, by simp, by unfold maxLen; omega, rfl, rfl⟩⟩
theorem irow_low {w : World} {B B' : Nat} {v : Value} {ns : List Int} (h : IRow w B v ns) (hB : B' ≤ B) : IRow w B' v ns := by
  refine ⟨h.1, ?_⟩
  rcases h.2 with ⟨h1, h2⟩ | ⟨g, cap, cur, h1, hb', hg, q⟩
  · exact .inl ⟨h1, h2⟩
  · exact .inr ⟨g, cap, cur, h1, by omega, hg, q⟩
set_option maxHeartbeats 1600000 in
theorem impl_any (x y : Value) (r s : Sch) (w : World) (S : Nat → Prop) (hx : SchAt w S x r) (hy : SchAt w S y s) (hS : ∀ g, S g → g < w.heap.size) (hfr : szSch r ≤ 1048576) (hfs : szSch s ≤ 1048576) :
    Calls Try.prog 25 #[x, y] w fun e w' => ∃ v, e = .returned v ∧ IRow w' w.heap.size v (matchL r s) ∧ Below w.heap.size w w' := by
  have HX := Seg.hid hx
  have HY := Seg.hid hy
  obtain ⟨A0, c0, rfl, -⟩ := formS hx
  obtain ⟨A2, c2, rfl, -⟩ := formS hy
  clear hx hy
  have C1 : Hid (∀ wx, Below w.heap.size w wx → Calls Try.prog 22 #[.agg (srow r A0 c0)] wx fun e w' => e = .returned (.bool (sok r)) ∧ Below wx.heap.size wx w') := fun wx b => ScI.impl_any _ r wx S (HX.out.below b hS) (fun g hg => Nat.lt_of_lt_of_le (hS g hg) b.size) hfr
  have C2 : Hid (∀ wx, Below w.heap.size w wx → Calls Try.prog 22 #[.agg (srow s A2 c2)] wx fun e w' => e = .returned (.bool (sok s)) ∧ Below wx.heap.size wx w') := fun wx b => ScI.impl_any _ s wx S (HY.out.below b hS) (fun g hg => Nat.lt_of_lt_of_le (hS g hg) b.size) hfs
  have C3 : Hid (sok r = true → sok s = true → ∀ wx, Below w.heap.size w wx → Calls Try.prog 59 #[.agg (srow r A0 c0), .agg (srow s A2 c2)] wx fun e w' => ∃ v, e = .returned v ∧ IRow w' wx.heap.size v (mtch r s) ∧ Below wx.heap.size wx w') := fun h1 h2 wx b => matches_any _ _ r s wx S (HX.out.below b hS) (HY.out.below b hS) (fun g hg => Nat.lt_of_lt_of_le (hS g hg) b.size) hfr hfs h1 h2
  have R0 : Hid (matchL r s = if (sok r && sok s) = true then mtch r s else []) := rfl
  go_enter Try.func25, Try.ntmps25
  go_wp2_with fail
  refine (C1.out _ (below2 w _ _)).mono ?_
  rintro e w1 ⟨rfl, b1⟩
  have B1 := Seg.hid (chain (below2 w _ _) b1)
  have P1 : Hid (w1.heap[w.heap.size]? = some (.cells (srow r A0 c0) 50 (0, 0))) := (b1.block w.heap.size (by rw [hsz, hsz]; omega)).trans (at2z w _ _)
  have P2 : Hid (w1.heap[w.heap.size + 1]? = some (.cells (srow s A2 c2) 50 (0, 0))) := (b1.block (w.heap.size + 1) (by rw [hsz, hsz]; omega)).trans (at2y w _ _)
  have s1 : w.heap.size + 1 < w1.heap.size := (Array.getElem?_eq_some_iff.1 P2.out).1
  have p2 : w1.cell? ⟨w.heap.size + 1, 0, none⟩ = some (.string s.name) := cell_of_row w1 _ 0 _ _ (0, 0) P2.out
  have p3 : w1.cell? ⟨w.heap.size + 1, 1, none⟩ = some (.slice A2 s.fields.length c2) := cell_of_row w1 _ 1 _ _ (0, 0) P2.out
  clear b1
  cases h1 : sok r with
  | false =>
    have R : Hid (matchL r s = []) := by show _ = _; rw [R0.out, h1]; rfl
    clear h1
    go_wp2
    go_ret
    exact ⟨_, rfl, by rw [R.out]; exact irow_nil (by omega), chain B1.out (below1 w1 _)⟩
  | true =>
    have C4 := Seg.hid (C3.out h1)
    go_wp2_with fail
    refine (C2.out _ B1.out).mono ?_
    rintro e w2 ⟨rfl, b2⟩
    have B2 := Seg.hid (chain B1.out b2)
    have q0 : w2.cell? ⟨w.heap.size, 0, none⟩ = some (.string r.name) := cell_of_row w2 _ 0 _ _ (0, 0) ((b2.block _ (by omega)).trans P1.out)
    have q1 : w2.cell? ⟨w.heap.size, 1, none⟩ = some (.slice A0 r.fields.length c0) := cell_of_row w2 _ 1 _ _ (0, 0) ((b2.block _ (by omega)).trans P1.out)
    have q2 := (b2.cell (p := ⟨w.heap.size + 1, 0, none⟩) s1).trans p2
    have q3 := (b2.cell (p := ⟨w.heap.size + 1, 1, none⟩) s1).trans p3
    have s2 := b2.size
    clear b2 p2 p3
    cases h2 : sok s with
    | false =>
      have R : Hid (matchL r s = []) := by show _ = _; rw [R0.out, h2]; simp
      clear h2 h1
      go_wp2
      go_ret
      exact ⟨_, rfl, by rw [R.out]; exact irow_nil (by omega), chain B2.out (below1 w2 _)⟩
    | true =>
      have C5 := Seg.hid (C4.out h2)
      have R : Hid (matchL r s = mtch r s) := by show _ = _; rw [R0.out, h1, h2]; rfl
      clear h2 h1
      go_wp2_with (go_at_call 59; refine (C5.out _ B2.out).mono ?_; rintro e w3 ⟨v3, rfl, o3, b3⟩; have B3 := Seg.hid (chain B2.out b3); have O3 := Seg.hid o3; clear b3 o3)
      go_ret
      exact ⟨_, rfl, by rw [R.out]; exact irow_low O3.out (by omega), B3.out⟩
end Go.Proofs.Ytikfffeiemlnoaa.MaJ
