/- Results: a struct's cell and one number, flag or list; The program's sourceOf. -/
import Derived.Laws.ResultCell
import Derived.Deep.RegionHeld3
import Derived.Deep.Cut
import Derived.Test.YtboooabjeidmfaaJI01
import Derived.Test.YtboooabjeidmfaaJI14
import Derived.Test.YtboooabjeidmfaaJI17
import Derived.Test.YtboooabjeidmfaaJI02
namespace Go.Proofs.Ytboooabjeidmfaa.R2
set_option maxRecDepth 8000
open Go.RowKit
theorem results_row_tmp {P : Program} {fn : Func} {p u : Tmp} {ty : TypeId} (h : fn.results = #[.cell p ty, .tmp u]) (tmps : Array Value) (w : World) (g : Nat) (t : TypeId) (cs : Array Value) (fr : Nat × Nat) (d : TypeDesc)
    (x : Value) (hp : tmps.getD p undef = .pointer (some ⟨g, 0, none⟩)) (hx : tmps.getD u undef = x) (hg : w.heap[g]? = some (.cells cs t fr))
    (hu : P.underlying ty = some d) (hd : (match d with | .struct _ | .array _ _ => true | _ => false) = true) (hi : (P.info? ty).map (·.size) = some cs.size) :
    (results fn tmps).run P w = .ok (.tuple #[.agg cs, x]) w := by
  subst hx
  have hp' : tmps[p]?.getD undef = .pointer (some ⟨g, 0, none⟩) := by simpa using hp
  rw [results_cell_tmp h]
  simp [hp', asAddr, run_loadVar_row w g t ty cs fr d hg hu hd hi, Result.andThen]
end Go.Proofs.Ytboooabjeidmfaa.R2
namespace Go.Proofs.Ytboooabjeidmfaa.YsI
set_option maxRecDepth 8000
open Go.RowKit
open Ls Lp QyP QsP QtP QuP YcP YsP
open Recs (hsz below1 below2 chain)
set_option linter.unusedVariables false
theorem put {w wx : World} {a b c a' b' c' : Value} (h : wx.heap[w.heap.size]? = some (.cells #[a, b, c] 62 (0, 0))) (hb : Below w.heap.size w wx) : (wx.setCells w.heap.size 0 [a', b', c']).heap[w.heap.size]? = some (.cells #[a', b', c'] 62 (0, 0)) ∧ Below w.heap.size w (wx.setCells w.heap.size 0 [a', b', c']) :=
  ⟨Cells.whole (vs := #[a', b', c']) h rfl, Cells.below_setCells (Nat.le_refl _) _ _ _ _ hb⟩
theorem info3 : (Try.prog.info? 62).map (·.size) = some 3 := by kernel_rfl
set_option maxHeartbeats 3200000 in
theorem src_any (v : Value) (l : List Src) (n : ByteArray) (t : Bool) (w : World) (S : Nat → Prop) (hv : LAt 3 ESrc w S v l) (hS : ∀ g, S g → g < w.heap.size) : Calls Try.prog 85 #[v, .string n, .bool t] w fun e w' => ∃ A c, e = .returned (.tuple #[sv (srcR l n) A c, .bool (srcB l n t)]) ∧ LAt 1 EStr w' S (.slice A (srcR l n).cols.length c) (srcR l n).cols ∧ Below w.heap.size w w' := by
  obtain ⟨A, c, g, o, F, rfl, OP, hn⟩ := opn hv hS
  have HO := Seg.hid OP
  clear hv OP
  obtain ⟨RR, hR⟩ : ∃ R, srcR l n = R := ⟨_, rfl⟩
  obtain ⟨RB, hB⟩ : ∃ R, srcB l n t = R := ⟨_, rfl⟩
  rw [hR, hB]
  have HR := Seg.hid hR
  have HB := Seg.hid hB
  clear hR hB
  go_enter Try.func85, Try.ntmps85
  go_upto_region 1 with fail
  obtain ⟨w1, hw1⟩ : ∃ w1, w.alloc (.cells #[.string ⟨#[]⟩, .bool false, .slice none 0 0] 62 (0, 0)) = w1 := ⟨_, rfl⟩
  have T1 : Hid (w1.heap[w.heap.size]? = some (.cells #[.string ⟨#[]⟩, .bool false, .slice none 0 0] 62 (0, 0))) := by show _ = _; rw [← hw1]; exact heap_alloc_new _ _
  have B1 : Hid (Below w.heap.size w w1) := by show Below _ _ _; rw [← hw1]; exact below1 _ _
  try rw [hw1]
  clear hw1
  go_wp2
  go_loopw [12] (fun i wr => ∃ k : Nat, k ≤ l.length ∧ i = .int .i64 k ∧ Hid ((∀ j, j < k → ((l.getD j default).name.toList == n.toList) = false) ∧ Below w.heap.size w wr ∧ wr.heap[w.heap.size]? = some (.cells #[.string ⟨#[]⟩, .bool false, .slice none 0 0] 62 (0, 0)))) (fun i _ => l.length - (intOf i).toNat)
  case atStart => exact ⟨0, Nat.zero_le _, rfl, fun j hj => absurd hj (by omega), B1.out, T1.out⟩
  case round =>
    clear B1 T1
    obtain ⟨k, hk, rfl, HG⟩ := hrel
    have BW : Hid (Below w.heap.size w wr) := HG.out.2.1
    have TW : Hid (wr.heap[w.heap.size]? = some (.cells #[.string ⟨#[]⟩, .bool false, .slice none 0 0] 62 (0, 0))) := HG.out.2.2
    have GW := Seg.hid HG.out.1
    clear HG
    by_cases hlt : k < l.length
    · obtain ⟨ea, hc, hgw⟩ := HO.out.addr.resolve_left (by omega)
      subst ea
      obtain ⟨A', c', hcl, d0, d1, d2⟩ := src_at HO.out hS BW.out hlt
      have h0 : (0 : Int) ≤ (k : Int) := by omega
      have h1 : (k : Int) < (l.length : Int) := by omega
      have HIT : Hid (((l.getD k default).name.toList == n.toList) = true → srcF l n = some (l.getD k default)) := fun h => f_hit hlt GW.out h
      have MIS : Hid (((l.getD k default).name.toList == n.toList) = false → ∀ j, j < k + 1 → ((l.getD j default).name.toList == n.toList) = false) := fun h j hj => by
        by_cases e : j = k
        · subst e; exact h
        · exact GW.out j (by omega)
      have HC := Seg.hid hcl
      clear hcl GW
      generalize l.getD k default = s at *
      have hSr : ∀ y, S y → y < wr.heap.size := fun y hy => Nat.lt_of_lt_of_le (hS y hy) BW.out.size
      obtain ⟨w5, hw5⟩ : ∃ w5, wr.alloc (.cells #[.string s.name, .bool s.tab, .slice A' s.cols.length c'] 62 (0, 0)) = w5 := ⟨_, rfl⟩
      have T5 : Hid (w5.heap[wr.heap.size]? = some (.cells #[.string s.name, .bool s.tab, .slice A' s.cols.length c'] 62 (0, 0))) := by show _ = _; rw [← hw5]; exact heap_alloc_new _ _
      have N5 : Hid (Below wr.heap.size wr w5) := by show Below _ _ _; rw [← hw5]; exact below1 _ _
      have Q5 : Hid (w5.heap[w.heap.size]? = some (.cells #[.string ⟨#[]⟩, .bool false, .slice none 0 0] 62 (0, 0))) := (N5.out.block _ (Array.getElem?_eq_some_iff.1 TW.out).1).trans TW.out
      go_upto_region 4 with fail
      try rw [hw5]
      clear hw5 d0 d1 d2
      obtain ⟨q0, q1, q2, -, -, -⟩ := threeB T5.out
      have hw0 : w.heap.size < wr.heap.size := (Array.getElem?_eq_some_iff.1 TW.out).1
      cases hb : (s.name.toList == n.toList) with
      | true =>
        have FF := HIT.out hb
        have RF : Hid (RR = s) := by show _ = _; rw [← HR.out, srcR, FF]
        have RT : Hid (RB = (s.tab == t)) := by show _ = _; rw [← HB.out, srcB, FF]
        clear FF HIT MIS HR HB
        go_upto_region 5 with fail
        obtain ⟨m0, m1, m2, f0, f1, f2⟩ := threeB Q5.out
        have hne : wr.heap.size ≠ w.heap.size := by omega
        have hne2 : w.heap.size ≠ wr.heap.size := by omega
        have P5 := Seg.hid (put (a' := .string s.name) (b' := .bool s.tab) (c' := .slice A' s.cols.length c') (wx := w5) Q5.out (chain BW.out N5.out))
        go_region_held3 (fun w' => w'.cell? ⟨wr.heap.size, 0, none⟩ = some (.string s.name) ∧ w'.cell? ⟨wr.heap.size, 1, none⟩ = some (.bool s.tab) ∧ w'.cell? ⟨wr.heap.size, 2, none⟩ = some (.slice A' s.cols.length c')) (first | exact ⟨q0, q1, q2⟩ | go_keep) (fail)
        all_goals
          have HL : Hid (LAt 1 EStr (w5.setCells w.heap.size 0 [.string s.name, .bool s.tab, .slice A' s.cols.length c']).drew S (.slice A' s.cols.length c') s.cols) := LAt.keep keepsStr HC.out (fun y hy => (P5.out.2.block y (hS y hy)).trans (BW.out.block y (hS y hy)).symm)
          clear q0 q1 q2 m0 m1 m2 f0 f1 f2
          go_wp2
          exact bodyPost_ret (v := .tuple #[.agg #[.string s.name, .bool s.tab, .slice A' s.cols.length c'], .bool (s.tab == t)]) (R2.results_row_tmp rfl _ _ w.heap.size 62 #[.string s.name, .bool s.tab, .slice A' s.cols.length c'] (0, 0) _ _ rfl rfl P5.out.1 Try.underlying62 rfl info3) rfl ⟨A', c', by rw [RF.out, RT.out], by rw [RF.out]; exact HL.out, P5.out.2.drew⟩
      | false =>
        have MF := Seg.hid (MIS.out hb)
        clear HIT MIS
        go_wp2
        go_roundw
        case rel => exact ⟨k + 1, by omega, by go_num, MF.out, chain BW.out N5.out, Q5.out⟩
        case measure => simp [intOf]; omega
    · have hkl : k = l.length := by omega
      have FF : srcF l n = none := f_miss (fun j hj => GW.out j (by omega))
      have RF : Hid (RR = ⟨ByteArray.empty, false, []⟩) := by show _ = _; rw [← HR.out, srcR, FF]
      have RT : Hid (RB = false) := by show _ = _; rw [← HB.out, srcB, FF]
      have hx1 : ¬ (k : Int) < (l.length : Int) := by omega
      clear hkl FF GW
      obtain ⟨m0, m1, m2, f0, f1, f2⟩ := threeB TW.out
      have P5 := Seg.hid (put (a' := .string ⟨#[]⟩) (b' := .bool false) (c' := .slice none 0 0) TW.out BW.out)
      go_wp2
      exact bodyPost_ret (v := .tuple #[.agg #[.string ⟨#[]⟩, .bool false, .slice none 0 0], .bool false]) (R2.results_row_tmp rfl _ _ w.heap.size 62 #[.string ⟨#[]⟩, .bool false, .slice none 0 0] (0, 0) _ _ rfl rfl P5.out.1 Try.underlying62 rfl info3) rfl ⟨none, 0, by rw [RF.out, RT.out]; rfl, by rw [RF.out]; exact nil_at _ _, P5.out.2⟩
end Go.Proofs.Ytboooabjeidmfaa.YsI
