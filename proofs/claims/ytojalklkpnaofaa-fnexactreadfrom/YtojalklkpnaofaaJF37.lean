/- WriteBatch of the program, whatever the batch; The size of a batch: of the program. -/
import Derived.Test.YtojalklkpnaofaaJF36
import Derived.Test.YtojalklkpnaofaaJF19
import Derived.Test.YtojalklkpnaofaaJF05
namespace Go.Proofs.Ytojalklkpnaofaa.WrI
set_option maxRecDepth 8000
open Go.RowKit
open WrP
open Recs
set_option linter.unusedVariables false

set_option maxHeartbeats 800000 in
theorem impl_no (v : Value) (t : Bat) (ver : Int) (w : World) (lo b : Nat) (hv : BatAt w lo b v t) (hb : b ≤ w.heap.size) (hok : (BOk.batOk t && holds t ver) = false) :
    Calls Try.prog 46 #[v, .int .i64 ver] w fun e w' => Wrote w w' t ver e := by
  have HV := Seg.hid hv
  obtain ⟨rv, rfl, hrs⟩ := hv
  obtain ⟨H, ⟨hn, A, c, rfl, hx1⟩, hx2⟩ := hrs
  have HK := Seg.hid hok
  clear hx1 hx2
  unfold batVal at HV ⊢
  go_enter Try.func46, Try.ntmps46
  go_wp2_with fail
  refine (BOk.impl_any _ t (w.alloc _) lo b (HV.out.below ((below1 w _).mono hb)) (by rw [hsz]; omega)).mono ?_
  rintro e w1 ⟨rfl, b1⟩
  have B1 := Seg.hid (chain (below1 w _) b1)
  have T1 : Hid (w1.heap[w.heap.size]? = some (.cells (BatW.batArr t (.slice A t.recs.length c)) 44 (0, 0))) := (b1.block w.heap.size (by rw [hsz]; omega)).trans (heap_alloc_new _ _)
  have z1 : w.heap.size < w1.heap.size := (Array.getElem?_eq_some_iff.1 T1.out).1
  clear b1
  cases h1 : BOk.batOk t with
  | false =>
    clear h1 hok
    go_wp2
    go_ret
    exact wrote_none HK.out B1.out _ rfl
  | true =>
    rw [h1, Bool.true_and] at hok
    clear h1
    obtain ⟨c0, c1, c2, c3, c4, c5, c6⟩ := BOk.seven T1.out
    go_wp2_with fail
    clear c0 c1 c2 c3 c4 c5 c6
    refine (WrC.holds_any ver _ t w1 lo b (HV.out.below (B1.out.mono hb)) (by omega)).mono ?_
    rintro e w2 ⟨rfl, b2⟩
    rw [hok]
    have B2 := Seg.hid (chain B1.out b2)
    clear b2 hok
    go_wp2
    go_ret
    exact wrote_none HK.out B2.out _ rfl

theorem impl_any (v : Value) (t : Bat) (ver : Int) (w : World) (lo b : Nat) (hv : BatAt w lo b v t) (hb : b ≤ w.heap.size) :
    Calls Try.prog 46 #[v, .int .i64 ver] w fun e w' => Wrote w w' t ver e := by
  cases hk : (BOk.batOk t && holds t ver) with
  | false => exact impl_no v t ver w lo b hv hb hk
  | true =>
    rw [Bool.and_eq_true] at hk
    have hver : ver = 1 ∨ ver = 2 := by
      have := hk.2
      simp only [holds, Bool.or_eq_true, Bool.and_eq_true, decide_eq_true_eq] at this
      rcases this with h | h
      · exact .inr h
      · exact .inl h.1.1
    cases ho : odd t.flags with
    | true =>
      rcases hver with rfl | rfl
      · exact impl_s1 v t w lo b hv hb hk.1 hk.2 ho
      · exact impl_s2 v t w lo b hv hb hk.1 hk.2 ho
    | false =>
      rcases hver with rfl | rfl
      · exact impl_p1 v t w lo b hv hb hk.1 hk.2 ho
      · exact impl_p2 v t w lo b hv hb hk.1 hk.2 ho
end Go.Proofs.Ytojalklkpnaofaa.WrI
namespace Go.Proofs.Ytojalklkpnaofaa.Zs
set_option maxRecDepth 8000
open Go.RowKit
open Recs (hsz Row below1 below2 BatAt RecsAt batVal Bat Rec chain chainD)
open Bats
set_option linter.unusedVariables false
def size (t : Bat) : Nat := (WrP.wr t 2).length
def sizes : List Bat → Nat
  | [] => 0
  | t :: r => size t + sizes r
theorem sizes_app : ∀ a b : List Bat, sizes (a ++ b) = sizes a + sizes b
  | [], b => by simp [sizes]
  | t :: r, b => by simp only [List.cons_append, sizes, sizes_app r b]; omega
theorem take_one {T : Type} [Inhabited T] {ts : List T} {j : Nat} (h : j < ts.length) : ts.take (j + 1) = ts.take j ++ [ts.getD j default] := by
  rw [List.take_add_one, List.getElem?_eq_getElem h]; simp [h]
theorem sizes_take {ts : List Bat} {j : Nat} (h : j < ts.length) : sizes (ts.take (j + 1)) = sizes (ts.take j) + size (ts.getD j default) := by
  rw [take_one h, sizes_app]; simp [sizes]
theorem size_le {t : Bat} (h : BOk.batOk t = true) : 1 ≤ size t ∧ size t ≤ 100000 := by
  obtain ⟨p1, p2, p3, p4, p5, p6, p7, p8⟩ := WrI.ok_parts h
  have hk := WrI.bodyS_facts t 2 p8 p7
  have hb : (WrP.numsB (WrP.headN 2 t (WrP.bodyS t 2).length)).length ≤ 10 * 7 := PuI.numsB_le _ fun x hx => by
    simp [WrP.headN] at hx
    omega
  have e : size t = (WrP.pre t 2).length + 4 := by
    unfold size
    rw [WrI.wr_yes h rfl, List.length_append]
    rfl
  have e2 : (WrP.pre t 2).length = 2 + (WrP.numsB (WrP.headN 2 t (WrP.bodyS t 2).length)).length + (WrP.bodyS t 2).length := by
    simp only [WrP.pre, List.length_append, List.length_cons, List.length_nil]
  omega
theorem batchSize_any (v : Value) (t : Bat) (w : World) (lo b : Nat) (hv : BatAt w lo b v t) (hb : b ≤ w.heap.size) :
    Calls Try.prog 28 #[v] w fun e w' => e = .returned (.int .i64 (size t)) ∧ Below w.heap.size w w' := by
  have HV := Seg.hid hv
  obtain ⟨rv, rfl, H, ⟨hn, A, c, rfl, hx1⟩, hx2⟩ := hv
  clear hx1 hx2
  unfold batVal at HV ⊢
  go_enter Try.func28, Try.ntmps28
  go_wp2_with fail
  refine (WrI.impl_any _ t 2 (w.alloc _) lo b (HV.out.below ((below1 w _).mono hb)) (by rw [hsz]; omega)).mono ?_
  rintro e w1 ⟨g, cap, rfl, o1, b1⟩
  have B1 := Seg.hid (chain (below1 w _) b1)
  clear b1 o1
  go_wp2
  go_ret
  exact ⟨rfl, B1.out⟩
end Go.Proofs.Ytojalklkpnaofaa.Zs
