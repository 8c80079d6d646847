/- WriteBatch of the program, whatever the batch; The size of a batch: of the program; Sizes of lists of batches: of the program. -/
import Derived.Test.YtoplbemolnpngaaGreatJP22
import Derived.Test.YtoplbemolnpngaaGreatJP17
import Derived.Test.YtoplbemolnpngaaGreatJP04
namespace Go.Proofs.YtoplbemolnpngaaGreat.WrI
set_option maxRecDepth 8000
open Go.RowKit
open WrP
open Recs
set_option linter.unusedVariables false

set_option maxHeartbeats 800000 in
theorem impl_no (v : Value) (t : Bat) (ver : Int) (w : World) (lo b : Nat) (hv : BatAt w lo b v t) (hb : b ≤ w.heap.size) (hok : (BOk.batOk t && holds t ver) = false) :
    Calls Tryz.prog 90 #[v, .int .i64 ver] w fun e w' => Wrote w w' t ver e := by
  have HV := Seg.hid hv
  obtain ⟨rv, rfl, hrs⟩ := hv
  obtain ⟨H, ⟨hn, A, c, rfl, hx1⟩, hx2⟩ := hrs
  have HK := Seg.hid hok
  clear hx1 hx2
  unfold batVal at HV ⊢
  go_enter Tryz.func90, Tryz.ntmps90
  go_wp2_with fail
  refine (BOk.impl_any _ t (w.alloc _) lo b (HV.out.below ((below1 w _).mono hb)) (by rw [hsz]; omega)).mono ?_
  rintro e w1 ⟨rfl, b1⟩
  have B1 := Seg.hid (chain (below1 w _) b1)
  have T1 : Hid (w1.heap[w.heap.size]? = some (.cells (BatW.batArr t (.slice A t.recs.length c)) 38 (0, 0))) := (b1.block w.heap.size (by rw [hsz]; omega)).trans (heap_alloc_new _ _)
  have z1 : w.heap.size < w1.heap.size := (Array.getElem?_eq_some_iff.1 T1.out).1
  clear b1
  cases h1 : BOk.batOk t with
  | false =>
    clear h1 hok
    go_wp2
    go_ret
    exact wrote_none HK.out B1.out _ rfl
  | true =>
    rw [h1, Bool.true_and] at hok
    clear h1
    obtain ⟨c0, c1, c2, c3, c4, c5, c6⟩ := BOk.seven T1.out
    go_wp2_with fail
    clear c0 c1 c2 c3 c4 c5 c6
    refine (WrC.holds_any ver _ t w1 lo b (HV.out.below (B1.out.mono hb)) (by omega)).mono ?_
    rintro e w2 ⟨rfl, b2⟩
    rw [hok]
    have B2 := Seg.hid (chain B1.out b2)
    clear b2 hok
    go_wp2
    go_ret
    exact wrote_none HK.out B2.out _ rfl

theorem impl_any (v : Value) (t : Bat) (ver : Int) (w : World) (lo b : Nat) (hv : BatAt w lo b v t) (hb : b ≤ w.heap.size) :
    Calls Tryz.prog 90 #[v, .int .i64 ver] w fun e w' => Wrote w w' t ver e := by
  cases hk : (BOk.batOk t && holds t ver) with
  | false => exact impl_no v t ver w lo b hv hb hk
  | true =>
    rw [Bool.and_eq_true] at hk
    have hver : ver = 1 ∨ ver = 2 := by
      have := hk.2
      simp only [holds, Bool.or_eq_true, Bool.and_eq_true, decide_eq_true_eq] at this
      rcases this with h | h
      · exact .inr h
      · exact .inl h.1.1
    cases ho : odd t.flags with
    | true =>
      rcases hver with rfl | rfl
      · exact impl_s1 v t w lo b hv hb hk.1 hk.2 ho
      · exact impl_s2 v t w lo b hv hb hk.1 hk.2 ho
    | false =>
      rcases hver with rfl | rfl
      · exact impl_p1 v t w lo b hv hb hk.1 hk.2 ho
      · exact impl_p2 v t w lo b hv hb hk.1 hk.2 ho
end Go.Proofs.YtoplbemolnpngaaGreat.WrI
namespace Go.Proofs.YtoplbemolnpngaaGreat.Zs
set_option maxRecDepth 8000
open Go.RowKit
open Recs (hsz Row below1 below2 BatAt RecsAt batVal Bat Rec chain chainD)
open Bats
set_option linter.unusedVariables false
def size (t : Bat) : Nat := (WrP.wr t 2).length
def sizes : List Bat → Nat
  | [] => 0
  | t :: r => size t + sizes r
theorem sizes_app : ∀ a b : List Bat, sizes (a ++ b) = sizes a + sizes b
  | [], b => by simp [sizes]
  | t :: r, b => by simp only [List.cons_append, sizes, sizes_app r b]; omega
theorem take_one {T : Type} [Inhabited T] {ts : List T} {j : Nat} (h : j < ts.length) : ts.take (j + 1) = ts.take j ++ [ts.getD j default] := by
  rw [List.take_add_one, List.getElem?_eq_getElem h]; simp [h]
theorem sizes_take {ts : List Bat} {j : Nat} (h : j < ts.length) : sizes (ts.take (j + 1)) = sizes (ts.take j) + size (ts.getD j default) := by
  rw [take_one h, sizes_app]; simp [sizes]
theorem size_le {t : Bat} (h : BOk.batOk t = true) : 1 ≤ size t ∧ size t ≤ 100000 := by
  obtain ⟨p1, p2, p3, p4, p5, p6, p7, p8⟩ := WrI.ok_parts h
  have hk := WrI.bodyS_facts t 2 p8 p7
  have hb : (WrP.numsB (WrP.headN 2 t (WrP.bodyS t 2).length)).length ≤ 10 * 7 := PuI.numsB_le _ fun x hx => by
    simp [WrP.headN] at hx
    omega
  have e : size t = (WrP.pre t 2).length + 4 := by
    unfold size
    rw [WrI.wr_yes h rfl, List.length_append]
    rfl
  have e2 : (WrP.pre t 2).length = 2 + (WrP.numsB (WrP.headN 2 t (WrP.bodyS t 2).length)).length + (WrP.bodyS t 2).length := by
    simp only [WrP.pre, List.length_append, List.length_cons, List.length_nil]
  omega
theorem batchSize_any (v : Value) (t : Bat) (w : World) (lo b : Nat) (hv : BatAt w lo b v t) (hb : b ≤ w.heap.size) :
    Calls Tryz.prog 75 #[v] w fun e w' => e = .returned (.int .i64 (size t)) ∧ Below w.heap.size w w' := by
  have HV := Seg.hid hv
  obtain ⟨rv, rfl, H, ⟨hn, A, c, rfl, hx1⟩, hx2⟩ := hv
  clear hx1 hx2
  unfold batVal at HV ⊢
  go_enter Tryz.func75, Tryz.ntmps75
  go_wp2_with fail
  refine (WrI.impl_any _ t 2 (w.alloc _) lo b (HV.out.below ((below1 w _).mono hb)) (by rw [hsz]; omega)).mono ?_
  rintro e w1 ⟨g, cap, rfl, o1, b1⟩
  have B1 := Seg.hid (chain (below1 w _) b1)
  clear b1 o1
  go_wp2
  go_ret
  exact ⟨rfl, B1.out⟩
end Go.Proofs.YtoplbemolnpngaaGreat.Zs
namespace Go.Proofs.YtoplbemolnpngaaGreat.Zs
set_option maxRecDepth 8000
open Go.RowKit
open Recs (hsz Row below1 below2 BatAt RecsAt batVal Bat Rec chain chainD)
open Bats
set_option linter.unusedVariables false
theorem sizes_le {ts : List Bat} (h : ∀ i, i < ts.length → BOk.batOk (ts.getD i default) = true) : ∀ k, k ≤ ts.length → sizes (ts.take k) ≤ k * 100000
  | 0, _ => by simp [sizes]
  | k + 1, hk => by
    have ih := sizes_le h k (by omega)
    have := size_le (h k (by omega))
    rw [sizes_take (by omega), Nat.succ_mul]
    omega
set_option maxHeartbeats 800000 in
theorem batchSizes_core (ss : List Bat) (A : Option Addr) (c : Nat) (w : World) (lo b : Nat) (hb : b ≤ w.heap.size) (hl : ss.length ≤ 1048576) (hok : ∀ i, i < ss.length → BOk.batOk (ss.getD i default) = true) (hv : BatsAt w lo b (.slice A ss.length c) ss) :
    Calls Tryz.prog 74 #[.slice A ss.length c] w fun e w' => e = .returned (.int .i64 (sizes ss)) ∧ Below w.heap.size w w' := by
  have LE := Seg.hid (sizes_le hok)
  have OK := Seg.hid hok
  obtain ⟨H, ⟨_, A', c', hsl, hrow⟩, hh⟩ := hv
  simp only [Value.slice.injEq] at hsl
  obtain ⟨rfl, _, rfl⟩ := hsl
  have HROW := Seg.hid hrow; have HH := Seg.hid hh
  clear hrow hh hok
  go_enter Tryz.func74, Tryz.ntmps74
  go_wp2_with fail
  go_loopw [3, 8] (fun tv i wr => ∃ (j a : Nat), j ≤ ss.length ∧ i = .int .i64 j ∧ tv = .int .i64 a ∧ a ≤ 104857600000 ∧ Hid (a = sizes (ss.take j) ∧ Below w.heap.size w wr)) (fun _ i _ => ss.length - (intOf i).toNat)
  case atStart => exact ⟨0, 0, Nat.zero_le _, rfl, rfl, by omega, rfl, Below.refl _ _⟩
  case round =>
    obtain ⟨j, a, hj, rfl, rfl, ha, HW⟩ := hrel
    by_cases hlt : j < ss.length
    · have h0 : (0 : Int) ≤ (j : Int) := by omega
      have h1 : (j : Int) < (ss.length : Int) := by omega
      obtain ⟨g, o, rfl, hg, hc, hcell, _⟩ := HROW.out.resolve_left (by omega)
      have hgw : g < w.heap.size := by omega
      obtain ⟨e0, e1, e2, e3, e4, e5, e6⟩ := Bats.six (fun i hi q hq => by rw [HW.out.2.cell (p := ⟨g, o + i * 7 + q, none⟩) hgw]; exact hcell i hi q hq) j hlt
      have BT : Hid (∀ wx, Below wr.heap.size wr wx → BatAt wx lo b (.agg (BatW.batArr (ss.getD j default) (H j))) (ss.getD j default)) := fun wx bx => ⟨_, rfl, (HH.out j hlt).below ((chain HW.out.2 bx).mono hb)⟩
      have hz := HW.out.2.size
      have SN : Hid (sizes (ss.take (j + 1)) = a + size (ss.getD j default)) := by show _ = _; rw [sizes_take hlt, ← HW.out.1]
      have BL := Seg.hid HW.out.2
      have hs := size_le (OK.out j hlt)
      have hn := LE.out (j + 1) hlt
      rw [SN.out] at hn
      obtain ⟨_, ⟨_, Ah, ch, hHj, _⟩, _⟩ := HH.out j hlt
      clear hcell HW
      generalize ss.getD j default = tj at *
      rw [hHj] at e6 BT
      clear hHj
      generalize hZ : size tj = z at *
      go_wp2_with fail
      refine (batchSize_any _ tj (wr.alloc _) lo b (BT.out _ (below1 wr _)) (by rw [hsz]; omega)).mono ?_
      rintro e w8 ⟨rfl, b8⟩
      rw [hZ]
      have BL8 := Seg.hid (chain BL.out (chain (below1 wr _) b8))
      clear b8 e0 e1 e2 e3 e4 e5 e6 hZ
      have z1 : (a : Int) + (z : Int) ≤ 104857700000 := by omega
      have z2 : a + z ≤ 104857600000 := by omega
      go_wp2_with fail
      go_roundw
      case rel => exact ⟨j + 1, a + z, by omega, by go_num, by rw [Int.natCast_add], z2, SN.out.symm, BL8.out⟩
      case measure => simp [intOf]; omega
    · have AE : Hid (a = sizes ss ∧ Below w.heap.size w wr) := by
        have := HW.out
        rw [show j = ss.length by omega, List.take_length] at this
        exact this
      have : j = ss.length := by omega
      clear HW
      subst this
      go_wp2_with fail
      go_ret
      exact ⟨by rw [← AE.out.1]; rfl, AE.out.2⟩
theorem batchSizes_any (v : Value) (ss : List Bat) (w : World) (lo b : Nat) (hb : b ≤ w.heap.size) (hl : ss.length ≤ 1048576) (hok : ∀ i, i < ss.length → BOk.batOk (ss.getD i default) = true) (hv : BatsAt w lo b v ss) :
    Calls Tryz.prog 74 #[v] w fun e w' => e = .returned (.int .i64 (sizes ss)) ∧ Below w.heap.size w w' := by
  obtain ⟨_, ⟨_, A, c, rfl, _⟩, _⟩ := id hv
  exact batchSizes_core ss A c w lo b hb hl hok hv
end Go.Proofs.YtoplbemolnpngaaGreat.Zs
