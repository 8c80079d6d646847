/- Sizes of lists of batches: of the model; The model's LastOffset. -/
import Derived.Test.YtoplbemolnpngaaGreatJP23
import Derived.Test.YtoplbemolnpngaaGreatJP41
import Derived.Test.YtoplbemolnpngaaGreatJP10
namespace Go.Proofs.YtoplbemolnpngaaGreat.Zs
set_option maxRecDepth 8000
open Go.RowKit
open Recs (hsz Row below1 below2 BatAt RecsAt batVal Bat Rec chain chainD)
open Bats
set_option linter.unusedVariables false
set_option maxHeartbeats 800000 in
theorem l3Sizes_core (ss : List Bat) (A : Option Addr) (c : Nat) (w : World) (lo b : Nat) (hb : b ≤ w.heap.size) (hl : ss.length ≤ 1048576) (hok : ∀ i, i < ss.length → BOk.batOk (ss.getD i default) = true) (hv : BatsAt w lo b (.slice A ss.length c) ss) :
    Calls Tryz.prog 23 #[.slice A ss.length c] w fun e w' => e = .returned (.int .i64 (sizes ss)) ∧ Below w.heap.size w w' := by
  have LE := Seg.hid (sizes_le hok)
  have OK := Seg.hid hok
  obtain ⟨H, ⟨_, A', c', hsl, hrow⟩, hh⟩ := hv
  simp only [Value.slice.injEq] at hsl
  obtain ⟨rfl, _, rfl⟩ := hsl
  have HROW := Seg.hid hrow; have HH := Seg.hid hh
  clear hrow hh hok
  go_enter Tryz.func23, Tryz.ntmps23
  go_wp2_with fail
  go_loopw [3, 4] (fun tv i wr => ∃ (j a : Nat), j ≤ ss.length ∧ i = .int .i64 j ∧ tv = .int .i64 a ∧ a ≤ 104857600000 ∧ Hid (a = sizes (ss.take j) ∧ Below w.heap.size w wr)) (fun _ i _ => ss.length - (intOf i).toNat)
  case atStart => exact ⟨0, 0, Nat.zero_le _, rfl, rfl, by omega, rfl, Below.refl _ _⟩
  case round =>
    obtain ⟨j, a, hj, rfl, rfl, ha, HW⟩ := hrel
    by_cases hlt : j < ss.length
    · have h0 : (0 : Int) ≤ (j : Int) := by omega
      have h1 : (j : Int) < (ss.length : Int) := by omega
      obtain ⟨g, o, rfl, hg, hc, hcell, _⟩ := HROW.out.resolve_left (by omega)
      have hgw : g < w.heap.size := by omega
      obtain ⟨e0, e1, e2, e3, e4, e5, e6⟩ := Bats.six (fun i hi q hq => by rw [HW.out.2.cell (p := ⟨g, o + i * 7 + q, none⟩) hgw]; exact hcell i hi q hq) j hlt
      have BT : Hid (∀ wx, Below wr.heap.size wr wx → BatAt wx lo b (.agg (BatW.batArr (ss.getD j default) (H j))) (ss.getD j default)) := fun wx bx => ⟨_, rfl, (HH.out j hlt).below ((chain HW.out.2 bx).mono hb)⟩
      have hz := HW.out.2.size
      have SN : Hid (sizes (ss.take (j + 1)) = a + size (ss.getD j default)) := by show _ = _; rw [sizes_take hlt, ← HW.out.1]
      have BL := Seg.hid HW.out.2
      have hs := size_le (OK.out j hlt)
      have hn := LE.out (j + 1) hlt
      rw [SN.out] at hn
      obtain ⟨_, ⟨_, Ah, ch, hHj, _⟩, _⟩ := HH.out j hlt
      clear hcell HW
      generalize ss.getD j default = tj at *
      rw [hHj] at e6 BT
      clear hHj
      generalize hZ : size tj = z at *
      go_wp2_with fail
      refine (size_any _ tj wr lo b (BT.out _ (Below.refl _ _)) (by omega)).mono ?_
      rintro e w8 ⟨rfl, b8⟩
      rw [hZ]
      have BL8 := Seg.hid (chain BL.out b8)
      clear b8 e0 e1 e2 e3 e4 e5 e6 hZ
      have z1 : (a : Int) + (z : Int) ≤ 104857700000 := by omega
      have z2 : a + z ≤ 104857600000 := by omega
      go_wp2_with fail
      go_roundw
      case rel => exact ⟨j + 1, a + z, by omega, by go_num, by rw [Int.natCast_add], z2, SN.out.symm, BL8.out⟩
      case measure => simp [intOf]; omega
    · have AE : Hid (a = sizes ss ∧ Below w.heap.size w wr) := by
        have := HW.out
        rw [show j = ss.length by omega, List.take_length] at this
        exact this
      have : j = ss.length := by omega
      clear HW
      subst this
      go_wp2_with fail
      go_ret
      exact ⟨by rw [← AE.out.1]; rfl, AE.out.2⟩
theorem l3Sizes_any (v : Value) (ss : List Bat) (w : World) (lo b : Nat) (hb : b ≤ w.heap.size) (hl : ss.length ≤ 1048576) (hok : ∀ i, i < ss.length → BOk.batOk (ss.getD i default) = true) (hv : BatsAt w lo b v ss) :
    Calls Tryz.prog 23 #[v] w fun e w' => e = .returned (.int .i64 (sizes ss)) ∧ Below w.heap.size w w' := by
  obtain ⟨_, ⟨_, A, c, rfl, _⟩, _⟩ := id hv
  exact l3Sizes_core ss A c w lo b hb hl hok hv
end Go.Proofs.YtoplbemolnpngaaGreat.Zs
namespace Go.Proofs.YtoplbemolnpngaaGreat.BOk
set_option maxRecDepth 8000
open Go.RowKit
open Recs
set_option linter.unusedVariables false

def last (t : Bat) : Int := if batOk t = true then t.base + t.recs.length - 1 else -1
theorem okNum {t : Bat} (h : batOk t = true) : 0 ≤ t.base ∧ t.base ≤ 1000000000 ∧ 1 ≤ (t.recs.length : Int) ∧ (t.recs.length : Int) ≤ 40 := by
  simp only [batOk, okB1, okB3, inR, Bool.and_eq_true, decide_eq_true_eq] at h
  omega

set_option maxHeartbeats 400000 in
theorem specLast_any (v : Value) (t : Bat) (w : World) (lo b : Nat) (hv : BatAt w lo b v t) (hb : b ≤ w.heap.size) :
    Calls Tryz.prog 20 #[v] w fun e w' => e = .returned (.int .i64 (last t)) ∧ Below w.heap.size w w' := by
  have HV := Seg.hid hv
  obtain ⟨rv, rfl, H, ⟨hn, A, c, rfl, hx1⟩, hx2⟩ := hv
  clear hx1 hx2
  unfold batVal at HV ⊢
  unfold last
  go_enter Tryz.func20, Tryz.ntmps20
  go_wp2_with fail
  refine (spec_any _ t (w.alloc _) lo b (HV.out.below ((below1 w _).mono hb)) (by rw [hsz]; omega)).mono ?_
  rintro e w1 ⟨rfl, b1⟩
  have B1 := Seg.hid (chain (below1 w _) b1)
  have T1 : w1.heap[w.heap.size]? = some (.cells (BatW.batArr t (.slice A t.recs.length c)) 38 (0, 0)) := (b1.block w.heap.size (by rw [hsz]; omega)).trans (heap_alloc_new _ _)
  have c0 : w1.cell? ⟨w.heap.size, 0, none⟩ = some (.int .i64 t.base) := cell_of_row w1 _ 0 _ _ (0, 0) T1
  have c6 : w1.cell? ⟨w.heap.size, 6, none⟩ = some (.slice A t.recs.length c) := cell_of_row w1 _ 6 _ _ (0, 0) T1
  clear b1 T1
  cases h1 : batOk t with
  | false =>
    have HO : Hid (batOk t = false) := h1
    go_wp2
    all_goals
      go_ret
      exact ⟨rfl, B1.out⟩
  | true =>
    obtain ⟨n1, n2, n3, n4⟩ := okNum h1
    go_wp2
    all_goals
      go_ret
      exact ⟨rfl, B1.out⟩

end Go.Proofs.YtoplbemolnpngaaGreat.BOk
