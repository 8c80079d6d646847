/- NewQuorum of the program. -/
import Derived.Test.YtdkfhjcockkleaaRpR
namespace Go.Proofs.Ytdkfhjcockkleaa.NqP
set_option maxRecDepth 8000
open Go.RowKit
open Ls Ow QkP
open Recs (hsz below1 below2 chain)
set_option linter.unusedVariables false
set_option maxHeartbeats 1600000 in
theorem impl_any (n : Int) (w : World) : Calls Try.prog 12 #[.int .i64 n] w fun e w' => ∃ v, e = .returned v ∧ QrmOwn w' (seg w.heap.size w'.heap.size) v (newQ n) ∧ Below w.heap.size w w' := by
  go_enter Try.func12, Try.ntmps12
  go_wp2_with fail
  cases hb : inR 1 n 5 with
  | false =>
    refine (InB.within_b _ _ _ false hb _).mono ?_
    rintro e w1 ⟨rfl, rfl⟩
    have Z := Seg.hid (newQ_no hb)
    clear hb
    go_wp2
    exact bodyPost_ret (v := .agg #[.slice none 0 0, .slice none 0 0]) (results_cell_row rfl _ _ w.heap.size _ _ _ _ rfl (heap_alloc_new w _) Try.underlying31 rfl infoQrm) rfl ⟨_, rfl, by rw [Z.out]; exact qrm_own (LOwn.nil _ _ _ _), below1 _ _⟩
  | true =>
  refine (InB.within_b _ _ _ true hb _).mono ?_
  rintro e w1 ⟨rfl, rfl⟩
  have Z := Seg.hid (newQ_yes hb)
  obtain ⟨m, rfl⟩ : ∃ m : Nat, n = (m : Int) := ⟨n.toNat, by simp [inR] at hb; omega⟩
  have hm : 1 ≤ m ∧ m ≤ 5 := by simp [inR] at hb; omega
  clear hb
  go_wp2_with fail
  refine (RpQ.repeat_any (w.heap.size + 1) m hm ((w.alloc _).alloc _) (at2y w _ _)).mono ?_
  rintro e w1 ⟨rfl, own1, b1⟩
  rw [hsz, hsz] at own1 ⊢
  have B1 := Seg.hid (chain (below2 w _ _) b1)
  have T1 : Hid (w1.heap[w.heap.size]? = some (.cells #[.slice none 0 0, .slice none 0 0] 31 (0, 0))) := (b1.block w.heap.size (by rw [hsz, hsz]; omega)).trans (at2z w _ _)
  have OW := Seg.hid own1
  have hlt1 := World.ownsRow.lt own1 (w.heap.size + 1 + 1) rfl
  clear b1 own1
  have H5 := Seg.hid (Cells.there_of T1.out)
  have H4 := Seg.hid (Cells.whole (vs := #[.slice (some ⟨w.heap.size + 1 + 1, 0, none⟩) m m, .slice none 0 0]) T1.out rfl)
  have B9 := Seg.hid (Cells.below_setCells (g := w.heap.size) (Nat.le_refl _) (#[.slice (some ⟨w.heap.size + 1 + 1, 0, none⟩) m m, .slice none 0 0] : Array Value).toList 0 _ _ B1.out)
  have ON : Hid ((#[.slice (some ⟨w.heap.size + 1 + 1, 0, none⟩) m m, .slice none 0 0] : Array Value).all (·.oneCell') = true) := Seg.hid (on2 rfl)
  have VO : Hid (QrmOwn (w1.setCells w.heap.size 0 (#[.slice (some ⟨w.heap.size + 1 + 1, 0, none⟩) m m, .slice none 0 0] : Array Value).toList) (seg w.heap.size (w1.setCells w.heap.size 0 (#[.slice (some ⟨w.heap.size + 1 + 1, 0, none⟩) m m, .slice none 0 0] : Array Value).toList).heap.size) (.agg #[.slice (some ⟨w.heap.size + 1 + 1, 0, none⟩) m m, .slice none 0 0]) (newQ m)) := by
    show QrmOwn _ _ _ _
    rw [Z.out]
    refine qrm_own (own_rep (base := w.heap.size + 1 + 1) _ ?_ (by simpa using hm.2) (fun g hg => ?_))
    · refine ⟨by simpa using OW.out.1, ?_⟩
      rcases OW.out.2 with ⟨h1, h2⟩ | ⟨g', cap', cur, h', hbs, hgg, rest⟩
      · simp at h1
      · exact .inr ⟨g', cap', cur, by simpa using h', hbs, by rw [Cells.heap_setCells_other _ _ (by omega)]; exact hgg, by simpa using rest⟩
    · simp only [Value.ownBlock, Option.some.injEq] at hg
      subst hg
      refine ⟨by omega, ?_⟩
      rw [Cells.size_setCells]; exact hlt1.2
  go_wp2_with (refine wpList_store_mid rfl 31 _ _ rfl w.heap.size 0 #[.slice (some ⟨w.heap.size + 1 + 1, 0, none⟩) m m, .slice none 0 0] rfl rfl H5.out infoQrm ON.out ?_)
  exact bodyPost_ret (v := .agg #[.slice (some ⟨w.heap.size + 1 + 1, 0, none⟩) m m, .slice none 0 0]) (results_cell_row rfl _ _ w.heap.size _ _ _ _ rfl H4.out Try.underlying31 rfl infoQrm) rfl ⟨_, rfl, VO.out, B9.out⟩
end Go.Proofs.Ytdkfhjcockkleaa.NqP
