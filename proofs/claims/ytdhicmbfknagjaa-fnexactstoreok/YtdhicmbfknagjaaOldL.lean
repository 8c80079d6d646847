/- A Log by sets of blocks, as the elder texts tell it by windows. -/
import Derived.Test.YtdhicmbfknagjaaTLg
namespace Go.Proofs.Ytdhicmbfknagjaa.OldL
set_option maxRecDepth 8000
open Go.RowKit
open Recs
open Ls
open Bats SegW Segs LogW
set_option linter.unusedVariables false
section
variable {w : World} {lo b : Nat}
theorem row_of {T : Type} [Inhabited T] {nf : Nat} {E : Elt T} {v : Value} {us : List T} (h : LAt nf E w (seg lo b) v us) : ∃ F : Nat → Nat → Value, Row w lo b nf v us.length F ∧ ∀ i, i < us.length → E w (seg lo b) (F i) (us.getD i default) := by
  obtain ⟨hn, A, c, rfl, h2⟩ := h
  by_cases hz : us.length = 0
  · exact ⟨fun _ _ => default, ⟨hn, A, c, rfl, .inl hz⟩, fun i hi => absurd hi (by omega)⟩
  obtain ⟨g, o, F, rfl, hg, hc, hcell, hel⟩ := h2.resolve_left hz
  exact ⟨F, ⟨hn, _, c, rfl, .inr ⟨g, o, rfl, hg.2, hc, hcell, hg.1⟩⟩, hel⟩
theorem row_eqf {s n : Nat} {v : Value} {f f' : Nat → Nat → Value} (h : Row w lo b s v n f) (he : ∀ i, i < n → ∀ j, j < s → f i j = f' i j) : Row w lo b s v n f' := by
  obtain ⟨h0, A, c, h1, h2⟩ := h
  refine ⟨h0, A, c, h1, h2.imp id ?_⟩
  rintro ⟨g, o, h3, h4, h5, h6, h7⟩
  exact ⟨g, o, h3, h4, h5, fun i hi j hj => by rw [h6 i hi j hj, he i hi j hj], h7⟩
theorem heads {v : Value} {hs : List Hd} (h : LAt 2 EHd w (seg lo b) v hs) : Heads w lo b v hs := by
  obtain ⟨F, hr, he⟩ := row_of h
  exact row_eqf hr fun i hi j hj => by
    obtain ⟨e0, e1⟩ := he i hi
    match j, hj with
    | 0, _ => exact e0
    | 1, _ => exact e1
theorem recs {v : Value} {rs : List Rec} (h : LAt 6 ERec w (seg lo b) v rs) : RecsAt w lo b v rs := by
  obtain ⟨F, hr, he⟩ := row_of h
  refine ⟨fun i => F i 5, row_eqf hr fun i hi j hj => ?_, fun i hi => heads (he i hi).2.2.2.2.2⟩
  obtain ⟨e0, e1, e2, e3, e4, _⟩ := he i hi
  match j, hj with
  | 0, _ => exact e0
  | 1, _ => exact e1
  | 2, _ => exact e2
  | 3, _ => exact e3
  | 4, _ => exact e4
  | 5, _ => rfl
theorem bats {v : Value} {ts : List Bat} (h : LAt 7 EBat w (seg lo b) v ts) : BatsAt w lo b v ts := by
  obtain ⟨F, hr, he⟩ := row_of h
  refine ⟨fun i => F i 6, row_eqf hr fun i hi j hj => ?_, fun i hi => recs (he i hi).2.2.2.2.2.2⟩
  obtain ⟨e0, e1, e2, e3, e4, e5, _⟩ := he i hi
  match j, hj with
  | 0, _ => exact e0
  | 1, _ => exact e1
  | 2, _ => exact e2
  | 3, _ => exact e3
  | 4, _ => exact e4
  | 5, _ => exact e5
  | 6, _ => rfl
theorem segs {v : Value} {ts : List Sg} (h : LAt 2 ESg w (seg lo b) v ts) : SegsAt w lo b v ts := by
  obtain ⟨F, hr, he⟩ := row_of h
  refine ⟨fun i => F i 1, row_eqf hr fun i hi j hj => ?_, fun i hi => bats (he i hi).2⟩
  obtain ⟨e0, _⟩ := he i hi
  match j, hj with
  | 0, _ => exact e0
  | 1, _ => rfl
end
theorem few_rec {r : Rec} (h : szRec r ≤ 1048576) : FewR r := szL_len (l := 1048576) szHd (by unfold szRec at h; omega)
theorem few_bat {t : Bat} (h : szBat t ≤ 1048576) : FewB t := ⟨szL_len (l := 1048576) szRec h, fun i hi => few_rec (szL_one (l := 1048576) szRec h hi)⟩
theorem few_seg {t : Sg} (h : szSg t ≤ 1048576) : FewS t := ⟨szL_len (l := 1048576) szBat h, fun i hi => few_bat (szL_one (l := 1048576) szBat h hi)⟩
theorem tot_segs (ts : List Sg) : ∀ n, n ≤ ts.length → Segs.tot ts n ≤ Ls.tot szSg (ts.take n)
  | 0, _ => Nat.zero_le _
  | n + 1, h => by
    rw [Ls.tot_take szSg (by omega)]
    have := tot_segs ts n (by omega)
    have hb : (ts.getD n default).bats.length ≤ szSg (ts.getD n default) := szL_len szBat (Nat.le_refl _)
    show Segs.tot ts n + (ts.getD n default).bats.length ≤ _
    omega
theorem few_log {t : Lg} (h : szLg t ≤ 1048576) : FewL t := by
  refine ⟨⟨szL_len (l := 1048576) szSg h, fun i hi => few_seg (szL_one (l := 1048576) szSg h hi)⟩, ?_⟩
  have := tot_segs t.segs t.segs.length (Nat.le_refl _)
  rw [List.take_length] at this
  unfold szLg szL at h
  omega
end Go.Proofs.Ytdhicmbfknagjaa.OldL
