/- One Segment: how it lies in memory, and what the law's helpers answer. -/
import Derived.Test.YtafgakddhoabjaaBats
namespace Go.Proofs.Ytafgakddhoabjaa.SegW
set_option maxRecDepth 8000
open Go.RowKit
open Recs
open Bats
set_option linter.unusedVariables false
structure Sg where
  base : Int
  bats : List Bat
  deriving Inhabited
def FineS (t : Sg) : Prop := (t.bats.length ≤ maxLen ∧ ∀ i, i < t.bats.length → FineB (t.bats.getD i default)) ∧ (-9223372036854775808 ≤ t.base ∧ t.base ≤ 9223372036854775807)
def FewS (t : Sg) : Prop := t.bats.length ≤ 1048576 ∧ ∀ i, i < t.bats.length → FewB (t.bats.getD i default)
def segArr (t : Sg) (hv : Value) : Array Value := #[.int .i64 t.base, hv]
def segVal (t : Sg) (hv : Value) : Value := .agg #[.int .i64 t.base, hv]
def SegAt (w : World) (lo b : Nat) (v : Value) (t : Sg) : Prop := ∃ hv, v = segVal t hv ∧ BatsAt w lo b hv t.bats
section
variable {w w' : World} {lo lo' b b' : Nat} {v : Value} {t : Sg}
theorem SegAt.keep (h : SegAt w lo b v t) (hk : ∀ g, lo ≤ g → g < b → w'.heap[g]? = w.heap[g]?) : SegAt w' lo b v t := by
  obtain ⟨hv, h1, h2⟩ := h
  exact ⟨hv, h1, h2.keep hk⟩
theorem SegAt.below (h : SegAt w lo b v t) (hb : Below b w w') : SegAt w' lo b v t := h.keep fun g _ hg => hb.block g hg
theorem SegAt.mono (h : SegAt w lo b v t) (hl : lo' ≤ lo) (hb : b ≤ b') : SegAt w lo' b' v t := by
  obtain ⟨hv, h1, h2⟩ := h
  exact ⟨hv, h1, h2.mono hl hb⟩
end
theorem segArr_one (t : Sg) (hv : Value) (h : hv.oneCell' = true) : (segArr t hv).all (·.oneCell') = true := by
  simp [segArr, Value.oneCell'] at h ⊢
  exact h
theorem infoN : (Try.prog.info? 46).map (·.size) = some 2 := by kernel_rfl

set_option maxHeartbeats 400000 in
theorem eqSegment_any (v v' : Value) (t : Sg) (w : World) (lo lo' b : Nat) (hv : SegAt w lo b v t) (hv' : SegAt w lo' b v' t) (hb : b ≤ w.heap.size) :
    Calls Try.prog 29 #[v, v'] w fun e w' => e = .returned (.bool true) ∧ Below w.heap.size w w' := by
  obtain ⟨hv, rfl, hh⟩ := hv
  obtain ⟨hv', rfl, hh'⟩ := hv'
  have HH := Seg.hid hh; have HH' := Seg.hid hh'
  obtain ⟨_, ⟨hn, A, c, hve, _⟩, _⟩ := id hh
  obtain ⟨_, ⟨_, A', c', hve', _⟩, _⟩ := id hh'
  clear hh hh'
  unfold segVal
  subst hve hve'
  go_enter Try.func29, Try.ntmps29
  go_wp2_with fail
  refine (Bats.eqBatchS_any _ _ t.bats ((w.alloc _).alloc _) lo lo' b (HH.out.below ((below2 w _ _).mono hb)) (HH'.out.below ((below2 w _ _).mono hb)) (by rw [hsz, hsz]; omega)).mono ?_
  rintro e w1 ⟨rfl, b1⟩
  have B1 := Seg.hid (chain (below2 w _ _) b1)
  clear b1
  go_wp2
  go_ret
  exact ⟨rfl, B1.out⟩
end Go.Proofs.Ytafgakddhoabjaa.SegW
