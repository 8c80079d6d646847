/- One Log: how it lies in memory, and what the law's helpers answer. -/
import Derived.Test.YtafgakddhoabjaaSegs
namespace Go.Proofs.Ytafgakddhoabjaa.LogW
set_option maxRecDepth 8000
open Go.RowKit
open Recs
open Bats SegW Segs
set_option linter.unusedVariables false
structure Lg where
  start : Int
  next : Int
  roll : Int
  segs : List Sg
  deriving Inhabited
def FineL (t : Lg) : Prop := t.segs.length ≤ maxLen ∧ ∀ i, i < t.segs.length → FineS (t.segs.getD i default)
def FewL (t : Lg) : Prop := (t.segs.length ≤ 1048576 ∧ ∀ i, i < t.segs.length → FewS (t.segs.getD i default)) ∧ tot t.segs t.segs.length ≤ 1048576
def logArr (t : Lg) (hv : Value) : Array Value := #[.int .i64 t.start, .int .i64 t.next, .int .i64 t.roll, hv]
def logVal (t : Lg) (hv : Value) : Value := .agg #[.int .i64 t.start, .int .i64 t.next, .int .i64 t.roll, hv]
def LogAt (w : World) (lo b : Nat) (v : Value) (t : Lg) : Prop := ∃ hv, v = logVal t hv ∧ SegsAt w lo b hv t.segs
section
variable {w w' : World} {lo lo' b b' : Nat} {v : Value} {t : Lg}
theorem LogAt.keep (h : LogAt w lo b v t) (hk : ∀ g, lo ≤ g → g < b → w'.heap[g]? = w.heap[g]?) : LogAt w' lo b v t := by
  obtain ⟨hv, h1, h2⟩ := h
  exact ⟨hv, h1, h2.keep hk⟩
theorem LogAt.below (h : LogAt w lo b v t) (hb : Below b w w') : LogAt w' lo b v t := h.keep fun g _ hg => hb.block g hg
theorem LogAt.mono (h : LogAt w lo b v t) (hl : lo' ≤ lo) (hb : b ≤ b') : LogAt w lo' b' v t := by
  obtain ⟨hv, h1, h2⟩ := h
  exact ⟨hv, h1, h2.mono hl hb⟩
end
theorem logArr_one (t : Lg) (hv : Value) (h : hv.oneCell' = true) : (logArr t hv).all (·.oneCell') = true := by
  simp [logArr, Value.oneCell'] at h ⊢
  exact h
theorem infoN : (Try.prog.info? 32).map (·.size) = some 4 := by kernel_rfl

set_option maxHeartbeats 400000 in
theorem eqLog_any (v v' : Value) (t : Lg) (w : World) (lo lo' b : Nat) (hv : LogAt w lo b v t) (hv' : LogAt w lo' b v' t) (hb : b ≤ w.heap.size) :
    Calls Try.prog 23 #[v, v'] w fun e w' => e = .returned (.bool true) ∧ Below w.heap.size w w' := by
  obtain ⟨hv, rfl, hh⟩ := hv
  obtain ⟨hv', rfl, hh'⟩ := hv'
  have HH := Seg.hid hh; have HH' := Seg.hid hh'
  obtain ⟨_, ⟨hn, A, c, hve, _⟩, _⟩ := id hh
  obtain ⟨_, ⟨_, A', c', hve', _⟩, _⟩ := id hh'
  clear hh hh'
  unfold logVal
  subst hve hve'
  go_enter Try.func23, Try.ntmps23
  go_wp2_with fail
  refine (Segs.eqSegmentS_any _ _ t.segs ((w.alloc _).alloc _) lo lo' b (HH.out.below ((below2 w _ _).mono hb)) (HH'.out.below ((below2 w _ _).mono hb)) (by rw [hsz, hsz]; omega)).mono ?_
  rintro e w1 ⟨rfl, b1⟩
  have B1 := Seg.hid (chain (below2 w _ _) b1)
  clear b1
  go_wp2
  go_ret
  exact ⟨rfl, B1.out⟩
end Go.Proofs.Ytafgakddhoabjaa.LogW
