/- What the law's helpers over Heads answer: how much of the measure is left; a copy in memory of its own; whether two are alike. -/
import Derived.Test.YtafgakddhoabjaaRows
import Derived.Test.YtafgakddhoabjaaRecs
import Derived.RegionTactic
import Derived.Maps.AppendAt
import Derived.Laws.Rows
import Derived.Deep.RegionWith
import Derived.Outline
namespace Go.Proofs.Ytafgakddhoabjaa.Sz
set_option maxRecDepth 8000
open Go.RowKit
open Recs
set_option linter.unusedVariables false

theorem row2 {F : Nat → Value} {K V : Nat → ByteArray} {i : Nat} (h : F (i * 2) = .string (K i) ∧ F (i * 2 + 1) = .string (V i)) (q : Nat) (hq : q < 2) : F (i * 2 + q) = if q = 0 then .string (K i) else .string (V i) := by
  match q, hq with
  | 0, _ => exact h.1
  | 1, _ => exact h.2
theorem info48 : (Try.prog.info? 62).map (·.size) = some 2 := by kernel_rfl
theorem eqHead_any (k v : ByteArray) (w : World) : Calls Try.prog 38 #[.agg #[.string k, .string v], .agg #[.string k, .string v]] w fun e w' => e = .returned (.bool true) ∧ Below w.heap.size w w' := by
  go_enter Try.func38, Try.ntmps38
  go_wp2
  go_ret
  exact ⟨rfl, below2 _ _ _⟩

theorem info2 : (Try.prog.info? 62).map (fun i => (i.zero, i.size, i.bytes)) = some (some (.agg #[.string ByteArray.empty, .string ByteArray.empty]), 2, 32) := by kernel_rfl

theorem eqHeadS_none (A A' : Option Addr) (c c' : Nat) (w : World) :
    Calls Try.prog 37 #[.slice A 0 c, .slice A' 0 c'] w fun e w' => e = .returned (.bool true) ∧ Below w.heap.size w w' := by
  go_enter Try.func37, Try.ntmps37
  go_wp2
  go_loop [5] (fun i => i = .int .i64 0) (fun _ => 0)
  case atStart => rfl
  case round =>
    subst hrel
    go_wp2
    go_ret
    exact ⟨rfl, Below.refl _ _⟩

set_option maxHeartbeats 400000 in
theorem eqHeadS_core (g o g' o' n c c' : Nat) (K V : Nat → ByteArray) (w : World) (hn : n ≤ 9223372036854775807) (hc : n ≤ c) (hc' : n ≤ c') (hg : g < w.heap.size) (hg' : g' < w.heap.size)
    (ha : ∀ i, i < n → w.cell? ⟨g, o + i * 2, none⟩ = some (.string (K i)) ∧ w.cell? ⟨g, o + i * 2 + 1, none⟩ = some (.string (V i)))
    (ha' : ∀ i, i < n → w.cell? ⟨g', o' + i * 2, none⟩ = some (.string (K i)) ∧ w.cell? ⟨g', o' + i * 2 + 1, none⟩ = some (.string (V i))) :
    Calls Try.prog 37 #[.slice (some ⟨g, o, none⟩) n c, .slice (some ⟨g', o', none⟩) n c'] w fun e w' => e = .returned (.bool true) ∧ Below w.heap.size w w' := by
  have HA := Seg.hid ha; have HA' := Seg.hid ha'
  clear ha ha'
  go_enter Try.func37, Try.ntmps37
  go_wp2
  go_loopw [5] (fun i wr => ∃ (k : Nat), k ≤ n ∧ i = .int .i64 k ∧ Hid (Below w.heap.size w wr)) (fun i _ => n - (intOf i).toNat)
  case atStart => exact ⟨0, Nat.zero_le _, rfl, Below.refl _ _⟩
  case round =>
    obtain ⟨k, hk, rfl, HB⟩ := hrel
    by_cases hlt2 : k < n
    · have c1 : wr.cell? ⟨g, o + k * 2, none⟩ = some (.string (K k)) := by rw [HB.out.cell (p := ⟨g, o + k * 2, none⟩) hg]; exact (HA.out k hlt2).1
      have c2 : wr.cell? ⟨g, o + k * 2 + 1, none⟩ = some (.string (V k)) := by rw [HB.out.cell (p := ⟨g, o + k * 2 + 1, none⟩) hg]; exact (HA.out k hlt2).2
      have c3 : wr.cell? ⟨g', o' + k * 2, none⟩ = some (.string (K k)) := by rw [HB.out.cell (p := ⟨g', o' + k * 2, none⟩) hg']; exact (HA'.out k hlt2).1
      have c4 : wr.cell? ⟨g', o' + k * 2 + 1, none⟩ = some (.string (V k)) := by rw [HB.out.cell (p := ⟨g', o' + k * 2 + 1, none⟩) hg']; exact (HA'.out k hlt2).2
      have h0 : (0 : Int) ≤ (k : Int) := by omega
      have h1 : (k : Int) < (n : Int) := by omega
      go_wp2_with fail
      go_region_with (go_at_call 38; refine (eqHead_any _ _ _).mono ?_; rintro e w1 ⟨rfl, b1⟩; have B1 : Hid (Below w.heap.size w w1) := chainD HB.out b1; clear b1)
      all_goals
        go_wp2
        go_roundw
        case rel => exact ⟨k + 1, by omega, by go_num, B1.out⟩
        case measure => simp [intOf]; omega
    · have : k = n := by omega
      subst this
      go_wp2
      go_ret
      exact ⟨rfl, HB.out⟩

theorem eqHeadS_any (v v' : Value) (hs : List Hd) (w : World) (lo lo' b : Nat) (hv : Heads w lo b v hs) (hv' : Heads w lo' b v' hs) (hb : b ≤ w.heap.size) :
    Calls Try.prog 37 #[v, v'] w fun e w' => e = .returned (.bool true) ∧ Below w.heap.size w w' := by
  obtain ⟨hn, A, c, rfl, h⟩ := hv
  obtain ⟨_, A', c', rfl, h'⟩ := hv'
  by_cases hz : hs.length = 0
  · rw [hz]
    exact eqHeadS_none A A' c c' w
  obtain ⟨g, o, rfl, hg, hc, hcell, _⟩ := h.resolve_left hz
  obtain ⟨g', o', rfl, hg', hc', hcell', _⟩ := h'.resolve_left hz
  exact eqHeadS_core g o g' o' hs.length c c' (fun i => (hs.getD i default).key) (fun i => (hs.getD i default).val) w hn hc hc' (by omega) (by omega) (fun i hi => Heads.cell0 hcell i hi) (fun i hi => Heads.cell0 hcell' i hi)
end Go.Proofs.Ytafgakddhoabjaa.Sz
