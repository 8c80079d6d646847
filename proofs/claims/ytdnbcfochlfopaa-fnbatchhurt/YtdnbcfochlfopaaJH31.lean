/- The program's expander: a copied piece; The bytes that pieces are of, as plain lists. -/
import Derived.Test.YtdnbcfochlfopaaJH30
namespace Go.Proofs.Ytdnbcfochlfopaa.Expc
set_option maxRecDepth 8000
open Go.RowKit
open Seg (B)
open Expd (Done)
set_option linter.unusedVariables false

set_option maxRecDepth 4000 in
set_option maxHeartbeats 800000 in
theorem copied_short (E m cp : Nat) (A : Option Addr) (len : Nat) (w : World) (hm : m < 3) (hl : len ≤ 200)
    (c0 : w.cell? ⟨E, 0, none⟩ = some (.slice A m cp)) :
    Calls Try.prog 120 #[.pointer (some ⟨E, 0, none⟩), .int .i64 len] w fun e w' => e = .returned (.bool false) ∧ ∃ n, w' = w.drewN n := by
  have hd : decide ((m : Int) < 3) = true := decide_eq_true (by omega)
  go_enter Try.func120, Try.ntmps120
  go_wp2
  go_quiet (fail)
  go_wp2
  go_ret
  exact ⟨rfl, _, rfl⟩

set_option maxRecDepth 4000 in
set_option maxHeartbeats 800000 in
theorem copied_full (E m cp k cap : Nat) (A V : Option Addr) (len : Nat) (most : Int) (w : World) (hm : 3 ≤ m) (hm2 : m ≤ 140737488355328) (hl : len ≤ 200) (hk : k ≤ 60000)
    (c0 : w.cell? ⟨E, 0, none⟩ = some (.slice A m cp)) (c1 : w.cell? ⟨E, 1, none⟩ = some (.slice V k cap)) (c2 : w.cell? ⟨E, 2, none⟩ = some (.int .i64 most)) (hf : most < k + len) :
    Calls Try.prog 120 #[.pointer (some ⟨E, 0, none⟩), .int .i64 len] w fun e w' => e = .returned (.bool false) ∧ ∃ n, w' = w.drewN n := by
  have hd : decide ((m : Int) < 3) = false := decide_eq_false (by omega)
  go_enter Try.func120, Try.ntmps120
  go_wp2
  go_quiet (fail)
  go_wp2
  go_ret
  exact ⟨rfl, _, rfl⟩

set_option maxRecDepth 4000 in
set_option maxHeartbeats 800000 in
theorem copied_far (E gb i m cp k cap : Nat) (V : Option Addr) (len x y : Nat) (most : Int) (w : World) (hm : 3 ≤ m) (hm2 : m ≤ 140737488355328) (hmc : m ≤ cp) (hl : len ≤ 200) (hk : k ≤ 60000) (hx : x < 256) (hy : y < 256)
    (c0 : w.cell? ⟨E, 0, none⟩ = some (.slice (some ⟨gb, i, none⟩) m cp)) (c1 : w.cell? ⟨E, 1, none⟩ = some (.slice V k cap)) (c2 : w.cell? ⟨E, 2, none⟩ = some (.int .i64 most)) (hf : k + len ≤ most)
    (hcx : w.cell? ⟨gb, i + 1, none⟩ = some (.int .u8 (x : Int))) (hcy : w.cell? ⟨gb, i + 2, none⟩ = some (.int .u8 (y : Int))) (hd2 : k < x * 256 + y + 1) :
    Calls Try.prog 120 #[.pointer (some ⟨E, 0, none⟩), .int .i64 len] w fun e w' => e = .returned (.bool false) ∧ ∃ n, w' = w.drewN n := by
  have hd : decide ((m : Int) < 3) = false := decide_eq_false (by omega)
  have h1 : (1 : Int) < (m : Int) := by omega
  have h2 : (2 : Int) < (m : Int) := by omega
  go_enter Try.func120, Try.ntmps120
  go_wp2
  go_quiet (fail)
  go_wp2
  go_quiet (fail)
  go_wp2
  go_ret
  exact ⟨rfl, _, rfl⟩

/-- So many bytes more, each from d back. -/
def cpy (d : Nat) : Nat → List Int → List Int
  | 0, out => out
  | n + 1, out => let o := cpy d n out; o ++ [o.getD (o.length - d) 0]
theorem cpy_len (d : Nat) : ∀ n out, (cpy d n out).length = out.length + n
  | 0, out => rfl
  | n + 1, out => by simp [cpy, cpy_len d n out]; omega

/-- The expander within a copy: so many bytes are out. -/
structure Mid (w wr : World) (E gb i m cp n base : Nat) (most : Int) (out : List Int) : Prop where
  ps : wr.cell? ⟨E, 0, none⟩ = some (.slice (some ⟨gb, i, none⟩) m cp)
  ou : ∃ g cap, wr.cell? ⟨E, 1, none⟩ = some (.slice (some ⟨g, 0, none⟩) n cap) ∧ wr.ownsRow base 5 1 (.slice (some ⟨g, 0, none⟩) n cap) n (B out) ∧ g ≠ E
  mo : wr.cell? ⟨E, 2, none⟩ = some (.int .i64 most)
  f0 : wr.frozen? ⟨E, 0, none⟩ = false
  f1 : wr.frozen? ⟨E, 1, none⟩ = false
  lt : E < wr.heap.size
  bl : Below base w wr
theorem Mid.drew {w wr : World} {E gb i m cp n base : Nat} {most : Int} {out : List Int} (h : Mid w wr E gb i m cp n base most out) : Mid w wr.drew E gb i m cp n base most out := ⟨h.ps, h.ou, h.mo, h.f0, h.f1, h.lt, h.bl.drew⟩
theorem done_of_mid {w wr : World} {E gb i m cp n base i' m' c' : Nat} {A : Option Addr} {most : Int} {out : List Int} (h : Mid w wr E gb i m cp n base most out) (hb : base ≤ E) (hA : 0 < m' → A = some ⟨gb, i', none⟩ ∧ m' ≤ c') :
    Done w (wr.setCell ⟨E, 0, none⟩ (.slice A m' c')) E gb i' m' n base most out := by
  obtain ⟨g, cap, q1, o1, hgE⟩ := h.ou
  refine ⟨⟨A, c', World.cell?_setCell_same _ _ _ h.ps, hA⟩, ⟨g, cap, ?_, o1.kept (Expd.Draw_grown wr E 0 _) (.inr (by simp [Value.ownBlock]; exact hgE)), hgE⟩, ?_, ?_, ?_, h.bl.setCell hb _⟩
  · rw [World.cell?_setCell_other _ _ _ _ (by simp)]; exact q1
  · rw [World.cell?_setCell_other _ _ _ _ (by simp)]; exact h.mo
  · rw [World.frozen?_setCell]; exact h.f0
  · rw [World.frozen?_setCell]; exact h.f1
theorem mid_next {w wr w1 : World} {E gb i m cp n base g g1 cap1 : Nat} {most : Int} {out : List Int} {v : Int} {o : Obj} (h : Mid w wr E gb i m cp n base most out) (hb : base ≤ E) (hgE : g ≠ E) (hgb : base ≤ g)
    (ho : w1.ownsRow base 5 1 (.slice (some ⟨g1, 0, none⟩) (n + 1) cap1) (n + 1) (B out ++ [.int .u8 v])) (hg : (wr.alloc o).grownBy w1 (some g)) (hat : g1 = g ∨ g1 = wr.heap.size + 1) :
    Mid w (w1.setCell ⟨E, 1, none⟩ (.slice (some ⟨g1, 0, none⟩) (n + 1) cap1)) E gb i m cp (n + 1) base most (out ++ [v]) := by
  have hlt := h.lt
  have hE : w1.heap[E]? = wr.heap[E]? := (hg.block E (by simp; omega) (by simpa using fun e => hgE e.symm)).trans (heap_alloc_old wr o hlt)
  have kc := fun (j : Nat) => World.cell?_of_block (a := ⟨E, j, none⟩) hE
  have kf := fun (j : Nat) => World.frozen?_of_block (a := ⟨E, j, none⟩) hE
  have hg1 : g1 ≠ E := by rcases hat with e | e <;> omega
  obtain ⟨g0, cap0, hc1, _, _⟩ := h.ou
  have ho' : w1.ownsRow base 5 1 (.slice (some ⟨g1, 0, none⟩) (n + 1) cap1) (n + 1) (B (out ++ [v])) := by simpa [B] using ho
  refine ⟨?_, ⟨g1, cap1, ?_, ho'.kept (Expd.Draw_grown w1 E 1 _) (.inr (by simp [Value.ownBlock]; exact hg1)), hg1⟩, ?_, ?_, ?_, ?_, ?_⟩
  · rw [World.cell?_setCell_other _ _ _ _ (by simp), kc]; exact h.ps
  · exact World.cell?_setCell_same _ _ _ (by rw [kc]; exact hc1)
  · rw [World.cell?_setCell_other _ _ _ _ (by simp), kc]; exact h.mo
  · rw [World.frozen?_setCell, kf]; exact h.f0
  · rw [World.frozen?_setCell, kf]; exact h.f1
  · have := hg.size; simp at this; simp; omega
  · have hs := h.bl.size
    exact ((h.bl.alloc (by omega) o).grown hg (by simp; omega) (fun j hj => by cases hj; exact hgb)).setCell hb _

set_option maxRecDepth 100000 in
set_option maxHeartbeats 3200000 in
theorem copied_ok (E gb i m cp k cap g base : Nat) (len x y : Nat) (most : Int) (out : List Int) (w : World) (hm : 3 ≤ m) (hm2 : m ≤ 140737488355328) (hmc : m ≤ cp) (hl : len ≤ 200) (hk : k ≤ 60000) (hx : x < 256) (hy : y < 256)
    (c0 : w.cell? ⟨E, 0, none⟩ = some (.slice (some ⟨gb, i, none⟩) m cp)) (c1 : w.cell? ⟨E, 1, none⟩ = some (.slice (some ⟨g, 0, none⟩) k cap)) (c2 : w.cell? ⟨E, 2, none⟩ = some (.int .i64 most)) (hf : k + len ≤ most) (hmost : most ≤ 60000)
    (f0 : w.frozen? ⟨E, 0, none⟩ = false) (f1 : w.frozen? ⟨E, 1, none⟩ = false) (hlen : out.length = k)
    (ho : w.ownsRow base 5 1 (.slice (some ⟨g, 0, none⟩) k cap) k (B out)) (hge : g ≠ E) (hbE : base ≤ E) (hgb : gb < base)
    (hcx : w.cell? ⟨gb, i + 1, none⟩ = some (.int .u8 (x : Int))) (hcy : w.cell? ⟨gb, i + 2, none⟩ = some (.int .u8 (y : Int))) (hd2 : x * 256 + y + 1 ≤ k) :
    Calls Try.prog 120 #[.pointer (some ⟨E, 0, none⟩), .int .i64 len] w fun e w' => e = .returned (.bool true) ∧ Done w w' E gb (i + 3) (m - 3) (k + len) base most (cpy (x * 256 + y + 1) len out) := by
  obtain ⟨i0, hi, hz0, hz1, hz2⟩ := info_parts Expd.infoB
  have hd : decide ((m : Int) < 3) = false := decide_eq_false (by omega)
  have h1 : (1 : Int) < (m : Int) := by omega
  have h2 : (2 : Int) < (m : Int) := by omega
  have HO := Seg.hid ho
  have hEl : E < w.heap.size := World.block_lt_of_cell? w _ c0
  have hbl : base ≤ w.heap.size := by omega
  clear ho
  go_enter Try.func120, Try.ntmps120
  go_wp2
  go_quiet (fail)
  go_wp2
  go_quiet (fail)
  go_wp2
  obtain ⟨fr, hfr⟩ : ∃ fr : Nat, k = fr + (x * 256 + y + 1) := ⟨k - (x * 256 + y + 1), by omega⟩
  have hfi : (k : Int) - ((x : Int) * 256 + (y : Int) + 1) = (fr : Int) := by omega
  rw [hfi]
  have HFR := Seg.hid hfr
  clear hfi hfr
  have M0 : ∀ d, Mid w (w.drewN d) E gb i m cp (k + 0) base most (cpy (x * 256 + y + 1) 0 out) := fun d => ⟨c0, ⟨g, cap, c1, HO.out, hge⟩, c2, f0, f1, hEl, below_drewN (Below.refl _ _) _⟩
  go_loopw [7, 55] (fun _ i' wr => ∃ j : Nat, j ≤ len ∧ i' = .int .i64 j ∧ Mid w wr E gb i m cp (k + j) base most (cpy (x * 256 + y + 1) j out)) (fun _ i' _ => len - (intOf i').toNat)
  case atStart => exact ⟨0, Nat.zero_le _, rfl, M0 _⟩
  case round =>
    clear M0 c0 c1 c2 f0 f1 HO hcx hcy hEl
    obtain ⟨j, hj, rfl, M⟩ := hrel
    have HM := Seg.hid M
    have q0 := M.ps
    have p0 := M.f0
    have p1 := M.f1
    have hEl := M.lt
    obtain ⟨g2, cap2, q1, o2, hgE⟩ := M.ou
    have hoc := Seg.owns_cap o2
    have HO2 := Seg.hid o2
    clear M
    by_cases hlt : j < len
    · have hcl := cpy_len (x * 256 + y + 1) j out
      have hcv := Seg.owns_cell o2 (fr + j) (by have := HFR.out; omega)
      obtain ⟨v, hv⟩ : ∃ v, v = (cpy (x * 256 + y + 1) j out).getD (fr + j) 0 := ⟨_, rfl⟩
      have HV : Hid (cpy (x * 256 + y + 1) (j + 1) out = cpy (x * 256 + y + 1) j out ++ [v]) := (by
        show _ = _
        rw [hv, cpy]
        have e : (cpy (x * 256 + y + 1) j out).length - (x * 256 + y + 1) = fr + j := by have := HFR.out; omega
        simp only [e])
      rw [← hv] at hcv
      clear hv hcl o2
      have hi0' : (0 : Int) ≤ (fr : Int) + (j : Int) := by omega
      have hi1' : (fr : Int) + (j : Int) < ((k + j : Nat) : Int) := by have := HFR.out; omega
      have hw1 : IntKind.i64.wrap ((fr : Int) + (j : Int)) = (fr : Int) + (j : Int) := by rw [IntKind.wrap_i64]; have := HFR.out; omega
      have htn : ((fr : Int) + (j : Int)).toNat = fr + j := by omega
      have hfk : fr < k := by have := HFR.out; omega
      have HEG2 : Hid (some E ≠ (Value.slice (some ⟨g2, 0, none⟩) (k + j) cap2).ownBlock) := (by show _ ≠ _; simp [Value.ownBlock]; omega)
      go_wp2
      go_region_law ((refine step_append_lies _ (by rfl) _ _ _ (by rfl) base 5 i0 (.int .u8 0) 1 1 Try.underlying22 hi hz0 hz1 hz2 rfl (by decide) _ (k + j) _ (by rfl) ((HO2.out.alloc _).drew) ⟨wr.heap.size, 0, none⟩ 1 1 [.int .u8 v] (by rfl) (by rfl) (World.news_of_block (cs := #[.int .u8 v]) (t := 5) (fr := (0, 0)) (heap_alloc_new wr _)) (by simp [Value.oneCell']) (by decide) (by unfold maxLen; omega) (by omega) (by simp; omega) (wr.heap.size + 1) (by simp) ?_; intro g1 cap1 w1 hown1 hgrow hat hlt1; have z1 : w1.cell? ⟨E, 1, none⟩ = some (.slice (some ⟨g2, 0, none⟩) (k + j) cap2) := (hgrow.cell_far ⟨E, 1, none⟩ (by simp; omega) HEG2.out).trans ((World.cell?_of_block (a := ⟨E, 1, none⟩) (heap_alloc_old wr _ hEl)).trans q1); have y1 : w1.frozen? ⟨E, 1, none⟩ = false := (hgrow.frozen_far ⟨E, 1, none⟩ (by simp; omega) HEG2.out).trans ((World.frozen?_of_block (a := ⟨E, 1, none⟩) (heap_alloc_old wr _ hEl)).trans p1)))
      all_goals
        have HN : Hid (Mid w (w1.setCell ⟨E, 1, none⟩ (.slice (some ⟨g1, 0, none⟩) (k + j + 1) cap1)) E gb i m cp (k + (j + 1)) base most (cpy (x * 256 + y + 1) (j + 1) out)) := (by
          show Mid _ _ _ _ _ _ _ _ _ _ _
          rw [HV.out]
          exact mid_next HM.out hbE hgE hoc.2.2.1 hown1 (show World.grownBy (wr.alloc _) w1 (some g2) from ⟨hgrow.os, hgrow.tape, hgrow.output, hgrow.size, hgrow.block⟩) (hat.imp (fun h => by simpa [Value.ownBlock] using h.symm) id))
        clear hown1 hgrow hat hlt1
        go_wp2
        go_roundw
        case rel => exact ⟨j + 1, by omega, by go_num, HN.out⟩
        case measure => simp [intOf]; omega
    · have hj' : j = len := by omega
      have HM2 : Hid (Mid w wr E gb i m cp (k + len) base most (cpy (x * 256 + y + 1) len out)) := (by rw [← hj']; exact HM.out)
      clear hj'
      by_cases hc3 : cp = 3
      · obtain rfl : m = 3 := by omega
        subst hc3
        go_wp2
        go_ret
        exact ⟨rfl, done_of_mid HM2.out hbE (fun h => absurd h (Nat.lt_irrefl 0))⟩
      · go_wp2
        go_ret
        exact ⟨rfl, done_of_mid HM2.out hbE (fun h => ⟨rfl, by omega⟩)⟩
end Go.Proofs.Ytdnbcfochlfopaa.Expc
namespace Go.Proofs.Ytdnbcfochlfopaa.ExpM
set_option maxRecDepth 8000
open Expc (cpy cpy_len)
set_option linter.unusedVariables false
/-- One piece: the place behind it, and what is out then; none: it is no piece, or too much. -/
def piece (l : List Int) (most i : Nat) (out : List Int) : Option (Nat × List Int) :=
  let x := (l.getD i 0).toNat
  if x < 128 then
    if l.length - i < 1 + (x + 1) then none
    else if most < out.length + (x + 1) then none
    else some (i + (1 + (x + 1)), out ++ (List.range (x + 1)).map fun j => l.getD (i + (1 + j)) 0)
  else if 191 < x then none
  else if l.length - i < 3 then none
  else if most < out.length + (x - 124) then none
  else
    let d := (l.getD (i + 1) 0).toNat * 256 + (l.getD (i + 2) 0).toNat + 1
    if out.length < d then none else some (i + 3, cpy d (x - 124) out)
theorem piece_next {l : List Int} {most i : Nat} {out : List Int} {i' : Nat} {out' : List Int} (h : piece l most i out = some (i', out')) : i < i' ∧ i' ≤ l.length ∧ out'.length ≤ most := by
  unfold piece at h
  simp only at h
  generalize (l.getD i 0).toNat = x at h
  split at h
  · split at h
    · cases h
    · split at h
      · cases h
      · cases h
        simp only [List.length_append, List.length_map, List.length_range]
        omega
  · split at h
    · cases h
    · split at h
      · cases h
      · split at h
        · cases h
        · split at h
          · cases h
          · cases h
            rw [cpy_len]
            omega
/-- All pieces from a place on, f of them at most. -/
def expandF (l : List Int) (most : Nat) : Nat → Nat → List Int → Option (List Int)
  | 0, _, out => some out
  | f + 1, i, out => if i < l.length then (piece l most i out).bind fun p => expandF l most f p.1 p.2 else some out
theorem expandF_same (l : List Int) (most : Nat) : ∀ (f g i : Nat) (out : List Int), l.length - i ≤ f → l.length - i ≤ g → expandF l most f i out = expandF l most g i out
  | 0, 0, i, out, _, _ => rfl
  | 0, g + 1, i, out, h, _ => by rw [expandF, expandF, if_neg (by omega)]
  | f + 1, 0, i, out, _, h => by rw [expandF, expandF, if_neg (by omega)]
  | f + 1, g + 1, i, out, h1, h2 => by
    rw [expandF, expandF]
    by_cases h : i < l.length
    · rw [if_pos h, if_pos h]
      rcases hp : piece l most i out with _ | ⟨i', out'⟩
      · rfl
      · have := piece_next hp
        exact expandF_same l most f g i' out' (by omega) (by omega)
    · rw [if_neg h, if_neg h]
/-- All pieces from a place on. -/
def expand (l : List Int) (most i : Nat) (out : List Int) : Option (List Int) := expandF l most (l.length - i) i out
theorem expand_end {l : List Int} {most i : Nat} {out : List Int} (h : ¬ i < l.length) : expand l most i out = some out := by
  rw [expand, show l.length - i = 0 by omega]; rfl
theorem expand_none {l : List Int} {most i : Nat} {out : List Int} (h : i < l.length) (hp : piece l most i out = none) : expand l most i out = none := by
  obtain ⟨f, hf⟩ : ∃ f, l.length - i = f + 1 := ⟨l.length - i - 1, by omega⟩
  rw [expand, hf, expandF, if_pos h, hp]; rfl
theorem expand_some {l : List Int} {most i : Nat} {out : List Int} {i' : Nat} {out' : List Int} (h : i < l.length) (hp : piece l most i out = some (i', out')) : expand l most i out = expand l most i' out' := by
  have hn := piece_next hp
  obtain ⟨f, hf⟩ : ∃ f, l.length - i = f + 1 := ⟨l.length - i - 1, by omega⟩
  rw [expand, hf, expandF, if_pos h, hp]
  exact expandF_same l most f (l.length - i') i' out' (by omega) (Nat.le_refl _)
/-- How far the expanding is. -/
structure Far (l : List Int) (most i : Nat) (out : List Int) : Prop where
  le : i ≤ l.length
  ol : out.length ≤ most
  eq : expand l most 0 [] = expand l most i out
theorem Far.start (l : List Int) (most : Nat) : Far l most 0 [] := ⟨Nat.zero_le _, Nat.zero_le _, rfl⟩
theorem Far.next {l : List Int} {most i : Nat} {out : List Int} {i' : Nat} {out' : List Int} (h : Far l most i out) (hi : i < l.length) (hp : piece l most i out = some (i', out')) : Far l most i' out' :=
  have := piece_next hp
  ⟨this.2.1, this.2.2, h.eq.trans (expand_some hi hp)⟩
theorem Far.bad {l : List Int} {most i : Nat} {out : List Int} (h : Far l most i out) (hi : i < l.length) (hp : piece l most i out = none) : expand l most 0 [] = none := h.eq.trans (expand_none hi hp)
theorem Far.done {l : List Int} {most i : Nat} {out : List Int} (h : Far l most i out) (hi : ¬ i < l.length) : expand l most 0 [] = some out := h.eq.trans (expand_end hi)
theorem p_short {l : List Int} {most i x : Nat} {out : List Int} (hx : (l.getD i 0).toNat = x) (h1 : x < 128) (h2 : l.length - i < 1 + (x + 1)) : piece l most i out = none := by simp only [piece, hx, if_pos h1, if_pos h2]
theorem p_full {l : List Int} {most i x : Nat} {out : List Int} (hx : (l.getD i 0).toNat = x) (h1 : x < 128) (h2 : ¬ l.length - i < 1 + (x + 1)) (h3 : most < out.length + (x + 1)) : piece l most i out = none := by simp only [piece, hx, if_pos h1, if_neg h2, if_pos h3]
theorem p_plain {l : List Int} {most i x : Nat} {out : List Int} (hx : (l.getD i 0).toNat = x) (h1 : x < 128) (h2 : ¬ l.length - i < 1 + (x + 1)) (h3 : ¬ most < out.length + (x + 1)) : piece l most i out = some (i + (1 + (x + 1)), out ++ (List.range (x + 1)).map fun j => l.getD (i + (1 + j)) 0) := by simp only [piece, hx, if_pos h1, if_neg h2, if_neg h3]
theorem p_high {l : List Int} {most i x : Nat} {out : List Int} (hx : (l.getD i 0).toNat = x) (h1 : ¬ x < 128) (h2 : 191 < x) : piece l most i out = none := by simp only [piece, hx, if_neg h1, if_pos h2]
theorem p_cut {l : List Int} {most i x : Nat} {out : List Int} (hx : (l.getD i 0).toNat = x) (h1 : ¬ x < 128) (h2 : ¬ 191 < x) (h3 : l.length - i < 3) : piece l most i out = none := by simp only [piece, hx, if_neg h1, if_neg h2, if_pos h3]
theorem p_much {l : List Int} {most i x : Nat} {out : List Int} (hx : (l.getD i 0).toNat = x) (h1 : ¬ x < 128) (h2 : ¬ 191 < x) (h3 : ¬ l.length - i < 3) (h4 : most < out.length + (x - 124)) : piece l most i out = none := by simp only [piece, hx, if_neg h1, if_neg h2, if_neg h3, if_pos h4]
theorem p_back {l : List Int} {most i x : Nat} {out : List Int} (hx : (l.getD i 0).toNat = x) {a b : Nat} (h1 : ¬ x < 128) (h2 : ¬ 191 < x) (h3 : ¬ l.length - i < 3) (h4 : ¬ most < out.length + (x - 124)) (ha : (l.getD (i + 1) 0).toNat = a) (hb : (l.getD (i + 2) 0).toNat = b) (h5 : out.length < a * 256 + b + 1) : piece l most i out = none := by
  simp only [piece, hx, if_neg h1, if_neg h2, if_neg h3, if_neg h4, ha, hb, if_pos h5]
theorem p_copy {l : List Int} {most i x : Nat} {out : List Int} (hx : (l.getD i 0).toNat = x) {a b : Nat} (h1 : ¬ x < 128) (h2 : ¬ 191 < x) (h3 : ¬ l.length - i < 3) (h4 : ¬ most < out.length + (x - 124)) (ha : (l.getD (i + 1) 0).toNat = a) (hb : (l.getD (i + 2) 0).toNat = b) (h5 : ¬ out.length < a * 256 + b + 1) : piece l most i out = some (i + 3, cpy (a * 256 + b + 1) (x - 124) out) := by
  simp only [piece, hx, if_neg h1, if_neg h2, if_neg h3, if_neg h4, ha, hb, if_neg h5]
end Go.Proofs.Ytdnbcfochlfopaa.ExpM
