/- Windows of the model and of the program: plain; Windows' answers are lists of lists of the call's own, and few. -/
import Derived.Test.YtkohhcjpjloaaaaJW38
import Derived.Test.YtkohhcjpjloaaaaJW41
namespace Go.Proofs.Ytkohhcjpjloaaaa.WoP
set_option maxRecDepth 8000
open Go.RowKit
open Ls Lp SrP WnP SnI
set_option linter.unusedVariables false
theorem srt_at {ts : List Int} {i j : Nat} (hij : i ≤ j) (hj : j < (srt ts).length) : (srt ts).getD i default ≤ (srt ts).getD j default := by
  rcases Nat.lt_or_eq_of_le hij with h | rfl
  · have hp := List.pairwise_iff_getElem.1 (srt_pair ts) i j (by omega) hj h
    rw [List.getD_eq_getElem?_getD, List.getD_eq_getElem?_getD, List.getElem?_eq_getElem (by omega), List.getElem?_eq_getElem hj]
    simpa using hp
  · exact Int.le_refl _
/-- All times are right just where the least and the greatest are. -/
theorem ends_ok {ts : List Int} (h0 : 0 < (srt ts).length) : ts.all inT = (decide (0 ≤ (srt ts).getD 0 default) && decide ((srt ts).getD ((srt ts).length - 1) default ≤ 1000000000000)) := by
  have mem : ∀ j, j < (srt ts).length → (srt ts).getD j default ∈ ts := fun j hj => by
    rw [List.getD_eq_getElem?_getD, List.getElem?_eq_getElem hj]
    exact (srt_perm ts).mem_iff.1 (List.getElem_mem hj)
  rw [Bool.eq_iff_iff, Bool.and_eq_true, decide_eq_true_eq, decide_eq_true_eq, List.all_eq_true]
  constructor
  · intro h
    exact ⟨(inT_iff (h _ (mem 0 h0))).1, (inT_iff (h _ (mem _ (by omega)))).2⟩
  · rintro ⟨h1, h2⟩ t ht
    obtain ⟨j, hj, rfl⟩ := List.getElem_of_mem ((srt_perm ts).mem_iff.2 ht)
    have a1 := srt_at (ts := ts) (Nat.zero_le j) hj
    have a2 := srt_at (ts := ts) (i := j) (j := (srt ts).length - 1) (by omega) (by omega)
    have e : (srt ts).getD j default = (srt ts)[j] := by rw [List.getD_eq_getElem?_getD, List.getElem?_eq_getElem hj]; rfl
    rw [e] at a1 a2
    unfold inT
    simp only [Bool.and_eq_true, decide_eq_true_eq]
    omega
theorem srt_of_perm {a b : List Int} (h : a.Perm b) : srt a = srt b := srt_uniq ((srt_perm a).trans h) (srt_pair a)
/-- The starts may be taken of the sorted times. -/
theorem cut_srt (size every : Int) (ts : List Int) : cutS size every ts = Lib.compact (srt (staL size every (srt ts))) := by
  unfold cutS
  have p : (staL size every (srt ts)).Perm (staL size every ts) := (srt_perm ts).flatMap_right (hopL size every)
  rw [srt_of_perm p]
/-- Windows that do not overlap: one start for each time. -/
theorem hop_one {size t : Int} (h0 : 0 ≤ t) (hs : 0 < size) : hopL size size t = [t - t % size] := by
  have h1 := Int.emod_nonneg t (by omega : size ≠ 0)
  have h2 := Int.emod_lt_of_pos t hs
  have h3 : t % size ≤ t := by
    have h4 : 0 ≤ size * (t / size) := Int.mul_nonneg (by omega) (Int.ediv_nonneg h0 (by omega))
    have := Int.emod_add_mul_ediv t size
    omega
  unfold hopL
  rw [hop_in (by omega) (by omega), hop_out (by omega)]
theorem start_eq {size t : Int} : t / size * size = t - t % size := by
  have := Int.emod_add_mul_ediv t size
  have e : t / size * size = size * (t / size) := Int.mul_comm _ _
  omega
/-- One start more, or not: what the last loop keeps. -/
theorem win_up (size : Int) (cs : List Int) (k : Nat) (hk : k < cs.length) : winW size (Lib.compactUpTo cs.toArray (k + 1)) = if k = 0 ∨ cs.getD (k - 1) default ≠ cs.getD k default then winW size (Lib.compactUpTo cs.toArray k) ++ [[cs.getD k default, cs.getD k default + size]] else winW size (Lib.compactUpTo cs.toArray k) := by
  have e1 : cs.toArray[k]! = cs.getD k default := by rw [getElem!_pos cs.toArray k (by simpa using hk)]; simp [hk]
  have e2 : cs.toArray[k - 1]! = cs.getD (k - 1) default := by rw [getElem!_pos cs.toArray (k - 1) (by simp; omega)]; simp [List.getD_eq_getElem?_getD, show k - 1 < cs.length by omega]
  rw [Lib.compactUpTo_succ]
  unfold Lib.keeps
  rw [e1, e2]
  by_cases h : k = 0 ∨ cs.getD (k - 1) default ≠ cs.getD k default
  · rw [if_pos h, if_pos (by rw [decide_eq_true_eq]; exact h.imp id Ne.symm)]
    unfold winW
    rw [List.map_append]
    rfl
  · rw [if_neg h, if_neg (by rw [decide_eq_true_eq]; exact fun q => h (q.imp id Ne.symm)), List.append_nil]
/-- The last window of the sessions so far ends a size behind the last time. -/
theorem ses_end (size : Int) (s : List Int) : ∀ k, 0 < k → ∃ a, (sesK size s k).getD ((sesK size s k).length - 1) default = [a, s.getD (k - 1) default + size + 1]
  | 0, h => absurd h (by omega)
  | k + 1, _ => by
    rw [sesK]
    split
    · exact ⟨s.getD k default, by rw [List.length_append, List.length_singleton, Nat.add_sub_cancel, Nat.add_sub_cancel]; simp⟩
    · next h =>
      have hk : 0 < k := by omega
      have hl := (ses_len size s k).2 hk
      refine ⟨((sesK size s k).getD ((sesK size s k).length - 1) default).getD 0 0, ?_⟩
      rw [List.length_set, List.getD_eq_getElem?_getD, List.getElem?_set_self (by omega), Nat.add_sub_cancel]
      rfl
end Go.Proofs.Ytkohhcjpjloaaaa.WoP
namespace Go.Proofs.Ytkohhcjpjloaaaa.WoO
set_option maxRecDepth 8000
open Go.RowKit
open Ls Lp QyP QsP QtP XqP SrP WnP WnI SnI WiI
set_option linter.unusedVariables false
theorem few_ints (ns : List Int) (h : ns.length ≤ 1048576) : tot Ow.nI ns ≤ 1000000000 := by rw [Ow.nI_tot]; omega
theorem tot_two : ∀ us : List (List Int), (∀ u, u ∈ us → u.length = 2) → tot Ow.nI2 us = 2 * us.length
  | [], _ => rfl
  | u :: us, h => by
    have e := tot_two us (fun v hv => h v (List.mem_cons_of_mem _ hv))
    have e2 : Ow.nI2 u = 2 := by show tot Ow.nI u = 2; rw [Ow.nI_tot]; exact h u (List.mem_cons_self ..)
    rw [tot, e, e2, List.length_cons]
    omega
theorem ses_two (size : Int) (s : List Int) : ∀ k u, u ∈ sesK size s k → u.length = 2
  | 0, u, h => by cases h
  | k + 1, u, h => by
    rw [sesK] at h
    split at h
    · rcases List.mem_append.1 h with h | h
      · exact ses_two size s k u h
      · rw [List.mem_singleton.1 h]; rfl
    · rcases List.mem_or_eq_of_mem_set h with h | h
      · exact ses_two size s k u h
      · rw [h]; rfl
theorem win_two (size : Int) (cs : List Int) : ∀ u, u ∈ winW size cs → u.length = 2 := fun u h => by
  unfold winW at h
  obtain ⟨s, -, rfl⟩ := List.mem_map.1 h
  rfl
theorem cut_few (size every : Int) (ts : List Int) (h : ts.length ≤ 3000) : (winW size (cutS size every ts)).length ≤ 63000 := by
  unfold winW cutS
  rw [List.length_map]
  have h1 := compact_len (srt (staL size every ts))
  rw [srt_len] at h1
  have h2 := sta_len size every ts
  omega
theorem wins_few (q : Qry) (ts : List Int) : (winsW q ts).length ≤ 63000 ∧ ∀ u, u ∈ winsW q ts → u.length = 2 := by
  unfold winsW
  split
  · next h =>
    have hl : ts.length ≤ 3000 := by
      simp only [Bool.and_eq_true, timesB, decide_eq_true_eq] at h
      exact h.2.2.2
    split
    · exact ⟨cut_few _ _ _ hl, win_two _ _⟩
    split
    · exact ⟨cut_few _ _ _ hl, win_two _ _⟩
    split
    · exact ⟨by have := (ses_len q.size (srt ts) ts.length).1; omega, ses_two _ _ _⟩
    · unfold allW
      split
      · exact ⟨by simp, fun u hu => by cases hu⟩
      · exact ⟨by simp, fun u hu => by rw [List.mem_singleton.1 hu]; rfl⟩
  · exact ⟨by simp, fun u hu => by cases hu⟩
theorem few_wins (q : Qry) (ts : List Int) : tot Ow.nI2 (winsW q ts) ≤ 1000000000 := by
  have h := wins_few q ts
  rw [tot_two _ h.2]
  omega
theorem own_of {w : World} {B b : Nat} {v : Value} {q : Qry} {ts : List Int} (hb : b ≤ B) (h : Ow.LGrow 29 1 Ow.EOI2 w B v (winsW q ts)) : Ow.I2sOwn w (seg b w.heap.size) v (winsW q ts) :=
  Ow.LOwn.mono (h.own (by have := (wins_few q ts).1; omega)) (fun y hy => ⟨Nat.le_trans hb hy.1, hy.2⟩)
theorem impl_own (x y : Value) (q : Qry) (ts : List Int) (w : World) (S : Nat → Prop) (hx : QryAt w S x q) (hv : IntsAt w S y ts) (hS : ∀ g, S g → g < w.heap.size) (hz : szQry q ≤ 1048576) (hf : ts.length ≤ 1048576) :
    Calls Try.prog 6 #[x, y] w fun e w' => ∃ v, e = .returned v ∧ Ow.I2sOwn w' (seg w.heap.size w'.heap.size) v (winsW q ts) ∧ Below w.heap.size w w' :=
  (WiI.impl_any x y q ts w S hx hv hS hz hf).mono fun e w' ⟨v, h1, ⟨B, h2, h3⟩, h4⟩ => ⟨v, h1, own_of h2 h3, h4⟩
end Go.Proofs.Ytkohhcjpjloaaaa.WoO
