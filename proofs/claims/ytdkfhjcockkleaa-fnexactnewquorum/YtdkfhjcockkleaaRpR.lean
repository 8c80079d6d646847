/- slices.Repeat of one new voter; NewQuorum of the program. -/
import Derived.Test.YtdkfhjcockkleaaRpQ
import Derived.Deep.RegionLaw
namespace Go.Proofs.Ytdkfhjcockkleaa.RpQ
set_option maxRecDepth 8000
open Go.RowKit
open Ls Ow QkP NqP
open Recs (hsz below1 below2 chain)
set_option linter.unusedVariables false
theorem rep_add (k : Nat) : ∀ m, rep (k + m) = rep k ++ rep m
  | 0 => by simp [rep]
  | m + 1 => by rw [← Nat.add_assoc, rep_succ, rep_add k m, rep_succ m, List.append_assoc]
theorem rep_one : ∀ (k : Nat) (u : Value), u ∈ rep k → u.oneCell' = true
  | 0, u, h => by simp [rep] at h
  | k + 1, u, h => by
    rw [rep_succ, List.mem_append] at h
    rcases h with h | h
    · exact rep_one k u h
    · simp only [pt, List.mem_cons, List.not_mem_nil, or_false] at h
      rcases h with h | h | h | h | h | h | h | h <;> (subst h; rfl)
/-- The row is filled so far: k voters. -/
structure Rp (w wr : World) (n k : Nat) (cur : Array Value) : Prop where
  row : wr.heap[w.heap.size]? = some (.cells cur 45 (0, 0))
  size : cur.size = n * 8
  front : cur.toList.take (k * 8) = rep k
  bel : Below w.heap.size w wr
theorem Rp.next {w wr : World} {n k m : Nat} {cur : Array Value} (h : Rp w wr n k cur) (hm : k + m ≤ n) :
    Rp w (wr.setRow w.heap.size (cur.toList.take (k * 8) ++ rep m ++ cur.toList.drop (k * 8 + (rep m).length)).toArray) n (k + m) (cur.toList.take (k * 8) ++ rep m ++ cur.toList.drop (k * 8 + (rep m).length)).toArray := by
  have hl : cur.toList.length = n * 8 := by simpa using h.size
  refine ⟨setRow_heap wr _ cur _ _ _ h.row, ?_, ?_, ?_⟩
  · simp [rep_len, hl]; omega
  · rw [h.front]
    simp only [List.append_assoc]
    rw [← List.append_assoc, ← rep_add, List.take_append_of_le_length (by rw [rep_len]; exact Nat.le_refl _)]
    exact List.take_of_length_le (by rw [rep_len]; exact Nat.le_refl _)
  · exact ⟨h.bel.os, h.bel.tape, h.bel.output, by simpa [World.setRow] using h.bel.size, fun x hx => (setRow_other wr _ x _ (by omega)).trans (h.bel.block x hx)⟩
theorem Rp.src {w wr : World} {n k m : Nat} {cur : Array Value} (h : Rp w wr n k cur) (hm : m ≤ k) : ∀ j u, (rep m)[j]? = some u → wr.cell? ((⟨w.heap.size, 0, none⟩ : Addr).add j) = some u := fun j u hj => by
  refine World.news_of_block h.row j u ?_
  have hlt : j < m * 8 := by have := (List.getElem?_eq_some_iff.1 hj).1; rwa [rep_len] at this
  have : (cur.toList.take (k * 8))[j]? = (rep k)[j]? := by rw [h.front]
  rw [List.getElem?_take_of_lt (by omega)] at this
  rw [this]
  obtain ⟨d, rfl⟩ : ∃ d, k = m + d := ⟨k - m, by omega⟩
  rw [rep_add, List.getElem?_append_left (by rw [rep_len]; exact hlt)]
  exact hj
set_option maxHeartbeats 3200000 in
theorem repeat_any (b n : Nat) (h : 1 ≤ n ∧ n ≤ 5) (w : World) (hb : w.heap[b]? = some (.cells pt 45 (0, 0))) :
    Calls Try.prog 29 #[.slice (some ⟨b, 0, none⟩) 1 1, .int .i64 n] w fun e w' => e = .returned (.slice (some ⟨w.heap.size, 0, none⟩) n n) ∧ w'.ownsRow w.heap.size 45 8 (.slice (some ⟨w.heap.size, 0, none⟩) n n) n (rep n) ∧ Below w.heap.size w w' := by
  obtain ⟨i0, hi, hz0, hz1, hz2⟩ := info_parts infoZVtr
  have HB := Seg.hid hb
  have hbl : b < w.heap.size := (Array.getElem?_eq_some_iff.1 hb).1
  have hn0 : ¬ (n : Int) < 0 := by omega
  clear hb
  go_enter Try.func29, Try.ntmps29
  go_wp2_with fail
  refine (mul n h w).mono ?_
  rintro e w1 ⟨rfl, rfl⟩
  go_upto_region 7 with (at_make; refine wpList_make_full _ rfl _ _ 28 rfl w.heap.size 45 i0 _ 8 Try.underlying28 hi hz0 hz1 .i64 .i64 _ _ n rfl rfl rfl rfl (by rw [hz2]; omega) (by unfold maxLen; omega) (Nat.le_refl _) ?_; intro w1 hown hgr)
  have hb1 := (Below.refl w.heap.size w).grown hgr (Nat.le_refl _) (fun k hk => by cases hk)
  obtain ⟨cur, R0⟩ : ∃ cur, Rp w w1 n 0 cur := by
    rcases hown.2 with ⟨h1, _⟩ | ⟨g', cap, cur, h1, hbs, hgg, hnc, hcm, hcs, htake⟩
    · simp at h1
    · simp only [Value.slice.injEq, Option.some.injEq, Addr.mk.injEq, and_true, true_and] at h1
      obtain ⟨rfl, rfl⟩ := h1
      exact ⟨cur, hgg, hcs, by simp [rep], hb1⟩
  have H0 := Seg.hid R0
  have s0 := hb1.size
  have SB : Hid (w1.heap[b]? = some (.cells pt 45 (0, 0))) := (hb1.block b hbl).trans HB.out
  clear hown hgr hb1 R0
  have PL : Hid (pt.toList = rep 1) := by show _ = _; rw [show (1 : Nat) = 0 + 1 from rfl, rep_succ]; simp [rep]
  have R1 : Hid (∃ c', Rp w (w1.setRow w.heap.size (cur.toList.take 0 ++ pt.toList ++ cur.toList.drop (0 + pt.toList.length)).toArray) n 1 c') := by
    have := H0.out.next (m := 1) (by omega)
    simp only [Nat.zero_mul, Nat.zero_add] at this
    rw [← PL.out] at this
    simp only [Nat.zero_add]
    exact ⟨_, this⟩
  have F1 : Hid (0 + pt.toList.length ≤ cur.size) := by show _ ≤ _; rw [H0.out.size]; show 8 ≤ _; omega
  have O1 : Hid (∀ u ∈ pt.toList, u.oneCell' = true) := fun u hu => rep_one 1 u (by rw [← PL.out]; exact hu)
  have M1 : Hid (Nat.min 1 n = 1) := by show Nat.min 1 n = 1; exact Nat.min_eq_left h.1
  go_wp2_with (refine wpList_copy_seg w1 rfl (.tmp 31) (.tmp 32) 28 28 rfl 45 i0 8 Try.underlying28 hi hz1 w.heap.size 0 n n rfl ⟨b, 0, none⟩ 1 1 1 rfl M1.out cur 45 pt.toList H0.out.row rfl (World.news_of_block SB.out) F1.out O1.out ?_)
  go_loopw [8] (fun i wr => ∃ (k : Nat) (cur : Array Value), 1 ≤ k ∧ k ≤ n ∧ i = .int .i64 k ∧ Rp w wr n k cur) (fun i _ => n - (intOf i).toNat)
  case atStart =>
    obtain ⟨c', hc'⟩ := R1.out
    exact ⟨1, c', by omega, h.1, rfl, hc'⟩
  case round =>
    clear R1 F1 O1 M1 H0
    obtain ⟨k, cur, hk1, hk, rfl, HR⟩ := hrel
    have HQ := Seg.hid HR
    clear HR
    by_cases hlt : k < n
    · have h1 : (k : Int) < (n : Int) := by omega
      obtain ⟨m, hm⟩ : ∃ m, Nat.min k (n - k) = m := ⟨_, rfl⟩
      have hm1 : 1 ≤ m ∧ m ≤ k ∧ k + m ≤ n := by
        have a1 := Nat.min_le_left k (n - k)
        have a2 := Nat.min_le_right k (n - k)
        have a3 : 1 ≤ Nat.min k (n - k) := Nat.le_min.2 ⟨hk1, by omega⟩
        have e : min k (n - k) = m := hm
        have e' : Nat.min k (n - k) = m := hm
        rw [e'] at a3
        rw [e] at a1 a2
        omega
      have HM := Seg.hid hm
      obtain ⟨hma, hmb, hmc⟩ := id hm1
      have hkn : k + m ≤ 5 := by omega
      have hwr : IntKind.i64.wrap ((k : Int) + (m : Int)) = (k : Int) + (m : Int) := by rw [IntKind.wrap_i64] <;> omega
      have hwp : IntKind.i64.wrap ((k + m : Nat) : Int) = ((k + m : Nat) : Int) := by rw [IntKind.wrap_i64] <;> omega
      have SR := Seg.hid (HQ.out.src hm1.2.1)
      have FT : Hid (k * 8 + (rep m).length ≤ cur.size) := by show _ ≤ _; rw [HQ.out.size, rep_len]; omega
      have NX : Hid (Rp w (wr.drew.setRow w.heap.size (cur.toList.take (k * 8) ++ (rep m ++ cur.toList.drop (k * 8 + (rep m).length))).toArray) n (k + m) (cur.toList.take (k * 8) ++ (rep m ++ cur.toList.drop (k * 8 + (rep m).length))).toArray) := by
        have a := HQ.out.next hm1.2.2
        simp only [List.append_assoc] at a
        exact ⟨a.row, a.size, a.front, ⟨a.bel.os, a.bel.tape, a.bel.output, a.bel.size, a.bel.block⟩⟩
      have hne : ¬ n = k := by omega
      have h2 : (0 : Int) ≤ (k : Int) := by omega
      have h3 : (k : Int) ≤ (n : Int) := by omega
      clear hm
      go_wp2_with fail
      go_region_law
        ((first | (refine step_copy_seg _ (by rfl) (.tmp 41) (.tmp 44) 28 28 (by rfl) 45 i0 8 Try.underlying28 hi hz1 w.heap.size (k * 8) (n - k) (n - k) (by rfl) ⟨w.heap.size, 0, none⟩ k n m (by rfl) HM.out cur 45 (rep m) HQ.out.row (rep_len m) SR.out FT.out (rep_one m) ?_)))
      all_goals
        go_wp2
        go_roundw
        case rel =>
          first
            | exact ⟨k + m, _, by omega, by omega, by go_num, NX.out⟩
            | ((repeat apply Exists.intro); exact ⟨⟨k + m, _, by omega, by omega, by go_num, NX.out⟩, rfl⟩)
            | exact ⟨.int .i64 ((k : Int) + (m : Int)), _, _, _, _, _, _, _, _, _, _, _, _, _, ⟨k + m, _, by omega, by omega, by go_num, NX.out⟩, rfl⟩
        case measure =>
          first
            | (simp [intOf]; omega)
            | (show n - (intOf (Value.int .i64 ((k : Int) + (m : Int)))).toNat < n - (intOf (Value.int .i64 (k : Int))).toNat; simp [intOf]; omega)
            | (rw [hwr]; show n - (intOf (Value.int .i64 ((k : Int) + (m : Int)))).toNat < n - (intOf (Value.int .i64 (k : Int))).toNat; simp [intOf]; omega)
    · have hk' : k = n := by omega
      subst hk'
      go_wp2
      go_ret
      exact ⟨rfl, ⟨rep_len k, .inr ⟨w.heap.size, k, cur, rfl, Nat.le_refl _, HQ.out.row, Nat.le_refl _, by unfold maxLen; omega, HQ.out.size, HQ.out.front⟩⟩, HQ.out.bel⟩
end Go.Proofs.Ytdkfhjcockkleaa.RpQ
