/- Lines and words of a text, as the model cuts them. -/
import Derived.Test.YtaninhajnfgkkaaDoorTxP
namespace Go.Proofs.YtaninhajnfgkkaaDoor.TxS
set_option maxRecDepth 8000
open Go.RowKit
open Ls Lp TxP
open Recs (hsz below1 below2 chain)
set_option linter.unusedVariables false
def words (t : ByteArray) : List (List UInt8) := cutF 32 t.toList []
def lines (t : ByteArray) : List (List UInt8) := linF t.toList []
theorem cut_len (c : UInt8) : ∀ (l acc : List UInt8), (cutF c l acc).length ≤ l.length + 1
  | [], acc => by simp [cutF]
  | b :: r, acc => by
    rw [cutF]
    split
    · have := cut_len c r []
      simp only [List.length_cons]
      omega
    · have := cut_len c r (acc ++ [b])
      simp only [List.length_cons]
      omega
theorem lin_len : ∀ (l acc : List UInt8), (linF l acc).length ≤ l.length + 1
  | [], acc => by rw [linF]; split <;> simp
  | b :: r, acc => by
    rw [linF]
    split
    · have := lin_len r []
      simp only [List.length_cons]
      omega
    · have := lin_len r (acc ++ [b])
      simp only [List.length_cons]
      omega
set_option maxHeartbeats 6400000 in
theorem words_any (t : ByteArray) (w : World) (ht : t.size ≤ 1048576) :
    Calls Tryd.prog 10 #[.string t] w fun e w' => ∃ v, e = .returned v ∧ TRow w' w.heap.size v (words t) ∧ Below w.heap.size w w' := by
  obtain ⟨i0, hi, hz0, hz1, hz2⟩ := info_parts infoZT
  have LW : Hid ((words t).length ≤ t.size + 1) := by
    show _ ≤ _
    have := cut_len 32 t.toList []
    rw [size_list] at this
    exact this
  go_enter Tryd.func10, Tryd.ntmps10
  have O0 := Seg.hid (tnew w)
  go_wp2_with fail
  go_loopw [3, 4, 5] (fun v f i wr => ∃ (k m : Nat) (us : List (List UInt8)), k ≤ t.size + 1 ∧ f = .int .i64 m ∧ i = .int .i64 k ∧ m ≤ k ∧ Hid (TRow wr w.heap.size v us ∧ Below w.heap.size w wr ∧ (k ≤ t.size → us ++ cutF 32 (t.toList.drop k) ((t.toList.drop m).take (k - m)) = words t) ∧ (t.size < k → us = words t))) (fun _ _ i _ => t.size + 1 - (intOf i).toNat)
  case atStart => exact ⟨0, 0, [], Nat.zero_le _, rfl, rfl, Nat.le_refl _, O0.out, below1 _ _, fun _ => by simp [words], fun h => absurd h (by omega)⟩
  case round =>
    clear O0
    obtain ⟨k, m, us, hk, rfl, rfl, hmk, HR⟩ := hrel
    by_cases hle : k ≤ t.size
    · have US : us.length ≤ 1048577 := by
        have h1 := HR.out.2.2.1 hle
        have h2 := LW.out
        rw [← h1, List.length_append] at h2
        omega
      have hv : (k : Int) ≤ (t.size : Int) := by omega
      have h0 : (0 : Int) ≤ (k : Int) := by omega
      have h0m : (0 : Int) ≤ (m : Int) := by omega
      have hm1 : (m : Int) ≤ (k : Int) := by omega
      have hm2 : ¬ (k : Int) < (m : Int) := by omega
      have hm3 : ¬ (t.size : Int) < (k : Int) := by omega
      have hwr := HR.out.2.1.size
      have OW : Hid (∀ o1, TRow (wr.alloc o1) w.heap.size u3 us) := fun o1 => tkeep HR.out.1 (fun x _ hx => (below1 wr o1).block x hx)
      have BW : Hid (∀ o1 w9, ((wr.alloc o1).grownBy w9 u3.ownBlock) → Below w.heap.size w w9) := fun o1 w9 h9 => (chain HR.out.2.1 (below1 wr o1)).grown h9 (by rw [hsz]; omega) (fun x hx => by
        rcases HR.out.1.2 with ⟨h1, _⟩ | ⟨g', cap, cur, h1, h2, _⟩
        · rw [h1] at hx; cases hx
        · rw [h1] at hx; cases hx; exact h2)
      have PU : Hid (us.map (fun u => Value.string (bsOf u)) ++ [.string (t.extract m k)] = (us ++ [(t.toList.drop m).take (k - m)]).map (fun u => Value.string (bsOf u)) ∧ us.length + 1 = (us ++ [(t.toList.drop m).take (k - m)]).length) := by
        refine ⟨?_, by simp⟩
        rw [List.map_append, List.map_singleton, extract_eq]
      by_cases hlt : k < t.size
      · have GL := get_list t hlt
        have he1 : ((k : Int) == (t.size : Int)) = false := by simp; omega
        have hkt : (k : Int) < (t.size : Int) := by omega
        by_cases hb : t[k] = 32
        · have hb1 : ((t[k].toNat : Int) == 32) = true := by rw [hb]; rfl
          have NX : Hid (us ++ [(t.toList.drop m).take (k - m)] ++ cutF 32 (t.toList.drop (k + 1)) ((t.toList.drop (k + 1)).take (k + 1 - (k + 1))) = words t) := by
            have h1 := HR.out.2.2.1 hle
            rw [GL, cutF, if_pos hb] at h1
            show _ = _
            rw [← h1]
            simp
          clear hb GL HR
          go_wp2_with (at_builtin; (refine wpList_append_lies _ rfl _ _ 28 rfl w.heap.size 9 i0 _ 1 16 Tryd.underlying28 hi hz0 hz1 hz2 rfl (by decide) u3 us.length (us.map fun u => Value.string (bsOf u)) rfl (OW.out _) ⟨wr.heap.size, 0, none⟩ 1 1 [.string (t.extract m k)] rfl rfl (World.news_of_block (cs := #[.string (t.extract m k)]) (heap_alloc_new _ _)) (by simp [Value.oneCell']) (by decide) (by unfold maxLen; omega) (by omega) (by rw [hsz]; omega) (wr.heap.size + 1) (by rw [hsz]) ?_; intro g9 cap9 w9 hown9 gr9 hat9 hlt9; rw [PU.out.1, PU.out.2] at hown9; have D9 := Seg.hid hown9; have B9 := Seg.hid (BW.out _ _ gr9); clear hown9 gr9 hat9 hlt9))
          go_roundw
          case rel => exact ⟨k + 1, k + 1, _, by omega, by go_num, by go_num, Nat.le_refl _, by rw [PU.out.2]; exact D9.out, B9.out, fun _ => NX.out, fun h => absurd h (by omega)⟩
          case measure => simp [intOf]; omega
        · have hb0 : ¬ (t[k].toNat : Int) = 32 := fun h => hb (by apply UInt8.toNat_inj.1; have : (32 : UInt8).toNat = 32 := rfl; omega)
          have hb1 : ((t[k].toNat : Int) == 32) = false := by simp only [beq_eq_false_iff_ne]; exact hb0
          have NX : Hid (us ++ cutF 32 (t.toList.drop (k + 1)) ((t.toList.drop m).take (k + 1 - m)) = words t) := by
            have h1 := HR.out.2.2.1 hle
            rw [GL, cutF, if_neg hb] at h1
            show _ = _
            rw [← h1, take_more _ _ _ hmk GL]
          have KR := Seg.hid HR.out.1
          have KB := Seg.hid HR.out.2.1
          clear hb hb0 GL HR
          go_wp2
          go_roundw
          case rel => exact ⟨k + 1, m, us, by omega, rfl, by go_num, by omega, KR.out, KB.out, fun _ => NX.out, fun h => absurd h (by omega)⟩
          case measure => simp [intOf]; omega
      · obtain rfl : k = t.size := by omega
        have he1 : ((t.size : Int) == (t.size : Int)) = true := by simp
        have NX : Hid (us ++ [(t.toList.drop m).take (t.size - m)] = words t) := by
          have h1 := HR.out.2.2.1 hle
          rw [List.drop_eq_nil_of_le (by rw [size_list]; omega), cutF] at h1
          exact h1
        clear HR
        go_wp2_with (at_builtin; (refine wpList_append_lies _ rfl _ _ 28 rfl w.heap.size 9 i0 _ 1 16 Tryd.underlying28 hi hz0 hz1 hz2 rfl (by decide) u3 us.length (us.map fun u => Value.string (bsOf u)) rfl (OW.out _) ⟨wr.heap.size, 0, none⟩ 1 1 [.string (t.extract m t.size)] rfl rfl (World.news_of_block (cs := #[.string (t.extract m t.size)]) (heap_alloc_new _ _)) (by simp [Value.oneCell']) (by decide) (by unfold maxLen; omega) (by omega) (by rw [hsz]; omega) (wr.heap.size + 1) (by rw [hsz]) ?_; intro g9 cap9 w9 hown9 gr9 hat9 hlt9; rw [PU.out.1, PU.out.2] at hown9; have D9 := Seg.hid hown9; have B9 := Seg.hid (BW.out _ _ gr9); clear hown9 gr9 hat9 hlt9))
        go_roundw
        case rel => exact ⟨t.size + 1, t.size + 1, _, by omega, by go_num, by go_num, Nat.le_refl _, by rw [PU.out.2]; exact D9.out, B9.out, fun h => absurd h (by omega), fun _ => NX.out⟩
        case measure => first | (simp [intOf]; done) | (simp [intOf]; omega)
    · have hv : ¬ (k : Int) ≤ (t.size : Int) := by omega
      have US : us.length ≤ 9223372036854775807 := by
        have h1 := HR.out.2.2.2 (by omega)
        have h2 := LW.out
        rw [← h1] at h2
        omega
      have Z0 : TRow wr w.heap.size u3 (words t) := by
        have := HR.out.1
        rw [HR.out.2.2.2 (by omega)] at this
        exact this
      have Z := Seg.hid Z0
      have KB := Seg.hid HR.out.2.1
      clear Z0 HR
      go_wp2
      go_ret
      exact ⟨_, rfl, Z.out, KB.out⟩
set_option maxHeartbeats 6400000 in
theorem lines_any (t : ByteArray) (w : World) (ht : t.size ≤ 1048576) :
    Calls Tryd.prog 9 #[.string t] w fun e w' => ∃ v, e = .returned v ∧ TRow w' w.heap.size v (lines t) ∧ Below w.heap.size w w' := by
  obtain ⟨i0, hi, hz0, hz1, hz2⟩ := info_parts infoZT
  have LW : Hid ((lines t).length ≤ t.size + 1) := by
    show _ ≤ _
    have := lin_len t.toList []
    rw [size_list] at this
    exact this
  go_enter Tryd.func9, Tryd.ntmps9
  have O0 := Seg.hid (tnew w)
  go_wp2_with fail
  go_loopw [3, 4, 5] (fun v f i wr => ∃ (k m : Nat) (us : List (List UInt8)), k ≤ t.size ∧ f = .int .i64 m ∧ i = .int .i64 k ∧ m ≤ k ∧ Hid (TRow wr w.heap.size v us ∧ Below w.heap.size w wr ∧ us ++ linF (t.toList.drop k) ((t.toList.drop m).take (k - m)) = lines t)) (fun _ _ i _ => t.size - (intOf i).toNat)
  case atStart => exact ⟨0, 0, [], Nat.zero_le _, rfl, rfl, Nat.le_refl _, O0.out, below1 _ _, by simp [lines]⟩
  case round =>
    clear O0
    obtain ⟨k, m, us, hk, rfl, rfl, hmk, HR⟩ := hrel
    have US : us.length ≤ 1048577 := by
      have h1 := HR.out.2.2
      have h2 := LW.out
      rw [← h1, List.length_append] at h2
      omega
    have h0 : (0 : Int) ≤ (k : Int) := by omega
    have h0m : (0 : Int) ≤ (m : Int) := by omega
    by_cases hlt : k < t.size
    · have GL := get_list t hlt
      have hkt : (k : Int) < (t.size : Int) := by omega
      have hw1 : IntKind.i64.wrap ((k : Int) + 1) = (k : Int) + 1 := by rw [IntKind.wrap_i64] <;> omega
      have h01 : (0 : Int) ≤ (k : Int) + 1 := by omega
      have hm1 : (m : Int) ≤ (k : Int) + 1 := by omega
      have hm2 : ¬ (k : Int) + 1 < (m : Int) := by omega
      have hm3 : ¬ (t.size : Int) < (k : Int) + 1 := by omega
      have hm4 : (k : Int) + 1 ≤ (t.size : Int) := by omega
      have hwr := HR.out.2.1.size
      have OW : Hid (∀ o1, TRow (wr.alloc o1) w.heap.size u3 us) := fun o1 => tkeep HR.out.1 (fun x _ hx => (below1 wr o1).block x hx)
      have BW : Hid (∀ o1 w9, ((wr.alloc o1).grownBy w9 u3.ownBlock) → Below w.heap.size w w9) := fun o1 w9 h9 => (chain HR.out.2.1 (below1 wr o1)).grown h9 (by rw [hsz]; omega) (fun x hx => by
        rcases HR.out.1.2 with ⟨h1, _⟩ | ⟨g', cap, cur, h1, h2, _⟩
        · rw [h1] at hx; cases hx
        · rw [h1] at hx; cases hx; exact h2)
      have PU : Hid (us.map (fun u => Value.string (bsOf u)) ++ [.string (t.extract m (k + 1))] = (us ++ [(t.toList.drop m).take (k + 1 - m)]).map (fun u => Value.string (bsOf u)) ∧ us.length + 1 = (us ++ [(t.toList.drop m).take (k + 1 - m)]).length) := by
        refine ⟨?_, by simp⟩
        rw [List.map_append, List.map_singleton, extract_eq]
      by_cases hb : t[k] = 10
      · have hb1 : ((t[k].toNat : Int) == 10) = true := by rw [hb]; rfl
        have NX : Hid (us ++ [(t.toList.drop m).take (k + 1 - m)] ++ linF (t.toList.drop (k + 1)) ((t.toList.drop (k + 1)).take (k + 1 - (k + 1))) = lines t) := by
          have h1 := HR.out.2.2
          rw [GL, linF, if_pos hb] at h1
          show _ = _
          rw [← h1, take_more _ _ _ hmk GL]
          simp
        clear hb GL HR
        go_wp2_with (at_builtin; (refine wpList_append_lies _ rfl _ _ 28 rfl w.heap.size 9 i0 _ 1 16 Tryd.underlying28 hi hz0 hz1 hz2 rfl (by decide) u3 us.length (us.map fun u => Value.string (bsOf u)) rfl (OW.out _) ⟨wr.heap.size, 0, none⟩ 1 1 [.string (t.extract m (k + 1))] rfl rfl (World.news_of_block (cs := #[.string (t.extract m (k + 1))]) (heap_alloc_new _ _)) (by simp [Value.oneCell']) (by decide) (by unfold maxLen; omega) (by omega) (by rw [hsz]; omega) (wr.heap.size + 1) (by rw [hsz]) ?_; intro g9 cap9 w9 hown9 gr9 hat9 hlt9; rw [PU.out.1, PU.out.2] at hown9; have D9 := Seg.hid hown9; have B9 := Seg.hid (BW.out _ _ gr9); clear hown9 gr9 hat9 hlt9))
        go_roundw
        case rel => exact ⟨k + 1, k + 1, _, by omega, by go_num, by go_num, Nat.le_refl _, by rw [PU.out.2]; exact D9.out, B9.out, NX.out⟩
        case measure => simp [intOf]; omega
      · have hb0 : ¬ (t[k].toNat : Int) = 10 := fun h => hb (by apply UInt8.toNat_inj.1; have : (10 : UInt8).toNat = 10 := rfl; omega)
        have hb1 : ((t[k].toNat : Int) == 10) = false := by simp only [beq_eq_false_iff_ne]; exact hb0
        have NX : Hid (us ++ linF (t.toList.drop (k + 1)) ((t.toList.drop m).take (k + 1 - m)) = lines t) := by
          have h1 := HR.out.2.2
          rw [GL, linF, if_neg hb] at h1
          show _ = _
          rw [← h1, take_more _ _ _ hmk GL]
        have KR := Seg.hid HR.out.1
        have KB := Seg.hid HR.out.2.1
        clear hb hb0 GL HR
        go_wp2
        go_roundw
        case rel => exact ⟨k + 1, m, us, by omega, rfl, by go_num, by omega, KR.out, KB.out, NX.out⟩
        case measure => simp [intOf]; omega
    · obtain rfl : k = t.size := by omega
      have ED := HR.out.2.2
      rw [List.drop_eq_nil_of_le (by rw [size_list]; omega), linF] at ED
      by_cases hms : m < t.size
      · have hne : ¬ (t.toList.drop m).take (t.size - m) = [] := fun h => by
          have := congrArg List.length h
          rw [List.length_take, List.length_drop, size_list] at this
          simp at this
          omega
        rw [if_neg hne] at ED
        have hm1 : (m : Int) < (t.size : Int) := by omega
        have hm2 : (m : Int) ≤ (t.size : Int) := by omega
        have hm3 : ¬ (t.size : Int) < (m : Int) := by omega
        have NX := Seg.hid ED
        have hwr := HR.out.2.1.size
        have OW : Hid (∀ o1, TRow (wr.alloc o1) w.heap.size u3 us) := fun o1 => tkeep HR.out.1 (fun x _ hx => (below1 wr o1).block x hx)
        have BW : Hid (∀ o1 w9, ((wr.alloc o1).grownBy w9 u3.ownBlock) → Below w.heap.size w w9) := fun o1 w9 h9 => (chain HR.out.2.1 (below1 wr o1)).grown h9 (by rw [hsz]; omega) (fun x hx => by
          rcases HR.out.1.2 with ⟨h1, _⟩ | ⟨g', cap, cur, h1, h2, _⟩
          · rw [h1] at hx; cases hx
          · rw [h1] at hx; cases hx; exact h2)
        have PU : Hid (us.map (fun u => Value.string (bsOf u)) ++ [.string (t.extract m t.size)] = (us ++ [(t.toList.drop m).take (t.size - m)]).map (fun u => Value.string (bsOf u)) ∧ us.length + 1 = (us ++ [(t.toList.drop m).take (t.size - m)]).length) := by
          refine ⟨?_, by simp⟩
          rw [List.map_append, List.map_singleton, extract_eq]
        clear hne ED HR
        go_wp2_with (at_builtin; (refine wpList_append_lies _ rfl _ _ 28 rfl w.heap.size 9 i0 _ 1 16 Tryd.underlying28 hi hz0 hz1 hz2 rfl (by decide) u3 us.length (us.map fun u => Value.string (bsOf u)) rfl (OW.out _) ⟨wr.heap.size, 0, none⟩ 1 1 [.string (t.extract m t.size)] rfl rfl (World.news_of_block (cs := #[.string (t.extract m t.size)]) (heap_alloc_new _ _)) (by simp [Value.oneCell']) (by decide) (by unfold maxLen; omega) (by omega) (by rw [hsz]; omega) (wr.heap.size + 1) (by rw [hsz]) ?_; intro g9 cap9 w9 hown9 gr9 hat9 hlt9; rw [PU.out.1, PU.out.2] at hown9; have D9 := Seg.hid hown9; have B9 := Seg.hid (BW.out _ _ gr9); clear hown9 gr9 hat9 hlt9))
        have Z0 := D9.out
        rw [← PU.out.2] at Z0
        have Z1 : TRow w9 w.heap.size (.slice (some ⟨g9, 0, none⟩) (us.length + 1) cap9) (lines t) := by
          rw [TRow, ← NX.out, ← PU.out.2]
          exact Z0
        have Z := Seg.hid Z1
        clear Z0 Z1
        go_ret
        exact ⟨_, rfl, Z.out, B9.out⟩
      · have hm1 : ¬ (m : Int) < (t.size : Int) := by omega
        have hne : (t.toList.drop m).take (t.size - m) = [] := by
          rw [show t.size - m = 0 by omega]; rfl
        rw [if_pos hne, List.append_nil] at ED
        have Z0 : TRow wr w.heap.size u3 (lines t) := by
          have := HR.out.1
          rw [ED] at this
          exact this
        have Z := Seg.hid Z0
        have KB := Seg.hid HR.out.2.1
        clear Z0 ED hne HR
        go_wp2
        go_ret
        exact ⟨_, rfl, Z.out, KB.out⟩
end Go.Proofs.YtaninhajnfgkkaaDoor.TxS
