/- Lists of versions, drawn. -/
import Derived.Test.YtmkkdladgoilmaaDrawP
import Derived.Test.YtmkkdladgoilmaaDrawB
import Derived.Test.YtmkkdladgoilmaaAgS
namespace Go.Proofs.Ytmkkdladgoilmaa.DrAg
set_option maxRecDepth 8000
open Go.RowKit
open Ls Lp AgP AgS
open Draw (Cur Lft Bytes)
open Recs (hsz below1 below2 chain)
set_option linter.unusedVariables false
/-- A list that grows while numbers are drawn. -/
structure AL (w wr : World) (b : Nat) (A : Option Addr) (n c : Nat) (v : Value) (acc : List Apx) : Prop where
  own : wr.ownsRow w.heap.size 38 3 v acc.length (acells acc)
  lft : Lft w wr b A n c
theorem owns_keep {w w' : World} {base b : Nat} {v : Value} {acc : List Apx} (h : w.ownsRow base 38 3 v acc.length (acells acc)) (hb : b < base) (g : w.grownBy w' (some b)) : w'.ownsRow base 38 3 v acc.length (acells acc) := by
  refine ⟨h.1, ?_⟩
  rcases h.2 with hn | ⟨g', cap, cur, h1, hbs, hgg, rest⟩
  · exact .inl hn
  · exact .inr ⟨g', cap, cur, h1, hbs, by rw [g.block g' (Array.getElem?_eq_some_iff.1 hgg).1 (by simp; omega)]; exact hgg, rest⟩
theorem AL.next {w wr w' : World} {b : Nat} {A : Option Addr} {n c : Nat} {v : Value} {acc : List Apx} (h : AL w wr b A n c v acc) (hb : b < w.heap.size) (l : Lft wr w' b A n c) : AL w w' b A n c v acc := ⟨owns_keep h.own hb l.grown, h.lft.trans l⟩
theorem AL.alloc {w wr : World} {b : Nat} {A : Option Addr} {n c : Nat} {v : Value} {acc : List Apx} (h : AL w wr b A n c v acc) (hb : b < w.heap.size) (o : Obj) : AL w (wr.alloc o) b A n c v acc :=
  h.next hb ⟨h.lft.cur.alloc o, World.grownBy_alloc wr o (some b)⟩
theorem AL.ownB {w wr : World} {b : Nat} {A : Option Addr} {n c : Nat} {v : Value} {acc : List Apx} (h : AL w wr b A n c v acc) : ∀ x, v.ownBlock = some x → w.heap.size ≤ x := fun x hx => by
  rcases h.own.2 with ⟨h1, _⟩ | ⟨g', cap, cur, h1, h2, _⟩
  · rw [h1] at hx; cases hx
  · rw [h1] at hx; cases hx; exact h2
theorem AL.push {w wr w9 : World} {b : Nat} {A : Option Addr} {n c : Nat} {v v' : Value} {acc : List Apx} {a : Apx} {o : Obj} (h0 : Cur w b A n c) (h : AL w wr b A n c v acc) (hown : w9.ownsRow w.heap.size 38 3 v' (acc.length + 1) (acells acc ++ [.int .i64 a.key, .int .i64 a.least, .int .i64 a.most])) (gr : (wr.alloc o).grownBy w9 v.ownBlock) : AL w w9 b A n c v' (acc ++ [a]) :=
  ⟨by rw [List.length_append, acells_app]; exact hown, DrawB.Lft.above h0 (h.alloc h0.lt o).lft gr (fun k hk => h.ownB k hk)⟩
theorem own_lat {w : World} {base : Nat} {v : Value} {acc : List Apx} (hn : acc.length ≤ 9223372036854775807) (h : w.ownsRow base 38 3 v acc.length (acells acc)) : LAt 3 EApx w (fun g => g < w.heap.size) v acc := by
  refine ⟨hn, ?_⟩
  rcases h.2 with ⟨h1, h2⟩ | ⟨g, cap, cur, h1, h2, h3, h4, h5, h6, h7⟩
  · exact ⟨none, 0, by rw [h1, h2], .inl h2⟩
  · refine ⟨_, cap, h1, .inr ⟨g, 0, fun i j => [Value.int .i64 (acc.getD i default).key, .int .i64 (acc.getD i default).least, .int .i64 (acc.getD i default).most].getD j default, rfl, (Array.getElem?_eq_some_iff.1 h3).1, h4, fun i hi j hj => ?_, fun i hi => ⟨rfl, rfl, rfl⟩⟩⟩
    have e : cur[i * 3 + j]? = some ([Value.int .i64 (acc.getD i default).key, .int .i64 (acc.getD i default).least, .int .i64 (acc.getD i default).most].getD j default) := by
      have h8 : (cur.toList.take (acc.length * 3))[i * 3 + j]? = (acells acc)[i * 3 + j]? := by rw [h7]
      rw [List.getElem?_take_of_lt (by omega), acells_get hi hj] at h8
      simpa using h8
    rw [show 0 + i * 3 + j = i * 3 + j by omega]
    simp [World.cell?, h3, e]
set_option maxHeartbeats 3200000 in
theorem apis_any (b : Nat) (A : Option Addr) (n c : Nat) (w : World) (hc : Cur w b A n c) :
    Calls Try.prog 23 #[.pointer (some ⟨b, 0, none⟩)] w fun e w' => ∃ v acc, e = .returned v ∧ acc.length ≤ 7 ∧ AL w w' b A n c v acc := by
  obtain ⟨i0, hi, hz0, hz1, hz2⟩ := info_parts infoZApx
  have HC := Seg.hid hc
  have hb := hc.lt
  clear hc
  have A0 : Hid (AL w (w.alloc (.cells #[] 38 (0, 0))) b A n c (.slice (some ⟨w.heap.size, 0, none⟩) 0 0) []) := ⟨⟨rfl, .inr ⟨w.heap.size, 0, #[], rfl, Nat.le_refl _, heap_alloc_new _ _, Nat.le_refl _, Nat.zero_le _, rfl, rfl⟩⟩, HC.out.alloc _, World.grownBy_alloc _ _ _⟩
  have PUSH : Hid (∀ (v : Value) (acc : List Apx) (a : Apx) (wx : World), AL w wx b A n c v acc → ∀ o1 w9 v', w9.ownsRow w.heap.size 38 3 v' (acc.length + 1) (acells acc ++ [.int .i64 a.key, .int .i64 a.least, .int .i64 a.most]) → (wx.alloc o1).grownBy w9 v.ownBlock → AL w w9 b A n c v' (acc ++ [a])) := fun v acc a wx h o1 w9 v' h1 h2 => h.push HC.out h1 h2
  go_enter Try.func23, Try.ntmps23
  go_wp2_with fail
  go_loopw [3, 4] (fun v i wr => ∃ (k : Nat) (acc : List Apx), k ≤ 6 ∧ i = .int .i64 k ∧ acc.length ≤ k ∧ Hid (AL w wr b A n c v acc)) (fun _ i _ => 6 - (intOf i).toNat)
  case atStart => exact ⟨0, [], by omega, rfl, by simp, A0.out⟩
  case round =>
    clear A0
    obtain ⟨k, acc, hk, rfl, hla, HR⟩ := hrel
    have hww := HR.out.lft.grown.size
    by_cases hlt : k < 6
    · go_wp2_with fail
      refine (Draw.once_any b A n c 3 wr HR.out.lft.cur (by omega) (by omega)).mono ?_
      rintro e w1 ⟨⟨x, rfl⟩, L1⟩
      have A1 := Seg.hid (HR.out.next hb L1)
      clear L1 HR
      cases x with
      | true =>
        go_wp2_with fail
        go_roundw
        case rel => exact ⟨k + 1, acc, by omega, by go_num, by omega, A1.out⟩
        case measure => simp [intOf]; omega
      | false =>
        go_wp2_with fail
        refine (Draw.below_any b A n c 5 w1 A1.out.lft.cur (by omega) (by omega)).mono ?_
        rintro e w2 ⟨⟨y, hy0, hy1, rfl⟩, L2⟩
        have A2 := Seg.hid (A1.out.next hb L2)
        clear L2 A1
        go_wp2_with fail
        refine (Draw.below_any b A n c 4 w2 A2.out.lft.cur (by omega) (by omega)).mono ?_
        rintro e w3 ⟨⟨z, hz3, hz4, rfl⟩, L3⟩
        have A3 := Seg.hid (A2.out.next hb L3)
        clear L3 A2
        have s3 := A3.out.lft.grown.size
        have wy : IntKind.i64.wrap (y + z) = y + z := by rw [IntKind.wrap_i64] <;> omega
        have OW : Hid (∀ o1, (w3.alloc o1).ownsRow w.heap.size 38 3 u3 acc.length (acells acc)) := fun o1 => (A3.out.alloc hb o1).own
        have PU := Seg.hid (PUSH.out u3 acc ⟨k, y, y + z⟩ w3 A3.out)
        go_wp2_with (first | (at_builtin; (refine wpList_append_lies _ rfl _ _ 32 rfl w.heap.size 38 i0 _ 3 24 Try.underlying32 hi hz0 hz1 hz2 rfl (by decide) u3 acc.length (acells acc) rfl (OW.out _) ⟨w3.heap.size, 0, none⟩ 1 1 [.int .i64 k, .int .i64 y, .int .i64 (y + z)] rfl rfl (World.news_of_block (cs := #[.int .i64 k, .int .i64 y, .int .i64 (y + z)]) (heap_alloc_new _ _)) (by simp [Value.oneCell']) (by decide) (by unfold maxLen; omega) (by omega) (by rw [hsz]; omega) (w3.heap.size + 1) (by rw [hsz]) ?_; intro g9 cap9 w9 hown9 gr9 hat9 hlt9; have S9 := Seg.hid (PU.out _ _ _ hown9 gr9); clear hown9 gr9 hat9 hlt9)))
        go_roundw
        case rel => exact ⟨k + 1, acc ++ [(⟨(k : Int), y, y + z⟩ : Apx)], by omega, by go_num, (by rw [List.length_append]; simp only [List.length_cons, List.length_nil]; omega), S9.out⟩
        case measure => simp [intOf]; omega
    · go_wp2_with fail
      refine (Draw.once_any b A n c 12 wr HR.out.lft.cur (by omega) (by omega)).mono ?_
      rintro e w1 ⟨⟨x, rfl⟩, L1⟩
      have A1 := Seg.hid (HR.out.next hb L1)
      clear L1 HR
      cases x with
      | false =>
        go_wp2_with fail
        go_ret
        exact ⟨_, acc, rfl, by omega, A1.out⟩
      | true =>
        have s1 := A1.out.lft.grown.size
        go_wp2_with fail
        refine (Draw.pickInt_any b A n c w1.heap.size 3 (fun i => [0, 1000, 1001].getD i 0) (w1.alloc _) (A1.out.lft.cur.alloc _) (by omega) (by omega) (by rw [hsz]; omega) (by omega) (fun i hi => by
          rw [cell_of_row _ _ i _ _ (0, 0) (heap_alloc_new _ _)]
          match i, hi with
          | 0, _ => rfl
          | 1, _ => rfl
          | 2, _ => rfl)).mono ?_
        rintro e w2 ⟨⟨p, hp, rfl⟩, L2⟩
        have A2 := Seg.hid ((A1.out.alloc hb _).next hb L2)
        clear L2 A1
        obtain ⟨kk, hkk⟩ : ∃ kk : Int, [0, 1000, 1001].getD p 0 = kk := ⟨_, rfl⟩
        simp only [hkk]
        go_wp2_with fail
        refine (Draw.below_any b A n c 3 w2 A2.out.lft.cur (by omega) (by omega)).mono ?_
        rintro e w3 ⟨⟨y, hy0, hy1, rfl⟩, L3⟩
        have A3 := Seg.hid (A2.out.next hb L3)
        clear L3 A2
        have s3 := A3.out.lft.grown.size
        go_wp2_with fail
        refine (Draw.pickInt_any b A n c w3.heap.size 3 (fun i => [1, 1000, 1001].getD i 0) (w3.alloc _) (A3.out.lft.cur.alloc _) (by omega) (by omega) (by rw [hsz]; omega) (by omega) (fun i hi => by
          rw [cell_of_row _ _ i _ _ (0, 0) (heap_alloc_new _ _)]
          match i, hi with
          | 0, _ => rfl
          | 1, _ => rfl
          | 2, _ => rfl)).mono ?_
        rintro e w4 ⟨⟨q, hq, rfl⟩, L4⟩
        have A4 := Seg.hid ((A3.out.alloc hb _).next hb L4)
        clear L4 A3
        obtain ⟨mm, hmm⟩ : ∃ mm : Int, [1, 1000, 1001].getD q 0 = mm := ⟨_, rfl⟩
        simp only [hmm]
        have s4 := A4.out.lft.grown.size
        have OW : Hid (∀ o1, (w4.alloc o1).ownsRow w.heap.size 38 3 u3 acc.length (acells acc)) := fun o1 => (A4.out.alloc hb o1).own
        have PU := Seg.hid (PUSH.out u3 acc ⟨kk, y, mm⟩ w4 A4.out)
        go_wp2_with (first | (at_builtin; (refine wpList_append_lies _ rfl _ _ 32 rfl w.heap.size 38 i0 _ 3 24 Try.underlying32 hi hz0 hz1 hz2 rfl (by decide) u3 acc.length (acells acc) rfl (OW.out _) ⟨w4.heap.size, 0, none⟩ 1 1 [.int .i64 kk, .int .i64 y, .int .i64 mm] rfl rfl (World.news_of_block (cs := #[.int .i64 kk, .int .i64 y, .int .i64 mm]) (heap_alloc_new _ _)) (by simp [Value.oneCell']) (by decide) (by unfold maxLen; omega) (by omega) (by rw [hsz]; omega) (w4.heap.size + 1) (by rw [hsz]) ?_; intro g9 cap9 w9 hown9 gr9 hat9 hlt9; have S9 := Seg.hid (PU.out _ _ _ hown9 gr9); clear hown9 gr9 hat9 hlt9)))
        go_ret
        exact ⟨_, rfl, acc ++ [(⟨kk, y, mm⟩ : Apx)], (by rw [List.length_append]; simp only [List.length_cons, List.length_nil]; omega), S9.out⟩
set_option maxHeartbeats 1600000 in
theorem draw_any (A : Option Addr) (n c : Nat) (w : World) (hn : n ≤ 1048576) (hb : Bytes w w.heap.size A n c) :
    Calls Try.prog 10 #[.slice A n c] w fun e w' => ∃ v1 v2 a1 a2, e = .returned (.tuple #[v1, v2]) ∧ a1.length ≤ 7 ∧ a2.length ≤ 7 ∧ LAt 3 EApx w' (fun g => g < w'.heap.size) v1 a1 ∧ LAt 3 EApx w' (fun g => g < w'.heap.size) v2 a2 ∧ Below w.heap.size w w' := by
  have HB := Seg.hid hb
  clear hb
  go_enter Try.func10, Try.ntmps10
  go_wp2_with fail
  refine (Draw.new_any A n c w hn HB.out).mono ?_
  rintro e w1 ⟨h, rfl, hw1⟩
  have C1 : Hid (Cur w1 w.heap.size A n c) := by subst hw1; exact Draw.cur_new hn HB.out h _
  have B1 : Hid (Below w.heap.size w w1) := by subst hw1; exact below1 _ _
  have s1 : w1.heap.size = w.heap.size + 1 := by subst hw1; exact hsz _ _
  clear hw1
  go_wp2_with fail
  refine (apis_any w.heap.size A n c w1 C1.out).mono ?_
  rintro e w2 ⟨v1, a1, rfl, l1, L1⟩
  have A1 := Seg.hid L1
  clear L1
  go_wp2_with fail
  refine (apis_any w.heap.size A n c w2 A1.out.lft.cur).mono ?_
  rintro e w3 ⟨v2, a2, rfl, l2, L2⟩
  have F : Hid (LAt 3 EApx w3 (fun g => g < w3.heap.size) v1 a1 ∧ LAt 3 EApx w3 (fun g => g < w3.heap.size) v2 a2 ∧ Below w.heap.size w w3) := by
    have g3 := A1.out.lft.grown.trans L2.lft.grown
    refine ⟨own_lat (by omega) (owns_keep (b := w.heap.size) A1.out.own (by omega) L2.lft.grown), own_lat (by omega) L2.own, ?_⟩
    exact ⟨g3.os.trans B1.out.os, g3.tape.trans B1.out.tape, g3.output.trans B1.out.output, Nat.le_trans B1.out.size g3.size, fun k hk => (g3.block k (by omega) (by simp; omega)).trans (B1.out.block k hk)⟩
  clear L2
  go_wp2_with fail
  go_ret2
  exact ⟨_, _, a1, a2, rfl, l1, l2, F.out.1, F.out.2.1, F.out.2.2⟩
end Go.Proofs.Ytmkkdladgoilmaa.DrAg
