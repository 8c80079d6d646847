/- Runs of bytes that are drawn. -/
import Derived.Test.YtbilpicolfpoaaaDrawV
import Derived.Test.YtbilpicolfpoaaaSqPi
import Derived.WalkSmall
namespace Go.Proofs.Ytbilpicolfpoaaa.DrawR
open Go.RowKit
open Draw (Cur Lft Bytes)
open SqP (Out app)
open DrawC (nums nums_len conv_row)
set_option linter.unusedVariables false
structure Ru (w wr : World) (b : Nat) (A : Option Addr) (n c g cap : Nat) (xs : List Int) : Prop where
  byt : ∀ x ∈ xs, 0 ≤ x ∧ x < 256
  own : Out wr w.heap.size g cap xs
  lft : Lft w wr b A n c
theorem Ru.lft2 {w wr w2 : World} {b : Nat} {A : Option Addr} {n c g cap : Nat} {xs : List Int} (h0 : Cur w b A n c) (h : Ru w wr b A n c g cap xs) (L : Lft wr w2 b A n c) : Ru w w2 b A n c g cap xs :=
  ⟨h.byt, DrawB.owns_lft h.own h0.lt L.grown, h.lft.trans L⟩
theorem Ru.push {w wr wm w1 : World} {b : Nat} {A : Option Addr} {n c g cap g' cap' : Nat} {xs ys : List Int} (h0 : Cur w b A n c) (h : Ru w wr b A n c g cap xs) (hy : ∀ x ∈ ys, 0 ≤ x ∧ x < 256) (mid : wr.grownBy wm none)
    (ho : Out w1 w.heap.size g' cap' (xs ++ ys)) (hg : wm.grownBy w1 (some g)) : Ru w w1 b A n c g' cap' (xs ++ ys) :=
  ⟨fun x hx => by
      rcases List.mem_append.1 hx with hx | hx
      · exact h.byt x hx
      · exact hy x hx, ho, DrawB.Lft.above h0 (DrawB.Lft.above h0 h.lft mid (fun k hk => by cases hk)) hg (fun k hk => by cases hk; exact (Seg.owns_cap h.own).2.2.1)⟩
theorem conv_grown (w : World) (e : Nat) (s : ByteArray) : w.grownBy (Lib.bytesWorld w e s) none := ⟨rfl, rfl, rfl, by rw [Lib.bytesWorld_size]; omega, fun k hk _ => Lib.bytesWorld_at_old w e s k hk⟩
theorem out_size {w : World} {base g cap : Nat} {l : List Int} (h : Out w base g cap l) : base ≤ g ∧ g < w.heap.size := by
  have := Seg.owns_cap h
  exact ⟨this.2.2.1, this.2.2.2⟩
def lenOf : Value → Nat
  | .slice _ k _ => k
  | _ => 0
set_option maxRecDepth 4000 in
set_option maxHeartbeats 1600000 in
theorem runs_any (b : Nat) (A : Option Addr) (n c : Nat) (m : Nat) (w : World) (hc : Cur w b A n c) (hm : m ≤ 100000) :
    Calls Try.prog 11 #[.pointer (some ⟨b, 0, none⟩), .int .i64 m] w fun e w' => ∃ g cap xs, xs.length ≤ m + 300 ∧ e = .returned (.slice (some ⟨g, 0, none⟩) xs.length cap) ∧ Ru w w' b A n c g cap xs := by
  have HC := Seg.hid hc
  clear hc
  go_enter Try.func11, Try.ntmps11
  go_wp2_with fail
  go_loopw [5, 6, 7] (fun v _ _ wr => ∃ (g cap : Nat) (xs : List Int), v = .slice (some ⟨g, 0, none⟩) xs.length cap ∧ xs.length ≤ m + 300 ∧ Hid (Ru w wr b A n c g cap xs)) (fun v _ _ _ => m - lenOf v)
  case atStart => exact ⟨w.heap.size, 0, [], rfl, by simp, by simp, World.ownsRow_lit w #[] 0 (Nat.le_refl _) (Nat.zero_le _) rfl, DrawB.Lft.above HC.out (Lft.refl HC.out) (World.grownBy_alloc w _ none) (fun k hk => by cases hk)⟩
  case round =>
    obtain ⟨g, cap, xs, rfl, hxs, R⟩ := hrel
    by_cases hlt : xs.length < m
    · by_cases h3 : 3 < xs.length
      · go_wp2_with fail
        refine (Draw.once_any b A n c 3 _ R.out.lft.cur (by decide) (by decide)).mono ?_
        rintro e w1 ⟨⟨t3, rfl⟩, L1⟩
        have R1 := Seg.hid (R.out.lft2 HC.out L1)
        clear L1 R
        cases t3
        · go_wp2_with fail
          refine (Draw.below_any b A n c xs.length _ R1.out.lft.cur (by omega) (by omega)).mono ?_
          rintro e w2 ⟨⟨y0, hy1, hy2, rfl⟩, L2⟩
          obtain ⟨d, hd⟩ : ∃ d : Nat, 1 + y0 = (d : Int) := ⟨(1 + y0).toNat, by omega⟩
          have R2 := Seg.hid (R1.out.lft2 HC.out L2)
          have hd1 : 1 ≤ d ∧ d ≤ xs.length := by omega
          clear R1 L2 hy1 hy2
          go_wp2_with fail
          refine (Draw.below_any b A n c 90 _ R2.out.lft.cur (by decide) (by decide)).mono ?_
          rintro e w3 ⟨⟨z0, hz1, hz2, rfl⟩, L3⟩
          have R3 := Seg.hid (R2.out.lft2 HC.out L3)
          clear R2 L3
          go_wp2_with fail
          go_loopw [5, 7] (fun v i wr => ∃ (g cap : Nat) (xs2 : List Int) (j : Int), v = .slice (some ⟨g, 0, none⟩) xs2.length cap ∧ i = .int .i64 j ∧ -1 ≤ j ∧ j ≤ 90 ∧ (xs2.length : Int) + j ≤ m + 100 ∧ d ≤ xs2.length ∧ xs.length < xs2.length + (j + 1).toNat ∧ xs.length ≤ xs2.length ∧ Hid (Ru w wr b A n c g cap xs2)) (fun _ i _ => (intOf i + 1).toNat)
          case atStart => exact ⟨g, cap, xs, z0, rfl, rfl, by omega, by omega, by omega, hd1.2, by omega, Nat.le_refl _, R3.out⟩
          case round =>
            clear R3
            obtain ⟨g1, cap1, ys, j, rfl, rfl, hj1, hj2, hj3, hj4, hj5, hj6, R4⟩ := hrel
            by_cases hj : 0 ≤ j
            · obtain ⟨q, hq⟩ : ∃ q : Nat, (ys.length : Int) - (d : Int) = (q : Int) := ⟨ys.length - d, by omega⟩
              have hq0 : (0 : Int) ≤ (q : Int) := by omega
              have hq1 : (q : Int) < (ys.length : Int) := by omega
              have hcq := Seg.owns_cell R4.out.own q (by omega)
              have hyq : Hid (0 ≤ ys.getD q 0 ∧ ys.getD q 0 < 256) := R4.out.byt _ (by have : q < ys.length := (by omega); simp [this])
              generalize ys.getD q 0 = x at hcq hyq
              have hsz : w.heap.size ≤ wr.heap.size := R4.out.lft.grown.size
              have hbl : ys.length ≤ 200000 := by omega
              go_wp2_with (at_builtin; refine app rfl _ _ rfl w.heap.size g1 cap1 ys [x] ?hs ?ho ⟨wr.heap.size, 0, none⟩ 1 ?hx ?hn ?hm ?hb ?hba ?_; (case hs => rfl); (case ho => exact World.ownsRow.alloc R4.out.own _); (case hx => rfl); (case hn => exact SqP.one_new wr _ _); (case hm => simp); (case hb => simp; omega); (case hba => simp; omega); intro g5 cap5 w5 o5 gr5 at5; have R5 := Seg.hid (R4.out.push HC.out (by intro z hz; simp at hz; rw [hz]; exact hyq.out) (World.grownBy_alloc wr _ none) o5 gr5); clear o5 gr5 at5)
              go_roundw
              case rel => exact ⟨g5, cap5, ys ++ [x], j - 1, by rw [List.length_append]; rfl, by go_num, by omega, by omega, by simp; omega, by simp; omega, by simp; omega, by simp; omega, R5.out⟩
              case measure => simp [intOf]; omega
            · go_wp2_with fail
              go_roundw
              case rel => exact ⟨g1, cap1, ys, rfl, by omega, R4.out⟩
              case measure => simp [lenOf]; omega
        · have R := R1
          clear R1
          go_wp2_with fail
          refine (Draw.once_any b A n c 8 _ R.out.lft.cur (by decide) (by decide)).mono ?_
          rintro e w2 ⟨⟨t8, rfl⟩, L2⟩
          have R2 := Seg.hid (R.out.lft2 HC.out L2)
          clear L2 R
          cases t8
          · go_wp2_with fail
            refine (Draw.below_any b A n c 9 _ R2.out.lft.cur (by decide) (by decide)).mono ?_
            rintro e w3 ⟨⟨y0, hy1, hy2, rfl⟩, L3⟩
            obtain ⟨q, hq⟩ : ∃ q : Nat, 1 + y0 = (q : Int) := ⟨(1 + y0).toNat, by omega⟩
            have R3 := Seg.hid (R2.out.lft2 HC.out L3)
            have hq1 : 1 ≤ q ∧ q ≤ 300 := by omega
            clear R2 L3 hy1 hy2
            go_wp2_with fail
            refine (DrawB.bytes_any b A n c q _ R3.out.lft.cur (by omega)).mono ?_
            rintro e w4 ⟨⟨s, hs, rfl⟩, L4⟩
            have R4 := Seg.hid (R3.out.lft2 HC.out L4)
            have hsz : w.heap.size ≤ w4.heap.size := R4.out.lft.grown.size
            have kc := Lib.run_convert_string_bytes (P := Try.prog) w4 9 22 5 s Try.underlying9 Try.underlying22 Try.underlying5
            have CR := Seg.hid (conv_row w4 5 w.heap.size s hsz (by omega))
            have CG := Seg.hid (conv_grown w4 5 s)
            have HN := Seg.hid ((nums_len s).trans hs)
            have hn1 : 1 ≤ (nums s).length ∧ (nums s).length ≤ 300 := by rw [HN.out]; omega
            clear R3 L4
            revert kc CR CG
            generalize Lib.bytesWorld w4 5 s = W
            generalize grownCap w4 s.size 0 5 = cp4
            intro kc CR CG
            have hsW : w.heap.size ≤ W.heap.size := by have := CG.out.size; omega
            have OW := Seg.hid (World.ownsRow.kept R4.out.own CG.out (.inr (by simp [Value.ownBlock])))
            go_wp2_with (at_builtin; refine app rfl _ _ rfl w.heap.size g cap xs (nums s) ?hs ?ho ⟨w4.heap.size, 0, none⟩ cp4 ?hx ?hn ?hm ?hb ?hba ?_; (case hs => rfl); (case ho => exact OW.out); (case hx => rw [HN.out]; rfl); (case hn => exact fun j hj => by rw [SqP.add_at, Nat.zero_add]; exact CR.out.cell j hj); (case hm => omega); (case hb => omega); (case hba => omega); intro g5 cap5 w5 o5 gr5 at5; have R5 := Seg.hid (R4.out.push HC.out CR.out.byt CG.out o5 gr5); clear o5 gr5 at5)
            go_roundw
            case rel => exact ⟨g5, cap5, xs ++ nums s, by simp only [List.length_append], by rw [List.length_append]; omega, R5.out⟩
            case measure => simp [lenOf]; omega
          · go_wp2_with fail
            refine (Draw.below_any b A n c 200 _ R2.out.lft.cur (by decide) (by decide)).mono ?_
            rintro e w3 ⟨⟨y0, hy1, hy2, rfl⟩, L3⟩
            obtain ⟨q, hq⟩ : ∃ q : Nat, 100 + y0 = (q : Int) := ⟨(100 + y0).toNat, by omega⟩
            have R3 := Seg.hid (R2.out.lft2 HC.out L3)
            have hq1 : 1 ≤ q ∧ q ≤ 300 := by omega
            clear R2 L3 hy1 hy2
            go_wp2_with fail
            refine (DrawB.bytes_any b A n c q _ R3.out.lft.cur (by omega)).mono ?_
            rintro e w4 ⟨⟨s, hs, rfl⟩, L4⟩
            have R4 := Seg.hid (R3.out.lft2 HC.out L4)
            have hsz : w.heap.size ≤ w4.heap.size := R4.out.lft.grown.size
            have kc := Lib.run_convert_string_bytes (P := Try.prog) w4 9 22 5 s Try.underlying9 Try.underlying22 Try.underlying5
            have CR := Seg.hid (conv_row w4 5 w.heap.size s hsz (by omega))
            have CG := Seg.hid (conv_grown w4 5 s)
            have HN := Seg.hid ((nums_len s).trans hs)
            have hn1 : 1 ≤ (nums s).length ∧ (nums s).length ≤ 300 := by rw [HN.out]; omega
            clear R3 L4
            revert kc CR CG
            generalize Lib.bytesWorld w4 5 s = W
            generalize grownCap w4 s.size 0 5 = cp4
            intro kc CR CG
            have hsW : w.heap.size ≤ W.heap.size := by have := CG.out.size; omega
            have OW := Seg.hid (World.ownsRow.kept R4.out.own CG.out (.inr (by simp [Value.ownBlock])))
            go_wp2_with (at_builtin; refine app rfl _ _ rfl w.heap.size g cap xs (nums s) ?hs ?ho ⟨w4.heap.size, 0, none⟩ cp4 ?hx ?hn ?hm ?hb ?hba ?_; (case hs => rfl); (case ho => exact OW.out); (case hx => rw [HN.out]; rfl); (case hn => exact fun j hj => by rw [SqP.add_at, Nat.zero_add]; exact CR.out.cell j hj); (case hm => omega); (case hb => omega); (case hba => omega); intro g5 cap5 w5 o5 gr5 at5; have R5 := Seg.hid (R4.out.push HC.out CR.out.byt CG.out o5 gr5); clear o5 gr5 at5)
            go_roundw
            case rel => exact ⟨g5, cap5, xs ++ nums s, by simp only [List.length_append], by rw [List.length_append]; omega, R5.out⟩
            case measure => simp [lenOf]; omega
      · go_wp2_with fail
        refine (Draw.once_any b A n c 8 _ R.out.lft.cur (by decide) (by decide)).mono ?_
        rintro e w2 ⟨⟨t8, rfl⟩, L2⟩
        have R2 := Seg.hid (R.out.lft2 HC.out L2)
        clear L2 R
        cases t8
        · go_wp2_with fail
          refine (Draw.below_any b A n c 9 _ R2.out.lft.cur (by decide) (by decide)).mono ?_
          rintro e w3 ⟨⟨y0, hy1, hy2, rfl⟩, L3⟩
          obtain ⟨q, hq⟩ : ∃ q : Nat, 1 + y0 = (q : Int) := ⟨(1 + y0).toNat, by omega⟩
          have R3 := Seg.hid (R2.out.lft2 HC.out L3)
          have hq1 : 1 ≤ q ∧ q ≤ 300 := by omega
          clear R2 L3 hy1 hy2
          go_wp2_with fail
          refine (DrawB.bytes_any b A n c q _ R3.out.lft.cur (by omega)).mono ?_
          rintro e w4 ⟨⟨s, hs, rfl⟩, L4⟩
          have R4 := Seg.hid (R3.out.lft2 HC.out L4)
          have hsz : w.heap.size ≤ w4.heap.size := R4.out.lft.grown.size
          have kc := Lib.run_convert_string_bytes (P := Try.prog) w4 9 22 5 s Try.underlying9 Try.underlying22 Try.underlying5
          have CR := Seg.hid (conv_row w4 5 w.heap.size s hsz (by omega))
          have CG := Seg.hid (conv_grown w4 5 s)
          have HN := Seg.hid ((nums_len s).trans hs)
          have hn1 : 1 ≤ (nums s).length ∧ (nums s).length ≤ 300 := by rw [HN.out]; omega
          clear R3 L4
          revert kc CR CG
          generalize Lib.bytesWorld w4 5 s = W
          generalize grownCap w4 s.size 0 5 = cp4
          intro kc CR CG
          have hsW : w.heap.size ≤ W.heap.size := by have := CG.out.size; omega
          have OW := Seg.hid (World.ownsRow.kept R4.out.own CG.out (.inr (by simp [Value.ownBlock])))
          go_wp2_with (at_builtin; refine app rfl _ _ rfl w.heap.size g cap xs (nums s) ?hs ?ho ⟨w4.heap.size, 0, none⟩ cp4 ?hx ?hn ?hm ?hb ?hba ?_; (case hs => rfl); (case ho => exact OW.out); (case hx => rw [HN.out]; rfl); (case hn => exact fun j hj => by rw [SqP.add_at, Nat.zero_add]; exact CR.out.cell j hj); (case hm => omega); (case hb => omega); (case hba => omega); intro g5 cap5 w5 o5 gr5 at5; have R5 := Seg.hid (R4.out.push HC.out CR.out.byt CG.out o5 gr5); clear o5 gr5 at5)
          go_roundw
          case rel => exact ⟨g5, cap5, xs ++ nums s, by simp only [List.length_append], by rw [List.length_append]; omega, R5.out⟩
          case measure => simp [lenOf]; omega
        · go_wp2_with fail
          refine (Draw.below_any b A n c 200 _ R2.out.lft.cur (by decide) (by decide)).mono ?_
          rintro e w3 ⟨⟨y0, hy1, hy2, rfl⟩, L3⟩
          obtain ⟨q, hq⟩ : ∃ q : Nat, 100 + y0 = (q : Int) := ⟨(100 + y0).toNat, by omega⟩
          have R3 := Seg.hid (R2.out.lft2 HC.out L3)
          have hq1 : 1 ≤ q ∧ q ≤ 300 := by omega
          clear R2 L3 hy1 hy2
          go_wp2_with fail
          refine (DrawB.bytes_any b A n c q _ R3.out.lft.cur (by omega)).mono ?_
          rintro e w4 ⟨⟨s, hs, rfl⟩, L4⟩
          have R4 := Seg.hid (R3.out.lft2 HC.out L4)
          have hsz : w.heap.size ≤ w4.heap.size := R4.out.lft.grown.size
          have kc := Lib.run_convert_string_bytes (P := Try.prog) w4 9 22 5 s Try.underlying9 Try.underlying22 Try.underlying5
          have CR := Seg.hid (conv_row w4 5 w.heap.size s hsz (by omega))
          have CG := Seg.hid (conv_grown w4 5 s)
          have HN := Seg.hid ((nums_len s).trans hs)
          have hn1 : 1 ≤ (nums s).length ∧ (nums s).length ≤ 300 := by rw [HN.out]; omega
          clear R3 L4
          revert kc CR CG
          generalize Lib.bytesWorld w4 5 s = W
          generalize grownCap w4 s.size 0 5 = cp4
          intro kc CR CG
          have hsW : w.heap.size ≤ W.heap.size := by have := CG.out.size; omega
          have OW := Seg.hid (World.ownsRow.kept R4.out.own CG.out (.inr (by simp [Value.ownBlock])))
          go_wp2_with (at_builtin; refine app rfl _ _ rfl w.heap.size g cap xs (nums s) ?hs ?ho ⟨w4.heap.size, 0, none⟩ cp4 ?hx ?hn ?hm ?hb ?hba ?_; (case hs => rfl); (case ho => exact OW.out); (case hx => rw [HN.out]; rfl); (case hn => exact fun j hj => by rw [SqP.add_at, Nat.zero_add]; exact CR.out.cell j hj); (case hm => omega); (case hb => omega); (case hba => omega); intro g5 cap5 w5 o5 gr5 at5; have R5 := Seg.hid (R4.out.push HC.out CR.out.byt CG.out o5 gr5); clear o5 gr5 at5)
          go_roundw
          case rel => exact ⟨g5, cap5, xs ++ nums s, by simp only [List.length_append], by rw [List.length_append]; omega, R5.out⟩
          case measure => simp [lenOf]; omega
    · go_wp2
      go_ret
      exact ⟨g, cap, xs, hxs, rfl, R.out⟩
end Go.Proofs.Ytbilpicolfpoaaa.DrawR
