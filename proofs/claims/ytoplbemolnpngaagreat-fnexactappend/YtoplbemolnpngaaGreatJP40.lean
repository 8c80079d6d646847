/- l1Plain of the model; What the model's l1Copy answers: the copy at a place; Squeeze of the model. -/
import Derived.Deep.RegionLaw
import Derived.RegionTactic
import Derived.Outline
import Derived.Deep.QuietTactic
import Derived.BigQuiet
import Derived.Laws.Rows
import Derived.Test.YtoplbemolnpngaaGreatRows
import Derived.Test.YtoplbemolnpngaaGreatJP14
import Derived.Test.YtoplbemolnpngaaGreatJP12
import Derived.Test.YtoplbemolnpngaaGreatJP18
namespace Go.Proofs.YtoplbemolnpngaaGreat.SqP
set_option maxRecDepth 8000
open Go.RowKit
open Seg (B)
set_option linter.unusedVariables false

theorem wrap_one {n : Int} (h1 : 1 ≤ n) (h2 : n ≤ 128) : IntKind.u8.wrap (IntKind.i64.wrap (n - 1)) = n - 1 := by
  rw [IntWalk.i64_in _ (by omega), IntWalk.u8_in _ (by omega)]
theorem grown_drew {wr w2 : World} {o : Obj} {g1 : Nat} (h : ((wr.alloc o).drew).grownBy w2 (some g1)) : wr.grownBy w2 (some g1) := (World.grownBy_alloc wr o (some g1)).trans (show (wr.alloc o).grownBy w2 (some g1) from ⟨h.os, h.tape, h.output, h.size, h.block⟩)
/-- append of bytes that lie somewhere to a row of one's own, in a region that draws its order. -/
theorem app_step {w : World} {ops : Array Oper} {o : Oper} {a : Act} {K : Act → World → Prop} {Q : Exit → Act → World → Prop} {E : Prop} (hgd : o.guard = none) (s x : Operand) (ho : o.op = .call { callee := .builtin .append, args := #[s, x], argTypes := #[78, 78] })
    (base g cap : Nat) (l news : List Int) (hs : a.eval s = .slice (some ⟨g, 0, none⟩) l.length cap) (hown : Out w base g cap l) (ad : Addr) (c : Nat) (hx : a.eval x = .slice (some ad) news.length c)
    (hnews : ∀ j, j < news.length → w.cell? (ad.add j) = some (.int .u8 (news.getD j 0))) (hm : 0 < news.length) (hb : l.length + news.length ≤ 10000000) (hbase : base ≤ w.heap.size)
    (h : ∀ g' cap' w', Out w' base g' cap' (l ++ news) → w.grownBy w' (some g) → (g' = g ∨ g' = w.heap.size) → K (a.put o.dst (.slice (some ⟨g', 0, none⟩) (l.length + news.length) cap')) w') : if Region.wanted o (yielded ops a.tmps) = true then Oper.wp Tryz.prog o a w K Q else E := by
  obtain ⟨i0, hi, hz0, hz1, hz2⟩ := info_parts infoB
  refine step_append_lies w hgd s x 78 ho base 5 i0 (.int .u8 0) 1 1 Tryz.underlying78 hi hz0 hz1 hz2 rfl (by decide) _ _ _ hs hown ad news.length c (B news) hx (by simp [B]) (fun j u hj => ?_) (by simp [B, Value.oneCell']) hm (by unfold maxLen; omega) (by omega) hbase w.heap.size rfl ?_
  · have hjl : j < news.length := by have := (List.getElem?_eq_some_iff.1 hj).1; simpa [B] using this
    rw [hnews j hjl]
    simpa [B, hjl] using hj
  · intro g' cap' w' h1 h2 h3 h4
    refine h g' cap' w' ?_ h2 (h3.imp (fun e => by simpa [Value.ownBlock] using e.symm) id)
    unfold Out
    rw [List.length_append, show B (l ++ news) = B l ++ B news by simp [B]]
    exact h1

set_option maxRecDepth 4000 in
set_option maxHeartbeats 1600000 in
theorem put_spec (g cap base gb o m cp : Nat) (l out : List Int) (w : World) (hl : l.length = m) (hm : m ≤ 60000) (hk2 : out.length ≤ 1000000) (hmc : m ≤ cp)
    (ho : Out w base g cap out) (hbase : base ≤ w.heap.size) (hgb : gb ≠ g) (hgl : gb < w.heap.size) (hcell : ∀ j, j < m → w.cell? ⟨gb, o + j, none⟩ = some (.int .u8 (l.getD j 0))) :
    Calls Tryz.prog 83 #[.slice (some ⟨g, 0, none⟩) out.length cap, .slice (some ⟨gb, o, none⟩) m cp] w fun e w' => ∃ g' cap', e = .returned (.slice (some ⟨g', 0, none⟩) (out ++ plain l).length cap') ∧
      Out w' base g' cap' (out ++ plain l) ∧ (g' = g ∨ w.heap.size ≤ g') ∧ w.grownBy w' (some g) := by
  have HC := Seg.hid hcell; have HO := Seg.hid ho; have HL := Seg.hid hl
  clear hcell ho hl
  go_enter Tryz.func83, Tryz.ntmps83
  go_wp2_with fail
  go_loopg [0, 1, 5] m (fun q v p _ wr => ∃ (i : Nat) (cur : List Int), q = m - i ∧ Put w wr g base gb o m l out i v p cur)
  case atStart => exact ⟨0, out, rfl, ⟨Nat.zero_le _, ⟨_, _, rfl, fun _ => ⟨rfl, hmc⟩⟩, ⟨g, cap, rfl, HO.out, .inl rfl⟩, rfl, World.grownBy.refl _ _⟩⟩
  case round =>
    obtain ⟨i, cur, hq, P⟩ := hrel
    have HQ := Seg.hid hq; have HP := Seg.hid P
    obtain ⟨A, c, rfl, hA⟩ := P.pl
    obtain ⟨g1, cap1, rfl, o1, hg1⟩ := P.ou
    have hle := P.le
    have HO1 := Seg.hid o1
    have hcl : cur.length ≤ 1120000 := by
      have h1 := congrArg List.length P.eq
      have h2 := plain_len l
      have h3 := HL.out
      simp only [List.length_append] at h1
      omega
    have hs1 := P.gr.size
    clear hq P o1
    by_cases hlt : i < m
    · obtain ⟨rfl, hmc1⟩ := hA hlt
      clear hA
      have f1 : (0 : Int) < ((m - i : Nat) : Int) := by omega
      by_cases h128 : m - i ≤ 128
      · skip
        have ST : Hid (∀ w1, wr.grownBy w1 (some g1) → ∀ j, j < (m - i) → w1.cell? ((⟨gb, o + i, none⟩ : Addr).add j) = some (.int .u8 (((l.drop i).take (m - i)).getD j 0))) := stay (by omega) HP.out.gr HC.out HL.out hgl hgb hg1
        have HN : Hid (((l.drop i).take (m - i)).length = (m - i)) := by have := HL.out; show ((l.drop i).take (m - i)).length = (m - i); simp; omega
        have NX : Hid (∀ g3 cap3 w3, Out w3 base g3 cap3 (cur ++ [(((m - i : Nat) : Int) - 1)] ++ (l.drop i).take (m - i)) → w.grownBy w3 (some g) → (g3 = g ∨ w.heap.size ≤ g3) → ∀ A' c', (i + (m - i) < m → A' = some ⟨gb, o + (i + (m - i)), none⟩ ∧ m - (i + (m - i)) ≤ c') → Put w w3 g base gb o m l out (i + (m - i)) (.slice (some ⟨g3, 0, none⟩) (cur ++ [(((m - i : Nat) : Int) - 1)] ++ (l.drop i).take (m - i)).length cap3) (.slice A' (m - (i + (m - i))) c') (cur ++ [(((m - i : Nat) : Int) - 1)] ++ (l.drop i).take (m - i))) := fun g3 cap3 w3 a1 a2 a3 A' c' a4 => Put.next HP.out hlt HL.out (by omega) (by omega) a1 a2 a3 a4
        have k5 : ((m - i : Nat) : Int) ≤ (c : Int) := by omega
        have k6 : (0 : Int) ≤ ((m - i : Nat) : Int) := by omega
        have hw : Hid (IntKind.u8.wrap (IntKind.i64.wrap (((m - i : Nat) : Int) - 1)) = ((m - i : Nat) : Int) - 1) := wrap_one (by omega) (by omega)
        go_wp2_with fail
        go_region_law (first | (refine app_step (by rfl) (.tmp 13) (.tmp 17) (by rfl) base g1 cap1 cur [(((m - i : Nat) : Int) - 1)] ?hs ?ho ⟨wr.heap.size, 0, none⟩ 1 ?hx ?hn ?hm ?hb ?hba ?_; (case hs => rfl); (case ho => exact World.ownsRow.alloc HO1.out _); (case hx => rfl); (case hn => rw [hw.out]; exact one_new wr _ _); (case hm => simp); (case hb => simp; omega); (case hba => simp; omega); intro g2 cap2 w2 o2 gr2 at2; have O2 := Seg.hid o2; have G2 : Hid (wr.grownBy w2 (some g1)) := grown_drew gr2; have A2 : Hid (g2 = g1 ∨ wr.heap.size ≤ g2) := at2.imp id (fun h => by rw [h]; simp); have z2 := G2.out.size; clear o2 gr2 at2) | (refine app_step (by rfl) (.tmp 18) (.tmp 21) (by rfl) base g2 cap2 (cur ++ [(((m - i : Nat) : Int) - 1)]) ((l.drop i).take (m - i)) ?hs ?ho ⟨gb, o + i, none⟩ c ?hx ?hn ?hm ?hb ?hba ?_; (case hs => rw [List.length_append]; rfl); (case ho => exact O2.out); (case hx => rw [HN.out]; rfl); (case hn => rw [HN.out]; exact ST.out w2 G2.out); (case hm => rw [HN.out]; omega); (case hb => rw [HN.out]; simp; omega); (case hba => omega); intro g3 cap3 w3 o3 gr3 at3; have O3 := Seg.hid o3; have G3 : Hid (w.grownBy w3 (some g)) := chain3 HP.out.gr G2.out gr3 hg1 A2.out; have A3 : Hid (g3 = g ∨ w.heap.size ≤ g3) := (by have a := A2.out; rcases at3 with rfl | rfl <;> omega : g3 = g ∨ w.heap.size ≤ g3); clear o3 gr3 at3))
        all_goals go_wp2
        all_goals
          go_roundg (m - (i + (m - i)))
          case measure => have := HQ.out; omega
          case rel =>
            refine ⟨i + (m - i), cur ++ [((m - i : Nat) : Int) - 1] ++ (l.drop i).take (m - i), rfl, ?_⟩
            have h := fun A' c' => NX.out g3 cap3 w3 O3.out G3.out A3.out A' c' (fun h => absurd h (by omega))
            have e1 : (cur ++ [((m - i : Nat) : Int) - 1] ++ (l.drop i).take (m - i)).length = cur.length + 1 + min (m - i) (l.length - i) := by simp; omega
            have e2 : m - (i + (m - i)) = 0 := by omega
            rw [e1, e2] at h
            exact h _ _
      · have f3 : ¬ ((m - i : Nat) : Int) ≤ 128 := by omega
        have ST : Hid (∀ w1, wr.grownBy w1 (some g1) → ∀ j, j < 128 → w1.cell? ((⟨gb, o + i, none⟩ : Addr).add j) = some (.int .u8 (((l.drop i).take 128).getD j 0))) := stay (by omega) HP.out.gr HC.out HL.out hgl hgb hg1
        have HN : Hid (((l.drop i).take 128).length = 128) := by have := HL.out; show ((l.drop i).take 128).length = 128; simp; omega
        have NX : Hid (∀ g3 cap3 w3, Out w3 base g3 cap3 (cur ++ [127] ++ (l.drop i).take 128) → w.grownBy w3 (some g) → (g3 = g ∨ w.heap.size ≤ g3) → ∀ A' c', (i + 128 < m → A' = some ⟨gb, o + (i + 128), none⟩ ∧ m - (i + 128) ≤ c') → Put w w3 g base gb o m l out (i + 128) (.slice (some ⟨g3, 0, none⟩) (cur ++ [127] ++ (l.drop i).take 128).length cap3) (.slice A' (m - (i + 128)) c') (cur ++ [127] ++ (l.drop i).take 128)) := fun g3 cap3 w3 a1 a2 a3 A' c' a4 => Put.next HP.out hlt HL.out (by omega) (by omega) a1 a2 a3 a4
        have k5 : (128 : Int) ≤ (c : Int) := by omega
        have k7 : 128 ≤ c := by omega
        have hw : Hid (IntKind.u8.wrap (IntKind.i64.wrap ((128 : Int) - 1)) = 127) := wrap_one (n := 128) (by omega) (by omega)
        have hw2 : Hid (IntKind.u8.wrap (IntKind.i64.wrap (127 : Int)) = 127) := wrap_one (n := 128) (by omega) (by omega)
        have hw3 : Hid (IntKind.u8.wrap (127 : Int) = 127) := IntWalk.u8_in _ (by omega)
        go_wp2_with fail
        go_region_law (first | (refine app_step (by rfl) (.tmp 13) (.tmp 17) (by rfl) base g1 cap1 cur [127] ?hs ?ho ⟨wr.heap.size, 0, none⟩ 1 ?hx ?hn ?hm ?hb ?hba ?_; (case hs => rfl); (case ho => exact World.ownsRow.alloc HO1.out _); (case hx => rfl); (case hn => first | exact one_new wr 127 _ | (rw [hw.out]; exact one_new wr 127 _) | (rw [hw2.out]; exact one_new wr 127 _) | (rw [hw3.out]; exact one_new wr 127 _)); (case hm => simp); (case hb => simp; omega); (case hba => simp; omega); intro g2 cap2 w2 o2 gr2 at2; have O2 := Seg.hid o2; have G2 : Hid (wr.grownBy w2 (some g1)) := grown_drew gr2; have A2 : Hid (g2 = g1 ∨ wr.heap.size ≤ g2) := at2.imp id (fun h => by rw [h]; simp); have z2 := G2.out.size; clear o2 gr2 at2) | (refine app_step (by rfl) (.tmp 18) (.tmp 21) (by rfl) base g2 cap2 (cur ++ [127]) ((l.drop i).take 128) ?hs ?ho ⟨gb, o + i, none⟩ c ?hx ?hn ?hm ?hb ?hba ?_; (case hs => rw [List.length_append]; rfl); (case ho => exact O2.out); (case hx => rw [HN.out]; rfl); (case hn => rw [HN.out]; exact ST.out w2 G2.out); (case hm => rw [HN.out]; omega); (case hb => rw [HN.out]; simp; omega); (case hba => omega); intro g3 cap3 w3 o3 gr3 at3; have O3 := Seg.hid o3; have G3 : Hid (w.grownBy w3 (some g)) := chain3 HP.out.gr G2.out gr3 hg1 A2.out; have A3 : Hid (g3 = g ∨ w.heap.size ≤ g3) := (by have a := A2.out; rcases at3 with rfl | rfl <;> omega : g3 = g ∨ w.heap.size ≤ g3); clear o3 gr3 at3))
        all_goals go_wp2
        all_goals
          go_roundg (m - (i + 128))
          case measure => have := HQ.out; omega
          case rel =>
            refine ⟨i + 128, cur ++ [127] ++ (l.drop i).take 128, rfl, ?_⟩
            have h := NX.out g3 cap3 w3 O3.out G3.out A3.out (some ⟨gb, o + i + 128, none⟩) (c - 128) (fun h => ⟨by rw [Nat.add_assoc], by omega⟩)
            have e1 : (cur ++ [127] ++ (l.drop i).take 128).length = cur.length + 1 + min 128 (l.length - i) := by simp; omega
            have e2 : m - (i + 128) = m - i - 128 := by omega
            rw [e1, e2] at h
            exact h
    · obtain rfl : i = m := by omega
      have hz : i - i = 0 := by omega
      have heq : cur = out ++ plain l := by
        have := HP.out.eq
        rw [plain_nil (l := l.drop i) (by have := HL.out; simp; omega), List.append_nil] at this
        exact this
      have HE := Seg.hid heq
      have HG := Seg.hid HP.out.gr
      clear heq HP hA
      simp only [hz]
      go_wp2
      go_ret
      exact ⟨g1, cap1, by rw [← HE.out]; rfl, HE.out ▸ HO1.out, hg1, HG.out⟩
end Go.Proofs.YtoplbemolnpngaaGreat.SqP
namespace Go.Proofs.YtoplbemolnpngaaGreat.SqC
set_option maxRecDepth 8000
open Go.RowKit
open SqM
set_option linter.unusedVariables false

set_option maxRecDepth 30000 in
set_option maxHeartbeats 4000000 in
theorem copy_any (g o c at_ : Nat) (l : List Int) (w : World) (hl : l.length ≤ 60000) (hc : l.length ≤ c) (hat : at_ < l.length)
    (ha : ∀ i, i < l.length → w.cell? ⟨g, o + i, none⟩ = some (.int .u8 (l.getD i 0))) :
    Calls Tryz.prog 82 #[.slice (some ⟨g, o, none⟩) l.length c, .int .i64 at_] w fun e w' => e = .returned (.tuple #[.int .i64 (cp l at_).1, .int .i64 (cp l at_).2]) ∧ ∃ n, w' = w.drewN n := by
  have HA := Seg.hid ha
  clear ha
  go_enter Tryz.func82, Tryz.ntmps82
  go_wp2
  go_loopw [6, 7, 8, 9] (fun x y z _ wr => ∃ D L e k : Nat, x = .int .i64 L ∧ y = .int .i64 e ∧ z = .int .i64 ((D : Int) + 1) ∧ D ≤ 4096 ∧ D ≤ at_ ∧ wr = w.drewN k ∧ Hid (Best l at_ D L e)) (fun _ _ z _ _ => at_ + 1 - (intOf z).toNat)
  case atStart => exact ⟨0, 0, 0, 0, rfl, rfl, rfl, by omega, by omega, rfl, Best.start l at_⟩
  case round =>
    obtain ⟨D, L, e, k, rfl, rfl, rfl, hD, hD2, rfl, HB⟩ := hrel
    by_cases hend : D + 1 ≤ 4096 ∧ D + 1 ≤ at_
    · obtain ⟨e1, e2⟩ := hend
      have f1 : (D : Int) + 1 ≤ 4096 := by omega
      have f2 : (D : Int) + 1 ≤ (at_ : Int) := by omega
      go_wp2
      go_loopw [9] (fun x wr => ∃ n q : Nat, x = .int .i64 n ∧ n ≤ 67 ∧ at_ + n ≤ l.length ∧ wr = w.drewN q ∧ Hid (∀ j, j < n → l.getD (at_ + j) 0 = l.getD (at_ + j - (D + 1)) 0)) (fun x _ => 67 - (intOf x).toNat)
      case atStart => exact ⟨0, k, rfl, by omega, by omega, rfl, fun j hj => absurd hj (by omega)⟩
      case round =>
        obtain ⟨n, q, rfl, hn, hn2, rfl, HN⟩ := hrel
        by_cases hn67 : n < 67
        · have f3 : (n : Int) < 67 := by omega
          by_cases hlen : at_ + n < l.length
          · have f4 : (at_ : Int) + (n : Int) < (l.length : Int) := by omega
            have f5 : (0 : Int) ≤ (at_ : Int) + (n : Int) := by omega
            have f6 : (0 : Int) ≤ (at_ : Int) + (n : Int) - ((D : Int) + 1) := by omega
            have f7 : (at_ : Int) + (n : Int) - ((D : Int) + 1) < (l.length : Int) := by omega
            have t1 : ((at_ : Int) + (n : Int)).toNat = at_ + n := by omega
            have t2 : ((at_ : Int) + (n : Int) - ((D : Int) + 1)).toNat = at_ + n - (D + 1) := by omega
            have c1 := HA.out (at_ + n) hlen
            have c2 := HA.out (at_ + n - (D + 1)) (by omega)
            generalize hx : l.getD (at_ + n) 0 = x at c1
            generalize hy : l.getD (at_ + n - (D + 1)) 0 = y at c2
            have HX := Seg.hid hx
            have HY := Seg.hid hy
            clear hx hy
            cases hsame : (x == y) with
            | true =>
              have HE : Hid (l.getD (at_ + n) 0 = l.getD (at_ + n - (D + 1)) 0) := by
                show l.getD (at_ + n) 0 = l.getD (at_ + n - (D + 1)) 0
                rw [HX.out, HY.out]
                simpa using hsame
              go_wp2
              go_quiet (fail)
              go_wp2
              go_roundw
              case rel =>
                refine ⟨n + 1, _, by go_num, by omega, by omega, rfl, fun j hj => ?_⟩
                by_cases he : j = n
                · subst he; exact HE.out
                · exact HN.out j (by omega)
              case measure => simp [intOf]; omega
            | false =>
              have HR : Hid (n = rn l at_ (D + 1)) := rn_is (by omega) (by omega) HN.out (fun _ _ => by rw [HX.out, HY.out]; simpa using hsame)
              by_cases hbet : (L : Int) < (n : Int)
              · have HZ := Seg.hid (HB.out.better (by rw [← HR.out]; omega))
                rw [← HR.out] at HZ
                go_wp2
                go_quiet (fail)
                go_wp2
                go_roundw
                case rel => exact ⟨D + 1, n, D + 1, _, rfl, by go_num, by go_num, by omega, by omega, rfl, HZ.out⟩
                case measure => simp [intOf]; omega
              · have HZ := Seg.hid (HB.out.worse (by rw [← HR.out]; omega))
                go_wp2
                go_quiet (fail)
                go_wp2
                go_roundw
                case rel => exact ⟨D + 1, L, e, _, rfl, rfl, by go_num, by omega, by omega, rfl, HZ.out⟩
                case measure => simp [intOf]; omega
          · have f4 : decide ((at_ : Int) + (n : Int) < (l.length : Int)) = false := by simp; omega
            have HR : Hid (n = rn l at_ (D + 1)) := rn_is (by omega) (by omega) HN.out (fun _ h => absurd h (by omega))
            by_cases hbet : (L : Int) < (n : Int)
            · have HZ := Seg.hid (HB.out.better (by rw [← HR.out]; omega))
              rw [← HR.out] at HZ
              go_wp2
              go_quiet (fail)
              go_wp2
              go_roundw
              case rel => exact ⟨D + 1, n, D + 1, _, rfl, by go_num, by go_num, by omega, by omega, rfl, HZ.out⟩
              case measure => simp [intOf]; omega
            · have HZ := Seg.hid (HB.out.worse (by rw [← HR.out]; omega))
              go_wp2
              go_quiet (fail)
              go_wp2
              go_roundw
              case rel => exact ⟨D + 1, L, e, _, rfl, rfl, by go_num, by omega, by omega, rfl, HZ.out⟩
              case measure => simp [intOf]; omega
        · obtain rfl : n = 67 := by omega
          have f3 : decide (((67 : Nat) : Int) < 67) = false := by simp
          have HR : Hid (67 = rn l at_ (D + 1)) := rn_is (by omega) (by omega) HN.out (fun h => absurd h (by omega))
          by_cases hbet : (L : Int) < (67 : Int)
          · have HZ := Seg.hid (HB.out.better (by rw [← HR.out]; omega))
            rw [← HR.out] at HZ
            go_wp2
            go_quiet (fail)
            go_wp2
            go_roundw
            case rel => exact ⟨D + 1, 67, D + 1, _, rfl, by go_num, by go_num, by omega, by omega, rfl, HZ.out⟩
            case measure => simp [intOf]; omega
          · have HZ := Seg.hid (HB.out.worse (by rw [← HR.out]; omega))
            go_wp2
            go_quiet (fail)
            go_wp2
            go_roundw
            case rel => exact ⟨D + 1, L, e, _, rfl, rfl, by go_num, by omega, by omega, rfl, HZ.out⟩
            case measure => simp [intOf]; omega
    · have hDm : D = min 4096 at_ := by omega
      have HC : Hid (cp l at_ = if L < 4 then (0, 0) else (L, e)) := cp_of_best (hDm ▸ HB.out)
      clear hDm HB
      by_cases h4 : (L : Int) < 4
      · by_cases e1 : D + 1 ≤ 4096
        · have f1 : (D : Int) + 1 ≤ 4096 := by omega
          have f2 : ¬ (D : Int) + 1 ≤ (at_ : Int) := by omega
          clear hend e1 hD hD2
          go_wp2
          go_ret2
          exact ⟨by rw [HC.out, if_pos (by omega)]; rfl, k, rfl⟩
        · have f1 : ¬ (D : Int) + 1 ≤ 4096 := by omega
          clear hend e1 hD hD2
          go_wp2
          go_ret2
          exact ⟨by rw [HC.out, if_pos (by omega)]; rfl, k, rfl⟩
      · by_cases e1 : D + 1 ≤ 4096
        · have f1 : (D : Int) + 1 ≤ 4096 := by omega
          have f2 : ¬ (D : Int) + 1 ≤ (at_ : Int) := by omega
          clear hend e1 hD hD2
          go_wp2
          go_ret2
          exact ⟨by rw [HC.out, if_neg (by omega)]; rfl, k, rfl⟩
        · have f1 : ¬ (D : Int) + 1 ≤ 4096 := by omega
          clear hend e1 hD hD2
          go_wp2
          go_ret2
          exact ⟨by rw [HC.out, if_neg (by omega)]; rfl, k, rfl⟩
end Go.Proofs.YtoplbemolnpngaaGreat.SqC
namespace Go.Proofs.YtoplbemolnpngaaGreat.SqS
set_option maxRecDepth 8000
open Go.RowKit
open SqP (Out plain app put_spec)
open SqM (cp)
open SqF (Sq sq mark3)
set_option linter.unusedVariables false
set_option maxRecDepth 4000 in
set_option maxHeartbeats 1600000 in
theorem spec_in (g o c : Nat) (l : List Int) (w : World) (hl : l.length ≤ 60000) (hc : l.length ≤ c) (hg : g < w.heap.size)
    (ha : ∀ i, i < l.length → w.cell? ⟨g, o + i, none⟩ = some (.int .u8 (l.getD i 0))) :
    Calls Tryz.prog 61 #[.slice (some ⟨g, o, none⟩) l.length c] w fun e w' => ∃ g' cap', e = .returned (.slice (some ⟨g', 0, none⟩) (sq l 0 0 []).length cap') ∧ Out w' w.heap.size g' cap' (sq l 0 0 []) ∧ Below w.heap.size w w' := by
  have HA := Seg.hid ha
  clear ha
  go_enter Tryz.func61, Tryz.ntmps61
  go_wp2_with fail
  go_loopw [3, 4, 5, 6, 7] (fun vo vp i _ _ wr => ∃ (at_ p : Nat) (out : List Int), i = .int .i64 at_ ∧ At w wr l at_ p out vo vp) (fun _ _ i _ _ _ => l.length - (intOf i).toNat)
  case atStart =>
    refine ⟨0, 0, [], rfl, Sq.start l, ⟨w.heap.size, 0, w.heap.size + 1, 0, rfl, rfl, ?_, ?_, by omega⟩, ((Below.refl _ _).alloc (Nat.le_refl _) _).alloc (by simp) _⟩
    · exact World.ownsRow.alloc (World.ownsRow_lit w #[] 0 (Nat.le_refl _) (Nat.zero_le _) rfl) _
    · have := none_new (w.alloc (.cells #[] 5)) w.heap.size (by simp)
      simpa using this
  case round =>
    obtain ⟨at_, p, out, rfl, AT⟩ := hrel
    obtain ⟨go_, cap, gp, capp, rfl, rfl, o1, o2, hne⟩ := AT.mem
    have HF := Seg.hid AT.far; have HO := Seg.hid o1; have HP := Seg.hid o2; have HB := Seg.hid AT.bel
    clear AT o1 o2
    by_cases hlt : at_ < l.length
    · have i0 : (0 : Int) ≤ (at_ : Int) := by omega
      have i1 : (at_ : Int) < (l.length : Int) := by omega
      have CE : Hid (∀ i, i < l.length → wr.cell? ⟨g, o + i, none⟩ = some (.int .u8 (l.getD i 0))) := fun i hi => by rw [HB.out.cell (p := ⟨g, o + i, none⟩) hg]; exact HA.out i hi
      go_wp2_with fail
      refine (SqC.copy_any g o c at_ l wr hl hc hlt CE.out).mono ?_
      rintro e w1 ⟨rfl, q, rfl⟩
      have hcp := SqM.cp_le l at_
      have HCP := Seg.hid hcp
      clear hcp
      by_cases hz : (cp l at_).1 = 0
      · have HZ := Seg.hid hz
        have ca := CE.out at_ hlt
        generalize hx : l.getD at_ 0 = x at ca
        have HX := Seg.hid hx
        clear hx
        rw [hz]
        have hs0 := HB.out.size
        have hpl : at_ - p ≤ 60000 := by omega
        go_wp2_with (at_builtin; refine app rfl (.tmp 26) (.tmp 31) rfl w.heap.size gp capp ((l.drop p).take (at_ - p)) [x] ?hs ?ho ⟨wr.heap.size, 0, none⟩ 1 ?hx ?hn ?hm ?hb ?hba ?_; (case hs => rw [plain_len HF.out]; rfl); (case ho => exact World.ownsRow.alloc HP.out _); (case hx => rfl); (case hn => exact SqP.one_new (wr.drewN q) _ _); (case hm => simp); (case hb => rw [plain_len HF.out]; simp; omega); (case hba => simp; omega); intro g2 cap2 w2 o2 gr2 at2; have N2 : Hid (At w w2 l (at_ + 1) p out (.slice (some ⟨go_, 0, none⟩) out.length cap) (.slice (some ⟨g2, 0, none⟩) (at_ - p + 1) cap2)) := At.next HF.out hlt HZ.out HX.out HB.out HO.out HP.out hne o2 gr2 at2; rw [plain_len HF.out]; clear o2 gr2 at2)
        go_roundw
        case rel => exact ⟨at_ + 1, p, out, by go_num, N2.out⟩
        case measure => simp [intOf]; omega
      · have HZ := Seg.hid hz
        have hs0 := HB.out.size
        have hpl : at_ - p ≤ 60000 := by omega
        have hol : out.length ≤ 120000 := by have h1 := HF.out.ol; have h2 := HF.out.pa; have h3 := HF.out.al; omega
        have hcc : at_ - p ≤ capp := by have := Seg.owns_cap HP.out; have h2 := plain_len HF.out; omega
        have hzz : (((cp l at_).1 : Int) == 0) = false := by simp; omega
        go_wp2_with fail
        refine (put_spec go_ cap w.heap.size gp 0 (at_ - p) capp ((l.drop p).take (at_ - p)) out (wr.drewN q) (plain_len HF.out) hpl (by omega) hcc HO.out hs0 hne (Out.lt HP.out).2 (fun j hj => Out.cell HP.out j (by rw [plain_len HF.out]; exact hj))).mono ?_
        rintro e w2 ⟨g2, cap2, rfl, o2, a2, gr2⟩
        have O2 := Seg.hid o2; have A2 := Seg.hid a2; have G2 := Seg.hid gr2
        clear o2 a2 gr2
        generalize hL : (cp l at_).1 = L at *
        generalize hD : (cp l at_).2 = d at *
        have HL := Seg.hid hL; have HD := Seg.hid hD
        clear hL hD
        obtain ⟨q1, q2, q3⟩ := HCP.out
        have b1 : 4 ≤ L ∧ L ≤ 67 ∧ 1 ≤ d ∧ d ≤ 4096 := by omega
        obtain ⟨b1, b2, b3, b4⟩ := b1
        clear q1 q2 q3
        have hpn : (plain ((l.drop p).take (at_ - p))).length ≤ 120000 := by have h1 := SqP.plain_len ((l.drop p).take (at_ - p)); rw [plain_len HF.out] at h1; omega
        have hs2 := G2.out.size
        have hs2' : w.heap.size ≤ w2.heap.size := Nat.le_trans hs0 hs2
        go_wp2_with (at_builtin; refine app rfl (.tmp 39) (.tmp 51) rfl w.heap.size g2 cap2 (out ++ plain ((l.drop p).take (at_ - p))) (marks L d) ?hs ?ho ⟨w2.heap.size + 1, 0, none⟩ 3 ?hx ?hn ?hm ?hb ?hba ?_; (case hs => rw [List.length_append]; rfl); (case ho => exact World.ownsRow.alloc (World.ownsRow.alloc O2.out _) _); (case hx => rfl); (case hn => exact marks_new (w2.alloc (.cells #[] 5)) (w2.heap.size + 1) L d _ (by simp)); (case hm => simp [marks]); (case hb => simp [marks]; omega); (case hba => simp; omega); intro g3 cap3 w3 o3 gr3 at3; have N3 := Seg.hid (At.copied HF.out hlt HL.out HD.out HZ.out b3 HB.out HO.out O2.out A2.out G2.out o3 gr3 at3); clear o3 gr3 at3)
        go_roundw
        case rel =>
          refine ⟨at_ + L, at_ + L, out ++ plain ((l.drop p).take (at_ - p)) ++ marks L d, by go_num, ?_⟩
          have h := N3.out
          simp only [List.length_append] at h
          exact h
        case measure => simp [intOf]; omega
    · have HE := Seg.hid (HF.out.ends hlt)
      have hpa := HF.out.pa
      have hal := HF.out.al
      have hol := HF.out.ol
      have hs0 := HB.out.size
      have hcc : at_ - p ≤ capp := by have := Seg.owns_cap HP.out; have h2 := plain_len HF.out; omega
      have hdr : (l.drop p).take (at_ - p) = l.drop p := List.take_of_length_le (by simp; omega)
      have HDR := Seg.hid hdr
      clear hdr
      go_wp2_with fail
      refine (put_spec go_ cap w.heap.size gp 0 (at_ - p) capp ((l.drop p).take (at_ - p)) out wr (plain_len HF.out) (by omega) (by omega) hcc HO.out hs0 hne (Out.lt HP.out).2 (fun j hj => Out.cell HP.out j (by rw [plain_len HF.out]; exact hj))).mono ?_
      rintro e w2 ⟨g2, cap2, rfl, o2, a2, gr2⟩
      rw [HDR.out, ← HE.out] at o2
      rw [HDR.out, ← HE.out]
      have O2 := Seg.hid o2
      have B2 := Seg.hid (HB.out.grown gr2 HB.out.size (fun k hk => by have := (Out.lt HO.out).1; simp at hk; omega))
      clear o2 a2 gr2
      go_wp2
      go_ret
      exact ⟨g2, cap2, rfl, O2.out, B2.out⟩

set_option maxHeartbeats 400000 in
theorem spec_out (A : Option Addr) (n c : Nat) (w : World) (hn : 60000 < n) :
    Calls Tryz.prog 61 #[.slice A n c] w fun e w' => ∃ g' cap', e = .returned (.slice (some ⟨g', 0, none⟩) 0 cap') ∧ Out w' w.heap.size g' cap' [] ∧ Below w.heap.size w w' := by
  go_enter Tryz.func61, Tryz.ntmps61
  go_wp2
  go_ret
  exact ⟨w.heap.size, 0, rfl, none_new w _ (Nat.le_refl _), (Below.refl _ _).alloc (Nat.le_refl _) _⟩
end Go.Proofs.YtoplbemolnpngaaGreat.SqS
